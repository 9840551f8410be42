/-
  pannierlaw02.sameTexts answers true of two slices that hold the same strings; it writes nothing.
-/
import Derived.Test.YtmokelmeihmeiabDoorFJoin
namespace Go.Proofs.YtmokelmeihmeiabDoor
open Go.RowKit

theorem ret_bool' {a b : Bool} (h : a = b) : Ending.returned (.bool a) = .returned (.bool b) := by rw [h]
theorem drewN_more (w : World) (a b : Nat) : (w.drewN a).drewN b = w.drewN (a + b) := by
  first | exact World.drewN_drewN _ _ _ | simp [Nat.add_comm] | simp

theorem sameTexts_full (a b offa offb n capa capb : Nat) (ls : List ByteArray) (w : World) (hp : 0 < n) (hmax : n ≤ 9223372036854775807)
    (hca : ∀ j, j < n → w.cell? ⟨a, offa + j, none⟩ = some (.string (ls.getD j ByteArray.empty))) (hcb : ∀ j, j < n → w.cell? ⟨b, offb + j, none⟩ = some (.string (ls.getD j ByteArray.empty))) :
    Calls Tryd.prog 13 #[.slice (some ⟨a, offa, none⟩) n capa, .slice (some ⟨b, offb, none⟩) n capb] w fun e w' => e = .returned (.bool true) ∧ ∃ q, w' = w.drewN q := by
  go_enter Tryd.func13, Tryd.ntmps13
  go_wp2
  go_loopw [5] (fun i wr => ∃ k : Nat, k ≤ n ∧ i = .int .i64 k ∧ ∃ q, wr = w.drewN q) (fun i _ => n - (intOf i).toNat)
  case atStart => exact ⟨0, by omega, rfl, 0, rfl⟩
  case round =>
    obtain ⟨k, hk, rfl, q, rfl⟩ := hrel
    by_cases hkn : k < n
    · obtain ⟨c, HC⟩ : ∃ c, Hid (c = ls.getD k ByteArray.empty) := ⟨_, rfl⟩
      have hc1 : w.cell? ⟨a, offa + k, none⟩ = some (.string c) := by rw [HC.out]; exact hca k hkn
      have hc2 : w.cell? ⟨b, offb + k, none⟩ = some (.string c) := by rw [HC.out]; exact hcb k hkn
      have hk0 : (0 : Int) ≤ (k : Int) := by omega
      have hkI : (k : Int) < (n : Int) := by omega
      clear hca hcb
      go_wp2
      go_quiet (fail)
      go_wp2
      go_roundw
      case rel => exact ⟨k + 1, by omega, by go_num, _, rfl⟩
      case measure => simp [intOf]; omega
    · clear hca hcb
      go_wp2
      go_ret
      exact ⟨rfl, _, rfl⟩

theorem sameTexts_zero (ao bo : Option Addr) (capa capb : Nat) (w : World) :
    Calls Tryd.prog 13 #[.slice ao 0 capa, .slice bo 0 capb] w fun e w' => e = .returned (.bool true) ∧ ∃ q, w' = w.drewN q := by
  go_enter Tryd.func13, Tryd.ntmps13
  go_wp2
  refine wp_loop_rounds 1 ?_
  rw [rounds_succ]
  go_wp2
  go_ret
  exact ⟨rfl, 0, rfl⟩

theorem sameTexts_eq (ao bo : Option Addr) (n m capa capb : Nat) (ls : List ByteArray) (w : World) (hx : HeldS w ao n capa ls) (hy : HeldS w bo m capb ls) :
    Calls Tryd.prog 13 #[.slice ao n capa, .slice bo m capb] w fun e w' => e = .returned (.bool true) ∧ ∃ q, w' = w.drewN q := by
  have hnm : n = m := by rw [← hx.hlen, ← hy.hlen]
  subst hnm
  by_cases hp : 0 < n
  · obtain ⟨a, offa, rfl, _, hca⟩ := hx.at hp
    obtain ⟨b, offb, rfl, _, hcb⟩ := hy.at hp
    exact sameTexts_full a b offa offb n capa capb ls w hp (by have := hx.hmax; have := hx.hcap; unfold maxLen at *; omega) hca hcb
  · obtain rfl : n = 0 := by omega
    exact sameTexts_zero ao bo capa capb w
end Go.Proofs.YtmokelmeihmeiabDoor
