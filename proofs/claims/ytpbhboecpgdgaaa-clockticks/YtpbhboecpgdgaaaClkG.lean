/-
  pannierlaw05.lives is true of this program; pannierlaw05.ClockNobody answers true at every input.
-/
import Derived.Test.YtpbhboecpgdgaaaClkF
namespace Go.Proofs.Ytpbhboecpgdgaaa
open Go.RowKit Go.Maps

theorem HeldInt.new (w : World) (xs : List Int) (hx : ∀ x ∈ xs, -9223372036854775808 ≤ x ∧ x ≤ 9223372036854775807) : HeldInt (w.alloc (.cells (ints xs).toArray 3)) (some ⟨w.heap.size, 0, none⟩) xs := by
  refine ⟨hx, .inr ⟨_, 0, rfl, by simp, fun j hj => ?_⟩⟩
  refine (Blk.new w 3 (ints xs)).cell (i := 0 + j) ?_
  simp [ints, List.getD, List.getElem?_eq_getElem hj]
theorem need_lives : needOf 1000 0 [900, 1100] = 100 := by decide
theorem trust_lives : trustOf 1100 100 = 900 := by decide

set_option maxRecDepth 100000 in
set_option maxHeartbeats 1000000 in
theorem lives_any (w : World) : Calls Try.prog 10 #[] w fun e w' => e = .returned (.bool true) ∧ Below w.heap.size w w' := by
  go_enter Try.func10, Try.ntmps10
  go_wp2_with fail
  refine (new_good w 2 (by decide)).mono ?_
  rintro e w1 ⟨rfl, hc, hb⟩
  have HC := hid hc
  have HB := hid hb
  have hp := HC.out.lt.1
  clear hc hb
  go_wp2_with fail
  refine (tick_good (now := [0, 0]) (on := [900, 1100]) (HC.out.below ((Below.refl _ _).alloc (Nat.le_refl _) _) (Nat.le_refl _)) _ _ _ (HeldInt.new w1 [900, 1100] (by simp)) ?_ (by simp [Right]) rfl (by unfold Room; decide)).mono ?_
  · intro b off hbo _ hf
    cases hbo
    rcases hf with h | h <;> omega
  rintro e w2 ⟨rfl, h2, ht2⟩
  rw [need_lives] at h2
  have H2 := hid h2
  have HB2 : Hid (Below w.heap.size w w2) := (HB.out.alloc (by omega) _).trans (ht2.below (fun i hi => by rcases hi with h | h <;> omega) (by simp; omega))
  clear h2 ht2
  go_wp2_with fail
  refine (now_any H2.out 1).mono ?_
  rintro e w' ⟨rfl, rfl⟩
  have hn : nowOf (List.zipWith (· + ·) [0, 0] [900, 1100]) 1 = 1100 := by decide
  rw [hn]
  clear hn
  go_wp2_with fail
  refine (time_any H2.out).mono ?_
  rintro e w' ⟨rfl, rfl⟩
  go_wp2_with fail
  refine (keepsC_any H2.out 100).mono ?_
  rintro e w' ⟨rfl, rfl⟩
  have hn : decide (((0 : Int) ≤ 100 ∧ (100 : Int) ≤ 999) ∧ max (0 : Int) 100 ≤ 100) = true := by decide
  rw [hn]
  clear hn
  go_wp2_with fail
  refine (keepsC_any H2.out 99).mono ?_
  rintro e w' ⟨rfl, rfl⟩
  have hn : decide (((0 : Int) ≤ 99 ∧ (99 : Int) ≤ 999) ∧ max (0 : Int) 100 ≤ 99) = false := by decide
  rw [hn]
  clear hn
  go_wp2_with fail
  refine (trust_any _ 1100 100).mono ?_
  rintro e w' ⟨rfl, rfl⟩
  rw [trust_lives]
  go_wp2
  go_ret
  exact ⟨rfl, HB2.out⟩

set_option maxRecDepth 100000 in
theorem clockNobody_walk (n : Int) (ao : Option Addr) (cap : Nat) (xs : List Int) (w : World) (_ : -9223372036854775808 ≤ n ∧ n ≤ 9223372036854775807) (_ : HeldInt w ao xs) (_ : xs.length ≤ 140737488355328) :
    Calls Try.prog 6 #[.int .i64 n, .slice ao xs.length cap] w fun e w' => e = .returned (.bool true) ∧ Below w.heap.size w w' := by
  go_enter Try.func6, Try.ntmps6
  go_wp2_with fail
  refine (lives_any _).mono ?_
  rintro e w1 ⟨rfl, hb⟩
  have HB := hid hb
  clear hb
  go_wp2_with fail
  refine (tick_nil _ _ _).mono ?_
  rintro e w' ⟨rfl, rfl⟩
  go_wp2_with fail
  refine (now_nil _ _).mono ?_
  rintro e w' ⟨rfl, rfl⟩
  go_wp2_with fail
  refine (time_nil _).mono ?_
  rintro e w' ⟨rfl, rfl⟩
  go_wp2_with fail
  refine (keepsC_nil _ _).mono ?_
  rintro e w' ⟨rfl, rfl⟩
  go_wp2_with fail
  refine (fork_nil _).mono ?_
  rintro e w' ⟨rfl, rfl⟩
  go_wp2
  go_ret
  exact ⟨rfl, HB.out⟩
end Go.Proofs.Ytpbhboecpgdgaaa
