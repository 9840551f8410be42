/-
  Package seal: Seals of a nil machine; the laws' SameOrder of equal orders.
-/
import Derived.Test.YtfokmldfnkonpaaSmF
namespace Go.Proofs.Ytfokmldfnkonpaa
open Go.RowKit Go.Maps

theorem sealsS_nil (w : World) : Calls Try.prog 25 #[.pointer none] w fun e w' => e = .returned (.slice none 0 0) ∧ w' = w := by
  have HC := hid (ordersS_nil w)
  go_enter Try.func25, Try.ntmps25
  go_wp2_with fail
  refine HC.out.mono ?_
  rintro e w' ⟨rfl, rfl⟩
  go_wp2
  go_loop [3, 9] (fun out i => out = .slice none 0 0 ∧ i = .int .i64 0) (fun _ _ => 0)
  case atStart => exact ⟨rfl, rfl⟩
  case round =>
    obtain ⟨rfl, rfl⟩ := hrel
    go_wp2
    go_ret
    exact ⟨rfl, rfl⟩
set_option maxRecDepth 1000000 in
set_option maxHeartbeats 2000000 in
theorem sameOrder_any (w : World) (i : Int) (tk ct : ByteArray) (ep : Int) (dp : List Int) (ao bo : Option Addr) (ca cb XN : Nat) (hn : dp.length = XN) (ha : HV w ao ca dp) (hb : HV w bo cb dp) : Calls Try.prog 12 #[.agg #[.int .i64 i, .string tk, .string ct, .int .i64 ep, .slice ao XN ca], .agg #[.int .i64 i, .string tk, .string ct, .int .i64 ep, .slice bo XN cb]] w fun e w' => e = .returned (.bool true) ∧ Below w.heap.size w w' := by
  obtain ⟨W, hW⟩ : ∃ W, W = (w.alloc (.cells #[.int .i64 i, .string tk, .string ct, .int .i64 ep, .slice ao XN ca] 32)).alloc (.cells #[.int .i64 i, .string tk, .string ct, .int .i64 ep, .slice bo XN cb] 32) := ⟨_, rfl⟩
  have HB : Hid (Below w.heap.size w W) := by rw [hW]; exact ((Below.refl _ _).alloc (Nat.le_refl _) _).alloc (by simp) _
  have HS := hid (same_any W ao bo ca cb dp dp XN XN hn hn (ha.below HB.out) (hb.below HB.out))
  rw [decide_eq_true rfl] at HS
  have HW := hid hW
  have h1 : (i == i) = true := by simp
  have h2 : (ep == ep) = true := by simp
  clear ha hb hW hn
  go_enter Try.func12, Try.ntmps12
  go_wp2_with fail
  rw [← HW.out]
  refine HS.out.mono ?_
  rintro e w' ⟨rfl, q, rfl⟩
  go_wp2
  go_ret
  exact ⟨rfl, below_dn HB.out q⟩
end Go.Proofs.Ytfokmldfnkonpaa
