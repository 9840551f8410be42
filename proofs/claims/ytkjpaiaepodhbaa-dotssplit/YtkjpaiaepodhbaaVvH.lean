/-
  pannierlaw08.lives is true of this program.
-/
import Derived.Test.YtkjpaiaepodhbaaVvG
namespace Go.Proofs.Ytkjpaiaepodhbaa
open Go.RowKit Go.Maps

theorem hv_new (w : World) (xs : List Int) (hx : ∀ x ∈ xs, -9223372036854775808 ≤ x ∧ x ≤ 9223372036854775807) (hl : xs.length ≤ 17592186044416) : HV (w.alloc (.cells (ints xs).toArray 3)) (some ⟨w.heap.size, 0, none⟩) xs.length xs := ⟨HeldInt.new w xs hx, Nat.le_refl _, hl⟩
theorem lv_merge : mergeOf [1, 0, 2] [0, 3] = [1, 3, 2] := by decide
theorem lv_cmp : cmpOf [1, 0, 2] [0, 3] = 2 := by decide
theorem lv_has1 : decide (HasV [1, 3, 2] 1 3) = true := by decide
theorem lv_has2 : decide (HasV [1, 3, 2] 1 4) = false := by decide

set_option maxRecDepth 100000 in
set_option maxHeartbeats 1000000 in
theorem lives_any (w : World) : Calls Try.prog 25 #[] w fun e w' => e = .returned (.bool true) ∧ Below w.heap.size w w' := by
  have h1 := hv_new w [1, 0, 2] (by decide) (by decide)
  have h2 := hv_new (w.alloc (.cells (ints [1, 0, 2]).toArray 3)) [0, 3] (by decide) (by decide)
  rw [World.size_alloc] at h2
  have hb1 : Below w.heap.size w ((w.alloc (.cells (ints [1, 0, 2]).toArray 3)).alloc (.cells (ints [0, 3]).toArray 3)) := ((Below.refl _ _).alloc (Nat.le_refl _) _).alloc (by simp) _
  have HM := hid (merge_any _ _ _ _ _ [1, 0, 2] [0, 3] 3 2 rfl rfl (h1.below ((Below.refl _ _).alloc (Nat.le_refl _) _)) h2)
  rw [lv_merge] at HM
  have HB1 := hid hb1
  clear h1 h2 hb1
  go_enter Try.func25, Try.ntmps25
  go_wp2_with fail
  refine HM.out.mono ?_
  rintro e w1 ⟨mo, mc, rfl, hv, hb⟩
  obtain ⟨b, off, rfl, hc⟩ := hv.held.cellAt (k := 0) (by decide)
  have c0 : w1.cell? ⟨b, off, none⟩ = some (.int .i64 1) := hc 0 (by decide)
  have c1 : w1.cell? ⟨b, off + 1, none⟩ = some (.int .i64 3) := hc 1 (by decide)
  have c2 : w1.cell? ⟨b, off + 2, none⟩ = some (.int .i64 2) := hc 2 (by decide)
  have HV1 := hid hv
  have hsz : w.heap.size ≤ ((w.alloc (.cells (ints [1, 0, 2]).toArray 3)).alloc (.cells (ints [0, 3]).toArray 3)).heap.size := HB1.out.size
  have HBA : Hid (Below w.heap.size w w1) := HB1.out.trans (hb.mono hsz)
  clear hc hv hb HM HB1 hsz
  have h1 := hv_new w1 [1, 0, 2] (by decide) (by decide)
  have h2 := hv_new (w1.alloc (.cells (ints [1, 0, 2]).toArray 3)) [0, 3] (by decide) (by decide)
  rw [World.size_alloc] at h2
  have HB2 : Hid (Below w1.heap.size w1 ((w1.alloc (.cells (ints [1, 0, 2]).toArray 3)).alloc (.cells (ints [0, 3]).toArray 3))) := ((Below.refl _ _).alloc (Nat.le_refl _) _).alloc (by simp) _
  have HC := hid (compare_any _ _ _ _ _ [1, 0, 2] [0, 3] 3 2 rfl rfl (h1.below ((Below.refl _ _).alloc (Nat.le_refl _) _)) h2)
  rw [lv_cmp] at HC
  clear h1 h2
  go_wp2_with fail
  refine HC.out.mono ?_
  rintro e w2 ⟨rfl, he2⟩
  have HB3 : Hid (Below w1.heap.size w1 w2) := (by rw [he2]; exact HB2.out : Below w1.heap.size w1 w2)
  clear he2 HC HB2
  have HH1 := hid (has_any w2 _ _ [1, 3, 2] 3 rfl (HV1.out.below HB3.out) 1 3)
  rw [lv_has1] at HH1
  go_wp2_with fail
  refine HH1.out.mono ?_
  rintro e w3 ⟨rfl, hb3⟩
  have HB4 : Hid (Below w1.heap.size w1 w3) := HB3.out.trans (hb3.mono HB3.out.size)
  clear hb3 HB3 HH1
  have HH2 := hid (has_any w3 _ _ [1, 3, 2] 3 rfl (HV1.out.below HB4.out) 1 4)
  rw [lv_has2] at HH2
  go_wp2_with fail
  refine HH2.out.mono ?_
  rintro e w4 ⟨rfl, hb4⟩
  have HB5 : Hid (Below w1.heap.size w1 w4) := HB4.out.trans (hb4.mono HB4.out.size)
  clear hb4 HB4 HH2
  have HD := hid (dots_any w4 _ _ [1, 3, 2] 3 rfl (HV1.out.below HB5.out))
  go_wp2_with fail
  refine HD.out.mono ?_
  rintro e w5 ⟨_, _, _, _, rfl, _, hb5⟩
  have HB6 : Hid (Below w1.heap.size w1 w5) := HB5.out.trans (hb5.mono HB5.out.size)
  clear hb5 HB5 HD
  have hq := fun p q W => it_neq p q W
  have HE := hid (between_any w5 none _ 0 _ [] [1, 3, 2] 0 3 rfl rfl (hv_nil w5) (HV1.out.below HB6.out))
  go_wp2_with fail
  refine HE.out.mono ?_
  rintro e w6 ⟨_, _, _, _, rfl, _, hb6⟩
  have HB7 : Hid (Below w1.heap.size w1 w6) := HB6.out.trans (hb6.mono HB6.out.size)
  clear hb6 HB6 HE
  go_wp2
  go_ret
  exact ⟨rfl, HBA.out.trans (HB7.out.mono HBA.out.size)⟩
end Go.Proofs.Ytkjpaiaepodhbaa
