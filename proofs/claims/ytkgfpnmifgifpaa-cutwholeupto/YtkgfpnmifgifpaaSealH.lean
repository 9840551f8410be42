/-
  The law's lives (cut): what must come of every program.
-/
import Derived.Test.YtkgfpnmifgifpaaSealE
import Derived.Test.YtkgfpnmifgifpaaSealG
import Derived.Test.YtkgfpnmifgifpaaCartQ
namespace Go.Proofs.Ytkgfpnmifgifpaa
open Go.RowKit Go.Maps

theorem heldSl_new {V : World} {xs : List SlM} (h : AllS V xs) : HeldSl (V.alloc (.cells (flatS xs).toArray 50)) (some ⟨V.heap.size, 0, none⟩) xs := by
  have hb := Blk.new V 50 (flatS xs)
  refine ⟨h.below ((Below.refl _ _).alloc (Nat.le_refl _) _), .inr ⟨_, 0, rfl, hb.lt, fun j hj c u hu => ?_⟩⟩
  rw [Nat.zero_add]
  exact hb.cell (flatS_get _ j hj c u hu)
def bsT : ByteArray := { data := #[116] }
def sl0 : Sl := ⟨bsT, bsC, 0, [1]⟩
def slM (p : Nat) : List SlM := [⟨sl0, some ⟨p, 0, none⟩, 1⟩]
def evM2 : List EvM := [⟨lv1, none, 0⟩, ⟨lv2, none, 0⟩]
theorem bel1 : Bel lv1 sl0 := by decide +kernel
theorem bel2 : ¬ Bel lv2 sl0 := by decide +kernel
theorem first1 (p : Nat) : firstBel lv1 (slM p) = some ⟨sl0, some ⟨p, 0, none⟩, 1⟩ := by simp [firstBel, slM, bel1]
theorem first2 (p : Nat) : firstBel lv2 (slM p) = none := by simp [firstBel, slM, bel2]
theorem own0 (p : Nat) : ownOf bsC (slM p) = slM p := by simp [ownOf, slM, sl0]
theorem pickOrd (p : Nat) : (pickL bsC (slM p) (fun a i => i && decide (a = 0)) evM2).map (·.e) = [lv1] := by
  have c1 : lv1.cart = bsC := rfl
  have c2 : lv2.cart = bsC := rfl
  simp [pickL, evM2, own0, belEp, belIs, first1, first2, c1, c2, sl0]
theorem pickOpn (p : Nat) : (pickL bsC (slM p) (fun _ i => !i) evM2).map (·.e) = [lv2] := by
  have c1 : lv1.cart = bsC := rfl
  have c2 : lv2.cart = bsC := rfl
  simp [pickL, evM2, own0, belIs, first1, first2, c1, c2]
theorem ln_one {e : Ev} (hc : countOf bsC [e] = [e]) (hq : 0 < e.qty) {ls : List Ln} (h : LinesOf (linesQ bsC [e]) ls) : ls = [(e.sku, e.qty)] := by
  refine linesOf_unique h (g := fun s => if s = e.sku then e.qty else 0) ⟨by simp, fun s q => ?_⟩ (fun s => ?_)
  · rw [List.mem_singleton, Prod.mk.injEq]
    constructor
    · rintro ⟨rfl, rfl⟩
      exact ⟨hq, (if_pos rfl).symm⟩
    · rintro ⟨h1, h2⟩
      dsimp only at h2
      split at h2
      · next e => exact ⟨e, h2⟩
      · omega
  · unfold linesQ
    rw [hc]
    simp only [qtyOf]
    by_cases e' : s = e.sku
    · subst e'
      simp
    · simp [e', Ne.symm e']
theorem cnt1 : countOf bsC [lv1] = [lv1] := by decide +kernel
theorem cnt2 : countOf bsC [lv2] = [lv2] := by decide +kernel
theorem nmT : nameS bsT = true := by decide +kernel
theorem nmC : nameS bsC = true := by decide +kernel
theorem wh1 (p : Nat) : wholeOf bsC 0 [1] (slM p) = true := by
  have h1 : Wh bsC 0 sl0 := by decide +kernel
  have h2 : BelowV [1] [1] := by decide +kernel
  simp [wholeOf, firstWh, slM, h1]
  exact h2
theorem wh0 (p : Nat) : wholeOf bsC 0 [] (slM p) = false := by
  have h1 : Wh bsC 0 sl0 := by decide +kernel
  have h2 : ¬ BelowV [1] [] := by decide +kernel
  simp [wholeOf, firstWh, slM, h1]
  exact h2
theorem evM2_ok (w : World) : AllOk w evM2 := by
  intro x hx
  simp [evM2] at hx
  rcases hx with rfl | rfl
  · exact ⟨hv_none _ 0, by unfold I64; decide, by unfold I64; decide, by unfold I64; decide, by unfold I64; decide, by decide, by decide⟩
  · exact ⟨hv_none _ 0, by unfold I64; decide, by unfold I64; decide, by unfold I64; decide, by unfold I64; decide, by decide, by decide⟩
theorem hv_one (w : World) : HV (w.alloc (.cells #[.int .i64 1] 3)) (some ⟨w.heap.size, 0, none⟩) 1 [1] := by
  have hb := Blk.new w 3 [.int .i64 1]
  refine ⟨⟨fun x hx => ?_, .inr ⟨_, 0, rfl, hb.lt, fun j hj => ?_⟩⟩, by decide, by decide⟩
  · simp at hx
    subst hx
    decide
  · obtain rfl : j = 0 := by simp at hj; omega
    exact hb.cell rfl
set_option maxRecDepth 1000000 in
set_option maxHeartbeats 4000000 in
theorem lives12_any (w : World) : Calls Try.prog 7 #[] w fun e w' => e = .returned (.bool true) ∧ Below w.heap.size w w' := by
  obtain ⟨Wa, hWa⟩ : ∃ W, W = w.alloc (.cells (flatE evM2).toArray 34) := ⟨_, rfl⟩
  have HBa : Hid (Below w.heap.size w Wa) := by rw [hWa]; exact (Below.refl _ _).alloc (Nat.le_refl _) _
  have HEa : Hid (HeldE Wa (some ⟨w.heap.size, 0, none⟩) evM2) := by rw [hWa]; exact held_new (evM2_ok w)
  have hsa : Wa.heap.size = w.heap.size + 1 := by rw [hWa]; simp
  obtain ⟨Wb, hWb⟩ : ∃ W, W = Wa.alloc (.cells #[.int .i64 1] 3) := ⟨_, rfl⟩
  have HBb : Hid (Below Wa.heap.size Wa Wb) := by rw [hWb]; exact (Below.refl _ _).alloc (Nat.le_refl _) _
  have hVb : HV Wb (some ⟨w.heap.size + 1, 0, none⟩) 1 [1] := by have := hv_one Wa; rw [hsa, ← hWb] at this; exact this
  have hsb : Wb.heap.size = w.heap.size + 1 + 1 := by rw [hWb, World.size_alloc, hsa]
  have hslo : AllS Wb (slM (w.heap.size + 1)) := by
    intro x hx
    simp [slM] at hx
    subst hx
    exact ⟨hVb, (by unfold I64; decide : I64 sl0.ep), (by decide : sl0.tok.size ≤ maxLen), (by decide : sl0.cart.size ≤ maxLen)⟩
  obtain ⟨W3, hW3⟩ : ∃ W, W = Wb.alloc (.cells (flatS (slM (w.heap.size + 1))).toArray 50) := ⟨_, rfl⟩
  have HB3 : Hid (Below Wb.heap.size Wb W3) := by rw [hW3]; exact (Below.refl _ _).alloc (Nat.le_refl _) _
  have hS3 : HeldSl W3 (some ⟨w.heap.size + 1 + 1, 0, none⟩) (slM (w.heap.size + 1)) := by have := heldSl_new hslo; rw [hsb, ← hW3] at this; exact this
  have HBw : Hid (Below w.heap.size w W3) := bt (bt HBa.out HBb.out) HB3.out
  obtain ⟨pl, hpl⟩ : ∃ p, p = w.heap.size := ⟨_, rfl⟩
  have HE3 : Hid (HeldE W3 (some ⟨pl, 0, none⟩) evM2) := by rw [hpl]; exact (HEa.out.below HBb.out).below HB3.out
  obtain ⟨pc, hpc⟩ : ∃ p, p = w.heap.size + 1 := ⟨_, rfl⟩
  obtain ⟨ps, hps⟩ : ∃ p, p = w.heap.size + 1 + 1 := ⟨_, rfl⟩
  rw [← hps, ← hpc] at hS3
  have HS3 := hid hS3
  have HW3 : Hid (W3 = ((w.alloc (.cells (flatE evM2).toArray 34)).alloc (.cells #[.int .i64 1] 3)).alloc (.cells (flatS (slM (w.heap.size + 1))).toArray 50)) := by show _ = _; rw [hW3, hWb, hWa]
  have HDL : Hid (∀ x ∈ evM2, x.e.deps.length ≤ 1048576) := by
    intro x hx
    simp [evM2] at hx
    rcases hx with rfl | rfl <;> decide
  have HQL : Hid (∀ x ∈ evM2, 0 ≤ x.e.qty ∧ x.e.qty ≤ 1000) := by
    intro x hx
    simp [evM2] at hx
    rcases hx with rfl | rfl <;> decide
  have hm1 : (slM pc).length = 1 := rfl
  have HBE := hid (belongs_any W3 ⟨lv1, none, 0⟩ (some ⟨ps, 0, none⟩) 1 (slM pc) 1 hm1 HS3.out (by decide))
  rw [show belEp lv1 (slM pc) = 0 by unfold belEp; rw [first1]; rfl, show belIs lv1 (slM pc) = true by unfold belIs; rw [first1]; rfl] at HBE
  have HPL := hid hpl
  have HPS := hid hps
  have HPC := hid hpc
  clear hW3 hWb hWa hslo hVb hsa hsb hS3 HEa HBb HB3 HBa
  rw [← hpc] at HW3
  simp only [flatE, evM2, EvM.cells, lv1, lv2, flatS, slM, SlM.cells, sl0, List.flatMap_cons, List.flatMap_nil, List.append_nil, List.cons_append, List.nil_append, List.length_nil, List.length_cons, Nat.zero_add, bsC, bsTea, bsT] at HW3
  simp only [EvM.val, lv1, bsC, bsTea, List.length_nil] at HBE
  rw [hpc] at HW3
  have hin := HE3.out
  clear hpl hps hpc
  go_enter Try.func7, Try.ntmps7
  go_wp2_with fail
  rw [← HW3.out, ← HPS.out, ← HPL.out]
  refine HBE.out.mono ?_
  rintro e w4 ⟨rfl, hb4⟩
  have HB4 := hid (bt HBw.out hb4)
  have HE4 := hid (HE3.out.below hb4)
  have HS4 := hid (HS3.out.below hb4)
  clear hb4 HBE hin
  have HCK := hid (check1_any (w4.alloc (.cells #[.string bsT, .string bsC, .int .i64 1, .slice none 0 0] 50)) w4.heap.size bsT bsC nmT nmC 1 (by decide) (Blk.new w4 _ [.string bsT, .string bsC, .int .i64 1, .slice none 0 0]))
  have HB5 : Hid (Below w4.heap.size w4 (w4.alloc (.cells #[.string bsT, .string bsC, .int .i64 1, .slice none 0 0] 50))) := (Below.refl _ _).alloc (Nat.le_refl _) _
  simp only [bsT, bsC] at HCK HB5
  go_wp2_with fail
  refine HCK.out.mono ?_
  rintro e w6 ⟨rfl, hb6⟩
  have HB6 := hid (bt HB4.out (bt HB5.out hb6))
  have HE6 := hid (HE4.out.below (bt HB5.out hb6))
  have HS6 := hid (HS4.out.below (bt HB5.out hb6))
  clear hb6 HCK HB5
  have HOR := hid (cutOrder_any w6 (some ⟨pl, 0, none⟩) (some ⟨ps, 0, none⟩) 2 1 evM2 (slM pc) 2 1 rfl hm1 HE6.out HS6.out (by decide) (by decide) HDL.out HQL.out bsC 0 (f := linesQ bsC [lv1]) (by rw [pickOrd]))
  have HOP := hid (fun V (hV : Below w6.heap.size w6 V) => cutOpen_any V (some ⟨pl, 0, none⟩) (some ⟨ps, 0, none⟩) 2 1 evM2 (slM pc) 2 1 rfl hm1 (HE6.out.below hV) (HS6.out.below hV) (by decide) (by decide) HDL.out HQL.out bsC (f := linesQ bsC [lv2]) (by rw [pickOpn]))
  have HSX := hid (fun V (hV : Below w6.heap.size w6 V) => HS6.out.below hV)
  simp only [show bsC = ({ data := #[99] } : ByteArray) from rfl] at HOR HOP
  go_wp2_with fail
  refine HOR.out.mono ?_
  rintro e w7 ⟨lo, ln, lc, rfl, hat, hb7⟩
  have HB7 := hid hb7
  obtain ⟨l7, h71, h72, _, h74⟩ := hat
  obtain rfl := ln_one cnt1 (by decide) h71
  obtain rfl : 1 = ln := h72
  have HL7 := hid h74
  clear hb7 h71 h74 HOR
  go_wp2_with fail
  refine (HOP.out _ HB7.out).mono ?_
  rintro e w8 ⟨mo, mn, mc, rfl, hat, hb8⟩
  have HB8 := hid (bt HB7.out hb8)
  have HL8 := hid (HL7.out.below hb8)
  obtain ⟨l8, h81, h82, _, h84⟩ := hat
  obtain rfl := ln_one cnt2 (by decide) h81
  obtain rfl : 1 = mn := h82
  obtain ⟨b1, f1, hlo, _, q1⟩ := HL8.out.at (j := 0) (by decide)
  obtain ⟨b2, f2, hmo, _, q2⟩ := h84.at (j := 0) (by decide)
  subst hlo hmo
  simp only [List.getElem_cons_zero, Nat.zero_mul, Nat.add_zero, lv1, lv2] at q1 q2
  have HEP := hid (epoch_any w8 (some ⟨ps, 0, none⟩) 1 (slM pc) 1 hm1 (HSX.out w8 HB8.out) (by decide) bsC)
  rw [own0, hm1] at HEP
  have HWH := hid (fun V (hV : Below w6.heap.size w6 V) vo vc v vl hvl hv => whole_any V vo (some ⟨ps, 0, none⟩) vc 1 v vl hvl hv (slM pc) 1 hm1 (HSX.out V hV) (by decide) bsC 0)
  simp only [show bsC = ({ data := #[99] } : ByteArray) from rfl] at HEP
  clear hb8 h81 h84 HOP
  go_wp2_with fail
  refine HEP.out.mono ?_
  rintro e w9 ⟨rfl, hb9⟩
  have HB9 := hid (bt HB8.out hb9)
  have HBX : Hid (Below w9.heap.size w9 (w9.alloc (.cells #[.int .i64 1] 3))) := (Below.refl _ _).alloc (Nat.le_refl _) _
  have HW1 := hid (HWH.out _ (bt HB9.out HBX.out) (some ⟨w9.heap.size, 0, none⟩) 1 [1] 1 rfl (hv_one w9))
  rw [wh1] at HW1
  simp only [show bsC = ({ data := #[99] } : ByteArray) from rfl] at HW1
  clear hb9 HEP q1 q2
  go_wp2_with fail
  refine HW1.out.mono ?_
  rintro e w10 ⟨rfl, hb10⟩
  have HB10 := hid (bt HB9.out (bt HBX.out hb10))
  have HW0 := hid (HWH.out _ HB10.out none 0 [] 0 rfl (hv_none _ _))
  rw [wh0] at HW0
  simp only [show bsC = ({ data := #[99] } : ByteArray) from rfl] at HW0
  clear hb10 HW1
  go_wp2_with fail
  refine HW0.out.mono ?_
  rintro e w11 ⟨rfl, hb11⟩
  have HB11 := hid (bt HB10.out hb11)
  clear hb11
  go_wp2
  go_ret
  exact ⟨rfl, bt HB6.out HB11.out⟩
end Go.Proofs.Ytkgfpnmifgifpaa
