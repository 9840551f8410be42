/-
  pannierlaw18.LearnerNobody answers true for any slot and entry.
-/
import Derived.Test.YtkphdcdjmjjojaaLrK
namespace Go.Proofs.Ytkphdcdjmjjojaa
open Go.RowKit Go.Shelf Go.Maps
attribute [local go_sem] Oper.semAt_some

set_option maxRecDepth 1000000 in
set_option maxHeartbeats 4000000 in
theorem learnerNobody_walk (s : Int) (x : EnM) (w : World) (_ : -9223372036854775808 ≤ s ∧ s ≤ 9223372036854775807) (_ : EnOk w x) :
    Calls Try.prog 6 #[.int .i64 s, x.val] w fun e w' => e = .returned (.bool true) ∧ Below w.heap.size w w' := by
  refine (callsIn_wide (n := 5)).1 ?_
  have hch := fun W => chooseR_nil W s x
  have hef := eql_funcR
  obtain ⟨⟨np, tk, ct, ep, dp⟩, ao1, cap1⟩ := x
  obtain ⟨XN, HXN⟩ : ∃ m, Hid (dp.length = m) := ⟨_, hid rfl⟩
  simp only [EnM.val] at hch ⊢
  rw [HXN.out]
  rw [HXN.out] at hch
  have HCH := hid hch
  clear hch
  obtain ⟨W0, hW0⟩ : ∃ W0, W0 = (w.alloc (.cells #[.bool np, .string tk, .string ct, .int .i64 ep, .slice ao1 XN cap1] 33)).alloc (.cells #[.bool false] 4) := ⟨_, rfl⟩
  have HA : Hid (Below w.heap.size w W0) := by rw [hW0]; exact ((Below.refl _ w).alloc (Nat.le_refl _) _).alloc (by simp) _
  have HO : Hid (Blk W0 w.heap.size 33 [.bool np, .string tk, .string ct, .int .i64 ep, .slice ao1 XN cap1]) := by rw [hW0]; exact (Blk.new w 33 _).alloc _
  have HR : Hid (Boxed W0 (w.heap.size + 1) 4 (.bool false)) := by
    have := Boxed.new (w.alloc (.cells #[.bool np, .string tk, .string ct, .int .i64 ep, .slice ao1 XN cap1] 33)) 4 (.bool false)
    rw [World.size_alloc] at this
    rw [hW0]
    exact this
  refine callsIn_of_wp_marks Try.func6 rfl trivial ?_ rfl
  simp only [Try.ntmps6, List.size_toArray, List.length_cons, List.length_nil, Nat.reduceAdd, Nat.reduceSub, Array.replicate_succ, Array.replicate_zero, List.push_toArray, List.append_toArray, List.nil_append, List.cons_append]
  gi_wp2_with fail
  rw [← hW0]
  clear hW0
  refine ⟨trivial, (callsIn_wide.2 (getR_nil W0 s)).mono ?_⟩
  rintro e w1 ⟨bo, cp, rfl, hv, hb⟩
  have HA1 := hid (bt' HA.out hb)
  have HO1 := hid (HO.out.below hb HO.out.lt)
  have HR1 : Hid (Boxed w1 (w.heap.size + 1) 4 (.bool false)) := (hb.block _ HR.out.lt).trans HR.out
  have HV1 := hid hv
  clear hb HA HO HR hv
  simp only [Option.getD_none, Option.isSome_none, EnM.val, noopEn, List.length_nil] at HV1 ⊢
  obtain ⟨W2, hW2⟩ : ∃ W, W = w1.alloc (.cells #[.bool true, .string ⟨#[]⟩, .string ⟨#[]⟩, .int .i64 0, .slice bo 0 cp] 33) := ⟨_, rfl⟩
  have hb2 : Below w1.heap.size w1 W2 := by rw [hW2]; exact (Below.refl _ _).alloc (Nat.le_refl _) _
  have HX2 : Hid (Blk W2 w1.heap.size 33 [.bool true, .string ⟨#[]⟩, .string ⟨#[]⟩, .int .i64 0, .slice bo 0 cp]) := by rw [hW2]; exact Blk.new w1 _ _
  gi_wp2_with fail
  rw [← hW2]
  have HA3 := hid (bt' HA1.out hb2)
  have HO3 := hid (HO1.out.below hb2 HO1.out.lt)
  have HV3 := hid (HV1.out.below hb2)
  have HR3 : Hid (Boxed W2 (w.heap.size + 1) 4 (.bool false)) := (hb2.block _ HR1.out.lt).trans HR1.out
  clear hW2 hb2 HA1 HR1 HO1 HV1
  refine ⟨trivial, (callsIn_wide.2 (fromR_any W2 none s)).mono ?_⟩
  rintro e w3 ⟨rfl, hw3⟩
  obtain ⟨_, _, hb⟩ := from_boxes _ _ _ hw3
  have HA4 := hid (bt' HA3.out hb)
  have HX4 := hid (HX2.out.below hb HX2.out.lt)
  have HO4 := hid (HO3.out.below hb HO3.out.lt)
  have HV4 := hid (HV3.out.below hb)
  have HR4 : Hid (Boxed w3 (w.heap.size + 1) 4 (.bool false)) := (hb.block _ HR3.out.lt).trans HR3.out
  clear hb hw3 HA3 HR3 HX2 HO3 HV3
  gi_wp2_with fail
  clear hef
  refine ⟨trivial, (callsIn_wide.2 (fromR_any w3 none s)).mono ?_⟩
  rintro e w4 ⟨rfl, hw4⟩
  obtain ⟨hx, hy, hb⟩ := from_boxes _ _ _ hw4
  have HA5 := hid (bt' HA4.out hb)
  have HX5 := hid (HX4.out.below hb HX4.out.lt)
  have HO5 := hid (HO4.out.below hb HO4.out.lt)
  have HV5 := hid (HV4.out.below hb)
  have HR5 : Hid (Boxed w4 (w.heap.size + 1) 4 (.bool false)) := (hb.block _ HR4.out.lt).trans HR4.out
  have hseq := from_nil_seq 4 (by omega) w3.heap.size (w3.heap.size + 1) s w4 hx hy
  clear hb hw4 hx hy HA4 HR4 HX4 HO4 HV4
  gi_wp2
  refine wpIn_rangeFunc_noR rfl (by omega) (gf := 35) (lb := #[.pointer (some ⟨w3.heap.size, 0, none⟩), .pointer (some ⟨w3.heap.size + 1, 0, none⟩)]) rfl trivial (enters_of Try.func35 (by kernel_rfl) rfl) hseq ?_
  intro D0 w5 hD0 hb hDef
  have HA6 := hid (bt' HA5.out hb)
  have HX6 := hid (HX5.out.below hb HX5.out.lt)
  have HO6 := hid (HO5.out.below hb HO5.out.lt)
  have HV6 := hid (HV5.out.below hb)
  have HR6 : Hid (Boxed w5 (w.heap.size + 1) 4 (.bool false)) := (hb.block _ HR5.out.lt).trans HR5.out
  have HD6 := hid hDef
  have hDl : D0 < w5.heap.size := (Array.getElem?_eq_some_iff.1 hDef).1
  have HDR : Hid (w.heap.size + 1 < D0) := (by have := HR5.out.lt; omega : w.heap.size + 1 < D0)
  clear hb hDef hseq hD0 HA5 HR5 HX5 HO5 HV5
  gi_wp2_with fail
  refine ⟨trivial, (callsIn_wide.2 (livesLr w5)).mono ?_⟩
  rintro e w6 ⟨rfl, hb6⟩
  have HB6 := hid hb6
  have hk6 := HO6.out.below hb6 HO6.out.lt
  have c0 := hk6.cell (i := 0) rfl
  have c1 := hk6.cell (i := 1) rfl
  have c2 := hk6.cell (i := 2) rfl
  have c3 := hk6.cell (i := 3) rfl
  have c4 := hk6.cell (i := 4) rfl
  clear hb6 hk6
  gi_wp2_with fail
  refine ⟨trivial, (callsIn_wide.2 (HCH.out w6)).mono ?_⟩
  rintro e w7 ⟨rfl, hb7⟩
  have HB7 := hid (bt' HB6.out hb7)
  have hk7 := HX6.out.below HB7.out HX6.out.lt
  have d0 := hk7.cell (i := 0) rfl
  have d1 := hk7.cell (i := 1) rfl
  have d2 := hk7.cell (i := 2) rfl
  have d3 := hk7.cell (i := 3) rfl
  have d4 := hk7.cell (i := 4) rfl
  have HSE := hid (sameEntry_B w7 noopEn bo none cp 0 (HV6.out.below HB7.out) (hv_nil w7))
  simp only [EnM.val, noopEn, List.length_nil] at HSE
  clear hb7 hk7 c0 c1 c2 c3 c4
  gi_wp2_with fail
  refine ⟨trivial, (callsIn_wide.2 HSE.out).mono ?_⟩
  rintro e w8 ⟨rfl, hb8⟩
  have HB8 := hid (bt' HB7.out hb8)
  clear hb8 d0 d1 d2 d3 d4
  gi_wp2_with fail
  refine ⟨trivial, (callsIn_wide.2 (prefixR_nil w8)).mono ?_⟩
  rintro e w9 ⟨rfl, rfl⟩
  gi_wp2_with fail
  refine ⟨trivial, (callsIn_wide.2 (extrasR_nil w9)).mono ?_⟩
  rintro e w10 ⟨rfl, rfl⟩
  gi_wp2_with fail
  refine ⟨trivial, (callsIn_wide.2 (missingR_nil w10 9)).mono ?_⟩
  rintro e w11 ⟨rfl, rfl⟩
  gi_wp2_with fail
  refine ⟨trivial, (callsIn_wide.2 (lenR_nil w11)).mono ?_⟩
  rintro e w12 ⟨rfl, rfl⟩
  gi_wp2_with fail
  refine ⟨trivial, (callsIn_wide.2 (forkR_nil w12)).mono ?_⟩
  rintro e w13 ⟨rfl, rfl⟩
  have HR10 : Hid (Boxed w13 (w.heap.size + 1) 4 (.bool false)) := (HB8.out.block _ HR6.out.lt).trans HR6.out
  have cr := HR10.out.cell
  have fr := HR10.out.frozen
  gi_wp2
  have hK0 : (w13.setCell ⟨w.heap.size + 1, 0, none⟩ (.bool true)).heap[D0]? = some (.deferred (some [])) := by
    rw [Below.heap_setCell _ _ _ _ (by have := HDR.out; simp; omega)]
    exact (HB8.out.block D0 hDl).trans HD6.out
  have hRf : Boxed ((w13.setCell ⟨w.heap.size + 1, 0, none⟩ (.bool true)).putObj D0 (.deferred none)) (w.heap.size + 1) 4 (.bool true) := by
    unfold Boxed
    rw [World.putObj_heap_other (by have := HDR.out; omega)]
    exact HR10.out.set (.bool true)
  have hbF : Below w.heap.size w ((w13.setCell ⟨w.heap.size + 1, 0, none⟩ (.bool true)).putObj D0 (.deferred none)) :=
    ((bt' HA6.out HB8.out).setCell (p := ⟨w.heap.size + 1, 0, none⟩) (by simp) _).trans (belowK_b (w := w) (Nat.le_refl _) _ D0 _ _ (by have := HDR.out; omega) hK0 rfl rfl)
  refine ⟨by simp, .inl ⟨_, _, rfl, run_takeDeferred hK0, ?_⟩⟩
  exact ⟨_, results_cellR rfl _ _ rfl hRf.cell, rfl, hbF⟩
end Go.Proofs.Ytkphdcdjmjjojaa
