/-
  pannierlaw10.OplogNobody answers true for any event and vector.
-/
import Derived.Test.YtfeoolknpcffcaaLogM
import Derived.Test.YtfeoolknpcffcaaLogO
namespace Go.Proofs.Ytfeoolknpcffcaa
open Go.RowKit Go.Shelf Go.Maps
attribute [local go_sem] Oper.semAt_some

set_option maxRecDepth 1000000 in
set_option maxHeartbeats 4000000 in
theorem oplogNobody_walk (x : EvM) (vo : Option Addr) (k vc : Nat) (w : World) :
    Calls Try.prog 6 #[x.val, .slice vo k vc] w fun e w' => e = .returned (.bool true) ∧ Below w.heap.size w w' := by
  refine (callsIn_wide (n := 5)).1 ?_
  have hput := fun W => put_nil W x
  obtain ⟨⟨o, s, dp, ct, ep, sk, qt, cl⟩, ao1, cap1⟩ := x
  obtain ⟨XN, HXN⟩ : ∃ m, Hid (dp.length = m) := ⟨_, hid rfl⟩
  simp only [EvM.val] at hput ⊢
  rw [HXN.out]
  rw [HXN.out] at hput
  have HPUT := hid hput
  clear hput
  obtain ⟨cs, hcs⟩ : ∃ cs : List Value, cs = [.int .i64 o, .int .i64 s, .slice ao1 XN cap1, .string ct, .int .i64 ep, .string sk, .int .i64 qt, .bool cl] := ⟨_, rfl⟩
  obtain ⟨W0, hW0⟩ : ∃ W0, W0 = (w.alloc (.cells #[.int .i64 o, .int .i64 s, .slice ao1 XN cap1, .string ct, .int .i64 ep, .string sk, .int .i64 qt, .bool cl] 33)).alloc (.cells #[.bool false] 4) := ⟨_, rfl⟩
  have HA : Hid (Below w.heap.size w W0) := by rw [hW0]; exact ((Below.refl _ w).alloc (Nat.le_refl _) _).alloc (by simp) _
  have HO : Hid (Blk W0 w.heap.size 33 cs) := by rw [hW0, hcs]; exact (Blk.new w 33 _).alloc _
  have HR : Hid (Boxed W0 (w.heap.size + 1) 4 (.bool false)) := by
    have := Boxed.new (w.alloc (.cells #[.int .i64 o, .int .i64 s, .slice ao1 XN cap1, .string ct, .int .i64 ep, .string sk, .int .i64 qt, .bool cl] 33)) 4 (.bool false)
    rw [World.size_alloc] at this
    rw [hW0]
    exact this
  have HCS := hid hcs
  clear hcs
  refine callsIn_of_wp_marks Try.func6 rfl trivial ?_ rfl
  simp only [Try.ntmps6, List.size_toArray, List.length_cons, List.length_nil, Nat.reduceAdd, Nat.reduceSub, Array.replicate_succ, Array.replicate_zero, List.push_toArray, List.append_toArray, List.nil_append, List.cons_append]
  gi_wp2_with fail
  rw [← hW0]
  clear hW0
  refine ⟨trivial, (callsIn_wide.2 (HPUT.out W0)).mono ?_⟩
  rintro e w1 ⟨rfl, hb⟩
  have HA1 := hid (bt HA.out hb)
  have HO1 : Hid (Blk w1 w.heap.size 33 cs) := HO.out.below hb HO.out.lt
  have HR1 : Hid (Boxed w1 (w.heap.size + 1) 4 (.bool false)) := (hb.block _ HR.out.lt).trans HR.out
  have c0 := HO1.out.cell (i := 0) (by rw [HCS.out]; rfl)
  have c1 := HO1.out.cell (i := 1) (by rw [HCS.out]; rfl)
  clear hb HA HO HR
  gi_wp2_with fail
  refine ⟨trivial, (callsIn_wide.2 (getL_nil w1 o s)).mono ?_⟩
  rintro e w2 ⟨rfl, hb⟩
  have HA2 := hid (bt HA1.out hb)
  have HR2 : Hid (Boxed w2 (w.heap.size + 1) 4 (.bool false)) := (hb.block _ HR1.out.lt).trans HR1.out
  clear hb HA1 HO1 HR1 c0 c1
  unfold zeroV
  obtain ⟨W2, hW2⟩ : ∃ W, W = w2.alloc (.cells #[.int .i64 0, .int .i64 0, .slice none 0 0, .string ⟨#[]⟩, .int .i64 0, .string ⟨#[]⟩, .int .i64 0, .bool false] 33) := ⟨_, rfl⟩
  have hb2 : Below w2.heap.size w2 W2 := by rw [hW2]; exact (Below.refl _ _).alloc (Nat.le_refl _) _
  gi_wp2_with fail
  rw [← hW2]
  have HA3 := hid (bt HA2.out hb2)
  have HR3 : Hid (Boxed W2 (w.heap.size + 1) 4 (.bool false)) := (hb2.block _ HR2.out.lt).trans HR2.out
  clear hW2 hb2 HA2 HR2
  refine ⟨trivial, (callsIn_wide.2 (all_any W2 none)).mono ?_⟩
  rintro e w3 ⟨rfl, hw3⟩
  obtain ⟨_, hb⟩ := since_boxes _ _ _ hw3
  have HA4 := hid (bt HA3.out hb)
  have HR4 : Hid (Boxed w3 (w.heap.size + 1) 4 (.bool false)) := (hb.block _ HR3.out.lt).trans HR3.out
  have hq := fun W => itL_eql W2.heap.size (W2.heap.size + 1) W
  clear hb hw3 HA3 HR3
  gi_wp2_with fail
  clear hq
  refine ⟨trivial, (callsIn_wide.2 (all_any w3 none)).mono ?_⟩
  rintro e w4 ⟨rfl, hw4⟩
  obtain ⟨hx, hb⟩ := since_boxes _ _ _ hw4
  have HA5 := hid (bt HA4.out hb)
  have HR5 : Hid (Boxed w4 (w.heap.size + 1) 4 (.bool false)) := (hb.block _ HR4.out.lt).trans HR4.out
  have hseq := since_nil_seq 4 (by omega) w3.heap.size (w3.heap.size + 1) w4 hx
  clear hb hw4 hx HA4 HR4
  gi_wp2
  refine wpIn_rangeFunc_no rfl (by omega) (gf := 48) (lb := #[.pointer (some ⟨w3.heap.size, 0, none⟩), .pointer (some ⟨w3.heap.size + 1, 0, none⟩)]) rfl trivial (enters_of Try.func48 (by kernel_rfl) rfl) hseq ?_
  intro D0 w5 hD0 hb hDef
  have HA6 := hid (bt HA5.out hb)
  have HR6 : Hid (Boxed w5 (w.heap.size + 1) 4 (.bool false)) := (hb.block _ HR5.out.lt).trans HR5.out
  have HD6 := hid hDef
  have hDl : D0 < w5.heap.size := (Array.getElem?_eq_some_iff.1 hDef).1
  have HDR : Hid (w.heap.size + 1 < D0) := (by have := HR5.out.lt; omega : w.heap.size + 1 < D0)
  clear hb hDef hseq hD0 HA5 HR5
  gi_wp2_with fail
  refine ⟨trivial, (callsIn_wide.2 (lives10_any w5)).mono ?_⟩
  rintro e w6 ⟨rfl, hb⟩
  have HB6 := hid hb
  clear hb
  gi_wp2_with fail
  refine ⟨trivial, (callsIn_wide.2 (applied_nil w6)).mono ?_⟩
  rintro e w7 ⟨rfl, rfl⟩
  gi_wp2_with fail
  refine ⟨trivial, (callsIn_wide.2 (waiting_nil w7)).mono ?_⟩
  rintro e w8 ⟨rfl, rfl⟩
  gi_wp2_with fail
  refine ⟨trivial, (callsIn_wide.2 (after_nil w8 vo k vc 9)).mono ?_⟩
  rintro e w9 ⟨rfl, hb⟩
  have HB9 := hid (bt HB6.out hb)
  clear hb HB6
  gi_wp2_with fail
  refine ⟨trivial, (callsIn_wide.2 (forkL_nil w9)).mono ?_⟩
  rintro e w10 ⟨rfl, rfl⟩
  have HR10 : Hid (Boxed w10 (w.heap.size + 1) 4 (.bool false)) := (HB9.out.block _ HR6.out.lt).trans HR6.out
  have cr := HR10.out.cell
  have fr := HR10.out.frozen
  gi_wp2
  have hK0 : (w10.setCell ⟨w.heap.size + 1, 0, none⟩ (.bool true)).heap[D0]? = some (.deferred (some [])) := by
    rw [Below.heap_setCell _ _ _ _ (by have := HDR.out; simp; omega)]
    exact (HB9.out.block D0 hDl).trans HD6.out
  have hRf : Boxed ((w10.setCell ⟨w.heap.size + 1, 0, none⟩ (.bool true)).putObj D0 (.deferred none)) (w.heap.size + 1) 4 (.bool true) := by
    unfold Boxed
    rw [World.putObj_heap_other (by have := HDR.out; omega)]
    exact HR10.out.set (.bool true)
  have hbF : Below w.heap.size w ((w10.setCell ⟨w.heap.size + 1, 0, none⟩ (.bool true)).putObj D0 (.deferred none)) :=
    ((bt HA6.out HB9.out).setCell (p := ⟨w.heap.size + 1, 0, none⟩) (by simp) _).trans (belowK_b (w := w) (Nat.le_refl _) _ D0 _ _ (by have := HDR.out; omega) hK0 rfl rfl)
  refine ⟨by simp, .inl ⟨_, _, rfl, run_takeDeferred hK0, ?_⟩⟩
  exact ⟨_, results_cell4 rfl _ _ rfl hRf.cell, rfl, hbF⟩
end Go.Proofs.Ytfeoolknpcffcaa
