/-
  pannierlaw09.DotsNobody answers true for any dot and vector.
-/
import Derived.Test.YtkjpaiaepodhbaaDotsM
namespace Go.Proofs.Ytkjpaiaepodhbaa
open Go.RowKit Go.Shelf Go.Maps
attribute [local go_sem] Oper.semAt_some

/-- A range over an iterator that yields nothing. -/
theorem wpIn_rangeFunc_none {F : Fence} {n : Nat} {P : Program} {α : Type} {g : Operand} {ps : Array Tmp} {body : Code} {Q : Exit → Act → World → Prop} {a : Act} {w : World}
    (hro : F.round = none) (h1 : 1 ≤ n) {gf : Nat} {lb : Array Value} (hg : a.eval g = .func (.func gf) #[] lb) (hFg : F.fn gf) (eg : ∀ args w, (callFunc gf args).run P w = .ok (.enter gf args) w)
    {encs : α → Array Value} {Sp : List α → Prop} (hseq : SeqStopsK F (n - 1) P gf lb encs KeepsWalks (fun ys => ys = []) Sp 0 w) (hps : ∀ x, (encs x).size = ps.size)
    (hafter : ∀ (D : Nat) (W : World), w.heap.size ≤ D → Below w.heap.size w W → W.heap[D]? = some (.deferred (some [])) → Q .normal { a with defers := { target := .collected D, args := #[] } :: a.defers } W) :
    (Code.rangeFunc g ps Code.skip body).wpIn F n P Q a w :=
  wpIn_rangeFunc_ownG hro h1 hg hFg eg hseq (fun h k => walksK_t h k) (fun W l o o' hl ho hc hw => walksK_b (w := w) W l o o' hl ho hc hw) (Below.refl _ _) hps (fun _ W => Below w.heap.size w W) (fun _ _ _ => False)
    (ownFrom_below (Nat.le_refl _) (Nat.le_refl _)) (fun _ _ _ _ _ h _ _ => h) (Below.refl _ _) _ (fun _ _ _ _ hK => wpIn_skip hK) (fun _ _ _ _ _ h => absurd h (Nat.not_lt_zero _)) (fun D _ W hD _ hI hd => hafter D W hD hI hd) (fun _ _ _ _ _ _ h _ => h.elim)

set_option maxRecDepth 1000000 in
set_option maxHeartbeats 2000000 in
theorem dotsNobody_walk (o s : Int) (vo : Option Addr) (vc : Nat) (v : List Int) (w : World) (hv : HV w vo vc v) :
    Calls Try.prog 5 #[.agg #[.int .i64 o, .int .i64 s], .slice vo v.length vc] w fun e w' => e = .returned (.bool true) ∧ Below w.heap.size w w' := by
  refine (callsIn_wide (n := 5)).1 ?_
  obtain ⟨k, HK⟩ : ∃ l, Hid (v.length = l) := ⟨_, hid rfl⟩
  rw [HK.out]
  have HV := hid hv
  clear hv
  refine callsIn_of_wp_marks Try.func5 rfl trivial ?_ rfl
  simp only [Try.ntmps5, List.size_toArray, List.length_cons, List.length_nil, Nat.reduceAdd, Nat.reduceSub, Array.replicate_succ, Array.replicate_zero, List.push_toArray, List.append_toArray, List.nil_append, List.cons_append]
  obtain ⟨W0, hW0⟩ : ∃ W0, W0 = (w.alloc (.cells #[.int .i64 o, .int .i64 s] 25)).alloc (.cells #[.bool false] 4) := ⟨_, rfl⟩
  have HA : Hid (Below w.heap.size w W0) := by rw [hW0]; exact ((Below.refl _ w).alloc (Nat.le_refl _) _).alloc (by simp) _
  have HO : Hid (Blk W0 w.heap.size 25 [.int .i64 o, .int .i64 s]) := by rw [hW0]; exact (Blk.new w 25 [.int .i64 o, .int .i64 s]).alloc _
  have HR : Hid (Boxed W0 (w.heap.size + 1) 4 (.bool false)) := by
    have := Boxed.new (w.alloc (.cells #[.int .i64 o, .int .i64 s] 25)) 4 (.bool false)
    rw [World.size_alloc] at this
    rw [hW0]
    exact this
  gi_wp2_with fail
  rw [← hW0]
  clear hW0
  refine ⟨trivial, (callsIn_wide.2 (get_nil W0 o s)).mono ?_⟩
  rintro e w1 ⟨rfl, hb⟩
  have HA1 := hid (bt HA.out hb)
  have HO1 : Hid (Blk w1 w.heap.size 25 [.int .i64 o, .int .i64 s]) := HO.out.below hb HO.out.lt
  have HR1 : Hid (Boxed w1 (w.heap.size + 1) 4 (.bool false)) := (hb.block _ HR.out.lt).trans HR.out
  clear hb HA HO HR
  unfold zeroE
  gi_wp2_with fail
  refine ⟨trivial, (callsIn_wide.2 (all_any w1 none)).mono ?_⟩
  rintro e w2 ⟨rfl, _, _, hb⟩
  have HA2 := hid (bt HA1.out hb)
  have HO2 : Hid (Blk w2 w.heap.size 25 [.int .i64 o, .int .i64 s]) := HO1.out.below hb HO1.out.lt
  have HR2 : Hid (Boxed w2 (w.heap.size + 1) 4 (.bool false)) := (hb.block _ HR1.out.lt).trans HR1.out
  have hq := fun W => itD_eql w1.heap.size (w1.heap.size + 1) W
  clear hb HA1 HO1 HR1
  gi_wp2_with fail
  clear hq
  refine ⟨trivial, (callsIn_wide.2 (all_any w2 none)).mono ?_⟩
  rintro e w3 ⟨rfl, hx, hy, hb⟩
  have HA3 := hid (bt HA2.out hb)
  have HO3 : Hid (Blk w3 w.heap.size 25 [.int .i64 o, .int .i64 s]) := HO2.out.below hb HO2.out.lt
  have HR3 : Hid (Boxed w3 (w.heap.size + 1) 4 (.bool false)) := (hb.block _ HR2.out.lt).trans HR2.out
  have hseq := those_nil_seq 4 (by omega) w2.heap.size (w2.heap.size + 1) _ _ w3 hx hy
  clear hb hx hy HA2 HO2 HR2
  gi_wp2
  refine wpIn_rangeFunc_none rfl (by omega) (gf := 65) (lb := #[.pointer (some ⟨w2.heap.size, 0, none⟩), .pointer (some ⟨w2.heap.size + 1, 0, none⟩)]) rfl trivial (enters_of Try.func65 (by kernel_rfl) rfl) hseq (fun _ => rfl) ?_
  intro D0 w4 hD0 hb hDef
  have HA4 := hid (bt HA3.out hb)
  have HO4 : Hid (Blk w4 w.heap.size 25 [.int .i64 o, .int .i64 s]) := HO3.out.below hb HO3.out.lt
  have HR4 : Hid (Boxed w4 (w.heap.size + 1) 4 (.bool false)) := (hb.block _ HR3.out.lt).trans HR3.out
  have HD4 := hid hDef
  have hDl : D0 < w4.heap.size := (Array.getElem?_eq_some_iff.1 hDef).1
  have HDR : Hid (w.heap.size + 1 < D0) := (by have := HR3.out.lt; omega : w.heap.size + 1 < D0)
  clear hb hDef hseq HA3 HO3 HR3
  gi_wp2_with fail
  refine ⟨trivial, (callsIn_wide.2 (upto_any w4 none vo vc v k HK.out (HV.out.below HA4.out))).mono ?_⟩
  rintro e w5 ⟨q5, _, _, _, rfl, _, _, _, _, _, hb⟩
  have HA5 := hid (bt HA4.out hb)
  have HO5 : Hid (Blk w5 w.heap.size 25 [.int .i64 o, .int .i64 s]) := HO4.out.below hb HO4.out.lt
  have HR5 : Hid (Boxed w5 (w.heap.size + 1) 4 (.bool false)) := (hb.block _ HR4.out.lt).trans HR4.out
  have HD5 : Hid (w5.heap[D0]? = some (.deferred (some []))) := (hb.block _ hDl).trans HD4.out
  have hDl5 : D0 < w5.heap.size := Nat.lt_of_lt_of_le hDl hb.size
  have hq := fun W => itD_eql q5 (q5 + 1) W
  clear hb HA4 HO4 HR4 HD4 hDl
  gi_wp2_with fail
  clear hq
  refine ⟨trivial, (callsIn_wide.2 (upto_any w5 none vo vc v k HK.out (HV.out.below HA5.out))).mono ?_⟩
  rintro e w6 ⟨q6, _, _, _, rfl, hx, hy, _, _, _, hb⟩
  have HA6 := hid (bt HA5.out hb)
  have HO6 : Hid (Blk w6 w.heap.size 25 [.int .i64 o, .int .i64 s]) := HO5.out.below hb HO5.out.lt
  have HR6 : Hid (Boxed w6 (w.heap.size + 1) 4 (.bool false)) := (hb.block _ HR5.out.lt).trans HR5.out
  have HD6 : Hid (w6.heap[D0]? = some (.deferred (some []))) := (hb.block _ hDl5).trans HD5.out
  have hDl6 : D0 < w6.heap.size := Nat.lt_of_lt_of_le hDl5 hb.size
  have hseq := those_nil_seq 4 (by omega) q6 (q6 + 1) _ _ w6 hx hy
  clear hb hx hy HA5 HO5 HR5 HD5 hDl5
  gi_wp2
  refine wpIn_rangeFunc_none rfl (by omega) (gf := 65) (lb := #[.pointer (some ⟨q6, 0, none⟩), .pointer (some ⟨q6 + 1, 0, none⟩)]) rfl trivial (enters_of Try.func65 (by kernel_rfl) rfl) hseq (fun _ => rfl) ?_
  intro D1 w7 hD1 hb hDef
  have HA7 := hid (bt HA6.out hb)
  have HO7 : Hid (Blk w7 w.heap.size 25 [.int .i64 o, .int .i64 s]) := HO6.out.below hb HO6.out.lt
  have HR7 : Hid (Boxed w7 (w.heap.size + 1) 4 (.bool false)) := (hb.block _ HR6.out.lt).trans HR6.out
  have HD7 : Hid (w7.heap[D0]? = some (.deferred (some []))) := (hb.block _ hDl6).trans HD6.out
  have HE7 := hid hDef
  have hDl7 : D0 < w7.heap.size := Nat.lt_of_lt_of_le hDl6 hb.size
  have hEl7 : D1 < w7.heap.size := (Array.getElem?_eq_some_iff.1 hDef).1
  have HDE : Hid (D0 < D1) := (by omega : D0 < D1)
  clear hb hDef hseq HA6 HO6 HR6 HD6 hDl6
  gi_wp2_with fail
  refine ⟨trivial, (callsIn_wide.2 (livesD_any w7)).mono ?_⟩
  rintro e w8 ⟨rfl, hb⟩
  have HA8 := hid (bt HA7.out hb)
  have HB8 := hid hb
  have HO8 : Hid (Blk w8 w.heap.size 25 [.int .i64 o, .int .i64 s]) := HO7.out.below hb HO7.out.lt
  have cd0 := HO8.out.cell (i := 0) rfl
  have cd1 := HO8.out.cell (i := 1) rfl
  clear hb
  gi_wp2_with fail
  refine ⟨trivial, (callsIn_wide.2 (add_nil w8 o s { data := #[120] })).mono ?_⟩
  rintro e w9 ⟨rfl, hb⟩
  have HB9 := hid (bt HB8.out hb)
  clear hb cd0 cd1
  gi_wp2_with fail
  refine ⟨trivial, (callsIn_wide.2 (vector_nil w9)).mono ?_⟩
  rintro e w9' ⟨rfl, rfl⟩
  gi_wp2_with fail
  refine ⟨trivial, (callsIn_wide.2 (extras_nil w9')).mono ?_⟩
  rintro e w10 ⟨rfl, rfl⟩
  gi_wp2_with fail
  refine ⟨trivial, (callsIn_wide.2 (missing_nil w10 _)).mono ?_⟩
  rintro e w11 ⟨rfl, hb⟩
  have HB11 := hid (bt HB9.out hb)
  clear hb
  gi_wp2_with fail
  refine ⟨trivial, (callsIn_wide.2 (lenD_nil w11)).mono ?_⟩
  rintro e w12 ⟨rfl, rfl⟩
  gi_wp2_with fail
  refine ⟨trivial, (callsIn_wide.2 (fork_nil w12)).mono ?_⟩
  rintro e w13 ⟨rfl, rfl⟩
  have HR13 : Hid (Boxed w13 (w.heap.size + 1) 4 (.bool false)) := (HB11.out.block _ HR7.out.lt).trans HR7.out
  have cr := HR13.out.cell
  have fr := HR13.out.frozen
  gi_wp2
  have hK1 : (w13.setCell ⟨w.heap.size + 1, 0, none⟩ (.bool true)).heap[D1]? = some (.deferred (some [])) := by
    rw [Below.heap_setCell _ _ _ _ (by have := HDR.out; have := HDE.out; simp; omega)]
    exact (HB11.out.block D1 hEl7).trans HE7.out
  have hK0 : ((w13.setCell ⟨w.heap.size + 1, 0, none⟩ (.bool true)).putObj D1 (.deferred none)).heap[D0]? = some (.deferred (some [])) := by
    rw [World.putObj_heap_other (by have := HDE.out; omega), Below.heap_setCell _ _ _ _ (by have := HDR.out; simp; omega)]
    exact (HB11.out.block D0 hDl7).trans HD7.out
  have hRf : Boxed (((w13.setCell ⟨w.heap.size + 1, 0, none⟩ (.bool true)).putObj D1 (.deferred none)).putObj D0 (.deferred none)) (w.heap.size + 1) 4 (.bool true) := by
    unfold Boxed
    rw [World.putObj_heap_other (by have := HDR.out; omega), World.putObj_heap_other (by have := HDR.out; have := HDE.out; omega)]
    exact HR13.out.set (.bool true)
  have hbF : Below w.heap.size w (((w13.setCell ⟨w.heap.size + 1, 0, none⟩ (.bool true)).putObj D1 (.deferred none)).putObj D0 (.deferred none)) :=
    (((bt HA7.out HB11.out).setCell (p := ⟨w.heap.size + 1, 0, none⟩) (by simp) _).trans (belowK_b (w := w) (Nat.le_refl _) _ D1 _ _ (by have := HDR.out; have := HDE.out; omega) hK1 rfl rfl)).trans (belowK_b (w := w) (Nat.le_refl _) _ D0 _ _ (by have := HDR.out; omega) hK0 rfl rfl)
  refine ⟨by simp, .inl ⟨_, _, rfl, run_takeDeferred hK1, by simp, .inl ⟨_, _, rfl, run_takeDeferred hK0, ?_⟩⟩⟩
  exact ⟨_, results_cell4 rfl _ _ rfl hRf.cell, rfl, hbF⟩
end Go.Proofs.Ytkjpaiaepodhbaa
