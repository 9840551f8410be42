/-
  Package net: put gives the next Id, and the packet lies in the bag; a full bag is refused.
-/
import Derived.Test.YtoacfdicjpoohaaNetA
import Derived.Test.YtoacfdicjpoohaaStrClone
import Derived.Deep.RegionHeld3
import Derived.Deep.AppendLies
import Derived.Deep.RegionLaw
namespace Go.Proofs.Ytoacfdicjpoohaa
open Go.RowKit Go.Maps

theorem put_full {w : World} {p bm : Nat} {v : Value} {nodes last : Int} {ps : List Pk} {D : DataW Value} (h : NetAt w p bm v nodes last ps D) (f t : Int) (s : ByteArray) (hl : 65536 ≤ ps.length) :
    Calls Try.prog 21 #[.pointer (some ⟨p, 0, none⟩), .int .i64 f, .int .i64 t, .string s] w fun e w' => e = .returned (.tuple #[.int .i64 0, .int .i64 2]) ∧ w' = w := by
  obtain ⟨ao, cap, rfl⟩ := own_slice h.row
  have hc3 := h.blk.cell (i := 3) rfl
  have hl' : (65536 : Int) ≤ (ps.length : Int) := by omega
  clear h
  go_enter Try.func21, Try.ntmps21
  go_wp2
  go_ret2
  exact ⟨rfl, rfl⟩

theorem grownBy_setAt (W : World) (b i : Nat) (v : Value) : W.grownBy (W.setCell ⟨b, i, none⟩ v) (some b) :=
  ⟨rfl, rfl, rfl, by simp, fun k _ hn => RowKit.Below.heap_setCell _ _ _ _ (fun e => hn (by rw [e]))⟩
theorem Try.info3 : (Try.prog.info? 3).map (fun i => (i.zero, i.size, i.bytes)) = some (some (.int .i64 0), 1, 8) := by kernel_rfl

theorem put_end {w w1 w2 w3 : World} {p bm g cap' : Nat} {v : Value} {nodes last : Int} {ps : List Pk} {D : DataW Value} {q : Pk} {o : Obj} (h : NetAt w p bm v nodes last ps D) (hq : q.id = last + 1) (hl : ps.length < 65536) (hlast : last ≤ 4611686018427387904)
    (HT1 : Turns (Foot p bm v) w w1) (HT2 : w1.drew.mapTurned w2 bm) (HO2 : w2.ownsMap Try.prog 3 valR bm (last.toNat + 1) (D.put (.int .i64 (last + 1)) (.held q.val)))
    (HR2 : w2.ownsRow 0 3 1 v ps.length (ps.map fun q => Value.int .i64 q.id)) (HBL3 : Blk w3 p 48 [.int .i64 nodes, .int .i64 (last + 1), .map (some bm), v])
    (HO3 : w3.ownsRow 0 3 1 (.slice (some ⟨g, 0, none⟩) (ps.length + 1) cap') (ps.length + 1) ((ps.map fun q => Value.int .i64 q.id) ++ [.int .i64 (last + 1)]))
    (HG3 : (w2.alloc o).drew.grownBy w3 v.ownBlock) (hat : v.ownBlock = some g ∨ g = w2.heap.size + 1) :
    ∃ v' D', NetAt (w3.setCell ⟨p, 3, none⟩ (.slice (some ⟨g, 0, none⟩) (ps.length + 1) cap')) p bm v' nodes (last + 1) (ps ++ [q]) D' ∧ Turns (Foot p bm v) w (w3.setCell ⟨p, 3, none⟩ (.slice (some ⟨g, 0, none⟩) (ps.length + 1) cap')) ∧ (v'.ownBlock = v.ownBlock ∨ ∃ g, v'.ownBlock = some g ∧ w.heap.size ≤ g) := by
  have hpm : p ≠ bm := h.blk.not_map h.map
  have hpg : some p ≠ (Value.slice (some ⟨g, 0, none⟩) (ps.length + 1) cap').ownBlock := HBL3.not_row (by decide) HO3
  have h0 := h.zero
  have hall : ∀ r ∈ ps, r.id < q.id := fun r hr => by have := (h.ids r hr).2; omega
  have T12 : Turns (Foot p bm v) w w2 := HT1.drew.trans (Turns.of_grown (F := fun i => i = bm) HT2.grown (fun k hk => by cases hk; rfl)) (fun i hi => .inl (.inr (.inl hi)))
  have hs2 : w.heap.size ≤ w2.heap.size := T12.size
  have T3 : Turns (Foot p bm v) w w3 := (T12.alloc o).drew.grown HG3 (fun k hk => .inl (.inr (.inr hk)))
  refine ⟨_, D.put (.int .i64 (last + 1)) (.held q.val), ⟨HBL3.set 3 _, ?_, ?_, fun x => ?_, ?_, ?_, ?_, by omega⟩, T3.setCell (.inl (.inl rfl)) _, ?_⟩
  · rw [show (last + 1).toNat = last.toNat + 1 by omega]
    exact ((HO2.alloc o).drew.kept HG3 (row_not_map HR2 HO2)).setCell (Ne.symm hpm) _
  · have := HO3.kept (grownBy_setAt w3 p 3 (.slice (some ⟨g, 0, none⟩) (ps.length + 1) cap')) (.inr (Ne.symm hpg))
    simpa [hq] using this
  · rw [found_snoc hall, hq]
    by_cases hx : x = last + 1
    · subst hx
      rw [if_pos rfl, look_put_same h.map.isMap (Try.keyedInt.key (Try.keyInt (x := last + 1) (by omega) (by omega)))]
      rfl
    · rw [if_neg hx, look_put_other (by simpa using hx)]
      exact h.look x
  · rw [List.pairwise_append]
    exact ⟨h.rise, by simp, fun a ha b hb => by simp at hb; subst hb; exact hall a ha⟩
  · intro r hr
    rcases List.mem_append.1 hr with hr | hr
    · have := h.ids r hr
      omega
    · simp at hr
      subst hr
      omega
  · simp
    omega
  · rcases hat with e | e
    · left
      rw [e]
      rfl
    · right
      exact ⟨g, rfl, by omega⟩

set_option maxRecDepth 100000 in
set_option maxHeartbeats 1000000 in
theorem put_any {w : World} {p bm : Nat} {v : Value} {nodes last : Int} {ps : List Pk} {D : DataW Value} (h : NetAt w p bm v nodes last ps D) (f t : Int) (s : ByteArray) (hl : ps.length < 65536) (hlast : last ≤ 4611686018427387904) :
    Calls Try.prog 21 #[.pointer (some ⟨p, 0, none⟩), .int .i64 f, .int .i64 t, .string s] w fun e w' => e = .returned (.tuple #[.int .i64 (last + 1), .int .i64 0]) ∧
      ∃ v' D', NetAt w' p bm v' nodes (last + 1) (ps ++ [⟨last + 1, f, t, s⟩]) D' ∧ Turns (Foot p bm v) w w' ∧ (v'.ownBlock = v.ownBlock ∨ ∃ g, v'.ownBlock = some g ∧ w.heap.size ≤ g) := by
  obtain ⟨ao, cap, hv⟩ := own_slice h.row
  subst hv
  have hc1 := h.blk.cell (i := 1) rfl
  have hc2 := h.blk.cell (i := 2) rfl
  have hc3 := h.blk.cell (i := 3) rfl
  have hf1 := h.blk.frozen 1
  have hf3 := h.blk.frozen 3
  have hl' : ¬ (65536 : Int) ≤ (ps.length : Int) := by omega
  have h0 := h.zero
  have HH := hid h
  obtain ⟨i0, hi, hz0, hz1, hz2⟩ := info_parts Try.info3
  have hpm : p ≠ bm := h.blk.not_map h.map
  have hm1 : (w.setCell ⟨p, 1, none⟩ (.int .i64 (last + 1))).drew.ownsMap Try.prog 3 valR bm last.toNat D := h.map.setCell (Ne.symm hpm) _
  obtain ⟨w2, hrun, hown2, hturn2⟩ := hm1.store Try.keyedInt Try.underlying45 (by unfold maxLen; omega) (Try.keyInt (x := last + 1) (by omega) (by omega)) (show valR (.agg #[.int .i64 (last + 1), .int .i64 f, .int .i64 t, .string s]) = some (.held (.agg #[.int .i64 (last + 1), .int .i64 f, .int .i64 t, .string s]), []) from rfl)
  have HO1 := hid hm1
  have HO2 := hid hown2
  have HT2 := hid hturn2
  have hb1 := h.blk.set 1 (.int .i64 (last + 1))
  have HT1 : Hid (Turns (Foot p bm (.slice ao ps.length cap)) w (w.setCell ⟨p, 1, none⟩ (.int .i64 (last + 1)))) := (Turns.refl _ _).setCell (.inl (.inl rfl)) _
  have HR1 : Hid ((w.setCell ⟨p, 1, none⟩ (.int .i64 (last + 1))).ownsRow 0 3 1 (.slice ao ps.length cap) ps.length (ps.map fun q => Value.int .i64 q.id)) :=
    h.row.kept (grownBy_setAt w p 1 _) (.inr (h.blk.not_row (by decide) h.row).symm)
  have HB1 := hid hb1
  clear h hm1 hown2 hturn2 hb1
  go_enter Try.func21, Try.ntmps21
  go_wp2
  generalize w.setCell ⟨p, 1, none⟩ (.int .i64 (last + 1)) = w1 at *
  have hd1 := HB1.out.cell (i := 1) rfl
  have hd2 := HB1.out.cell (i := 2) rfl
  have HB2 : Hid (Blk w2 p 48 [.int .i64 nodes, .int .i64 (last + 1), .map (some bm), .slice ao ps.length cap]) := HB1.out.drew.kept HT2.out.grown (by simpa using hpm)
  have HR2 : Hid (w2.ownsRow 0 3 1 (.slice ao ps.length cap) ps.length (ps.map fun q => Value.int .i64 q.id)) := HR1.out.drew.kept HT2.out.grown (.inr (row_not_map HR1.out.drew (HO1.out)).symm)
  have hlt2 := HB2.out.lt
  have he1 := HB2.out.cell (i := 1) rfl
  have he2 := HB2.out.cell (i := 2) rfl
  have he3 := HB2.out.cell (i := 3) rfl
  go_region_held3 (fun W => W.cell? ⟨p, 1, none⟩ = some (.int .i64 (last + 1)) ∧ W.cell? ⟨p, 2, none⟩ = some (.map (some bm))) (go_keep) (fail)
  go_wp2
  clear hrun hd1 hd2 hc1 hc2 hc3 hf1 hf3
  go_region_law ((refine step_append_lies _ (by rfl) _ _ 46 (by rfl) 0 3 i0 (.int .i64 0) 1 8 Try.underlying46 hi hz0 hz1 hz2 rfl (by decide) (.slice ao ps.length cap) ps.length (ps.map fun q => Value.int .i64 q.id) (by rfl) (by exact (HR2.out.alloc _).drew) ⟨w2.heap.size, 0, none⟩ 1 1 [.int .i64 (last + 1)] (by rfl) rfl (by exact cell_one_new _ _ _) (one_int _ _) (by decide) (by unfold maxLen; omega) (by omega) (Nat.zero_le _) (w2.heap.size + 1) (by simp) ?_; intro g cap' w3 hown3 hgrow3 hat3 hlt3; have hblk3 := (HB2.out.alloc (.cells #[.int .i64 (last + 1)] 3)).drew.kept hgrow3 (HB2.out.not_row (by decide) HR2.out); have HBL3 := hid hblk3; have hfz3 := hblk3.frozen 3; have hce3 := hblk3.cell (i := 3) rfl; have hce1 := hblk3.cell (i := 1) rfl; have HO3 := hid hown3; have HG3 := hid hgrow3; clear hown3 hgrow3 hblk3))
  all_goals
    go_wp2
    go_ret2
    exact ⟨rfl, put_end (q := ⟨last + 1, f, t, s⟩) HH.out rfl hl hlast HT1.out HT2.out HO2.out HR2.out HBL3.out HO3.out HG3.out hat3⟩
end Go.Proofs.Ytoacfdicjpoohaa
