/-
  The law's lives: what must come of every program.
-/
import Derived.Test.YtdfdgijaekhioaaCartO
namespace Go.Proofs.Ytdfdgijaekhioaa
open Go.RowKit Go.Maps

def bsC : ByteArray := { data := #[99] }
def bsTea : ByteArray := { data := #[116, 101, 97] }
def lv1 : Ev := ⟨0, 1, [], bsC, 0, bsTea, 2, false⟩
def lv2 : Ev := ⟨1, 1, [], bsC, 0, bsTea, 1, false⟩
def lv3 : Ev := ⟨0, 2, [1], bsC, 0, bsTea, 0, true⟩
theorem lv_stand : standOf [lv1, lv2, lv3] = [lv2, lv3] := by decide +kernel
theorem lv_count : countOf bsC [lv1, lv2, lv3] = [lv2, lv3] := by decide +kernel
theorem lv_lines {ls : List Ln} (h : LinesOf (linesQ bsC [lv1, lv2, lv3]) ls) : ls = [(bsTea, 1)] := by
  refine linesOf_unique h (g := fun s => if s = bsTea then 1 else 0) ⟨by simp, fun s q => ?_⟩ (fun s => ?_)
  · rw [List.mem_singleton, Prod.mk.injEq]
    constructor
    · rintro ⟨rfl, rfl⟩
      exact ⟨by decide, (if_pos rfl).symm⟩
    · rintro ⟨h1, h2⟩
      dsimp only at h2
      split at h2
      · next e => exact ⟨e, h2⟩
      · omega
  · unfold linesQ
    rw [lv_count]
    simp only [qtyOf, lv2, lv3]
    by_cases e : s = bsTea
    · subst e
      simp
    · simp [e, Ne.symm e]
def lvM (w : World) : List EvM := [⟨lv1, none, 0⟩, ⟨lv2, none, 0⟩, ⟨lv3, some ⟨w.heap.size, 0, none⟩, 1⟩]
set_option maxRecDepth 100000 in
theorem lv_held (w : World) : HeldE ((w.alloc (.cells #[.int .i64 1] 3)).alloc (.cells (flatE (lvM w)).toArray 29)) (some ⟨w.heap.size + 1, 0, none⟩) (lvM w) := by
  have hb := ((Blk.new w 3 [.int .i64 1]).alloc (.cells (flatE (lvM w)).toArray 29))
  have hb2 := Blk.new (w.alloc (.cells #[.int .i64 1] 3)) 29 (flatE (lvM w))
  rw [World.size_alloc] at hb2
  refine ⟨?_, .inr ⟨_, 0, rfl, hb2.lt, fun j hj c u hu => ?_⟩⟩
  · intro x hx
    simp [lvM] at hx
    rcases hx with rfl | rfl | rfl
    · exact ⟨hv_none _ 0, by unfold I64; decide, by unfold I64; decide, by unfold I64; decide, by unfold I64; decide, by decide, by decide⟩
    · exact ⟨hv_none _ 0, by unfold I64; decide, by unfold I64; decide, by unfold I64; decide, by unfold I64; decide, by decide, by decide⟩
    · refine ⟨⟨⟨fun x hx => ?_, .inr ⟨_, 0, rfl, hb.lt, fun j hj => ?_⟩⟩, (by decide : lv3.deps.length ≤ 1), (by decide : lv3.deps.length ≤ 17592186044416)⟩, (by unfold I64; decide : I64 lv3.o), (by unfold I64; decide : I64 lv3.s), (by unfold I64; decide : I64 lv3.epoch), (by unfold I64; decide : I64 lv3.qty), (by decide : lv3.cart.size ≤ maxLen), (by decide : lv3.sku.size ≤ maxLen)⟩
      · simp [lv3] at hx
        subst hx
        decide
      · obtain rfl : j = 0 := by simp [lv3] at hj; omega
        exact hb.cell rfl
  · rw [Nat.zero_add]
    exact hb2.cell (flatE_get _ j hj c u hu)
theorem lvM_e (w : World) : (lvM w).map (·.e) = [lv1, lv2, lv3] := rfl
theorem lv_standM (w : World) : (standM (lvM w)).length = 2 := by
  have := congrArg List.length (standM_e (lvM w))
  rw [lvM_e, lv_stand, List.length_map] at this
  exact this
set_option maxRecDepth 1000000 in
set_option maxHeartbeats 2000000 in
theorem lives11_any (w : World) : Calls Try.prog 9 #[] w fun e w' => e = .returned (.bool true) ∧ Below w.heap.size w w' := by
  obtain ⟨W2, hW2⟩ : ∃ W, W = (w.alloc (.cells #[.int .i64 1] 3)).alloc (.cells (flatE (lvM w)).toArray 29) := ⟨_, rfl⟩
  have HB2 : Hid (Below w.heap.size w W2) := by rw [hW2]; exact ((Below.refl _ _).alloc (Nat.le_refl _) _).alloc (by simp) _
  have HH : Hid (HeldE W2 (some ⟨w.heap.size + 1, 0, none⟩) (lvM w)) := by rw [hW2]; exact lv_held w
  have hdl : ∀ x ∈ lvM w, x.e.deps.length ≤ 1048576 := by
    intro x hx
    simp [lvM] at hx
    rcases hx with rfl | rfl | rfl
    · decide
    · decide
    · exact (by decide : lv3.deps.length ≤ 1048576)
  have hql : ∀ x ∈ lvM w, 0 ≤ x.e.qty ∧ x.e.qty ≤ 1000 := by
    intro x hx
    simp [lvM] at hx
    rcases hx with rfl | rfl | rfl
    · decide
    · decide
    · exact (by decide : 0 ≤ lv3.qty ∧ lv3.qty ≤ 1000)
  have HLN := hid (lines_any W2 (some ⟨w.heap.size + 1, 0, none⟩) 3 (lvM w) 3 rfl HH.out (by decide) hdl hql bsC)
  have HST := hid (fun V (hV : Below W2.heap.size W2 V) => stand_any V (some ⟨w.heap.size + 1, 0, none⟩) 3 (lvM w) 3 rfl (HH.out.below hV) (by decide) hdl 2 (lv_standM w))
  rw [lvM_e] at HLN
  have HW2 := hid hW2
  clear hW2 hdl hql
  simp only [flatE, lvM, EvM.cells, lv1, lv2, lv3, List.flatMap_cons, List.flatMap_nil, List.append_nil, List.cons_append, List.nil_append, List.length_nil, List.length_cons, Nat.zero_add, bsC, bsTea] at HW2
  go_enter Try.func9, Try.ntmps9
  go_wp2_with fail
  rw [← HW2.out]
  refine HLN.out.mono ?_
  rintro e w3 ⟨v, ls, rfl, hls, _, hrow, hb3⟩
  obtain rfl := lv_lines hls
  obtain ⟨ao, cap, rfl, hh⟩ := heldL_of_own (n := 1) rfl hrow
  obtain ⟨b, off, rfl, c1, c2⟩ := hh.at (j := 0) (by decide)
  have HL := hid hh
  have HB3 := hid hb3
  simp only [List.getElem_cons_zero, Nat.zero_mul, Nat.add_zero, bsTea] at c1 c2
  have HTT : Hid (totalL [(bsTea, 1)] = 1) := rfl
  have HT := hid (total_any w3 (some ⟨b, off, none⟩) cap [(bsTea, 1)] 1 rfl (by decide) HL.out (fun x hx => by simp at hx; subst hx; decide))
  rw [HTT.out] at HT
  clear hls hrow hb3 hh HLN
  go_wp2_with fail
  refine HT.out.mono ?_
  rintro e w4 ⟨rfl, hb4⟩
  have HB4 := hid (bt HB3.out hb4)
  have HL4 := hid (HL.out.below hb4)
  clear hb4 c1 c2 HT
  go_wp2_with fail
  refine (HST.out _ HB4.out).mono ?_
  rintro e w5 ⟨⟨bo, cp, rfl⟩, hb5⟩
  have HB5 := hid (bt HB4.out hb5)
  have HL5 := hid (HL4.out.below hb5)
  clear hb5
  have HS := hid (sameL_any w5 (some ⟨b, off, none⟩) (some ⟨b, off, none⟩) cap cap [(bsTea, 1)] [(bsTea, 1)] 1 1 rfl rfl (by decide) HL5.out HL5.out)
  rw [decide_eq_true rfl] at HS
  go_wp2_with fail
  refine HS.out.mono ?_
  rintro e w6 ⟨rfl, q, rfl⟩
  go_wp2
  go_ret
  exact ⟨rfl, below_dn (bt HB2.out HB5.out) q⟩
end Go.Proofs.Ytdfdgijaekhioaa
