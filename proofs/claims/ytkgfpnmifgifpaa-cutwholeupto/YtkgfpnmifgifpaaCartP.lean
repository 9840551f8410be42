/-
  The law's lives: what must come of every program.
-/
import Derived.Test.YtkgfpnmifgifpaaCartO
namespace Go.Proofs.Ytkgfpnmifgifpaa
open Go.RowKit Go.Maps

def bsC : ByteArray := { data := #[99] }
def bsTea : ByteArray := { data := #[116, 101, 97] }
def lv1 : Ev := ⟨0, 1, [], bsC, 0, bsTea, 2, false⟩
def lv2 : Ev := ⟨1, 1, [], bsC, 0, bsTea, 1, false⟩
def lv3 : Ev := ⟨0, 2, [1], bsC, 0, bsTea, 0, true⟩
theorem lv_stand : standOf [lv1, lv2, lv3] = [lv2, lv3] := by decide +kernel
theorem lv_count : countOf bsC [lv1, lv2, lv3] = [lv2, lv3] := by decide +kernel
theorem lv_lines {ls : List Ln} (h : LinesOf (linesQ bsC [lv1, lv2, lv3]) ls) : ls = [(bsTea, 1)] := by
  refine linesOf_unique h (g := fun s => if s = bsTea then 1 else 0) ⟨by simp, fun s q => ?_⟩ (fun s => ?_)
  · rw [List.mem_singleton, Prod.mk.injEq]
    constructor
    · rintro ⟨rfl, rfl⟩
      exact ⟨by decide, (if_pos rfl).symm⟩
    · rintro ⟨h1, h2⟩
      dsimp only at h2
      split at h2
      · next e => exact ⟨e, h2⟩
      · omega
  · unfold linesQ
    rw [lv_count]
    simp only [qtyOf, lv2, lv3]
    by_cases e : s = bsTea
    · subst e
      simp
    · simp [e, Ne.symm e]
def lvM (w : World) : List EvM := [⟨lv1, none, 0⟩, ⟨lv2, none, 0⟩, ⟨lv3, some ⟨w.heap.size, 0, none⟩, 1⟩]
set_option maxRecDepth 100000 in
theorem lv_held (w : World) : HeldE ((w.alloc (.cells #[.int .i64 1] 3)).alloc (.cells (flatE (lvM w)).toArray 34)) (some ⟨w.heap.size + 1, 0, none⟩) (lvM w) := by
  have hb := ((Blk.new w 3 [.int .i64 1]).alloc (.cells (flatE (lvM w)).toArray 34))
  have hb2 := Blk.new (w.alloc (.cells #[.int .i64 1] 3)) 34 (flatE (lvM w))
  rw [World.size_alloc] at hb2
  refine ⟨?_, .inr ⟨_, 0, rfl, hb2.lt, fun j hj c u hu => ?_⟩⟩
  · intro x hx
    simp [lvM] at hx
    rcases hx with rfl | rfl | rfl
    · exact ⟨hv_none _ 0, by unfold I64; decide, by unfold I64; decide, by unfold I64; decide, by unfold I64; decide, by decide, by decide⟩
    · exact ⟨hv_none _ 0, by unfold I64; decide, by unfold I64; decide, by unfold I64; decide, by unfold I64; decide, by decide, by decide⟩
    · refine ⟨⟨⟨fun x hx => ?_, .inr ⟨_, 0, rfl, hb.lt, fun j hj => ?_⟩⟩, (by decide : lv3.deps.length ≤ 1), (by decide : lv3.deps.length ≤ 17592186044416)⟩, (by unfold I64; decide : I64 lv3.o), (by unfold I64; decide : I64 lv3.s), (by unfold I64; decide : I64 lv3.epoch), (by unfold I64; decide : I64 lv3.qty), (by decide : lv3.cart.size ≤ maxLen), (by decide : lv3.sku.size ≤ maxLen)⟩
      · simp [lv3] at hx
        subst hx
        decide
      · obtain rfl : j = 0 := by simp [lv3] at hj; omega
        exact hb.cell rfl
  · rw [Nat.zero_add]
    exact hb2.cell (flatE_get _ j hj c u hu)
theorem lvM_e (w : World) : (lvM w).map (·.e) = [lv1, lv2, lv3] := rfl
theorem lv_standM (w : World) : (standM (lvM w)).length = 2 := by
  have := congrArg List.length (standM_e (lvM w))
  rw [lvM_e, lv_stand, List.length_map] at this
  exact this
end Go.Proofs.Ytkgfpnmifgifpaa
