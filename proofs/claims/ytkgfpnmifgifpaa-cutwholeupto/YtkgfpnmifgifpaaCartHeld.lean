/-
  A new slice of events; what lines tell of an article; small numbers.
-/
import Derived.Test.YtkgfpnmifgifpaaCartP
namespace Go.Proofs.Ytkgfpnmifgifpaa
open Go.RowKit Go.Maps

/-- A new slice of events. -/
theorem held_new {V : World} {xs : List EvM} (h : AllOk V xs) : HeldE (V.alloc (.cells (flatE xs).toArray 34)) (some ⟨V.heap.size, 0, none⟩) xs := by
  have hb := Blk.new V 34 (flatE xs)
  refine ⟨h.below ((Below.refl _ _).alloc (Nat.le_refl _) _), .inr ⟨_, 0, rfl, hb.lt, fun j hj c u hu => ?_⟩⟩
  rw [Nat.zero_add]
  exact hb.cell (flatE_get _ j hj c u hu)
theorem linesQ_nonneg {c : ByteArray} {l : List Ev} (h : ∀ e ∈ l, 0 ≤ e.qty) (s : ByteArray) : 0 ≤ linesQ c l s :=
  qtyOf_nonneg fun e he => h e (by
    have h1 := firstsFrom_sub _ _ e he
    exact (ofCart_mem.1 (standOf_mem.1 h1).1).1)
/-- Lines, and of: how many of an article events have. -/
theorem linesOf_q {f : ByteArray → Int} {ls : List Ln} (h : LinesOf f ls) (hf : ∀ s, 0 ≤ f s) {s : ByteArray} {q : Int} (hq : f s = q) : ofL s ls = q := by rw [ofL_lines h hf, hq]
theorem i64_small {x : Int} (h0 : 0 ≤ x) (h1 : x ≤ 1000) : I64 x := by unfold I64; omega
end Go.Proofs.Ytkgfpnmifgifpaa
