/-
  pannierlaw05.lives is true of this program; pannierlaw05.ClockNobody answers true at every input.
-/
import Derived.Test.YtmceffndnofgfaaClkF
namespace Go.Proofs.Ytmceffndnofgfaa
open Go.RowKit Go.Maps

theorem HeldInt.new (w : World) (xs : List Int) (hx : ∀ x ∈ xs, -9223372036854775808 ≤ x ∧ x ≤ 9223372036854775807) : HeldInt (w.alloc (.cells (ints xs).toArray 3)) (some ⟨w.heap.size, 0, none⟩) xs := by
  refine ⟨hx, .inr ⟨_, 0, rfl, by simp, fun j hj => ?_⟩⟩
  refine (Blk.new w 3 (ints xs)).cell (i := 0 + j) ?_
  simp [ints, List.getD, List.getElem?_eq_getElem hj]
theorem need_lives : needOf 1000 0 [900, 1100] = 100 := by decide
theorem trust_lives : trustOf 1100 100 = 900 := by decide

end Go.Proofs.Ytmceffndnofgfaa
