/-
  Package vv: Below, Compare, Has, May, Count; the document's; Same.
-/
import Derived.Test.YtfmnbehopdmahaaGreatVvC
import Derived.Deep.QuietTactic
import Derived.BigQuiet
namespace Go.Proofs.YtfmnbehopdmahaaGreat
open Go.RowKit Go.Maps

theorem belowV_of {a b : List Int} {L k : Nat} (hL : L = max a.length b.length) (hk : ¬ k < L) (h : ∀ j, j < k → a.getD j 0 ≤ b.getD j 0) : BelowV a b := fun i hi => h i (by omega)
theorem belowV_step {a b : List Int} {k : Nat} (h : ∀ j, j < k → a.getD j 0 ≤ b.getD j 0) (h' : a.getD k 0 ≤ b.getD k 0) : ∀ j, j < k + 1 → a.getD j 0 ≤ b.getD j 0 := by
  intro j hj
  by_cases e : j = k
  · subst e; exact h'
  · exact h j (by omega)

end Go.Proofs.YtfmnbehopdmahaaGreat
