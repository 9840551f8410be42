/-
  Same; package vv's May, the document's May.
-/
import Derived.Test.YtfmnbehopdmahaaGreatVvD
namespace Go.Proofs.YtfmnbehopdmahaaGreat
open Go.RowKit Go.Maps

theorem eq_of_getD {a b : List Int} (hl : a.length = b.length) {k : Nat} (hk : ¬ k < a.length) (h : ∀ j, j < k → a.getD j 0 = b.getD j 0) : a = b := by
  apply List.ext_getElem hl
  intro i h1 h2
  have := h i (by omega)
  simpa [List.getD, List.getElem?_eq_getElem h1, List.getElem?_eq_getElem h2] using this
theorem eq_step {a b : List Int} {k : Nat} (h : ∀ j, j < k → a.getD j 0 = b.getD j 0) (h' : a.getD k 0 = b.getD k 0) : ∀ j, j < k + 1 → a.getD j 0 = b.getD j 0 := by
  intro j hj
  by_cases e : j = k
  · subst e; exact h'
  · exact h j (by omega)

/-- A number that may be. -/
def RightV (x : Int) : Prop := 0 ≤ x ∧ x ≤ 2147483647
instance (x : Int) : Decidable (RightV x) := by unfold RightV; infer_instance
theorem take_succ_all {p : Int → Prop} {xs : List Int} {k : Nat} (hk : k < xs.length) (h : ∀ x ∈ xs.take k, p x) (h' : p (xs.getD k 0)) : ∀ x ∈ xs.take (k + 1), p x := by
  intro x hx
  rw [List.take_succ_eq_append_getElem hk] at hx
  rcases List.mem_append.1 hx with h1 | h1
  · exact h x h1
  · simp at h1
    subst h1
    simpa [List.getD, List.getElem?_eq_getElem hk] using h'

theorem mayV_iff (xs : List Int) : MayV xs ↔ xs.length ≤ 7 ∧ ∀ x ∈ xs, RightV x := Iff.rfl
end Go.Proofs.YtfmnbehopdmahaaGreat
