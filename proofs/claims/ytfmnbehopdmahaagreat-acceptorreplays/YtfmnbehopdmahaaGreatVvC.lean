/-
  Package vv: joined, Merge, Meet; the document's Merge, Meet.
-/
import Derived.Test.YtfmnbehopdmahaaGreatVvB
import Derived.Deep.OwnRows
import Derived.Laws.OwnMore
namespace Go.Proofs.YtfmnbehopdmahaaGreat
open Go.RowKit Go.Maps

/-- The first k places are joined. -/
def partOf (f : Int → Int → Int) (a b : List Int) (k : Nat) : List Int := (List.range (max a.length b.length)).map fun i => if i < k then f (a.getD i 0) (b.getD i 0) else 0
theorem part_len (f : Int → Int → Int) (a b : List Int) (k : Nat) : (partOf f a b k).length = max a.length b.length := by simp [partOf]
theorem part_zero (f : Int → Int → Int) (a b : List Int) : partOf f a b 0 = List.replicate (max a.length b.length) 0 := by
  apply List.ext_getElem <;> simp [partOf]
theorem part_all (f : Int → Int → Int) (a b : List Int) {k : Nat} (hk : max a.length b.length ≤ k) : partOf f a b k = joinOf f a b := by
  apply List.ext_getElem
  · simp [partOf, joinOf]
  · intro i h1 h2
    simp [partOf] at h1
    simp [partOf, joinOf, show i < k by omega]
theorem part_set (f : Int → Int → Int) (a b : List Int) {k : Nat} (_ : k < max a.length b.length) : (partOf f a b k).set k (f (a.getD k 0) (b.getD k 0)) = partOf f a b (k + 1) := by
  apply List.ext_getElem
  · simp [partOf]
  · intro i h1 h2
    simp [partOf] at h2
    rw [List.getElem_set]
    by_cases e : k = i
    · subst e; simp [partOf]
    · by_cases e2 : i < k
      · simp [partOf, e, e2, show i < k + 1 by omega]
      · simp [partOf, e, e2, show ¬ i < k + 1 by omega]
theorem join_rng {f : Int → Int → Int} {a b : List Int} {p : Int → Prop} (h : ∀ i, p (f (a.getD i 0) (b.getD i 0))) : ∀ x ∈ joinOf f a b, p x := by
  intro x hx
  obtain ⟨i, _, rfl⟩ := List.mem_map.1 hx
  exact h i
theorem made_ints (n : Nat) : madeCells #[.int .i64 0] n = (ints (List.replicate n 0)).toArray := by
  apply Array.ext'
  rw [toList_madeCells_one]
  simp [ints]
def maxI (x y : Int) : Int := max x y
def minI (x y : Int) : Int := min x y
theorem hid_eq {α : Type} {a b : α} (h : a = b) : Hid (a = b) := h

end Go.Proofs.YtfmnbehopdmahaaGreat
