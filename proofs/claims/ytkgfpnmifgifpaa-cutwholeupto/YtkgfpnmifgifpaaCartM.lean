/-
  Package cart: Same, Total, told, Stand; how lines lie in memory.
-/
import Derived.Test.YtkgfpnmifgifpaaCartL
namespace Go.Proofs.Ytkgfpnmifgifpaa
open Go.RowKit Go.Maps

/-- A slice of lines holds ls. -/
def HeldL (w : World) (ao : Option Addr) (ls : List Ln) : Prop :=
  ls = [] ∨ ∃ b off, ao = some ⟨b, off, none⟩ ∧ b < w.heap.size ∧ ∀ j (hj : j < ls.length), w.cell? ⟨b, off + j * 2, none⟩ = some (.string ls[j].1) ∧ w.cell? ⟨b, off + j * 2 + 1, none⟩ = some (.int .i64 ls[j].2)
theorem HeldL.below {w w' : World} {ao : Option Addr} {ls : List Ln} (h : HeldL w ao ls) (hb : Below w.heap.size w w') : HeldL w' ao ls := by
  rcases h with h0 | ⟨b, off, h1, h2, h3⟩
  · exact .inl h0
  · exact .inr ⟨b, off, h1, Nat.lt_of_lt_of_le h2 hb.size, fun j hj => ⟨(hb.cell (p := ⟨b, off + j * 2, none⟩) h2).trans (h3 j hj).1, (hb.cell (p := ⟨b, off + j * 2 + 1, none⟩) h2).trans (h3 j hj).2⟩⟩
theorem HeldL.at {w : World} {ao : Option Addr} {ls : List Ln} (h : HeldL w ao ls) {j : Nat} (hj : j < ls.length) : ∃ b off, ao = some ⟨b, off, none⟩ ∧ w.cell? ⟨b, off + j * 2, none⟩ = some (.string ls[j].1) ∧ w.cell? ⟨b, off + j * 2 + 1, none⟩ = some (.int .i64 ls[j].2) := by
  rcases h with h0 | ⟨b, off, h1, h2, h3⟩
  · subst h0
    cases hj
  · exact ⟨b, off, h1, (h3 j hj).1, (h3 j hj).2⟩
theorem flatL_get : ∀ (xs : List Ln) (j : Nat) (hj : j < xs.length), (flatL xs)[j * 2]? = some (.string xs[j].1) ∧ (flatL xs)[j * 2 + 1]? = some (.int .i64 xs[j].2)
  | [], j, hj => by cases hj
  | x :: r, 0, _ => ⟨rfl, rfl⟩
  | x :: r, j + 1, hj => by
    have := flatL_get r j (by simpa using hj)
    simp only [List.getElem_cons_succ]
    rw [show (j + 1) * 2 = j * 2 + 2 by omega, show j * 2 + 2 + 1 = (j * 2 + 1) + 2 by omega]
    exact this
theorem heldL_of_own {w : World} {B : Nat} {v : Value} {ls : List Ln} {n : Nat} (hn : ls.length = n) (h : w.ownsRow B 57 2 v n (flatL ls)) : ∃ ao cap, v = .slice ao n cap ∧ HeldL w ao ls := by
  subst hn
  obtain ⟨eo, cap, rfl, hnc, hc⟩ := own_form8 h
  refine ⟨eo, cap, rfl, ?_⟩
  by_cases h0 : ls = []
  · exact .inl h0
  · obtain ⟨g, rfl, _, hg, hcell⟩ := hc (List.length_pos_iff.2 h0)
    refine .inr ⟨g, 0, rfl, hg, fun j hj => ?_⟩
    rw [Nat.zero_add]
    exact ⟨hcell _ _ (flatL_get ls j hj).1, hcell _ _ (flatL_get ls j hj).2⟩
theorem ext_lines {a b : List Ln} (hl : a.length = b.length) {k : Nat} (hk : ¬ k < a.length) (h : ∀ j (h1 : j < a.length) (h2 : j < b.length), j < k → a[j] = b[j]) : a = b :=
  List.ext_getElem hl fun i h1 h2 => h i h1 h2 (by omega)
end Go.Proofs.Ytkgfpnmifgifpaa
