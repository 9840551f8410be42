/-
  Package vv: Between's copies lie in new blocks; what a round of a range over its iterator keeps.
-/
import Derived.Test.YtgghfmdciohinaaVvJ
namespace Go.Proofs.Ytgghfmdciohinaa
open Go.RowKit Go.Shelf Go.Maps

/-- A slice's block is none below B. -/
def OldAt (B : Nat) (ao : Option Addr) (xs : List Int) : Prop := ∀ b off, ao = some ⟨b, off, none⟩ → xs ≠ [] → B ≤ b
theorem OldAt.mono {B C : Nat} {ao : Option Addr} {xs : List Int} (h : OldAt B ao xs) (hC : C ≤ B) : OldAt C ao xs := fun b off e hne => Nat.le_trans hC (h b off e hne)
def AnsV2 (w : World) (xs : List Int) (e : Ending) (w' : World) : Prop := ∃ bo cp, e = .returned (.slice bo xs.length cp) ∧ HV w' bo cp xs ∧ Below w.heap.size w w' ∧ OldAt w.heap.size bo xs
/-- What lay below n0, and what lies from n1 to n2, stays. -/
def Kq (n0 n1 n2 : Nat) (A B : World) : Prop := Below n0 A B ∧ ∀ k, n1 ≤ k → k < n2 → B.heap[k]? = A.heap[k]?
theorem Kq.refl {n0 n1 n2 : Nat} (A : World) : Kq n0 n1 n2 A A := ⟨Below.refl _ _, fun _ _ _ => rfl⟩
theorem Kq.trans {n0 n1 n2 : Nat} {A B C : World} (h : Kq n0 n1 n2 A B) (k : Kq n0 n1 n2 B C) : Kq n0 n1 n2 A C := ⟨h.1.trans k.1, fun j h1 h2 => (k.2 j h1 h2).trans (h.2 j h1 h2)⟩
theorem Kq.dn {n0 n1 n2 : Nat} (A : World) (q : Nat) : Kq n0 n1 n2 A (A.drewN q) := ⟨below_dn (Below.refl _ _) q, fun _ _ _ => rfl⟩
theorem Kq.set {n0 n1 n2 g : Nat} (A : World) (hg : n0 ≤ g) (hg1 : g < n1) (u : Value) : Kq n0 n1 n2 A (A.setCell ⟨g, 0, none⟩ u) :=
  ⟨(Below.refl _ A).setCell (p := ⟨g, 0, none⟩) hg u, fun k h1 _ => Below.heap_setCell _ _ _ _ (by intro e; have : k = g := e; omega)⟩
theorem Kq.alloc {n0 n1 n2 : Nat} (A : World) (h0 : n0 ≤ A.heap.size) (h2 : n2 ≤ A.heap.size) (o : Obj) : Kq n0 n1 n2 A (A.alloc o) :=
  ⟨(Below.refl _ A).alloc h0 o, fun k _ h => Below.heap_alloc _ _ _ (by omega)⟩
theorem HeldInt.blocks {w w' : World} {ao : Option Addr} {xs : List Int} (h : HeldInt w ao xs) (hs : w.heap.size ≤ w'.heap.size) (hb : ∀ b off, ao = some ⟨b, off, none⟩ → xs ≠ [] → w'.heap[b]? = w.heap[b]?) : HeldInt w' ao xs := by
  refine ⟨h.1, ?_⟩
  by_cases hne : xs = []
  · exact .inl hne
  · rcases h.2 with h0 | ⟨b, off, rfl, hlt, hc⟩
    · exact .inl h0
    · refine .inr ⟨b, off, rfl, Nat.lt_of_lt_of_le hlt hs, fun j hj => ?_⟩
      have := hc j hj
      simp only [World.cell?] at this ⊢
      rw [hb b off rfl hne]
      exact this
theorem ownFrom_at {β : Type} {B k : Nat} {o : Obj} (hk : k < B) : OwnFrom B (fun (_ : β) W => W.heap[k]? = some o) := fun _ W W' row hs hg hr =>
  (hg.block k (Array.getElem?_eq_some_iff.1 hs).1 (fun e => by have := (hr k e.symm).1; omega)).trans hs
theorem ownFrom_or {β : Type} {B : Nat} {p : β → Prop} {I : β → World → Prop} (h : OwnFrom B I) (q : β → Prop) : OwnFrom B (fun s W => p s ∨ (q s ∧ I s W)) := fun s W W' row hs hg hr => by
  rcases hs with hs | ⟨hq, hs⟩
  · exact .inl hs
  · exact .inr ⟨hq, h s W W' row hs hg hr⟩
end Go.Proofs.Ytgghfmdciohinaa
