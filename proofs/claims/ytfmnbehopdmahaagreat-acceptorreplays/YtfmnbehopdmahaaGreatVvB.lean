/-
  Package vv: Clone, Plain, joined, Merge, Meet; the document's Plain, Merge, Meet.
-/
import Derived.Test.YtfmnbehopdmahaaGreatVvA
namespace Go.Proofs.YtfmnbehopdmahaaGreat
open Go.RowKit Go.Maps

theorem eqlI_some (W : World) (ad : Addr) (n c : Nat) : (binOp .eql 23 (.slice (some ad) n c) (.slice none 0 0)).run Tryz.prog W = .ok (.bool false) W := by kernel_rfl
theorem eqlI_none (W : World) (n c : Nat) : (binOp .eql 23 (.slice none n c) (.slice none 0 0)).run Tryz.prog W = .ok (.bool true) W := by kernel_rfl
theorem HeldInt.of_none {w : World} {xs : List Int} (h : HeldInt w none xs) : xs = [] := by
  rcases h.2 with h0 | ⟨b, off, e, _⟩
  · exact h0
  · cases e
theorem hv_nil (w : World) : HV w none 0 [] := ⟨⟨fun x hx => (by cases hx), .inl rfl⟩, Nat.le_refl _, by simp⟩

/-- A call that answers a vector. -/
def AnsV (w : World) (xs : List Int) (e : Ending) (w' : World) : Prop := ∃ bo cp, e = .returned (.slice bo xs.length cp) ∧ HV w' bo cp xs ∧ Below w.heap.size w w'

end Go.Proofs.YtfmnbehopdmahaaGreat
