/-
  The document's Keeps, of one tick and of all.
-/
import Derived.Test.YtmceffndnofgfaaClkM
namespace Go.Proofs.Ytmceffndnofgfaa
open Go.RowKit Go.Maps

theorem keep_facts {r t a : Int} (ht : Right t) (ha : Right a) (h0 : 0 ≤ r) (h1 : r ≤ 999) :
    wrap64 (1000 * a) = 1000 * a ∧ wrap64 ((1000 - r) * t) = (1000 - r) * t ∧ wrap64 ((1000 + r) * t) = (1000 + r) * t := by
  unfold Right at ht ha
  have p1 : 0 ≤ (1000 - r) * t := Int.mul_nonneg (by omega) ht.1
  have p2 : (1000 - r) * t ≤ 1000 * t := Int.mul_le_mul_of_nonneg_right (by omega) ht.1
  have p3 : 0 ≤ (1000 + r) * t := Int.mul_nonneg (by omega) ht.1
  have p4 : (1000 + r) * t ≤ 1999 * t := Int.mul_le_mul_of_nonneg_right (by omega) ht.1
  exact ⟨wrapS (by omega) (by omega), wrapS (by omega) (by omega), wrapS (by omega) (by omega)⟩

section
variable (w : World) (t : Int) (ao : Option Addr) (cap : Nat) (xs : List Int) (r : Int)
end

end Go.Proofs.Ytmceffndnofgfaa
