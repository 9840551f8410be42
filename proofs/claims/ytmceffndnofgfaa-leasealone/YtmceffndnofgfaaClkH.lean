/-
  pannierlaw05.ClockWider answers true at every input.
-/
import Derived.Test.YtmceffndnofgfaaClkG
namespace Go.Proofs.Ytmceffndnofgfaa
open Go.RowKit Go.Maps

theorem trust_less {l a b : Int} (ha : 0 ≤ a) (hab : a ≤ b) (hb : b ≤ 999) : trustOf l b ≤ trustOf l a := by
  unfold trustOf
  by_cases hl : 1 ≤ l ∧ l ≤ 1048576
  · rw [if_pos ⟨hl, by omega⟩, if_pos ⟨hl, by omega⟩]
    rw [Int.le_ediv_iff_mul_le (by omega)]
    have h1 : l * (1000 - b) / (1000 + b) * (1000 + b) ≤ l * (1000 - b) := Int.ediv_mul_le _ (by omega)
    have h0 : 0 ≤ l * (1000 - b) / (1000 + b) := Int.ediv_nonneg (Int.mul_nonneg (by omega) (by omega)) (by omega)
    have h2 : l * (1000 - b) / (1000 + b) * (1000 + a) ≤ l * (1000 - b) / (1000 + b) * (1000 + b) := Int.mul_le_mul_of_nonneg_left (by omega) h0
    have h3 : l * (1000 - b) ≤ l * (1000 - a) := Int.mul_le_mul_of_nonneg_left (by omega) (by omega)
    omega
  · rw [if_neg (fun h => hl h.1), if_neg (fun h => hl h.1)]
    exact Int.le_refl _
theorem trust_more {l a : Int} (h1 : 1 ≤ l) (h2 : l < 1048576) : trustOf l a ≤ trustOf (l + 1) a := by
  unfold trustOf
  by_cases ha : 0 ≤ a ∧ a ≤ 999
  · rw [if_pos ⟨by omega, ha⟩, if_pos ⟨by omega, ha⟩]
    exact Int.ediv_le_ediv (by omega) (Int.mul_le_mul_of_nonneg_right (by omega) (by omega))
  · rw [if_neg (fun h => ha h.2), if_neg (fun h => ha h.2)]
    exact Int.le_refl _
theorem trust_zero {l : Int} (h1 : 1 ≤ l) (h2 : l < 1048576) : trustOf l 0 = l := by
  unfold trustOf
  rw [if_pos ⟨by omega, by omega⟩]
  omega
theorem trust_1000 (l : Int) : trustOf l 1000 = 0 := by
  unfold trustOf
  rw [if_neg (by omega)]

theorem HeldInt.below {w w' : World} {ao : Option Addr} {xs : List Int} (h : HeldInt w ao xs) (hb : Below w.heap.size w w') : HeldInt w' ao xs :=
  h.turned (F := fun _ => False) (Turns.of_below hb (Nat.le_refl _)) (fun _ _ _ _ h => h)
theorem keeps_neg (t : Int) (xs : List Int) : decide (KeepsAll t xs (-1)) = false := decide_eq_false (fun h => by have := h.2.2.1.1; omega)
theorem wrap_succ {l : Int} (h1 : 1 ≤ l) (h2 : l < 1048576) : wrap64 (l + 1) = l + 1 := wrapS (by omega) (by omega)

section
variable (t : Int) (ao : Option Addr) (cap : Nat) (xs : List Int) (a b l : Int) (w : World)
end
end Go.Proofs.Ytmceffndnofgfaa
