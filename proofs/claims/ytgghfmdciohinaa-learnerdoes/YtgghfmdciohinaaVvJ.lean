/-
  The iterator of vv.Between: it yields the dots that b has and a has not, in order, till it is told to stop; in a fence.
-/
import Derived.Test.YtgghfmdciohinaaVvI
import Derived.RangeFuncNested
import Derived.RangeFuncBound
import Derived.RangeFuncCalls
import Derived.RangeFuncLeaves
import Derived.RangeFuncBox
import Derived.RangeFuncKeeps
import Derived.Shelf.Abstract
import Derived.Shelf.RegionOpen
import Derived.OwnWalkIn
import Derived.TacticsInMore
import Derived.LoopNIn
import Derived.LoopIn
namespace Go.Proofs.Ytgghfmdciohinaa
open Go.RowKit Go.Shelf Go.Maps
attribute [local go_sem] Oper.semAt_some

/-- How many dots of an origin a has (none below 0). -/
def hadOf (a : List Int) (o : Nat) : Int := max (a.getD o 0) 0
/-- How many more b has. -/
def moreOf (a b : List Int) (o : Nat) : Int := max (b.getD o 0) 0 - hadOf a o
def rowOf (a b : List Int) (o : Nat) : List (Int × Int) := (List.range (moreOf a b o).toNat).map fun i : Nat => ((o : Int), hadOf a o + (i : Int) + 1)
/-- The dots from an origin on. -/
def rowsFrom (a b : List Int) (k : Nat) : List (Int × Int) := (List.range' k (b.length - k)).flatMap (rowOf a b)
def dotsAll (a b : List Int) : List (Int × Int) := rowsFrom a b 0
theorem rowsFrom_step (a b : List Int) {k : Nat} (h : k < b.length) : rowsFrom a b k = rowOf a b k ++ rowsFrom a b (k + 1) := by
  unfold rowsFrom
  obtain ⟨n, hn⟩ : ∃ n, b.length - k = n + 1 := ⟨b.length - k - 1, by omega⟩
  rw [hn, show b.length - (k + 1) = n by omega, List.range'_succ]
  simp
theorem rowsFrom_end (a b : List Int) {k : Nat} (h : ¬ k < b.length) : rowsFrom a b k = [] := by
  unfold rowsFrom
  rw [show b.length - k = 0 by omega]
  rfl
theorem row_len (a b : List Int) (o : Nat) : (rowOf a b o).length = (moreOf a b o).toNat := by simp [rowOf]
theorem row_drop (a b : List Int) (o : Nat) {j : Nat} (h : j < (moreOf a b o).toNat) : (rowOf a b o).drop j = ((o : Int), hadOf a o + (j : Int) + 1) :: (rowOf a b o).drop (j + 1) := by
  rw [List.drop_eq_getElem_cons (by rw [row_len]; exact h)]
  simp [rowOf]
theorem row_drop_end (a b : List Int) (o : Nat) {j : Nat} (h : ¬ j < (moreOf a b o).toNat) : (rowOf a b o).drop j = [] := List.drop_eq_nil_of_le (by rw [row_len]; omega)
theorem wrap_row {H C B : Int} {j : Nat} (hj : (j : Int) < C) (h0 : 0 ≤ H) (hC : C = B - H) (hB : B ≤ 9223372036854775807) : wrap64 (wrap64 (H + (j : Int)) + 1) = H + (j : Int) + 1 := by
  rw [wrapS (x := H + (j : Int)) (by omega) (by omega), wrapS (by omega) (by omega)]
theorem wrap_row1 {H C B : Int} {j : Nat} (hj : (j : Int) < C) (h0 : 0 ≤ H) (hC : C = B - H) (hB : B ≤ 9223372036854775807) : wrap64 (H + (j : Int)) = H + (j : Int) := wrapS (by omega) (by omega)
theorem wrap_row2 {H C B : Int} {j : Nat} (hj : (j : Int) < C) (h0 : 0 ≤ H) (hC : C = B - H) (hB : B ≤ 9223372036854775807) : wrap64 (H + (j : Int) + 1) = H + (j : Int) + 1 := wrapS (by omega) (by omega)
theorem wrap_cnt {H B : Int} (h0 : 0 ≤ H) (h1 : H ≤ 9223372036854775807) (h2 : 0 ≤ B) (hB : B ≤ 9223372036854775807) : wrap64 (B - H) = B - H := wrapS (by omega) (by omega)
theorem wrap_j {C : Int} {j : Nat} (hj : (j : Int) < C) (hC : C ≤ 9223372036854775807) : wrap64 ((j : Int) + 1) = (j : Int) + 1 := wrapS (by omega) (by omega)
theorem had_rng {X H : Int} (h : max X 0 = H) (hX : -9223372036854775808 ≤ X ∧ X ≤ 9223372036854775807) : 0 ≤ H ∧ H ≤ 9223372036854775807 := by omega
theorem cnt_rng {C G H : Int} (h : C = G - H) (h1 : 0 ≤ H ∧ H ≤ 9223372036854775807) (h2 : 0 ≤ G ∧ G ≤ 9223372036854775807) : C ≤ 9223372036854775807 := by omega
theorem toNat_lt {C : Int} {j : Nat} (h : (j : Int) < C) : j < C.toNat := by omega
theorem toNat_nlt {C : Int} {j : Nat} (h : ¬ (j : Int) < C) : ¬ j < C.toNat := by omega
theorem toNat_meas {C : Int} {j : Nat} (h : (j : Int) < C) (hw : wrap64 ((j : Int) + 1) = (j : Int) + 1) : C.toNat - (intOf (.int .i64 (wrap64 ((j : Int) + 1)))).toNat < C.toNat - (intOf (.int .i64 (j : Int))).toNat := by
  rw [hw]
  simp only [intOf]
  omega
def dotV (x : Int × Int) : Value := .agg #[.int .i64 x.1, .int .i64 x.2]

end Go.Proofs.Ytgghfmdciohinaa
