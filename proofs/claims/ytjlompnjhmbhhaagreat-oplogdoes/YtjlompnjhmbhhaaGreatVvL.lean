/-
  Count, the document's Count, of a vector that may be.
-/
import Derived.Test.YtjlompnjhmbhhaaGreatVvK
namespace Go.Proofs.YtjlompnjhmbhhaaGreat
open Go.RowKit Go.Maps

def cntV (xs : List Int) : Int := (xs.map fun x => max x 0).sum
theorem cnt_snoc (xs : List Int) (x : Int) : cntV (xs ++ [x]) = cntV xs + max x 0 := by simp [cntV]
theorem cnt_take {xs : List Int} {j : Nat} (h : j < xs.length) : cntV (xs.take (j + 1)) = cntV (xs.take j) + max (xs.getD j 0) 0 := by
  rw [List.take_succ_eq_append_getElem h, cnt_snoc]
  simp [List.getD, List.getElem?_eq_getElem h]
theorem cnt_rngV : ∀ {xs : List Int}, (∀ x ∈ xs, 0 ≤ x ∧ x ≤ 2147483647) → 0 ≤ cntV xs ∧ cntV xs ≤ 2147483647 * (xs.length : Int)
  | [], _ => by simp [cntV]
  | x :: xs, h => by
    have h1 := h x (by simp)
    have h2 := cnt_rngV (xs := xs) (fun y hy => h y (by simp [hy]))
    simp [cntV] at *
    omega
theorem cnt_may {xs : List Int} (h : MayV xs) (j : Nat) : 0 ≤ cntV (xs.take j) ∧ cntV (xs.take j) ≤ 15032385529 := by
  have h1 := cnt_rngV (xs := xs.take j) (fun x hx => h.2 x (List.mem_of_mem_take hx))
  have h2 : (xs.take j).length ≤ 7 := by have := h.1; simp; omega
  omega
theorem wrap_cntv {c x : Int} (h : 0 ≤ c ∧ c ≤ 15032385529) (hx : 0 ≤ x ∧ x ≤ 2147483647) : wrap64 (c + x) = c + x := wrapS (by omega) (by omega)

end Go.Proofs.YtjlompnjhmbhhaaGreat
