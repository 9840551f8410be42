/-
  Version vectors as lists of numbers: without noughts at the end, the greater and the lesser of two, which one is below. No program is named here.
-/
import Derived.WalkKit
namespace Go.Proofs.Ytplecopphddjhaa

/-- The number of an origin. -/
def ofV (xs : List Int) (k : Int) : Int := if k < 0 ∨ (xs.length : Int) ≤ k then 0 else xs.getD k.toNat 0
theorem getD_far {xs : List Int} {k : Nat} (h : xs.length ≤ k) : xs.getD k 0 = 0 := by
  simp [List.getD, List.getElem?_eq_none h]
theorem ofV_nat (xs : List Int) (k : Nat) : ofV xs (k : Int) = xs.getD k 0 := by
  unfold ofV
  split
  · next h => rw [getD_far (by omega)]
  · simp
/-- Where f's first k numbers end, without noughts. -/
def endF (f : Nat → Int) : Nat → Nat
  | 0 => 0
  | k + 1 => if f k = 0 then endF f k else k + 1
theorem endF_le (f : Nat → Int) : ∀ k, endF f k ≤ k
  | 0 => Nat.le_refl _
  | k + 1 => by
    unfold endF
    split
    · have := endF_le f k; omega
    · exact Nat.le_refl _
theorem endF_zero (f : Nat → Int) : ∀ k i, endF f k ≤ i → i < k → f i = 0
  | 0, _, _, h => by omega
  | k + 1, i, h1, h2 => by
    unfold endF at h1
    split at h1
    · next h =>
      by_cases e : i = k
      · subst e; exact h
      · exact endF_zero f k i h1 (by omega)
    · omega
theorem endF_last (f : Nat → Int) : ∀ k, endF f k = 0 ∨ f (endF f k - 1) ≠ 0
  | 0 => .inl rfl
  | k + 1 => by
    unfold endF
    split
    · exact endF_last f k
    · right; simpa
def endOf (xs : List Int) : Nat := endF (fun i => xs.getD i 0) xs.length
/-- Without the noughts at the end. -/
def plainOf (xs : List Int) : List Int := xs.take (endOf xs)
theorem endOf_le (xs : List Int) : endOf xs ≤ xs.length := endF_le _ _
theorem plain_len (xs : List Int) : (plainOf xs).length = endOf xs := by
  unfold plainOf
  have := endOf_le xs
  simp
  omega
theorem plain_getD (xs : List Int) (i : Nat) : (plainOf xs).getD i 0 = xs.getD i 0 := by
  by_cases h : i < endOf xs
  · simp [plainOf, List.getD, List.getElem?_take_of_lt h]
  · rw [getD_far (by rw [plain_len]; omega)]
    by_cases h2 : i < xs.length
    · exact (endF_zero (fun i => xs.getD i 0) xs.length i (by unfold endOf at h; omega) h2).symm
    · rw [getD_far (by omega)]
theorem endOf_ext {a b : List Int} (h : ∀ i, a.getD i 0 = b.getD i 0) : endOf a = endOf b := by
  have key : ∀ a b : List Int, (∀ i, a.getD i 0 = b.getD i 0) → endOf a ≤ endOf b := by
    intro a b h
    rcases endF_last (fun i => a.getD i 0) a.length with h0 | h0
    · unfold endOf; rw [h0]; exact Nat.zero_le _
    · apply Nat.le_of_not_lt
      intro hlt
      apply h0
      show a.getD (endOf a - 1) 0 = 0
      rw [h]
      by_cases h2 : endOf a - 1 < b.length
      · exact endF_zero (fun i => b.getD i 0) b.length _ (by unfold endOf at hlt ⊢; omega) h2
      · rw [getD_far (by omega)]
  exact Nat.le_antisymm (key a b h) (key b a (fun i => (h i).symm))
theorem plain_ext {a b : List Int} (h : ∀ i, a.getD i 0 = b.getD i 0) : plainOf a = plainOf b := by
  have he := endOf_ext h
  apply List.ext_getElem
  · rw [plain_len, plain_len, he]
  · intro i h1 h2
    have := h i
    have e1 := plain_getD a i
    have e2 := plain_getD b i
    rw [← this, ← e1] at e2
    simpa [List.getD, List.getElem?_eq_getElem h1, List.getElem?_eq_getElem h2] using e2.symm
theorem plain_mem {xs : List Int} {p : Int → Prop} (h : ∀ x ∈ xs, p x) : ∀ x ∈ plainOf xs, p x := fun x hx => h x (List.mem_of_mem_take hx)

/-- Two vectors, place by place. -/
def joinOf (f : Int → Int → Int) (a b : List Int) : List Int := (List.range (max a.length b.length)).map fun i => f (a.getD i 0) (b.getD i 0)
theorem join_len (f : Int → Int → Int) (a b : List Int) : (joinOf f a b).length = max a.length b.length := by simp [joinOf]
theorem join_getD {f : Int → Int → Int} (hf : f 0 0 = 0) (a b : List Int) (i : Nat) : (joinOf f a b).getD i 0 = f (a.getD i 0) (b.getD i 0) := by
  by_cases h : i < max a.length b.length
  · simp [joinOf, List.getD, h]
  · rw [getD_far (by rw [join_len]; omega), getD_far (xs := a) (by omega), getD_far (xs := b) (by omega), hf]
def mergeOf (a b : List Int) : List Int := plainOf (joinOf (fun x y => max x y) a b)
def meetOf (a b : List Int) : List Int := plainOf (joinOf (fun x y => min x y) a b)
theorem merge_getD (a b : List Int) (i : Nat) : (mergeOf a b).getD i 0 = max (a.getD i 0) (b.getD i 0) := by
  unfold mergeOf
  rw [plain_getD, join_getD (by simp)]
theorem meet_getD (a b : List Int) (i : Nat) : (meetOf a b).getD i 0 = min (a.getD i 0) (b.getD i 0) := by
  unfold meetOf
  rw [plain_getD, join_getD (by simp)]
theorem ofV_merge (a b : List Int) (k : Int) : ofV (mergeOf a b) k = max (ofV a k) (ofV b k) := by
  by_cases h : k < 0
  · simp [ofV, h]
  · obtain ⟨n, rfl⟩ := Int.eq_ofNat_of_zero_le (by omega : 0 ≤ k)
    simp only [ofV_nat, merge_getD]
theorem ofV_meet (a b : List Int) (k : Int) : ofV (meetOf a b) k = min (ofV a k) (ofV b k) := by
  by_cases h : k < 0
  · simp [ofV, h]
  · obtain ⟨n, rfl⟩ := Int.eq_ofNat_of_zero_le (by omega : 0 ≤ k)
    simp only [ofV_nat, meet_getD]
/-- Each of a's numbers is at most b's. -/
def BelowV (a b : List Int) : Prop := ∀ i, i < max a.length b.length → a.getD i 0 ≤ b.getD i 0
instance (a b : List Int) : Decidable (BelowV a b) := by unfold BelowV; infer_instance
theorem belowV_iff {a b : List Int} : BelowV a b ↔ ∀ i, a.getD i 0 ≤ b.getD i 0 := by
  constructor
  · intro h i
    by_cases hi : i < max a.length b.length
    · exact h i hi
    · rw [getD_far (xs := a) (by omega), getD_far (xs := b) (by omega)]
      exact Int.le_refl _
  · exact fun h i _ => h i
def cmpOf (a b : List Int) : Int := if BelowV a b then (if BelowV b a then 0 else -1) else (if BelowV b a then 1 else 2)
/-- Has a dot. -/
def HasV (xs : List Int) (o s : Int) : Prop := 1 ≤ s ∧ s ≤ ofV xs o
instance (xs : List Int) (o s : Int) : Decidable (HasV xs o s) := by unfold HasV; infer_instance
/-- May be one. -/
def MayV (xs : List Int) : Prop := xs.length ≤ 7 ∧ ∀ x ∈ xs, 0 ≤ x ∧ x ≤ 2147483647
instance (xs : List Int) : Decidable (MayV xs) := by unfold MayV; infer_instance
theorem eq_iff_getD {a b : List Int} (ha : plainOf a = a) (hb : plainOf b = b) : a = b ↔ ∀ i, a.getD i 0 = b.getD i 0 := by
  constructor
  · rintro rfl i; rfl
  · intro h
    rw [← ha, ← hb]
    exact plain_ext h
theorem plain_plain (a : List Int) : plainOf (plainOf a) = plainOf a := plain_ext (plain_getD a)
theorem plain_merge (a b : List Int) : plainOf (mergeOf a b) = mergeOf a b := plain_plain _
theorem plain_meet (a b : List Int) : plainOf (meetOf a b) = meetOf a b := plain_plain _
end Go.Proofs.Ytplecopphddjhaa
