/-
  Plain mathematics of clocks that drift (no program): the least drift that a tick keeps, and what trust comes to. Nothing of the Go text is named here.
-/
import Derived.WalkKit
namespace Go.Proofs.Ytmceffndnofgfaa

/-- A clock that goes on by a in the time t keeps the drift r. -/
def Keeps1 (t a r : Int) : Prop := (1000 - r) * t ≤ 1000 * a ∧ 1000 * a ≤ (1000 + r) * t
instance (t a r : Int) : Decidable (Keeps1 t a r) := by unfold Keeps1; infer_instance
def offOf (t a : Int) : Int := if t ≤ a then a - t else t - a
def rup (x y : Int) : Int := if x % y = 0 then x / y else x / y + 1
/-- The least drift that one clock keeps; 1000, if it keeps none. -/
def driftOf (t a : Int) : Int := if offOf t a = 0 then 0 else if t ≤ offOf t a then 1000 else rup (offOf t a * 1000) t

theorem rup_le {x y r : Int} (hy : 0 < y) : rup x y ≤ r ↔ x ≤ r * y := by
  unfold rup
  have h1 := Int.emod_add_mul_ediv x y
  have h2 := Int.emod_nonneg x (by omega : y ≠ 0)
  have h3 := Int.emod_lt_of_pos x hy
  generalize x % y = m at *
  generalize x / y = q at *
  have hx : x = m + y * q := h1.symm
  subst hx
  split
  · next hm =>
    subst hm
    constructor
    · intro h
      have := Int.mul_le_mul_of_nonneg_left h (by omega : 0 ≤ y)
      rw [Int.mul_comm y r] at this
      omega
    · intro h
      apply Int.le_of_mul_le_mul_left _ hy
      rw [Int.mul_comm y r]
      omega
  · next hm =>
    constructor
    · intro h
      have := Int.mul_le_mul_of_nonneg_left h (by omega : 0 ≤ y)
      rw [Int.mul_comm y r, Int.mul_add, Int.mul_one] at this
      omega
    · intro h
      have h4 : y * q < y * r := by rw [Int.mul_comm y r]; omega
      have := Int.lt_of_mul_lt_mul_left h4 (by omega : 0 ≤ y)
      omega

theorem driftOf_le {t a r : Int} (ht : 0 ≤ t) (ha : 0 ≤ a) (hr : 0 ≤ r) (hr' : r ≤ 999) : driftOf t a ≤ r ↔ Keeps1 t a r := by
  have hrt : 0 ≤ r * t := Int.mul_nonneg hr ht
  have hrt' : r * t ≤ 999 * t := Int.mul_le_mul_of_nonneg_right hr' ht
  have e1 : (1000 - r) * t = 1000 * t - r * t := Int.sub_mul _ _ _
  have e2 : (1000 + r) * t = 1000 * t + r * t := Int.add_mul _ _ _
  unfold driftOf Keeps1
  rw [e1, e2]
  by_cases h0 : offOf t a = 0
  · rw [if_pos h0]
    unfold offOf at h0
    split at h0 <;> omega
  · rw [if_neg h0]
    by_cases h1 : t ≤ offOf t a
    · rw [if_pos h1]
      unfold offOf at h0 h1
      split at h0 <;> split at h1 <;> omega
    · rw [if_neg h1, rup_le (by unfold offOf at h1; split at h1 <;> omega)]
      unfold offOf at h0 h1 ⊢
      split at h0 <;> split at h1 <;> omega

theorem rup_nonneg {x y : Int} (hx : 0 ≤ x) (hy : 0 < y) : 0 ≤ rup x y := by
  unfold rup
  have := Int.ediv_nonneg hx (by omega : 0 ≤ y)
  split <;> omega
theorem offOf_nonneg (t a : Int) : 0 ≤ offOf t a := by unfold offOf; split <;> omega
theorem driftOf_range {t a : Int} (ht : 0 ≤ t) : 0 ≤ driftOf t a ∧ driftOf t a ≤ 1000 := by
  unfold driftOf
  have := offOf_nonneg t a
  split
  · omega
  · split
    · omega
    · refine ⟨rup_nonneg (by omega) (by omega), ?_⟩
      rw [rup_le (by omega)]
      have : offOf t a * 1000 ≤ t * 1000 := by omega
      omega

/-- The least drift that all of on keep, and m. -/
def needOf (t : Int) (m : Int) (on : List Int) : Int := on.foldl (fun m a => max m (driftOf t a)) m
theorem needOf_cons (t m a : Int) (on : List Int) : needOf t m (a :: on) = needOf t (max m (driftOf t a)) on := rfl
theorem needOf_snoc (t m a : Int) (on : List Int) : needOf t m (on ++ [a]) = max (needOf t m on) (driftOf t a) := by simp [needOf]
theorem needOf_le {t m r : Int} : ∀ {on : List Int}, needOf t m on ≤ r ↔ m ≤ r ∧ ∀ a ∈ on, driftOf t a ≤ r
  | [] => by simp [needOf]
  | a :: on => by
    rw [needOf_cons, needOf_le (on := on)]
    simp only [List.mem_cons, forall_eq_or_imp]
    constructor
    · rintro ⟨h1, h2⟩
      exact ⟨by omega, by omega, h2⟩
    · rintro ⟨h1, h2, h3⟩
      exact ⟨by omega, h3⟩
theorem needOf_range {t : Int} (ht : 0 ≤ t) : ∀ {on : List Int} {m : Int}, 0 ≤ m → m ≤ 1000 → 0 ≤ needOf t m on ∧ needOf t m on ≤ 1000
  | [], _, h0, h1 => ⟨h0, h1⟩
  | a :: on, m, h0, h1 => by
    rw [needOf_cons]
    have := driftOf_range (a := a) ht
    exact needOf_range ht (by omega) (by omega)

/-- A number that a tick may have. -/
def Right (x : Int) : Prop := 0 ≤ x ∧ x ≤ 1048576
instance (x : Int) : Decidable (Right x) := by unfold Right; infer_instance
/-- A tick keeps a drift. -/
def KeepsAll (t : Int) (on : List Int) (r : Int) : Prop := Right t ∧ (∀ a ∈ on, Right a) ∧ (0 ≤ r ∧ r ≤ 999) ∧ needOf t 0 on ≤ r
instance (t : Int) (on : List Int) (r : Int) : Decidable (KeepsAll t on r) := by unfold KeepsAll; infer_instance
theorem keepsAll_iff {t r : Int} {on : List Int} : KeepsAll t on r ↔ Right t ∧ (∀ a ∈ on, Right a) ∧ (0 ≤ r ∧ r ≤ 999) ∧ ∀ a ∈ on, Keeps1 t a r := by
  unfold KeepsAll
  constructor
  · rintro ⟨h1, h2, h3, h4⟩
    exact ⟨h1, h2, h3, fun a ha => (driftOf_le h1.1 (h2 a ha).1 h3.1 h3.2).1 ((needOf_le.1 h4).2 a ha)⟩
  · rintro ⟨h1, h2, h3, h4⟩
    exact ⟨h1, h2, h3, needOf_le.2 ⟨h3.1, fun a ha => (driftOf_le h1.1 (h2 a ha).1 h3.1 h3.2).2 (h4 a ha)⟩⟩
theorem keepsAll_wider {t r r' : Int} {on : List Int} (h : KeepsAll t on r) (hr : r ≤ r') (hr' : r' ≤ 999) : KeepsAll t on r' :=
  ⟨h.1, h.2.1, ⟨by have := h.2.2.1.1; omega, hr'⟩, Int.le_trans h.2.2.2 hr⟩

/-- What trust comes to. -/
def trustOf (lease r : Int) : Int := if (1 ≤ lease ∧ lease ≤ 1048576) ∧ 0 ≤ r ∧ r ≤ 999 then lease * (1000 - r) / (1000 + r) else 0
theorem trust_mul {lease r A : Int} (hr : 0 ≤ r) : A < lease * (1000 - r) / (1000 + r) ↔ (A + 1) * (1000 + r) ≤ lease * (1000 - r) := by
  rw [← Int.le_ediv_iff_mul_le (by omega : (0:Int) < 1000 + r)]
  omega
/-- Trust is over before a promise is. -/
theorem trust_over {lease r A B T T' : Int} (hA0 : 0 ≤ A) (h1 : T' ≤ T) (ha : (1000 - r) * T ≤ 1000 * A) (hb : 1000 * B ≤ (1000 + r) * T') (hA : A < trustOf lease r) : B < lease := by
  unfold trustOf at hA
  split at hA
  · next hc =>
    obtain ⟨⟨hl, _⟩, hr, hr'⟩ := hc
    rw [trust_mul hr] at hA
    apply Int.lt_of_not_ge
    intro hB
    have p1 : (1000 - r) * (1000 * B) ≤ (1000 - r) * ((1000 + r) * T') := Int.mul_le_mul_of_nonneg_left hb (by omega)
    have p2 : (1000 + r) * ((1000 - r) * T') ≤ (1000 + r) * ((1000 - r) * T) := Int.mul_le_mul_of_nonneg_left (Int.mul_le_mul_of_nonneg_left h1 (by omega)) (by omega)
    have p3 : (1000 + r) * ((1000 - r) * T) ≤ (1000 + r) * (1000 * A) := Int.mul_le_mul_of_nonneg_left ha (by omega)
    have p4 : (1000 - r) * (1000 * lease) ≤ (1000 - r) * (1000 * B) := Int.mul_le_mul_of_nonneg_left (by omega) (by omega)
    have e1 : (1000 - r) * ((1000 + r) * T') = (1000 + r) * ((1000 - r) * T') := by rw [← Int.mul_assoc, Int.mul_comm (1000 - r), Int.mul_assoc]
    have e2 : (A + 1) * (1000 + r) = (1000 + r) * A + (1000 + r) := by rw [Int.add_mul, Int.mul_comm A, Int.one_mul]
    have e3 : (1000 + r) * (1000 * A) = 1000 * ((1000 + r) * A) := by rw [← Int.mul_assoc, Int.mul_comm _ 1000, Int.mul_assoc]
    have e4 : (1000 - r) * (1000 * lease) = 1000 * (lease * (1000 - r)) := by rw [← Int.mul_assoc, Int.mul_comm _ 1000, Int.mul_assoc, Int.mul_comm (1000 - r)]
    omega
  · omega

theorem Keeps1.add {t a t' a' r : Int} (h : Keeps1 t a r) (h' : Keeps1 t' a' r) : Keeps1 (t + t') (a + a') r := by
  unfold Keeps1 at *
  rw [Int.mul_add, Int.mul_add, Int.mul_add]
  omega
theorem Keeps1.zero (r : Int) : Keeps1 0 0 r := by simp [Keeps1]
/-- One behind the other: what stands at k and later at i, and what is now. -/
structure Chain (r : Int) (ts cs : List Int) (T C : Int) : Prop where
  len : ts.length = cs.length
  now : ∀ k, k < ts.length → (0 ≤ T - ts.getD k 0 ∧ 0 ≤ C - cs.getD k 0) ∧ Keeps1 (T - ts.getD k 0) (C - cs.getD k 0) r
  two : ∀ k i, k ≤ i → i < ts.length → (0 ≤ ts.getD i 0 - ts.getD k 0 ∧ 0 ≤ cs.getD i 0 - cs.getD k 0) ∧ Keeps1 (ts.getD i 0 - ts.getD k 0) (cs.getD i 0 - cs.getD k 0) r
theorem Chain.nil (r T C : Int) : Chain r [] [] T C := ⟨rfl, fun k h => (by cases h), fun k i _ h => (by cases h)⟩
theorem getD_snoc_lt {α : Type} (l : List α) (x d : α) (k : Nat) (h : k < l.length) : (l ++ [x]).getD k d = l.getD k d := by
  simp [List.getD, List.getElem?_append_left h]
theorem getD_snoc_end {α : Type} (l : List α) (x d : α) (k : Nat) (h : k = l.length) : (l ++ [x]).getD k d = x := by
  subst h
  simp [List.getD]
theorem Chain.snoc {r T C t a : Int} {ts cs : List Int} (h : Chain r ts cs T C) (ht : 0 ≤ t) (ha : 0 ≤ a) (hk : Keeps1 t a r) : Chain r (ts ++ [T + t]) (cs ++ [C + a]) (T + t) (C + a) := by
  have hl := h.len
  have h1 : ∀ k, k < ts.length → (0 ≤ T + t - ts.getD k 0 ∧ 0 ≤ C + a - cs.getD k 0) ∧ Keeps1 (T + t - ts.getD k 0) (C + a - cs.getD k 0) r := by
    intro k hk'
    obtain ⟨⟨n1, n2⟩, n3⟩ := h.now k hk'
    refine ⟨⟨by omega, by omega⟩, ?_⟩
    have := n3.add hk
    rwa [show T - ts.getD k 0 + t = T + t - ts.getD k 0 by omega, show C - cs.getD k 0 + a = C + a - cs.getD k 0 by omega] at this
  have h2 : ∀ k, k < ts.length + 1 → (0 ≤ T + t - (ts ++ [T + t]).getD k 0 ∧ 0 ≤ C + a - (cs ++ [C + a]).getD k 0) ∧ Keeps1 (T + t - (ts ++ [T + t]).getD k 0) (C + a - (cs ++ [C + a]).getD k 0) r := by
    intro k hk'
    by_cases he : k = ts.length
    · rw [getD_snoc_end _ _ _ _ he, getD_snoc_end _ _ _ _ (by omega), Int.sub_self, Int.sub_self]
      exact ⟨⟨Int.le_refl _, Int.le_refl _⟩, Keeps1.zero r⟩
    · rw [getD_snoc_lt _ _ _ _ (by omega), getD_snoc_lt _ _ _ _ (by omega)]
      exact h1 k (by omega)
  refine ⟨by simp [hl], fun k hk' => h2 k (by simpa using hk'), fun k i hki hi => ?_⟩
  by_cases he : i = ts.length
  · rw [getD_snoc_end ts _ _ i he, getD_snoc_end cs _ _ i (by omega)]
    exact h2 k (by omega)
  · have hi' : i < ts.length := by
      simp at hi
      omega
    rw [getD_snoc_lt ts _ _ i hi', getD_snoc_lt cs _ _ i (by omega), getD_snoc_lt ts _ _ k (by omega), getD_snoc_lt cs _ _ k (by omega)]
    exact h.two k i hki hi'
end Go.Proofs.Ytmceffndnofgfaa
