/-
  Rows of numbers that rise strictly: two with the same numbers are the same; what is put at its place; what slices.Compact makes of a sorted row. No function of the program is named here.
-/
import Derived.Test.YtgghfmdciohinaaIntsA
import Derived.Lib.SlicesCompact
namespace Go.Proofs.Ytgghfmdciohinaa
open Go.RowKit

def Rises (l : List Int) : Prop := l.Pairwise (· < ·)
theorem rises_unique : ∀ {a b : List Int}, Rises a → Rises b → (∀ x, x ∈ a ↔ x ∈ b) → a = b
  | [], [], _, _, _ => rfl
  | [], y :: b, _, _, h => absurd ((h y).2 (by simp)) (by simp)
  | x :: a, [], _, _, h => absurd ((h x).1 (by simp)) (by simp)
  | x :: a, y :: b, ha, hb, h => by
    unfold Rises at ha hb
    rw [List.pairwise_cons] at ha hb
    have hxy : x = y := by
      rcases List.mem_cons.1 ((h x).1 (by simp)) with e | e
      · exact e
      · rcases List.mem_cons.1 ((h y).2 (by simp)) with e2 | e2
        · exact e2.symm
        · have := hb.1 x e
          have := ha.1 y e2
          omega
    subst hxy
    congr 1
    refine rises_unique ha.2 hb.2 (fun z => ⟨fun hz => ?_, fun hz => ?_⟩)
    · rcases List.mem_cons.1 ((h z).1 (List.mem_cons_of_mem _ hz)) with e | e
      · subst e; have := ha.1 z hz; omega
      · exact e
    · rcases List.mem_cons.1 ((h z).2 (List.mem_cons_of_mem _ hz)) with e | e
      · subst e; have := hb.1 z hz; omega
      · exact e
/-- How many stand ahead of x's place. -/
def aheadOf (l : List Int) (x : Int) : Nat := (l.takeWhile (fun y => decide (y < x))).length
theorem aheadOf_le (l : List Int) (x : Int) : aheadOf l x ≤ l.length := (List.takeWhile_prefix _).length_le
theorem aheadOf_lt : ∀ (l : List Int) (x : Int) (j : Nat) (hj : j < l.length), j < aheadOf l x → l[j] < x
  | [], _, _, hj, _ => by cases hj
  | y :: l, x, 0, _, h => by
    unfold aheadOf at h
    rw [List.takeWhile_cons] at h
    split at h
    · next hy => simpa using hy
    · simp at h
  | y :: l, x, j + 1, hj, h => by
    unfold aheadOf at h
    rw [List.takeWhile_cons] at h
    split at h
    · simp only [List.length_cons] at h
      exact aheadOf_lt l x j (by simpa using hj) (by unfold aheadOf; omega)
    · simp at h
theorem aheadOf_at : ∀ (l : List Int) (x : Int) (h : aheadOf l x < l.length), x ≤ l[aheadOf l x]
  | [], _, h => by cases h
  | y :: l, x, h => by
    by_cases hy : y < x
    · have e : aheadOf (y :: l) x = aheadOf l x + 1 := by unfold aheadOf; rw [List.takeWhile_cons, if_pos (by simpa using hy)]; simp
      have h' : aheadOf l x < l.length := by rw [e] at h; simpa using h
      have := aheadOf_at l x h'
      simp only [e, List.getElem_cons_succ]
      exact this
    · have e : aheadOf (y :: l) x = 0 := by unfold aheadOf; rw [List.takeWhile_cons, if_neg (by simpa using hy)]; rfl
      simp only [e, List.getElem_cons_zero]
      omega
/-- The row's own search stops where x belongs. -/
theorem aheadOf_eq {l : List Int} {x : Int} {k : Nat} (h1 : ∀ j (hj : j < l.length), j < k → l[j] < x) (hk : k ≤ l.length) (h2 : k = l.length ∨ ∃ h : k < l.length, ¬ l[k] < x) : k = aheadOf l x := by
  rcases Nat.lt_trichotomy k (aheadOf l x) with h | h | h
  · have hl := aheadOf_le l x
    rcases h2 with h2 | ⟨h3, h4⟩
    · omega
    · exact absurd (aheadOf_lt l x k h3 h) h4
  · exact h
  · have h3 : aheadOf l x < l.length := by omega
    have := aheadOf_at l x h3
    have := h1 _ h3 h
    omega
/-- x at its place, where it is not there yet. -/
def putS (l : List Int) (x : Int) : List Int := if aheadOf l x = l.length ∨ l.getD (aheadOf l x) 0 ≠ x then l.take (aheadOf l x) ++ [x] ++ l.drop (aheadOf l x) else l
theorem putS_mem (l : List Int) (x y : Int) : y ∈ putS l x ↔ y ∈ l ∨ y = x := by
  unfold putS
  split
  · rw [List.mem_append, List.mem_append, List.mem_singleton]
    constructor
    · rintro ((h | h) | h)
      · exact .inl (List.mem_of_mem_take h)
      · exact .inr h
      · exact .inl (List.mem_of_mem_drop h)
    · rintro (h | h)
      · rw [← List.take_append_drop (aheadOf l x) l] at h
        rcases List.mem_append.1 h with h | h
        · exact .inl (.inl h)
        · exact .inr h
      · exact .inl (.inr h)
  · next h =>
    simp only [not_or, ne_eq, Decidable.not_not] at h
    refine ⟨.inl, fun hh => ?_⟩
    rcases hh with hh | rfl
    · exact hh
    · have hl : aheadOf l y < l.length := by have := aheadOf_le l y; omega
      have := h.2
      rw [show l.getD (aheadOf l y) 0 = l[aheadOf l y] by simp [List.getD, List.getElem?_eq_getElem hl]] at this
      rw [← this]
      exact List.getElem_mem hl
theorem putS_rises {l : List Int} (hl : Rises l) (x : Int) : Rises (putS l x) := by
  unfold putS
  split
  · next h =>
    have hup : ∀ y ∈ l.drop (aheadOf l x), x < y := by
      intro y hy
      obtain ⟨j, hj, rfl⟩ := List.getElem_of_mem hy
      have hj' : aheadOf l x + j < l.length := by simp at hj; omega
      have h0 : aheadOf l x < l.length := by omega
      have hx : x < l[aheadOf l x] := by
        have h1 := aheadOf_at l x h0
        rcases h with h | h
        · omega
        · rw [show l.getD (aheadOf l x) 0 = l[aheadOf l x] by simp [List.getD, List.getElem?_eq_getElem h0]] at h
          omega
      rw [List.getElem_drop]
      rcases Nat.eq_zero_or_pos j with rfl | hp
      · simpa using hx
      · have := List.pairwise_iff_getElem.1 hl (aheadOf l x) (aheadOf l x + j) h0 hj' (by omega)
        omega
    have hdn : ∀ y ∈ l.take (aheadOf l x), y < x := by
      intro y hy
      obtain ⟨j, hj, rfl⟩ := List.getElem_of_mem hy
      have hj' : j < aheadOf l x ∧ j < l.length := by simp at hj; omega
      rw [List.getElem_take]
      exact aheadOf_lt l x j hj'.2 hj'.1
    have e : l.take (aheadOf l x) ++ [x] ++ l.drop (aheadOf l x) = l.take (aheadOf l x) ++ x :: l.drop (aheadOf l x) := by simp
    rw [e]
    refine List.pairwise_append.2 ⟨hl.sublist (List.take_sublist _ _), List.pairwise_cons.2 ⟨hup, hl.sublist (List.drop_sublist _ _)⟩, fun a ha b hb => ?_⟩
    rcases List.mem_cons.1 hb with rfl | hb
    · exact hdn a ha
    · exact Int.lt_trans (hdn a ha) (hup b hb)
  · exact hl
theorem putS_len (l : List Int) (x : Int) : (putS l x).length ≤ l.length + 1 := by
  unfold putS
  split
  · have := aheadOf_le l x
    simp
    omega
  · omega
def putAll (l : List Int) : List Int := l.foldl putS []
theorem putAll_snoc (l : List Int) (x : Int) : putAll (l ++ [x]) = putS (putAll l) x := by simp [putAll]
theorem foldS : ∀ (l a : List Int), Rises a → Rises (l.foldl putS a) ∧ (∀ y, y ∈ l.foldl putS a ↔ y ∈ a ∨ y ∈ l) ∧ (l.foldl putS a).length ≤ a.length + l.length
  | [], a, ha => ⟨ha, fun y => by simp, by simp⟩
  | x :: l, a, ha => by
    obtain ⟨h1, h2, h3⟩ := foldS l (putS a x) (putS_rises ha x)
    refine ⟨h1, fun y => ?_, ?_⟩
    · show y ∈ l.foldl putS (putS a x) ↔ _
      rw [h2, putS_mem, List.mem_cons, or_assoc]
    · have := putS_len a x
      show (l.foldl putS (putS a x)).length ≤ _
      simp only [List.length_cons]
      omega
theorem putAll_rises (l : List Int) : Rises (putAll l) := (foldS l [] .nil).1
theorem putAll_mem (l : List Int) (y : Int) : y ∈ putAll l ↔ y ∈ l := by
  have := (foldS l [] .nil).2.1 y
  simpa [putAll] using this
theorem putAll_len (l : List Int) : (putAll l).length ≤ l.length := by
  have := (foldS l [] .nil).2.2
  simpa [putAll] using this
/-- slices.Compact of a sorted row. -/
theorem compact_sorted {d : Array Int} (hs : ∀ i j, i < j → j < d.size → d[i]! ≤ d[j]!) : ∀ m, m ≤ d.size → Rises (Lib.compactUpTo d m) ∧ (∀ y ∈ Lib.compactUpTo d m, ∃ j, j < m ∧ y = d[j]!) ∧ (∀ j, j < m → d[j]! ∈ Lib.compactUpTo d m)
  | 0, _ => ⟨.nil, fun y hy => by simp [Lib.compactUpTo] at hy, fun j hj => by omega⟩
  | m + 1, hm => by
    obtain ⟨h1, h2, h3⟩ := compact_sorted hs m (by omega)
    rw [Lib.compactUpTo_succ]
    by_cases hk : Lib.keeps d m = true
    · rw [if_pos hk]
      refine ⟨List.pairwise_append.2 ⟨h1, by simp, fun a ha b hb => ?_⟩, fun y hy => ?_, fun j hj => ?_⟩
      · simp only [List.mem_singleton] at hb
        subst hb
        obtain ⟨j, hj, rfl⟩ := h2 a ha
        have hne : d[m]! ≠ d[m - 1]! := by
          simp only [Lib.keeps, decide_eq_true_eq] at hk
          rcases hk with h | h
          · omega
          · exact h
        have a1 : d[j]! ≤ d[m - 1]! := by
          rcases Nat.lt_or_ge j (m - 1) with h | h
          · exact hs j (m - 1) h (by omega)
          · rw [show j = m - 1 by omega]; exact Int.le_refl _
        have a2 := hs (m - 1) m (by omega) (by omega)
        omega
      · rcases List.mem_append.1 hy with h | h
        · obtain ⟨j, hj, e⟩ := h2 y h
          exact ⟨j, by omega, e⟩
        · simp only [List.mem_singleton] at h
          exact ⟨m, by omega, h⟩
      · rcases Nat.lt_or_ge j m with h | h
        · exact List.mem_append.2 (.inl (h3 j h))
        · rw [show j = m by omega]; simp
    · rw [if_neg hk, List.append_nil]
      refine ⟨h1, fun y hy => ?_, fun j hj => ?_⟩
      · obtain ⟨j, hj, e⟩ := h2 y hy
        exact ⟨j, by omega, e⟩
      · rcases Nat.lt_or_ge j m with h | h
        · exact h3 j h
        · have hm0 : m ≠ 0 ∧ d[m]! = d[m - 1]! := by
            simp only [Lib.keeps, decide_eq_true_eq, not_or, ne_eq, Decidable.not_not] at hk
            exact hk
          rw [show j = m by omega, hm0.2]
          exact h3 (m - 1) (by omega)
theorem compact_putAll (l : List Int) : Lib.compact (l.mergeSort fun x y => decide (x ≤ y)) = putAll l := by
  have hp : (l.mergeSort fun x y => decide (x ≤ y)).Pairwise (fun a b => decide (a ≤ b) = true) := List.pairwise_mergeSort (fun a b c h1 h2 => by simp at *; omega) (fun a b => by simp; omega) l
  obtain ⟨s, hs⟩ : ∃ s, s = l.mergeSort fun x y => decide (x ≤ y) := ⟨_, rfl⟩
  rw [← hs] at hp ⊢
  have hmem : ∀ y, y ∈ s ↔ y ∈ l := fun y => by rw [hs]; exact List.mem_mergeSort
  have hso : ∀ i j, i < j → j < s.toArray.size → s.toArray[i]! ≤ s.toArray[j]! := by
    intro i j hij hj
    have hj' : j < s.length := by simpa using hj
    have := List.pairwise_iff_getElem.1 hp i j (by omega) hj' hij
    rw [getElem!_pos s.toArray i (by simp; omega), getElem!_pos s.toArray j hj]
    simpa using this
  obtain ⟨h1, h2, h3⟩ := compact_sorted hso s.length (by simp)
  refine rises_unique h1 (putAll_rises l) (fun y => ?_)
  rw [putAll_mem, ← hmem y]
  constructor
  · intro hy
    obtain ⟨j, hj, rfl⟩ := h2 y hy
    rw [getElem!_pos s.toArray j (by simpa using hj)]
    simp
  · intro hy
    obtain ⟨j, hj, rfl⟩ := List.getElem_of_mem hy
    have := h3 j hj
    rw [getElem!_pos s.toArray j (by simpa using hj)] at this
    show _ ∈ Lib.compactUpTo s.toArray s.length
    simpa using this
end Go.Proofs.Ytgghfmdciohinaa
