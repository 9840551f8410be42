/-
  Package lin, with no memory in it: what Check tells, as moments at which the orders come ('Fit', 'TurnsP'); sights fewer and looser.
-/
import Derived.Test.YtfjmhfbmphdjiaaLnK
namespace Go.Proofs.Ytfjmhfbmphdjiaa
open Go.RowKit

theorem foldl_max_le {m : Int} : ∀ (r : List Int) (x : Int), r.foldl max x ≤ m ↔ x ≤ m ∧ ∀ y ∈ r, y ≤ m
  | [], x => by simp
  | y :: r, x => by
    rw [List.foldl_cons, foldl_max_le r (max x y)]
    simp only [List.mem_cons, forall_eq_or_imp]
    constructor
    · rintro ⟨h1, h2⟩
      exact ⟨by omega, by omega, h2⟩
    · rintro ⟨h1, h2, h3⟩
      exact ⟨by omega, h3⟩
theorem foldl_min_ge {m : Int} : ∀ (r : List Int) (x : Int), m ≤ r.foldl min x ↔ m ≤ x ∧ ∀ y ∈ r, m ≤ y
  | [], x => by simp
  | y :: r, x => by
    rw [List.foldl_cons, foldl_min_ge r (min x y)]
    simp only [List.mem_cons, forall_eq_or_imp]
    constructor
    · rintro ⟨h1, h2⟩
      exact ⟨by omega, by omega, h2⟩
    · rintro ⟨h1, h2, h3⟩
      exact ⟨by omega, h3⟩
theorem maxI_le {m : Int} {xs : List Int} (h : xs ≠ []) : maxI xs ≤ m ↔ ∀ y ∈ xs, y ≤ m := by
  cases xs with
  | nil => exact absurd rfl h
  | cons x r =>
    show r.foldl max x ≤ m ↔ _
    rw [foldl_max_le]
    simp
theorem minI_ge {m : Int} {xs : List Int} (h : xs ≠ []) : m ≤ minI xs ↔ ∀ y ∈ xs, m ≤ y := by
  cases xs with
  | nil => exact absurd rfl h
  | cons x r =>
    show m ≤ r.foldl min x ↔ _
    rw [foldl_min_ge]
    simp
theorem minI_le {m : Int} {xs : List Int} (h : xs ≠ []) : minI xs ≤ m ↔ ∃ y ∈ xs, y ≤ m := by
  have := minI_ge (m := m + 1) h
  constructor
  · intro h1
    apply Classical.byContradiction
    intro h2
    have h3 : m + 1 ≤ minI xs := this.2 (fun y hy => by
      have : ¬ y ≤ m := fun h4 => h2 ⟨y, hy, h4⟩
      omega)
    omega
  · rintro ⟨y, hy, h1⟩
    apply Classical.byContradiction
    intro h2
    have := this.1 (by omega) y hy
    omega
def AllMay (xs : List Sn) : Prop := ∀ s ∈ xs, mayS s = true
theorem mayS_iff {s : Sn} : mayS s = true ↔ (1 ≤ s.b ∧ s.b < MT ∧ 0 ≤ s.id) ∧ (s.e = 0 → s.id = 0) ∧ (s.e ≠ 0 → s.b ≤ s.e ∧ s.e < MT) := by
  unfold mayS MT
  by_cases h : s.e = 0
  · simp [h]
  · simp [h]
/-- The order of token t and number i may come at moment m. -/
structure Fit (xs : List Sn) (t : ByteArray) (i m : Int) : Prop where
  lt : m < MT
  co : ∃ s ∈ xs, s.tok = t ∧ s.co = true ∧ s.b ≤ m
  non : ∀ s ∈ xs, s.tok = t → s.co = false → s.e ≠ 0 → s.id = 0 → s.b ≤ m
  tell : ∀ s ∈ xs, s.tok = t → s.e ≠ 0 → s.id = i → m ≤ s.e
theorem last_ge {xs : List Sn} {t : ByteArray} {i m : Int} (hm : m ≤ MT) : m ≤ lastL xs t i ↔ ∀ s ∈ xs, s.tok = t → s.e ≠ 0 → s.id = i → m ≤ s.e := by
  have hmem : ∀ y, y ∈ endsL xs t i ↔ ∃ s ∈ xs, (s.tok = t ∧ s.e ≠ 0 ∧ s.id = i) ∧ s.e = y := by
    intro y
    unfold endsL
    simp [and_assoc]
  unfold lastL
  split
  · next h =>
    refine ⟨fun _ s hs h1 h2 h3 => ?_, fun _ => hm⟩
    have : s.e ∈ endsL xs t i := (hmem _).2 ⟨s, hs, ⟨h1, h2, h3⟩, rfl⟩
    rw [h] at this
    cases this
  · next h =>
    rw [minI_ge h]
    constructor
    · intro h4 s hs h1 h2 h3
      exact h4 _ ((hmem _).2 ⟨s, hs, ⟨h1, h2, h3⟩, rfl⟩)
    · intro h4 y hy
      obtain ⟨s, hs, ⟨h1, h2, h3⟩, rfl⟩ := (hmem y).1 hy
      exact h4 s hs h1 h2 h3
theorem last_le {xs : List Sn} (hx : AllMay xs) (t : ByteArray) (i : Int) : lastL xs t i ≤ MT := by
  unfold lastL
  split
  · exact Int.le_refl _
  · next h =>
    obtain ⟨y, r, hy⟩ := List.exists_cons_of_ne_nil h
    refine (minI_le h).2 ⟨y, by rw [hy]; exact List.mem_cons_self, ?_⟩
    have hm : y ∈ endsL xs t i := by rw [hy]; exact List.mem_cons_self
    unfold endsL at hm
    obtain ⟨s, hs, rfl⟩ := List.mem_map.1 hm
    obtain ⟨h1, h2⟩ := List.mem_filter.1 hs
    have h3 : s.e ≠ 0 := by simp at h2; exact h2.2.1
    have := ((mayS_iff.1 (hx s h1)).2.2 h3).2
    omega
theorem first_le {xs : List Sn} {t : ByteArray} {m : Int} (hm : m < MT) : firstL xs t ≤ m ↔ (∃ s ∈ xs, s.tok = t ∧ s.co = true ∧ s.b ≤ m) ∧ ∀ s ∈ xs, s.tok = t → s.co = false → s.e ≠ 0 → s.id = 0 → s.b ≤ m := by
  have hmb : ∀ y, y ∈ begsL xs t ↔ ∃ s ∈ xs, (s.tok = t ∧ s.co = true) ∧ s.b = y := by
    intro y
    unfold begsL
    simp [and_assoc]
  have hmn : ∀ y, y ∈ nonsL xs t ↔ ∃ s ∈ xs, (s.tok = t ∧ s.co = false ∧ s.e ≠ 0 ∧ s.id = 0) ∧ s.b = y := by
    intro y
    unfold nonsL
    simp [and_assoc]
  unfold firstL
  split
  · next h =>
    constructor
    · intro h1; omega
    · rintro ⟨⟨s, hs, h1, h2, _⟩, _⟩
      have : s.b ∈ begsL xs t := (hmb _).2 ⟨s, hs, ⟨h1, h2⟩, rfl⟩
      rw [h] at this
      cases this
  · next h =>
    rw [maxI_le (by simp)]
    constructor
    · intro h1
      have h2 := h1 _ (List.mem_append_right _ (List.mem_singleton.2 rfl))
      obtain ⟨y, hy, hym⟩ := (minI_le h).1 h2
      obtain ⟨s, hs, ⟨h3, h4⟩, rfl⟩ := (hmb y).1 hy
      exact ⟨⟨s, hs, h3, h4, hym⟩, fun s hs a b c d => h1 _ (List.mem_append_left _ ((hmn _).2 ⟨s, hs, ⟨a, b, c, d⟩, rfl⟩))⟩
    · rintro ⟨⟨s, hs, h3, h4, hym⟩, h5⟩ y hy
      rcases List.mem_append.1 hy with hy | hy
      · obtain ⟨s, hs, ⟨a, b, c, d⟩, rfl⟩ := (hmn y).1 hy
        exact h5 s hs a b c d
      · rw [List.mem_singleton.1 hy]
        exact (minI_le h).2 ⟨s.b, (hmb _).2 ⟨s, hs, ⟨h3, h4⟩, rfl⟩, hym⟩
/-- There are moments, one behind the other, at which the orders may come. -/
def TurnsP (xs : List Sn) : Int → Nat → List ByteArray → Prop
  | _, _, [] => True
  | m, k, t :: r => ∃ m', m ≤ m' ∧ Fit xs t ((k : Int) + 1) m' ∧ TurnsP xs m' (k + 1) r
theorem TurnsP.sooner {xs : List Sn} {m m' : Int} {k : Nat} {ts : List ByteArray} (h : TurnsP xs m' k ts) (hm : m ≤ m') : TurnsP xs m k ts := by
  cases ts with
  | nil => trivial
  | cons t r =>
    obtain ⟨m2, h1, h2, h3⟩ := h
    exact ⟨m2, by omega, h2, h3⟩
theorem turns_iff {xs : List Sn} (hx : AllMay xs) : ∀ (ts : List ByteArray) (m : Int) (k : Nat), turnsL xs m k ts = true ↔ TurnsP xs m k ts
  | [], _, _ => by simp [turnsL, TurnsP]
  | t :: r, m, k => by
    unfold turnsL TurnsP
    split
    · next h =>
      constructor
      · intro h1; cases h1
      · rintro ⟨m', h1, h2, _⟩
        exfalso
        have h3 := (first_le h2.lt).2 ⟨h2.co, h2.non⟩
        have h4 := (last_ge (Int.le_of_lt h2.lt)).2 h2.tell
        have h5 := h2.lt
        rcases h with h | h <;> omega
    · next h =>
      have hl := last_le hx t ((k : Int) + 1)
      rw [turns_iff hx r]
      constructor
      · intro h1
        have h2 : max m (firstL xs t) < MT := by omega
        have h3 := (first_le (xs := xs) (t := t) h2).1 (by omega)
        exact ⟨_, by omega, ⟨h2, h3.1, h3.2, (last_ge (by omega)).1 (by omega)⟩, h1⟩
      · rintro ⟨m', h1, h2, h3⟩
        refine h3.sooner ?_
        have := (first_le h2.lt).2 ⟨h2.co, h2.non⟩
        omega
/-- There is a row. -/
structure Rowed (xs : List Sn) (ts : List ByteArray) : Prop where
  may : AllMay xs
  one : ts.Nodup
  ids : ∀ s ∈ xs, wrongS ts s = false
  turns : TurnsP xs 0 0 ts
theorem check_ok {xs : List Sn} {ts : List ByteArray} : checkL xs ts = 0 ↔ Rowed xs ts := by
  unfold checkL
  have e1 : (xs.any fun s => !mayS s) = false ↔ AllMay xs := by
    rw [List.any_eq_false]
    constructor
    · intro h s hs
      have := h s hs
      simpa using this
    · intro h s hs
      simp [h s hs]
  have e2 : idsL xs ts = true ↔ ∀ s ∈ xs, wrongS ts s = false := by
    unfold idsL
    rw [Bool.not_eq_true', List.any_eq_false]
    constructor
    · intro h s hs
      have := h s hs
      simpa using this
    · intro h s hs
      simp [h s hs]
  by_cases h1 : AllMay xs
  · rw [e1.2 h1, Bool.false_or]
    by_cases h2 : ts.Nodup
    · rw [decide_eq_true h2]
      by_cases h3 : idsL xs ts = true
      · rw [h3]
        by_cases h4 : turnsL xs 0 0 ts = true
        · rw [h4]
          simp only [Bool.not_true, Bool.or_self, Bool.false_eq_true, if_false]
          exact ⟨fun _ => ⟨h1, h2, e2.1 h3, (turns_iff h1 _ _ _).1 h4⟩, fun _ => trivial⟩
        · rw [Bool.not_eq_true] at h4
          rw [h4]
          refine ⟨fun h => by simp at h, fun h => ?_⟩
          rw [(turns_iff h1 _ _ _).2 h.turns] at h4
          cases h4
      · have h3' : idsL xs ts = false := by simpa using h3
        rw [h3']
        refine ⟨fun h => by simp at h, fun h => absurd (e2.2 h.ids) h3⟩
    · rw [decide_eq_false h2]
      exact ⟨fun h => by simp at h, fun h => absurd h.one h2⟩
  · have : (xs.any fun s => !mayS s) = true := by
      cases h : (xs.any fun s => !mayS s) with
      | true => rfl
      | false => exact absurd (e1.1 h) h1
    rw [this]
    exact ⟨fun h => by simp at h, fun h => absurd h.may h1⟩
theorem TurnsP.imp {xs ys : List Sn} (hf : ∀ t i m, Fit xs t i m → Fit ys t i m) : ∀ (ts : List ByteArray) (m : Int) (k : Nat), TurnsP xs m k ts → TurnsP ys m k ts
  | [], _, _, _ => trivial
  | _ :: r, _, k, h => by
    obtain ⟨m2, h1, h2, h3⟩ := h
    exact ⟨m2, h1, hf _ _ _ h2, TurnsP.imp hf r m2 (k + 1) h3⟩
/-- A status less. -/
theorem Rowed.fewer {A B : List Sn} {s : Sn} {ts : List ByteArray} (h : Rowed (A ++ s :: B) ts) (hs : s.co = false) : Rowed (A ++ B) ts := by
  have sub : ∀ x ∈ A ++ B, x ∈ A ++ s :: B := fun x hx => by
    rcases List.mem_append.1 hx with h | h
    · exact List.mem_append_left _ h
    · exact List.mem_append_right _ (List.mem_cons_of_mem _ h)
  refine ⟨fun x hx => h.may x (sub x hx), h.one, fun x hx => h.ids x (sub x hx), h.turns.imp (fun t i m hf => ⟨hf.lt, ?_, fun x hx => hf.non x (sub x hx), fun x hx => hf.tell x (sub x hx)⟩) _ _ _⟩
  obtain ⟨x, hx, h1, h2, h3⟩ := hf.co
  refine ⟨x, ?_, h1, h2, h3⟩
  rcases List.mem_append.1 hx with hx | hx
  · exact List.mem_append_left _ hx
  · rcases List.mem_cons.1 hx with hx | hx
    · subst hx
      rw [hs] at h2
      cases h2
    · exact List.mem_append_right _ hx
/-- Begun earlier, ended later. -/
structure Looser (s s' : Sn) : Prop where
  co : s'.co = s.co
  tok : s'.tok = s.tok
  id : s'.id = s.id
  b : s'.b ≤ s.b
  e : s.e ≤ s'.e
  z : s'.e = 0 ↔ s.e = 0
theorem Rowed.looser {A B : List Sn} {s s' : Sn} {ts : List ByteArray} (h : Rowed (A ++ s :: B) ts) (hl : Looser s s') (hm : mayS s = true → mayS s' = true) : Rowed (A ++ s' :: B) ts := by
  have sub : ∀ x ∈ A ++ s' :: B, x = s' ∨ x ∈ A ++ s :: B := fun x hx => by
    rcases List.mem_append.1 hx with h | h
    · exact .inr (List.mem_append_left _ h)
    · rcases List.mem_cons.1 h with h | h
      · exact .inl h
      · exact .inr (List.mem_append_right _ (List.mem_cons_of_mem _ h))
  have sub' : ∀ x ∈ A ++ s :: B, x = s ∨ x ∈ A ++ s' :: B := fun x hx => by
    rcases List.mem_append.1 hx with h | h
    · exact .inr (List.mem_append_left _ h)
    · rcases List.mem_cons.1 h with h | h
      · exact .inl h
      · exact .inr (List.mem_append_right _ (List.mem_cons_of_mem _ h))
  have hin : s ∈ A ++ s :: B := List.mem_append_right _ List.mem_cons_self
  have hin' : s' ∈ A ++ s' :: B := List.mem_append_right _ List.mem_cons_self
  refine ⟨fun x hx => ?_, h.one, fun x hx => ?_, h.turns.imp (fun t i m hf => ⟨hf.lt, ?_, fun x hx => ?_, fun x hx => ?_⟩) _ _ _⟩
  · rcases sub x hx with rfl | hx
    · exact hm (h.may s hin)
    · exact h.may x hx
  · rcases sub x hx with rfl | hx
    · have := h.ids s hin
      unfold wrongS at this ⊢
      rw [hl.co, hl.tok, hl.id]
      have e1 : decide (x.e ≠ 0) = decide (s.e ≠ 0) := by
        rw [Bool.eq_iff_iff]
        simp [hl.z]
      rw [e1]
      exact this
    · exact h.ids x hx
  · obtain ⟨x, hx, h1, h2, h3⟩ := hf.co
    rcases sub' x hx with rfl | hx
    · exact ⟨s', hin', by rw [hl.tok]; exact h1, by rw [hl.co]; exact h2, by have := hl.b; omega⟩
    · exact ⟨x, hx, h1, h2, h3⟩
  · rcases sub x hx with rfl | hx
    · intro h1 h2 h3 h4
      have := hf.non s hin (by rw [← hl.tok]; exact h1) (by rw [← hl.co]; exact h2) (fun e => h3 (hl.z.2 e)) (by rw [← hl.id]; exact h4)
      have := hl.b
      omega
    · exact hf.non x hx
  · rcases sub x hx with rfl | hx
    · intro h1 h2 h3
      have := hf.tell s hin (by rw [← hl.tok]; exact h1) (fun e => h2 (hl.z.2 e)) (by rw [← hl.id]; exact h3)
      have := hl.e
      omega
    · exact hf.tell x hx
end Go.Proofs.Ytfjmhfbmphdjiaa
