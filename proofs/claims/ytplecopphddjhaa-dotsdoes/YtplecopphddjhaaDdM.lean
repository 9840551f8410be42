/-
  DotsDoes' mathematics: pairs that rise against what the program's set tells of each dot.
-/
import Derived.Test.YtplecopphddjhaaDdC
import Derived.Test.YtplecopphddjhaaDotsB
import Derived.Test.YtplecopphddjhaaDotsF
namespace Go.Proofs.Ytplecopphddjhaa
open Go.RowKit Go.Maps

theorem LessD.trans {a b c d e f : Int} (h : LessD a b c d) (k : LessD c d e f) : LessD a b e f := by unfold LessD at *; omega
theorem LessD.irrefl {a b : Int} (h : LessD a b a b) : False := by unfold LessD at h; omega
theorem LessD.flip {a b c d : Int} (h : ¬ LessD a b c d) (hn : ¬ (a = c ∧ b = d)) : LessD c d a b := by unfold LessD at *; omega
/-- The document's pairs are what the program's set has. -/
structure SameP (S : Int → Int → Option Value) (N : Nat) (ps : List PairV) : Prop where
  srt : ps.Pairwise (fun x y => LessD x.o x.s y.o y.s)
  mem : ∀ o s t, S o s = some (.string t) ↔ (⟨o, s, t⟩ : PairV) ∈ ps
  ones : ∀ o s v, S o s = some v → IsE v
  may : ∀ q ∈ ps, MayD q.o q.s
  len : N = ps.length
section
variable {S : Int → Int → Option Value} {N : Nat} {ps : List PairV}
theorem SameP.nil : SameP (fun _ _ => none) 0 [] := ⟨.nil, fun o s t => by simp, fun o s v h => (by cases h), fun q hq => (by cases hq), rfl⟩
theorem SameP.get (h : SameP S N ps) (o s : Int) : S o s = (pget ps o s).map Value.string := by
  unfold pget
  cases hf : ps.find? (fun q => q.o == o && q.s == s) with
  | some q =>
    have h1 := List.mem_of_find?_eq_some hf
    have h2 := List.find?_some hf
    simp only [Bool.and_eq_true, beq_iff_eq] at h2
    obtain ⟨qo, qs, qt⟩ := q
    obtain ⟨rfl, rfl⟩ := h2
    exact (h.mem _ _ _).2 h1
  | none =>
    cases hS : S o s with
    | none => rfl
    | some v =>
      obtain ⟨t, rfl⟩ := h.ones _ _ _ hS
      have h1 := (h.mem _ _ _).1 hS
      have h2 := List.find?_eq_none.1 hf _ h1
      simp at h2
theorem SameP.isSome (h : SameP S N ps) (o s : Int) : (S o s).isSome = (pget ps o s).isSome := by rw [h.get o s]; simp
theorem SameP.code (h : SameP S N ps) (o s : Int) : addCode S N o s = raddC ps o s := by
  unfold addCode raddC
  rw [h.isSome, h.len]
theorem posP_before {o s : Int} {j : Nat} (hj : j < ps.length) (hp : j < posP ps o s) : LessD ps[j].o ps[j].s o s := by
  have := List.not_of_lt_findIdx (p := fun q : PairV => !decide (LessD q.o q.s o s)) (xs := ps) (i := j) hp
  simpa using this
theorem SameP.behind (h : SameP S N ps) {o s : Int} {j : Nat} (hj : j < ps.length) (hp : posP ps o s ≤ j) : ¬ LessD ps[j].o ps[j].s o s := by
  have h0 : posP ps o s < ps.length := by omega
  have h1 := List.findIdx_getElem (p := fun q : PairV => !decide (LessD q.o q.s o s)) (xs := ps) (w := h0)
  have h2 : ¬ LessD (ps[posP ps o s]'h0).o (ps[posP ps o s]'h0).s o s := by
    simp only [Bool.not_eq_true', decide_eq_false_iff_not] at h1
    exact h1
  by_cases e : posP ps o s = j
  · subst e; exact h2
  · intro hl
    have h3 := List.pairwise_iff_getElem.1 h.srt (posP ps o s) j h0 hj (by omega)
    exact h2 (h3.trans hl)
theorem mem_insP (k : Nat) (x q : PairV) : q ∈ insP ps k x ↔ q = x ∨ q ∈ ps := by
  unfold insP
  simp only [List.mem_append, List.mem_singleton]
  have : q ∈ ps ↔ q ∈ ps.take k ∨ q ∈ ps.drop k := by
    rw [← List.mem_append, List.take_append_drop]
  rw [this]
  constructor
  · rintro ((h | h) | h)
    · exact .inr (.inl h)
    · exact .inl h
    · exact .inr (.inr h)
  · rintro (h | h | h)
    · exact .inl (.inr h)
    · exact .inl (.inl h)
    · exact .inr h
theorem insP_len {k : Nat} (hk : k ≤ ps.length) (x : PairV) : (insP ps k x).length = ps.length + 1 := by
  unfold insP
  simp
  omega
theorem raddC_zero {o s : Int} (h : raddC ps o s = 0) : MayD o s ∧ (pget ps o s).isSome = false ∧ ps.length < 65536 := by
  unfold raddC at h
  by_cases h1 : MayD o s
  · rw [if_pos h1] at h
    cases h2 : (pget ps o s).isSome with
    | true => rw [h2] at h; simp at h
    | false =>
      rw [h2] at h
      by_cases h3 : 65536 ≤ ps.length
      · simp [h3] at h
      · exact ⟨h1, rfl, by omega⟩
  · rw [if_neg h1] at h
    cases h
theorem SameP.step (h : SameP S N ps) {o s : Int} (t : ByteArray) (hc : raddC ps o s = 0) : SameP (updS S o s (.string t)) (N + 1) (raddP ps o s t) := by
  obtain ⟨h1, h2, h3⟩ := raddC_zero hc
  have hS : S o s = none := by
    have := h.isSome o s
    rw [h2] at this
    simpa using this
  have hne : ∀ q ∈ ps, ¬ (q.o = o ∧ q.s = s) := by
    rintro ⟨qo, qs, qt⟩ hq ⟨e1, e2⟩
    simp only at e1 e2
    subst e1 e2
    rw [(h.mem _ _ _).2 hq] at hS
    cases hS
  have hr : raddP ps o s t = insP ps (posP ps o s) ⟨o, s, t⟩ := by unfold raddP; rw [if_pos hc]
  rw [hr]
  refine ⟨?_, ?_, ?_, ?_, ?_⟩
  · unfold insP
    rw [List.append_assoc, List.pairwise_append]
    refine ⟨h.srt.sublist (List.take_sublist _ _), ?_, ?_⟩
    · rw [List.singleton_append, List.pairwise_cons]
      refine ⟨fun q hq => ?_, h.srt.sublist (List.drop_sublist _ _)⟩
      obtain ⟨j, hj, rfl⟩ := List.getElem_of_mem hq
      rw [List.length_drop] at hj
      rw [List.getElem_drop]
      have hj' : posP ps o s + j < ps.length := by omega
      have hb := h.behind (o := o) (s := s) hj' (by omega)
      exact LessD.flip hb (hne _ (List.getElem_mem _))
    · intro a ha b hb
      obtain ⟨i, hi, rfl⟩ := List.getElem_of_mem ha
      rw [List.length_take] at hi
      rw [List.getElem_take]
      have ha' : LessD (ps[i]'(by omega)).o (ps[i]'(by omega)).s o s := posP_before (by omega) (by omega)
      rcases List.mem_append.1 hb with hb | hb
      · rw [List.mem_singleton.1 hb]
        exact ha'
      · obtain ⟨j, hj, rfl⟩ := List.getElem_of_mem hb
        rw [List.length_drop] at hj
        rw [List.getElem_drop]
        exact List.pairwise_iff_getElem.1 h.srt i _ (by omega) (by omega) (by omega)
  · intro o' s' t'
    rw [mem_insP]
    unfold updS
    split
    · next e =>
      obtain ⟨rfl, rfl⟩ := e
      constructor
      · intro e
        injection e with e
        injection e with e
        subst e
        exact .inl rfl
      · rintro (e | e)
        · injection e with _ _ e
          rw [e]
        · exact absurd ⟨rfl, rfl⟩ (hne _ e)
    · next e =>
      rw [h.mem]
      constructor
      · exact .inr
      · rintro (e2 | e2)
        · injection e2 with e3 e4
          exact absurd ⟨e3, e4⟩ e
        · exact e2
  · intro o' s' v hv
    unfold updS at hv
    split at hv
    · injection hv with hv
      exact ⟨t, hv.symm⟩
    · exact h.ones _ _ _ hv
  · intro q hq
    rcases (mem_insP _ _ _).1 hq with rfl | hq
    · exact h1
    · exact h.may q hq
  · rw [insP_len (posP_le _ _ _), h.len]
theorem raddP_keep {o s : Int} (t : ByteArray) (hc : raddC ps o s ≠ 0) : raddP ps o s t = ps := by unfold raddP; rw [if_neg hc]
/-- The numbers below the first gap. -/
structure VecFits (S : Int → Int → Option Value) (v : List Int) : Prop where
  len : v.length = 7
  pos : ∀ o : Nat, 0 ≤ v.getD o 0
  has : ∀ o : Nat, o < 7 → ∀ s : Int, 1 ≤ s → s ≤ v.getD o 0 → (S (o : Int) s).isSome = true
  gap : ∀ o : Nat, o < 7 → S (o : Int) (v.getD o 0 + 1) = none
def InP (l : List PairV) (o s : Int) : Prop := ∃ t, (⟨o, s, t⟩ : PairV) ∈ l
structure VecPre (l : List PairV) (v : List Int) : Prop where
  len : v.length = 7
  pos : ∀ o : Nat, 0 ≤ v.getD o 0
  has : ∀ o : Nat, o < 7 → ∀ s : Int, 1 ≤ s → s ≤ v.getD o 0 → InP l (o : Int) s
  gap : ∀ o : Nat, o < 7 → ¬ InP l (o : Int) (v.getD o 0 + 1)
theorem vecPre_step {l : List PairV} {v : List Int} (h : VecPre l v) {q : PairV} (hq : MayD q.o q.s) (hl : ∀ x ∈ l, LessD x.o x.s q.o q.s) : VecPre (l ++ [q]) (bumpV v q) := by
  obtain ⟨qo, qs, qt⟩ := q
  simp only at hq hl
  obtain ⟨m, rfl⟩ : ∃ m : Nat, qo = (m : Int) := ⟨qo.toNat, by have := hq.1; omega⟩
  have hm : m < 7 := by have := hq.1.2; omega
  have hin : ∀ o s, InP (l ++ [⟨(m : Int), qs, qt⟩]) o s ↔ InP l o s ∨ (o = (m : Int) ∧ s = qs) := by
    intro o s
    unfold InP
    constructor
    · rintro ⟨t, ht⟩
      rcases List.mem_append.1 ht with h1 | h1
      · exact .inl ⟨t, h1⟩
      · simp only [List.mem_singleton] at h1
        injection h1 with h1 h2
        exact .inr ⟨h1, h2⟩
    · rintro (⟨t, ht⟩ | ⟨rfl, rfl⟩)
      · exact ⟨t, List.mem_append_left _ ht⟩
      · exact ⟨qt, List.mem_append_right _ (by simp)⟩
  unfold bumpV
  simp only [Int.toNat_natCast]
  split
  · next he =>
    have hg : ∀ o : Nat, (v.set m qs).getD o 0 = if o = m then qs else v.getD o 0 := by
      intro o
      simp only [List.getD_eq_getElem?_getD, List.getElem?_set, h.len]
      by_cases e : m = o
      · subst e; simp [hm]
      · simp [e, Ne.symm e]
    refine ⟨by rw [List.length_set]; exact h.len, fun o => ?_, fun o ho s h1 h2 => ?_, fun o ho => ?_⟩
    · rw [hg]
      split
      · have := hq.2.1; omega
      · exact h.pos o
    · rw [hin]
      rw [hg] at h2
      split at h2
      · next e =>
        subst e
        by_cases e2 : s = qs
        · exact .inr ⟨rfl, e2⟩
        · exact .inl (h.has o ho s h1 (by omega))
      · exact .inl (h.has o ho s h1 h2)
    · rw [hin, hg]
      rintro (⟨t, ht⟩ | ⟨e1, e2⟩)
      · split at ht
        · next e =>
          subst e
          have := hl _ ht
          unfold LessD at this
          simp only at this
          omega
        · exact h.gap o ho ⟨t, ht⟩
      · split at e2
        · omega
        · next e => exact e (by omega)
  · next he =>
    refine ⟨h.len, h.pos, fun o ho s h1 h2 => (hin _ _).2 (.inl (h.has o ho s h1 h2)), fun o ho => ?_⟩
    rw [hin]
    rintro (hh | ⟨e1, e2⟩)
    · exact h.gap o ho hh
    · have : o = m := by omega
      subst this
      exact he e2.symm
theorem SameP.vecPre (h : SameP S N ps) : ∀ k, k ≤ ps.length → VecPre (ps.take k) (vecP (ps.take k))
  | 0, _ => by
    rw [List.take_zero]
    refine ⟨rfl, fun o => ?_, fun o ho s h1 h2 => ?_, fun o ho => ?_⟩
    · match o with
      | 0 | 1 | 2 | 3 | 4 | 5 | 6 => decide
      | o + 7 => simp [vecP]
    · exfalso
      match o, ho with
      | 0, _ | 1, _ | 2, _ | 3, _ | 4, _ | 5, _ | 6, _ => simp [vecP] at h2; omega
    · rintro ⟨t, ht⟩
      simp at ht
  | k + 1, hk => by
    have hk' : k < ps.length := by omega
    rw [vecP_step hk', take_snocP hk']
    refine vecPre_step (h.vecPre k (by omega)) (h.may _ (List.getElem_mem _)) (fun x hx => ?_)
    obtain ⟨i, hi, rfl⟩ := List.getElem_of_mem hx
    rw [List.length_take] at hi
    rw [List.getElem_take]
    exact List.pairwise_iff_getElem.1 h.srt i k (by omega) hk' (by omega)
theorem SameP.vecFits (h : SameP S N ps) : VecFits S (vecP ps) := by
  have h1 := h.vecPre ps.length (Nat.le_refl _)
  rw [List.take_length] at h1
  have hS : ∀ o s, (S o s).isSome = true ↔ InP ps o s := fun o s => by
    constructor
    · intro hs
      obtain ⟨v, hv⟩ := Option.isSome_iff_exists.1 hs
      obtain ⟨t, rfl⟩ := h.ones _ _ _ hv
      exact ⟨t, (h.mem _ _ _).1 hv⟩
    · rintro ⟨t, ht⟩
      rw [(h.mem _ _ _).2 ht]
      rfl
  refine ⟨h1.len, h1.pos, fun o ho s a b => (hS _ _).2 (h1.has o ho s a b), fun o ho => ?_⟩
  cases hv : S (o : Int) ((vecP ps).getD o 0 + 1) with
  | none => rfl
  | some v => exact absurd ((hS _ _).1 (by rw [hv]; rfl)) (h1.gap o ho)
theorem vec_unique {v : List Int} (h : VecFits S v) {R : Nat → List Value} (hh : ∀ o : Nat, o < 7 → ∀ s : Int, 1 ≤ s → s ≤ ((R o).length : Int) → (S (o : Int) s).isSome = true) (hg : ∀ o : Nat, o < 7 → S (o : Int) (((R o).length : Int) + 1) = none) : lensOf R = v := by
  have key : ∀ o : Nat, o < 7 → ((R o).length : Int) = v.getD o 0 := fun o ho => by
    have h0 := h.pos o
    rcases Int.lt_trichotomy ((R o).length : Int) (v.getD o 0) with hlt | he | hgt
    · have := h.has o ho (((R o).length : Int) + 1) (by omega) (by omega)
      rw [hg o ho] at this
      cases this
    · exact he
    · have := hh o ho (v.getD o 0 + 1) (by omega) (by omega)
      rw [h.gap o ho] at this
      cases this
  have hv : v = [v.getD 0 0, v.getD 1 0, v.getD 2 0, v.getD 3 0, v.getD 4 0, v.getD 5 0, v.getD 6 0] := by
    have hl := h.len
    match v, hl with
    | [a, b, c, d, e, f, g], _ => rfl
  rw [hv]
  unfold lensOf
  rw [key 0 (by decide), key 1 (by decide), key 2 (by decide), key 3 (by decide), key 4 (by decide), key 5 (by decide), key 6 (by decide)]
theorem DotsAt.hasX {w : World} {p m N : Nat} {rs : Nat → Value} {R : Nat → List Value} {D : DataW Value} {S : Int → Int → Option Value} (h : DotsAt w p rs R m D S N) : ∀ o : Nat, o < 7 → ∀ s : Int, 1 ≤ s → s ≤ ((R o).length : Int) → (S (o : Int) s).isSome = true := fun o ho s h1 h2 => by
  have := h.pre.runs o ho (s - 1).toNat (by omega)
  rw [show (((s - 1).toNat : Nat) : Int) + 1 = s by omega, List.getElem?_eq_getElem (by omega)] at this
  rw [this]
  rfl
theorem SameP.lens {w : World} {p m : Nat} {rs : Nat → Value} {R : Nat → List Value} {D : DataW Value} (h : SameP S N ps) (hd : DotsAt w p rs R m D S N) : lensOf R = vecP ps := vec_unique h.vecFits hd.hasX hd.gap
end
end Go.Proofs.Ytplecopphddjhaa
