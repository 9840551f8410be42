/-
  Rows that fit, with no memory in it: where there are moments for the orders, a row can be played ('rowed_play').
-/
import Derived.Test.YtfjmhfbmphdjiaaLnQ
namespace Go.Proofs.Ytfjmhfbmphdjiaa
open Go.RowKit

theorem turns_fun {xs : List Sn} : ∀ (us : List ByteArray) (m : Int) (k : Nat), TurnsP xs m k us → ∃ μ : Nat → Int, (∀ j t, us[j]? = some t → m ≤ μ j ∧ Fit xs t (((k + j : Nat) : Int) + 1) (μ j)) ∧ (∀ j l, j ≤ l → l < us.length → μ j ≤ μ l)
  | [], _, _, _ => ⟨fun _ => 0, fun j t h => (by simp at h), fun j l _ h => (by cases h)⟩
  | t :: r, m, k, h => by
    obtain ⟨m', h1, h2, h3⟩ := h
    obtain ⟨μ, h4, h5⟩ := turns_fun r m' (k + 1) h3
    refine ⟨fun j => match j with | 0 => m' | j + 1 => μ j, fun j u hu => ?_, fun j l hjl hl => ?_⟩
    · cases j with
      | zero =>
        simp at hu
        subst hu
        exact ⟨h1, h2⟩
      | succ j =>
        have := h4 j u (by simpa using hu)
        refine ⟨by show m ≤ μ j; omega, ?_⟩
        rw [show k + (j + 1) = k + 1 + j by omega]
        exact this.2
    · cases l with
      | zero =>
        have : j = 0 := by omega
        subst this
        exact Int.le_refl _
      | succ l =>
        have hl' : l < r.length := by simpa using hl
        cases j with
        | zero =>
          obtain ⟨u, hu⟩ : ∃ u, r[l]? = some u := ⟨r[l], List.getElem?_eq_getElem hl'⟩
          exact (h4 l u hu).1
        | succ j => exact h5 j l (by omega) hl'
theorem least_of (f : Nat → Int) (P : Nat → Prop) : ∀ n : Nat, (∃ i, i < n ∧ P i) → ∃ i, i < n ∧ P i ∧ ∀ k, k < n → P k → f i ≤ f k
  | 0, h => by obtain ⟨i, hi, _⟩ := h; omega
  | n + 1, h => by
    by_cases h0 : ∃ i, i < n ∧ P i
    · obtain ⟨i, hi, hp, hm⟩ := least_of f P n h0
      by_cases h1 : P n ∧ f n < f i
      · refine ⟨n, by omega, h1.1, fun k hk hk' => ?_⟩
        by_cases e : k = n
        · subst e; exact Int.le_refl _
        · have := hm k (by omega) hk'
          omega
      · refine ⟨i, by omega, hp, fun k hk hk' => ?_⟩
        by_cases e : k = n
        · subst e
          apply Classical.byContradiction
          intro hc
          exact h1 ⟨hk', by omega⟩
        · exact hm k (by omega) hk'
    · obtain ⟨i, hi, hp⟩ := h
      have : i = n := by
        apply Classical.byContradiction
        intro hc
        exact h0 ⟨i, by omega, hp⟩
      subst this
      refine ⟨i, by omega, hp, fun k hk hk' => ?_⟩
      by_cases e : k = i
      · subst e; exact Int.le_refl _
      · exact absurd ⟨k, by omega, hk'⟩ h0
/-- How many of the first n have not stood. -/
def leftN (hv : Nat → Bool) : Nat → Nat
  | 0 => 0
  | n + 1 => leftN hv n + (if hv n then 0 else 1)
theorem left_set {hv : Nat → Bool} {i : Nat} (h0 : hv i = false) : ∀ n : Nat, leftN (fun k => if k = i then true else hv k) n + (if i < n then 1 else 0) = leftN hv n
  | 0 => rfl
  | n + 1 => by
    have := left_set h0 n
    unfold leftN
    by_cases e : n = i
    · subst e
      simp only [if_true, h0] at *
      simp at this ⊢
      omega
    · simp only [if_neg e]
      by_cases h1 : i < n
      · have e1 : (if i < n + 1 then 1 else 0) = 1 := if_pos (by omega)
        rw [if_pos h1] at this
        rw [e1]
        omega
      · have e1 : (if i < n + 1 then 1 else 0) = 0 := if_neg (by omega)
        rw [if_neg h1] at this
        rw [e1]
        omega
theorem left_zero {hv : Nat → Bool} : ∀ n : Nat, leftN hv n = 0 → ∀ i, i < n → hv i = true
  | 0, _, i, h => by omega
  | n + 1, h, i, hi => by
    unfold leftN at h
    by_cases e : i = n
    · subst e
      cases hc : hv i with
      | true => rfl
      | false => rw [hc] at h; simp at h
    · exact left_zero n (by omega) i (by omega)
/-- Where a sight that is no maker of an order stands. -/
def keyS (μ : Nat → Int) (s : Sn) : Int := if s.id = 0 then 3 * s.b else 3 * max s.b (μ (s.id - 1).toNat) + 2
/-- What stands still between two sights of the row. -/
structure PInv (xs : List Sn) (ts : List ByteArray) (μ : Nat → Int) (c : Nat → Nat) (hv : Nat → Bool) (md : Nat) (K : Int) : Prop where
  le : md ≤ ts.length
  pl : ∀ j, j < md → hv (c j) = true
  un : ∀ j, md ≤ j → j < ts.length → hv (c j) = false
  past : ∀ j, j < md → 3 * μ j + 1 ≤ K
  fut : ∀ j, md ≤ j → j < ts.length → K ≤ 3 * μ j + 1
  rest : ∀ i (h : i < xs.length), hv i = false → xs[i].e ≠ 0 → (∀ j, j < ts.length → i ≠ c j) → K ≤ keyS μ xs[i]
theorem play_complete {xs : List Sn} {ts : List ByteArray} (hx : AllMay xs) (hn : ts.Nodup) (hids : ∀ s ∈ xs, wrongS ts s = false) {μ : Nat → Int} (hfit : ∀ j t, ts[j]? = some t → 0 ≤ μ j ∧ Fit xs t ((j : Int) + 1) (μ j)) (hmono : ∀ j l, j ≤ l → l < ts.length → μ j ≤ μ l)
    {c : Nat → Nat} (hc : ∀ j t, ts[j]? = some t → ∃ h : c j < xs.length, xs[c j].tok = t ∧ xs[c j].co = true ∧ xs[c j].b ≤ μ j) : ∀ (N : Nat) (hv : Nat → Bool) (md : Nat) (K : Int), leftN hv xs.length ≤ N → PInv xs ts μ c hv md K → Play xs ts hv md := by
  have hat : ∀ j, j < ts.length → ∃ t, ts[j]? = some t := fun j hj => ⟨ts[j], List.getElem?_eq_getElem hj⟩
  -- an ended sight that was told an order
  have hord : ∀ i (h : i < xs.length), xs[i].e ≠ 0 → (xs[i].co = true ∨ xs[i].id ≠ 0) → xs[i].id ≠ 0 ∧ xs[i].id = (numL ts xs[i].tok : Int) := fun i h he hw => by
    have h1 := hids _ (List.getElem_mem h)
    unfold wrongS at h1
    have h2 : (decide (xs[i].e ≠ 0) && (xs[i].co || !decide (xs[i].id = 0))) = true := by
      rw [Bool.and_eq_true, Bool.or_eq_true]
      refine ⟨decide_eq_true he, ?_⟩
      rcases hw with hw | hw
      · exact .inl hw
      · exact .inr (by simp [hw])
    rw [h2, Bool.true_and] at h1
    exact (isOrd_num hn).1 (by simpa using h1)
  have hcne : ∀ j l, j < ts.length → l < ts.length → j ≠ l → c j ≠ c l := fun j l hj hl hne e => by
    obtain ⟨t, ht⟩ := hat j hj
    obtain ⟨u, hu⟩ := hat l hl
    obtain ⟨h1, h2, _⟩ := hc j t ht
    obtain ⟨h3, h4, _⟩ := hc l u hu
    have : t = u := by
      rw [← h2, ← h4]
      simp [e]
    subst this
    have := num_at hn ht
    have := num_at hn hu
    omega
  -- an order's maker that ended ended behind the order's moment
  have hmk : ∀ j t, ts[j]? = some t → ∀ h : c j < xs.length, xs[c j].e ≠ 0 → μ j ≤ xs[c j].e ∧ xs[c j].id = (j : Int) + 1 := fun j t ht h he => by
    obtain ⟨h1, h2, h3, h4⟩ := hc j t ht
    have h5 := hord (c j) h he (.inl h3)
    rw [h2, num_at hn ht] at h5
    have h6 : xs[c j].id = (j : Int) + 1 := by rw [h5.2]; omega
    exact ⟨(hfit j t ht).2.tell _ (List.getElem_mem h) h2 he h6, h6⟩
  -- keys lie between a sight's beginning and its end
  have hkb : ∀ i (h : i < xs.length), 3 * xs[i].b ≤ keyS μ xs[i] := fun i h => by
    unfold keyS
    split <;> omega
  have hke : ∀ i (h : i < xs.length), xs[i].e ≠ 0 → keyS μ xs[i] ≤ 3 * xs[i].e + 2 := fun i h he => by
    have hm := (mayS_iff.1 (hx _ (List.getElem_mem h))).2.2 he
    unfold keyS
    split
    · omega
    · next h0 =>
      obtain ⟨_, h5⟩ := hord i h he (.inr h0)
      obtain ⟨k, hk⟩ : ∃ k, numL ts xs[i].tok = k + 1 := ⟨numL ts xs[i].tok - 1, by omega⟩
      have h6 := num_some ts _ k hk
      have h7 : xs[i].id = (k : Int) + 1 := by rw [h5, hk]; omega
      have h8 := (hfit k _ h6).2.tell _ (List.getElem_mem h) rfl he h7
      rw [show (xs[i].id - 1).toNat = k by omega]
      omega
  intro N
  induction N with
  | zero =>
    intro hv md K hN hi
    have hall := left_zero (hv := hv) xs.length (by omega)
    refine Play.done ?_ (fun i h => .inl (hall i h))
    apply Classical.byContradiction
    intro hne
    have hlt : md < ts.length := by have := hi.le; omega
    obtain ⟨t, ht⟩ := hat md hlt
    obtain ⟨h1, _⟩ := hc md t ht
    have h2 := hi.un md (Nat.le_refl _) hlt
    rw [hall _ h1] at h2
    cases h2
  | succ N ih =>
    intro hv md K hN hi
    -- a sight that is no maker, with the least key, ahead of the next order
    have stepS : ∀ i (h : i < xs.length), hv i = false → xs[i].e ≠ 0 → (∀ j, j < ts.length → i ≠ c j) → (∀ k (hk : k < xs.length), hv k = false → xs[k].e ≠ 0 → (∀ j, j < ts.length → k ≠ c j) → keyS μ xs[i] ≤ keyS μ xs[k]) → (md < ts.length → keyS μ xs[i] < 3 * μ md + 1) → Play xs ts hv md := by
      intro i h h0 he hnm hmin hahead
      have hfut : ∀ j, md ≤ j → j < ts.length → keyS μ xs[i] ≤ 3 * μ j := fun j hj hl => by
        have h1 := hahead (by omega)
        have h2 := hmono md j hj hl
        omega
      refine Play.step (now := md) i h ⟨h0, fun k hk hne hk0 hke0 hlt => ?_⟩ ⟨.inr ⟨?_, rfl⟩, fun _ => ?_⟩ (ih _ _ (keyS μ xs[i]) ?_ ⟨hi.le, fun j hj => ?_, fun j hj hl => ?_, fun j hj => ?_, fun j hj hl => ?_, fun k hk hk0 hke0 hnk => ?_⟩)
      · by_cases hm : ∃ j, j < ts.length ∧ k = c j
        · obtain ⟨j, hj, rfl⟩ := hm
          obtain ⟨t, ht⟩ := hat j hj
          have h1 := (hmk j t ht hk hke0).1
          have h2 : md ≤ j := by
            apply Classical.byContradiction
            intro hc'
            have := hi.pl j (by omega)
            rw [hk0] at this
            cases this
          have h3 := hfut j h2 hj
          have h4 := hkb i h
          omega
        · have h1 := hmin k hk hk0 hke0 (fun j hj e => hm ⟨j, hj, e⟩)
          have h2 := hke k hk hke0
          have h3 := hkb i h
          omega
      · by_cases hid : xs[i].id = 0
        · left
          cases hco : xs[i].co with
          | false => rfl
          | true => exact absurd hid (hord i h he (.inl hco)).1
        · right
          obtain ⟨_, h5⟩ := hord i h he (.inr hid)
          refine ⟨by omega, ?_⟩
          apply Classical.byContradiction
          intro hgt
          obtain ⟨k, hk⟩ : ∃ k, numL ts xs[i].tok = k + 1 := ⟨numL ts xs[i].tok - 1, by omega⟩
          have hle := num_le ts xs[i].tok
          have h6 := hfut k (by omega) (by omega)
          have h7 : keyS μ xs[i] = 3 * max xs[i].b (μ k) + 2 := by
            unfold keyS
            rw [if_neg hid, show (xs[i].id - 1).toNat = k by omega]
          omega
      · by_cases hid : xs[i].id = 0
        · rw [hid]
          split
          · rfl
          · next hle =>
            by_cases hz : numL ts xs[i].tok = 0
            · rw [hz]; rfl
            · exfalso
              obtain ⟨k, hk⟩ : ∃ k, numL ts xs[i].tok = k + 1 := ⟨numL ts xs[i].tok - 1, by omega⟩
              have h6 := num_some ts _ k hk
              have h7 : xs[i].co = false := by
                cases hco : xs[i].co with
                | false => rfl
                | true => exact absurd hid (hord i h he (.inl hco)).1
              have h8 := (hfit k _ h6).2.non _ (List.getElem_mem h) rfl h7 he hid
              have h9 := hi.past k (by omega)
              have h10 := hi.rest i h h0 he hnm
              have h11 : keyS μ xs[i] = 3 * xs[i].b := by unfold keyS; rw [if_pos hid]
              omega
        · obtain ⟨_, h5⟩ := hord i h he (.inr hid)
          rw [if_neg ?_]
          · exact h5
          · intro hgt
            obtain ⟨k, hk⟩ : ∃ k, numL ts xs[i].tok = k + 1 := ⟨numL ts xs[i].tok - 1, by omega⟩
            have hle := num_le ts xs[i].tok
            have h6 := hfut k (by omega) (by omega)
            have h7 : keyS μ xs[i] = 3 * max xs[i].b (μ k) + 2 := by
              unfold keyS
              rw [if_neg hid, show (xs[i].id - 1).toNat = k by omega]
            omega
      · have := left_set h0 xs.length
        rw [if_pos h] at this
        omega
      · show (if c j = i then true else hv (c j)) = true
        split
        · rfl
        · exact hi.pl j hj
      · show (if c j = i then true else hv (c j)) = false
        rw [if_neg (fun e => hnm j hl e.symm)]
        exact hi.un j hj hl
      · have h1 := hi.past j hj
        have h2 := hi.rest i h h0 he hnm
        omega
      · have := hfut j hj hl
        omega
      · have hki : k ≠ i := by
          intro e
          subst e
          simp at hk0
        exact hmin k hk (by simpa [hki] using hk0) hke0 hnk
    -- the next order's maker
    have stepM : md < ts.length → (∀ k (hk : k < xs.length), hv k = false → xs[k].e ≠ 0 → (∀ j, j < ts.length → k ≠ c j) → 3 * μ md + 1 ≤ keyS μ xs[k]) → Play xs ts hv md := by
      intro hlt hmin
      obtain ⟨t, ht⟩ := hat md hlt
      obtain ⟨h, h1, h2, h3⟩ := hc md t ht
      have h0 := hi.un md (Nat.le_refl _) hlt
      have hnum : numL ts xs[c md].tok = md + 1 := by rw [h1]; exact num_at hn ht
      refine Play.step (now := md + 1) (c md) h ⟨h0, fun k hk hne hk0 hke0 hlt' => ?_⟩ ⟨.inl ⟨h2, by omega, hnum, rfl⟩, fun he => ?_⟩ (ih _ _ (3 * μ md + 1) ?_ ⟨by omega, fun j hj => ?_, fun j hj hl => ?_, fun j hj => ?_, fun j hj hl => ?_, fun k hk hk0 hke0 hnk => ?_⟩)
      · by_cases hm : ∃ j, j < ts.length ∧ k = c j
        · obtain ⟨j, hj, rfl⟩ := hm
          obtain ⟨u, hu⟩ := hat j hj
          have h4 := (hmk j u hu hk hke0).1
          have h5 : md ≤ j := by
            apply Classical.byContradiction
            intro hc'
            have := hi.pl j (by omega)
            rw [hk0] at this
            cases this
          have h6 := hmono md j h5 hj
          omega
        · have h4 := hmin k hk hk0 hke0 (fun j hj e => hm ⟨j, hj, e⟩)
          have h5 := hke k hk hke0
          omega
      · rw [if_neg (by omega), hnum, (hmk md t ht h he).2]
        omega
      · have := left_set h0 xs.length
        rw [if_pos h] at this
        omega
      · show (if c j = c md then true else hv (c j)) = true
        by_cases e : j = md
        · rw [e, if_pos rfl]
        · split
          · rfl
          · exact hi.pl j (by omega)
      · show (if c j = c md then true else hv (c j)) = false
        rw [if_neg (hcne j md hl hlt (by omega))]
        exact hi.un j (by omega) hl
      · by_cases e : j = md
        · rw [e]; exact Int.le_refl _
        · have h4 := hi.past j (by omega)
          have h5 := hi.fut md (Nat.le_refl _) hlt
          omega
      · have := hmono md j (by omega) hl
        omega
      · have hki : k ≠ c md := hnk md hlt
        exact hmin k hk (by simpa [hki] using hk0) hke0 hnk
    by_cases hex : ∃ i, i < xs.length ∧ ∃ h : i < xs.length, hv i = false ∧ xs[i].e ≠ 0 ∧ (∀ j, j < ts.length → i ≠ c j)
    · obtain ⟨i, hi', ⟨h, p1, p2, p3⟩, hmin⟩ := least_of (fun i => keyS μ (xs.getD i default)) (fun i => ∃ h : i < xs.length, hv i = false ∧ xs[i].e ≠ 0 ∧ (∀ j, j < ts.length → i ≠ c j)) xs.length hex
      have hgd : ∀ k (hk : k < xs.length), xs.getD k default = xs[k] := fun k hk => by simp [List.getD, List.getElem?_eq_getElem hk]
      have hmin' : ∀ k (hk : k < xs.length), hv k = false → xs[k].e ≠ 0 → (∀ j, j < ts.length → k ≠ c j) → keyS μ xs[i] ≤ keyS μ xs[k] := fun k hk a b d => by
        have := hmin k hk ⟨hk, a, b, d⟩
        rw [hgd i h, hgd k hk] at this
        exact this
      by_cases hlt : md < ts.length
      · by_cases hk : keyS μ xs[i] < 3 * μ md + 1
        · exact stepS i h p1 p2 p3 hmin' (fun _ => hk)
        · exact stepM hlt (fun k hk' a b d => by have := hmin' k hk' a b d; omega)
      · exact stepS i h p1 p2 p3 hmin' (fun h => absurd h hlt)
    · by_cases hlt : md < ts.length
      · exact stepM hlt (fun k hk a b d => absurd ⟨k, hk, hk, a, b, d⟩ hex)
      · have hmd : md = ts.length := by have := hi.le; omega
        refine Play.done hmd (fun i h => ?_)
        cases h0 : hv i with
        | true => exact .inl rfl
        | false =>
          right
          apply Classical.byContradiction
          intro he
          by_cases hm : ∃ j, j < ts.length ∧ i = c j
          · obtain ⟨j, hj, rfl⟩ := hm
            have := hi.pl j (by omega)
            rw [h0] at this
            cases this
          · exact hex ⟨i, h, h, h0, he, fun j hj e => hm ⟨j, hj, e⟩⟩
theorem turnsP_of {xs : List Sn} : ∀ (us : List ByteArray) (m : Int) (k : Nat), TurnsU xs (fun _ => false) m k us → TurnsP xs m k us
  | [], _, _, _ => trivial
  | _ :: r, _, k, h => by
    obtain ⟨m', h1, h2, h3⟩ := h
    refine ⟨m', h1, ⟨h2.lt, h2.co, fun s hs => ?_, fun s hs => ?_⟩, turnsP_of r m' (k + 1) h3⟩
    · obtain ⟨i, hi, rfl⟩ := List.mem_iff_getElem.1 hs
      exact h2.non i hi rfl
    · obtain ⟨i, hi, rfl⟩ := List.mem_iff_getElem.1 hs
      exact h2.tell i hi rfl
/-- There is a row just where one can be played. -/
theorem rowed_iff {xs : List Sn} {ts : List ByteArray} (hx : AllMay xs) (hn : ts.Nodup) : Rowed xs ts ↔ Play xs ts (fun _ => false) 0 := by
  constructor
  · intro h
    obtain ⟨μ, h1, h2⟩ := turns_fun ts 0 0 h.turns
    have h1' : ∀ j t, ts[j]? = some t → 0 ≤ μ j ∧ Fit xs t ((j : Int) + 1) (μ j) := fun j t ht => by
      have := h1 j t ht
      rw [Nat.zero_add] at this
      exact this
    have hex : ∀ j, ∃ i, ∀ t, ts[j]? = some t → ∃ h : i < xs.length, xs[i].tok = t ∧ xs[i].co = true ∧ xs[i].b ≤ μ j := fun j => by
      cases hj : ts[j]? with
      | none => exact ⟨0, fun t ht => (by cases ht)⟩
      | some u =>
        obtain ⟨s, hs, a, b, d⟩ := (h1' j u hj).2.co
        obtain ⟨i, hi, rfl⟩ := List.mem_iff_getElem.1 hs
        exact ⟨i, fun t ht => by cases ht; exact ⟨hi, a, b, d⟩⟩
    obtain ⟨c, hc⟩ : ∃ c : Nat → Nat, ∀ j t, ts[j]? = some t → ∃ h : c j < xs.length, xs[c j].tok = t ∧ xs[c j].co = true ∧ xs[c j].b ≤ μ j := ⟨fun j => (hex j).choose, fun j => (hex j).choose_spec⟩
    refine play_complete hx hn h.ids h1' h2 hc _ _ 0 0 (Nat.le_refl _) ⟨Nat.zero_le _, fun j hj => (by omega), fun _ _ _ => rfl, fun j hj => (by omega), fun j _ hj => ?_, fun i hi _ _ _ => ?_⟩
    · have := (h1' j ts[j] (List.getElem?_eq_getElem hj)).1
      omega
    · have := (mayS_iff.1 (hx _ (List.getElem_mem hi))).1.1
      unfold keyS
      split <;> omega
  · intro h
    obtain ⟨h1, h2, _⟩ := play_sound hx hn h 0 (by unfold MT; omega) (fun k hk h0 => by cases h0) (fun k hk _ he => by
      have := (mayS_iff.1 (hx _ (List.getElem_mem hk)))
      have := this.2.2 he
      omega)
    refine ⟨hx, hn, fun s hs => ?_, turnsP_of ts 0 0 h1⟩
    obtain ⟨i, hi, rfl⟩ := List.mem_iff_getElem.1 hs
    exact h2 i hi rfl
end Go.Proofs.Ytfjmhfbmphdjiaa
