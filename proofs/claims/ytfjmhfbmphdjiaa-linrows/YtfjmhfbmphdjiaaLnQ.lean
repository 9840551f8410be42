/-
  Rows that fit, with no memory in it: a row is played sight by sight ('Play'); whoever can play one has moments for the orders ('play_rowed').
-/
import Derived.Test.YtfjmhfbmphdjiaaLnM
namespace Go.Proofs.Ytfjmhfbmphdjiaa
open Go.RowKit

/-- The number of a token's order; 0: it has none. -/
def numL : List ByteArray → ByteArray → Nat
  | [], _ => 0
  | u :: r, t => if u = t then 1 else if numL r t = 0 then 0 else numL r t + 1
theorem num_le : ∀ (ts : List ByteArray) (t : ByteArray), numL ts t ≤ ts.length
  | [], _ => Nat.le_refl _
  | u :: r, t => by
    have := num_le r t
    unfold numL
    rw [List.length_cons]
    split
    · omega
    · split <;> omega
theorem num_some : ∀ (ts : List ByteArray) (t : ByteArray) (k : Nat), numL ts t = k + 1 → ts[k]? = some t
  | [], _, _, h => by cases h
  | u :: r, t, k, h => by
    unfold numL at h
    split at h
    · next e =>
      have : k = 0 := by omega
      subst this
      simp [e]
    · split at h
      · omega
      · next h0 =>
        obtain ⟨j, hj⟩ : ∃ j, numL r t = j + 1 := ⟨numL r t - 1, by omega⟩
        have : k = j + 1 := by omega
        subst this
        simpa using num_some r t j hj
theorem num_zero : ∀ (ts : List ByteArray) (t : ByteArray), numL ts t = 0 → t ∉ ts
  | [], _, _ => by simp
  | u :: r, t, h => by
    unfold numL at h
    split at h
    · omega
    · next e =>
      split at h
      · next h0 =>
        intro hm
        rcases List.mem_cons.1 hm with rfl | hm
        · exact e rfl
        · exact num_zero r t h0 hm
      · omega
theorem num_at {ts : List ByteArray} (hn : ts.Nodup) {t : ByteArray} {j : Nat} (h : ts[j]? = some t) : numL ts t = j + 1 := by
  have hm : t ∈ ts := List.mem_of_getElem? h
  have h0 : numL ts t ≠ 0 := fun e => num_zero ts t e hm
  obtain ⟨k, hk⟩ : ∃ k, numL ts t = k + 1 := ⟨numL ts t - 1, by omega⟩
  have h1 := num_some ts t k hk
  obtain ⟨hj, ej⟩ := List.getElem?_eq_some_iff.1 h
  obtain ⟨hk', ek⟩ := List.getElem?_eq_some_iff.1 h1
  have hp := List.pairwise_iff_getElem.1 hn
  rcases Nat.lt_trichotomy j k with h4 | h4 | h4
  · exact absurd (ej.trans ek.symm) (hp j k hj hk' h4)
  · omega
  · exact absurd (ek.trans ej.symm) (hp k j hk' hj h4)
theorem isOrd_num {ts : List ByteArray} (hn : ts.Nodup) {id : Int} {t : ByteArray} : isOrd ts id t = true ↔ id ≠ 0 ∧ id = (numL ts t : Int) := by
  unfold isOrd
  rw [Bool.and_eq_true, decide_eq_true_eq, decide_eq_true_eq]
  constructor
  · rintro ⟨h1, h2⟩
    have hlt : (id - 1).toNat < ts.length := by omega
    obtain ⟨k, hk⟩ : ∃ k, (id - 1).toNat = k := ⟨_, rfl⟩
    rw [hk] at h2 hlt
    have h3 : ts[k]? = some t := by
      rw [List.getElem?_eq_getElem hlt, ← h2]
      simp [List.getD, List.getElem?_eq_getElem hlt]
    have := num_at hn h3
    omega
  · rintro ⟨h1, h2⟩
    have hle := num_le ts t
    obtain ⟨k, hk⟩ : ∃ k, numL ts t = k + 1 := ⟨numL ts t - 1, by omega⟩
    have h3 := num_some ts t k hk
    refine ⟨by omega, ?_⟩
    rw [show (id - 1).toNat = k by omega]
    simp [List.getD, h3]
/-- May sight i stand next, when hv have? -/
def MayN (xs : List Sn) (hv : Nat → Bool) (i : Nat) (b : Int) : Prop := hv i = false ∧ ∀ k (hk : k < xs.length), k ≠ i → hv k = false → xs[k].e ≠ 0 → ¬ xs[k].e < b
/-- What a sight makes of md orders, and whether it was told rightly. -/
structure StepOk (ts : List ByteArray) (s : Sn) (md now : Nat) : Prop where
  go : (s.co = true ∧ md < numL ts s.tok ∧ numL ts s.tok = md + 1 ∧ now = md + 1) ∨ ((s.co = false ∨ (numL ts s.tok ≠ 0 ∧ numL ts s.tok ≤ md)) ∧ now = md)
  told : s.e ≠ 0 → s.id = if now < numL ts s.tok then 0 else (numL ts s.tok : Int)
inductive Play (xs : List Sn) (ts : List ByteArray) : (Nat → Bool) → Nat → Prop
  | done {hv : Nat → Bool} {md : Nat} : md = ts.length → (∀ i (h : i < xs.length), hv i = true ∨ xs[i].e = 0) → Play xs ts hv md
  | step {hv : Nat → Bool} {md now : Nat} (i : Nat) (h : i < xs.length) : MayN xs hv i xs[i].b → StepOk ts xs[i] md now → Play xs ts (fun k => if k = i then true else hv k) now → Play xs ts hv md
/-- As Fit, of the sights that have not stood. -/
structure FitU (xs : List Sn) (hv : Nat → Bool) (t : ByteArray) (i m : Int) : Prop where
  lt : m < MT
  co : ∃ s ∈ xs, s.tok = t ∧ s.co = true ∧ s.b ≤ m
  non : ∀ k (hk : k < xs.length), hv k = false → xs[k].tok = t → xs[k].co = false → xs[k].e ≠ 0 → xs[k].id = 0 → xs[k].b ≤ m
  tell : ∀ k (hk : k < xs.length), hv k = false → xs[k].tok = t → xs[k].e ≠ 0 → xs[k].id = i → m ≤ xs[k].e
def TurnsU (xs : List Sn) (hv : Nat → Bool) : Int → Nat → List ByteArray → Prop
  | _, _, [] => True
  | m, k, t :: r => ∃ m', m ≤ m' ∧ FitU xs hv t ((k : Int) + 1) m' ∧ TurnsU xs hv m' (k + 1) r
theorem turnsU_sooner {xs : List Sn} {hv : Nat → Bool} {m m' : Int} {k : Nat} {ts : List ByteArray} (h : TurnsU xs hv m' k ts) (hm : m ≤ m') : TurnsU xs hv m k ts := by
  cases ts with
  | nil => trivial
  | cons t r =>
    obtain ⟨m2, h1, h2, h3⟩ := h
    exact ⟨m2, by omega, h2, h3⟩
/-- One more that has not stood yet. -/
theorem TurnsU.back {xs : List Sn} {hv : Nat → Bool} {i : Nat} (hi : i < xs.length) {M : Int} (hM : xs[i].b ≤ M) : ∀ (us : List ByteArray) (m : Int) (k : Nat), M ≤ m → (∀ j t, us[j]? = some t → xs[i].tok = t → xs[i].e ≠ 0 → xs[i].id ≠ ((k + j : Nat) : Int) + 1) → TurnsU xs (fun k => if k = i then true else hv k) m k us → TurnsU xs hv m k us
  | [], _, _, _, _, _ => trivial
  | t :: r, m, k, hm, hid, h => by
    obtain ⟨m', h1, h2, h3⟩ := h
    refine ⟨m', h1, ⟨h2.lt, h2.co, fun q hq hv0 a b c d => ?_, fun q hq hv0 a b c => ?_⟩, TurnsU.back hi hM r m' (k + 1) (by omega) (fun j u hu a b => ?_) h3⟩
    · by_cases e : q = i
      · subst e; omega
      · exact h2.non q hq (by simp [e, hv0]) a b c d
    · by_cases e : q = i
      · subst e
        exact absurd c (by have := hid 0 t rfl a b; simpa using this)
      · exact h2.tell q hq (by simp [e, hv0]) a b c
    · have := hid (j + 1) u (by simpa using hu) a b
      rw [show k + 1 + j = k + (j + 1) by omega]
      exact this
theorem play_sound {xs : List Sn} {ts : List ByteArray} (hx : AllMay xs) (hn : ts.Nodup) {hv : Nat → Bool} {md : Nat} (h : Play xs ts hv md) : ∀ M : Int, M < MT → (∀ k (hk : k < xs.length), hv k = true → xs[k].b ≤ M) → (∀ k (hk : k < xs.length), hv k = false → xs[k].e ≠ 0 → M ≤ xs[k].e) →
    TurnsU xs hv M md (ts.drop md) ∧ (∀ k (hk : k < xs.length), hv k = false → wrongS ts xs[k] = false) ∧ (∀ k (hk : k < xs.length), hv k = false → xs[k].e ≠ 0 → numL ts xs[k].tok ≤ md → xs[k].id = (numL ts xs[k].tok : Int)) := by
  induction h with
  | @done hv md h1 h2 =>
    intro M _ _ _
    refine ⟨by rw [h1, List.drop_length]; trivial, fun k hk h0 => ?_, fun k hk h0 he => ?_⟩
    · rcases h2 k hk with h3 | h3
      · rw [h0] at h3; cases h3
      · unfold wrongS
        simp [h3]
    · rcases h2 k hk with h3 | h3
      · rw [h0] at h3; cases h3
      · exact absurd h3 he
  | @step hv md now i hi hmay hst hp ih =>
    intro M hM hpl hun
    have hmi := mayS_iff.1 (hx _ (List.getElem_mem hi))
    obtain ⟨M', hM'⟩ : ∃ M', M' = max M xs[i].b := ⟨_, rfl⟩
    obtain ⟨t1, t2, t3⟩ := ih M' (by omega) (fun k hk h0 => by
        by_cases e : k = i
        · subst e; omega
        · simp only [if_neg e] at h0
          have := hpl k hk h0
          omega) (fun k hk h0 he => by
        by_cases e : k = i
        · subst e; simp at h0
        · simp only [if_neg e] at h0
          have h4 := hun k hk h0 he
          have h5 := hmay.2 k hk e h0 he
          omega)
    have hnum : ∀ q t, ts[q]? = some t → numL ts t = q + 1 := fun q t h => num_at hn h
    have hids : wrongS ts xs[i] = false := by
      unfold wrongS
      by_cases he : xs[i].e = 0
      · simp [he]
      · by_cases hw : xs[i].co = true ∨ xs[i].id ≠ 0
        · have : isOrd ts xs[i].id xs[i].tok = true := by
            refine (isOrd_num hn).2 ?_
            have h6 := hst.told he
            rcases hst.go with ⟨g1, g2, g3, g4⟩ | ⟨g1, g2⟩
            · rw [if_neg (by omega)] at h6
              exact ⟨by omega, h6⟩
            · by_cases h7 : now < numL ts xs[i].tok
              · rw [if_pos h7] at h6
                rcases hw with hw | hw
                · rcases g1 with g1 | g1
                  · rw [g1] at hw; cases hw
                  · omega
                · exact absurd h6 hw
              · rw [if_neg h7] at h6
                refine ⟨?_, h6⟩
                rcases hw with hw | hw
                · rcases g1 with g1 | g1
                  · rw [g1] at hw; cases hw
                  · omega
                · exact hw
          rw [this]
          simp
        · have h8 : xs[i].co = false := by
            cases hc : xs[i].co with
            | false => rfl
            | true => exact absurd (.inl hc) hw
          have h9 : xs[i].id = 0 := Classical.byContradiction fun h => hw (.inr h)
          simp [h8, h9]
    refine ⟨?_, fun k hk h0 => ?_, fun k hk h0 he hle => ?_⟩
    · rcases hst.go with ⟨g1, g2, g3, g4⟩ | ⟨g1, g2⟩
      · subst g4
        have hmd : md < ts.length := by have := num_le ts xs[i].tok; omega
        have htok : ts[md] = xs[i].tok := by
          have := num_some ts xs[i].tok md g3
          rw [List.getElem?_eq_getElem hmd] at this
          exact Option.some.inj this
        rw [List.drop_eq_getElem_cons hmd]
        refine ⟨M', by omega, ⟨by omega, ⟨xs[i], List.getElem_mem hi, htok.symm, g1, by omega⟩, fun k hk h0 a b c d => ?_, fun k hk h0 a b c => ?_⟩, ?_⟩
        · have e : k ≠ i := by
            intro e
            subst e
            rw [g1] at b
            cases b
          have h6 := t3 k hk (by simp [e, h0]) c (by rw [a, htok, g3]; omega)
          rw [d, a, htok, g3] at h6
          omega
        · by_cases e : k = i
          · subst e
            have h4 := hun k hk h0 b
            have h5 := (hmi.2.2 b).1
            omega
          · have h4 := hun k hk h0 b
            have h5 := hmay.2 k hk e h0 b
            omega
        · refine TurnsU.back hi (M := M') (by omega) _ _ _ (Int.le_refl _) (fun j t hj a b => ?_) t1
          have hj' : ts[md + 1 + j]? = some t := by rw [List.getElem?_drop] at hj; exact hj
          have := hnum _ _ hj'
          rw [← a, g3] at this
          omega
      · subst g2
        have := TurnsU.back hi (M := M') (by omega) (ts.drop now) M' now (Int.le_refl _) (fun j t hj a b => ?_) t1
        · exact turnsU_sooner this (by omega)
        · have hj' : ts[now + j]? = some t := by rw [List.getElem?_drop] at hj; exact hj
          have h7 := hnum _ _ hj'
          rw [← a] at h7
          have h8 := hst.told b
          rw [if_pos (by omega)] at h8
          omega
    · by_cases e : k = i
      · subst e; exact hids
      · exact t2 k hk (by simp [e, h0])
    · by_cases e : k = i
      · subst e
        have h8 := hst.told he
        rcases hst.go with ⟨g1, g2, g3, g4⟩ | ⟨g1, g2⟩
        · omega
        · rw [if_neg (by omega)] at h8
          exact h8
      · refine t3 k hk (by simp [e, h0]) he ?_
        rcases hst.go with ⟨g1, g2, g3, g4⟩ | ⟨g1, g2⟩ <;> omega
end Go.Proofs.Ytfjmhfbmphdjiaa
