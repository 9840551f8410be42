/-
  In whatever order entries are chosen: the mathematics of LearnerOrder; the law's sameInts.
-/
import Derived.Test.YtgghfmdciohinaaLrJ
namespace Go.Proofs.Ytgghfmdciohinaa
open Go.RowKit Go.Maps

set_option maxRecDepth 100000 in
theorem sameIntsR (w : World) (ao bo : Option Addr) (ca cb : Nat) (a b : List Int) (m n : Nat) (hm : a.length = m) (hn : b.length = n) (ha : HV w ao ca a) (hb : HV w bo cb b) :
    Calls Try.prog 28 #[.slice ao m ca, .slice bo n cb] w fun e w' => e = .returned (.bool (decide (a = b))) ∧ ∃ q, w' = w.drewN q := by
  by_cases hmn : m = n
  · subst hmn
    have HA := hid ha.held
    have HB := hid hb.held
    have hfa := ha.few
    rw [hm] at hfa
    have HM := hid hm
    have HN := hid hn
    clear ha hb hm hn
    go_enter Try.func28, Try.ntmps28
    go_wp2
    go_loopw [5] (fun i wr => ∃ k : Nat, k ≤ m ∧ i = .int .i64 k ∧ Hid ((∃ q, wr = w.drewN q) ∧ ∀ j, j < k → a.getD j 0 = b.getD j 0)) (fun i _ => m - (intOf i).toNat)
    case atStart => exact ⟨0, Nat.zero_le _, rfl, ⟨0, rfl⟩, fun j hj => absurd hj (Nat.not_lt_zero _)⟩
    case round =>
      obtain ⟨k, hk, rfl, HR⟩ := hrel
      by_cases hlt : k < m
      · have hlt' : (k : Int) < (m : Int) := by omega
        obtain ⟨q, hq⟩ := HR.out.1
        have hka : k < a.length := by rw [HM.out]; exact hlt
        have hkb : k < b.length := by rw [HN.out]; exact hlt
        obtain ⟨b1, o1, rfl, hc1⟩ := HA.out.cellAt hka
        obtain ⟨b2, o2, rfl, hc2⟩ := HB.out.cellAt hkb
        have c1 : wr.cell? ⟨b1, o1 + k, none⟩ = some (.int .i64 (a.getD k 0)) := by rw [hq]; exact hc1 k hka
        have c2 : wr.cell? ⟨b2, o2 + k, none⟩ = some (.int .i64 (b.getD k 0)) := by rw [hq]; exact hc2 k hkb
        have HKB := hid hkb
        have HKA := hid hka
        have HQ := hid hq
        clear hc1 hc2 hka hkb hq
        obtain ⟨X, HX⟩ : ∃ X, Hid (a.getD k 0 = X) := ⟨_, hid rfl⟩
        obtain ⟨Y, HY⟩ : ∃ Y, Hid (b.getD k 0 = Y) := ⟨_, hid rfl⟩
        rw [HX.out] at c1
        rw [HY.out] at c2
        by_cases hxy : X = Y
        · have hb : (X != Y) = false := by simp [hxy]
          have HXY := hid hxy
          clear hxy
          go_wp2
          go_quiet (fail)
          all_goals
            go_wp2
            go_roundw
            case rel => exact ⟨k + 1, by omega, by go_num, ⟨_, by rw [HQ.out, drewN_add]⟩, eq_stepB HR.out.2 (by rw [HX.out, HY.out, HXY.out])⟩
            case measure => simp [intOf]; omega
        · have hb : (X != Y) = true := by simp [hxy]
          have HXY := hid hxy
          clear hxy
          go_wp2
          go_quiet (fail)
          all_goals
            go_wp2
            go_ret
            refine ⟨?_, _, by rw [HQ.out, drewN_add]⟩
            have : ¬ a = b := fun h => HXY.out (by rw [← HX.out, ← HY.out, h])
            rw [decide_eq_false this]
            rfl
      · have hlt' : ¬ (k : Int) < (m : Int) := by omega
        go_wp2
        go_ret
        refine ⟨?_, HR.out.1⟩
        rw [decide_eq_true (eq_of_getDB (by rw [HM.out, HN.out]) (by rw [HM.out]; exact hlt) HR.out.2)]
        rfl
  · have hne : ((m : Int) != (n : Int)) = true := by simp; omega
    have HE : Hid (decide (a = b) = false) := decide_eq_false (fun h => hmn (by rw [← hm, ← hn, h]))
    clear ha hb hm hn
    rw [HE.out]
    go_enter Try.func28, Try.ntmps28
    go_wp2
    go_ret
    exact ⟨rfl, 0, rfl⟩

/-- What was chosen of the slots so far, in the order σ. -/
structure Chose (xs : List StM) (σ : Nat → Nat) (i : Nat) (g : Lr) : Prop where
  ok : LrOk g
  few : g.ks.length ≤ i
  mem : ∀ s e, g.f s = some e ↔ ∃ t, t < i ∧ (xs.getD (σ t) default).n = s ∧ (xs.getD (σ t) default).en.e = e ∧ 0 ≤ s ∧ s ≤ 2147483647 ∧ RightEn e = true
theorem Chose.start (xs : List StM) (σ : Nat → Nat) : Chose xs σ 0 noLr := ⟨noLr_ok, by simp [noLr], fun s e => ⟨fun h => (by simp [noLr] at h), fun ⟨t, ht, _⟩ => (by omega)⟩⟩
/-- No two slots are the same. -/
def Apart (xs : List StM) : Prop := ∀ i j, i < xs.length → j < xs.length → (xs.getD i default).n = (xs.getD j default).n → i = j
theorem Chose.step {xs : List StM} {σ : Nat → Nat} {i : Nat} {g : Lr} (h : Chose xs σ i g) (ha : Apart xs) (hl : xs.length ≤ 60000) (hi : i < xs.length) (hlt : ∀ t, t < xs.length → σ t < xs.length) (hinj : ∀ t u, t < xs.length → u < xs.length → σ t = σ u → t = u) : Chose xs σ (i + 1) (chooseL g (xs.getD (σ i) default).n (xs.getD (σ i) default).en.e) := by
  obtain ⟨s0, hs0⟩ : ∃ s, s = (xs.getD (σ i) default).n := ⟨_, rfl⟩
  obtain ⟨e0, he0⟩ : ∃ e, e = (xs.getD (σ i) default).en.e := ⟨_, rfl⟩
  rw [← hs0, ← he0]
  have hnone : g.f s0 = none := by
    cases hh : g.f s0 with
    | none => rfl
    | some y =>
      obtain ⟨t, ht, h1, _⟩ := (h.mem s0 y).1 hh
      have h2 := ha (σ t) (σ i) (hlt t (by omega)) (hlt i hi) (by rw [h1, hs0])
      have := hinj t i (by omega) hi h2
      omega
  have hfew := h.few
  by_cases hr : 0 ≤ s0 ∧ s0 ≤ 2147483647 ∧ RightEn e0 = true
  · have hc : chooseC g s0 e0 = 0 := by
      unfold chooseC
      rw [if_pos hr, hnone]
      exact if_pos (by omega)
    have hl2 : chooseL g s0 e0 = putL g s0 e0 := by unfold chooseL; rw [if_pos hc]
    refine ⟨chooseL_ok h.ok _ _, ?_, fun s e => ?_⟩
    · rw [hl2]
      have := putS_len g.ks s0
      show (putS g.ks s0).length ≤ _
      omega
    · rw [hl2]
      show (if s = s0 then some e0 else g.f s) = some e ↔ _
      by_cases hs : s = s0
      · rw [if_pos hs]
        constructor
        · intro h1
          cases h1
          exact ⟨i, by omega, by rw [← hs0, hs], he0.symm, by omega, by omega, hr.2.2⟩
        · rintro ⟨t, ht, h1, h2, _⟩
          have h3 := ha (σ t) (σ i) (hlt t (by omega)) (hlt i hi) (by rw [h1, hs, hs0])
          have h4 := hinj t i (by omega) hi h3
          rw [h4] at h2
          rw [he0, h2]
      · rw [if_neg hs, h.mem]
        constructor
        · rintro ⟨t, ht, h1⟩
          exact ⟨t, by omega, h1⟩
        · rintro ⟨t, ht, h1, h2⟩
          refine ⟨t, ?_, h1, h2⟩
          rcases Nat.lt_or_ge t i with h3 | h3
          · exact h3
          · have : t = i := by omega
            subst this
            exact absurd (h1.symm.trans hs0.symm) hs
  · have hc : chooseC g s0 e0 = 1 := by unfold chooseC; rw [if_neg hr]
    have hl2 : chooseL g s0 e0 = g := by unfold chooseL; rw [if_neg (by rw [hc]; decide)]
    rw [hl2]
    refine ⟨h.ok, by omega, fun s e => ?_⟩
    rw [h.mem]
    constructor
    · rintro ⟨t, ht, h1⟩
      exact ⟨t, by omega, h1⟩
    · rintro ⟨t, ht, h1, h2, h3⟩
      refine ⟨t, ?_, h1, h2, h3⟩
      rcases Nat.lt_or_ge t i with h4 | h4
      · exact h4
      · have : t = i := by omega
        subst this
        exact absurd ⟨by rw [hs0, h1]; exact h3.1, by rw [hs0, h1]; exact h3.2.1, by rw [he0, h2]; exact h3.2.2⟩ hr
theorem Chose.same {xs : List StM} {σ τ : Nat → Nat} {g h : Lr} (hg : Chose xs σ xs.length g) (hh : Chose xs τ xs.length h) (h1 : ∀ t, t < xs.length → ∃ u, u < xs.length ∧ τ u = σ t) (h2 : ∀ t, t < xs.length → ∃ u, u < xs.length ∧ σ u = τ t) : g = h := by
  have hf : g.f = h.f := by
    funext s
    apply Option.ext
    intro e
    rw [hg.mem, hh.mem]
    constructor
    · rintro ⟨t, ht, k⟩
      obtain ⟨u, hu, e⟩ := h1 t ht
      exact ⟨u, hu, by rw [e]; exact k⟩
    · rintro ⟨t, ht, k⟩
      obtain ⟨u, hu, e⟩ := h2 t ht
      exact ⟨u, hu, by rw [e]; exact k⟩
  have hk : g.ks = h.ks := rises_unique hg.ok.rise hh.ok.rise (fun x => by rw [hg.ok.has, hh.ok.has, hf])
  cases g
  cases h
  simp only at hf hk
  rw [hf, hk]
/-- The other order. -/
def turnS (n k t : Nat) : Nat := n - 1 - (t + k) % n
theorem mod_two {n a : Nat} (h : a < 2 * n) : a % n = if a < n then a else a - n := by
  split
  · next h1 => exact Nat.mod_eq_of_lt h1
  · next h1 =>
    rw [Nat.mod_eq_sub_mod (by omega)]
    exact Nat.mod_eq_of_lt (by omega)
theorem turnS_lt {n k t : Nat} (h : t < n) : turnS n k t < n := by unfold turnS; omega
theorem turnS_inj {n k t u : Nat} (hk : k < n) (ht : t < n) (hu : u < n) (h : turnS n k t = turnS n k u) : t = u := by
  unfold turnS at h
  have h1 := Nat.mod_lt (t + k) (show 0 < n by omega)
  have h2 := Nat.mod_lt (u + k) (show 0 < n by omega)
  rw [mod_two (show t + k < 2 * n by omega)] at h h1
  rw [mod_two (show u + k < 2 * n by omega)] at h h2
  split at h <;> split at h <;> omega
theorem turnS_onto {n k j : Nat} (hk : k < n) (hj : j < n) : ∃ t, t < n ∧ turnS n k t = j := by
  by_cases h : k ≤ n - 1 - j
  · refine ⟨n - 1 - j - k, by omega, ?_⟩
    unfold turnS
    rw [Nat.mod_eq_of_lt (by omega)]
    omega
  · refine ⟨n - 1 - j + n - k, by omega, ?_⟩
    unfold turnS
    rw [mod_two (by omega), if_neg (by omega)]
    omega
end Go.Proofs.Ytgghfmdciohinaa
