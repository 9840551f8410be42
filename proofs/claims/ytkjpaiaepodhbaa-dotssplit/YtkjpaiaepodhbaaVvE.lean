/-
  Same; package vv's May, the document's May.
-/
import Derived.Test.YtkjpaiaepodhbaaVvD
namespace Go.Proofs.Ytkjpaiaepodhbaa
open Go.RowKit Go.Maps

theorem eq_of_getD {a b : List Int} (hl : a.length = b.length) {k : Nat} (hk : ¬ k < a.length) (h : ∀ j, j < k → a.getD j 0 = b.getD j 0) : a = b := by
  apply List.ext_getElem hl
  intro i h1 h2
  have := h i (by omega)
  simpa [List.getD, List.getElem?_eq_getElem h1, List.getElem?_eq_getElem h2] using this
theorem eq_step {a b : List Int} {k : Nat} (h : ∀ j, j < k → a.getD j 0 = b.getD j 0) (h' : a.getD k 0 = b.getD k 0) : ∀ j, j < k + 1 → a.getD j 0 = b.getD j 0 := by
  intro j hj
  by_cases e : j = k
  · subst e; exact h'
  · exact h j (by omega)

set_option maxRecDepth 100000 in
theorem same_any (w : World) (ao bo : Option Addr) (ca cb : Nat) (a b : List Int) (m n : Nat) (hm : a.length = m) (hn : b.length = n) (ha : HV w ao ca a) (hb : HV w bo cb b) :
    Calls Try.prog 39 #[.slice ao m ca, .slice bo n cb] w fun e w' => e = .returned (.bool (decide (a = b))) ∧ ∃ q, w' = w.drewN q := by
  by_cases hmn : m = n
  · subst hmn
    have HA := hid ha.held
    have HB := hid hb.held
    have hfa := ha.few
    rw [hm] at hfa
    have HM := hid hm
    have HN := hid hn
    clear ha hb hm hn
    go_enter Try.func39, Try.ntmps39
    go_wp2
    go_loopw [5] (fun i wr => ∃ k : Nat, k ≤ m ∧ i = .int .i64 k ∧ Hid ((∃ q, wr = w.drewN q) ∧ ∀ j, j < k → a.getD j 0 = b.getD j 0)) (fun i _ => m - (intOf i).toNat)
    case atStart => exact ⟨0, Nat.zero_le _, rfl, ⟨0, rfl⟩, fun j hj => absurd hj (Nat.not_lt_zero _)⟩
    case round =>
      obtain ⟨k, hk, rfl, HR⟩ := hrel
      by_cases hlt : k < m
      · have hlt' : (k : Int) < (m : Int) := by omega
        obtain ⟨q, hq⟩ := HR.out.1
        have hka : k < a.length := by rw [HM.out]; exact hlt
        have hkb : k < b.length := by rw [HN.out]; exact hlt
        obtain ⟨b1, o1, rfl, hc1⟩ := HA.out.cellAt hka
        obtain ⟨b2, o2, rfl, hc2⟩ := HB.out.cellAt hkb
        have c1 : wr.cell? ⟨b1, o1 + k, none⟩ = some (.int .i64 (a.getD k 0)) := by rw [hq]; exact hc1 k hka
        have c2 : wr.cell? ⟨b2, o2 + k, none⟩ = some (.int .i64 (b.getD k 0)) := by rw [hq]; exact hc2 k hkb
        have HKB := hid hkb
        have HKA := hid hka
        have HQ := hid hq
        clear hc1 hc2 hka hkb hq
        obtain ⟨X, HX⟩ : ∃ X, Hid (a.getD k 0 = X) := ⟨_, hid rfl⟩
        obtain ⟨Y, HY⟩ : ∃ Y, Hid (b.getD k 0 = Y) := ⟨_, hid rfl⟩
        rw [HX.out] at c1
        rw [HY.out] at c2
        by_cases hxy : X = Y
        · have hb : (X != Y) = false := by simp [hxy]
          have HXY := hid hxy
          clear hxy
          go_wp2
          go_quiet (fail)
          all_goals
            go_wp2
            go_roundw
            case rel => exact ⟨k + 1, by omega, by go_num, ⟨_, by rw [HQ.out, drewN_add]⟩, eq_step HR.out.2 (by rw [HX.out, HY.out, HXY.out])⟩
            case measure => simp [intOf]; omega
        · have hb : (X != Y) = true := by simp [hxy]
          have HXY := hid hxy
          clear hxy
          go_wp2
          go_quiet (fail)
          all_goals
            go_wp2
            go_ret
            refine ⟨?_, _, by rw [HQ.out, drewN_add]⟩
            have : ¬ a = b := fun h => HXY.out (by rw [← HX.out, ← HY.out, h])
            rw [decide_eq_false this]
            rfl
      · have hlt' : ¬ (k : Int) < (m : Int) := by omega
        go_wp2
        go_ret
        refine ⟨?_, HR.out.1⟩
        rw [decide_eq_true (eq_of_getD (by rw [HM.out, HN.out]) (by rw [HM.out]; exact hlt) HR.out.2)]
        rfl
  · have hne : ((m : Int) != (n : Int)) = true := by simp; omega
    have HE : Hid (decide (a = b) = false) := decide_eq_false (fun h => hmn (by rw [← hm, ← hn, h]))
    clear ha hb hm hn
    rw [HE.out]
    go_enter Try.func39, Try.ntmps39
    go_wp2
    go_ret
    exact ⟨rfl, 0, rfl⟩

/-- A number that may be. -/
def RightV (x : Int) : Prop := 0 ≤ x ∧ x ≤ 2147483647
instance (x : Int) : Decidable (RightV x) := by unfold RightV; infer_instance
theorem wrong_any (w : World) (x : Int) : Calls Try.prog 53 #[.int .i64 x] w fun e w' => e = .returned (.bool (!decide (RightV x))) ∧ w' = w := by
  by_cases h0 : x < 0
  · have hd : decide (RightV x) = false := decide_eq_false (by unfold RightV; omega)
    rw [hd]
    clear hd
    go_enter Try.func53, Try.ntmps53
    go_wp2
    go_ret
    exact ⟨rfl, rfl⟩
  · by_cases h1 : 2147483647 < x
    · have hd : decide (RightV x) = false := decide_eq_false (by unfold RightV; omega)
      rw [hd]
      clear hd
      go_enter Try.func53, Try.ntmps53
      go_wp2
      go_ret
      exact ⟨ret_bool (by simp), rfl⟩
    · have hd : decide (RightV x) = true := decide_eq_true (by unfold RightV; omega)
      rw [hd]
      clear hd
      go_enter Try.func53, Try.ntmps53
      go_wp2
      go_ret
      exact ⟨ret_bool (by simp), rfl⟩
theorem take_succ_all {p : Int → Prop} {xs : List Int} {k : Nat} (hk : k < xs.length) (h : ∀ x ∈ xs.take k, p x) (h' : p (xs.getD k 0)) : ∀ x ∈ xs.take (k + 1), p x := by
  intro x hx
  rw [List.take_succ_eq_append_getElem hk] at hx
  rcases List.mem_append.1 hx with h1 | h1
  · exact h x h1
  · simp at h1
    subst h1
    simpa [List.getD, List.getElem?_eq_getElem hk] using h'

set_option maxRecDepth 100000 in
theorem index_any (w : World) (ao : Option Addr) (cap : Nat) (xs : List Int) (h : HeldInt w ao xs) (hl : xs.length ≤ 17592186044416) :
    Calls Try.prog 72 #[.slice ao xs.length cap, .func (.func 53) #[] #[]] w fun e w' => (∃ r : Int, e = .returned (.int .i64 r) ∧ decide (0 ≤ r) = !decide (∀ x ∈ xs, RightV x)) ∧ w' = w := by
  have H := hid h
  clear h
  obtain ⟨n, hn⟩ : ∃ n, n = xs.length := ⟨_, rfl⟩
  have HN := hid hn
  rw [← hn] at hl ⊢
  clear hn
  go_enter Try.func72, Try.ntmps72
  go_wp2
  go_loop [5, 8] (fun _ i => ∃ k : Nat, k ≤ n ∧ i = .int .i64 k ∧ Hid (∀ x ∈ xs.take k, RightV x)) (fun _ i => n - (intOf i).toNat)
  case atStart => exact ⟨0, by omega, rfl, fun x hx => (by simp at hx)⟩
  case round =>
    obtain ⟨k, hk, rfl, HA⟩ := hrel
    by_cases hlt : k < n
    · have hlt' : (k : Int) < (n : Int) := by omega
      have hkx : Hid (k < xs.length) := (HN.out ▸ hlt : k < xs.length)
      obtain ⟨b, off, rfl, hc⟩ := H.out.cellAt hkx.out
      have hcell := hc k hkx.out
      clear hc
      obtain ⟨X, hX⟩ : ∃ X, X = xs.getD k 0 := ⟨_, rfl⟩
      rw [← hX] at hcell
      have HX := hid hX
      clear hX
      have HW := hid (wrong_any w X)
      by_cases hr : RightV X
      · have hd : (!decide (RightV X)) = false := by simp [hr]
        rw [hd] at HW
        have HR := hid hr
        clear hr hd
        go_wp2_with fail
        refine HW.out.mono ?_
        rintro e w' ⟨rfl, rfl⟩
        go_wp2
        go_round
        case rel => exact ⟨k + 1, by omega, by go_num, take_succ_all hkx.out HA.out (HX.out ▸ HR.out)⟩
        case measure => simp [intOf]; omega
      · have hd : (!decide (RightV X)) = true := by simp [hr]
        rw [hd] at HW
        have HR := hid hr
        clear hr hd
        go_wp2_with fail
        refine HW.out.mono ?_
        rintro e w' ⟨rfl, rfl⟩
        go_wp2
        go_ret
        refine ⟨⟨_, rfl, ?_⟩, rfl⟩
        have : ¬ ∀ x ∈ xs, RightV x := fun hh => HR.out (HX.out ▸ hh _ (getD_mem hkx.out))
        rw [decide_eq_false this]
        simp
    · have hlt' : ¬ (k : Int) < (n : Int) := by omega
      go_wp2
      go_ret
      refine ⟨⟨_, rfl, ?_⟩, rfl⟩
      have hk' : k = xs.length := by have := HN.out; omega
      have := HA.out
      rw [hk', List.take_length] at this
      rw [decide_eq_true this]
      simp
theorem contains_any (w : World) (ao : Option Addr) (cap : Nat) (xs : List Int) (h : HeldInt w ao xs) (hl : xs.length ≤ 17592186044416) :
    Calls Try.prog 54 #[.slice ao xs.length cap, .func (.func 53) #[] #[]] w fun e w' => e = .returned (.bool (!decide (∀ x ∈ xs, RightV x))) ∧ w' = w := by
  have H := hid (index_any w ao cap xs h hl)
  clear h hl
  go_enter Try.func54, Try.ntmps54
  go_wp2_with fail
  refine H.out.mono ?_
  rintro e w' ⟨⟨r, rfl, hr⟩, rfl⟩
  have HR := hid hr
  clear hr
  go_wp2
  go_ret
  exact ⟨ret_bool HR.out, rfl⟩
theorem mayV_iff (xs : List Int) : MayV xs ↔ xs.length ≤ 7 ∧ ∀ x ∈ xs, RightV x := Iff.rfl
theorem may_any (w : World) (ao : Option Addr) (cap : Nat) (xs : List Int) (n : Nat) (hn : xs.length = n) (h : HV w ao cap xs) :
    Calls Try.prog 22 #[.slice ao n cap] w fun e w' => e = .returned (.bool (decide (MayV xs))) ∧ w' = w := by
  have HC := hid (contains_any w ao cap xs h.held h.few)
  rw [hn] at HC
  clear h
  by_cases h7 : n ≤ 7
  · have hd : decide (MayV xs) = decide (∀ x ∈ xs, RightV x) := decide_eq_decide.2 ((mayV_iff xs).trans ⟨fun h => h.2, fun h => ⟨by omega, h⟩⟩)
    rw [hd]
    clear hd hn
    generalize decide (∀ x ∈ xs, RightV x) = D at *
    go_enter Try.func22, Try.ntmps22
    go_wp2_with fail
    refine HC.out.mono ?_
    rintro e w' ⟨rfl, rfl⟩
    go_wp2
    go_ret
    exact ⟨ret_bool (by simp), rfl⟩
  · have hd : decide (MayV xs) = false := decide_eq_false (fun h => by have := h.1; omega)
    rw [hd]
    clear hd hn HC
    go_enter Try.func22, Try.ntmps22
    go_wp2
    go_ret
    exact ⟨rfl, rfl⟩

set_option maxRecDepth 100000 in
theorem rmay_any (w : World) (ao : Option Addr) (cap : Nat) (xs : List Int) (n : Nat) (hn : xs.length = n) (h : HV w ao cap xs) :
    Calls Try.prog 26 #[.slice ao n cap] w fun e w' => e = .returned (.bool (decide (MayV xs))) ∧ w' = w := by
  have hl := h.few
  rw [hn] at hl
  have H := hid h.held
  have HN := hid hn
  clear h hn
  go_enter Try.func26, Try.ntmps26
  go_wp2
  go_loop [3] (fun i => ∃ k : Nat, k ≤ n ∧ i = .int .i64 k ∧ Hid (∀ x ∈ xs.take k, RightV x)) (fun i => n - (intOf i).toNat)
  case atStart => exact ⟨0, by omega, rfl, fun x hx => (by simp at hx)⟩
  case round =>
    obtain ⟨k, hk, rfl, HA⟩ := hrel
    by_cases hlt : k < n
    · have hlt' : (k : Int) < (n : Int) := by omega
      have hkx : Hid (k < xs.length) := (HN.out ▸ hlt : k < xs.length)
      obtain ⟨b, off, rfl, hc⟩ := H.out.cellAt hkx.out
      have hcell := hc k hkx.out
      clear hc
      obtain ⟨X, hX⟩ : ∃ X, X = xs.getD k 0 := ⟨_, rfl⟩
      rw [← hX] at hcell
      have HX := hid hX
      clear hX
      by_cases h0 : X < 0
      · go_wp2
        go_ret
        refine ⟨?_, rfl⟩
        have : ¬ MayV xs := fun hh => by have := hh.2 _ (getD_mem hkx.out); rw [← HX.out] at this; omega
        rw [decide_eq_false this]
        rfl
      · by_cases h1 : 2147483647 < X
        · go_wp2
          go_ret
          refine ⟨?_, rfl⟩
          have : ¬ MayV xs := fun hh => by have := hh.2 _ (getD_mem hkx.out); rw [← HX.out] at this; omega
          rw [decide_eq_false this]
          rfl
        · have HR : Hid (RightV X) := (by unfold RightV; omega : RightV X)
          go_wp2
          go_round
          case rel => exact ⟨k + 1, by omega, by go_num, take_succ_all hkx.out HA.out (HX.out ▸ HR.out)⟩
          case measure => simp [intOf]; omega
    · have hlt' : ¬ (k : Int) < (n : Int) := by omega
      go_wp2
      go_ret
      refine ⟨?_, rfl⟩
      have hk' : k = xs.length := by have := HN.out; omega
      have := HA.out
      rw [hk', List.take_length] at this
      have hd : decide (MayV xs) = decide (n ≤ 7) := decide_eq_decide.2 ((mayV_iff xs).trans ⟨fun h => by rw [← HN.out]; exact h.1, fun h => ⟨by rw [HN.out]; exact h, this⟩⟩)
      rw [hd]
      simp
      omega
end Go.Proofs.Ytkjpaiaepodhbaa
