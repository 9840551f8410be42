/-
  codec.Name and pannierref01.Name: both tell of any string whether it may be a name ('nameS': 1 to 32 bytes, each a letter from a to z, a digit or the sign 45), and write nothing.
-/
import Derived.Test.YtjfohnkfcfifeaaRows
import Derived.Test.YtjfohnkfcfifeaaBase
namespace Go.Proofs.Ytjfohnkfcfifeaa
open Go.RowKit

/-- May c be a name's byte? -/
def nameB (c : Int) : Bool := (decide (97 ≤ c) && decide (c ≤ 122)) || (decide (48 ≤ c) && decide (c ≤ 57)) || c == 45
/-- May s be a name? -/
def nameS (s : ByteArray) : Bool := decide (1 ≤ s.size) && decide (s.size ≤ 32) && (strNums s).all nameB

theorem nameB_cases (c : Int) : (c < 45 ∧ nameB c = false) ∨ (c = 45 ∧ nameB c = true) ∨ ((45 < c ∧ c < 48) ∧ nameB c = false) ∨ ((48 ≤ c ∧ c ≤ 57) ∧ nameB c = true) ∨ ((57 < c ∧ c < 97) ∧ nameB c = false) ∨ ((97 ≤ c ∧ c ≤ 122) ∧ nameB c = true) ∨ (122 < c ∧ nameB c = false) := by
  have h45 : ∀ b : Bool, c ≠ 45 → (b || c == 45) = b := by
    intro b h
    rw [beq_eq_false_iff_ne.2 h, Bool.or_false]
  by_cases h1 : c < 45
  · refine .inl ⟨h1, ?_⟩
    unfold nameB
    rw [h45 _ (by omega), decide_eq_false (p := 97 ≤ c) (by omega), decide_eq_false (p := 48 ≤ c) (by omega)]
    rfl
  by_cases h2 : c = 45
  · subst h2
    exact .inr (.inl ⟨rfl, rfl⟩)
  by_cases h3 : c < 48
  · refine .inr (.inr (.inl ⟨⟨by omega, h3⟩, ?_⟩))
    unfold nameB
    rw [h45 _ (by omega), decide_eq_false (p := 97 ≤ c) (by omega), decide_eq_false (p := 48 ≤ c) (by omega)]
    rfl
  by_cases h4 : c ≤ 57
  · refine .inr (.inr (.inr (.inl ⟨⟨by omega, h4⟩, ?_⟩)))
    unfold nameB
    rw [h45 _ (by omega), decide_eq_true (p := 48 ≤ c) (by omega), decide_eq_true (p := c ≤ 57) h4]
    simp
  by_cases h5 : c < 97
  · refine .inr (.inr (.inr (.inr (.inl ⟨⟨by omega, h5⟩, ?_⟩))))
    unfold nameB
    rw [h45 _ (by omega), decide_eq_false (p := 97 ≤ c) (by omega), decide_eq_false (p := c ≤ 57) h4]
    simp
  by_cases h6 : c ≤ 122
  · refine .inr (.inr (.inr (.inr (.inr (.inl ⟨⟨by omega, h6⟩, ?_⟩)))))
    unfold nameB
    rw [h45 _ (by omega), decide_eq_true (p := 97 ≤ c) (by omega), decide_eq_true (p := c ≤ 122) h6]
    simp
  · refine .inr (.inr (.inr (.inr (.inr (.inr ⟨by omega, ?_⟩)))))
    unfold nameB
    rw [h45 _ (by omega), decide_eq_false (p := c ≤ 122) h6, decide_eq_false (p := c ≤ 57) h4]
    simp

theorem nameByte_any (c : Int) (w : World) : Calls Try.prog 60 #[.int .u8 c] w fun e w' => e = .returned (.bool (nameB c)) ∧ w' = w := by
  rcases nameB_cases c with ⟨h, e⟩ | ⟨h, e⟩ | ⟨⟨h, h'⟩, e⟩ | ⟨⟨h, h'⟩, e⟩ | ⟨⟨h, h'⟩, e⟩ | ⟨⟨h, h'⟩, e⟩ | ⟨h, e⟩
  all_goals
    rw [e]
    clear e
    go_enter Try.func60, Try.ntmps60
    go_wp2
    go_ret
    exact ⟨ret_bool (by first | rfl | (simp; done) | (simp; omega)), rfl⟩

theorem strNums_at {s : ByteArray} {k : Nat} (h : k < s.size) : (strNums s)[k]? = some ((s[k].toNat : Nat) : Int) := by
  have h2 : k < s.data.size := h
  simp [strNums, List.getElem?_map]
  rw [Array.getElem?_eq_getElem h2]
  exact ⟨_, rfl, rfl⟩

theorem all_snoc {s : ByteArray} {k : Nat} (h : k < s.size) : ((strNums s).take (k + 1)).all nameB = (((strNums s).take k).all nameB && nameB ((s[k].toNat : Nat) : Int)) := by
  have h2 : k < (strNums s).length := by rw [strNums_len]; exact h
  have h3 := strNums_at h
  rw [List.getElem?_eq_getElem h2] at h3
  rw [List.take_succ_eq_append_getElem h2, List.all_append, Option.some.inj h3]
  simp

theorem all_no {s : ByteArray} {k : Nat} (h : k < s.size) (hn : nameB ((s[k].toNat : Nat) : Int) = false) : (strNums s).all nameB = false := by
  rw [← List.take_append_drop (k + 1) (strNums s), List.all_append, all_snoc h, hn]
  simp

theorem codecName_any (s : ByteArray) (w : World) (hs : s.size ≤ maxLen) : Calls Try.prog 45 #[.string s] w fun e w' => e = .returned (.bool (nameS s)) ∧ w' = w := by
  unfold maxLen at hs
  by_cases h1 : s.size < 1
  · have e : nameS s = false := by simp [nameS]; omega
    rw [e]
    have h1' : (s.size : Int) < 1 := by omega
    go_enter Try.func45, Try.ntmps45
    go_wp2
    go_ret
    exact ⟨rfl, rfl⟩
  · have h1' : ¬ (s.size : Int) < 1 := by omega
    by_cases h2 : 32 < s.size
    · have e : nameS s = false := by simp [nameS]; omega
      rw [e]
      have h2' : (32 : Int) < (s.size : Int) := by omega
      go_enter Try.func45, Try.ntmps45
      go_wp2
      go_ret
      exact ⟨rfl, rfl⟩
    · have e : nameS s = (strNums s).all nameB := by
        unfold nameS
        rw [decide_eq_true (p := 1 ≤ s.size) (by omega), decide_eq_true (p := s.size ≤ 32) (by omega)]
        simp
      rw [e]
      have h2' : ¬ (32 : Int) < (s.size : Int) := by omega
      clear e
      go_enter Try.func45, Try.ntmps45
      go_wp2
      go_loop [14] (fun i => ∃ k : Nat, k ≤ s.size ∧ i = .int .i64 k ∧ ((strNums s).take k).all nameB = true) (fun i => s.size - (intOf i).toNat)
      case atStart => exact ⟨0, by omega, rfl, rfl⟩
      case round =>
        obtain ⟨k, hk, rfl, hall⟩ := hrel
        by_cases hlt : k < s.size
        · by_cases hn : nameB ((s[k].toNat : Nat) : Int) = true
          · have HA : Hid (((strNums s).take (k + 1)).all nameB = true) := by show _ = _; rw [all_snoc hlt, hall, hn]; rfl
            have hcl := nameByte_any ((s[k].toNat : Nat) : Int) w
            rw [hn] at hcl
            have HCL := hid hcl
            clear hall hn hcl
            go_wp2_with fail
            refine HCL.out.mono ?_
            rintro e w' ⟨rfl, rfl⟩
            go_wp2
            go_round
            case rel => exact ⟨k + 1, by omega, by go_num, HA.out⟩
            case measure => simp [intOf]; omega
          · have hn' := Bool.eq_false_iff.2 hn
            have HA : Hid ((strNums s).all nameB = false) := all_no hlt hn'
            have hcl := nameByte_any ((s[k].toNat : Nat) : Int) w
            rw [hn'] at hcl
            have HCL := hid hcl
            clear hall hn hn' hcl
            go_wp2_with fail
            refine HCL.out.mono ?_
            rintro e w' ⟨rfl, rfl⟩
            go_wp2
            go_ret
            exact ⟨ret_bool HA.out.symm, rfl⟩
        · have HA : Hid ((strNums s).all nameB = true) := by
            show _ = _
            rw [List.take_of_length_le (by rw [strNums_len]; omega)] at hall
            exact hall
          clear hall
          go_wp2
          go_ret
          exact ⟨ret_bool HA.out.symm, rfl⟩

theorem refName_any (s : ByteArray) (w : World) (hs : s.size ≤ maxLen) : Calls Try.prog 49 #[.string s] w fun e w' => e = .returned (.bool (nameS s)) ∧ w' = w := by
  unfold maxLen at hs
  go_enter Try.func49, Try.ntmps49
  go_wp2
  go_loop [3] (fun i => ∃ k : Nat, k ≤ s.size ∧ i = .int .i64 k ∧ ((strNums s).take k).all nameB = true) (fun i => s.size - (intOf i).toNat)
  case atStart => exact ⟨0, by omega, rfl, rfl⟩
  case round =>
    obtain ⟨k, hk, rfl, hall⟩ := hrel
    by_cases hlt : k < s.size
    · have HY : nameB ((s[k].toNat : Nat) : Int) = true → Hid (((strNums s).take (k + 1)).all nameB = true) := by intro hn; show _ = _; rw [all_snoc hlt, hall, hn]; rfl
      have HN : nameB ((s[k].toNat : Nat) : Int) = false → Hid (nameS s = false) := by intro hn; show _ = _; unfold nameS; rw [all_no hlt hn]; simp
      rcases nameB_cases ((s[k].toNat : Nat) : Int) with ⟨h, e⟩ | ⟨h, e⟩ | ⟨⟨h, h'⟩, e⟩ | ⟨⟨h, h'⟩, e⟩ | ⟨⟨h, h'⟩, e⟩ | ⟨⟨h, h'⟩, e⟩ | ⟨h, e⟩
      · have HF := HN e
        clear HY HN e hall
        have hne : ((s[k].toNat : Int) != 45) = true := by simp; omega
        go_wp2
        go_ret
        exact ⟨ret_bool HF.out.symm, rfl⟩
      · have HF := HY e
        clear HY HN e hall
        go_wp2
        go_round
        case rel => exact ⟨k + 1, by omega, by go_num, HF.out⟩
        case measure => simp [intOf]; omega
      · have HF := HN e
        clear HY HN e hall
        have hne : ((s[k].toNat : Int) != 45) = true := by simp; omega
        go_wp2
        go_ret
        exact ⟨ret_bool HF.out.symm, rfl⟩
      · have HF := HY e
        clear HY HN e hall
        go_wp2
        go_round
        case rel => exact ⟨k + 1, by omega, by go_num, HF.out⟩
        case measure => simp [intOf]; omega
      · have HF := HN e
        clear HY HN e hall
        have hne : ((s[k].toNat : Int) != 45) = true := by simp; omega
        go_wp2
        go_ret
        exact ⟨ret_bool HF.out.symm, rfl⟩
      · have HF := HY e
        clear HY HN e hall
        go_wp2
        go_round
        case rel => exact ⟨k + 1, by omega, by go_num, HF.out⟩
        case measure => simp [intOf]; omega
      · have HF := HN e
        clear HY HN e hall
        have hne : ((s[k].toNat : Int) != 45) = true := by simp; omega
        go_wp2
        go_ret
        exact ⟨ret_bool HF.out.symm, rfl⟩
    · have hall' : (strNums s).all nameB = true := by
        rw [List.take_of_length_le (by rw [strNums_len]; omega)] at hall
        exact hall
      have e0 : nameS s = (decide (1 ≤ s.size) && decide (s.size ≤ 32)) := by unfold nameS; rw [hall']; simp
      clear hall hall'
      by_cases h1 : 1 ≤ s.size
      · have h1' : (1 : Int) ≤ (s.size : Int) := by omega
        by_cases h2 : s.size ≤ 32
        · have h2' : (s.size : Int) ≤ 32 := by omega
          have HE : Hid (nameS s = true) := by show _ = _; rw [e0, decide_eq_true h1, decide_eq_true h2]; rfl
          clear e0
          go_wp2
          go_ret
          exact ⟨ret_bool HE.out.symm, rfl⟩
        · have h2' : ¬ (s.size : Int) ≤ 32 := by omega
          have HE : Hid (nameS s = false) := by show _ = _; rw [e0, decide_eq_false h2]; simp
          clear e0
          go_wp2
          go_ret
          exact ⟨ret_bool HE.out.symm, rfl⟩
      · have h1' : ¬ (1 : Int) ≤ (s.size : Int) := by omega
        have HE : Hid (nameS s = false) := by show _ = _; rw [e0, decide_eq_false h1]; rfl
        clear e0
        go_wp2
        go_ret
        exact ⟨ret_bool HE.out.symm, rfl⟩
end Go.Proofs.Ytjfohnkfcfifeaa
