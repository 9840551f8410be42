/-
  Package clock: the small functions: within, apart, roundedUp, drifted, mayDrift, mayShow, Trust.
-/
import Derived.Test.YtmceffndnofgfaaRows
import Derived.Test.YtmceffndnofgfaaBlk
import Derived.Test.YtmceffndnofgfaaClkMath
import Derived.Laws.ResultCell
namespace Go.Proofs.Ytmceffndnofgfaa
open Go.RowKit Go.Maps

theorem ret_int {k : IntKind} {a b : Int} (h : a = b) : Ending.returned (.int k a) = .returned (.int k b) := by rw [h]
theorem wrapS {x : Int} (h0 : -9223372036854775808 ≤ x) (h1 : x ≤ 9223372036854775807) : wrap64 x = x := by
  unfold wrap64
  omega
theorem trust_fits {l r : Int} (h : (1 ≤ l ∧ l ≤ 1048576) ∧ 0 ≤ r ∧ r ≤ 999) : wrap64 ((wrap64 (l * (1000 - r))).tdiv (1000 + r)) = l * (1000 - r) / (1000 + r) := by
  obtain ⟨⟨h1, h2⟩, h3, h4⟩ := h
  have a0 : 0 ≤ l * (1000 - r) := Int.mul_nonneg (by omega) (by omega)
  have a1 : l * (1000 - r) ≤ 1048576 * 1000 := Int.mul_le_mul h2 (by omega) (by omega) (by omega)
  have b0 : 0 ≤ l * (1000 - r) / (1000 + r) := Int.ediv_nonneg a0 (by omega)
  have b1 : l * (1000 - r) / (1000 + r) ≤ l * (1000 - r) := Int.ediv_le_self _ a0
  rw [wrapS (x := l * (1000 - r)) (by omega) (by omega), Int.tdiv_eq_ediv_of_nonneg a0, wrapS (by omega) (by omega)]

theorem within_int (w : World) (x a b : Int) : Calls Try.prog 40 #[.int .i64 x, .int .i64 a, .int .i64 b] w fun e w' => e = .returned (.bool (decide (a ≤ x ∧ x ≤ b))) ∧ w' = w := by
  by_cases h0 : a ≤ x
  · by_cases h1 : x ≤ b
    · go_enter Try.func40, Try.ntmps40
      go_wp2
      go_ret
      exact ⟨ret_bool (by simp [h0, h1]), rfl⟩
    · go_enter Try.func40, Try.ntmps40
      go_wp2
      go_ret
      exact ⟨ret_bool (by simp [h1]), rfl⟩
  · go_enter Try.func40, Try.ntmps40
    go_wp2
    go_ret
    exact ⟨ret_bool (by simp; omega), rfl⟩
theorem within_th (w : World) (x a b : Int) : Calls Try.prog 49 #[.int .i64 x, .int .i64 a, .int .i64 b] w fun e w' => e = .returned (.bool (decide (a ≤ x ∧ x ≤ b))) ∧ w' = w := by
  by_cases h0 : a ≤ x
  · by_cases h1 : x ≤ b
    · go_enter Try.func49, Try.ntmps49
      go_wp2
      go_ret
      exact ⟨ret_bool (by simp [h0, h1]), rfl⟩
    · go_enter Try.func49, Try.ntmps49
      go_wp2
      go_ret
      exact ⟨ret_bool (by simp [h1]), rfl⟩
  · go_enter Try.func49, Try.ntmps49
    go_wp2
    go_ret
    exact ⟨ret_bool (by simp; omega), rfl⟩

theorem mayDrift_any (w : World) (r : Int) : Calls Try.prog 42 #[.int .i64 r] w fun e w' => e = .returned (.bool (decide (0 ≤ r ∧ r ≤ 999))) ∧ w' = w := by
  go_enter Try.func42, Try.ntmps42
  go_wp2_with fail
  refine (within_th _ _ _ _).mono ?_
  rintro e w' ⟨rfl, rfl⟩
  go_wp2
  go_ret
  exact ⟨ret_bool (by simp [Bool.decide_and]), rfl⟩
theorem mayShow_any (w : World) (x : Int) : Calls Try.prog 51 #[.int .i64 x] w fun e w' => e = .returned (.bool (decide (0 ≤ x ∧ x ≤ 1152921504606846976))) ∧ w' = w := by
  go_enter Try.func51, Try.ntmps51
  go_wp2_with fail
  refine (within_int _ _ _ _).mono ?_
  rintro e w' ⟨rfl, rfl⟩
  go_wp2
  go_ret
  exact ⟨ret_bool (by simp [Bool.decide_and]), rfl⟩
theorem wrong_any (w : World) (x : Int) : Calls Try.prog 47 #[.int .i64 x] w fun e w' => e = .returned (.bool (!decide (Right x))) ∧ w' = w := by
  go_enter Try.func47, Try.ntmps47
  go_wp2_with fail
  refine (within_int _ _ _ _).mono ?_
  rintro e w' ⟨rfl, rfl⟩
  go_wp2
  go_ret
  exact ⟨ret_bool (by unfold Right; by_cases h0 : 0 ≤ x <;> by_cases h1 : x ≤ 1048576 <;> simp [h0, h1]), rfl⟩
theorem apart_any (w : World) (x y : Int) (hx : Right x) (hy : Right y) : Calls Try.prog 53 #[.int .i64 x, .int .i64 y] w fun e w' => e = .returned (.int .i64 (offOf x y)) ∧ w' = w := by
  unfold Right at hx hy
  obtain ⟨hx0, hx1⟩ := hx
  obtain ⟨hy0, hy1⟩ := hy
  by_cases h : x ≤ y
  · by_cases h' : y ≤ x
    · go_enter Try.func53, Try.ntmps53
      go_wp2
      all_goals
        go_ret
        exact ⟨ret_int (by unfold offOf; split <;> omega), rfl⟩
    · go_enter Try.func53, Try.ntmps53
      go_wp2
      all_goals
        go_ret
        exact ⟨ret_int (by unfold offOf; split <;> omega), rfl⟩
  · go_enter Try.func53, Try.ntmps53
    go_wp2
    all_goals
      go_ret
      exact ⟨ret_int (by unfold offOf; split <;> omega), rfl⟩
theorem rup_any (w : World) (x y : Int) (hx : 0 ≤ x) (hx' : x ≤ 1048576000) (hy : 0 < y) (hy' : y ≤ 1048576) : Calls Try.prog 54 #[.int .i64 x, .int .i64 y] w fun e w' => e = .returned (.int .i64 (rup x y)) ∧ w' = w := by
  go_enter Try.func54, Try.ntmps54
  have b0 : 0 ≤ x / y := Int.ediv_nonneg hx (by omega)
  have b1 : x / y ≤ x := Int.ediv_le_self _ hx
  by_cases hm : x % y = 0
  · have hb : (x % y == 0) = true := by simp [hm]
    go_wp2
    go_ret
    exact ⟨ret_int (by unfold rup; rw [if_pos hm]), rfl⟩
  · have hb : (x % y == 0) = false := by simp [hm]
    have hw : wrap64 (x / y + 1) = x / y + 1 := wrapS (by omega) (by omega)
    go_wp2
    go_ret
    exact ⟨ret_int (by unfold rup; rw [if_neg hm]), rfl⟩
theorem trust_bad (w : World) (l r : Int) (h : ¬ ((1 ≤ l ∧ l ≤ 1048576) ∧ 0 ≤ r ∧ r ≤ 999)) : Calls Try.prog 31 #[.int .i64 l, .int .i64 r] w fun e w' => e = .returned (.int .i64 0) ∧ w' = w := by
  go_enter Try.func31, Try.ntmps31
  go_wp2_with fail
  refine (within_int _ _ _ _).mono ?_
  rintro e w' ⟨rfl, rfl⟩
  by_cases h0 : (1 ≤ l ∧ l ≤ 1048576)
  · have hr : decide (0 ≤ r ∧ r ≤ 999) = false := by simp; omega
    have hd : decide (1 ≤ l ∧ l ≤ 1048576) = true := by simp [h0]
    rw [hd]
    go_wp2_with fail
    refine (mayDrift_any _ _).mono ?_
    rintro e w' ⟨rfl, rfl⟩
    rw [hr]
    go_wp2
    go_ret
    exact ⟨rfl, rfl⟩
  · have hd : decide (1 ≤ l ∧ l ≤ 1048576) = false := by simp; omega
    rw [hd]
    go_wp2
    go_ret
    exact ⟨rfl, rfl⟩
theorem trust_good (w : World) (l r : Int) (h : (1 ≤ l ∧ l ≤ 1048576) ∧ 0 ≤ r ∧ r ≤ 999) : Calls Try.prog 31 #[.int .i64 l, .int .i64 r] w fun e w' => e = .returned (.int .i64 (l * (1000 - r) / (1000 + r))) ∧ w' = w := by
  go_enter Try.func31, Try.ntmps31
  have hr : decide (0 ≤ r ∧ r ≤ 999) = true := by simp [h.2]
  have hd : decide (1 ≤ l ∧ l ≤ 1048576) = true := by simp [h.1]
  go_wp2_with fail
  refine (within_int _ _ _ _).mono ?_
  rintro e w' ⟨rfl, rfl⟩
  rw [hd]
  go_wp2_with fail
  refine (mayDrift_any _ _).mono ?_
  rintro e w' ⟨rfl, rfl⟩
  rw [hr]
  go_wp2
  go_ret
  exact ⟨ret_int (trust_fits h), rfl⟩
theorem trust_any (w : World) (l r : Int) : Calls Try.prog 31 #[.int .i64 l, .int .i64 r] w fun e w' => e = .returned (.int .i64 (trustOf l r)) ∧ w' = w := by
  unfold trustOf
  by_cases h : (1 ≤ l ∧ l ≤ 1048576) ∧ 0 ≤ r ∧ r ≤ 999
  · rw [if_pos h]
    exact trust_good w l r h
  · rw [if_neg h]
    exact trust_bad w l r h

theorem mul_thou {t a : Int} (ht : Right t) (ha : Right a) : 0 ≤ offOf t a * 1000 ∧ offOf t a * 1000 ≤ 1048576000 := by
  unfold Right at ht ha
  unfold offOf
  split <;> omega
theorem drifted_any (w : World) (t a : Int) (ht : Right t) (ha : Right a) : Calls Try.prog 50 #[.int .i64 t, .int .i64 a] w fun e w' => e = .returned (.int .i64 (driftOf t a)) ∧ w' = w := by
  have HM := mul_thou ht ha
  have hn := offOf_nonneg t a
  have hap := apart_any w t a ht ha
  unfold driftOf
  generalize offOf t a = o at *
  have HAP := hid hap
  have hT := hid ht
  clear hap ha ht
  by_cases h0 : o = 0
  · rw [if_pos h0]
    subst h0
    clear HM hn
    go_enter Try.func50, Try.ntmps50
    go_wp2_with fail
    refine HAP.out.mono ?_
    rintro e w' ⟨rfl, rfl⟩
    go_wp2
    go_ret
    exact ⟨rfl, rfl⟩
  · rw [if_neg h0]
    by_cases h1 : t ≤ o
    · rw [if_pos h1]
      go_enter Try.func50, Try.ntmps50
      go_wp2_with fail
      refine HAP.out.mono ?_
      rintro e w' ⟨rfl, rfl⟩
      go_wp2
      go_ret
      exact ⟨rfl, rfl⟩
    · rw [if_neg h1]
      have hw : wrap64 (o * 1000) = o * 1000 := wrapS (by omega) (by omega)
      have HR := hid (fun W => rup_any W (o * 1000) t HM.1 HM.2 (by omega) hT.out.2)
      go_enter Try.func50, Try.ntmps50
      go_wp2_with fail
      refine HAP.out.mono ?_
      rintro e w' ⟨rfl, rfl⟩
      go_wp2_with fail
      refine (HR.out _).mono ?_
      rintro e w' ⟨rfl, rfl⟩
      go_wp2
      go_ret
      exact ⟨rfl, rfl⟩
end Go.Proofs.Ytmceffndnofgfaa
