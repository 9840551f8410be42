/-
  Package lin: slices.Max, slices.Min of numbers.
-/
import Derived.Test.YtfjmhfbmphdjiaaLnF
namespace Go.Proofs.Ytfjmhfbmphdjiaa
open Go.RowKit Go.Maps

theorem ifmax (y x : Int) : (if y < x then x else y) = max y x := by split <;> omega
theorem ifmin (y x : Int) : (if x < y then x else y) = min y x := by split <;> omega
def maxI : List Int → Int
  | [] => 0
  | x :: r => r.foldl max x
def minI : List Int → Int
  | [] => 0
  | x :: r => r.foldl min x
theorem maxI_snoc {xs : List Int} (h : xs ≠ []) (y : Int) : maxI (xs ++ [y]) = max (maxI xs) y := by
  cases xs with
  | nil => exact absurd rfl h
  | cons x r => simp [maxI]
theorem minI_snoc {xs : List Int} (h : xs ≠ []) (y : Int) : minI (xs ++ [y]) = min (minI xs) y := by
  cases xs with
  | nil => exact absurd rfl h
  | cons x r => simp [minI]
theorem maxI_take {xs : List Int} {k : Nat} (h0 : 0 < k) (hk : k < xs.length) : maxI (xs.take (k + 1)) = max (maxI (xs.take k)) (xs.getD k 0) := by
  rw [List.take_succ_eq_append_getElem hk, maxI_snoc]
  · simp [List.getD, List.getElem?_eq_getElem hk]
  · intro h
    have : (xs.take k).length = 0 := by rw [h]; rfl
    rw [List.length_take] at this
    omega
theorem minI_take {xs : List Int} {k : Nat} (h0 : 0 < k) (hk : k < xs.length) : minI (xs.take (k + 1)) = min (minI (xs.take k)) (xs.getD k 0) := by
  rw [List.take_succ_eq_append_getElem hk, minI_snoc]
  · simp [List.getD, List.getElem?_eq_getElem hk]
  · intro h
    have : (xs.take k).length = 0 := by rw [h]; rfl
    rw [List.length_take] at this
    omega
theorem maxI_one {xs : List Int} (h : 0 < xs.length) : maxI (xs.take 1) = xs.getD 0 0 := by
  cases xs with
  | nil => cases h
  | cons x r => simp [maxI]
theorem minI_one {xs : List Int} (h : 0 < xs.length) : minI (xs.take 1) = xs.getD 0 0 := by
  cases xs with
  | nil => cases h
  | cons x r => simp [minI]
set_option maxRecDepth 100000 in
theorem max_any (w : World) (ao : Option Addr) (cap : Nat) (xs : List Int) (n : Nat) (hn : xs.length = n) (h : HeldInt w ao xs) (h0 : 0 < n) (hl : n ≤ 140737488355328) :
    Calls Try.prog 24 #[.slice ao n cap] w fun e w' => e = .returned (.int .i64 (maxI xs)) ∧ w' = w := by
  have H := hid h
  have HN := hid hn
  clear h hn
  obtain ⟨b, off, hao, hc⟩ := H.out.cellAt (k := 0) (by rw [HN.out]; exact h0)
  subst hao
  have HC : Hid (∀ j, j < n → w.cell? ⟨b, off + j, none⟩ = some (.int .i64 (xs.getD j 0))) := fun j hj => hc j (by rw [HN.out]; exact hj)
  have c0 : w.cell? ⟨b, off, none⟩ = some (.int .i64 (xs.getD 0 0)) := HC.out 0 h0
  have HH0 : Hid (maxI (xs.take 1) = xs.getD 0 0) := maxI_one (by rw [HN.out]; exact h0)
  obtain ⟨Z, HZ⟩ : ∃ z, Hid (xs.getD 0 0 = z) := ⟨_, hid rfl⟩
  rw [HZ.out] at c0 HH0
  have hn1 : ¬ (n : Int) < 1 := by omega
  clear hc
  go_enter Try.func24, Try.ntmps24
  go_wp2
  go_loop [3, 4] (fun m i => ∃ k : Nat, ∃ y : Int, 1 ≤ k ∧ k ≤ n ∧ i = .int .i64 k ∧ m = .int .i64 y ∧ Hid (maxI (xs.take k) = y)) (fun _ i => n - (intOf i).toNat)
  case atStart => exact ⟨1, Z, Nat.le_refl _, h0, rfl, rfl, HH0.out⟩
  case round =>
    obtain ⟨k, y, hk1, hk, rfl, rfl, HR⟩ := hrel
    by_cases hlt : k < n
    · have hlt' : (k : Int) < (n : Int) := by omega
      have hcell := HC.out k hlt
      have HTK : Hid (maxI (xs.take (k + 1)) = max y (xs.getD k 0)) := by rw [maxI_take (by omega) (by rw [HN.out]; exact hlt), HR.out]; exact rfl
      obtain ⟨X, HX⟩ : ∃ z, Hid (xs.getD k 0 = z) := ⟨_, hid rfl⟩
      rw [HX.out] at hcell HTK
      go_wp2
      go_round
      case rel => exact ⟨k + 1, max y X, by omega, by omega, by go_num, by first | simp only [ifmax] | simp only [ifmin], HTK.out⟩
      case measure => simp [intOf]; omega
    · have hlt' : ¬ (k : Int) < (n : Int) := by omega
      have HE : Hid (maxI xs = y) := by
        have := HR.out
        rw [List.take_of_length_le (by have := HN.out; omega)] at this
        exact this
      go_wp2
      go_ret
      exact ⟨by rw [HE.out]; rfl, rfl⟩
set_option maxRecDepth 100000 in
theorem min_any (w : World) (ao : Option Addr) (cap : Nat) (xs : List Int) (n : Nat) (hn : xs.length = n) (h : HeldInt w ao xs) (h0 : 0 < n) (hl : n ≤ 140737488355328) :
    Calls Try.prog 28 #[.slice ao n cap] w fun e w' => e = .returned (.int .i64 (minI xs)) ∧ w' = w := by
  have H := hid h
  have HN := hid hn
  clear h hn
  obtain ⟨b, off, hao, hc⟩ := H.out.cellAt (k := 0) (by rw [HN.out]; exact h0)
  subst hao
  have HC : Hid (∀ j, j < n → w.cell? ⟨b, off + j, none⟩ = some (.int .i64 (xs.getD j 0))) := fun j hj => hc j (by rw [HN.out]; exact hj)
  have c0 : w.cell? ⟨b, off, none⟩ = some (.int .i64 (xs.getD 0 0)) := HC.out 0 h0
  have HH0 : Hid (minI (xs.take 1) = xs.getD 0 0) := minI_one (by rw [HN.out]; exact h0)
  obtain ⟨Z, HZ⟩ : ∃ z, Hid (xs.getD 0 0 = z) := ⟨_, hid rfl⟩
  rw [HZ.out] at c0 HH0
  have hn1 : ¬ (n : Int) < 1 := by omega
  clear hc
  go_enter Try.func28, Try.ntmps28
  go_wp2
  go_loop [3, 4] (fun m i => ∃ k : Nat, ∃ y : Int, 1 ≤ k ∧ k ≤ n ∧ i = .int .i64 k ∧ m = .int .i64 y ∧ Hid (minI (xs.take k) = y)) (fun _ i => n - (intOf i).toNat)
  case atStart => exact ⟨1, Z, Nat.le_refl _, h0, rfl, rfl, HH0.out⟩
  case round =>
    obtain ⟨k, y, hk1, hk, rfl, rfl, HR⟩ := hrel
    by_cases hlt : k < n
    · have hlt' : (k : Int) < (n : Int) := by omega
      have hcell := HC.out k hlt
      have HTK : Hid (minI (xs.take (k + 1)) = min y (xs.getD k 0)) := by rw [minI_take (by omega) (by rw [HN.out]; exact hlt), HR.out]; exact rfl
      obtain ⟨X, HX⟩ : ∃ z, Hid (xs.getD k 0 = z) := ⟨_, hid rfl⟩
      rw [HX.out] at hcell HTK
      go_wp2
      go_round
      case rel => exact ⟨k + 1, min y X, by omega, by omega, by go_num, by first | simp only [ifmax] | simp only [ifmin], HTK.out⟩
      case measure => simp [intOf]; omega
    · have hlt' : ¬ (k : Int) < (n : Int) := by omega
      have HE : Hid (minI xs = y) := by
        have := HR.out
        rw [List.take_of_length_le (by have := HN.out; omega)] at this
        exact this
      go_wp2
      go_ret
      exact ⟨by rw [HE.out]; rfl, rfl⟩
end Go.Proofs.Ytfjmhfbmphdjiaa
