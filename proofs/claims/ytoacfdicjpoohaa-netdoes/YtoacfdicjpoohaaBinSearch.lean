/-
  slices.BinarySearch over a rising slice of ints that holds the target: its place, and true.
-/
import Derived.Test.YtoacfdicjpoohaaRows
import Derived.Test.YtoacfdicjpoohaaBlk
namespace Go.Proofs.Ytoacfdicjpoohaa
open Go.RowKit

theorem cmpNaN (x : Int) (w : World) : Calls Try.prog 39 #[.int .i64 x] w fun e w' => e = .returned (.bool false) ∧ w' = w := by
  have h : (x != x) = false := by simp
  go_enter Try.func39, Try.ntmps39
  go_wp2
  go_ret
  exact ⟨rfl, rfl⟩
theorem less_any (x y : Int) (w : World) : Calls Try.prog 35 #[.int .i64 x, .int .i64 y] w fun e w' => e = .returned (.bool (decide (x < y))) ∧ w' = w := by
  go_enter Try.func35, Try.ntmps35
  go_wp2_with fail
  refine (cmpNaN _ _).mono ?_
  rintro e w' ⟨rfl, rfl⟩
  go_wp2
  go_ret
  exact ⟨rfl, rfl⟩

/-- A slice of ints at a plain address. -/
def IntsAt (w : World) (g : Nat) (xs : List Int) : Prop := ∀ j, j < xs.length → w.cell? ⟨g, j, none⟩ = some (.int .i64 (xs.getD j 0))
def Rising (xs : List Int) : Prop := ∀ i j, i < j → j < xs.length → xs.getD i 0 < xs.getD j 0

theorem mid_of {i j : Nat} (h : i < j) : i ≤ (i + j) / 2 ∧ (i + j) / 2 < j := by omega

set_option maxRecDepth 100000 in
set_option maxHeartbeats 1000000 in
theorem search_any (w : World) (g cap : Nat) (xs : List Int) (k : Nat) (hk : k < xs.length) (hc : IntsAt w g xs) (hr : Rising xs) (hl : xs.length ≤ 1000000000) :
    Calls Try.prog 24 #[.slice (some ⟨g, 0, none⟩) xs.length cap, .int .i64 (xs.getD k 0)] w fun e w' => e = .returned (.tuple #[.int .i64 k, .bool true]) ∧ w' = w := by
  have HC := hid hc
  have HR := hid hr
  obtain ⟨n, hn⟩ : ∃ n, n = xs.length := ⟨_, rfl⟩
  obtain ⟨T, hT⟩ : ∃ T, T = xs.getD k 0 := ⟨_, rfl⟩
  have HN := hid hn
  have HT := hid hT
  rw [← hn] at hk hl ⊢
  rw [← hT]
  clear hc hr hn hT
  go_enter Try.func24, Try.ntmps24
  go_wp2
  go_loop [7, 8] (fun a b => ∃ i j : Nat, i ≤ k ∧ k ≤ j ∧ j ≤ n ∧ a = .int .i64 i ∧ b = .int .i64 j) (fun a b => (intOf b - intOf a).toNat)
  case atStart => exact ⟨0, n, by omega, by omega, by omega, rfl, rfl⟩
  case round =>
    obtain ⟨i, j, hi, hj, hjn, rfl, rfl⟩ := hrel
    by_cases hlt : i < j
    · have hlt' : (i : Int) < (j : Int) := by omega
      obtain ⟨m, hm⟩ : ∃ m, m = (i + j) / 2 := ⟨_, rfl⟩
      have hm1 : i ≤ m ∧ m < j := by rw [hm]; exact mid_of hlt
      obtain ⟨hm1, hm2⟩ := hm1
      have hcell : w.cell? ⟨g, m, none⟩ = some (.int .i64 (xs.getD m 0)) := HC.out m (by have := HN.out; omega)
      have hmi : ((i : Int) + (j : Int)) / 2 = (m : Int) := by omega
      have HM := hid hm
      clear hm
      obtain ⟨X, hX⟩ : ∃ X, X = xs.getD m 0 := ⟨_, rfl⟩
      rw [← hX] at hcell
      have HX := hid hX
      clear hX
      have HL := hid (less_any X T w)
      by_cases hmk : m < k
      · have hXT : X < T := by rw [HX.out, HT.out]; exact HR.out m k hmk (by have := HN.out; omega)
        rw [decide_eq_true hXT] at HL
        go_wp2_with fail
        refine HL.out.mono ?_
        rintro e w' ⟨rfl, rfl⟩
        go_wp2
        go_round
        case rel => exact ⟨m + 1, j, by omega, by omega, by omega, by go_num, rfl⟩
        case measure => simp [intOf]; omega
      · have hXT : ¬ X < T := by
          rw [HX.out, HT.out]
          rcases Nat.lt_or_eq_of_le (Nat.le_of_not_lt hmk) with h | h
          · have := HR.out k m h (by have := HN.out; omega)
            omega
          · rw [h]
            omega
        rw [decide_eq_false hXT] at HL
        go_wp2_with fail
        refine HL.out.mono ?_
        rintro e w' ⟨rfl, rfl⟩
        go_wp2
        go_round
        case rel => exact ⟨i, m, by omega, by omega, by omega, rfl, rfl⟩
        case measure => simp [intOf]; omega
    · have e1 : i = k := by omega
      have e2 : j = k := by omega
      subst e1 e2
      have hcell : w.cell? ⟨g, j, none⟩ = some (.int .i64 T) := by rw [HT.out]; exact HC.out j (by have := HN.out; omega)
      have hjn' : (j : Int) < (n : Int) := by omega
      go_wp2
      go_ret2
      exact ⟨rfl, rfl⟩
end Go.Proofs.Ytoacfdicjpoohaa
