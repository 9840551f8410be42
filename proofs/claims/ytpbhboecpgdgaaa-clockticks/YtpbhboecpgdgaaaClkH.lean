/-
  pannierlaw05.ClockWider answers true at every input.
-/
import Derived.Test.YtpbhboecpgdgaaaClkG
namespace Go.Proofs.Ytpbhboecpgdgaaa
open Go.RowKit Go.Maps

theorem trust_less {l a b : Int} (ha : 0 ≤ a) (hab : a ≤ b) (hb : b ≤ 999) : trustOf l b ≤ trustOf l a := by
  unfold trustOf
  by_cases hl : 1 ≤ l ∧ l ≤ 1048576
  · rw [if_pos ⟨hl, by omega⟩, if_pos ⟨hl, by omega⟩]
    rw [Int.le_ediv_iff_mul_le (by omega)]
    have h1 : l * (1000 - b) / (1000 + b) * (1000 + b) ≤ l * (1000 - b) := Int.ediv_mul_le _ (by omega)
    have h0 : 0 ≤ l * (1000 - b) / (1000 + b) := Int.ediv_nonneg (Int.mul_nonneg (by omega) (by omega)) (by omega)
    have h2 : l * (1000 - b) / (1000 + b) * (1000 + a) ≤ l * (1000 - b) / (1000 + b) * (1000 + b) := Int.mul_le_mul_of_nonneg_left (by omega) h0
    have h3 : l * (1000 - b) ≤ l * (1000 - a) := Int.mul_le_mul_of_nonneg_left (by omega) (by omega)
    omega
  · rw [if_neg (fun h => hl h.1), if_neg (fun h => hl h.1)]
    exact Int.le_refl _
theorem trust_more {l a : Int} (h1 : 1 ≤ l) (h2 : l < 1048576) : trustOf l a ≤ trustOf (l + 1) a := by
  unfold trustOf
  by_cases ha : 0 ≤ a ∧ a ≤ 999
  · rw [if_pos ⟨by omega, ha⟩, if_pos ⟨by omega, ha⟩]
    exact Int.ediv_le_ediv (by omega) (Int.mul_le_mul_of_nonneg_right (by omega) (by omega))
  · rw [if_neg (fun h => ha h.2), if_neg (fun h => ha h.2)]
    exact Int.le_refl _
theorem trust_zero {l : Int} (h1 : 1 ≤ l) (h2 : l < 1048576) : trustOf l 0 = l := by
  unfold trustOf
  rw [if_pos ⟨by omega, by omega⟩]
  omega
theorem trust_1000 (l : Int) : trustOf l 1000 = 0 := by
  unfold trustOf
  rw [if_neg (by omega)]

theorem HeldInt.below {w w' : World} {ao : Option Addr} {xs : List Int} (h : HeldInt w ao xs) (hb : Below w.heap.size w w') : HeldInt w' ao xs :=
  h.turned (F := fun _ => False) (Turns.of_below hb (Nat.le_refl _)) (fun _ _ _ _ h => h)
theorem keeps_neg (t : Int) (xs : List Int) : decide (KeepsAll t xs (-1)) = false := decide_eq_false (fun h => by have := h.2.2.1.1; omega)
theorem wrap_succ {l : Int} (h1 : 1 ≤ l) (h2 : l < 1048576) : wrap64 (l + 1) = l + 1 := wrapS (by omega) (by omega)

section
variable (t : Int) (ao : Option Addr) (cap : Nat) (xs : List Int) (a b l : Int) (w : World)
set_option maxRecDepth 100000 in
theorem wider_bad (hx : HeldInt w ao xs) (hl : xs.length ≤ 140737488355328) (hbad : a < 0 ∨ b < a ∨ 999 < b) :
    Calls Try.prog 7 #[.int .i64 t, .slice ao xs.length cap, .int .i64 a, .int .i64 b, .int .i64 l] w fun e w' => e = .returned (.bool true) ∧ Below w.heap.size w w' := by
  have HX := hid hx
  have hkf := keeps_neg t xs
  clear hx
  by_cases h0 : a < 0
  · clear hbad
    go_enter Try.func7, Try.ntmps7
    go_wp2_with fail
    refine (lives_any _).mono ?_
    rintro e w1 ⟨rfl, hb1⟩
    have HB := hid hb1
    have HK := hid (keeps_any w1 t ao cap xs (-1) (HX.out.below hb1) hl)
    rw [hkf] at HK
    clear hb1
    go_wp2_with fail
    refine HK.out.mono ?_
    rintro e w' ⟨rfl, rfl⟩
    go_wp2_with fail
    refine (trust_any _ _ _).mono ?_
    rintro e w' ⟨rfl, rfl⟩
    rw [trust_1000]
    go_wp2
    go_ret
    exact ⟨rfl, HB.out⟩
  by_cases h1 : b < a
  · clear hbad
    go_enter Try.func7, Try.ntmps7
    go_wp2_with fail
    refine (lives_any _).mono ?_
    rintro e w1 ⟨rfl, hb1⟩
    have HB := hid hb1
    have HK := hid (keeps_any w1 t ao cap xs (-1) (HX.out.below hb1) hl)
    rw [hkf] at HK
    clear hb1
    go_wp2_with fail
    refine HK.out.mono ?_
    rintro e w' ⟨rfl, rfl⟩
    go_wp2_with fail
    refine (trust_any _ _ _).mono ?_
    rintro e w' ⟨rfl, rfl⟩
    rw [trust_1000]
    go_wp2
    go_ret
    exact ⟨rfl, HB.out⟩
  · have h2 : 999 < b := by omega
    clear hbad
    go_enter Try.func7, Try.ntmps7
    go_wp2_with fail
    refine (lives_any _).mono ?_
    rintro e w1 ⟨rfl, hb1⟩
    have HB := hid hb1
    have HK := hid (keeps_any w1 t ao cap xs (-1) (HX.out.below hb1) hl)
    rw [hkf] at HK
    clear hb1
    go_wp2_with fail
    refine HK.out.mono ?_
    rintro e w' ⟨rfl, rfl⟩
    go_wp2_with fail
    refine (trust_any _ _ _).mono ?_
    rintro e w' ⟨rfl, rfl⟩
    rw [trust_1000]
    go_wp2
    go_ret
    exact ⟨rfl, HB.out⟩

set_option maxRecDepth 100000 in
set_option maxHeartbeats 1000000 in
theorem wider_good (hx : HeldInt w ao xs) (hl : xs.length ≤ 140737488355328) (h0 : ¬ a < 0) (h1 : ¬ b < a) (h2 : ¬ 999 < b) :
    Calls Try.prog 7 #[.int .i64 t, .slice ao xs.length cap, .int .i64 a, .int .i64 b, .int .i64 l] w fun e w' => e = .returned (.bool true) ∧ Below w.heap.size w w' := by
  have HX := hid hx
  have HTL := hid (trust_less (l := l) (a := a) (b := b) (by omega) (by omega) (by omega))
  have HTM := hid (fun h1 h2 => trust_more (l := l) (a := a) h1 h2)
  have HTZ := hid (fun h1 h2 => trust_zero (l := l) h1 h2)
  have HKW := hid (fun h => keepsAll_wider (t := t) (on := xs) (r := a) (r' := b) h (by omega) (by omega))
  clear hx
  go_enter Try.func7, Try.ntmps7
  go_wp2_with fail
  refine (lives_any _).mono ?_
  rintro e w1 ⟨rfl, hb1⟩
  have HB := hid hb1
  have HKa := hid (keeps_any w1 t ao cap xs a (HX.out.below hb1) hl)
  have HKb := hid (keeps_any w1 t ao cap xs b (HX.out.below hb1) hl)
  have HT := hid (fun r L => trust_any w1 L r)
  clear hb1
  generalize hTb : trustOf l b = Tb at *
  generalize hTa : trustOf l a = Ta at *
  have htl : ¬ Ta < Tb := by have := HTL.out; omega
  have HTb := hid hTb
  have HTa := hid hTa
  clear hTb hTa
  by_cases hk : KeepsAll t xs a
  · rw [decide_eq_true hk] at HKa
    rw [decide_eq_true (HKW.out hk)] at HKb
    clear hk
    go_wp2_with fail
    refine HKa.out.mono ?_
    rintro e w' ⟨rfl, rfl⟩
    go_wp2_with fail
    refine HKb.out.mono ?_
    rintro e w' ⟨rfl, rfl⟩
    go_wp2_with fail
    refine (HT.out _ _).mono ?_
    rintro e w' ⟨rfl, rfl⟩
    rw [HTb.out]
    go_wp2_with fail
    refine (HT.out _ _).mono ?_
    rintro e w' ⟨rfl, rfl⟩
    rw [HTa.out]
    by_cases l1 : l < 1
    · go_wp2
      go_ret
      exact ⟨rfl, HB.out⟩
    by_cases l2 : 1048576 ≤ l
    · go_wp2
      go_ret
      exact ⟨rfl, HB.out⟩
    have hsl : wrap64 (l + 1) = l + 1 := wrap_succ (by omega) (by omega)
    have HM := hid (HTM.out (by omega) (by omega))
    have HZ := hid (HTZ.out (by omega) (by omega))
    go_wp2_with fail
    refine (HT.out _ _).mono ?_
    rintro e w' ⟨rfl, rfl⟩
    generalize trustOf (l + 1) a = Ts at *
    have hm : Ta ≤ Ts := HM.out
    go_wp2_with fail
    refine (HT.out _ _).mono ?_
    rintro e w' ⟨rfl, rfl⟩
    rw [HTa.out]
    go_wp2_with fail
    refine (HT.out _ _).mono ?_
    rintro e w' ⟨rfl, rfl⟩
    rw [HZ.out]
    go_wp2
    go_ret
    exact ⟨rfl, HB.out⟩
  · rw [decide_eq_false hk] at HKa
    clear hk
    go_wp2_with fail
    refine HKa.out.mono ?_
    rintro e w' ⟨rfl, rfl⟩
    go_wp2_with fail
    refine (HT.out _ _).mono ?_
    rintro e w' ⟨rfl, rfl⟩
    rw [HTb.out]
    go_wp2_with fail
    refine (HT.out _ _).mono ?_
    rintro e w' ⟨rfl, rfl⟩
    rw [HTa.out]
    by_cases l1 : l < 1
    · go_wp2
      go_ret
      exact ⟨rfl, HB.out⟩
    by_cases l2 : 1048576 ≤ l
    · go_wp2
      go_ret
      exact ⟨rfl, HB.out⟩
    have hsl : wrap64 (l + 1) = l + 1 := wrap_succ (by omega) (by omega)
    have HM := hid (HTM.out (by omega) (by omega))
    have HZ := hid (HTZ.out (by omega) (by omega))
    go_wp2_with fail
    refine (HT.out _ _).mono ?_
    rintro e w' ⟨rfl, rfl⟩
    generalize trustOf (l + 1) a = Ts at *
    have hm : Ta ≤ Ts := HM.out
    go_wp2_with fail
    refine (HT.out _ _).mono ?_
    rintro e w' ⟨rfl, rfl⟩
    rw [HTa.out]
    go_wp2_with fail
    refine (HT.out _ _).mono ?_
    rintro e w' ⟨rfl, rfl⟩
    rw [HZ.out]
    go_wp2
    go_ret
    exact ⟨rfl, HB.out⟩

theorem clockWider_walk (_ : -9223372036854775808 ≤ t ∧ t ≤ 9223372036854775807) (hx : HeldInt w ao xs) (hl : xs.length ≤ 140737488355328) (_ : -9223372036854775808 ≤ a ∧ a ≤ 9223372036854775807) (_ : -9223372036854775808 ≤ b ∧ b ≤ 9223372036854775807) (_ : -9223372036854775808 ≤ l ∧ l ≤ 9223372036854775807) :
    Calls Try.prog 7 #[.int .i64 t, .slice ao xs.length cap, .int .i64 a, .int .i64 b, .int .i64 l] w fun e w' => e = .returned (.bool true) ∧ Below w.heap.size w w' := by
  by_cases hbad : a < 0 ∨ b < a ∨ 999 < b
  · exact wider_bad t ao cap xs a b l w hx hl hbad
  · exact wider_good t ao cap xs a b l w hx hl (fun h => hbad (.inl h)) (fun h => hbad (.inr (.inl h))) (fun h => hbad (.inr (.inr h)))
end
end Go.Proofs.Ytpbhboecpgdgaaa
