/-
  Package clock: needed, Keeps.
-/
import Derived.Test.YtmceffndnofgfaaClkB
namespace Go.Proofs.Ytmceffndnofgfaa
open Go.RowKit Go.Maps

theorem needOf_step {t m : Int} {xs : List Int} {k : Nat} (hk : k < xs.length) : max (needOf t m (xs.take k)) (driftOf t (xs.getD k 0)) = needOf t m (xs.take (k + 1)) := by
  rw [List.take_succ_eq_append_getElem hk, needOf_snoc]
  simp [List.getD, List.getElem?_eq_getElem hk]

set_option maxRecDepth 100000 in
theorem needed_any (w : World) (t : Int) (ao : Option Addr) (cap : Nat) (xs : List Int) (h : HeldInt w ao xs) (hl : xs.length ≤ 140737488355328) (ht : Right t) (hx : ∀ x ∈ xs, Right x) :
    Calls Try.prog 43 #[.int .i64 t, .slice ao xs.length cap] w fun e w' => e = .returned (.int .i64 (needOf t 0 xs)) ∧ w' = w := by
  have H := hid h
  clear h
  have HD := hid (fun (W : World) a ha => drifted_any W t a ht (hx a ha))
  have HT := hid ht
  clear hx ht
  obtain ⟨n, hn⟩ : ∃ n, n = xs.length := ⟨_, rfl⟩
  have HN := hid hn
  rw [← hn] at hl ⊢
  clear hn
  go_enter Try.func43, Try.ntmps43
  go_wp2
  go_loop [5, 7, 10] (fun m _ i => ∃ k : Nat, k ≤ n ∧ i = .int .i64 k ∧ m = .int .i64 (needOf t 0 (xs.take k))) (fun _ _ i => n - (intOf i).toNat)
  case atStart => exact ⟨0, by omega, rfl, rfl⟩
  case round =>
    obtain ⟨k, hk, rfl, rfl⟩ := hrel
    by_cases hlt : k < n
    · have hlt' : (k : Int) < (n : Int) := by omega
      have hkx : Hid (k < xs.length) := (HN.out ▸ hlt : k < xs.length)
      obtain ⟨b, off, rfl, hc⟩ := H.out.cellAt hkx.out
      have hcell := hc k hkx.out
      clear hc
      have HS := hid (needOf_step (t := t) (m := 0) hkx.out)
      have HW := hid (HD.out w _ (getD_mem hkx.out))
      obtain ⟨X, hX⟩ : ∃ X, X = xs.getD k 0 := ⟨_, rfl⟩
      rw [← hX] at hcell HS HW
      clear hX
      generalize driftOf t X = d at *
      generalize needOf t 0 (xs.take k) = m at *
      have HX : Hid ((if m < d then d else m) = max m d) := (by split <;> omega : (if m < d then d else m) = max m d)
      go_wp2_with fail
      refine HW.out.mono ?_
      rintro e w' ⟨rfl, rfl⟩
      go_wp2
      go_round
      case rel => exact ⟨k + 1, by omega, by go_num, by rw [← HS.out, HX.out]⟩
      case measure => simp [intOf]; omega
    · have hlt' : ¬ (k : Int) < (n : Int) := by omega
      have hk' : Hid (k = xs.length) := (by have := HN.out; omega : k = xs.length)
      go_wp2
      go_ret
      refine ⟨ret_int ?_, rfl⟩
      rw [hk'.out, List.take_length]

theorem keeps_any (w : World) (t : Int) (ao : Option Addr) (cap : Nat) (xs : List Int) (r : Int) (h : HeldInt w ao xs) (hl : xs.length ≤ 140737488355328) :
    Calls Try.prog 27 #[.int .i64 t, .slice ao xs.length cap, .int .i64 r] w fun e w' => e = .returned (.bool (decide (KeepsAll t xs r))) ∧ w' = w := by
  have HM := hid (mayTick_any w t ao cap xs h hl)
  have HR := hid (mayDrift_any w r)
  by_cases hm : Right t ∧ ∀ x ∈ xs, Right x
  · have HN := hid (needed_any w t ao cap xs h hl hm.1 hm.2)
    rw [decide_eq_true hm] at HM
    by_cases hr : 0 ≤ r ∧ r ≤ 999
    · rw [decide_eq_true hr] at HR
      have hv : decide (KeepsAll t xs r) = decide (needOf t 0 xs ≤ r) := by
        rw [decide_eq_decide]
        exact ⟨fun h => h.2.2.2, fun h => ⟨hm.1, hm.2, hr, h⟩⟩
      rw [hv]
      clear hm hr hv h hl
      generalize needOf t 0 xs = m at *
      go_enter Try.func27, Try.ntmps27
      go_wp2_with fail
      refine HM.out.mono ?_
      rintro e w' ⟨rfl, rfl⟩
      go_wp2_with fail
      refine HR.out.mono ?_
      rintro e w' ⟨rfl, rfl⟩
      go_wp2_with fail
      refine HN.out.mono ?_
      rintro e w' ⟨rfl, rfl⟩
      go_wp2
      go_ret
      exact ⟨rfl, rfl⟩
    · rw [decide_eq_false hr] at HR
      have hv : decide (KeepsAll t xs r) = false := decide_eq_false (fun h => hr h.2.2.1)
      rw [hv]
      clear hm hr hv h hl
      go_enter Try.func27, Try.ntmps27
      go_wp2_with fail
      refine HM.out.mono ?_
      rintro e w' ⟨rfl, rfl⟩
      go_wp2_with fail
      refine HR.out.mono ?_
      rintro e w' ⟨rfl, rfl⟩
      go_wp2
      go_ret
      exact ⟨rfl, rfl⟩
  · rw [decide_eq_false hm] at HM
    have hv : decide (KeepsAll t xs r) = false := decide_eq_false (fun h => hm ⟨h.1, h.2.1⟩)
    rw [hv]
    clear hm hv h hl
    go_enter Try.func27, Try.ntmps27
    go_wp2_with fail
    refine HM.out.mono ?_
    rintro e w' ⟨rfl, rfl⟩
    go_wp2
    go_ret
    exact ⟨rfl, rfl⟩
end Go.Proofs.Ytmceffndnofgfaa
