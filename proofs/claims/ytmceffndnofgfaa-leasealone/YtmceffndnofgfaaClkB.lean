/-
  Package clock: slices.ContainsFunc over ints, mayTick, needed, Keeps.
-/
import Derived.Test.YtmceffndnofgfaaClkA
import Derived.Test.YtmceffndnofgfaaTickOpen
namespace Go.Proofs.Ytmceffndnofgfaa
open Go.RowKit Go.Maps

theorem HeldInt.cellAt {w : World} {ao : Option Addr} {xs : List Int} (h : HeldInt w ao xs) {k : Nat} (hk : k < xs.length) : ∃ b off, ao = some ⟨b, off, none⟩ ∧ ∀ j, j < xs.length → w.cell? ⟨b, off + j, none⟩ = some (.int .i64 (xs.getD j 0)) := by
  rcases h.2 with h0 | ⟨b, off, h1, _, h2⟩
  · rw [h0] at hk; cases hk
  · exact ⟨b, off, h1, h2⟩

theorem take_succ_all {p : Int → Prop} {xs : List Int} {k : Nat} (hk : k < xs.length) (h : ∀ x ∈ xs.take k, p x) (h' : p (xs.getD k 0)) : ∀ x ∈ xs.take (k + 1), p x := by
  intro x hx
  rw [List.take_succ_eq_append_getElem hk] at hx
  rcases List.mem_append.1 hx with h1 | h1
  · exact h x h1
  · simp at h1
    subst h1
    simpa [List.getD, List.getElem?_eq_getElem hk] using h'
theorem getD_mem {xs : List Int} {k : Nat} (hk : k < xs.length) : xs.getD k 0 ∈ xs := by
  simp [List.getD, List.getElem?_eq_getElem hk]

set_option maxRecDepth 100000 in
theorem index_any (w : World) (ao : Option Addr) (cap : Nat) (xs : List Int) (h : HeldInt w ao xs) (hl : xs.length ≤ 140737488355328) :
    Calls Try.prog 52 #[.slice ao xs.length cap, .func (.func 47) #[] #[]] w fun e w' => (∃ r : Int, e = .returned (.int .i64 r) ∧ decide (0 ≤ r) = !decide (∀ x ∈ xs, Right x)) ∧ w' = w := by
  have H := hid h
  clear h
  obtain ⟨n, hn⟩ : ∃ n, n = xs.length := ⟨_, rfl⟩
  have HN := hid hn
  rw [← hn] at hl ⊢
  clear hn
  go_enter Try.func52, Try.ntmps52
  go_wp2
  go_loop [5, 8] (fun _ i => ∃ k : Nat, k ≤ n ∧ i = .int .i64 k ∧ Hid (∀ x ∈ xs.take k, Right x)) (fun _ i => n - (intOf i).toNat)
  case atStart => exact ⟨0, by omega, rfl, fun x hx => (by simp at hx)⟩
  case round =>
    obtain ⟨k, hk, rfl, HA⟩ := hrel
    by_cases hlt : k < n
    · have hlt' : (k : Int) < (n : Int) := by omega
      have hkx : Hid (k < xs.length) := (HN.out ▸ hlt : k < xs.length)
      obtain ⟨b, off, rfl, hc⟩ := H.out.cellAt hkx.out
      have hcell := hc k hkx.out
      clear hc
      obtain ⟨X, hX⟩ : ∃ X, X = xs.getD k 0 := ⟨_, rfl⟩
      rw [← hX] at hcell
      have HX := hid hX
      clear hX
      have HW := hid (wrong_any w X)
      by_cases hr : Right X
      · have hd : (!decide (Right X)) = false := by simp [hr]
        rw [hd] at HW
        have HR := hid hr
        clear hr hd
        go_wp2_with fail
        refine HW.out.mono ?_
        rintro e w' ⟨rfl, rfl⟩
        go_wp2
        go_round
        case rel => exact ⟨k + 1, by omega, by go_num, take_succ_all hkx.out HA.out (HX.out ▸ HR.out)⟩
        case measure => simp [intOf]; omega
      · have hd : (!decide (Right X)) = true := by simp [hr]
        rw [hd] at HW
        have HR := hid hr
        clear hr hd
        go_wp2_with fail
        refine HW.out.mono ?_
        rintro e w' ⟨rfl, rfl⟩
        go_wp2
        go_ret
        refine ⟨⟨_, rfl, ?_⟩, rfl⟩
        have : ¬ ∀ x ∈ xs, Right x := fun hh => HR.out (HX.out ▸ hh _ (getD_mem hkx.out))
        rw [decide_eq_false this]
        simp
    · have hlt' : ¬ (k : Int) < (n : Int) := by omega
      go_wp2
      go_ret
      refine ⟨⟨_, rfl, ?_⟩, rfl⟩
      have hk' : k = xs.length := by have := HN.out; omega
      have := HA.out
      rw [hk', List.take_length] at this
      rw [decide_eq_true this]
      simp

theorem contains_any (w : World) (ao : Option Addr) (cap : Nat) (xs : List Int) (h : HeldInt w ao xs) (hl : xs.length ≤ 140737488355328) :
    Calls Try.prog 48 #[.slice ao xs.length cap, .func (.func 47) #[] #[]] w fun e w' => e = .returned (.bool (!decide (∀ x ∈ xs, Right x))) ∧ w' = w := by
  have H := hid (index_any w ao cap xs h hl)
  clear h hl
  go_enter Try.func48, Try.ntmps48
  go_wp2_with fail
  refine H.out.mono ?_
  rintro e w' ⟨⟨r, rfl, hr⟩, rfl⟩
  have HR := hid hr
  clear hr
  go_wp2
  go_ret
  exact ⟨ret_bool HR.out, rfl⟩

theorem mayTick_any (w : World) (t : Int) (ao : Option Addr) (cap : Nat) (xs : List Int) (h : HeldInt w ao xs) (hl : xs.length ≤ 140737488355328) :
    Calls Try.prog 41 #[.int .i64 t, .slice ao xs.length cap] w fun e w' => e = .returned (.bool (decide (Right t ∧ ∀ x ∈ xs, Right x))) ∧ w' = w := by
  have H := hid (contains_any w ao cap xs h hl)
  have HT := hid (wrong_any w t)
  clear h hl
  by_cases ht : Right t
  · have hd : (!decide (Right t)) = false := by simp [ht]
    rw [hd] at HT
    have hv : decide (Right t ∧ ∀ x ∈ xs, Right x) = decide (∀ x ∈ xs, Right x) := by simp [ht]
    rw [hv]
    clear ht hd hv
    generalize decide (∀ x ∈ xs, Right x) = D at *
    go_enter Try.func41, Try.ntmps41
    go_wp2_with fail
    refine HT.out.mono ?_
    rintro e w' ⟨rfl, rfl⟩
    go_wp2_with fail
    refine H.out.mono ?_
    rintro e w' ⟨rfl, rfl⟩
    go_wp2
    go_ret
    exact ⟨ret_bool (by simp), rfl⟩
  · have hd : (!decide (Right t)) = true := by simp [ht]
    rw [hd] at HT
    have hv : decide (Right t ∧ ∀ x ∈ xs, Right x) = false := by simp [ht]
    rw [hv]
    clear ht hd hv
    go_enter Try.func41, Try.ntmps41
    go_wp2_with fail
    refine HT.out.mono ?_
    rintro e w' ⟨rfl, rfl⟩
    go_wp2
    go_ret
    exact ⟨rfl, rfl⟩
end Go.Proofs.Ytmceffndnofgfaa
