/-
  Package clock: hasRoom, Tick.
-/
import Derived.Test.YtmceffndnofgfaaClkD
namespace Go.Proofs.Ytmceffndnofgfaa
open Go.RowKit Go.Maps
section
variable {w : World} {p g cap : Nat} {now : List Int} {time need : Int}

/-- Neither the time nor a clock would go too far. -/
def Room (now : List Int) (time t : Int) (on : List Int) : Prop := (∀ k, k < on.length → now.getD k 0 + on.getD k 0 ≤ 1152921504606846976) ∧ time + t ≤ 1152921504606846976
instance (now : List Int) (time t : Int) (on : List Int) : Decidable (Room now time t on) := by unfold Room; infer_instance

set_option maxRecDepth 100000 in
theorem room_any (h : ClkAt w p g cap now time need) (t : Int) (ao : Option Addr) (c : Nat) (on : List Int) (ho : HeldInt w ao on) (hl : on.length = now.length) (ht : Right t) (hx : ∀ x ∈ on, Right x) :
    Calls Try.prog 45 #[.pointer (some ⟨p, 0, none⟩), .int .i64 t, .slice ao on.length c] w fun e w' => e = .returned (.bool (decide (Room now time t on))) ∧ w' = w := by
  have c0 := h.blk.cell (i := 0) rfl
  have c1 := h.blk.cell (i := 1) rfl
  have H := hid h
  have HO := hid ho
  have HT := hid ht
  have HX := hid hx
  have HL := hid hl
  have hn7 : now.length ≤ 7 := h.few.2
  clear h ho ht hx
  obtain ⟨n, hn⟩ : ∃ n, n = now.length := ⟨_, rfl⟩
  rw [hl]
  rw [← hn] at c0 hn7 ⊢
  have HN := hid hn
  clear hl hn
  go_enter Try.func45, Try.ntmps45
  go_wp2
  go_loop [7, 8, 11] (fun _ _ i => ∃ k : Nat, k ≤ n ∧ i = .int .i64 k ∧ Hid (∀ j, j < k → now.getD j 0 + on.getD j 0 ≤ 1152921504606846976)) (fun _ _ i => n - (intOf i).toNat)
  case atStart => exact ⟨0, by omega, rfl, fun j hj => absurd hj (Nat.not_lt_zero _)⟩
  case round =>
    obtain ⟨k, hk, rfl, HA⟩ := hrel
    by_cases hlt : k < n
    · have hlt' : (k : Int) < (n : Int) := by omega
      have hkx : Hid (k < on.length) := (by have := HN.out; have := HL.out; omega : k < on.length)
      have hkn : Hid (k < now.length) := (by have := HN.out; omega : k < now.length)
      obtain ⟨b, off, rfl, hc⟩ := HO.out.cellAt hkx.out
      have hcell := hc k hkx.out
      have hncell := (H.out.nowCell hkn.out).1
      clear hc
      have HXR := hid (HX.out _ (getD_mem hkx.out))
      have HNR := hid (H.out.rng _ (getD_mem hkn.out))
      have HZ : Hid (∀ j, j < k + 1 → j = k ∨ j < k) := (fun j hj => by omega : ∀ j, j < k + 1 → j = k ∨ j < k)
      have HE : Hid (now.getD k 0 + on.getD k 0 ≤ 1152921504606846976 → ∀ j, j < k + 1 → now.getD j 0 + on.getD j 0 ≤ 1152921504606846976) := (fun hh j hj => by
        rcases HZ.out j hj with rfl | h1
        · exact hh
        · exact HA.out j h1)
      have HB : Hid (¬ now.getD k 0 + on.getD k 0 ≤ 1152921504606846976 → ¬ Room now time t on) := (fun hh hr => hh (hr.1 k hkx.out) : ¬ now.getD k 0 + on.getD k 0 ≤ 1152921504606846976 → ¬ Room now time t on)
      generalize on.getD k 0 = X at *
      generalize now.getD k 0 = Y at *
      have hw : wrap64 (Y + X) = Y + X := by
        have h1 := HXR.out
        have h2 := HNR.out
        unfold Right at h1
        exact wrapS (by omega) (by omega)
      have HS := hid (mayShow_any w (Y + X))
      by_cases hr : Y + X ≤ 1152921504606846976
      · rw [decide_eq_true ⟨by have h1 := HXR.out; have h2 := HNR.out; unfold Right at h1; omega, hr⟩] at HS
        have HR := hid hr
        clear hr
        go_wp2_with fail
        refine HS.out.mono ?_
        rintro e w' ⟨rfl, rfl⟩
        go_wp2
        go_round
        case rel => exact ⟨k + 1, by omega, by go_num, HE.out HR.out⟩
        case measure => simp [intOf]; omega
      · rw [decide_eq_false (fun h => hr h.2)] at HS
        have HR := hid hr
        clear hr
        go_wp2_with fail
        refine HS.out.mono ?_
        rintro e w' ⟨rfl, rfl⟩
        go_wp2
        go_ret
        exact ⟨ret_bool (decide_eq_false (HB.out HR.out)).symm, rfl⟩
    · have hlt' : ¬ (k : Int) < (n : Int) := by omega
      have hw : wrap64 (time + t) = time + t := by
        have h1 := HT.out
        have h2 := H.out.tim
        unfold Right at h1
        exact wrapS (by omega) (by omega)
      have HS := hid (mayShow_any w (time + t))
      have HV : Hid (decide (0 ≤ time + t ∧ time + t ≤ 1152921504606846976) = decide (Room now time t on)) := by
        have h1 := HT.out
        have h2 := H.out.tim
        have h3 := HN.out
        have h4 := HL.out
        unfold Right at h1
        show _ = _
        rw [decide_eq_decide]
        exact ⟨fun h => ⟨fun j hj => HA.out j (by omega), h.2⟩, fun h => ⟨by omega, h.2⟩⟩
      rw [HV.out] at HS
      go_wp2_with fail
      refine HS.out.mono ?_
      rintro e w' ⟨rfl, rfl⟩
      go_wp2
      go_ret
      exact ⟨rfl, rfl⟩

/-- The first k clocks have gone on. -/
def part (now on : List Int) (k : Nat) : List Int := (List.zipWith (· + ·) now on).take k ++ now.drop k
theorem part_len {now on : List Int} (h : on.length = now.length) (k : Nat) : (part now on k).length = now.length := by
  simp [part, h]
  omega
theorem part_get {now on : List Int} (h : on.length = now.length) {k : Nat} (hk : k < now.length) : (part now on k).getD k 0 = now.getD k 0 := by
  have hl : ((List.zipWith (· + ·) now on).take k).length = k := by simp [h]; omega
  simp only [part, List.getD]
  rw [List.getElem?_append_right (by omega), hl]
  simp
theorem part_set {now on : List Int} (h : on.length = now.length) {k : Nat} (hk : k < now.length) : (part now on k).set k (now.getD k 0 + on.getD k 0) = part now on (k + 1) := by
  have hl : ((List.zipWith (· + ·) now on).take k).length = k := by simp [h]; omega
  have hz : k < (List.zipWith (· + ·) now on).length := by simp [h]; omega
  have hd : now.drop k = now.getD k 0 :: now.drop (k + 1) := by
    rw [List.drop_eq_getElem_cons hk]
    simp [List.getD, List.getElem?_eq_getElem hk]
  unfold part
  rw [List.set_append, if_neg (by omega), hl, Nat.sub_self, hd, List.set_cons_zero, List.take_succ_eq_append_getElem hz]
  simp [List.getD, List.getElem?_eq_getElem hk, List.getElem?_eq_getElem (show k < on.length by omega)]
theorem part_end {now on : List Int} (h : on.length = now.length) : part now on now.length = List.zipWith (· + ·) now on := by
  unfold part
  rw [List.drop_length, List.append_nil, List.take_of_length_le (by simp [h])]
theorem part_zero (now on : List Int) : part now on 0 = now := by simp [part]

theorem tick_bad (h : ClkAt w p g cap now time need) (t : Int) (ao : Option Addr) (c : Nat) (on : List Int) (ho : HeldInt w ao on) (hll : on.length ≤ 140737488355328) (hb : ¬ ((Right t ∧ ∀ x ∈ on, Right x) ∧ on.length = now.length)) :
    Calls Try.prog 28 #[.pointer (some ⟨p, 0, none⟩), .int .i64 t, .slice ao on.length c] w fun e w' => e = .returned (.int .i64 1) ∧ w' = w := by
  have c0 := h.blk.cell (i := 0) rfl
  have HC := hid h.closed
  have HM := hid (mayTick_any w t ao c on ho hll)
  clear h ho
  by_cases hm : Right t ∧ ∀ x ∈ on, Right x
  · rw [decide_eq_true hm] at HM
    have hne : ((on.length : Int) != (now.length : Int)) = true := by
      have : on.length ≠ now.length := fun e => hb ⟨hm, e⟩
      simp
      omega
    clear hm hb
    generalize on.length = n at *
    generalize now.length = m at *
    go_enter Try.func28, Try.ntmps28
    go_wp2_with fail
    refine HC.out.mono ?_
    rintro e w' ⟨rfl, rfl⟩
    go_wp2_with fail
    refine HM.out.mono ?_
    rintro e w' ⟨rfl, rfl⟩
    go_wp2
    go_ret
    exact ⟨rfl, rfl⟩
  · rw [decide_eq_false hm] at HM
    clear hm hb
    generalize on.length = n at *
    go_enter Try.func28, Try.ntmps28
    go_wp2_with fail
    refine HC.out.mono ?_
    rintro e w' ⟨rfl, rfl⟩
    go_wp2_with fail
    refine HM.out.mono ?_
    rintro e w' ⟨rfl, rfl⟩
    go_wp2
    go_ret
    exact ⟨rfl, rfl⟩
theorem tick_full (h : ClkAt w p g cap now time need) (t : Int) (ao : Option Addr) (c : Nat) (on : List Int) (ho : HeldInt w ao on) (hm : Right t ∧ ∀ x ∈ on, Right x) (hl : on.length = now.length) (hr : ¬ Room now time t on) :
    Calls Try.prog 28 #[.pointer (some ⟨p, 0, none⟩), .int .i64 t, .slice ao on.length c] w fun e w' => e = .returned (.int .i64 2) ∧ w' = w := by
  have c0 := h.blk.cell (i := 0) rfl
  have HC := hid h.closed
  have HM := hid (mayTick_any w t ao c on ho (by have := h.few; omega))
  have HR := hid (room_any h t ao c on ho hl hm.1 hm.2)
  rw [decide_eq_true hm] at HM
  rw [decide_eq_false hr] at HR
  rw [hl] at HM HR ⊢
  have hne : ((now.length : Int) != (now.length : Int)) = false := by simp
  clear h ho hm hr hl
  generalize now.length = n at *
  go_enter Try.func28, Try.ntmps28
  go_wp2_with fail
  refine HC.out.mono ?_
  rintro e w' ⟨rfl, rfl⟩
  go_wp2_with fail
  refine HM.out.mono ?_
  rintro e w' ⟨rfl, rfl⟩
  go_wp2_with fail
  refine HR.out.mono ?_
  rintro e w' ⟨rfl, rfl⟩
  go_wp2
  go_ret
  exact ⟨rfl, rfl⟩
end
end Go.Proofs.Ytmceffndnofgfaa
