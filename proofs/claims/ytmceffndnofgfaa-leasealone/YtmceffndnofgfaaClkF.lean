/-
  Package clock: a Tick that goes through.
-/
import Derived.Test.YtmceffndnofgfaaClkE
import Derived.Deep.RegionHeld3
import Derived.Deep.RegionLaw
import Derived.Deep.RegionWith
namespace Go.Proofs.Ytmceffndnofgfaa
open Go.RowKit Go.Maps
section
variable {w : World} {p g cap : Nat} {now : List Int} {time need : Int}

theorem ints_set (xs : List Int) (l : List Value) (k : Nat) (v : Int) (hk : k < xs.length) : (ints xs ++ l).set k (.int .i64 v) = ints (xs.set k v) ++ l := by
  rw [List.set_append, if_pos (by rw [ints_len]; exact hk)]
  simp [ints, List.map_set]
theorem HeldInt.turned {F : Nat → Prop} {w w' : World} {ao : Option Addr} {xs : List Int} (h : HeldInt w ao xs) (ht : Turns F w w') (hF : ∀ b off, ao = some ⟨b, off, none⟩ → xs ≠ [] → ¬ F b) : HeldInt w' ao xs := by
  refine ⟨h.1, ?_⟩
  rcases h.2 with h0 | ⟨b, off, rfl, hb, hc⟩
  · exact .inl h0
  · by_cases h0 : xs = []
    · exact .inl h0
    · refine .inr ⟨b, off, rfl, Nat.lt_of_lt_of_le hb ht.size, fun j hj => ?_⟩
      have := hc j hj
      have hbk := ht.block b hb (hF b off rfl h0)
      simp only [World.cell?] at this ⊢
      rw [hbk]
      exact this

theorem tick_end {w wr : World} {n k : Nat} {t : Int} {on : List Int} {rest : List Value} (hn : n = now.length) (hl : on.length = now.length) (h : ClkAt w p g cap now time need) (hm : Right t ∧ ∀ x ∈ on, Right x) (hr : Room now time t on) (hk : k ≤ n) (hk' : ¬ k < n) {X : Int} (hmx : X = max need (needOf t 0 on))
    (ha : Blk wr p 84 [.slice (some ⟨g, 0, none⟩) n cap, .int .i64 (time + t), .int .i64 need] ∧ Blk wr g 3 (ints (part now on k) ++ rest) ∧ Turns (CFoot p g) w wr) :
    ClkAt ((wr.drewN 1).setCell ⟨p, 2, none⟩ (.int .i64 X)) p g cap (List.zipWith (· + ·) now on) (time + t) (max need (needOf t 0 on)) := by
  have hkn : k = now.length := by omega
  have hlen : (List.zipWith (· + ·) now on).length = now.length := by simp [hl]
  obtain ⟨hb, hg, _⟩ := ha
  rw [hkn, part_end hl] at hg
  have h1 := hm.1
  have h2 := h.tim
  have hnd := needOf_range h1.1 (on := on) (m := 0) (Int.le_refl _) (by decide)
  have hne := h.ned
  unfold Right at h1
  refine ⟨?_, ⟨rest, (hg.drewN 1).other (Ne.symm h.ne) _ _⟩, h.ne, ?_, ⟨by omega, hr.2⟩, by rw [hlen]; exact h.few, by omega⟩
  · rw [hmx, hlen, ← hn]
    exact (hb.drewN 1).set 2 _
  · intro x hx
    obtain ⟨j, hj, rfl⟩ := List.getElem_of_mem hx
    have hj' : j < now.length := by omega
    have hjo : j < on.length := by omega
    have a1 := hr.1 j hjo
    have a2 := h.rng _ (getD_mem hj')
    have a3 := hm.2 _ (getD_mem hjo)
    unfold Right at a3
    have e : (List.zipWith (· + ·) now on)[j] = now.getD j 0 + on.getD j 0 := by
      simp [List.getD, List.getElem?_eq_getElem hj', List.getElem?_eq_getElem hjo]
    rw [e]
    omega

set_option maxRecDepth 100000 in
set_option maxHeartbeats 1000000 in
theorem tick_good (h : ClkAt w p g cap now time need) (t : Int) (ao : Option Addr) (c : Nat) (on : List Int) (ho : HeldInt w ao on) (hap : ∀ b off, ao = some ⟨b, off, none⟩ → on ≠ [] → ¬ CFoot p g b) (hm : Right t ∧ ∀ x ∈ on, Right x) (hl : on.length = now.length) (hr : Room now time t on) :
    Calls Try.prog 28 #[.pointer (some ⟨p, 0, none⟩), .int .i64 t, .slice ao on.length c] w fun e w' => e = .returned (.int .i64 0) ∧ ClkAt w' p g cap (List.zipWith (· + ·) now on) (time + t) (max need (needOf t 0 on)) ∧ Turns (CFoot p g) w w' := by
  have c0 := h.blk.cell (i := 0) rfl
  have c1 := h.blk.cell (i := 1) rfl
  have f1 := h.blk.frozen 1
  have HC := hid h.closed
  have HM := hid (mayTick_any w t ao c on ho (by have := h.few; omega))
  have HR := hid (room_any h t ao c on ho hl hm.1 hm.2)
  have H := hid h
  have HO := hid ho
  have HAP := hid hap
  have HL := hid hl
  have HMM := hid hm
  have HRR := hid hr
  have hw : wrap64 (time + t) = time + t := by
    have h1 := hm.1
    have h2 := h.tim
    unfold Right at h1
    exact wrapS (by omega) (by omega)
  rw [decide_eq_true hm] at HM
  rw [decide_eq_true hr] at HR
  rw [hl] at HM HR ⊢
  have hne : ((now.length : Int) != (now.length : Int)) = false := by simp
  have hn7 : now.length ≤ 7 := h.few.2
  clear h ho hm hr hl hap
  obtain ⟨n, hn⟩ : ∃ n, n = now.length := ⟨_, rfl⟩
  rw [← hn] at c0 HM HR hne hn7 ⊢
  have HN := hid hn
  clear hn
  go_enter Try.func28, Try.ntmps28
  go_wp2_with fail
  refine HC.out.mono ?_
  rintro e w' ⟨rfl, rfl⟩
  go_wp2_with fail
  refine HM.out.mono ?_
  rintro e w' ⟨rfl, rfl⟩
  go_wp2_with fail
  refine HR.out.mono ?_
  rintro e w' ⟨rfl, rfl⟩
  go_wp2
  have hpg : Hid (p ≠ g) := H.out.ne
  go_loopw [7, 8, 40] (fun _ _ i wr => ∃ (k : Nat) (rest : List Value), k ≤ n ∧ i = .int .i64 k ∧ Hid (Blk wr p 84 [.slice (some ⟨g, 0, none⟩) n cap, .int .i64 (time + t), .int .i64 need] ∧ Blk wr g 3 (ints (part now on k) ++ rest) ∧ Turns (CFoot p g) w' wr)) (fun _ _ i _ => n - (intOf i).toNat)
  case atStart =>
    obtain ⟨rest, hrow⟩ := H.out.row
    have hb := H.out.blk
    rw [← HN.out] at hb
    refine ⟨0, rest, by omega, rfl, hb.set 1 _, ?_, (Turns.refl _ _).setCell (.inl (.inl rfl)) _⟩
    rw [part_zero]
    exact hrow.other (Ne.symm hpg.out) _ _
  case round =>
    obtain ⟨k, rest, hk, rfl, HA⟩ := hrel
    by_cases hlt : k < n
    · have hlt' : (k : Int) < (n : Int) := by omega
      have hkx : Hid (k < on.length) := (by have := HN.out; have := HL.out; omega : k < on.length)
      have hkn : Hid (k < now.length) := (by have := HN.out; omega : k < now.length)
      have hok := HO.out.turned HA.out.2.2 HAP.out
      obtain ⟨b, off, rfl, hc⟩ := hok.cellAt hkx.out
      have hcell := hc k hkx.out
      have d0 := HA.out.1.cell (i := 0) rfl
      have hncell : _ := HA.out.2.1.cell (i := k) (v := .int .i64 (now.getD k 0)) (by
        rw [List.getElem?_append_left (by rw [ints_len, part_len HL.out]; exact hkn.out), ← part_get HL.out hkn.out]
        have := part_len HL.out k
        have hk' : k < (part now on k).length := by rw [this]; exact hkn.out
        simp [ints, List.getD, List.getElem?_eq_getElem hk'])
      have hfz := HA.out.2.1.frozen k
      clear hc hok
      have HXR := hid (HMM.out.2 _ (getD_mem hkx.out))
      have HNR := hid (H.out.rng _ (getD_mem hkn.out))
      have HST := hid (part_set HL.out hkn.out)
      generalize on.getD k 0 = X at *
      generalize now.getD k 0 = Y at *
      have hw2 : wrap64 (Y + X) = Y + X := by
        have h1 := HXR.out
        have h2 := HNR.out
        unfold Right at h1
        exact wrapS (by omega) (by omega)
      go_wp2
      go_roundw
      case rel =>
        refine ⟨k + 1, rest, by omega, by go_num, HA.out.1.other hpg.out _ _, ?_, HA.out.2.2.setCell (.inl (.inr rfl)) _⟩
        have := HA.out.2.1.set k (.int .i64 (Y + X))
        rw [ints_set _ _ _ _ (by rw [part_len HL.out]; exact hkn.out), HST.out] at this
        exact this
      case measure => simp [intOf]; omega
    · have hlt' : ¬ (k : Int) < (n : Int) := by omega
      have hok := HO.out.turned HA.out.2.2 HAP.out
      have d2 := HA.out.1.cell (i := 2) rfl
      have g2 := HA.out.1.frozen 2
      have HND := hid (fun (q : Nat) => needed_any (wr.drewN q) t ao c on ⟨hok.1, hok.2⟩ (by have := HN.out; have := HL.out; omega) HMM.out.1 HMM.out.2)
      rw [HL.out, ← HN.out] at HND
      clear hok
      go_wp2
      go_region_with (first | (go_at_call 43; refine (HND.out _).mono ?_; rintro e w9 ⟨rfl, rfl⟩))
      all_goals
        clear HND
        generalize hQ : needOf t 0 on = Q at *
        go_wp2
        all_goals
          go_ret
          exact ⟨rfl, hQ ▸ tick_end HN.out HL.out H.out HMM.out HRR.out hk hlt (by rw [hQ]; omega) HA.out, (HA.out.2.2.drewN 1).setCell (.inl (.inl rfl)) _⟩
end
end Go.Proofs.Ytmceffndnofgfaa
