/-
  RouterSessions' walk.
-/
import Derived.Test.YtppllbdoihfcbaaDoorRoG
namespace Go.Proofs.YtppllbdoihfcbaaDoor
open Go.RowKit Go.Maps

set_option maxRecDepth 100000 in
theorem sessions_bad (c n : Int) (ao : Option Addr) (cap : Nat) (l : List Int) (w : World) (hT : TbR w) (h : ¬ (0 ≤ c ∧ c ≤ 2147483647 ∧ 1 ≤ n ∧ n ≤ 7)) : Calls Tryd.prog 4 #[.int .i64 c, .int .i64 n, .slice ao l.length cap] w fun e w' => e = .returned (.bool true) ∧ Below w.heap.size w w' := by
  have HT := hid hT
  have HNW := hid (newR_bad w c n h)
  have H := hid h
  clear hT h
  go_enter Tryd.func4, Tryd.ntmps4
  go_wp2_with fail
  refine HNW.out.mono ?_
  rintro e w' ⟨rfl, rfl⟩
  go_wp2_with fail
  refine (livesR _ HT.out).mono ?_
  rintro e w2 ⟨rfl, hb2⟩
  have HB := hid hb2
  clear hb2
  by_cases h0 : c < 0
  · go_wp2
    go_ret
    exact ⟨rfl, HB.out⟩
  · by_cases h1 : 2147483647 < c
    · go_wp2
      go_ret
      exact ⟨rfl, HB.out⟩
    · by_cases h2 : n < 1
      · go_wp2
        go_ret
        exact ⟨rfl, HB.out⟩
      · have h3 : 7 < n := by have := H.out; omega
        go_wp2
        go_ret
        exact ⟨rfl, HB.out⟩
set_option maxRecDepth 1000000 in
set_option maxHeartbeats 4000000 in
theorem sessions_good (c n : Nat) (ao : Option Addr) (cap : Nat) (l : List Int) (w : World) (hT : TbR w) (hl : HV w ao cap l) (hc : c ≤ 2147483647) (hn : 1 ≤ n ∧ n ≤ 7) : Calls Tryd.prog 4 #[.int .i64 (c : Int), .int .i64 (n : Int), .slice ao l.length cap] w fun e w' => e = .returned (.bool true) ∧ Below w.heap.size w w' := by
  have HT := hid hT
  have HL := hid hl
  have HN := hid hn
  have HC := hid hc
  have HNW := hid (newR_good w (c : Int) (n : Int) ⟨by omega, by omega, by omega, by omega⟩)
  obtain ⟨LN, hLN⟩ : ∃ m, m = l.length := ⟨_, rfl⟩
  have HLN := hid hLN
  have hfew : LN ≤ 17592186044416 := by rw [hLN]; exact hl.few
  rw [← hLN]
  have g0 : ¬ (c : Int) < 0 := by omega
  have g1 : ¬ 2147483647 < (c : Int) := by omega
  have g2 : ¬ (n : Int) < 1 := by omega
  have g3 : ¬ 7 < (n : Int) := by omega
  clear hT hl hn hc hLN
  go_enter Tryd.func4, Tryd.ntmps4
  go_wp2_with fail
  refine HNW.out.mono ?_
  rintro e w1 ⟨rfl, hse, hb1⟩
  have H1 : Hid (SR w w1 w.heap.size (c : Int) (n : Int) 0 ((c : Int) % (n : Int)) 0) := SR.new w HT.out hb1 (Below.refl _ _) hse
  clear hse hb1 HNW
  obtain ⟨p, HP⟩ : ∃ p, Hid (w.heap.size = p) := ⟨_, hid rfl⟩
  rw [HP.out] at H1 ⊢
  go_wp2_with fail
  refine (livesR _ H1.out.tb).mono ?_
  rintro e w2 ⟨rfl, hb2⟩
  have H2 := hid (H1.out.grow hb2)
  clear hb2 H1
  have n0 : ¬ n = 0 := by have := HN.out; omega
  have n0' : ¬ (n : Int) = 0 := by omega
  go_wp2
  go_quiet (fail)
  obtain ⟨w3, hw3⟩ : ∃ V, V = w2.drewN nq := ⟨_, rfl⟩
  rw [← hw3]
  have H3 : Hid (SR w w3 p (c : Int) (n : Int) 0 ((c : Int) % (n : Int)) 0) := by rw [hw3]; exact H2.out.grow (below_dn (Below.refl _ _) nq)
  clear hw3 H2
  obtain ⟨t0, HT0⟩ : ∃ t, Hid ((c : Int) % (n : Int) = t) := ⟨_, hid rfl⟩
  rw [HT0.out] at H3
  go_wp2
  go_loopw [9, 10, 11, 12, 13] (fun x9 x10 x11 x12 x13 wr => ∃ (i k : Nat) (t : Int) (r : Nat), i ≤ LN ∧ k ≤ i ∧ r ≤ i ∧ x13 = .int .i64 i ∧ x9 = .int .i64 k ∧ x10 = .int .i64 t ∧ x11 = .int .i64 r ∧ x12 = .string (lastR (c : Int) (k : Int)) ∧ Hid (SR w wr p (c : Int) (n : Int) (k : Int) t (r : Int))) (fun _ _ _ _ i _ => LN - (intOf i).toNat)
  case atStart => exact ⟨0, 0, t0, 0, by omega, by omega, by omega, rfl, rfl, by rw [Int.tmod_eq_emod_of_nonneg (by omega), HT0.out], rfl, rfl, H3.out⟩
  case round =>
    obtain ⟨i, k, t, r, hi, hki, hri, rfl, rfl, rfl, rfl, rfl, HA⟩ := hrel
    clear H3
    by_cases hlt : i < LN
    · have hlt' : (i : Int) < (LN : Int) := by omega
      have hil : i < l.length := by rw [← HLN.out]; exact hlt
      obtain ⟨b, off, hao, hcell⟩ : ∃ b off, ao = some ⟨b, off, none⟩ ∧ wr.cell? ⟨b, off + i, none⟩ = some (.int .i64 (l.getD i 0)) := by
        rcases (HL.out.below HA.out.bel).held.2 with h | ⟨b, off, h1, _, h3⟩
        · rw [h] at hil; cases hil
        · exact ⟨b, off, h1, h3 i hil⟩
      subst hao
      obtain ⟨x, hxx⟩ : ∃ x, l.getD i 0 = x := ⟨_, rfl⟩
      rw [hxx] at hcell
      clear hxx hil
      by_cases hx : x = 1
      · subst hx
        have HTK := hid (fun W => rtoken_any c k (by have := HC.out; omega) (by omega) W)
        go_wp2_with fail
        refine (HTK.out _).mono ?_
        rintro e w5 ⟨rfl, hb5⟩
        have H5 := hid (HA.out.grow hb5)
        clear hb5
        have ek : wrap64 ((k : Int) + 1) = (k : Int) + 1 := wrapS (by omega) (by omega)
        go_wp2_with fail
        refine (H5.out.token (by omega)).mono ?_
        rintro e w6 ⟨rfl, h6, _⟩
        have H6 : Hid (SR w w6 p (c : Int) (n : Int) ((k + 1 : Nat) : Int) t (r : Int)) := by rw [show ((k + 1 : Nat) : Int) = (k : Int) + 1 by omega]; exact h6
        clear h6
        have HLQ : Hid (lastR (c : Int) ((k + 1 : Nat) : Int) = tokR (c : Int) (k : Int)) := by rw [show ((k + 1 : Nat) : Int) = (k : Int) + 1 by omega]; exact lastR_next (c : Int) (by omega)
        have HLS : Hid (Calls Tryd.prog 19 #[.pointer (some ⟨p, 0, none⟩)] w6 fun e w' => e = .returned (.string (tokR (c : Int) (k : Int))) ∧ SR w w' p (c : Int) (n : Int) ((k + 1 : Nat) : Int) t (r : Int)) := by
          have := H6.out.lastAny
          rw [HLQ.out] at this
          exact this
        go_wp2_with fail
        refine HLS.out.mono ?_
        rintro e w8 ⟨rfl, h8⟩
        have H8 := hid h8
        clear h8
        go_wp2_with fail
        refine H8.out.se.target.mono ?_
        rintro e w' ⟨rfl, rfl⟩
        go_wp2_with fail
        refine H8.out.se.tries.mono ?_
        rintro e w' ⟨rfl, rfl⟩
        go_wp2
        go_roundw
        case rel => exact ⟨i + 1, k + 1, t, r, by omega, by omega, by omega, by go_num, by go_num, rfl, rfl, by rw [HLQ.out], H8.out⟩
        case measure => simp [intOf]; omega
      · by_cases hx2 : x = 2
        · subst hx2
          clear hx
          have HE : Hid (wrap64 (t + 1) = t + 1 ∧ (t + 1).tmod (n : Int) = (t + 1) % (n : Int) ∧ wrap64 ((t + 1) % (n : Int)) = (t + 1) % (n : Int) ∧ wrap64 ((r : Int) + 1) = (r : Int) + 1) := by
            have q1 := HA.out.se.ht
            have q2 := Int.emod_nonneg (t + 1) n0'
            have q3 := Int.emod_lt_of_pos (t + 1) (show 0 < (n : Int) by omega)
            exact ⟨wrapS (by omega) (by omega), Int.tmod_eq_emod_of_nonneg (by omega), wrapS (by omega) (by omega), wrapS (by omega) (by omega)⟩
          have HRS : Hid ((r : Int) < 4611686018427387904) := (by omega : (r : Int) < 4611686018427387904)
          go_wp2_with fail
          refine (HA.out.fail HRS.out).mono ?_
          rintro e w6 ⟨rfl, h6, _⟩
          have H6 : Hid (SR w w6 p (c : Int) (n : Int) (k : Int) ((t + 1) % (n : Int)) ((r : Int) + 1)) := h6
          clear h6
          obtain ⟨et, em, ew, er⟩ := HE.out
          obtain ⟨t', ht'⟩ : ∃ t', t' = (t + 1) % (n : Int) := ⟨_, rfl⟩
          rw [← ht'] at em ew H6
          clear ht' HE
          go_wp2_with fail
          clear et em ew er
          refine H6.out.lastAny.mono ?_
          rintro e w8 ⟨rfl, h8⟩
          have H8 := hid h8
          clear h8
          go_wp2_with fail
          refine H8.out.se.target.mono ?_
          rintro e w' ⟨rfl, rfl⟩
          go_wp2_with fail
          refine H8.out.se.tries.mono ?_
          rintro e w' ⟨rfl, rfl⟩
          go_wp2
          go_roundw
          case rel => exact ⟨i + 1, k, t', r + 1, by omega, by omega, by omega, by go_num, rfl, rfl, rfl, rfl, H8.out⟩
          case measure => simp [intOf]; omega
        · by_cases hx3 : x = 3
          · subst hx3
            clear hx hx2
            go_wp2_with fail
            refine HA.out.done.mono ?_
            rintro e w6 ⟨rfl, h6, _⟩
            have H6 : Hid (SR w w6 p (c : Int) (n : Int) (k : Int) t ((0 : Nat) : Int)) := h6
            clear h6
            go_wp2_with fail
            refine H6.out.lastAny.mono ?_
            rintro e w8 ⟨rfl, h8⟩
            have H8 := hid h8
            clear h8
            go_wp2_with fail
            refine H8.out.se.target.mono ?_
            rintro e w' ⟨rfl, rfl⟩
            go_wp2_with fail
            refine H8.out.se.tries.mono ?_
            rintro e w' ⟨rfl, rfl⟩
            go_wp2
            go_roundw
            case rel => exact ⟨i + 1, k, t, 0, by omega, by omega, by omega, by go_num, rfl, rfl, rfl, rfl, H8.out⟩
            case measure => simp [intOf]; omega
          · go_wp2_with fail
            refine HA.out.lastAny.mono ?_
            rintro e w8 ⟨rfl, h8⟩
            have H8 := hid h8
            clear h8
            go_wp2_with fail
            refine H8.out.se.target.mono ?_
            rintro e w' ⟨rfl, rfl⟩
            go_wp2_with fail
            refine H8.out.se.tries.mono ?_
            rintro e w' ⟨rfl, rfl⟩
            go_wp2
            go_roundw
            case rel => exact ⟨i + 1, k, t, r, by omega, by omega, by omega, by go_num, rfl, rfl, rfl, rfl, H8.out⟩
            case measure => simp [intOf]; omega
    · have hlt' : ¬ (i : Int) < (LN : Int) := by omega
      have HB := hid HA.out.bel
      go_wp2
      go_ret
      exact ⟨rfl, HB.out⟩
theorem routerSessions_walk (c n : Int) (ao : Option Addr) (cap : Nat) (l : List Int) (w : World) (hT : TbR w) (_ : -9223372036854775808 ≤ c ∧ c ≤ 9223372036854775807) (_ : -9223372036854775808 ≤ n ∧ n ≤ 9223372036854775807) (hl : HV w ao cap l) : Calls Tryd.prog 4 #[.int .i64 c, .int .i64 n, .slice ao l.length cap] w fun e w' => e = .returned (.bool true) ∧ Below w.heap.size w w' := by
  by_cases h : 0 ≤ c ∧ c ≤ 2147483647 ∧ 1 ≤ n ∧ n ≤ 7
  · obtain ⟨a, rfl⟩ : ∃ m : Nat, c = (m : Int) := ⟨c.toNat, by omega⟩
    obtain ⟨m, rfl⟩ : ∃ m : Nat, n = (m : Int) := ⟨n.toNat, by omega⟩
    exact sessions_good a m ao cap l w hT hl (by omega) (by omega)
  · exact sessions_bad c n ao cap l w hT h
end Go.Proofs.YtppllbdoihfcbaaDoor
