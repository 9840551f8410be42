/-
  pannierlaw15.BallotMeets answers true at every input.
-/
import Derived.Test.YtdceenejijigdaaBalG
namespace Go.Proofs.Ytdceenejijigdaa
open Go.RowKit Go.Maps

theorem cntF_disj (f g : Nat → Bool) : ∀ k : Nat, (∀ i, i < k → ¬ (f i = true ∧ g i = true)) → cntF f k + cntF g k ≤ k
  | 0, _ => Nat.le_refl _
  | k + 1, h => by
    have := cntF_disj f g k (fun i hi => h i (by omega))
    have hk := h k (by omega)
    unfold cntF
    split
    · split
      · next h1 h2 => exact absurd ⟨h1, h2⟩ hk
      · omega
    · split <;> omega
theorem cntF_out (f : Nat → Bool) (N : Nat) (h : ∀ i : Nat, N ≤ i → f i = false) : ∀ d : Nat, cntF f (N + d) = cntF f N
  | 0 => rfl
  | d + 1 => by
    have := cntF_out f N h d
    rw [show N + (d + 1) = (N + d) + 1 from rfl]
    show cntF f (N + d) + _ = _
    rw [h (N + d) (by omega), this]
    simp
theorem VotesAt.cnt {w : World} {p N : Nat} {f : Nat → Bool} (h : VotesAt w p (N : Int) f) : cntF f 7 = cntF f N := by
  have h7 : N ≤ 7 := by have := h.hi; omega
  have := cntF_out f N (fun i hi => h.out i (by omega)) (7 - N)
  rw [show N + (7 - N) = 7 by omega] at this
  exact this
/-- Two sets of votes in memory. -/
structure Two15 (w : World) (p q : Nat) (n : Int) (f g : Nat → Bool) (wr : World) : Prop where
  v : VotesAt wr p n f
  u : VotesAt wr q n g
  ne : p ≠ q
  lp : w.heap.size ≤ p
  lq : w.heap.size ≤ q
  bel : Below w.heap.size w wr
theorem Two15.dn {w : World} {p q : Nat} {n : Int} {f g : Nat → Bool} {wr : World} (h : Two15 w p q n f g wr) (k : Nat) : Two15 w p q n f g (wr.drewN k) := ⟨h.v.dn k, h.u.dn k, h.ne, h.lp, h.lq, below_dn h.bel k⟩
/-- Add, whatever the node, at the first of them. -/
theorem Two15.addv {w : World} {p q : Nat} {n : Int} {f g : Nat → Bool} {wr : World} (h : Two15 w p q n f g wr) (x : Int) : Calls Try.prog 23 #[.pointer (some ⟨p, 0, none⟩), .int .i64 x] wr fun e w' => ∃ b f', e = .returned (.bool b) ∧ Two15 w p q n f' g w' := by
  by_cases hx : 0 ≤ x ∧ x < n
  · obtain ⟨k, rfl⟩ := Int.eq_ofNat_of_zero_le hx.1
    refine (addVotes_in h.v k hx.2).mono fun e w' hh => ⟨_, _, hh.1, hh.2.1, h.u.turned hh.2.2 (fun e => h.ne e.symm), h.ne, h.lp, h.lq, h.bel.trans (hh.2.2.below (fun i hi => by have := h.lp; omega) h.bel.size)⟩
  · refine (addVotes_out h.v x hx).mono fun e w' hh => ⟨_, f, hh.1, ?_⟩
    rw [hh.2]
    exact h
theorem Two15.swap {w : World} {p q : Nat} {n : Int} {f g : Nat → Bool} {wr : World} (h : Two15 w p q n f g wr) : Two15 w q p n g f wr := ⟨h.u, h.v, fun e => h.ne e.symm, h.lq, h.lp, h.bel⟩
theorem majority {n : Int} {N a b : Nat} (hn : n = (N : Int)) (h1 : 1 ≤ n ∧ n ≤ 7) (ha : quorum n ≤ (a : Int)) (hb : quorum n ≤ (b : Int)) (h : a + b ≤ N) : False := by
  unfold quorum at ha hb
  rw [if_pos h1] at ha hb
  omega
set_option maxRecDepth 1000000 in
set_option maxHeartbeats 2000000 in
theorem ballotMeets_walk (n : Int) (ao : Option Addr) (cap : Nat) (xs : List Int) (bo : Option Addr) (cap' : Nat) (ys : List Int) (w : World) (_hn : -9223372036854775808 ≤ n ∧ n ≤ 9223372036854775807) (hx : HV w ao cap xs) (hy : HV w bo cap' ys) :
    Calls Try.prog 6 #[.int .i64 n, .slice ao xs.length cap, .slice bo ys.length cap'] w fun e w' => e = .returned (.bool true) ∧ Below w.heap.size w w' := by
  have HX := hid hx
  have HY := hid hy
  clear hx hy _hn
  obtain ⟨lx, HLX⟩ : ∃ l, Hid (xs.length = l) := ⟨_, hid rfl⟩
  obtain ⟨ly, HLY⟩ : ∃ l, Hid (ys.length = l) := ⟨_, hid rfl⟩
  rw [HLX.out, HLY.out]
  have hlx : lx ≤ 17592186044416 := by have := HX.out.few; have := HLX.out; omega
  have hly : ly ≤ 17592186044416 := by have := HY.out.few; have := HLY.out; omega
  by_cases h17 : 1 ≤ n ∧ n ≤ 7
  · have HNV := hid (fun V : World => newVotes (w := V) h17)
    have H17 := hid h17
    obtain ⟨N, rfl⟩ := Int.eq_ofNat_of_zero_le (show 0 ≤ n by omega)
    have hN7 : N ≤ 7 := by omega
    clear h17
    go_enter Try.func6, Try.ntmps6
    go_wp2_with fail
    refine (HNV.out _).mono ?_
    rintro e w1 ⟨rfl, hv1, hb1⟩
    have HV1 := hid hv1
    have HB1 := hid hb1
    clear hv1 hb1
    go_wp2_with fail
    refine (HNV.out _).mono ?_
    rintro e w2 ⟨rfl, hv2, hb2⟩
    have HV2 := hid hv2
    have HB2 := hid hb2
    clear hv2 hb2
    go_wp2_with fail
    refine (livesBal _).mono ?_
    rintro e w3 ⟨rfl, hb3⟩
    have HT3 : Hid (Two15 w w.heap.size w1.heap.size N (fun _ => false) (fun _ => false) w3) :=
      ⟨(HV1.out.below HB2.out).below hb3, HV2.out.below hb3, (by have := HV1.out.blk.lt; omega), Nat.le_refl _, HB1.out.size, bt' (bt' HB1.out HB2.out) hb3⟩
    obtain ⟨p, hp⟩ : ∃ p, p = w.heap.size := ⟨_, rfl⟩
    obtain ⟨q, hq⟩ : ∃ p, p = w1.heap.size := ⟨_, rfl⟩
    rw [← hq]
    rw [← hq] at HT3
    have HT : Hid (∃ f g, Two15 w p q N f g w3) := ⟨_, _, by rw [hp]; exact HT3.out⟩
    rw [← hp]
    clear hb3 hp hq HT3 HNV
    go_wp2
    go_loopw [11] (fun i wr => ∃ k : Nat, k ≤ lx ∧ i = .int .i64 k ∧ Hid (∃ f g, Two15 w p q N f g wr)) (fun i _ => lx - (intOf i).toNat)
    case atStart => exact ⟨0, by omega, rfl, HT⟩
    case round =>
      obtain ⟨k, hk, rfl, HR⟩ := hrel
      obtain ⟨f, g, h2⟩ := HR.out
      have H2 := hid h2
      clear h2 HR
      by_cases hlt : k < lx
      · have hlt' : (k : Int) < (lx : Int) := by omega
        have hkx : Hid (k < xs.length) := (HLX.out ▸ hlt : k < xs.length)
        obtain ⟨b, off, rfl, hc⟩ := (HX.out.held.below H2.out.bel).cellAt hkx.out
        have hcell := hc k hkx.out
        clear hc
        go_wp2_with fail
        refine (H2.out.addv _).mono ?_
        rintro e w4 ⟨b', f', rfl, h4⟩
        have H4 := hid h4
        clear h4 hcell
        go_wp2
        go_roundw
        case rel => exact ⟨k + 1, by omega, by go_num, ⟨f', g, H4.out⟩⟩
        case measure => simp [intOf]; omega
      · have hlt' : ¬ (k : Int) < (lx : Int) := by omega
        go_wp2
        go_loopw [12] (fun i wr => ∃ k : Nat, k ≤ ly ∧ i = .int .i64 k ∧ Hid (∃ f g, Two15 w p q N f g wr)) (fun i _ => ly - (intOf i).toNat)
        case atStart => exact ⟨0, by omega, rfl, ⟨f, g, H2.out⟩⟩
        case round =>
          obtain ⟨j, hj, rfl, HR⟩ := hrel
          clear H2
          clear f g
          obtain ⟨f, g, h2⟩ := HR.out
          have H2 := hid h2
          clear h2 HR
          by_cases hlj : j < ly
          · have hlj' : (j : Int) < (ly : Int) := by omega
            have hkx : Hid (j < ys.length) := (HLY.out ▸ hlj : j < ys.length)
            obtain ⟨b, off, rfl, hc⟩ := (HY.out.held.below H2.out.bel).cellAt hkx.out
            have hcell := hc j hkx.out
            clear hc
            go_wp2_with fail
            refine (H2.out.swap.addv _).mono ?_
            rintro e w4 ⟨b', f', rfl, h4⟩
            have H4 := hid h4.swap
            clear h4 hcell
            go_wp2
            go_roundw
            case rel => exact ⟨j + 1, by omega, by go_num, ⟨f, f', H4.out⟩⟩
            case measure => simp [intOf]; omega
          · have hlj' : ¬ (j : Int) < (ly : Int) := by omega
            obtain ⟨ef, HEF⟩ : ∃ b, Hid (decide (quorum N ≤ (cntF f 7 : Nat)) = b) := ⟨_, hid rfl⟩
            obtain ⟨eg, HEG⟩ : ∃ b, Hid (decide (quorum N ≤ (cntF g 7 : Nat)) = b) := ⟨_, hid rfl⟩
            have HE1 := hid (enoughV H2.out.v)
            rw [HEF.out] at HE1
            go_wp2_with fail
            refine HE1.out.mono ?_
            rintro e w5 ⟨rfl, hq5⟩
            have H5 : Hid (Two15 w p q N f g w5) := by obtain ⟨q5, h5⟩ := hq5; rw [h5]; exact H2.out.dn q5
            clear hq5
            have HE2 := hid (enoughV H5.out.u)
            rw [HEG.out] at HE2
            clear HE1
            cases ef with
            | false =>
              go_wp2
              go_ret
              exact ⟨rfl, H5.out.bel⟩
            | true =>
              go_wp2_with fail
              refine HE2.out.mono ?_
              rintro e w6 ⟨rfl, hq6⟩
              have H6 : Hid (Two15 w p q N f g w6) := by obtain ⟨q6, h6⟩ := hq6; rw [h6]; exact H5.out.dn q6
              clear HE2 hq6
              cases eg with
              | false =>
                go_wp2
                go_ret
                exact ⟨rfl, H6.out.bel⟩
              | true =>
                have HNO : Hid (¬ ∀ i, i < N → ¬ (f i = true ∧ g i = true)) := fun h => by
                  have h1 := of_decide_eq_true HEF.out
                  have h2 := of_decide_eq_true HEG.out
                  rw [H6.out.v.cnt] at h1
                  rw [H6.out.u.cnt] at h2
                  exact majority rfl H17.out h1 h2 (cntF_disj f g N h)
                clear HEF HEG H5 H2
                go_wp2
                go_loop [13] (fun i => ∃ k : Nat, k ≤ N ∧ i = .int .i64 k ∧ Hid (∀ i, i < k → ¬ (f i = true ∧ g i = true))) (fun i => N - (intOf i).toNat)
                case atStart => exact ⟨0, by omega, rfl, fun i hi => absurd hi (by omega)⟩
                case round =>
                  obtain ⟨m, hm, rfl, HM⟩ := hrel
                  by_cases hlm : m < N
                  · have hlm' : (m : Int) < (N : Int) := by omega
                    have HH1 := hid (hasVotes H6.out.v (m : Int))
                    have HH2 := hid (hasVotes H6.out.u (m : Int))
                    have e1 : ∀ f : Nat → Bool, hasV (N : Int) f (m : Int) = f m := fun f => by unfold hasV; rw [decide_eq_true ⟨by omega, hlm'⟩]; simp
                    rw [e1] at HH1 HH2
                    clear e1
                    go_wp2_with fail
                    refine HH1.out.mono ?_
                    rintro e w7 ⟨rfl, rfl⟩
                    cases hfm : f m with
                    | false =>
                      go_wp2
                      go_round
                      case rel => exact ⟨m + 1, by omega, by go_num, fun i hi h => by
                        rcases Nat.lt_succ_iff_lt_or_eq.1 hi with h1 | h1
                        · exact HM.out i h1 h
                        · rw [h1, hfm] at h
                          exact absurd h.1 (by simp)⟩
                      case measure => simp [intOf]; omega
                    | true =>
                      go_wp2_with fail
                      refine HH2.out.mono ?_
                      rintro e w7 ⟨rfl, rfl⟩
                      cases hgm : g m with
                      | false =>
                        go_wp2
                        go_round
                        case rel => exact ⟨m + 1, by omega, by go_num, fun i hi h => by
                          rcases Nat.lt_succ_iff_lt_or_eq.1 hi with h1 | h1
                          · exact HM.out i h1 h
                          · rw [h1, hgm] at h
                            exact absurd h.2 (by simp)⟩
                        case measure => simp [intOf]; omega
                      | true =>
                        go_wp2
                        go_ret
                        exact ⟨rfl, H6.out.bel⟩
                  · exact absurd (fun i hi => HM.out i (by omega)) HNO.out
  · have HNV := hid (fun V : World => newVotes_bad V n h17)
    clear h17
    go_enter Try.func6, Try.ntmps6
    go_wp2_with fail
    refine (HNV.out _).mono ?_
    rintro e w1 ⟨rfl, rfl⟩
    go_wp2_with fail
    refine (HNV.out _).mono ?_
    rintro e w2 ⟨rfl, rfl⟩
    go_wp2_with fail
    refine (livesBal _).mono ?_
    rintro e w3 ⟨rfl, hb3⟩
    have HB3 := hid hb3
    clear hb3
    go_wp2
    have hz : ∀ l : Nat, l = 0 ∨ (0 : Int) < (l : Int) := fun l => by omega
    rcases hz lx with rfl | h1
    · rcases hz ly with rfl | h2
      · clear hz
        refine wp_loop_rounds 1 ?_
        rw [rounds_succ]
        go_wp2
        refine wp_loop_rounds 1 ?_
        rw [rounds_succ]
        go_wp2
        go_ret
        exact ⟨rfl, HB3.out⟩
      · clear hz
        refine wp_loop_rounds 1 ?_
        rw [rounds_succ]
        go_wp2
        refine wp_loop_rounds 1 ?_
        rw [rounds_succ]
        go_wp2
        go_ret
        exact ⟨rfl, HB3.out⟩
    · rcases hz ly with rfl | h2
      · clear hz
        refine wp_loop_rounds 1 ?_
        rw [rounds_succ]
        go_wp2
        refine wp_loop_rounds 1 ?_
        rw [rounds_succ]
        go_wp2
        go_ret
        exact ⟨rfl, HB3.out⟩
      · clear hz
        refine wp_loop_rounds 1 ?_
        rw [rounds_succ]
        go_wp2
        refine wp_loop_rounds 1 ?_
        rw [rounds_succ]
        go_wp2
        go_ret
        exact ⟨rfl, HB3.out⟩
end Go.Proofs.Ytdceenejijigdaa
