/-
  pannierlaw05.ClockTrusts answers true at every input.
-/
import Derived.Test.YtpbhboecpgdgaaaClkI
import Derived.Deep.CutRange
import Derived.Deep.LoopGhost
import Derived.Deep.RegionHeld3
namespace Go.Proofs.Ytpbhboecpgdgaaa
open Go.RowKit Go.Maps

theorem nowOf_0 (a b : Int) : nowOf [a, b] 0 = a := rfl
theorem nowOf_1 (a b : Int) : nowOf [a, b] 1 = b := rfl
theorem wrap_sub {a b : Int} (ha : 0 ≤ a ∧ a ≤ 1152921504606846976) (hb : 0 ≤ b ∧ b ≤ 1152921504606846976) : wrap64 (a - b) = a - b := wrapS (by omega) (by omega)

set_option maxRecDepth 2000000 in
set_option maxHeartbeats 4000000 in
theorem clockTrusts_walk (ao : Option Addr) (cap : Nat) (ts : List TickV) (r lease asked given : Int) (w : World) (ho : HeldTk w ao ts) (hb : ts.length ≤ 140737488355328) (hi : ∀ t ∈ ts, t.on.length ≤ 17592186044416)
    (_ : -9223372036854775808 ≤ r ∧ r ≤ 9223372036854775807) (_ : -9223372036854775808 ≤ lease ∧ lease ≤ 9223372036854775807) (_ : -9223372036854775808 ≤ asked ∧ asked ≤ 9223372036854775807) (_ : -9223372036854775808 ≤ given ∧ given ≤ 9223372036854775807) :
    Calls Try.prog 5 #[.slice ao ts.length cap, .int .i64 r, .int .i64 lease, .int .i64 asked, .int .i64 given] w fun e w' => e = .returned (.bool true) ∧ Below w.heap.size w w' := by
  have HO := hid ho
  have HI := hid hi
  obtain ⟨n, hn⟩ : ∃ n, n = ts.length := ⟨_, rfl⟩
  have HN := hid hn
  rw [← hn] at hb ⊢
  clear ho hi hn
  obtain ⟨TT, hT⟩ : ∃ TT, TT = trustOf lease r := ⟨_, rfl⟩
  have HT := hid (fun W => hT ▸ trust_any W lease r)
  have HT2 := hid (fun W => hT ▸ refTrust_any W lease r)
  have HTT := hid hT
  have hne : (TT != TT) = false := by simp
  clear hT
  go_enter Try.func5, Try.ntmps5
  go_wp2_with fail
  refine (lives_any _).mono ?_
  rintro e w1 ⟨rfl, hb1⟩
  have HB1 := hid hb1
  clear hb1
  go_wp2_with fail
  refine (HT.out _).mono ?_
  rintro e w' ⟨rfl, rfl⟩
  go_wp2_with fail
  refine (HT2.out _).mono ?_
  rintro e w' ⟨rfl, rfl⟩
  go_wp2_with fail
  refine (new_good _ 2 (by decide)).mono ?_
  rintro e w2 ⟨rfl, hc, hb2⟩
  obtain ⟨p, hp⟩ : ∃ p, p = w'.heap.size + 1 := ⟨_, rfl⟩
  obtain ⟨g, hg⟩ : ∃ g, g = w'.heap.size := ⟨_, rfl⟩
  have HP : Hid (w.heap.size ≤ p ∧ w.heap.size ≤ g) := (by have := HB1.out.size; omega : w.heap.size ≤ p ∧ w.heap.size ≤ g)
  rw [← hp]
  rw [← hp, ← hg] at hc
  have HS : Hid (TS r p g w w2 false false 0 0) := ⟨2, 0, 0, 0, 0, hc, HB1.out.trans (hb2.mono HB1.out.size), by decide, by decide, TI.none⟩
  clear hc hb2 hp hg
  go_wp2_with fail
  refine (HT.out _).mono ?_
  rintro e w' ⟨rfl, rfl⟩
  go_wp2
  go_loopg [14, 15, 16, 17, 18] n (fun gg s14 s15 s16 s17 s18 wr => ∃ (k : Nat) (mine yours : Int) (asks gives : Bool), k ≤ n ∧ n - k ≤ gg ∧ s14 = .int .i64 mine ∧ s15 = .int .i64 yours ∧ s16 = .bool asks ∧ s17 = .bool gives ∧ s18 = .int .i64 k ∧ Hid (TS r p g w wr asks gives mine yours))
  case atStart => exact ⟨0, 0, 0, false, false, by omega, by omega, rfl, rfl, rfl, rfl, rfl, HS⟩
  case round =>
    obtain ⟨k, mine, yours, asks, gives, hk, hgg, rfl, rfl, rfl, rfl, rfl, HS1⟩ := hrel
    by_cases hlt : k < n
    · have hlt' : (k : Int) < (n : Int) := by omega
      by_cases hlm : (k : Int) < 100000
      · go_upto_region 12 with fail
        go_cut [59] from 43 to 114 (fun s wc => s = .bool (decide ((k : Int) = asked) && !asks) ∧ wc = wr)
        case first =>
          by_cases e1 : (k : Int) = asked
          · have e1b : ((k : Int) == asked) = true := by simp [e1]
            go_wp2_with fail
            go_meet
            simp [e1]
          · have e1b : ((k : Int) == asked) = false := by simp [e1]
            go_wp2_with fail
            go_meet
            simp [e1]
        case rest =>
          obtain ⟨rfl, rfl⟩ := hcut
          obtain ⟨B1, hB1⟩ : ∃ B1, B1 = (decide ((k : Int) = asked) && !asks) := ⟨_, rfl⟩
          rw [← hB1]
          have HB1 : Hid (B1 = true → asks = false) := (by intro h; rw [hB1] at h; simp at h; exact h.2 : B1 = true → asks = false)
          clear hB1
          go_upto_if 59 with fail
          go_cut [14, 16] from 43 to 114 (fun s14 s16 wx => ∃ (mine' : Int) (asks' : Bool), s14 = .int .i64 mine' ∧ s16 = .bool asks' ∧ Hid (TS r p g w wx asks' gives mine' yours))
          case first =>
            cases B1 with
            | true =>
              obtain ⟨cp, n0, n1, T, need, hc, hbl, hmr, hyr, hti⟩ := HS1.out
              have HNW := hid (now_any hc 0)
              rw [nowOf_0] at HNW
              have HS2 : Hid (TS r p g w wc true gives n0 yours) := by
                have ha := HB1.out rfl
                subst ha
                exact ⟨cp, n0, n1, T, need, hc, hbl, hc.rng n0 (by simp), hyr, hti.ask⟩
              clear hc hbl hmr hyr hti
              go_wp2_with fail
              refine HNW.out.mono ?_
              rintro e w' ⟨rfl, rfl⟩
              go_wp2_with fail
              go_meet
              exact ⟨n0, true, rfl, rfl, HS2⟩
            | false =>
              go_wp2_with fail
              go_meet
              exact ⟨mine, asks, rfl, rfl, HS1⟩
          case rest =>
            obtain ⟨mine2, asks2, rfl, rfl, HS2⟩ := hcut
            clear HS1 HB1
            go_upto_region 14 with fail
            go_cut [71] from 43 to 114 (fun s wx => s = .bool (decide ((k : Int) = given) && asks2 && !gives) ∧ wx = wc)
            case first =>
              by_cases e1 : (k : Int) = given
              · have e1b : ((k : Int) == given) = true := by simp [e1]
                cases asks2 with
                | true =>
                  go_wp2_with fail
                  go_meet
                  simp [e1]
                | false =>
                  go_wp2_with fail
                  go_meet
                  simp
              · have e1b : ((k : Int) == given) = false := by simp [e1]
                go_wp2_with fail
                go_meet
                simp [e1]
            case rest =>
              obtain ⟨rfl, rfl⟩ := hcut
              obtain ⟨B2, hB2⟩ : ∃ B2, B2 = (decide ((k : Int) = given) && asks2 && !gives) := ⟨_, rfl⟩
              rw [← hB2]
              have HB2 : Hid (B2 = true → asks2 = true ∧ gives = false) := (by intro h; rw [hB2] at h; simp at h; exact ⟨h.1.2, h.2⟩ : B2 = true → asks2 = true ∧ gives = false)
              clear hB2
              go_upto_if 71 with fail
              go_cut [15, 17] from 43 to 114 (fun s15 s17 wx => ∃ (yours' : Int) (gives' : Bool), s15 = .int .i64 yours' ∧ s17 = .bool gives' ∧ Hid (TS r p g w wx asks2 gives' mine2 yours'))
              case first =>
                cases B2 with
                | true =>
                  obtain ⟨cp, n0, n1, T, need, hc, hbl, hmr, hyr, hti⟩ := HS2.out
                  have HNW := hid (now_any hc 1)
                  rw [nowOf_1] at HNW
                  have HS3 : Hid (TS r p g w wc asks2 true mine2 n1) := by
                    obtain ⟨ha, hgv⟩ := HB2.out rfl
                    subst ha hgv
                    exact ⟨cp, n0, n1, T, need, hc, hbl, hmr, hc.rng n1 (by simp), hti.give⟩
                  clear hc hbl hmr hyr hti
                  go_wp2_with fail
                  refine HNW.out.mono ?_
                  rintro e w' ⟨rfl, rfl⟩
                  go_wp2_with fail
                  go_meet
                  exact ⟨n1, true, rfl, rfl, HS3⟩
                | false =>
                  go_wp2_with fail
                  go_meet
                  exact ⟨yours, gives, rfl, rfl, HS2⟩
              case rest =>
                obtain ⟨yours2, gives2, rfl, rfl, HS3⟩ := hcut
                clear HS2 HB2
                have hkx : Hid (k < ts.length) := (by have := HN.out; omega : k < ts.length)
                obtain ⟨b, off, rfl, hbw⟩ := HO.out.at hkx.out
                obtain ⟨X, hX⟩ : ∃ X, X = ts[k]'hkx.out := ⟨_, rfl⟩
                have HOL : Hid (X.on.length ≤ 17592186044416) := hX ▸ HI.out _ (List.getElem_mem hkx.out)
                have HG : Hid (∀ W, Below w.heap.size w W → W.cell? ⟨b, off + k * 2, none⟩ = some (.int .i64 X.time) ∧ W.cell? ⟨b, off + k * 2 + 1, none⟩ = some (.slice X.ao X.on.length X.cap) ∧ HeldInt W X.ao X.on ∧ (∀ b' off', X.ao = some ⟨b', off', none⟩ → X.on ≠ [] → b' < w.heap.size) ∧ In64 X.time) := by
                  intro W hW
                  rw [hX]
                  exact HO.out.get hW hkx.out
                clear hX
                have HBW : Hid (Below w.heap.size w wc) := by
                  obtain ⟨cp, n0, n1, T, need, hc, hbl, _⟩ := HS3.out
                  exact hbl
                obtain ⟨x0, x1, hhe, _, _⟩ := HG.out wc HBW.out
                have HKP := hid (fun (q : Nat) => keeps_any (wc.drewN q) X.time X.ao X.cap X.on r ⟨hhe.1, hhe.2⟩ (by have := HOL.out; omega))
                clear hhe
                go_upto_region 16 with fail
                go_cut [85] from 43 to 114 (fun s wx => s = .bool (decide (KeepsAll X.time X.on r)) ∧ ∃ q, wx = wc.drewN q)
                case first =>
                  go_region_held3 (fun V => V.cell? ⟨b, off + k * 2, none⟩ = some (.int .i64 X.time) ∧ V.cell? ⟨b, off + k * 2 + 1, none⟩ = some (.slice X.ao X.on.length X.cap)) (first | (refine ⟨?_, ?_⟩ <;> assumption) | go_keep)
                    (first | (go_at_call 14; refine (HKP.out _).mono ?_; rintro e w9 ⟨rfl, rfl⟩))
                  all_goals
                    go_wp2_with fail
                    go_meet
                    exact ⟨rfl, _, rfl⟩
                case rest =>
                  obtain ⟨rfl, q, rfl⟩ := hcut
                  have HS4 := hid (HS3.out.drewN q)
                  clear HS3 HKP x0 x1 HBW
                  generalize World.drewN _ q = W3 at *
                  have HTK : Hid (KeepsAll X.time X.on r → ∀ q, Calls Try.prog 12 #[.pointer (some ⟨p, 0, none⟩), .int .i64 X.time, .slice X.ao X.on.length X.cap] (W3.drewN q) fun e w' => ∃ z : Int, e = .returned (.int .i64 z) ∧ TS r p g w w' asks2 gives2 mine2 yours2) := by
                    intro hk q
                    obtain ⟨_, _, hhe, hap, _⟩ := HG.out _ (HS4.out.drewN q).below
                    exact (HS4.out.drewN q).tick HP.out hk _ _ hhe (by have := HOL.out; omega) hap
                  obtain ⟨x0, x1, _⟩ := HG.out W3 HS4.out.below
                  go_upto_if 85 with fail
                  go_cut [] from 43 to 114 (fun wx => Hid (TS r p g w wx asks2 gives2 mine2 yours2))
                  case first =>
                    by_cases hkk : KeepsAll X.time X.on r
                    · have HT3 := hid (HTK.out hkk)
                      rw [decide_eq_true hkk]
                      clear hkk HTK
                      go_wp2_with fail
                      go_region_held3 (fun V => V.cell? ⟨b, off + k * 2, none⟩ = some (.int .i64 X.time) ∧ V.cell? ⟨b, off + k * 2 + 1, none⟩ = some (.slice X.ao X.on.length X.cap)) (first | (refine ⟨?_, ?_⟩ <;> assumption) | go_keep)
                        (first | (go_at_call 12; refine (HT3.out _).mono ?_; rintro e w9 ⟨z, rfl, hts⟩; have HS5 := hid hts; obtain ⟨y0, y1, _⟩ := HG.out _ hts.below; clear hts))
                      all_goals
                        go_wp2_with fail
                        go_meet
                        exact HS5
                    · rw [decide_eq_false hkk]
                      go_wp2_with fail
                      go_meet
                      exact HS4
                  case rest =>
                    have HS5 := hid hcut.out
                    clear HS4 HTK x0 x1 hcut
                    cases gives2 with
                    | false =>
                      go_wp2_with fail
                      go_roundg (n - (k + 1))
                      case measure => omega
                      case rel => exact ⟨k + 1, mine2, yours2, asks2, false, by omega, by omega, rfl, rfl, rfl, rfl, by go_num, HS5⟩
                    | true =>
                      obtain ⟨cp, n0, n1, T, need, hc, hbl, hmr, hyr, hti⟩ := HS5.out
                      have HN0 := hid (now_any hc 0)
                      have HN1 := hid (now_any hc 1)
                      rw [nowOf_0] at HN0
                      rw [nowOf_1] at HN1
                      obtain ⟨A, hAe⟩ : ∃ A, A = n0 - mine2 := ⟨_, rfl⟩
                      obtain ⟨Bd, hBe⟩ : ∃ Bd, Bd = n1 - yours2 := ⟨_, rfl⟩
                      have hw0 : wrap64 (n0 - mine2) = A := by rw [hAe]; exact wrap_sub (hc.rng n0 (by simp)) hmr
                      have hw1 : wrap64 (n1 - yours2) = Bd := by rw [hBe]; exact wrap_sub (hc.rng n1 (by simp)) hyr
                      have HOV : Hid (A < TT → Bd < lease) := (fun h => hBe ▸ hti.over (HTT.out ▸ hAe ▸ h) : A < TT → Bd < lease)
                      clear hc hbl hmr hyr hti hAe hBe
                      clear HG HP HOL HTT HT HT2 HI HO hbw hkx HN hne
                      by_cases hA : A < TT
                      · have hB : ¬ lease ≤ Bd := by have := HOV.out hA; omega
                        go_wp2_with fail
                        refine HN0.out.mono ?_
                        rintro e w' ⟨rfl, rfl⟩
                        go_wp2_with fail
                        refine HN1.out.mono ?_
                        rintro e w' ⟨rfl, rfl⟩
                        go_wp2_with fail
                        go_roundg (n - (k + 1))
                        case measure => omega
                        case rel => exact ⟨k + 1, mine2, yours2, asks2, true, by omega, by omega, rfl, rfl, rfl, rfl, by go_num, HS5⟩
                      · go_wp2_with fail
                        refine HN0.out.mono ?_
                        rintro e w' ⟨rfl, rfl⟩
                        go_wp2_with fail
                        go_roundg (n - (k + 1))
                        case measure => omega
                        case rel => exact ⟨k + 1, mine2, yours2, asks2, true, by omega, by omega, rfl, rfl, rfl, rfl, by go_num, HS5⟩
      · go_wp2
        go_ret
        exact ⟨rfl, HS1.out.below⟩
    · have hlt' : ¬ (k : Int) < (n : Int) := by omega
      go_wp2
      go_ret
      exact ⟨rfl, HS1.out.below⟩
end Go.Proofs.Ytpbhboecpgdgaaa
