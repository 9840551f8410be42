/-
  pannierlaw21.LeaseAlone answers true at every input.
-/
import Derived.Test.YtmceffndnofgfaaLaD
import Derived.Test.YtmceffndnofgfaaLaOpen
import Derived.Deep.CutRange
import Derived.Deep.CutBlock
import Derived.Deep.LoopGhost
namespace Go.Proofs.Ytmceffndnofgfaa
open Go.RowKit Go.Maps

set_option maxRecDepth 200000 in
set_option maxHeartbeats 4000000 in
theorem alone_bad {w : World} (nodes long drift : Int) (ao : Option Addr) (cap n : Nat) (hb : ¬ ((1 ≤ long ∧ long ≤ 1048576) ∧ 0 ≤ drift ∧ drift ≤ 999)) :
    Calls Try.prog 4 #[.int .i64 nodes, .int .i64 long, .int .i64 drift, .slice ao n cap] w fun e w' => e = .returned (.bool true) ∧ Below w.heap.size w w' := by
  have H1 := hid (fun N => newLe_bad w N long drift (fun h => hb h.2))
  clear hb
  obtain ⟨N, hN, hN1, hN2⟩ := tm7 nodes
  have HN1 := hid hN1
  have HN2 := hid hN2
  clear hN1 hN2
  go_enter Try.func4, Try.ntmps4
  go_upto_if 29 with fail
  go_cut [9] from 28 to 31 (fun s9 wx => s9 = .int .i64 (N : Int) ∧ wx = w)
  case first =>
    by_cases h : nodes.tmod 7 < 0
    · have h1 := HN1.out h
      go_wp2_with fail
      go_meet
      exact ⟨rfl, rfl⟩
    · have H2 := hid (HN2.out h)
      go_wp2_with fail
      go_meet
      exact ⟨by rw [H2.out], rfl⟩
  case rest =>
    obtain ⟨rfl, rfl⟩ := hcut
    clear HN1 HN2
    have hw : wrap64 ((N : Int) + 1) = ((N + 1 : Nat) : Int) := by rw [wrapS (by omega) (by omega)]; simp
    go_wp2_with fail
    refine (H1.out _).mono ?_
    rintro e w' ⟨rfl, rfl⟩
    go_wp2_with fail
    refine (new_good w' (N + 1) (by omega)).mono ?_
    rintro e w1 ⟨rfl, _, hb1⟩
    have HB1 := hid hb1
    clear hb1
    go_wp2_with fail
    refine (livesLe _).mono ?_
    rintro e w2 ⟨rfl, hb2⟩
    have HB2 : Hid (Below w'.heap.size w' w2) := HB1.out.trans (hb2.mono HB1.out.size)
    clear hb2
    go_wp2
    go_ret
    exact ⟨rfl, HB2.out⟩

set_option maxRecDepth 200000 in
set_option maxHeartbeats 8000000 in
theorem alone_good {w : World} (nodes long drift : Int) (ao : Option Addr) (cap : Nat) (os : List MoveV) (ho : HeldMv w ao os) (hn : os.length ≤ 140737488355328) (hi : ∀ t ∈ os, t.on.length ≤ 17592186044416) (h2 : 1 ≤ long ∧ long ≤ 1048576) (h3 : 0 ≤ drift ∧ drift ≤ 999) :
    Calls Try.prog 4 #[.int .i64 nodes, .int .i64 long, .int .i64 drift, .slice ao os.length cap] w fun e w' => e = .returned (.bool true) ∧ Below w.heap.size w w' := by
  have HO := hid ho
  have HI := hid hi
  have HL := hid h2
  have HD := hid h3
  obtain ⟨M, hM⟩ : ∃ M, M = os.length := ⟨_, rfl⟩
  have HM := hid hM
  rw [← hM] at hn ⊢
  clear ho hi h2 h3 hM
  obtain ⟨N, hN, hN1, hN2⟩ := tm7 nodes
  have HN1 := hid hN1
  have HN2 := hid hN2
  clear hN1 hN2
  go_enter Try.func4, Try.ntmps4
  go_upto_if 29 with fail
  go_cut [9] from 28 to 31 (fun s9 wx => s9 = .int .i64 (N : Int) ∧ wx = w)
  case first =>
    by_cases h : nodes.tmod 7 < 0
    · have h1 := HN1.out h
      go_wp2_with fail
      go_meet
      exact ⟨rfl, rfl⟩
    · have H2 := hid (HN2.out h)
      go_wp2_with fail
      go_meet
      exact ⟨by rw [H2.out], rfl⟩
  case rest =>
    obtain ⟨rfl, hwc⟩ := hcut
    rw [hwc]
    clear HN1 HN2 hwc wc
    obtain ⟨n, hnn⟩ : ∃ n, n = N + 1 := ⟨_, rfl⟩
    have hw : wrap64 ((N : Int) + 1) = (n : Int) := by rw [wrapS (by omega) (by omega)]; omega
    have hn1 : 1 ≤ n := by omega
    have hn7 : n ≤ 7 := by omega
    have HNR : Hid (1 ≤ n ∧ n ≤ 7) := ⟨hn1, hn7⟩
    clear hN hnn
    go_wp2_with fail
    refine (newLe_good w n long drift HNR.out HL.out HD.out).mono ?_
    rintro e w1 ⟨p, rfl, g, hp, hg, hls, hb1⟩
    have HLS := hid hls
    have HB1 := hid hb1
    have HP := hid (And.intro hp hg)
    clear hls hb1 hp hg
    go_wp2_with fail
    refine (new_good w1 n HNR.out).mono ?_
    rintro e w2 ⟨rfl, hck, hb2⟩
    have HCK := hid hck
    have HB2 := hid hb2
    clear hck hb2
    go_wp2_with fail
    refine (livesLe _).mono ?_
    rintro e w3 ⟨rfl, hb3⟩
    have hmk := run_make_row' (P := Try.prog) 60 30 (.pointer none) 8 Try.underlying60 Try.infoPH rfl .i64 .i64 n (by omega) (by omega)
    have HA1 : Hid (A1 w (w3.alloc (.cells (madeCells #[Value.pointer none] n) 30)) n (w1.heap.size + 1) w1.heap.size n p g n w3.heap.size 0 (trustOf long drift) long (List.replicate n 0) 0 0 (List.replicate n (-1)) (fun _ => 0)) := by
      have e1 := HB1.out.size
      have e2 := HB2.out.size
      have e3 := hb3.size
      have b3 : Below w1.heap.size w1 w3 := HB2.out.trans (hb3.mono e2)
      have l1 := HLS.out.lt
      have ba : Below w3.heap.size w3 (w3.alloc (.cells (madeCells #[Value.pointer none] n) 30)) := (Below.refl _ _).alloc (Nat.le_refl _) _
      refine ⟨(HCK.out.below hb3 (Nat.le_refl _)).below ba (Nat.le_refl _), (HLS.out.below b3 (Nat.le_refl _)).below ba (Nat.le_refl _), ?_, fun i hi => absurd hi (Nat.not_lt_zero _), fun i j hi => absurd hi (Nat.not_lt_zero _), ?_, ⟨⟨by omega, by omega⟩, HP.out, by omega⟩, fun i hi => absurd hi (Nat.not_lt_zero _), by omega⟩
      · rw [madeP]
        exact Blk.new w3 _ _
      · exact (HB1.out.trans (b3.mono e1)).trans (ba.mono (by omega))
    clear hb3 HLS HB1 HCK HB2 HP
    obtain ⟨pc, hpc⟩ : ∃ pc, pc = w1.heap.size + 1 := ⟨_, rfl⟩
    obtain ⟨gc, hgc⟩ : ∃ gc, gc = w1.heap.size := ⟨_, rfl⟩
    obtain ⟨hb, hhb⟩ : ∃ hb, hb = w3.heap.size := ⟨_, rfl⟩
    obtain ⟨W3, hW3⟩ : ∃ W, W = w3.alloc (.cells (madeCells #[Value.pointer none] n) 30) := ⟨_, rfl⟩
    rw [← hpc, ← hgc, ← hhb, ← hW3] at HA1
    rw [← hpc]
    have HHB := hid hhb
    have HW3 := hid hW3
    clear hpc hgc hhb hW3
    go_upto_block 0 with fail
    rw [← HW3.out, ← HHB.out]
    clear HW3 HHB hmk
    generalize hTT : trustOf long drift = T at *
    have HTT := hid hTT
    clear hTT
    go_wp2_with fail
    go_loopg [15] n (fun gg s15 wr => ∃ (k : Nat) (hp : Nat → Nat), k ≤ n ∧ n - k ≤ gg ∧ s15 = .int .i64 k ∧ Hid (A1 w wr n pc gc n p g n hb k T long (List.replicate n 0) 0 0 (List.replicate n (-1)) hp))
    case atStart => exact ⟨0, _, by omega, by omega, rfl, HA1⟩
    case round =>
      clear HA1
      obtain ⟨k, hp, hk, hgg, rfl, HA⟩ := hrel
      by_cases hlt : k < n
      · have hlt' : (k : Int) < (n : Int) := by omega
        go_wp2_with fail
        refine (newHd_good wr long HL.out).mono ?_
        rintro e w4 ⟨rfl, h4, hb4⟩
        have HA4 := hid (HA.out.step hlt hb4 h4 (Nat.le_refl _))
        have hc0 := HA.out.hbk.below hb4 HA.out.hbk.lt
        have hcc := hc0.cell (i := k) (rowF_get _ hlt)
        rw [if_neg (by omega)] at hcc
        have hfz := hc0.frozen k
        clear h4 hb4 hc0
        obtain ⟨b0, hb0⟩ : ∃ b0, b0 = wr.heap.size := ⟨_, rfl⟩
        rw [← hb0] at HA4
        rw [← hb0]
        unfold ptrV at HA4
        clear hb0
        go_wp2_with fail
        go_roundg (n - (k + 1))
        case measure => omega
        case rel => exact ⟨k + 1, _, by omega, by omega, by go_num, HA4⟩
      · have hlt' : ¬ (k : Int) < (n : Int) := by omega
        have hkn : k = n := by omega
        have HA5 : Hid (A1 w wr n pc gc n p g n hb n T long (List.replicate n 0) 0 0 (List.replicate n (-1)) hp) := by
          have h5 := HA.out
          rw [hkn] at h5
          exact h5
        clear HA hkn
        have hmk := run_make_row' (P := Try.prog) 61 4 (.bool false) 1 Try.underlying61 Try.infoBo rfl .i64 .i64 n (by omega) (by omega)
        obtain ⟨W6, hW6⟩ : ∃ W, W = ((wr.alloc (.cells #[.int .i64 5, .int .i64 0] 38)).alloc (.cells #[.int .i64 6, .int .i64 1] 38)).alloc (.cells (madeCells #[Value.bool false] n) 4) := ⟨_, rfl⟩
        obtain ⟨mb, hmb⟩ : ∃ x, x = wr.heap.size := ⟨_, rfl⟩
        obtain ⟨tb, htb⟩ : ∃ x, x = wr.heap.size + 1 := ⟨_, rfl⟩
        obtain ⟨lb, hlb⟩ : ∃ x, x = wr.heap.size + 1 + 1 := ⟨_, rfl⟩
        have HE0 : Hid (AE w W6 n pc gc n p g n hb lb mb tb T long drift none 0 0) := by
          have k1 := ((Blk.new wr 38 [.int .i64 5, .int .i64 0]).alloc (.cells #[.int .i64 6, .int .i64 1] 38)).alloc (.cells (madeCells #[Value.bool false] n) 4)
          have k2 := (Blk.new (wr.alloc (.cells #[.int .i64 5, .int .i64 0] 38)) 38 [.int .i64 6, .int .i64 1]).alloc (.cells (madeCells #[Value.bool false] n) 4)
          have k3 := Blk.new ((wr.alloc (.cells #[.int .i64 5, .int .i64 0] 38)).alloc (.cells #[.int .i64 6, .int .i64 1] 38)) 4 (rowF n fun i => Value.bool ((fun _ => false) i))
          rw [← madeBo] at k3
          rw [World.size_alloc] at k2 k3
          rw [World.size_alloc] at k3
          have hbw : Below wr.heap.size wr W6 := by
            rw [hW6]
            exact (((Below.refl _ _).alloc (Nat.le_refl _) _).alloc (by simp) _).alloc (by simp; omega) _
          rw [← hW6] at k1
          simp only [List.toArray] at k1 k2 k3
          refine ⟨_, _, _, _, hp, _, _, [], HA5.out.toAS (lb := lb) (mb := mb) (tb := tb) hbw ?_ ?_ ?_ (by omega), rfl, Inv.start⟩
          · rw [hW6, hlb]; exact k3
          · rw [hmb]; exact k1
          · rw [hW6, htb]; exact k2
        have HW6 := hid hW6
        have HMB := hid hmb
        have HTB := hid htb
        have HLB := hid hlb
        clear hW6 hmb htb hlb HA5
        go_upto_block 2 with fail
        rw [← HW6.out, ← HLB.out, ← HTB.out, ← HMB.out]
        clear HW6 HLB HTB HMB hmk
        have hn0 : (n : Int) ≠ 0 := by omega
        go_wp2_with fail
        go_loopg [19, 20, 21, 22, 23, 24, 25] M (fun gg s19 s20 _ _ _ _ _ wq => ∃ (i : Nat) (vo : Option Addr) (m cp : Nat), i ≤ M ∧ M - i ≤ gg ∧ s20 = .int .i64 i ∧ s19 = .slice vo m cp ∧ Hid (AE w wq n pc gc n p g n hb lb mb tb T long drift vo m cp))
        case atStart => exact ⟨0, none, 0, 0, by omega, by omega, rfl, rfl, HE0⟩
        case round =>
          clear HE0
          obtain ⟨i, vo, m, cp, hi, hgi, rfl, rfl, HE⟩ := hrel
          by_cases hlt : i < M
          · have hlt1 : (i : Int) < (M : Int) := by omega
            by_cases h5000 : i < 5000
            · have hlt2 : (i : Int) < 5000 := by omega
              have hkx : Hid (i < os.length) := (by have := HM.out; omega : i < os.length)
              obtain ⟨X, hX⟩ : ∃ X, X = os[i]'hkx.out := ⟨_, rfl⟩
              obtain ⟨b, off, hao, hrest⟩ := HO.out.at HE.out.bel hkx.out
              subst hao
              clear hrest
              have HG : Hid (∀ W, Below w.heap.size w W → W.cell? ⟨b, off + i * 4, none⟩ = some (.int .i64 X.kind) ∧ W.cell? ⟨b, off + i * 4 + 1, none⟩ = some (.int .i64 X.node) ∧ W.cell? ⟨b, off + i * 4 + 2, none⟩ = some (.int .i64 X.time) ∧ W.cell? ⟨b, off + i * 4 + 3, none⟩ = some (.slice X.ao X.on.length X.cap) ∧ HeldInt W X.ao X.on ∧ (∀ b' off', X.ao = some ⟨b', off', none⟩ → X.on ≠ [] → b' < w.heap.size)) := by
                intro W hW
                obtain ⟨b2, off2, h0, h1⟩ := HO.out.at hW hkx.out
                cases h0
                rw [hX]
                exact h1
              have HXL : Hid (X.on.length ≤ 17592186044416) := by rw [hX]; exact HI.out _ (List.getElem_mem hkx.out)
              clear hX
              obtain ⟨x0, x1, x2, x3, x4, x5⟩ := HG.out _ HE.out.bel
              clear x4 x5
              obtain ⟨j, hj, hj1, hj2⟩ := tmN X.node n HNR.out
              have HJ1 := hid hj1
              have HJ2 := hid hj2
              clear hj1 hj2
              go_upto_if 110 with fail
              go_cut [21] from 92 to 266 (fun s21 wx => s21 = .int .i64 (j : Int) ∧ wx = wr)
              case first =>
                by_cases h : X.node.tmod n < 0
                · have h1 := HJ1.out h
                  go_wp2_with fail
                  go_meet
                  exact ⟨rfl, rfl⟩
                · have H2 := hid (HJ2.out h)
                  go_wp2_with fail
                  go_meet
                  exact ⟨by rw [H2.out], rfl⟩
              case rest =>
                obtain ⟨rfl, hwc⟩ := hcut
                rw [hwc]
                clear HJ1 HJ2 hwc wc
                have HG0 := hid (HG.out _ HE.out.bel)
                go_upto_block 4 with fail
                go_cut [19, 22, 23] from 92 to 266 (fun s19 _ _ wx => ∃ (vo : Option Addr) (m cp : Nat), s19 = .slice vo m cp ∧ Hid (AE w wx n pc gc n p g n hb lb mb tb T long drift vo m cp))
                case first =>
                  by_cases k1 : X.kind = 1
                  · as_aux_lemma =>
                      have k1b : (X.kind == 1) = true := by simp [k1]
                      have HKP : Hid (∀ q, Calls Try.prog 27 #[.int .i64 X.time, .slice X.ao X.on.length X.cap, .int .i64 drift] (wr.drewN q) fun e w' => e = .returned (.bool (decide (KeepsAll X.time X.on drift))) ∧ w' = wr.drewN q) := fun q => keeps_any (wr.drewN q) X.time X.ao X.cap X.on drift (HG.out _ (HE.out.drewN q).bel).2.2.2.2.1 (by have := HXL.out; omega)
                      have HTK : Hid (KeepsAll X.time X.on drift → ∀ W, AE w W n pc gc n p g n hb lb mb tb T long drift vo m cp → ∀ q, Calls Try.prog 28 #[.pointer (some ⟨pc, 0, none⟩), .int .i64 X.time, .slice X.ao X.on.length X.cap] (W.drewN q) fun e w' => ∃ z : Int, e = .returned (.int .i64 z) ∧ AE w w' n pc gc n p g n hb lb mb tb T long drift vo m cp) := fun hk W hW q => (hW.drewN q).tick (by omega) hk X.ao X.cap (HG.out _ (hW.drewN q).bel).2.2.2.2.1 (by have := HXL.out; omega) (HG.out _ (hW.drewN q).bel).2.2.2.2.2
                      by_cases hkk : KeepsAll X.time X.on drift
                      · rw [decide_eq_true hkk] at HKP
                        have HT2 := hid (HTK.out hkk)
                        clear hkk HTK
                        go_wp2_with fail
                        go_quiet (first | (go_at_call 27; refine Calls.quiet_of_same (HKP.out _)))
                        have HE2 := hid (HE.out.drewN nq)
                        obtain ⟨y0, y1, y2, y3, y4, y5⟩ := HG.out _ HE2.out.bel
                        clear y0 y1 y4 y5 x0 x1 x2 x3 HKP
                        generalize World.drewN _ nq = W1 at *
                        go_wp2_with fail
                        go_region_held3 (fun V => V.cell? ⟨b, off + i * 4 + 2, none⟩ = some (.int .i64 X.time) ∧ V.cell? ⟨b, off + i * 4 + 3, none⟩ = some (.slice X.ao X.on.length X.cap)) (first | (refine ⟨?_, ?_⟩ <;> assumption) | go_keep)
                          (first | (go_at_call 28; refine (HT2.out _ HE2.out _).mono ?_; rintro e w9 ⟨z, rfl, h9⟩; have HE9 := hid h9; obtain ⟨z0, z1, z2, z3, z4, z5⟩ := HG.out _ h9.bel; clear h9 z0 z1 z4 z5))
                        all_goals
                          go_wp2_with fail
                          go_meet
                          exact ⟨vo, m, cp, rfl, HE9⟩
                      · rw [decide_eq_false hkk] at HKP
                        clear hkk HTK
                        go_wp2_with fail
                        go_quiet (first | (go_at_call 27; refine Calls.quiet_of_same (HKP.out _)))
                        go_wp2_with fail
                        go_meet
                        exact ⟨vo, m, cp, rfl, HE.out.drewN nq⟩
                  have k1b : (X.kind == 1) = false := by simp [k1]
                  by_cases k2 : X.kind = 2
                  · as_aux_lemma =>
                      have k2b : (X.kind == 2) = true := by simp [k2]
                      clear HG0 k2
                      go_wp2_with fail
                      go_loopg [19, 22] n (fun gg s19 s22 wq => ∃ (k : Nat) (vo : Option Addr) (m cp : Nat), k ≤ n ∧ n - k ≤ gg ∧ s22 = .int .i64 k ∧ s19 = .slice vo m cp ∧ Hid (AE w wq n pc gc n p g n hb lb mb tb T long drift vo m cp))
                      case atStart => exact ⟨0, vo, m, cp, by omega, by omega, rfl, rfl, HE⟩
                      case round =>
                        clear HE x0 x1 x2 x3
                        obtain ⟨k, vo, m, cp, hk, hgk, rfl, rfl, HE⟩ := hrel
                        by_cases hkn : k < n
                        · have hkn1 : (k : Int) < (n : Int) := by omega
                          by_cases hm5 : m < 5000
                          · have hm51 : (m : Int) < 5000 := by omega
                            obtain ⟨now, time, need, asks, hp, hs, lets, way, hA, hwl, hI⟩ := HE.out
                            have HA := hid hA
                            have HWL := hid hwl
                            have HIN := hid hI
                            have HNC := hid (hA.nowC0 (k := 0) (by omega) hI.len)
                            obtain ⟨x, hx⟩ : ∃ x, x = now.getD 0 0 := ⟨_, rfl⟩
                            rw [← hx] at HNC
                            have HX := hid hx
                            have HHW : Hid (HeldW (wr.alloc (.cells #[.int .i64 (k : Int), .int .i64 x] 70)) (some ⟨wr.heap.size, 0, none⟩) [((k : Int), x)]) := by
                              refine .inr ⟨wr.heap.size, 0, rfl, by simp, fun j u hu => ?_⟩
                              rw [Nat.zero_add]
                              exact (Blk.new wr 70 [.int .i64 (k : Int), .int .i64 x]).cell hu
                            have HBS := hid hA.bel.size
                            have HM1 : Hid (m + 1 ≤ 100000) := (by omega : m + 1 ≤ 100000)
                            have HWS : Hid (w.heap.size ≤ (wr.alloc (.cells #[.int .i64 (k : Int), .int .i64 x] 70)).heap.size) := (by rw [World.size_alloc]; have := HBS.out; omega : w.heap.size ≤ (wr.alloc (.cells #[.int .i64 (k : Int), .int .i64 x] 70)).heap.size)
                            have HRW := hid (hA.row.alloc (.cells #[.int .i64 (k : Int), .int .i64 x] 70))
                            rw [hwl] at HRW
                            clear hA hwl hI hx HE HBS HG HXL
                            go_wp2_with fail
                            refine HNC.out.mono ?_
                            rintro e w' ⟨rfl, rfl⟩
                            go_wp2_with (at_builtin; refine wpList_append_sent rfl _ _ rfl w.heap.size (.slice vo m cp) m way rfl HRW.out HWL.out (some ⟨w'.heap.size, 0, none⟩) 1 1 [((k : Int), x)] rfl rfl HHW.out HM1.out HWS.out ?_; intro bo cb w9 hrow9 hbel9 hgr9)
                            have HE9 : Hid (AE w w9 n pc gc n p g n hb lb mb tb T long drift bo (m + 1) cb) := by
                              have ht : Turns (fun i => (Value.slice vo m cp).ownBlock = some i) w' w9 := ((Turns.refl _ w').alloc _).grown hgr9 (fun k hk => .inl hk)
                              have hl : (way ++ [((k : Int), x)]).length = m + 1 := by simp [HWL.out]
                              have h1 := HA.out.newRow (v' := .slice bo (m + 1) cb) (way' := way ++ [((k : Int), x)]) (by rw [hl]; exact hrow9) ht (by rw [hl]; omega)
                              rw [HX.out] at h1
                              exact AE.of h1 (HIN.out.ask (HA.out.nowRng (k := 0) (by omega) HIN.out.len) (k : Int)) rfl
                            clear hrow9 hbel9 hgr9
                            go_wp2_with fail
                            go_roundg (n - (k + 1))
                            case measure => omega
                            case rel => exact ⟨k + 1, bo, m + 1, cb, by omega, by omega, by go_num, rfl, HE9⟩
                          · have hm51 : ¬ (m : Int) < 5000 := by omega
                            go_wp2_with fail
                            go_meet
                            exact ⟨vo, m, cp, rfl, HE⟩
                        · have hkn1 : ¬ (k : Int) < (n : Int) := by omega
                          go_wp2_with fail
                          go_meet
                          exact ⟨vo, m, cp, rfl, HE⟩
                  have k2b : (X.kind == 2) = false := by simp [k2]
                  by_cases k3 : X.kind = 3
                  · as_aux_lemma =>
                      have k3b : (X.kind == 3) = true := by simp [k3]
                      clear HG0 HG HXL k3
                      go_wp2_with fail
                      go_loopg [19, 23] m (fun gg s19 s23 wq => ∃ (k : Nat), k ≤ m ∧ m - k ≤ gg ∧ s23 = .int .i64 k ∧ s19 = .slice vo m cp ∧ wq = wr)
                      case atStart => exact ⟨0, by omega, by omega, rfl, rfl, rfl⟩
                      case round =>
                        clear x0 x1 x2 x3
                        obtain ⟨k, hk, hgk, rfl, rfl, rfl⟩ := hrel
                        by_cases hkm : k < m
                        · have hkm1 : (k : Int) < (m : Int) := by omega
                          obtain ⟨now, time, need, asks, hp, hs, lets, way, hA, hwl, hI⟩ := HE.out
                          have hkw : Hid (k < way.length) := (by omega : k < way.length)
                          obtain ⟨gq, hgq, y0, y1, hHW, hcp⟩ := hA.wayC hkw.out
                          subst hgq
                          have HMEM := hid (List.getElem_mem hkw.out)
                          obtain ⟨Y, hY⟩ : ∃ Y, Y = way[k]'hkw.out := ⟨_, rfl⟩
                          rw [← hY] at y0 y1 HMEM
                          have HYE := hid hY
                          have HA := hid hA
                          have HIN := hid hI
                          have HWL := hid hwl
                          have hm5k : m ≤ 5000 := by have := hA.few; omega
                          clear hA hwl hI hY hHW hcp
                          obtain ⟨Y1, Y2⟩ := Y
                          simp only at y0 y1
                          by_cases hyj : Y1 = (j : Int)
                          · have hyb : (Y1 != (j : Int)) = false := by simp [hyj]
                            clear hyj
                            go_upto_region 41 with fail
                            go_cut [194] from 166 to 212 (fun s194 wx => ∃ D : Bool, s194 = .bool D ∧ Hid (if D = true then GR w wx n pc gc n p g n hb lb mb tb T long drift (some ⟨gq, 0, none⟩) m cp j k else AE w wx n pc gc n p g n hb lb mb tb T long drift (some ⟨gq, 0, none⟩) m cp))
                            case first =>
                              have l1 := (HA.out.letC hj).1
                              by_cases hl : lets j = true
                              · rw [hl] at l1
                                clear hl
                                go_quiet (fail)
                                go_wp2_with fail
                                go_meet
                                exact ⟨false, rfl, HE.out.drewN _⟩
                              · have hlf : lets j = false := Bool.eq_false_iff.2 hl
                                rw [hlf] at l1
                                have HLF := hid hlf
                                clear hl hlf
                                have hptr := (HA.out.ptr hj).1
                                have m0 := HA.out.mbk.cell (i := 0) rfl
                                have m1 := HA.out.mbk.cell (i := 1) rfl
                                have HNC := hid (fun q => HA.out.nowC hj HIN.out.len q)
                                have HGV := hid (fun V (hV : AS w V n pc gc n p g n hb lb mb tb T long now time need asks hp hs lets (.slice (some ⟨gq, 0, none⟩) m cp) way) => hV.give hj (now.getD j 0))
                                have HGI : Hid (Gives ((hs j).1, (hs j).2.1) (5, 0) (hs j).2.2 (now.getD j 0) → ∀ U, AS w U n pc gc n p g n hb lb mb tb T long now time need asks hp (setN hs j (gvT21 long (5, 0) (now.getD j 0) (hs j))) lets (.slice (some ⟨gq, 0, none⟩) m cp) way → GR w U n pc gc n p g n hb lb mb tb T long drift (some ⟨gq, 0, none⟩) m cp j k) := by
                                  intro hg U hU
                                  refine ⟨now, time, need, asks, hp, _, lets, way, hU, HWL.out, hkw.out, ?_⟩
                                  have h1 := HIN.out.grant hj (List.getElem_mem hkw.out) HLF.out
                                  unfold gvT21
                                  rw [if_pos hg]
                                  exact inv_ext h1 (fun k => setN_us hs j (5, 0, max (hs j).2.2 (now.getD j 0 + long)) k)
                                have HGN : Hid (¬ Gives ((hs j).1, (hs j).2.1) (5, 0) (hs j).2.2 (now.getD j 0) → ∀ U, AS w U n pc gc n p g n hb lb mb tb T long now time need asks hp (setN hs j (gvT21 long (5, 0) (now.getD j 0) (hs j))) lets (.slice (some ⟨gq, 0, none⟩) m cp) way → AE w U n pc gc n p g n hb lb mb tb T long drift (some ⟨gq, 0, none⟩) m cp) := by
                                  intro hg U hU
                                  unfold gvT21 at hU
                                  rw [if_neg hg] at hU
                                  have e1 : setN hs j (hs j) = hs := by
                                    funext k
                                    unfold setN
                                    split
                                    · next h => rw [h]
                                    · rfl
                                  rw [e1] at hU
                                  exact AE.of hU HIN.out rfl
                                obtain ⟨x, hx⟩ : ∃ x, x = now.getD j 0 := ⟨_, rfl⟩
                                rw [← hx] at HNC HGV HGI HGN
                                clear hx
                                obtain ⟨b0, hb0⟩ : ∃ b0, b0 = hp j := ⟨_, rfl⟩
                                rw [← hb0] at hptr HGV
                                have HB0 := hid hb0
                                clear hb0
                                by_cases hg : Gives ((hs j).1, (hs j).2.1) (5, 0) (hs j).2.2 x
                                · rw [decide_eq_true hg] at HGV
                                  have HGI2 := hid (HGI.out hg)
                                  clear hg HGI HGN
                                  generalize gvT21 long (5, 0) x (hs j) = sj at *
                                  go_region_held3 (fun V => V.cell? ⟨lb, j, none⟩ = some (.bool false) ∧ V.cell? ⟨hb, j, none⟩ = some (.pointer (some ⟨b0, 0, none⟩)) ∧ V.cell? ⟨mb, 0, none⟩ = some (.int .i64 5) ∧ V.cell? ⟨mb, 1, none⟩ = some (.int .i64 0)) (first | (refine ⟨?_, ?_, ?_, ?_⟩ <;> assumption) | go_keep)
                                    (first
                                      | (go_at_call 29; refine (HNC.out _).mono ?_; rintro e w6 ⟨rfl, rfl⟩)
                                      | (go_at_call 17; refine (HGV.out _ (HA.out.drewN _)).mono ?_; rintro e w7 ⟨rfl, h7⟩; have HA7 := hid h7; have u0 := h7.mbk.cell (i := 0) rfl; have u1 := h7.mbk.cell (i := 1) rfl; have u2 := (h7.ptr hj).1; rw [← HB0.out] at u2; have u3 := (h7.letC hj).1; rw [HLF.out] at u3; clear h7))
                                  all_goals
                                    go_wp2_with fail
                                    go_meet
                                    exact ⟨true, rfl, HGI2.out _ HA7.out⟩
                                · rw [decide_eq_false hg] at HGV
                                  have HGN2 := hid (HGN.out hg)
                                  clear hg HGI HGN
                                  generalize gvT21 long (5, 0) x (hs j) = sj at *
                                  go_region_held3 (fun V => V.cell? ⟨lb, j, none⟩ = some (.bool false) ∧ V.cell? ⟨hb, j, none⟩ = some (.pointer (some ⟨b0, 0, none⟩)) ∧ V.cell? ⟨mb, 0, none⟩ = some (.int .i64 5) ∧ V.cell? ⟨mb, 1, none⟩ = some (.int .i64 0)) (first | (refine ⟨?_, ?_, ?_, ?_⟩ <;> assumption) | go_keep)
                                    (first
                                      | (go_at_call 29; refine (HNC.out _).mono ?_; rintro e w6 ⟨rfl, rfl⟩)
                                      | (go_at_call 17; refine (HGV.out _ (HA.out.drewN _)).mono ?_; rintro e w7 ⟨rfl, h7⟩; have HA7 := hid h7; have u0 := h7.mbk.cell (i := 0) rfl; have u1 := h7.mbk.cell (i := 1) rfl; have u2 := (h7.ptr hj).1; rw [← HB0.out] at u2; have u3 := (h7.letC hj).1; rw [HLF.out] at u3; clear h7))
                                  all_goals
                                    go_wp2_with fail
                                    go_meet
                                    exact ⟨false, rfl, HGN2.out _ HA7.out⟩
                            case rest =>
                              obtain ⟨D, rfl, HD2⟩ := hcut
                              clear HE HA HIN y0 y1 HMEM HWL HYE hyb hkw
                              go_upto_if 194 with fail
                              go_cut [] from 166 to 212 (fun wx => Hid (AE w wx n pc gc n p g n hb lb mb tb T long drift (some ⟨gq, 0, none⟩) m cp))
                              case first =>
                                cases D with
                                | true =>
                                  obtain ⟨now3, time3, need3, asks3, hp3, hs3, lets3, way3, hA3, hwl3, hkw3, hI3⟩ := (show GR w wc n pc gc n p g n hb lb mb tb T long drift (some ⟨gq, 0, none⟩) m cp j k from HD2.out)
                                  obtain ⟨gq2, hgq2, z0, z1, hz2, hz3⟩ := hA3.wayC hkw3
                                  cases hgq2
                                  have HA3 := hid hA3
                                  have HI3 := hid hI3
                                  clear hz2 hz3 hA3 hI3 hwl3
                                  obtain ⟨y2, hy2⟩ : ∃ y, y = (way3[k]'hkw3).2 := ⟨_, rfl⟩
                                  rw [← hy2] at z1 HI3
                                  clear hy2 z0
                                  go_wp2_with fail
                                  refine (HA3.out.grantC _ _).mono ?_
                                  rintro e w8 ⟨rfl, h8⟩
                                  have HE8 := hid (AE.of h8 HI3.out rfl)
                                  clear h8
                                  go_wp2_with fail
                                  go_meet
                                  exact HE8
                                | false =>
                                  have HE3 : Hid (AE w wc n pc gc n p g n hb lb mb tb T long drift (some ⟨gq, 0, none⟩) m cp) := HD2.out
                                  go_wp2_with fail
                                  go_meet
                                  exact HE3
                              case rest =>
                                have HE2 := hid hcut.out
                                clear hcut HD2
                                obtain ⟨now2, time2, need2, asks2, hp2, hs2, lets2, way2, hA2, hwl2, hI2⟩ := HE2.out
                                have hkw2 : k < way2.length := by omega
                                obtain ⟨gq2, hgq2, z0, z1, hW2, hcp2⟩ := hA2.wayC hkw2
                                cases hgq2
                                clear z0 z1
                                have hc1 := fun V => run_sent_to V (some ⟨gq, 0, none⟩) m cp k (by omega)
                                have hc2 := fun V => run_sent_from V gq m cp (k + 1) ((k : Int) + 1) (by simp) (by omega)
                                obtain ⟨A2, hA2e⟩ : ∃ A, A = fromW gq cp (k + 1) := ⟨_, rfl⟩
                                obtain ⟨L2, hL2⟩ : ∃ L, L = m - (k + 1) := ⟨_, rfl⟩
                                obtain ⟨C2, hC2⟩ : ∃ C, C = cp - (k + 1) := ⟨_, rfl⟩
                                rw [← hA2e, ← hL2, ← hC2] at hc2
                                have HH1 : Hid (∀ V, ScW wc V → HeldW V (some ⟨gq, 0, none⟩) (way2.take k)) := fun V hV => (hW2.below hV.out).take k
                                have HH2 : Hid (∀ V, ScW wc V → HeldW V A2 (way2.drop (k + 1))) := fun V hV => by rw [hA2e]; exact (hW2.below hV.out).from' (by omega) (by omega)
                                have HT1 : Hid ((way2.take k).length = k) := by show _ = _; rw [List.length_take]; omega
                                have HT2 : Hid ((way2.drop (k + 1)).length = L2) := by show _ = _; rw [List.length_drop]; omega
                                have HK5 : Hid (k ≤ 100000) := (by omega : k ≤ 100000)
                                have HS5 : Hid (k + L2 ≤ 100000) := (by omega : k + L2 ≤ 100000)
                                have HFIN : Hid (∀ b4 c4 U, ScW wc U → U.ownsRow wc.heap.size 70 2 (.slice b4 (k + L2) c4) (k + L2) (flatW (way2.take k ++ way2.drop (k + 1))) → AE w U n pc gc n p g n hb lb mb tb T long drift b4 (k + L2) c4) := by
                                  intro b4 c4 U hU hr
                                  have hl : (way2.take k ++ way2.drop (k + 1)).length = k + L2 := by rw [List.length_append, HT1.out, HT2.out]
                                  have h1 := hA2.newRow (v' := .slice b4 (k + L2) c4) (way' := way2.take k ++ way2.drop (k + 1)) (by rw [hl]; exact own_mono hr hA2.bel.size) (Turns.of_below hU.out (Nat.le_refl _)) (by rw [hl]; omega)
                                  refine AE.of h1 (hI2.drop (fun x hx => ?_)) rfl
                                  rcases List.mem_append.1 hx with h | h
                                  · exact List.mem_of_mem_take h
                                  · exact List.mem_of_mem_drop h
                                have hwi : IntKind.i64.wrap ((k : Int) + 1) = (k : Int) + 1 := wrapK (by omega)
                                have hww : wrap64 ((k : Int) + 1) = (k : Int) + 1 := wrapS (by omega) (by omega)
                                clear hA2 hwl2 hI2 hW2 hcp2 hkw2 hA2e hL2 hC2 HE2
                                go_wp2_with fail
                                go_region_held3 (fun V => ScW wc V) (((repeat (first | assumption | exact ScW.start _ | apply ScW.dr | apply ScW.alloc)); done))
                                  (first
                                    | (refine step_copy_sent rfl _ _ rfl wc.heap.size wc.heap.size rfl ?_ (some ⟨gq, 0, none⟩) k cp (way2.take k) rfl HT1.out ?_ HK5.out ?_ ?_
                                       · first | exact ownW_made wc _ (Nat.le_refl _) | exact (ownW_made wc _ (Nat.le_refl _)).drew
                                       · refine HH1.out _ ?_; (repeat (first | assumption | exact ScW.start _ | apply ScW.dr | apply ScW.alloc))
                                       · refine ScW.size ?_; (repeat (first | assumption | exact ScW.start _ | apply ScW.dr | apply ScW.alloc))
                                       intro b3 c3 w3 hown3 hb3
                                       have hsc3 : ScW wc w3 := ScW.grown (by (repeat (first | assumption | exact ScW.start _ | apply ScW.dr | apply ScW.alloc))) hb3
                                       clear hb3)
                                    | (refine step_append_sent rfl _ _ rfl wc.heap.size _ k (way2.take k) rfl hown3 HT1.out A2 L2 C2 (way2.drop (k + 1)) rfl HT2.out (HH2.out _ hsc3) HS5.out hsc3.size ?_
                                       intro b4 c4 w4 hown4 hb4 hg4 ho4
                                       have hsc4 : ScW wc w4 := ScW.grown hsc3 hb4
                                       clear hb4 hg4 ho4))
                                all_goals
                                  have HE4 := hid (HFIN.out b4 c4 w4 hsc4 hown4)
                                  go_wp2_with fail
                                  go_meet
                                  exact ⟨b4, k + L2, c4, rfl, HE4⟩
                          · have hyb : (Y1 != (j : Int)) = true := by simp [hyj]
                            clear hyj
                            go_wp2_with fail
                            go_roundg (m - (k + 1))
                            case measure => omega
                            case rel => exact ⟨k + 1, by omega, by omega, by go_num, rfl, rfl⟩
                        · have hkm1 : ¬ (k : Int) < (m : Int) := by omega
                          go_wp2_with fail
                          go_meet
                          exact ⟨vo, m, cp, rfl, HE⟩
                  have k3b : (X.kind == 3) = false := by simp [k3]
                  by_cases k4 : X.kind = 4
                  · as_aux_lemma =>
                      have k4b : (X.kind == 4) = true := by simp [k4]
                      obtain ⟨now, time, need, asks, hp, hs, lets, way, hA, hwl, hI⟩ := HE.out
                      have HA := hid hA
                      have HWL := hid hwl
                      have HIN := hid hI
                      have HBE := hid hA.hbk
                      clear hA hwl hI HE
                      go_wp2_with fail
                      refine (newHd_good wr long HL.out).mono ?_
                      rintro e w4 ⟨rfl, h4, hb4⟩
                      have HA4 := hid (HA.out.newHd hj hb4 h4 (Nat.le_refl _))
                      have hc0 := HBE.out.below hb4 HBE.out.lt
                      have hcc := hc0.cell (rowF_get (fun i => ptrV (hp i)) hj)
                      have hfz := hc0.frozen j
                      clear h4 hb4 hc0 HBE
                      obtain ⟨b0, hb0⟩ : ∃ b0, b0 = wr.heap.size := ⟨_, rfl⟩
                      rw [← hb0] at HA4
                      rw [← hb0]
                      unfold ptrV at HA4 hcc
                      obtain ⟨W5, hW5⟩ : ∃ W, W = w4.setCell ⟨hb, j, none⟩ (.pointer (some ⟨b0, 0, none⟩)) := ⟨_, rfl⟩
                      rw [← hW5] at HA4
                      have HW5 := hid hW5
                      clear hb0 hW5
                      go_upto_region 46 with fail
                      rw [← HW5.out]
                      clear HW5 hcc hfz
                      have hptr := (HA4.out.ptr hj).1
                      rw [setN_same] at hptr
                      have HNC := hid (fun q => HA4.out.nowC hj HIN.out.len q)
                      have HNR2 := hid (HA4.out.nowRng hj HIN.out.len)
                      have HRS : Hid (∀ V, AS w V n pc gc n p g n hb lb mb tb T long now time need asks (setN hp j b0) (setN hs j (0, 0, 0)) lets (.slice vo m cp) way → Calls Try.prog 21 #[.pointer (some ⟨b0, 0, none⟩), .int .i64 (now.getD j 0)] V fun e w' => e = .returned (.tuple #[]) ∧ AE w w' n pc gc n p g n hb lb mb tb T long drift vo m cp ∧ w'.cell? ⟨hb, j, none⟩ = some (.pointer (some ⟨b0, 0, none⟩))) := by
                        intro V hV
                        have h1 := hV.restart hj HNR2.out
                        rw [setN_same, setN_same, setN_twice] at h1
                        refine h1.mono ?_
                        rintro e w' ⟨he, h2⟩
                        have h3 := (h2.ptr hj).1
                        rw [setN_same] at h3
                        refine ⟨he, AE.of h2 (inv_ext (HIN.out.hold (i := j) (u := max 0 (now.getD j 0 + long)) (fun y h1 _ => by have := HNR2.out; omega)) (fun k => setN_us hs j (0, 0, max 0 (now.getD j 0 + long)) k)) rfl, h3⟩
                      obtain ⟨x, hx⟩ : ∃ x, x = now.getD j 0 := ⟨_, rfl⟩
                      rw [← hx] at HRS
                      have HNC2 : Hid (∀ q, Calls Try.prog 29 #[.pointer (some ⟨pc, 0, none⟩), .int .i64 (j : Int)] (W5.drewN q) fun e w' => e = .returned (.int .i64 x) ∧ w' = W5.drewN q) := fun q => by rw [hx]; exact HNC.out q
                      clear hx HNC
                      go_region_held3 (fun V => V.cell? ⟨hb, j, none⟩ = some (.pointer (some ⟨b0, 0, none⟩))) (first | assumption | go_keep)
                        (first
                          | (go_at_call 29; refine (HNC2.out _).mono ?_; rintro e w6 ⟨rfl, rfl⟩)
                          | (go_at_call 21; refine (HRS.out _ (HA4.out.drewN _)).mono ?_; rintro e w7 ⟨rfl, h7, c7⟩; have HE7 := hid h7; clear h7))
                      all_goals
                        go_wp2_with fail
                        go_meet
                        exact ⟨vo, m, cp, rfl, HE7⟩
                  have k4b : (X.kind == 4) = false := by simp [k4]
                  by_cases k5 : X.kind = 5
                  · as_aux_lemma =>
                      have k5b : (X.kind == 5) = true := by simp [k5]
                      obtain ⟨now, time, need, asks, hp, hs, lets, way, hA, hwl, hI⟩ := HE.out
                      have HA := hid hA
                      have HIN := hid hI
                      have hptr := (hA.ptr hj).1
                      have t0 := hA.tbk.cell (i := 0) rfl
                      have t1 := hA.tbk.cell (i := 1) rfl
                      have HNC := hid (fun q => hA.nowC hj hI.len q)
                      have HBK := hid (fun V (hV : AS w V n pc gc n p g n hb lb mb tb T long now time need asks hp hs lets (.slice vo m cp) way) => hV.blocks hj (now.getD j 0))
                      clear hA hwl hI HE
                      obtain ⟨x, hx⟩ : ∃ x, x = now.getD j 0 := ⟨_, rfl⟩
                      rw [← hx] at HNC HBK
                      have HXE := hid hx
                      clear hx
                      obtain ⟨b0, hb0⟩ : ∃ b0, b0 = hp j := ⟨_, rfl⟩
                      rw [← hb0] at hptr HBK
                      have HB0 := hid hb0
                      clear hb0
                      by_cases hbl : x < (hs j).2.2
                      · rw [decide_eq_true hbl] at HBK
                        clear hbl
                        go_upto_region 48 with fail
                        go_region_held3 (fun V => V.cell? ⟨hb, j, none⟩ = some (.pointer (some ⟨b0, 0, none⟩)) ∧ V.cell? ⟨tb, 0, none⟩ = some (.int .i64 6) ∧ V.cell? ⟨tb, 1, none⟩ = some (.int .i64 1)) (first | (refine ⟨?_, ?_, ?_⟩ <;> assumption) | go_keep)
                          (first
                            | (go_at_call 29; refine (HNC.out _).mono ?_; rintro e w6 ⟨rfl, rfl⟩)
                            | (go_at_call 19; refine (HBK.out _ (HA.out.drewN _)).mono ?_; rintro e w7 ⟨rfl, h7⟩; have HA7 := hid h7; have u0 := h7.tbk.cell (i := 0) rfl; have u1 := h7.tbk.cell (i := 1) rfl; have u2 := (h7.ptr hj).1; rw [← HB0.out] at u2; clear h7))
                        all_goals
                          go_wp2_with fail
                          go_meet
                          exact ⟨vo, m, cp, rfl, AE.of HA7.out HIN.out rfl⟩
                      · rw [decide_eq_false hbl] at HBK
                        have HLT : Hid (Inv drift long n now time asks (fun k => (hs k).2.2) (setN lets j true) way) := HIN.out.letting (by rw [← HXE.out]; omega)
                        clear hbl
                        go_upto_region 48 with fail
                        go_region_held3 (fun V => V.cell? ⟨hb, j, none⟩ = some (.pointer (some ⟨b0, 0, none⟩)) ∧ V.cell? ⟨tb, 0, none⟩ = some (.int .i64 6) ∧ V.cell? ⟨tb, 1, none⟩ = some (.int .i64 1)) (first | (refine ⟨?_, ?_, ?_⟩ <;> assumption) | go_keep)
                          (first
                            | (go_at_call 29; refine (HNC.out _).mono ?_; rintro e w6 ⟨rfl, rfl⟩)
                            | (go_at_call 19; refine (HBK.out _ (HA.out.drewN _)).mono ?_; rintro e w7 ⟨rfl, h7⟩; have HA7 := hid h7; have u0 := h7.tbk.cell (i := 0) rfl; have u1 := h7.tbk.cell (i := 1) rfl; have u2 := (h7.ptr hj).1; rw [← HB0.out] at u2; clear h7))
                        all_goals
                          have hlc := HA7.out.letC hj
                          have hl1 := hlc.1
                          have hl2 := hlc.2
                          clear hlc
                          go_wp2_with fail
                          go_meet
                          exact ⟨vo, m, cp, rfl, AE.of HA7.out.setLet HLT.out rfl⟩
                  have k5b : (X.kind == 5) = false := by simp [k5]
                  go_wp2_with fail
                  go_meet
                  exact ⟨vo, m, cp, rfl, HE⟩
                case rest =>
                  as_aux_lemma =>
                    obtain ⟨vo2, m2, cp2, rfl, HE2⟩ := hcut
                    clear HE HG HG0 HXL x0 x1 x2 x3
                    obtain ⟨now, time, need, asks, hp, hs, lets, way, hA, hwl, hI⟩ := HE2.out
                    have HA := hid hA
                    have HIN := hid hI
                    have HNC := hid (hA.nowC0 (k := 0) (by omega) hI.len)
                    have HCN := hid (countsLe_any hA.ls (now.getD 0 0) (by have := hA.nowRng (k := 0) (by omega) hI.len; omega))
                    have HAL : Hid (quoLe asks.length ≤ cntLe (now.getD 0 0) T asks → ¬ ((n : Int) / 2 < (cntLet lets n : Int))) := by
                      intro hq
                      rw [← HTT.out] at hq
                      exact hI.alone HNR.out hq
                    clear hA hwl hI
                    obtain ⟨x, hx⟩ : ∃ x, x = now.getD 0 0 := ⟨_, rfl⟩
                    rw [← hx] at HNC HCN HAL
                    clear hx
                    go_wp2_with fail
                    go_loopg [24, 25] n (fun gg s24 s25 wq => ∃ (k : Nat), k ≤ n ∧ n - k ≤ gg ∧ s25 = .int .i64 k ∧ s24 = .int .i64 (cntLet lets k : Int) ∧ wq = wc)
                    case atStart => exact ⟨0, by omega, by omega, rfl, rfl, rfl⟩
                    case round =>
                      obtain ⟨k, hk, hgk, rfl, rfl, rfl⟩ := hrel
                      by_cases hkn : k < n
                      · have hkn1 : (k : Int) < (n : Int) := by omega
                        have hlc := (HA.out.letC hkn).1
                        have hwc1 : wrap64 ((cntLet lets k : Int) + 1) = (cntLet lets k : Int) + 1 := by have := cntLet_le lets k; exact wrapS (by omega) (by omega)
                        have HCL : Hid (cntLet lets (k + 1) = cntLet lets k + (if lets k = true then 1 else 0)) := rfl
                        by_cases hlk : lets k = true
                        · rw [if_pos hlk] at HCL
                          rw [hlk] at hlc
                          clear hlk
                          go_wp2_with fail
                          go_roundg (n - (k + 1))
                          case measure => omega
                          case rel => exact ⟨k + 1, by omega, by omega, by go_num, by rw [HCL.out]; simp; exact hwc1, rfl⟩
                        · rw [if_neg hlk] at HCL
                          rw [Bool.eq_false_iff.2 hlk] at hlc
                          clear hlk
                          go_wp2_with fail
                          go_roundg (n - (k + 1))
                          case measure => omega
                          case rel => exact ⟨k + 1, by omega, by omega, by go_num, by rw [HCL.out]; simp, rfl⟩
                      · have hkn1 : ¬ (k : Int) < (n : Int) := by omega
                        have hkk : k = n := by omega
                        have HKK := hid hkk
                        clear hkk
                        have hdv : wrap64 ((n : Int).tdiv 2) = (n : Int) / 2 := by
                          rw [Int.tdiv_eq_ediv_of_nonneg (by omega)]
                          exact wrapS (by omega) (by omega)
                        by_cases hq : quoLe asks.length ≤ cntLe x T asks
                        · rw [decide_eq_true hq] at HCN
                          have hno : ¬ ((n : Int) / 2 < (cntLet lets k : Int)) := by
                            rw [HKK.out]
                            have := HAL.out hq
                            omega
                          clear hq HAL
                          go_wp2_with fail
                          refine HNC.out.mono ?_
                          rintro e w' ⟨rfl, rfl⟩
                          go_wp2_with fail
                          refine HCN.out.mono ?_
                          rintro e w' ⟨rfl, rfl⟩
                          go_wp2_with fail
                          go_roundg (M - (i + 1))
                          case measure => omega
                          case rel => exact ⟨i + 1, vo2, m2, cp2, by omega, by omega, by go_num, rfl, HE2⟩
                        · rw [decide_eq_false hq] at HCN
                          clear hq HAL
                          go_wp2_with fail
                          refine HNC.out.mono ?_
                          rintro e w' ⟨rfl, rfl⟩
                          go_wp2_with fail
                          refine HCN.out.mono ?_
                          rintro e w' ⟨rfl, rfl⟩
                          go_wp2_with fail
                          go_roundg (M - (i + 1))
                          case measure => omega
                          case rel => exact ⟨i + 1, vo2, m2, cp2, by omega, by omega, by go_num, rfl, HE2⟩
            · have hlt2 : ¬ (i : Int) < 5000 := by omega
              go_wp2
              go_ret
              exact ⟨rfl, HE.out.bel⟩
          · have hlt1 : ¬ (i : Int) < (M : Int) := by omega
            go_wp2
            go_ret
            exact ⟨rfl, HE.out.bel⟩

theorem leaseAlone_walk (nodes long drift : Int) (ao : Option Addr) (cap : Nat) (os : List MoveV) (w : World) (_ : -9223372036854775808 ≤ nodes ∧ nodes ≤ 9223372036854775807) (_ : -9223372036854775808 ≤ long ∧ long ≤ 9223372036854775807) (_ : -9223372036854775808 ≤ drift ∧ drift ≤ 9223372036854775807) (ho : HeldMv w ao os) (hn : os.length ≤ 140737488355328) (hi : ∀ t ∈ os, t.on.length ≤ 17592186044416) :
    Calls Try.prog 4 #[.int .i64 nodes, .int .i64 long, .int .i64 drift, .slice ao os.length cap] w fun e w' => e = .returned (.bool true) ∧ Below w.heap.size w w' := by
  by_cases hg : (1 ≤ long ∧ long ≤ 1048576) ∧ 0 ≤ drift ∧ drift ≤ 999
  · exact alone_good nodes long drift ao cap os ho hn hi hg.1 hg.2
  · exact alone_bad nodes long drift ao cap os.length hg
end Go.Proofs.Ytmceffndnofgfaa
