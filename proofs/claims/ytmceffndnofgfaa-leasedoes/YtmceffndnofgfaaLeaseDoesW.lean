/-
  pannierlaw21.LeaseDoes answers true at every input.
-/
import Derived.Test.YtmceffndnofgfaaLeH
import Derived.Deep.CutRange
import Derived.Deep.CutBlock
import Derived.Deep.LoopGhost
import Derived.Deep.RegionHeld3
namespace Go.Proofs.Ytmceffndnofgfaa
open Go.RowKit Go.Maps

set_option maxRecDepth 100000 in
theorem does21_bad {w : World} (nodes long drift : Int) (ao : Option Addr) (cap n : Nat) (hb : ¬ ((1 ≤ nodes ∧ nodes ≤ 7) ∧ (1 ≤ long ∧ long ≤ 1048576) ∧ 0 ≤ drift ∧ drift ≤ 999)) :
    Calls Try.prog 3 #[.int .i64 nodes, .int .i64 long, .int .i64 drift, .slice ao n cap] w fun e w' => e = .returned (.bool true) ∧ Below w.heap.size w w' := by
  have H1 := hid (newLe_bad w nodes long drift hb)
  have H1r := hid (rnewLe_bad w nodes long drift hb)
  clear hb
  by_cases hl : 1 ≤ long ∧ long ≤ 1048576
  · have H2 := hid (newHd_good w long hl)
    have HL := hid hl
    clear hl
    go_enter Try.func3, Try.ntmps3
    go_wp2_with fail
    refine H1.out.mono ?_
    rintro e w' ⟨rfl, rfl⟩
    go_wp2_with fail
    refine H1r.out.mono ?_
    rintro e w' ⟨rfl, rfl⟩
    go_wp2_with fail
    refine H2.out.mono ?_
    rintro e w2 ⟨rfl, _, hb2⟩
    have HB2 := hid hb2
    clear hb2
    go_wp2_with fail
    refine (rnewHd_good _ _ HL.out).mono ?_
    rintro e w3 ⟨rfl, _, hb3⟩
    have HB3 : Hid (Below w'.heap.size w' w3) := HB2.out.trans (hb3.mono HB2.out.size)
    clear hb3 HB2
    go_wp2_with fail
    refine (livesLe _).mono ?_
    rintro e w4 ⟨rfl, hb4⟩
    have HB4 : Hid (Below w'.heap.size w' w4) := HB3.out.trans (hb4.mono HB3.out.size)
    clear hb4
    go_wp2
    go_ret
    exact ⟨rfl, HB4.out⟩
  · have H2 := hid (newHd_bad w long hl)
    have H2r := hid (rnewHd_bad w long hl)
    clear hl
    go_enter Try.func3, Try.ntmps3
    go_wp2_with fail
    refine H1.out.mono ?_
    rintro e w' ⟨rfl, rfl⟩
    go_wp2_with fail
    refine H1r.out.mono ?_
    rintro e w' ⟨rfl, rfl⟩
    go_wp2_with fail
    refine H2.out.mono ?_
    rintro e w2 ⟨rfl, rfl⟩
    go_wp2_with fail
    refine H2r.out.mono ?_
    rintro e w2 ⟨rfl, rfl⟩
    go_wp2_with fail
    refine (livesLe _).mono ?_
    rintro e w3 ⟨rfl, hb3⟩
    have HB3 := hid hb3
    clear hb3
    go_wp2
    go_ret
    exact ⟨rfl, HB3.out⟩

/-- What stands between two rounds. -/
def DE (w wr : World) (p g c h x y : Nat) (T l : Int) : Prop := ∃ (asks : List Int) (s : Int × Int × Int), DS w wr p g c h x y asks asks T l s.1 s.2.1 s.2.2 s.1 s.2.1 s.2.2
theorem HeldO.at21 {w W : World} {ao : Option Addr} {os : List OpV} (h : HeldO w ao os) (hb : Below w.heap.size w W) {k : Nat} (hk : k < os.length) : ∃ b off, ao = some ⟨b, off, none⟩ ∧ W.cell? ⟨b, off + k * 5, none⟩ = some (.int .i64 os[k].kind) ∧ W.cell? ⟨b, off + k * 5 + 1, none⟩ = some (.int .i64 os[k].node) ∧ W.cell? ⟨b, off + k * 5 + 2, none⟩ = some (.int .i64 os[k].n) ∧ W.cell? ⟨b, off + k * 5 + 3, none⟩ = some (.int .i64 os[k].b1) ∧ W.cell? ⟨b, off + k * 5 + 4, none⟩ = some (.int .i64 os[k].b2) := by
  rcases h.2 with h0 | ⟨b, off, h1, h2, h3⟩
  · rw [h0] at hk
    cases hk
  · have hc : ∀ i u, os[k].cells[i]? = some u → W.cell? ⟨b, off + k * 5 + i, none⟩ = some u := fun i u hu => (hb.cell (p := ⟨b, off + k * 5 + i, none⟩) h2).trans (h3 k hk i u hu)
    exact ⟨b, off, h1, hc 0 _ rfl, hc 1 _ rfl, hc 2 _ rfl, hc 3 _ rfl, hc 4 _ rfl⟩

set_option maxRecDepth 200000 in
set_option maxHeartbeats 4000000 in
theorem does21_good {w : World} (nodes : Nat) (long drift : Int) (ao : Option Addr) (cap : Nat) (os : List OpV) (ho : HeldO w ao os) (hn : os.length ≤ 140737488355328) (h1 : 1 ≤ nodes ∧ nodes ≤ 7) (h2 : 1 ≤ long ∧ long ≤ 1048576) (h3 : 0 ≤ drift ∧ drift ≤ 999) :
    Calls Try.prog 3 #[.int .i64 (nodes : Int), .int .i64 long, .int .i64 drift, .slice ao os.length cap] w fun e w' => e = .returned (.bool true) ∧ Below w.heap.size w w' := by
  have HO := hid ho
  have H1 := hid (newLe_good w nodes long drift h1 h2 h3)
  have H1r := hid (fun W => rnewLe_good W nodes long drift h1 h2 h3)
  have HL2 := hid h2
  obtain ⟨n, hne⟩ : ∃ n, n = os.length := ⟨_, rfl⟩
  have HN := hid hne
  rw [← hne] at hn ⊢
  clear ho h1 h2 h3 hne
  go_enter Try.func3, Try.ntmps3
  go_wp2_with fail
  refine H1.out.mono ?_
  rintro e w1 ⟨p, rfl, g, hp, hg, hls, hb1⟩
  have HLS := hid hls
  have HB1 := hid hb1
  have HP := hid (And.intro hp hg)
  clear hls hb1 hp hg
  go_wp2_with fail
  refine (H1r.out w1).mono ?_
  rintro e w2 ⟨rfl, hrl, hb2⟩
  have HRL := hid hrl
  have HB2 := hid hb2
  clear hrl hb2
  go_wp2_with fail
  refine (newHd_good w2 long HL2.out).mono ?_
  rintro e w3 ⟨rfl, hhd, hb3⟩
  have HHD := hid hhd
  have HB3 := hid hb3
  clear hhd hb3
  go_wp2_with fail
  refine (rnewHd_good w3 long HL2.out).mono ?_
  rintro e w4 ⟨rfl, hrh, hb4⟩
  have H4 : Hid (DE w w4 p g nodes w2.heap.size w1.heap.size w3.heap.size (trustOf long drift) long) := by
    have e1 := HB1.out.size
    have e2 := HB2.out.size
    have e3 := HB3.out.size
    have b3 := HB2.out.trans (HB3.out.mono e2)
    have b4 := b3.trans (hb4.mono (by omega))
    have b5 : Below w2.heap.size w2 w4 := HB3.out.trans (hb4.mono e3)
    exact ⟨_, (0, 0, 0), HLS.out.below b4 (Nat.le_refl _), HHD.out.below hb4 (Nat.le_refl _), HRL.out.below b5 (Nat.le_refl _), hrh, HB1.out.trans (b4.mono e1), HP.out, by omega, by omega, by omega⟩
  clear hrh hb4 HLS HB1 HRL HB2 HHD HB3 HP H1 H1r
  generalize w2.heap.size = h at *
  generalize w1.heap.size = x at *
  generalize w3.heap.size = y at *
  generalize trustOf long drift = T at *
  go_wp2_with fail
  refine (livesLe _).mono ?_
  rintro e w5 ⟨rfl, hb5⟩
  have H5 : Hid (DE w w5 p g nodes h x y T long) := by
    obtain ⟨asks, s, hs⟩ := H4.out
    exact ⟨asks, s, hs.grow hb5⟩
  clear hb5 H4
  go_wp2
  go_loopg [9, 13, 17, 18, 19, 20, 21] n (fun gg s9 s13 s17 _ _ _ _ wr => ∃ (k p g c h : Nat), k ≤ n ∧ n - k ≤ gg ∧ s9 = .pointer (some ⟨p, 0, none⟩) ∧ s13 = .pointer (some ⟨h, 0, none⟩) ∧ s17 = .int .i64 k ∧ Hid (DE w wr p g c h x y T long))
  case atStart => exact ⟨0, p, g, nodes, h, by omega, by omega, rfl, rfl, rfl, H5⟩
  case round =>
    clear H5
    obtain ⟨k, p, g, c, h, hk, hgg, rfl, rfl, rfl, HS⟩ := hrel
    by_cases hlt : k < n
    · have hlt' : (k : Int) < (n : Int) := by omega
      have hkx : Hid (k < os.length) := (by have := HN.out; omega : k < os.length)
      obtain ⟨asks, s, hs⟩ := HS.out
      obtain ⟨b, off, rfl, e0, e1, e2, e3, e4⟩ := HO.out.at21 hs.bel hkx.out
      have HOK := hid (HO.out.1 _ (List.getElem_mem hkx.out))
      obtain ⟨o, hoe⟩ : ∃ o, o = os[k]'hkx.out := ⟨_, rfl⟩
      rw [← hoe] at e0 e1 e2 e3 e4 HOK
      have HDB : Hid (DB w (wr.alloc (.cells #[.int .i64 o.kind, .int .i64 o.node, .int .i64 o.n, .int .i64 o.b1, .int .i64 o.b2] 40)) p g c h x y wr.heap.size o asks asks T long s s) := ⟨hs.grow ((Below.refl _ _).alloc (Nat.le_refl _) _), Blk.new wr _ _⟩
      clear hoe hs HS
      obtain ⟨ob, hob⟩ : ∃ ob, ob = wr.heap.size := ⟨_, rfl⟩
      obtain ⟨W, hW⟩ : ∃ W, W = wr.alloc (.cells #[.int .i64 o.kind, .int .i64 o.node, .int .i64 o.n, .int .i64 o.b1, .int .i64 o.b2] 40) := ⟨_, rfl⟩
      rw [← hob, ← hW] at HDB
      have HOB := hid hob
      have HWE := hid hW
      clear hob hW
      go_upto_block 2 with fail
      rw [← HWE.out, ← HOB.out]
      clear HWE HOB e0 e1 e2 e3 e4
      have d0 := HDB.out.2.cell (i := 0) rfl
      have d1 := HDB.out.2.cell (i := 1) rfl
      have d2 := HDB.out.2.cell (i := 2) rfl
      have d3 := HDB.out.2.cell (i := 3) rfl
      have d4 := HDB.out.2.cell (i := 4) rfl
      have hnow : o.n ≤ 9223372036854775807 := HOK.out.2.2.1.2
      have HNOW := hid hnow
      clear hnow HOK
      go_cut [9, 13, 19, 20, 21] from 78 to 191 (fun s9 s13 s19 _ _ wx => ∃ p g c h : Nat, s9 = .pointer (some ⟨p, 0, none⟩) ∧ s13 = .pointer (some ⟨h, 0, none⟩) ∧ s19 = .bool true ∧ Hid (∃ asks s, DB w wx p g c h x y ob o asks asks T long s s))
      case first =>
        by_cases k1 : o.kind = 1
        · have k1b : (o.kind == 1) = true := by simp [k1]
          go_wp2_with fail
          refine (HDB.out.grant o.node o.n).mono ?_
          rintro e w6 ⟨rfl, h6⟩
          have f1 := h6.2.cell (i := 1) rfl
          have f2 := h6.2.cell (i := 2) rfl
          have H6 := hid h6
          clear h6
          go_wp2_with fail
          refine (H6.out.rgrant o.node o.n).mono ?_
          rintro e w7 ⟨rfl, h7⟩
          have H7 := hid h7
          clear h7
          go_wp2_with fail
          go_meet
          exact ⟨p, g, c, h, rfl, rfl, rfl, _, _, H7.out⟩
        have k1b : (o.kind == 1) = false := by simp [k1]
        by_cases k2 : o.kind = 2
        · have k2b : (o.kind == 2) = true := by simp [k2]
          have HC1 := hid (fun (q : Nat) => (HDB.out.drewN q).counts o.n HNOW.out)
          have HC2 := hid (fun V (hV : DB w V p g c h x y ob o asks asks T long s s) => hV.rcounts o.n HNOW.out)
          generalize decide (quoLe asks.length ≤ cntLe o.n T asks) = D at *
          have hD : (D == D) = true := by simp
          go_wp2_with fail
          go_region_held3 (fun V => V.cell? ⟨ob, 2, none⟩ = some (.int .i64 o.n)) (first | assumption | go_keep)
            (first
              | (go_at_call 14; refine (HC1.out _).mono ?_; rintro e w6 ⟨rfl, h6⟩; have f2 := h6.2.cell (i := 2) rfl; have H6 := hid h6; clear h6)
              | (go_at_call 15; refine (HC2.out _ H6.out).mono ?_; rintro e w7 ⟨rfl, h7⟩; have g2 := h7.2.cell (i := 2) rfl; have H7 := hid h7; clear h7))
          all_goals
            go_wp2_with fail
            go_meet
            exact ⟨p, g, c, h, rfl, rfl, rfl, _, _, H7.out⟩
        have k2b : (o.kind == 2) = false := by simp [k2]
        by_cases k3 : o.kind = 3
        · have k3b : (o.kind == 3) = true := by simp [k3]
          go_wp2_with fail
          refine HDB.out.clear.mono ?_
          rintro e w6 ⟨rfl, h6⟩
          have H6 := hid h6.zero
          have hbl := h6.1.rl.blk
          clear h6
          rw [show rlCells T asks = rlCells T asks from rfl] at hbl
          have fz := hbl.frozen
          have z2 := hbl.cell (i := 2) rfl
          have z3 := hbl.cell (i := 3) rfl
          have z4 := hbl.cell (i := 4) rfl
          have z5 := hbl.cell (i := 5) rfl
          have z6 := hbl.cell (i := 6) rfl
          have z7 := hbl.cell (i := 7) rfl
          have z8 := hbl.cell (i := 8) rfl
          have z9 := hbl.cell (i := 9) rfl
          have z10 := hbl.cell (i := 10) rfl
          have z11 := hbl.cell (i := 11) rfl
          have z12 := hbl.cell (i := 12) rfl
          have z13 := hbl.cell (i := 13) rfl
          have z14 := hbl.cell (i := 14) rfl
          have z15 := hbl.cell (i := 15) rfl
          clear hbl
          go_wp2_with fail
          go_meet
          exact ⟨p, g, c, h, rfl, rfl, rfl, _, _, H6.out⟩
        have k3b : (o.kind == 3) = false := by simp [k3]
        by_cases k4 : o.kind = 4
        · have k4b : (o.kind == 4) = true := by simp [k4]
          have HC1 := hid (fun (q : Nat) => (HDB.out.drewN q).give o.b1 o.b2 o.n)
          have HC2 := hid (fun V (hV : DB w V p g c h x y ob o asks asks T long (gvT long (o.b1, o.b2) o.n s) s) => hV.rgive o.b1 o.b2 o.n)
          generalize decide (Gives (s.1, s.2.1) (o.b1, o.b2) s.2.2 o.n) = D at *
          have hD : (D == D) = true := by simp
          go_wp2_with fail
          go_region_held3 (fun V => V.cell? ⟨ob, 2, none⟩ = some (.int .i64 o.n) ∧ V.cell? ⟨ob, 3, none⟩ = some (.int .i64 o.b1) ∧ V.cell? ⟨ob, 4, none⟩ = some (.int .i64 o.b2)) (first | (refine ⟨?_, ?_, ?_⟩ <;> assumption) | go_keep)
            (first
              | (go_at_call 17; refine (HC1.out _).mono ?_; rintro e w6 ⟨rfl, h6⟩; have f2 := h6.2.cell (i := 2) rfl; have f3 := h6.2.cell (i := 3) rfl; have f4 := h6.2.cell (i := 4) rfl; have H6 := hid h6; clear h6)
              | (go_at_call 18; refine (HC2.out _ H6.out).mono ?_; rintro e w7 ⟨rfl, h7⟩; have g2 := h7.2.cell (i := 2) rfl; have g3 := h7.2.cell (i := 3) rfl; have g4 := h7.2.cell (i := 4) rfl; have H7 := hid h7; clear h7))
          all_goals
            go_wp2_with fail
            go_meet
            exact ⟨p, g, c, h, rfl, rfl, rfl, _, _, H7.out⟩
        have k4b : (o.kind == 4) = false := by simp [k4]
        by_cases k5 : o.kind = 5
        · have k5b : (o.kind == 5) = true := by simp [k5]
          have HC1 := hid (fun (q : Nat) => (HDB.out.drewN q).blocks o.b1 o.b2 o.n)
          have HC2 := hid (fun V (hV : DB w V p g c h x y ob o asks asks T long s s) => hV.rblocks o.b1 o.b2 o.n)
          generalize decide (Blocked (s.1, s.2.1) (o.b1, o.b2) s.2.2 o.n) = D at *
          have hD : (D == D) = true := by simp
          go_wp2_with fail
          go_region_held3 (fun V => V.cell? ⟨ob, 2, none⟩ = some (.int .i64 o.n) ∧ V.cell? ⟨ob, 3, none⟩ = some (.int .i64 o.b1) ∧ V.cell? ⟨ob, 4, none⟩ = some (.int .i64 o.b2)) (first | (refine ⟨?_, ?_, ?_⟩ <;> assumption) | go_keep)
            (first
              | (go_at_call 19; refine (HC1.out _).mono ?_; rintro e w6 ⟨rfl, h6⟩; have f2 := h6.2.cell (i := 2) rfl; have f3 := h6.2.cell (i := 3) rfl; have f4 := h6.2.cell (i := 4) rfl; have H6 := hid h6; clear h6)
              | (go_at_call 20; refine (HC2.out _ H6.out).mono ?_; rintro e w7 ⟨rfl, h7⟩; have g2 := h7.2.cell (i := 2) rfl; have g3 := h7.2.cell (i := 3) rfl; have g4 := h7.2.cell (i := 4) rfl; have H7 := hid h7; clear h7))
          all_goals
            go_wp2_with fail
            go_meet
            exact ⟨p, g, c, h, rfl, rfl, rfl, _, _, H7.out⟩
        have k5b : (o.kind == 5) = false := by simp [k5]
        by_cases k6 : o.kind = 6
        · have k6b : (o.kind == 6) = true := by simp [k6]
          go_wp2_with fail
          refine (HDB.out.restart o.n).mono ?_
          rintro e w6 ⟨rfl, h6, _⟩
          have f2 := h6.2.cell (i := 2) rfl
          have H6 := hid h6
          clear h6
          go_wp2_with fail
          refine (H6.out.rrestart o.n).mono ?_
          rintro e w7 ⟨rfl, h7⟩
          have H7 := hid h7
          clear h7
          go_wp2_with fail
          go_meet
          exact ⟨p, g, c, h, rfl, rfl, rfl, _, _, H7.out⟩
        have k6b : (o.kind == 6) = false := by simp [k6]
        by_cases k7 : o.kind = 7
        · have k7b : (o.kind == 7) = true := by simp [k7]
          go_wp2_with fail
          refine HDB.out.forks.mono ?_
          rintro e w6 ⟨p', g', c', rfl, h6⟩
          have H6 := hid h6
          clear h6
          go_wp2_with fail
          refine H6.out.mono ?_
          rintro e w7 ⟨h', rfl, h7⟩
          have H7 := hid h7
          clear h7 H6
          go_wp2_with fail
          refine H7.out.clear.mono ?_
          rintro e w8 ⟨rfl, h8⟩
          have H8 := hid h8
          clear h8 H7
          go_wp2_with fail
          refine (H8.out.restart _).mono ?_
          rintro e w9 ⟨rfl, h9⟩
          have H9 := hid h9
          clear h9 H8
          go_wp2_with fail
          go_meet
          exact ⟨p', g', c', h', rfl, rfl, rfl, _, _, H9.out⟩
        have k7b : (o.kind == 7) = false := by simp [k7]
        go_wp2_with fail
        go_meet
        exact ⟨p, g, c, h, rfl, rfl, rfl, _, _, HDB.out⟩
      case rest =>
        obtain ⟨p, g, c, h, rfl, rfl, rfl, HE⟩ := hcut
        clear HDB d0 d1 d2 d3 d4
        obtain ⟨asks2, s2, hdb⟩ := HE.out
        have HU := hid (fun (q : Nat) => hdb.until' q)
        have y3 := hdb.1.rh.blk.cell (i := 3) rfl
        have HF : Hid (∀ q, DE w (wc.drewN q) p g c h x y T long) := (fun q => ⟨asks2, s2, (hdb.drewN q).1⟩)
        clear hdb HE
        obtain ⟨u, hu⟩ : ∃ u, u = s2.2.2 := ⟨_, rfl⟩
        rw [← hu] at HU y3
        have hb : (u != u) = false := by simp
        clear hu
        go_wp2_with fail
        go_quiet (first | (go_at_call 25; refine Calls.quiet_of_same (HU.out _)))
        go_wp2_with fail
        go_roundg (n - (k + 1))
        case measure => omega
        case rel => exact ⟨k + 1, p, g, c, h, by omega, by omega, rfl, rfl, by go_num, HF.out _⟩
    · have hlt' : ¬ (k : Int) < (n : Int) := by omega
      have HB : Hid (Below w.heap.size w wr) := by obtain ⟨_, _, hs⟩ := HS.out; exact hs.bel
      go_wp2
      go_ret
      exact ⟨rfl, HB.out⟩

theorem leaseDoes_walk (nodes long drift : Int) (ao : Option Addr) (cap : Nat) (os : List OpV) (w : World) (_ : -9223372036854775808 ≤ nodes ∧ nodes ≤ 9223372036854775807) (_ : -9223372036854775808 ≤ long ∧ long ≤ 9223372036854775807) (_ : -9223372036854775808 ≤ drift ∧ drift ≤ 9223372036854775807) (ho : HeldO w ao os) (hn : os.length ≤ 140737488355328) :
    Calls Try.prog 3 #[.int .i64 nodes, .int .i64 long, .int .i64 drift, .slice ao os.length cap] w fun e w' => e = .returned (.bool true) ∧ Below w.heap.size w w' := by
  by_cases hg : (1 ≤ nodes ∧ nodes ≤ 7) ∧ (1 ≤ long ∧ long ≤ 1048576) ∧ 0 ≤ drift ∧ drift ≤ 999
  · obtain ⟨k, rfl⟩ : ∃ k : Nat, nodes = (k : Int) := ⟨nodes.toNat, by omega⟩
    exact does21_good k long drift ao cap os ho hn (by omega) hg.2.1 hg.2.2
  · exact does21_bad nodes long drift ao cap os.length hg
end Go.Proofs.Ytmceffndnofgfaa
