/-
  pannierlaw21.LeaseEnds answers true at every input.
-/
import Derived.Test.YtmceffndnofgfaaLeD
namespace Go.Proofs.Ytmceffndnofgfaa
open Go.RowKit Go.Maps

theorem grantL_mem {asks : List Int} {node asked x m : Int} (h : ∀ y ∈ asks, y ≤ m) (hx : x ∈ grantL asks node asked) : x ≤ m ∨ x = asked := by
  unfold grantL at hx
  split at hx
  · rcases List.mem_or_eq_of_mem_set hx with h1 | h1
    · exact .inl (h x h1)
    · exact .inr h1
  · exact .inl (h x hx)
theorem cnt_later {now later T m : Int} {asks : List Int} (hm : ∀ x ∈ asks, x ≤ m) (h1 : m ≤ now) (h2 : now ≤ later) : cntLe later T asks ≤ cntLe now T asks := by
  unfold cntLe
  apply List.countP_mono_left
  intro x hx hf
  have := hm x hx
  simp only [decide_eq_true_eq] at hf ⊢
  unfold Fresh at hf ⊢
  omega
theorem ends_bad {w : World} (nodes long drift : Int) (ao : Option Addr) (cap n : Nat) (now later : Int) (hb : ¬ ((1 ≤ nodes ∧ nodes ≤ 7) ∧ (1 ≤ long ∧ long ≤ 1048576) ∧ 0 ≤ drift ∧ drift ≤ 999)) :
    Calls Try.prog 6 #[.int .i64 nodes, .int .i64 long, .int .i64 drift, .slice ao n cap, .int .i64 now, .int .i64 later] w fun e w' => e = .returned (.bool true) ∧ Below w.heap.size w w' := by
  have H1 := hid (newLe_bad w nodes long drift hb)
  clear hb
  by_cases hl : 1 ≤ long ∧ long ≤ 1048576
  · have H2 := hid (newHd_good w long hl)
    clear hl
    go_enter Try.func6, Try.ntmps6
    go_wp2_with fail
    refine H1.out.mono ?_
    rintro e w' ⟨rfl, rfl⟩
    go_wp2_with fail
    refine H2.out.mono ?_
    rintro e w2 ⟨rfl, _, hb2⟩
    have HB2 := hid hb2
    clear hb2
    go_wp2_with fail
    refine (livesLe _).mono ?_
    rintro e w3 ⟨rfl, hb3⟩
    have HB3 : Hid (Below w'.heap.size w' w3) := HB2.out.trans (hb3.mono HB2.out.size)
    clear hb3
    go_wp2
    go_ret
    exact ⟨rfl, HB3.out⟩
  · have H2 := hid (newHd_bad w long hl)
    clear hl
    go_enter Try.func6, Try.ntmps6
    go_wp2_with fail
    refine H1.out.mono ?_
    rintro e w' ⟨rfl, rfl⟩
    go_wp2_with fail
    refine H2.out.mono ?_
    rintro e w2 ⟨rfl, rfl⟩
    go_wp2_with fail
    refine (livesLe _).mono ?_
    rintro e w3 ⟨rfl, hb3⟩
    have HB3 := hid hb3
    clear hb3
    go_wp2
    go_ret
    exact ⟨rfl, HB3.out⟩

/-- What stands between two rounds. -/
def EndS (w wr : World) (p g c h : Nat) (T l m : Int) : Prop := ∃ asks, LH w wr p g c h asks T l 0 0 0 ∧ (∀ x ∈ asks, x ≤ m) ∧ (-1 ≤ m ∧ m ≤ 9223372036854775807)
set_option maxRecDepth 100000 in
set_option maxHeartbeats 2000000 in
theorem ends_good {w : World} (nodes : Nat) (long drift : Int) (ao : Option Addr) (cap : Nat) (xs : List Int) (now later : Int) (hnn : now ≤ 9223372036854775807) (hll : later ≤ 9223372036854775807) (hx : HeldInt w ao xs) (hn : xs.length ≤ 140737488355328) (h1 : 1 ≤ nodes ∧ nodes ≤ 7) (h2 : 1 ≤ long ∧ long ≤ 1048576) (h3 : 0 ≤ drift ∧ drift ≤ 999) :
    Calls Try.prog 6 #[.int .i64 (nodes : Int), .int .i64 long, .int .i64 drift, .slice ao xs.length cap, .int .i64 now, .int .i64 later] w fun e w' => e = .returned (.bool true) ∧ Below w.heap.size w w' := by
  have HX := hid hx
  have H1 := hid (newLe_good w nodes long drift h1 h2 h3)
  have HL2 := hid h2
  obtain ⟨n, hne⟩ : ∃ n, n = xs.length := ⟨_, rfl⟩
  have HN := hid hne
  have HNN := hid hnn
  have HLL := hid hll
  rw [← hne] at hn ⊢
  clear hx h1 h2 h3 hne hnn hll
  go_enter Try.func6, Try.ntmps6
  go_wp2_with fail
  refine H1.out.mono ?_
  rintro e w1 ⟨p, rfl, g, hp, hg, hls, hb1⟩
  have HLS := hid hls
  have HB1 := hid hb1
  have HP := hid hp
  have HG := hid hg
  clear hls hb1 hp hg
  go_wp2_with fail
  refine (newHd_good w1 long HL2.out).mono ?_
  rintro e w2 ⟨rfl, hhd, hb2⟩
  have H2 : Hid (EndS w w2 p g nodes w1.heap.size (trustOf long drift) long (-1)) := by
    have h1 := HLS.out.lt
    have h2 := HB1.out.size
    exact ⟨_, ⟨HLS.out.below hb2 (Nat.le_refl _), hhd, HB1.out.trans (hb2.mono h2), ⟨HP.out, HG.out, h2⟩, by omega, by omega⟩, fun x hx => by have := List.eq_of_mem_replicate hx; omega, by omega, by omega⟩
  clear hhd hb2 HLS HB1 HP HG
  generalize w1.heap.size = h at *
  generalize trustOf long drift = T at *
  go_wp2_with fail
  refine (livesLe _).mono ?_
  rintro e w3 ⟨rfl, hb3⟩
  have H3 : Hid (EndS w w3 p g nodes h T long (-1)) := by
    obtain ⟨asks, a1, a2, a3⟩ := H2.out
    exact ⟨asks, a1.grow hb3, a2, a3⟩
  clear hb3 H2
  go_wp2
  go_loopw [17, 18] (fun s17 s18 wr => ∃ (k : Nat) (m : Int), k ≤ n ∧ s18 = .int .i64 k ∧ s17 = .int .i64 m ∧ Hid (EndS w wr p g nodes h T long m)) (fun _ i _ => n - (intOf i).toNat)
  case atStart => exact ⟨0, -1, by omega, rfl, rfl, H3⟩
  case round =>
    clear H3
    obtain ⟨k, m, hk, rfl, rfl, HS⟩ := hrel
    by_cases hlt : k < n
    · have hlt' : (k : Int) < (n : Int) := by omega
      have hkx : Hid (k < xs.length) := (by have := HN.out; omega : k < xs.length)
      obtain ⟨asks, hs, hm, hmr⟩ := HS.out
      obtain ⟨b, off, rfl, hc⟩ := (HX.out.below hs.bel).cellAt hkx.out
      have hcell := hc k hkx.out
      have HXR := hid (HX.out.1 _ (getD_mem hkx.out))
      have HHS := hid hs
      have HM := hid hm
      have HMR := hid hmr
      have HXA := hid (fun W (hW : Below w.heap.size w W) => ((HX.out.below hW).2))
      clear hc hs hm hmr HS
      obtain ⟨X, hX⟩ : ∃ X, X = xs.getD k 0 := ⟨_, rfl⟩
      rw [← hX] at hcell HXR
      have HXE := hid hX
      clear hX
      go_wp2_with fail
      refine (HHS.out.grant _ _).mono ?_
      rintro e w4 ⟨rfl, h4⟩
      have hcell4 : w4.cell? ⟨b, off + k, none⟩ = some (.int .i64 X) := by
        rcases HXA.out w4 h4.bel with h0 | ⟨b', off', he, _, hc'⟩
        · have := hkx.out
          rw [h0] at this
          cases this
        · cases he
          rw [HXE.out]
          exact hc' k hkx.out
      have H4 := hid h4
      clear h4 hcell
      by_cases hgt : m < X
      · have HE : Hid (EndS w w4 p g nodes h T long X) := ⟨_, H4.out, fun x hx => by
          rcases grantL_mem HM.out hx with h1 | h1 <;> omega, by have := HMR.out; omega, HXR.out.2⟩
        clear HMR HM HHS H4 HXA HXE HXR
        go_wp2
        go_roundw
        case rel => exact ⟨k + 1, X, by omega, by go_num, rfl, HE⟩
        case measure => simp [intOf]; omega
      · have HE : Hid (EndS w w4 p g nodes h T long m) := ⟨_, H4.out, fun x hx => by
          rcases grantL_mem HM.out hx with h1 | h1 <;> omega, HMR.out⟩
        clear HMR HM HHS H4 HXA HXE HXR
        go_wp2
        go_roundw
        case rel => exact ⟨k + 1, m, by omega, by go_num, rfl, HE⟩
        case measure => simp [intOf]; omega
    · have hlt' : ¬ (k : Int) < (n : Int) := by omega
      obtain ⟨asks, hs, hm, hmr⟩ := HS.out
      have HHS := hid hs
      have HM := hid hm
      have HMR := hid hmr
      clear hs hm hmr HS
      by_cases g1 : now < 0
      · go_wp2
        go_ret
        exact ⟨rfl, HHS.out.bel⟩
      by_cases g2 : 576460752303423488 < now
      · go_wp2
        go_ret
        exact ⟨rfl, HHS.out.bel⟩
      by_cases g3 : later < now
      · go_wp2
        go_ret
        exact ⟨rfl, HHS.out.bel⟩
      by_cases g4 : 1152921504606846976 < later
      · go_wp2
        go_ret
        exact ⟨rfl, HHS.out.bel⟩
      by_cases g5 : 576460752303423488 < m
      · go_wp2
        go_ret
        exact ⟨rfl, HHS.out.bel⟩
      have HTL : Hid (LH w (wr.alloc (.cells #[.int .i64 1, .int .i64 0] 38)) p g nodes h asks T long 0 0 0) := HHS.out.grow ((Below.refl _ _).alloc (Nat.le_refl _) _)
      have HK := hid (Blk.new wr 38 [.int .i64 1, .int .i64 0])
      have HHL := hid HHS.out.hd.blk.lt
      have hw : wrap64 (now + long) = now + long := by have := HL2.out; exact wrapS (by omega) (by omega)
      have HGV : Hid (Gives (0, 0) (1, 0) 0 now) := ⟨by omega, fun hh => by have := hh.1; omega⟩
      have HMX : Hid (max (0 : Int) (now + long) = now + long) := by have := HL2.out; show _ = _; omega
      have hEq : (now + long == now + long) = true := by simp
      have HC1 := hid (fun W (hW : LH w W p g nodes h asks T long 0 0 0) => countsLe_any hW.ls now HNN.out)
      have HC2 := hid (fun W (hW : LH w W p g nodes h asks T long 0 0 0) => countsLe_any hW.ls later HLL.out)
      have HCL : Hid (m ≤ now → cntLe later T asks ≤ cntLe now T asks) := (fun hmn => cnt_later HM.out hmn (by omega) : m ≤ now → cntLe later T asks ≤ cntLe now T asks)
      clear HM HMR H1 HX HN HNN HLL
      have k0 := HK.out.cell (i := 0) rfl
      have k1 := HK.out.cell (i := 1) rfl
      by_cases hmn : m ≤ now
      · by_cases hc1 : quoLe asks.length ≤ cntLe now T asks
        · have HD1 : Hid (decide (quoLe asks.length ≤ cntLe now T asks) = true) := decide_eq_true hc1
          clear hc1
          go_wp2_with fail
          refine (HC1.out _ HHS.out).mono ?_
          rintro e w' ⟨rfl, rfl⟩
          rw [HD1.out]
          clear HD1 HC1 HC2 HCL
          go_wp2_with fail
          refine (HTL.out.gives 1 0 now HGV.out).mono ?_
          rintro e w5 ⟨rfl, h5, ht5⟩
          rw [HMX.out] at h5
          have HK5 := hid (ht5.blk HK.out (by have := HHL.out; omega))
          have H5 := hid h5
          clear h5 ht5 HTL HK HHL k0 k1
          go_wp2_with fail
          refine (untilHd_any H5.out.hd).mono ?_
          rintro e w' ⟨rfl, rfl⟩
          have k0 := HK5.out.cell (i := 0) rfl
          have k1 := HK5.out.cell (i := 1) rfl
          go_wp2_with fail
          refine (H5.out.blocks 1 0 later).mono ?_
          rintro e w6 ⟨rfl, h6, hb6⟩
          rw [decide_eq_false (fun (hh : Blocked (1, 0) (1, 0) (now + long) later) => hh.2 rfl)]
          have H6 := hid h6
          clear h6 hb6 H5 HK5 k0 k1
          by_cases hlt : later < now + long
          · have HBT : Hid (decide (Blocked (1, 0) (2, 0) (now + long) later) = true) := decide_eq_true ⟨hlt, by simp⟩
            go_wp2_with fail
            refine (H6.out.blocks 2 0 later).mono ?_
            rintro e w8 ⟨rfl, h8, hb8⟩
            rw [HBT.out]
            have H8 := hid h8.bel
            clear h8 hb8 H6
            go_wp2
            go_ret
            exact ⟨rfl, H8.out⟩
          · have HBT : Hid (decide (Blocked (1, 0) (2, 0) (now + long) later) = false) := decide_eq_false (fun hh => hlt hh.1)
            go_wp2_with fail
            refine (H6.out.blocks 2 0 later).mono ?_
            rintro e w8 ⟨rfl, h8, hb8⟩
            rw [HBT.out]
            have H8 := hid h8.bel
            clear h8 hb8 H6
            go_wp2
            go_ret
            exact ⟨ret_bool (by simp; omega), H8.out⟩
        · have HC2F : Hid (decide (quoLe asks.length ≤ cntLe later T asks) = false) := decide_eq_false (fun hh => hc1 (Int.le_trans hh (by have := HCL.out hmn; omega)))
          have HD1 : Hid (decide (quoLe asks.length ≤ cntLe now T asks) = false) := decide_eq_false hc1
          clear hc1
          go_wp2_with fail
          refine (HC1.out _ HHS.out).mono ?_
          rintro e w' ⟨rfl, rfl⟩
          rw [HD1.out]
          go_wp2_with fail
          refine (HC2.out _ HHS.out).mono ?_
          rintro e w' ⟨rfl, rfl⟩
          rw [HC2F.out]
          clear HD1 HC1 HC2 HCL HC2F
          go_wp2_with fail
          refine (HTL.out.gives 1 0 now HGV.out).mono ?_
          rintro e w5 ⟨rfl, h5, ht5⟩
          rw [HMX.out] at h5
          have HK5 := hid (ht5.blk HK.out (by have := HHL.out; omega))
          have H5 := hid h5
          clear h5 ht5 HTL HK HHL k0 k1
          go_wp2_with fail
          refine (untilHd_any H5.out.hd).mono ?_
          rintro e w' ⟨rfl, rfl⟩
          have k0 := HK5.out.cell (i := 0) rfl
          have k1 := HK5.out.cell (i := 1) rfl
          go_wp2_with fail
          refine (H5.out.blocks 1 0 later).mono ?_
          rintro e w6 ⟨rfl, h6, hb6⟩
          rw [decide_eq_false (fun (hh : Blocked (1, 0) (1, 0) (now + long) later) => hh.2 rfl)]
          have H6 := hid h6
          clear h6 hb6 H5 HK5 k0 k1
          by_cases hlt : later < now + long
          · have HBT : Hid (decide (Blocked (1, 0) (2, 0) (now + long) later) = true) := decide_eq_true ⟨hlt, by simp⟩
            go_wp2_with fail
            refine (H6.out.blocks 2 0 later).mono ?_
            rintro e w8 ⟨rfl, h8, hb8⟩
            rw [HBT.out]
            have H8 := hid h8.bel
            clear h8 hb8 H6
            go_wp2
            go_ret
            exact ⟨rfl, H8.out⟩
          · have HBT : Hid (decide (Blocked (1, 0) (2, 0) (now + long) later) = false) := decide_eq_false (fun hh => hlt hh.1)
            go_wp2_with fail
            refine (H6.out.blocks 2 0 later).mono ?_
            rintro e w8 ⟨rfl, h8, hb8⟩
            rw [HBT.out]
            have H8 := hid h8.bel
            clear h8 hb8 H6
            go_wp2
            go_ret
            exact ⟨ret_bool (by simp; omega), H8.out⟩
      · clear HC1 HC2 HCL
        go_wp2_with fail
        refine (HTL.out.gives 1 0 now HGV.out).mono ?_
        rintro e w5 ⟨rfl, h5, ht5⟩
        rw [HMX.out] at h5
        have HK5 := hid (ht5.blk HK.out (by have := HHL.out; omega))
        have H5 := hid h5
        clear h5 ht5 HTL HK HHL k0 k1
        go_wp2_with fail
        refine (untilHd_any H5.out.hd).mono ?_
        rintro e w' ⟨rfl, rfl⟩
        have k0 := HK5.out.cell (i := 0) rfl
        have k1 := HK5.out.cell (i := 1) rfl
        go_wp2_with fail
        refine (H5.out.blocks 1 0 later).mono ?_
        rintro e w6 ⟨rfl, h6, hb6⟩
        rw [decide_eq_false (fun (hh : Blocked (1, 0) (1, 0) (now + long) later) => hh.2 rfl)]
        have H6 := hid h6
        clear h6 hb6 H5 HK5 k0 k1
        by_cases hlt : later < now + long
        · have HBT : Hid (decide (Blocked (1, 0) (2, 0) (now + long) later) = true) := decide_eq_true ⟨hlt, by simp⟩
          go_wp2_with fail
          refine (H6.out.blocks 2 0 later).mono ?_
          rintro e w8 ⟨rfl, h8, hb8⟩
          rw [HBT.out]
          have H8 := hid h8.bel
          clear h8 hb8 H6
          go_wp2
          go_ret
          exact ⟨rfl, H8.out⟩
        · have HBT : Hid (decide (Blocked (1, 0) (2, 0) (now + long) later) = false) := decide_eq_false (fun hh => hlt hh.1)
          go_wp2_with fail
          refine (H6.out.blocks 2 0 later).mono ?_
          rintro e w8 ⟨rfl, h8, hb8⟩
          rw [HBT.out]
          have H8 := hid h8.bel
          clear h8 hb8 H6
          go_wp2
          go_ret
          exact ⟨ret_bool (by simp; omega), H8.out⟩

theorem leaseEnds_walk (nodes long drift : Int) (ao : Option Addr) (cap : Nat) (xs : List Int) (now later : Int) (w : World) (_ : -9223372036854775808 ≤ nodes ∧ nodes ≤ 9223372036854775807) (_ : -9223372036854775808 ≤ long ∧ long ≤ 9223372036854775807) (_ : -9223372036854775808 ≤ drift ∧ drift ≤ 9223372036854775807) (hx : HeldInt w ao xs) (hn : xs.length ≤ 140737488355328) (hnow : -9223372036854775808 ≤ now ∧ now ≤ 9223372036854775807) (hlat : -9223372036854775808 ≤ later ∧ later ≤ 9223372036854775807) :
    Calls Try.prog 6 #[.int .i64 nodes, .int .i64 long, .int .i64 drift, .slice ao xs.length cap, .int .i64 now, .int .i64 later] w fun e w' => e = .returned (.bool true) ∧ Below w.heap.size w w' := by
  by_cases hg : (1 ≤ nodes ∧ nodes ≤ 7) ∧ (1 ≤ long ∧ long ≤ 1048576) ∧ 0 ≤ drift ∧ drift ≤ 999
  · obtain ⟨k, rfl⟩ : ∃ k : Nat, nodes = (k : Int) := ⟨nodes.toNat, by omega⟩
    exact ends_good k long drift ao cap xs now later hnow.2 hlat.2 hx hn (by omega) hg.2.1 hg.2.2
  · exact ends_bad nodes long drift ao cap xs.length now later hg
end Go.Proofs.Ytmceffndnofgfaa
