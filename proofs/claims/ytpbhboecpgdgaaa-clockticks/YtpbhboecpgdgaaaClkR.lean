/-
  pannierlaw05.ClockTicks answers true at every input.
-/
import Derived.Test.YtpbhboecpgdgaaaClkQ
namespace Go.Proofs.Ytpbhboecpgdgaaa
open Go.RowKit Go.Maps

theorem lives_after {w w1 : World} {p g n : Nat} {now : List Int} {t s : Int} (h : ClkAt w p g n now t s) (hb : Below w.heap.size w w1) : ClkAt w1 p g n now t s := h.below hb (Nat.le_refl _)

set_option maxRecDepth 100000 in
theorem ticks_bad (nodes : Int) (ao : Option Addr) (cap n : Nat) (r nd : Int) (w : World) (hbad : ¬ (1 ≤ nodes ∧ nodes ≤ 7)) :
    Calls Try.prog 3 #[.int .i64 nodes, .slice ao n cap, .int .i64 r, .int .i64 nd] w fun e w' => e = .returned (.bool true) ∧ Below w.heap.size w w' := by
  have H1 := hid (new_bad w nodes hbad)
  have H2 := hid (rnew_bad w nodes (by omega))
  clear hbad
  go_enter Try.func3, Try.ntmps3
  go_wp2_with fail
  refine H1.out.mono ?_
  rintro e w' ⟨rfl, rfl⟩
  go_wp2_with fail
  refine H2.out.mono ?_
  rintro e w' ⟨rfl, rfl⟩
  go_wp2_with fail
  refine (lives_any _).mono ?_
  rintro e w1 ⟨rfl, hb⟩
  have HB := hid hb
  clear hb
  go_wp2
  go_ret
  exact ⟨rfl, HB.out⟩

set_option maxRecDepth 100000 in
set_option maxHeartbeats 4000000 in
theorem ticks_good (nodes : Nat) (ao : Option Addr) (cap : Nat) (tk : List TickV) (r nd : Int) (w : World) (hnd : 1 ≤ nodes ∧ nodes ≤ 7) (ho : HeldTk w ao tk) (hb : tk.length ≤ 4398046511103) (hi : ∀ t ∈ tk, t.on.length ≤ 17592186044416) :
    Calls Try.prog 3 #[.int .i64 (nodes : Int), .slice ao tk.length cap, .int .i64 r, .int .i64 nd] w fun e w' => e = .returned (.bool true) ∧ Below w.heap.size w w' := by
  have HO := hid ho
  have HI := hid hi
  have HND := hid hnd
  obtain ⟨n, hn⟩ : ∃ n, n = tk.length := ⟨_, rfl⟩
  have HN := hid hn
  rw [← hn] at hb ⊢
  clear ho hi hn hnd
  go_enter Try.func3, Try.ntmps3
  go_wp2_with fail
  refine (new_good w nodes HND.out).mono ?_
  rintro e w1 ⟨rfl, hc, hb1⟩
  have HC := hid hc
  have HB1 := hid hb1
  clear hc hb1
  go_wp2_with fail
  refine (rnew_good w1 nodes HND.out).mono ?_
  rintro e w2 ⟨rfl, hr, hb2⟩
  have HR := hid hr
  have HB2 := hid hb2
  clear hr hb2
  obtain ⟨p, hp⟩ : ∃ p, p = w.heap.size + 1 := ⟨_, rfl⟩
  obtain ⟨g, hg⟩ : ∃ g, g = w.heap.size := ⟨_, rfl⟩
  obtain ⟨x, hx⟩ : ∃ x, x = w1.heap.size := ⟨_, rfl⟩
  rw [← hp, ← hg] at HC
  rw [← hx] at HR
  rw [← hp, ← hx]
  have HP : Hid (w.heap.size ≤ p ∧ w.heap.size ≤ g ∧ w.heap.size ≤ x) := (by have := HB1.out.size; omega : w.heap.size ≤ p ∧ w.heap.size ≤ g ∧ w.heap.size ≤ x)
  clear hp hg hx
  go_wp2_with fail
  refine (lives_any _).mono ?_
  rintro e w3 ⟨rfl, hb3⟩
  have HS : Hid (∃ v now time need ts, CS w w3 nodes p g nodes x v now time need ts ∧ ts.length ≤ 0) := ⟨_, _, _, _, [], CS.start HC.out HR.out HB1.out HB2.out hb3 HP.out, Nat.le_refl _⟩
  clear hb3 HC HR HB1 HB2 HP
  go_wp2
  go_loopg [9, 13, 14, 15] n (fun gg s9 s13 _ _ wr => ∃ (k p g cp : Nat), k ≤ n ∧ n - k ≤ gg ∧ s9 = .pointer (some ⟨p, 0, none⟩) ∧ s13 = .int .i64 k ∧ Hid (∃ v now time need ts, CS w wr nodes p g cp x v now time need ts ∧ ts.length ≤ k))
  case atStart => exact ⟨0, p, g, nodes, by omega, by omega, rfl, rfl, HS⟩
  case round =>
    clear HS
    obtain ⟨k, p, g, cp, hk, hgg, rfl, rfl, HS⟩ := hrel
    by_cases hlt : k < n
    · have hlt' : (k : Int) < (n : Int) := by omega
      have hkx : Hid (k < tk.length) := (by have := HN.out; omega : k < tk.length)
      obtain ⟨b, off, rfl, hbw⟩ := HO.out.at hkx.out
      obtain ⟨X, hX⟩ : ∃ X, X = tk[k]'hkx.out := ⟨_, rfl⟩
      have HOL : Hid (X.on.length ≤ 17592186044416) := hX ▸ HI.out _ (List.getElem_mem hkx.out)
      have HG : Hid (∀ W, Below w.heap.size w W → W.cell? ⟨b, off + k * 2, none⟩ = some (.int .i64 X.time) ∧ W.cell? ⟨b, off + k * 2 + 1, none⟩ = some (.slice X.ao X.on.length X.cap) ∧ HeldInt W X.ao X.on ∧ (∀ b' off', X.ao = some ⟨b', off', none⟩ → X.on ≠ [] → b' < w.heap.size) ∧ In64 X.time) := by
        intro W hW
        rw [hX]
        exact HO.out.get hW hkx.out
      clear hX
      obtain ⟨v, now, time, need, ts, hcs, htl⟩ := HS.out
      have HCS := hid hcs
      have HTL := hid htl
      obtain ⟨x0, x1, hhe, _, _⟩ := HG.out wr hcs.bel
      have HHE := hid hhe
      obtain ⟨_, z1, _⟩ := HG.out (wr.alloc (.cells #[] 3)) (hcs.bel.alloc hcs.bel.size _)
      clear hcs htl hhe HS
      have hol : X.on.length ≤ 17592186044416 := HOL.out
      go_upto_if 57 with (at_builtin; refine wpList_append_copy wr rfl _ _ rfl rfl _ _ _ rfl HHE.out hol ?_; intro bo bc w4 _ hown4 hfar4 hb4)
      have HCS4 : Hid (CS w w4 nodes p g cp x v now time need ts ∧ HeldInt w4 bo X.on ∧ (∀ b' off', bo = some ⟨b', off', none⟩ → X.on ≠ [] → ¬ CFoot p g b') ∧ ∀ b' off', bo = some ⟨b', off', none⟩ → X.on ≠ [] → ¬ (b' = x ∨ v.ownBlock = some b')) := ⟨HCS.out.grow hb4, hown4, fun b' off' e _ hf => by
        have h1 := hfar4 b' off' e
        have h2 := HCS.out.clk.lt
        rcases hf with h | h <;> omega, fun b' off' e _ hf => by
        have h1 := hfar4 b' off' e
        rcases hf with h | h
        · have h2 := HCS.out.rf.blk.lt
          omega
        · have h2 := ownsRow_lt HCS.out.rf.row h
          omega⟩
      clear hown4 hfar4 hb4 HCS HHE x0 x1 z1 hol
      go_cut [9] from 42 to 110 (fun s9 wx => ∃ p' g' cp' : Nat, s9 = .pointer (some ⟨p', 0, none⟩) ∧ Hid (CS w wx nodes p' g' cp' x v now time need ts ∧ HeldInt wx bo X.on ∧ (∀ b' off', bo = some ⟨b', off', none⟩ → X.on ≠ [] → ¬ CFoot p' g' b') ∧ ∀ b' off', bo = some ⟨b', off', none⟩ → X.on ≠ [] → ¬ (b' = x ∨ v.ownBlock = some b')))
      case first =>
        have hmk := run_make_row' (P := Try.prog) 31 3 (.int .i64 0) 8 Try.underlying31 Try.infoInt rfl .i64 .i64 nodes (by have := HND.out; omega) (by have := HND.out; omega)
        have HFK := hid (fork_any HCS4.out.1.clk)
        by_cases h7 : (k : Int) % 7 = 3
        · have b7 : ((k : Int) % 7 == 3) = true := by simp [h7]
          go_wp2_with fail
          refine HFK.out.mono ?_
          rintro e w5 ⟨p', g', cp', rfl, hk5, hpg5, hb5⟩
          have HK5 := hid hk5
          have HPG5 := hid hpg5
          have HB5 := hid hb5
          clear hk5 hpg5 hb5
          go_wp2_with fail
          have hcs : madeCells #[Value.int .i64 0] nodes = (ints (List.replicate nodes 0)).toArray := by
            apply Array.ext'
            rw [toList_madeCells_one]
            simp [ints]
          rw [hcs]
          have hln : (List.replicate nodes (0 : Int)).length = nodes := by simp
          have HTT := hid (tick_turns (HCS4.out.1.clk.below (HB5.out.alloc HB5.out.size (.cells (ints (List.replicate nodes 0)).toArray 3)) (Nat.le_refl _)) 1 (some ⟨w5.heap.size, 0, none⟩) nodes (List.replicate nodes 0) (HeldInt.new w5 (List.replicate nodes 0) (fun y hy => by have := List.eq_of_mem_replicate hy; omega)) (by rw [hln]; have := HND.out; omega) (fun b' off' e _ hf => by
            cases e
            have h1 := HCS4.out.1.clk.lt
            have h2 := HB5.out.size
            rcases hf with h | h <;> omega))
          rw [hln] at HTT
          refine HTT.out.mono ?_
          rintro e w6 ⟨z6, rfl, ht6⟩
          have HS6 : Hid (CS w w6 nodes p' g' cp' x v now time need ts ∧ HeldInt w6 bo X.on ∧ (∀ b' off', bo = some ⟨b', off', none⟩ → X.on ≠ [] → ¬ CFoot p' g' b') ∧ ∀ b' off', bo = some ⟨b', off', none⟩ → X.on ≠ [] → ¬ (b' = x ∨ v.ownBlock = some b')) := by
            refine ⟨HCS4.out.1.forked HK5.out HPG5.out HB5.out _ ht6, ((HCS4.out.2.1.below HB5.out).below ((Below.refl _ _).alloc (Nat.le_refl _) _)).turned ht6 HCS4.out.2.2.1, fun b' off' e hne hf => ?_, HCS4.out.2.2.2⟩
            rcases HCS4.out.2.1.2 with h0 | ⟨b2, off2, e2, hb2, _⟩
            · exact hne h0
            · rw [e] at e2
              cases e2
              have h3 := HPG5.out
              rcases hf with h | h <;> omega
          clear ht6
          go_wp2_with fail
          go_meet
          exact ⟨p', g', cp', rfl, HS6⟩
        · have b7 : ((k : Int) % 7 == 3) = false := by simp [h7]
          go_wp2_with fail
          go_meet
          exact ⟨p, g, cp, rfl, HCS4⟩
      case rest =>
        obtain ⟨p2, g2, cp2, rfl, HS5⟩ := hcut
        clear HCS4
        obtain ⟨x0, x1, hhe, _, _⟩ := HG.out wc HS5.out.1.bel
        obtain ⟨Z, hZ⟩ : ∃ Z, Z = tcode now time X.time X.on := ⟨_, rfl⟩
        obtain ⟨D, hD⟩ : ∃ D, D = decide (KeepsAll X.time X.on r) := ⟨_, rfl⟩
        have HT1 : Hid (∀ q, Calls Try.prog 12 #[.pointer (some ⟨p2, 0, none⟩), .int .i64 X.time, .slice bo X.on.length bc] (wc.drewN q) fun e w' => e = .returned (.int .i64 Z) ∧ CMid w w' nodes p2 g2 cp2 x v now time need ts X.time X.on ∧ HeldInt w' bo X.on) := by
          intro q
          refine ((HS5.out.1.drewN q).tick1 X.time bo bc X.on ⟨HS5.out.2.1.1, HS5.out.2.1.2⟩ (by have := HOL.out; omega) HS5.out.2.2.1).mono ?_
          rintro e w' ⟨he, hm, ht⟩
          exact ⟨by rw [hZ]; exact he, hm, HeldInt.turned (w := wc.drewN q) ⟨HS5.out.2.1.1, HS5.out.2.1.2⟩ ht HS5.out.2.2.1⟩
        have HT2 : Hid (∀ W, CMid w W nodes p2 g2 cp2 x v now time need ts X.time X.on → HeldInt W bo X.on → Calls Try.prog 13 #[.pointer (some ⟨x, 0, none⟩), .int .i64 X.time, .slice X.ao X.on.length X.cap] W fun e w' => e = .returned (.int .i64 Z) ∧ CEnd w w' nodes p2 g2 cp2 x (k + 1) ∧ HeldInt w' bo X.on) := by
          intro W hm hh
          refine (hm.tick2 (by have := HTL.out; have := HN.out; omega) X.ao X.cap (HG.out W hm.below).2.2.1).mono ?_
          rintro e w' ⟨he, ⟨v', now', time', need', ts', hcs', hl'⟩, ht⟩
          exact ⟨by rw [hZ]; exact he, ⟨v', now', time', need', ts', hcs', by have := HTL.out; omega⟩, hh.turned ht HS5.out.2.2.2⟩
        have HK1 : Hid (∀ W, HeldInt W bo X.on → Calls Try.prog 14 #[.int .i64 X.time, .slice bo X.on.length bc, .int .i64 r] W fun e w' => e = .returned (.bool D) ∧ w' = W) := by
          intro W hh
          rw [hD]
          exact keeps_any W X.time bo bc X.on r hh (by have := HOL.out; omega)
        have HK2 : Hid (∀ W, Below w.heap.size w W → Calls Try.prog 15 #[.int .i64 X.time, .slice X.ao X.on.length X.cap, .int .i64 r] W fun e w' => e = .returned (.bool D) ∧ w' = W) := by
          intro W hW
          rw [hD]
          exact rkeeps_any W X.time X.ao X.cap X.on r (HG.out W hW).2.2.1 (by have := HOL.out; omega)
        have hZ2 : (Z != Z) = false := by simp
        have hD2 : (D != D) = false := by simp
        clear hhe hZ hD
        go_upto_region 17 with fail
        go_cut [110] from 42 to 110 (fun s wx => s = .bool false ∧ Hid (CEnd w wx nodes p2 g2 cp2 x (k + 1)))
        case first =>
          go_region_held3 (fun V => V.cell? ⟨b, off + k * 2, none⟩ = some (.int .i64 X.time) ∧ V.cell? ⟨b, off + k * 2 + 1, none⟩ = some (.slice X.ao X.on.length X.cap)) (first | (refine ⟨?_, ?_⟩ <;> assumption) | go_keep)
            (first
              | (go_at_call 12; refine (HT1.out _).mono ?_; rintro e w9 ⟨rfl, hm9, hh9⟩; obtain ⟨y0, y1, _⟩ := HG.out _ hm9.below; have HM9 := hid hm9; have HH9 := hid hh9; clear hm9 hh9)
              | (go_at_call 13; refine (HT2.out _ HM9.out HH9.out).mono ?_; rintro e w10 ⟨rfl, he10, hh10⟩; have HB10 : Hid (Below w.heap.size w w10) := (by obtain ⟨_, _, _, _, _, h5, _⟩ := he10; exact h5.bel : Below w.heap.size w w10); obtain ⟨v0, v1, _⟩ := HG.out _ HB10.out; have HE10 := hid he10; have HH10 := hid hh10; clear he10 hh10)
              | (go_at_call 14; refine (HK1.out _ HH10.out).mono ?_; rintro e w11 ⟨rfl, rfl⟩)
              | (go_at_call 15; refine (HK2.out _ HB10.out).mono ?_; rintro e w12 ⟨rfl, rfl⟩))
          all_goals
            go_wp2_with fail
            go_meet
            exact ⟨rfl, HE10⟩
        case rest =>
          obtain ⟨rfl, HE⟩ := hcut
          go_wp2_with fail
          go_roundg (n - (k + 1))
          case measure => omega
          case rel => exact ⟨k + 1, p2, g2, cp2, by omega, by omega, rfl, by go_num, HE⟩
    · have hlt' : ¬ (k : Int) < (n : Int) := by omega
      obtain ⟨v, now, time, need, ts, hcs, htl⟩ := HS.out
      have hts : ts.length ≤ 4398046511104 := by omega
      obtain ⟨A, hA⟩ : ∃ A, A = nowOf now nd := ⟨_, rfl⟩
      obtain ⟨B, hB⟩ : ∃ B, B = nowOf now 0 := ⟨_, rfl⟩
      obtain ⟨D, hD⟩ : ∃ D, D = decide ((0 ≤ r ∧ r ≤ 999) ∧ need ≤ r) := ⟨_, rfl⟩
      have HN1 := hid (now_any hcs.clk nd)
      have HN2 := hid (rnow_any hcs.rf hts nd)
      have HN3 := hid (now_any hcs.clk 0)
      have HN4 := hid (rnow_any hcs.rf hts 0)
      have HN5 := hid (time_any hcs.clk)
      have HN6 := hid (rtime_any hcs.rf hts)
      have HN7 := hid (keepsC_any hcs.clk r)
      have HN8 := hid (rkeepsC_any hcs.rf hts r)
      rw [← now_same hcs nd, ← hA] at HN2
      rw [← now_same hcs 0, ← hB] at HN4
      rw [← hA] at HN1
      rw [← hB] at HN3
      rw [← hcs.time_eq] at HN6
      rw [← hD] at HN7
      rw [← keeps_same hcs r, ← hD] at HN8
      have HBE := hid hcs.bel
      have eA : (A == A) = true := by simp
      have eB : (B == B) = true := by simp
      have eT : (time == time) = true := by simp
      have eD : (D == D) = true := by simp
      clear hcs htl hts hA hB hD HS HO HI HN HND
      go_wp2_with fail
      refine HN1.out.mono ?_
      rintro e w' ⟨rfl, rfl⟩
      go_wp2_with fail
      refine HN2.out.mono ?_
      rintro e w' ⟨rfl, rfl⟩
      go_wp2_with fail
      refine HN3.out.mono ?_
      rintro e w' ⟨rfl, rfl⟩
      go_wp2_with fail
      refine HN4.out.mono ?_
      rintro e w' ⟨rfl, rfl⟩
      go_wp2_with fail
      refine HN5.out.mono ?_
      rintro e w' ⟨rfl, rfl⟩
      go_wp2_with fail
      refine HN6.out.mono ?_
      rintro e w' ⟨rfl, rfl⟩
      go_wp2_with fail
      refine HN7.out.mono ?_
      rintro e w' ⟨rfl, rfl⟩
      go_wp2_with fail
      refine HN8.out.mono ?_
      rintro e w8 ⟨rfl, q8, rfl⟩
      go_wp2
      go_ret
      exact ⟨rfl, below_dn HBE.out _⟩

theorem clockTicks_walk (nodes : Int) (ao : Option Addr) (cap : Nat) (tk : List TickV) (r nd : Int) (w : World) (_ : -9223372036854775808 ≤ nodes ∧ nodes ≤ 9223372036854775807) (ho : HeldTk w ao tk) (hb : tk.length ≤ 4398046511103) (hi : ∀ t ∈ tk, t.on.length ≤ 17592186044416) (_ : -9223372036854775808 ≤ r ∧ r ≤ 9223372036854775807) (_ : -9223372036854775808 ≤ nd ∧ nd ≤ 9223372036854775807) :
    Calls Try.prog 3 #[.int .i64 nodes, .slice ao tk.length cap, .int .i64 r, .int .i64 nd] w fun e w' => e = .returned (.bool true) ∧ Below w.heap.size w w' := by
  by_cases hn : 1 ≤ nodes ∧ nodes ≤ 7
  · obtain ⟨k, rfl⟩ : ∃ k : Nat, nodes = (k : Int) := ⟨nodes.toNat, by omega⟩
    exact ticks_good k ao cap tk r nd w (by omega) ho hb hi
  · exact ticks_bad nodes ao cap tk.length r nd w hn
end Go.Proofs.Ytpbhboecpgdgaaa
