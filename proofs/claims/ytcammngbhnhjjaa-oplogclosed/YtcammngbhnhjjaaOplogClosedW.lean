/-
  pannierlaw10.OplogClosed answers true for any events.
-/
import Derived.Test.YtcammngbhnhjjaaClosM
namespace Go.Proofs.Ytcammngbhnhjjaa
open Go.RowKit Go.Shelf Go.Maps
attribute [local go_sem] Oper.semAt_some
attribute [local go_sem] undef

set_option maxRecDepth 1000000 in
set_option maxHeartbeats 8000000 in
theorem oplogClosed_walk (ao : Option Addr) (ca : Nat) (xs : List EvM) (w : World) (hx : HeldE w ao xs) (hl0 : xs.length ≤ 1466015503701) :
    Calls Try.prog 3 #[.slice ao xs.length ca] w fun e w' => e = .returned (.bool true) ∧ Below w.heap.size w w' := by
  refine (callsIn_wide (n := 5)).1 ?_
  obtain ⟨n, HN⟩ : ∃ n, Hid (xs.length = n) := ⟨_, hid rfl⟩
  rw [HN.out] at hl0 ⊢
  have HX := hid hx
  clear hx
  refine callsIn_of_wp_marks Try.func3 rfl trivial ?_ rfl
  simp only [Try.ntmps3, List.size_toArray, List.length_cons, List.length_nil, Nat.reduceAdd, Nat.reduceSub, Array.replicate_succ, Array.replicate_zero, List.push_toArray, List.append_toArray, List.nil_append, List.cons_append]
  refine wpIn_wide.2 ?_
  obtain ⟨W0, hW0⟩ : ∃ W0, W0 = w.alloc (.cells #[.bool false] 4) := ⟨_, rfl⟩
  have HB0 : Hid (Below w.heap.size w W0) := by rw [hW0]; exact (Below.refl _ _).alloc (Nat.le_refl _) _
  have HR0 : Hid (Blk W0 w.heap.size 4 [.bool false]) := by rw [hW0]; exact Blk.new w _ _
  have HW0 := hid hW0
  clear hW0
  go_wp2_with fail
  rw [← HW0.out]
  refine (newL_any W0).mono ?_
  rintro e w1 ⟨p, me, mw, rfl, hl, hf, hb⟩
  have HL1 := hid hl
  have HF1 := hid hf
  have HB1 := hid hb
  clear hl hf hb
  go_wp2_with fail
  refine (lives10_any w1).mono ?_
  rintro e w2 ⟨rfl, hb⟩
  have HCS : Hid (CS w w.heap.size p me mw w2.heap.size emptyLg [] none 0 (w2.alloc (.cells #[.slice none 0 0] 26))) := by
    have hb2 := bt HB1.out hb
    have hb3 : Below w2.heap.size w2 (w2.alloc (.cells #[.slice none 0 0] 26)) := (Below.refl _ _).alloc (Nat.le_refl _) _
    have hlow : ∀ i, FootL p me mw i → w.heap.size + 1 ≤ i := fun i hi => Nat.le_trans (show w.heap.size + 1 ≤ W0.heap.size from HR0.out.lt) (HF1.out i hi)
    refine ⟨(HR0.out.below (bt hb2 hb3) HR0.out.lt), (HL1.out.below hb).below hb3, Blk.new w2 _ _, ⟨⟨fun x hx => (by cases hx), .inl rfl⟩, Nat.le_refl _, Nat.zero_le _⟩, fun _ _ _ h => absurd rfl h, fun hh => by have := hlow _ hh; omega, fun hh => by have := (HL1.out.below hb).lt _ hh; omega, fun i hi => by have := hlow i hi; omega, Nat.le_refl _, ?_, bt (bt HB0.out hb2) hb3⟩
    exact Nat.le_trans HB0.out.size hb2.size
  obtain ⟨r0, hr0⟩ : ∃ r, r = w.heap.size := ⟨_, rfl⟩
  obtain ⟨bn, hbn⟩ : ∃ r, r = w2.heap.size := ⟨_, rfl⟩
  have HCS1 : Hid (CS w r0 p me mw bn emptyLg [] none 0 (w2.alloc (.cells #[.slice none 0 0] 26))) := by rw [hr0, hbn]; exact HCS.out
  rw [← hr0]
  go_wp2
  rw [← hbn]
  have HRR := hid hr0
  clear hb hr0 hbn HCS
  try simp only [undef]
  go_loopw [5, 6, 7, 8] (fun i _ _ _ wz => ∃ (k : Nat) (g : Lg) (no : Option Addr) (nc : Nat), k ≤ n ∧ i = .int .i64 k ∧ Hid (CS w r0 p me mw bn g g.A no nc wz ∧ plainOf g.A = g.A)) (fun i _ _ _ _ => n - (intOf i).toNat)
  case atStart => exact ⟨0, emptyLg, none, 0, by omega, rfl, ⟨HCS1.out, rfl⟩⟩
  case round =>
    obtain ⟨k, g, no, nc, hk, rfl, HR⟩ := hrel
    by_cases hlt : k < n
    · have hlt' : (k : Int) < (n : Int) := by omega
      have hkx : Hid (k < xs.length) := (HN.out ▸ hlt : k < xs.length)
      have HXR := hid (HX.out.below HR.out.1.bel)
      obtain ⟨bb, off, rfl, hbb, c0, c1, c2, c3, c4, c5, c6, c7⟩ := HXR.out.at hkx.out
      have HOX := hid (HXR.out.1 _ (List.getElem_mem hkx.out))
      have HPU := hid (put_any HR.out.1.log (xs[k]'hkx.out) HOX.out)
      obtain ⟨X, HXX⟩ : ∃ X, Hid (xs[k]'hkx.out = X) := ⟨_, hid rfl⟩
      rw [HXX.out] at c0 c1 c2 c3 c4 c5 c6 c7 HPU
      obtain ⟨⟨o1, s1, dp, ct, ep, sk, qt, cl⟩, ao1, cap1⟩ := X
      obtain ⟨XN, HXN⟩ : ∃ m, Hid (dp.length = m) := ⟨_, hid rfl⟩
      simp only [EvM.val] at c0 c1 c2 c3 c4 c5 c6 c7 HPU
      rw [HXN.out] at c2 HPU
      -- what Put leaves: a row, an error, a log
      have HPP : Hid (∀ e w', PutP wr p me mw g ⟨o1, s1, dp, ct, ep, sk, qt, cl⟩ e w' → ∃ v c ys g', e = .returned (.tuple #[v, .int .i64 c]) ∧ (c = 0 ∨ ys = []) ∧ RowE wr.heap.size w' v ys ∧ g'.A = addL g.A (ys.map (·.e)) ∧ ReadyL g.A (ys.map (·.e)) ∧ (∀ e ∈ ys.map (·.e), MayE e) ∧ ys.length ≤ 65536 ∧ CS w r0 p me mw bn g' g.A no nc w') := fun e w' hp => by
        have hnil : ∀ V, RowE wr.heap.size V (.slice none 0 0) [] := fun V => ⟨⟨rfl, .inl ⟨rfl, rfl⟩⟩, fun y hy => by cases hy⟩
        cases hp with
        | wrong _ hb => exact ⟨_, _, [], g, rfl, .inr rfl, hnil _, rfl, trivial, fun e he => (by cases he), by simp, HR.out.1.below hb⟩
        | twice _ _ hb => exact ⟨_, _, [], g, rfl, .inr rfl, hnil _, rfl, trivial, fun e he => (by cases he), by simp, HR.out.1.below hb⟩
        | full _ _ _ _ hb => exact ⟨_, _, [], g, rfl, .inr rfl, hnil _, rfl, trivial, fun e he => (by cases he), by simp, HR.out.1.below hb⟩
        | goes _ _ _ _ _ hrow _ hran _ hat => exact ⟨_, _, _, _, rfl, .inl rfl, hrow, hran.A, hran.ready, hran.may, by have h1 := hran.ne; have h2 := hat.1.fewE; rw [List.length_map] at h1; omega, HR.out.1.atG hat⟩
        | waits _ _ _ _ _ _ _ hat => exact ⟨_, _, [], waitG g _, rfl, .inl rfl, hnil _, rfl, trivial, fun e he => (by cases he), by simp, HR.out.1.atG hat⟩
      go_wp2_with fail
      refine HPU.out.mono ?_
      intro e w3 hp3
      obtain ⟨v3, c3', ys, g', rfl, hc0, hrow, hA, hrd, hmy, hyl, hcs⟩ := HPP.out _ _ hp3
      have HCS3 := hid hcs
      have HROW := hid hrow
      have HA3 := hid hA
      have HRD := hid hrd
      have HMY := hid hmy
      obtain ⟨ro, rc, hv3⟩ := own_slice' hrow.row
      subst hv3
      obtain ⟨m, HM⟩ : ∃ m, Hid (ys.length = m) := ⟨_, hid rfl⟩
      have HCM : Hid (c3' = 0 ∨ m = 0) := by
        rcases hc0 with h | h
        · exact .inl h
        · right
          rw [← HM.out, h]
          rfl
      have hm : m ≤ 65536 := by rw [← HM.out]; exact hyl
      rw [HM.out]
      clear hyl hp3 hcs hrow hA hrd hmy hc0 HPU HPP c0 c1 c2 c3 c4 c5 c6 c7
      have hcases : (c3' = 0) ∨ ((c3' == 0) = false ∧ m = 0) := by
        rcases HCM.out with h | h
        · exact .inl h
        · by_cases hz : c3' = 0
          · exact .inl hz
          · exact .inr ⟨by simpa using hz, h⟩
      obtain ⟨B0, hB0⟩ : ∃ B, B = wr.heap.size := ⟨_, rfl⟩
      have HROW3 : Hid (RowE B0 w3 (.slice ro m rc) ys) := by have := HROW.out; rw [HM.out, ← hB0] at this; exact this
      clear hB0
      rcases hcases with rfl | ⟨hcb, hm0⟩
      · go_wp2
        try simp only [undef]
        go_loopw [8] (fun c wz => ∃ (j : Nat) (no' : Option Addr) (nc' : Nat), j ≤ m ∧ c = .int .i64 j ∧ Hid (CS w r0 p me mw bn g' (addL g.A ((ys.map (·.e)).take j)) no' nc' wz ∧ RowE B0 wz (.slice ro m rc) ys)) (fun c _ => m - (intOf c).toNat)
        case atStart => exact ⟨0, no, nc, by omega, rfl, ⟨by simpa [addL] using HCS3.out, HROW3.out⟩⟩
        case round =>
          obtain ⟨j, no', nc', hj, rfl, HJ⟩ := hrel
          obtain ⟨Aj, hAj⟩ : ∃ A, A = addL g.A ((ys.map (·.e)).take j) := ⟨_, rfl⟩
          rw [← hAj] at HJ
          obtain ⟨AL, HAL⟩ : ∃ l, Hid (Aj.length = l) := ⟨_, hid rfl⟩
          have cbn := HJ.out.1.box.cell (i := 0) rfl
          rw [HAL.out] at cbn
          by_cases hjl : j < m
          · have hjl' : (j : Int) < (m : Int) := by omega
            have hjx : Hid (j < ys.length) := (by rw [HM.out]; exact hjl : j < ys.length)
            have hje : Hid (j < (ys.map (·.e)).length) := (by rw [List.length_map]; exact hjx.out : j < (ys.map (·.e)).length)
            obtain ⟨ao3, cap3, he3, _, hh3⟩ := heldE_of_own HM.out (by have := HJ.out.2.row; rw [HM.out] at this; exact this) (fun y hy => (HJ.out.2.keep y hy).ok)
            cases he3
            obtain ⟨gb, goff, rfl, hgb, d0, d1, d2, _⟩ := hh3.at hjx.out
            have HRE := hid (readyL_at hje.out HRD.out)
            have HME := hid (HMY.out _ (List.getElem_mem hje.out))
            have HNX := hid (addL_take (A := g.A) hje.out)
            rw [List.getElem_map] at HRE HME HNX
            rw [← hAj] at HRE HNX
            have HYO := hid (hh3.1 _ (List.getElem_mem hjx.out))
            obtain ⟨Y, HYY⟩ : ∃ Y, Hid (ys[j]'hjx.out = Y) := ⟨_, hid rfl⟩
            rw [HYY.out] at d0 d1 d2 HRE HME HNX HYO
            obtain ⟨⟨yo, yss, yd, yct, yep, ysk, yqt, ycl⟩, yao, ycap⟩ := Y
            obtain ⟨YN, HYN⟩ : ∃ m, Hid (yd.length = m) := ⟨_, hid rfl⟩
            simp only at d0 d1 d2
            rw [HYN.out] at d2
            have HRE1 : Hid (yss = ofV Aj yo + 1) := HRE.out.1
            have HRE2 : Hid (BelowV yd Aj) := HRE.out.2
            have HFA := hid (rightEv_iff HME.out.1)
            have hs1 : 1 ≤ yss := HME.out.2.1
            have hs2 : yss ≤ 2147483647 := HFA.out.s.2
            obtain ⟨z, HZ⟩ : ∃ z, Hid (ofV Aj yo = z) := ⟨_, hid rfl⟩
            have HBE := hid (fun q => below_any (wr.drewN q) yao no' ycap nc' yd Aj YN AL HYN.out HAL.out (HYO.out.deps.dn q) (HJ.out.1.vec.dn q))
            have HOF := hid (fun q => of_any (wr.drewN q) no' nc' Aj AL HAL.out yo (HJ.out.1.vec.dn q).held)
            rw [decide_eq_true HRE2.out] at HBE
            rw [HZ.out] at HOF HRE1
            have hz : yss = z + 1 := HRE1.out
            have hwz : wrap64 (z + 1) = z + 1 := wrapS (by omega) (by omega)
            subst hz
            have HAJ := hid hAj
            clear hAj
            go_wp2
            go_quiet (first | (go_at_call 9; refine Calls.quiet_of_same (HBE.out _)) | (go_at_call 10; refine Calls.quiet_of_same (HOF.out _)))
            go_wp2
            obtain ⟨wq, hwq⟩ : ∃ W, W = wr.drewN nq := ⟨_, rfl⟩
            have HBQ : Hid (Below wr.heap.size wr wq) := by rw [hwq]; exact below_dn (Below.refl _ _) _
            have HJ1 : Hid (CS w r0 p me mw bn g' Aj no' nc' wq) := HJ.out.1.below HBQ.out
            have HRW1 : Hid (RowE B0 wq (.slice (some ⟨gb, goff, none⟩) m rc) ys) := HJ.out.2.below HBQ.out
            have HNE : Hid (gb ≠ bn) := fun e => by
              have := HJ1.out.box.not_row (e := 33) (by decide) HRW1.out.row
              exact this (by rw [← e]; rfl)
            have HGB : Hid (gb < wq.heap.size) := Nat.lt_of_lt_of_le hgb HBQ.out.size
            have HD0 : Hid (wq.cell? ⟨gb, goff + j * 8, none⟩ = some (.int .i64 yo)) := (HBQ.out.cell (p := ⟨gb, goff + j * 8, none⟩) hgb).trans d0
            have HD1 : Hid (wq.cell? ⟨gb, goff + j * 8 + 1, none⟩ = some (.int .i64 (z + 1))) := (HBQ.out.cell (p := ⟨gb, goff + j * 8 + 1, none⟩) hgb).trans d1
            rw [← hwq]
            clear hwq cbn d0 d1 d2 hgb hh3 HBE HOF
            obtain ⟨A2, HA2⟩ : ∃ A, Hid (addA Aj ⟨yo, z + 1, yd, yct, yep, ysk, yqt, ycl⟩ = A) := ⟨_, hid rfl⟩
            have HNX2 : Hid (addL g.A ((ys.map (·.e)).take (j + 1)) = A2) := HNX.out.trans HA2.out
            have HWT : Hid (∀ V, Sc wq V → Calls Try.prog 11 #[.slice no' Aj.length nc', .int .i64 yo, .int .i64 (z + 1)] V fun e w' => ∃ bo cp, e = .returned (.tuple #[.slice bo A2.length cp, .int .i64 0]) ∧ Hid (HV w' bo cp A2 ∧ NEv w' bo A2) ∧ Sc wq w') := fun V hV => by
              have := with_new V no' nc' Aj Aj.length rfl (HJ1.out.vec.below hV.out) yo.toNat (by have := HFA.out.o; dsimp only at this; omega) (z + 1) HFA.out.s
              rw [show ((yo.toNat : Nat) : Int) = yo by have := HFA.out.o; dsimp only at this; omega, show plainOf (withOf Aj yo.toNat (z + 1)) = A2 from HA2.out] at this
              refine this.mono ?_
              rintro e w' ⟨cp, rfl, h1, h3, h2⟩
              exact ⟨_, cp, rfl, ⟨h1, nev_int h3⟩, hV.go h2⟩
            obtain ⟨M2, HM2⟩ : ∃ z, Hid (A2.length = z) := ⟨_, hid rfl⟩
            rw [HAL.out, HM2.out] at HWT
            have HSA : Hid (∀ V, Turns (fun i => i = bn) wq V → (Turns (fun i => i = bn) wq V ∧ V.cell? ⟨gb, goff + j * 8, none⟩ = some (.int .i64 yo) ∧ V.cell? ⟨gb, goff + j * 8 + 1, none⟩ = some (.int .i64 (z + 1)))) := fun V hV => by
              have hk := hV.keeps HGB.out HNE.out
              have h0 := HD0.out
              have h1 := HD1.out
              simp only [World.cell?] at h0 h1 ⊢
              rw [hk]
              exact ⟨hV, h0, h1⟩
            have cb0 : wq.cell? ⟨bn, 0, none⟩ = some (.slice no' AL nc') := by rw [← HAL.out]; exact HJ1.out.box.cell (i := 0) rfl
            have cb1 : wq.drew.cell? ⟨bn, 0, none⟩ = some (.slice no' AL nc') := cb0
            clear HRE HRE1 HRE2 HME HYO HFA HNX HD0 HD1
            have x0 : wq.drew.cell? ⟨gb, goff + j * 8, none⟩ = some (.int .i64 yo) := (HSA.out _ (Turns.refl _ _)).2.1
            have x1 : wq.drew.cell? ⟨gb, goff + j * 8 + 1, none⟩ = some (.int .i64 (z + 1)) := (HSA.out _ (Turns.refl _ _)).2.2
            apply wp_share (S := fun bo cp w6 => Hid (CS w r0 p me mw bn g' A2 bo cp w6 ∧ RowE B0 w6 (.slice (some ⟨gb, goff, none⟩) m rc) ys))
            · go_region_with (go_at_call 11; refine (HWT.out _ (Sc.dr0 wq)).mono ?_; rintro e w5 ⟨bo, cp, rfl, HV5, hs5⟩; have hb5 := HJ1.out.box.below hs5.out HJ1.out.box.lt; have e0 := hb5.cell (i := 0) rfl; have f0 := hb5.frozen 0)
              all_goals
                have HCN : Hid (CS w r0 p me mw bn g' A2 bo cp (w5.setCell ⟨bn, 0, none⟩ (.slice bo M2 cp)) ∧ RowE B0 (w5.setCell ⟨bn, 0, none⟩ (.slice bo M2 cp)) (.slice (some ⟨gb, goff, none⟩) m rc) ys) := by
                  have h1 := HJ1.out.below hs5.out
                  rw [← HM2.out]
                  exact ⟨h1.put HV5.out.1 HV5.out.2, RowE.put h1 (HRW1.out.below hs5.out) _⟩
                exact NoPanic.normal ⟨bo, cp, rfl, rfl, HCN⟩
            rintro bo cp w6 HCN
            clear x0 x1 cb0 cb1 HWT HSA
            go_wp2
            go_roundw
            case rel =>
              exact ⟨j + 1, bo, cp, by omega, by go_num, by rw [HNX2.out]; exact HCN.out⟩
            case measure => simp [intOf]; omega
          · have hjl' : ¬ (j : Int) < (m : Int) := by omega
            have HC : Hid (CS w r0 p me mw bn g' g'.A no' nc' wr) := by
              have h1 := HJ.out.1
              rw [hAj, List.take_of_length_le (by rw [List.length_map, HM.out]; omega), ← HA3.out] at h1
              exact h1
            have HPL : Hid (plainOf g'.A = g'.A) := by
              show _ = _
              rw [HA3.out]
              exact addL_plain _ HR.out.2
            clear cbn hAj HAL HJ
            obtain ⟨AL3, HAL3⟩ : ∃ l, Hid (g'.A.length = l) := ⟨_, hid rfl⟩
            have HAP : Hid (∀ V, Sc wr V → Calls Try.prog 13 #[.pointer (some ⟨p, 0, none⟩)] V fun e w' => ∃ bo cp, e = .returned (.slice bo AL3 cp) ∧ Hid (HV w' bo cp g'.A) ∧ Sc wr w') := fun V hV => by
              have := applied_any (HC.out.log.below hV.out)
              rw [HPL.out] at this
              refine this.mono ?_
              rintro e w' ⟨bo, cp, rfl, h1, h2⟩
              exact ⟨bo, cp, by rw [HAL3.out], h1, hV.go h2⟩
            have HSM : Hid (∀ V bo cp, Sc wr V → Hid (HV V bo cp g'.A) → Calls Try.prog 12 #[.slice bo AL3 cp, .slice no' AL3 nc'] V fun e w' => e = .returned (.bool true) ∧ Sc wr w') := fun V bo cp hV h1 => by
              refine (same_any V bo no' cp nc' _ _ AL3 AL3 HAL3.out HAL3.out h1.out (HC.out.vec.below hV.out)).mono ?_
              rintro e w' ⟨rfl, q, rfl⟩
              exact ⟨by rw [decide_eq_true rfl], hV.dn q⟩
            have HSA : Hid (∀ V, Sc wr V → (Sc wr V ∧ V.cell? ⟨bn, 0, none⟩ = some (.slice no' AL3 nc'))) := fun V hV => ⟨hV, by rw [← HAL3.out]; exact (HC.out.box.below hV.out HC.out.box.lt).cell (i := 0) rfl⟩
            have HSD : Hid (∀ V bo cp, Hid (HV V bo cp g'.A) → Hid (HV V.drew bo cp g'.A)) := fun V bo cp h => h.out.below (below_dr (Below.refl _ _))
            go_wp2
            go_region_held3 (fun V => Sc wr V ∧ V.cell? ⟨bn, 0, none⟩ = some (.slice no' AL3 nc')) (first | (refine ⟨?_, ?_⟩ <;> assumption) | (refine HSA.out _ ?_; (repeat (first | assumption | exact Sc.start _ | apply Sc.dr)); done)) (first
              | (go_at_call 13; with_reducible refine (HAP.out _ ?_).mono ?_; (repeat (first | assumption | exact Sc.start _ | apply Sc.dr)); rintro e w5 ⟨bo, cp, rfl, HV5, hs5⟩)
              | (go_at_call 12; with_reducible refine (HSM.out _ _ _ (by (repeat (first | assumption | exact Sc.start _ | apply Sc.dr))) (by first | assumption | (refine HSD.out _ _ _ ?_; assumption))).mono ?_; rintro e w7 ⟨rfl, hs7⟩))
            have HCN := hid (HC.out.below hs7.out)
            clear HAP HSM HSA HSD
            go_wp2
            go_roundw
            case rel => exact ⟨k + 1, g', no', nc', by omega, by go_num, HCN.out, HPL.out⟩
            case measure => simp [intOf]; omega
      · subst hm0
        have HC0 : Hid (CS w r0 p me mw bn g' g'.A no nc w3) := by
          have h1 := HCS3.out
          have h2 : ys = [] := List.eq_nil_of_length_eq_zero HM.out
          rw [HA3.out, h2]
          exact h1
        have HPL : Hid (plainOf g'.A = g'.A) := by
          show _ = _
          rw [HA3.out]
          exact addL_plain _ HR.out.2
        have hcb2 : (c3' != 0) = true := by simp [bne, hcb]
        go_wp2
        try simp only [undef]
        go_loopw [8] (fun c wz => c = .int .i64 0 ∧ wz = w3) (fun _ _ => 0)
        case atStart => exact ⟨rfl, rfl⟩
        case round =>
          obtain ⟨rfl, rfl⟩ := hrel
          obtain ⟨no', hno⟩ : ∃ z, z = no := ⟨_, rfl⟩
          obtain ⟨nc', hnc⟩ : ∃ z, z = nc := ⟨_, rfl⟩
          have HC : Hid (CS w r0 p me mw bn g' g'.A no' nc' wr) := by rw [hno, hnc]; exact HC0.out
          clear HC0 hno hnc
          obtain ⟨AL3, HAL3⟩ : ∃ l, Hid (g'.A.length = l) := ⟨_, hid rfl⟩
          have HAP : Hid (∀ V, Sc wr V → Calls Try.prog 13 #[.pointer (some ⟨p, 0, none⟩)] V fun e w' => ∃ bo cp, e = .returned (.slice bo AL3 cp) ∧ Hid (HV w' bo cp g'.A) ∧ Sc wr w') := fun V hV => by
            have := applied_any (HC.out.log.below hV.out)
            rw [HPL.out] at this
            refine this.mono ?_
            rintro e w' ⟨bo, cp, rfl, h1, h2⟩
            exact ⟨bo, cp, by rw [HAL3.out], h1, hV.go h2⟩
          have HSM : Hid (∀ V bo cp, Sc wr V → Hid (HV V bo cp g'.A) → Calls Try.prog 12 #[.slice bo AL3 cp, .slice no' AL3 nc'] V fun e w' => e = .returned (.bool true) ∧ Sc wr w') := fun V bo cp hV h1 => by
            refine (same_any V bo no' cp nc' _ _ AL3 AL3 HAL3.out HAL3.out h1.out (HC.out.vec.below hV.out)).mono ?_
            rintro e w' ⟨rfl, q, rfl⟩
            exact ⟨by rw [decide_eq_true rfl], hV.dn q⟩
          have HSA : Hid (∀ V, Sc wr V → (Sc wr V ∧ V.cell? ⟨bn, 0, none⟩ = some (.slice no' AL3 nc'))) := fun V hV => ⟨hV, by rw [← HAL3.out]; exact (HC.out.box.below hV.out HC.out.box.lt).cell (i := 0) rfl⟩
          have HSD : Hid (∀ V bo cp, Hid (HV V bo cp g'.A) → Hid (HV V.drew bo cp g'.A)) := fun V bo cp h => h.out.below (below_dr (Below.refl _ _))
          go_wp2
          go_region_held3 (fun V => Sc wr V ∧ V.cell? ⟨bn, 0, none⟩ = some (.slice no' AL3 nc')) (first | (refine ⟨?_, ?_⟩ <;> assumption) | (refine HSA.out _ ?_; (repeat (first | assumption | exact Sc.start _ | apply Sc.dr)); done)) (first
            | (go_at_call 13; with_reducible refine (HAP.out _ ?_).mono ?_; (repeat (first | assumption | exact Sc.start _ | apply Sc.dr)); rintro e w5 ⟨bo, cp, rfl, HV5, hs5⟩)
            | (go_at_call 12; with_reducible refine (HSM.out _ _ _ (by (repeat (first | assumption | exact Sc.start _ | apply Sc.dr))) (by first | assumption | (refine HSD.out _ _ _ ?_; assumption))).mono ?_; rintro e w7 ⟨rfl, hs7⟩))
          have HCN := hid (HC.out.below hs7.out)
          clear HAP HSM HSA HSD
          go_wp2
          go_roundw
          case rel => exact ⟨k + 1, g', no', nc', by omega, by go_num, HCN.out, HPL.out⟩
          case measure => simp [intOf]; omega
    · have hlt' : ¬ (k : Int) < (n : Int) := by omega
      have HC := hid HR.out.1
      obtain ⟨ib, HIB⟩ : ∃ q, Hid (q = wr.heap.size) := ⟨_, hid rfl⟩
      have HB5 : Hid (Below wr.heap.size wr (wr.alloc (.cells #[.int .i64 0] 3))) := (Below.refl _ _).alloc (Nat.le_refl _) _
      have HI5 : Hid (Boxed (wr.alloc (.cells #[.int .i64 0] 3)) ib 3 (.int .i64 0)) := by rw [HIB.out]; exact Boxed.new wr _ _
      have HS5 : Hid ((wr.alloc (.cells #[.int .i64 0] 3)).heap.size = wr.heap.size + 1) := by show _ = _; simp
      go_wp2_with fail
      clear hlt'
      rw [← HIB.out]
      generalize wr.alloc (.cells #[.int .i64 0] 3) = w5 at *
      refine (all_any w5 (some ⟨p, 0, none⟩)).mono ?_
      rintro e w6 ⟨rfl, hw6⟩
      have hb6 := (since_boxes _ _ _ hw6).2
      have HB6 := hid (bt HB5.out hb6)
      have HI6 : Hid (Boxed w6 ib 3 (.int .i64 0)) := (hb6.block _ HI5.out.lt).trans HI5.out
      have HS6 : Hid (w6.heap.size = wr.heap.size + 3) := by show _ = _; rw [hw6]; simp; have := HS5.out; omega
      have hit := fun W => itL_eql w5.heap.size (w5.heap.size + 1) W
      clear hw6 hb6
      go_wp2_with fail
      clear hit
      refine (all_any w6 (some ⟨p, 0, none⟩)).mono ?_
      rintro e w7 ⟨rfl, hw7⟩
      obtain ⟨hx0, hb7⟩ := since_boxes _ _ _ hw7
      have hx1 : Boxed w7 (w6.heap.size + 1) 26 (.slice none ([] : List Int).length 0) := by
        have := Boxed.new (w6.alloc (.cells #[.pointer (some ⟨p, 0, none⟩)] 23)) 26 (.slice none 0 0)
        rw [World.size_alloc] at this
        rw [hw7]
        exact this
      have HB7 := hid (bt HB6.out hb7)
      have HI7 : Hid (Boxed w7 ib 3 (.int .i64 0)) := (hb7.block _ HI6.out.lt).trans HI6.out
      have HS7 : Hid (w7.heap.size = wr.heap.size + 5) := by show _ = _; rw [hw7]; simp; have := HS6.out; omega
      obtain ⟨Fo, hFo⟩ : ∃ Fo : Nat → Prop, Fo = fun j => j = ib ∨ j = w7.heap.size + 1 := ⟨_, rfl⟩
      have HX0 := hid hx0
      have HX1 := hid hx1
      have HSEQ : Hid (∀ r, SeqAt Fence.wide 4 Try.prog (w7.heap.size + 1) 43 #[.pointer (some ⟨w6.heap.size, 0, none⟩), .pointer (some ⟨w6.heap.size + 1, 0, none⟩)] (fun x : EvM => #[x.val]) (Ke Fo)
          (fun pre x V => pre.map (·.e) ++ [x.e] <+: evL [] g ∧ EvKeep V x) (fun xs => xs.map (·.e) = evL [] g) (fun pre => pre.map (·.e) <+: evL [] g) ((w7.alloc (.deferred (some []))).alloc (.loop r))) := fun r => by
        have hbr : Below w7.heap.size w7 ((w7.alloc (.deferred (some []))).alloc (.loop r)) := ((Below.refl _ _).alloc (Nat.le_refl _) _).alloc (by simp) _
        have s6 := HS6.out
        have s7 := HS7.out
        have s8 := HIB.out
        refine since_at 4 (by omega) _ HC.out.log (bt HB7.out hbr) w6.heap.size (w6.heap.size + 1) ((hbr.block _ HX0.out.lt).trans HX0.out) none 0 [] ((hbr.block _ HX1.out.lt).trans HX1.out) ⟨⟨fun x hx => (by cases hx), .inl rfl⟩, Nat.le_refl _, Nat.zero_le _⟩ Fo ?_ ?_ ?_ ?_
        · intro j hj
          rw [hFo] at hj
          simp
          omega
        · intro i hi hj
          rw [hFo] at hj
          have := HC.out.log.lt i hi
          omega
        · rintro i ⟨hj, hl⟩
          rw [hFo] at hj
          omega
        · intro hj
          rw [hFo] at hj
          omega
      clear hw7 hb7 hx0 hx1 HI5 HI6 HB5 HB6
      go_wp2
      refine (wpIn_wide (n := 5)).1 ?_
      apply wpIn_rangeFunc_Gb (encs := fun x : EvM => #[x.val]) (Kp := Ke Fo) (G := fun pre x V => pre.map (·.e) ++ [x.e] <+: evL [] g ∧ EvKeep V x) (S := fun xs => xs.map (·.e) = evL [] g) (Sp := fun pre => pre.map (·.e) <+: evL [] g) rfl (by omega) (gf := 43) (lb := #[.pointer (some ⟨w6.heap.size, 0, none⟩), .pointer (some ⟨w6.heap.size + 1, 0, none⟩)]) rfl trivial (enters_of Try.func43 (by kernel_rfl) rfl) HSEQ.out
        (I := fun pre V => Below wr.heap.size wr V ∧ Boxed V ib 3 (.int .i64 (pre.length : Int)) ∧ pre.map (·.e) <+: evL [] g ∧ w7.heap.size ≤ V.heap.size)
        (Ix := fun _ _ _ => False)
        (X := fun pre x V => pre.map (·.e) ++ [x.e] <+: evL [] g ∧ EvKeep V x) (Bx := fun x => x.cells) (t := 33)
      case hKt => exact fun h k => Ke.trans h k
      case hKb =>
        intro V r r' _
        exact Turns.of_grown (grownBy_putObj' V _ _) (fun j e => by cases e; exact .inl (by rw [hFo]; exact .inr rfl))
      case hps => exact fun _ => rfl
      case hI =>
        rintro pre V V' row ⟨h1, h2, h3, h4⟩ hg hr
        exact ⟨h1.trans ((Turns.of_grown (F := fun j => wr.heap.size ≤ j) hg (fun k e => Nat.le_trans HB7.out.size (hr k e).1)).below (fun _ h => h) h1.size), h2.kept hg (fun e => by obtain ⟨_, o, ho, hc⟩ := hr _ e.symm; rw [show V.heap[ib]? = _ from h2] at ho; cases ho; cases hc), h3, Nat.le_trans h4 hg.size⟩
      case hIx => exact fun _ _ _ _ _ h => h.elim
      case h0 => exact ⟨HB7.out, HI7.out, List.nil_prefix, Nat.le_refl _⟩
      case hX =>
        rintro pre x _ V V' row ⟨h1, h2⟩ hg hr
        exact ⟨h1, h2.noCells hg (fun r e => (hr r e).2)⟩
      case hassign =>
        rintro l' pre x V K hlt ⟨h1, h2, h3, h4⟩ ⟨hG, hG2⟩ hK
        obtain ⟨gg, hgg⟩ : ∃ z, z = V.heap.size := ⟨_, rfl⟩
        have hba : Below V.heap.size V (V.alloc (.cells x.cells.toArray 33)) := (Below.refl _ _).alloc (Nat.le_refl _) _
        have hbk : Blk (V.alloc (.cells x.cells.toArray 33)) gg 33 x.cells := by rw [hgg]; exact Blk.new V _ _
        have HI : Hid (KeptAs w7.heap.size V (V.alloc (.cells x.cells.toArray 33)) ∧ Ke Fo V (V.alloc (.cells x.cells.toArray 33)) ∧ (Below wr.heap.size wr (V.alloc (.cells x.cells.toArray 33)) ∧ Boxed (V.alloc (.cells x.cells.toArray 33)) ib 3 (.int .i64 (pre.length : Int)) ∧ pre.map (·.e) <+: evL [] g ∧ w7.heap.size ≤ (V.alloc (.cells x.cells.toArray 33)).heap.size) ∧ (pre.map (·.e) ++ [x.e] <+: evL [] g ∧ EvKeep (V.alloc (.cells x.cells.toArray 33)) x) ∧ w7.heap.size ≤ gg) :=
          ⟨⟨hba.block _ hlt, hba.block _ (by omega)⟩, Ke.below hba, ⟨bt h1 hba, h2.alloc _, h3, Nat.le_trans h4 hba.size⟩, ⟨hG, hG2.below hba⟩, by omega⟩
        have HBK := hid hbk
        have HGG := hid hgg
        clear hgg hba hbk h1 h2 h3 h4 hG hG2 hlt
        gi_wp2
        rw [← HGG.out]
        exact hK gg (V.alloc (.cells x.cells.toArray 33)) HI.out.1 HI.out.2.1 HI.out.2.2.1 HI.out.2.2.2.1 HBK.out HI.out.2.2.2.2
      case hbody =>
        rintro l' pre x gg V ⟨rc, hkp⟩ ⟨h1, h2, h3, h4⟩ ⟨hG, hG2⟩ hbk hgl
        have HCV := hid (HC.out.below h1)
        have HEC := hid (evL_closed HC.out.log (hG.subset (by simp : x.e ∈ pre.map (·.e) ++ [x.e])))
        have HLE : Hid ((pre.length : Int) ≤ 15032385529) := by
          have a1 := hG.length_le
          have a2 := evL_cnt g
          have a3 := (cnt_may HC.out.log.may g.A.length).2
          rw [List.take_length] at a3
          simp at a1
          show _ ≤ _
          omega
        obtain ⟨⟨o1, s1, dp, ct, ep, sk, qt, cl⟩, ao1, cap1⟩ := x
        obtain ⟨XN, HXN⟩ : ∃ m, Hid (dp.length = m) := ⟨_, hid rfl⟩
        obtain ⟨AL, HAL⟩ : ∃ l, Hid (g.A.length = l) := ⟨_, hid rfl⟩
        obtain ⟨pl, HPL⟩ : ∃ z, Hid (pre.length = z) := ⟨_, hid rfl⟩
        have HBE := hid (below_any V ao1 no cap1 nc dp g.A XN AL HXN.out HAL.out hG2.ok.deps HCV.out.vec)
        have HHA := hid (has_any V no nc g.A AL HAL.out HCV.out.vec o1 s1)
        rw [decide_eq_true HEC.out.1] at HBE
        rw [decide_eq_true HEC.out.2.1] at HHA
        simp only [EvM.cells] at hbk
        rw [HXN.out] at hbk
        have c0 := hbk.cell (i := 0) rfl
        have c1 := hbk.cell (i := 1) rfl
        have c2 := hbk.cell (i := 2) rfl
        have cb : V.cell? ⟨bn, 0, none⟩ = some (.slice no AL nc) := by rw [← HAL.out]; exact HCV.out.box.cell (i := 0) rfl
        have HB1 := hid h1
        have HB2 := hid h2
        have HB4 := hid h4
        have HG1 := hid hG
        have HKP := hid hkp
        have HFO := hid hFo
        clear h1 h2 h3 h4 hG hG2 hbk hkp hFo HEC hgl
        gi_wp2_with fail
        refine ⟨trivial, (CallsIn.inRound l' (callsIn_wide.2 HBE.out)).mono ?_⟩
        rintro e V1 ⟨rfl, rfl⟩
        gi_wp2_with fail
        refine ⟨trivial, (CallsIn.inRound l' (callsIn_wide.2 HHA.out)).mono ?_⟩
        rintro e V2 ⟨rfl, hv2⟩
        have HV2 := hid hv2
        have HI2 : Hid (Boxed V2 ib 3 (.int .i64 (pl : Int))) := by rw [← HPL.out]; exact (hv2.block _ HB2.out.lt).trans HB2.out
        have ci := HI2.out.cell
        have fi := HI2.out.frozen
        have hpl : (pl : Int) ≤ 15032385529 := by rw [← HPL.out]; exact HLE.out
        clear hv2 c0 c1 c2 cb HBE HHA
        gi_wp2
        have hT : Turns (fun j => j = ib) V1 (V2.setCell ⟨ib, 0, none⟩ (.int .i64 ((pl : Int) + 1))) := Turns.setCell (Turns.of_below (F := fun j => j = ib) HV2.out (Nat.le_refl _)) (p := ⟨ib, 0, none⟩) (.inl rfl) _
        have s7 := HS7.out
        have s8 := HIB.out
        have hk := HKP.out.lt
        exact ⟨KeptAs.turns hT (by omega) (by omega) (by omega), hT.mono (fun i hi => .inl (by rw [HFO.out]; exact .inl hi)), HB1.out.trans (hT.below (B := wr.heap.size) (fun i hi => by omega) HB1.out.size), by have := HI2.out.set (.int .i64 ((pl : Int) + 1)); rw [List.length_append, HPL.out]; exact this, by rw [List.map_append]; exact HG1.out, Nat.le_trans HB4.out hT.size⟩
      case hdone =>
        rintro D xs V hD hS ⟨h1, h2, h3, h4⟩ hDef
        have HCV := hid (HC.out.below h1)
        have HSZ : Hid (r0 < ib ∧ bn < ib ∧ ib < D) := by
          have s7 := HS7.out
          have s8 := HIB.out
          have a1 := HC.out.res.lt
          have a2 := HC.out.box.lt
          exact ⟨by omega, by omega, by omega⟩
        have hxl : (xs.length : Int) = cntV g.A := by
          rw [← evL_cnt, ← hS, List.length_map]
        obtain ⟨AL, HAL⟩ : ∃ l, Hid (g.A.length = l) := ⟨_, hid rfl⟩
        obtain ⟨C, HCC⟩ : ∃ C, Hid (cntV g.A = C) := ⟨_, hid rfl⟩
        rw [HCC.out] at hxl
        rw [hxl] at h2
        have HCT := hid (fun W (hW : Sc V W) => count_any W no nc g.A AL HAL.out (HCV.out.vec.below hW.out) HC.out.log.may)
        rw [HCC.out] at HCT
        have ci := h2.cell
        have cb : V.cell? ⟨bn, 0, none⟩ = some (.slice no AL nc) := by rw [← HAL.out]; exact HCV.out.box.cell (i := 0) rfl
        have HEND := fun q => clos_end (w := w) (V := V.drewN q) (r := r0) (D := D) (below_dn HCV.out.bel q) HCV.out.res HC.out.lr hDef (by have := HSZ.out; omega)
        rw [HRR.out] at HEND
        have HED := hid HEND
        have hrb : Boxed V w.heap.size 4 (.bool false) := by have := HCV.out.res; rw [HRR.out] at this; exact this
        have cr := hrb.cell
        have fr := hrb.frozen
        clear h1 h3 h4 hDef HEND hS
        go_wp2
        have HKI : Hid (∀ u, (V.drew.setCell ⟨w.heap.size, 0, none⟩ u).cell? ⟨ib, 0, none⟩ = some (.int .i64 C) ∧ (V.drew.setCell ⟨w.heap.size, 0, none⟩ u).cell? ⟨bn, 0, none⟩ = some (.slice no AL nc)) := fun u => by
          have h3 : ib ≠ w.heap.size := by have := HSZ.out; have := HRR.out; omega
          have h4 : bn ≠ w.heap.size := fun e => HC.out.ne (HRR.out.trans e.symm)
          exact ⟨Boxed.cell (show Boxed (V.drew.setCell ⟨w.heap.size, 0, none⟩ u) ib 3 _ from (Below.heap_setCell _ _ _ _ h3).trans h2), Boxed.cell (show Boxed (V.drew.setCell ⟨w.heap.size, 0, none⟩ u) bn 26 _ from (Below.heap_setCell _ _ _ _ h4).trans (by rw [← HAL.out]; exact HCV.out.box))⟩
        go_region_held3 (fun W => W.cell? ⟨ib, 0, none⟩ = some (.int .i64 C) ∧ W.cell? ⟨bn, 0, none⟩ = some (.slice no AL nc)) (first | (refine ⟨?_, ?_⟩ <;> assumption) | exact ⟨ci, cb⟩ | exact HKI.out _) (first
          | (go_at_call 16; with_reducible refine (HCT.out _ ?_).mono ?_; (repeat (first | assumption | exact Sc.start _ | apply Sc.dr)); rintro e w9 ⟨rfl, rfl⟩))
        go_wp2
        obtain ⟨k1, k2, k3⟩ := HED.out 1
        refine ⟨by simp, .inl ⟨_, _, rfl, run_takeDeferred k1, ?_⟩⟩
        exact ⟨_, results_cellC rfl _ _ rfl k2.cell, rfl, k3⟩
      case hstop =>
        rintro D c pre V hD hSp hf hDef
        exact hf.elim
end Go.Proofs.Ytcammngbhnhjjaa
