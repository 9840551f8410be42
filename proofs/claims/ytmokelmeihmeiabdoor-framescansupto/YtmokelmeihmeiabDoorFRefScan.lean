/-
  pannierref02.Scan answers all payloads of the frames of any bytes, and how many bytes these frames have; nothing that was there is written; condition: the bytes are at most 1000000000.
-/
import Derived.Test.YtmokelmeihmeiabDoorFRefNum
import Derived.Test.YtmokelmeihmeiabDoorFApps
import Derived.Test.YtmokelmeihmeiabDoorFEnd
import Derived.Deep.RegionLaw
namespace Go.Proofs.YtmokelmeihmeiabDoor
open Go.RowKit
attribute [local go_sem ↓] Go.wp_at_zero Go.wp_at_succ

theorem mid_cut (bs : List Int) (k i j : Nat) : (bs.take (k + j)).drop (k + i) = ((bs.drop k).take j).drop i := by
  rw [List.drop_take, List.drop_take, List.drop_drop]
  congr 1
  omega
theorem rd4_take (l : List Int) : rd4 (l.take 4) = rd4 l := by
  unfold rd4
  simp [List.getD]

theorem fst_short {D : List Int} (h : D.length < 8) : fstOf D = none := by
  unfold fstOf
  rw [if_pos (.inl h)]
theorem fst_great {D : List Int} (h : 65536 < rd4 D ∨ D.length < 8 + rd4 D) : fstOf D = none := by
  unfold fstOf
  rw [if_pos (.inr h)]
theorem fst_right {D : List Int} (h8 : ¬ D.length < 8) (h : ¬ (65536 < rd4 D ∨ D.length < 8 + rd4 D)) :
    fstOf D = if rd4 (D.drop 4) = crc (D.take 4 ++ (D.take (8 + rd4 D)).drop 8) then some ((D.take (8 + rd4 D)).drop 8) else none := by
  unfold fstOf
  rw [if_neg (by omega)]

theorem sum_small {n : Nat} (h : n < 4294967296) : 4 + n ≤ 140737488355328 := by omega
theorem row_small {p len : Nat} (h : p ≤ len) (hl : len ≤ 1000000000) : p + 1 ≤ maxLen ∧ (p + 1) * 16 ≤ 140737488355328 := by unfold maxLen; omega
theorem sum_four : 0 + 4 ≤ 140737488355328 := by omega
theorem wrap_small {k len : Nat} (hk : k ≤ len) (hl : len ≤ 1000000000) (c : Int) (hc : 0 ≤ c ∧ c ≤ 100) : IntKind.i64.wrap ((k : Int) + c) = (k : Int) + c := (IntKind.wrap_i64 _).trans (by omega)

set_option maxRecDepth 100000 in
set_option maxHeartbeats 400000 in
theorem refScan_any (ao : Option Addr) (len cap : Nat) (bs : List Int) (w : World) (h : Held w ao len cap bs) (hsmall : len ≤ 1000000000) :
    Calls Tryd.prog 12 #[.slice ao len cap] w fun e w' => ∃ mo n mc, e = .returned (.tuple #[.slice mo n mc, .int .i64 (endP bs)]) ∧ HeldS w' mo n mc (pays bs) ∧ Below w.heap.size w w' := by
  obtain ⟨i0, hi, hz0, hz1, hz2⟩ := info_parts Tryd.info5
  obtain ⟨i9, hj, hy0, hy1, hy2⟩ := info_parts Tryd.info9
  have hlen := h.hlen
  have hcap := h.hcap
  have hpl : (pays bs).length ≤ len := by
    rw [← scan_pays, List.length_map]
    have := scanAll_len bs
    omega
  obtain ⟨ps, HPS⟩ : ∃ ps, Hid (pays bs = ps) := ⟨_, hid rfl⟩
  obtain ⟨E, HE⟩ : ∃ E, Hid (endP bs = E) := ⟨_, hid rfl⟩
  rw [HPS.out] at hpl
  rw [HPS.out, HE.out]
  have HH := hid h
  clear h
  go_enter Tryd.func12, Tryd.ntmps12
  go_wp2
  go_loopw [4, 5] (fun out at_ wr => ∃ (k : Nat) (pre : List ByteArray), k ≤ len ∧ at_ = .int .i64 k ∧ wr.ownsRow w.heap.size 9 1 out pre.length (texts pre) ∧ pre ++ pays (bs.drop k) = ps ∧ k + endP (bs.drop k) = E ∧ Below w.heap.size w wr) (fun _ i _ => len - (intOf i).toNat)
  case atStart => exact ⟨0, [], by omega, rfl, World.ownsRow_nil _ _ _ _, by simpa using HPS.out, by simpa using HE.out, Below.refl _ _⟩
  case round =>
    obtain ⟨k, pre, hk, rfl, hrow, hpre, hend, hbl⟩ := hrel
    have HR := hid hrow
    have HPRE := hid hpre
    have HEND := hid hend
    have HBL := hid hbl
    have hprl : pre.length ≤ len := by
      have := congrArg List.length hpre
      rw [List.length_append] at this
      omega
    have sr := hbl.size
    clear hrow hpre hend hbl
    obtain ⟨D, HD⟩ : ∃ D, Hid (bs.drop k = D) := ⟨_, hid rfl⟩
    have hDl : D.length = len - k := by rw [← HD.out, List.length_drop, hlen]
    rw [HD.out] at HPRE HEND
    have HOUT : Hid (fstOf D = none → (∃ mo mc, u4 = .slice mo pre.length mc ∧ HeldS wr mo pre.length mc ps) ∧ k = E) := by
      intro hf
      have hp := pays_none hf
      have h1 := HPRE.out
      have h2 := HEND.out
      rw [hp.1, List.append_nil] at h1
      rw [hp.2] at h2
      obtain ⟨mo, mc, e, hh⟩ := heldS_of_own HR.out
      exact ⟨⟨mo, mc, e, by rw [← h1]; exact hh⟩, by omega⟩
    by_cases h8 : len - k < 8
    · obtain ⟨⟨mo, mc, hu, hh⟩, hkE⟩ := HOUT.out (fst_short (by omega))
      have HHO := hid hh
      clear hh
      have hd : decide ((8 : Int) ≤ (len : Int) - (k : Int)) = false := decide_eq_false (by omega)
      subst hu
      go_wp2
      go_ret2
      exact ⟨mo, _, mc, by first | rfl | (rw [hkE]; rfl), HHO.out, HBL.out⟩
    · obtain ⟨n, HN⟩ : ∃ n, Hid (rd4 D = n) := ⟨_, hid rfl⟩
      have hDb : AllB D := by rw [← HD.out]; exact HH.out.byte.drop k
      have hn32 : n < 4294967296 := by rw [← HN.out]; exact rd4_lt hDb
      have hH : Held wr ao len cap bs := HH.out.below HBL.out (Nat.le_refl _)
      have hcut4 : Held wr (cutAt ao cap k) 4 (cap - k) (D.take 4) := by
        have := hH.cut (l := k) (u := k + 4) (by omega) (by omega)
        rw [Nat.add_sub_cancel_left, show (k : Nat) = k + 0 from rfl, Nat.add_assoc, mid_cut, HD.out] at this
        simpa using this
      have HC4 := hid hcut4
      have hs1 : ∀ W, (Instr.slice 22 (.slice ao len cap) (some (.int .i64 (k : Int))) (some (.int .i64 ((k : Int) + 4))) none).run Tryd.prog W = .ok (.slice (cutAt ao cap k) 4 (cap - k)) W := by
        intro W
        have := run_cut_lh (P := Tryd.prog) W 22 5 Tryd.underlying22 Tryd.size5 ao len cap k (k + 4) (k : Int) ((k : Int) + 4) rfl (by omega) (by omega) (by omega)
        rwa [Nat.add_sub_cancel_left] at this
      have hd : decide ((8 : Int) ≤ (len : Int) - (k : Int)) = true := decide_eq_true (by omega)
      have HNUM := hid (number_any _ 4 _ _ wr hcut4 (Nat.le_refl _))
      rw [rd4_take, HN.out] at HNUM
      clear hcut4 hH
      go_wp2_with fail
      refine HNUM.out.mono ?_
      rintro e w1 ⟨rfl, q1, rfl⟩
      clear HNUM hs1 hd
      by_cases hgr : 65536 < n ∨ len - k < 8 + n
      · obtain ⟨⟨mo, mc, hu, hh⟩, hkE⟩ := HOUT.out (fst_great (by rw [HN.out, hDl]; exact hgr))
        have HHO := hid hh
        clear hh
        subst hu
        rcases (show 65536 < n ∨ (¬ 65536 < n ∧ len - k - 8 < n) by omega) with hb1 | ⟨hb1, hb2⟩
        · have hI1 : (65536 : Int) < (n : Int) := by omega
          go_wp2
          go_ret2
          exact ⟨mo, _, mc, by first | rfl | (rw [hkE]; rfl), HHO.out.below (below_dn (Below.refl _ _) _) (Nat.le_refl _), below_dn HBL.out _⟩
        · have hI1 : decide ((65536 : Int) < (n : Int)) = false := decide_eq_false (by omega)
          have hI2 : (len : Int) - (k : Int) - 8 < (n : Int) := by omega
          go_wp2
          go_ret2
          exact ⟨mo, _, mc, by first | rfl | (rw [hkE]; rfl), HHO.out.below (below_dn (Below.refl _ _) _) (Nat.le_refl _), below_dn HBL.out _⟩
      · have hI1 : decide ((65536 : Int) < (n : Int)) = false := decide_eq_false (by omega)
        have hI2 : decide ((len : Int) - (k : Int) - 8 < (n : Int)) = false := decide_eq_false (by omega)
        have hs2 : ∀ W, (Instr.slice 22 (.slice ao len cap) (some (.int .i64 ((k : Int) + 8))) (some (.int .i64 ((k : Int) + 8 + (n : Int)))) none).run Tryd.prog W = .ok (.slice (cutAt ao cap (k + 8)) n (cap - (k + 8))) W := by
          intro W
          have := run_cut_lh (P := Tryd.prog) W 22 5 Tryd.underlying22 Tryd.size5 ao len cap (k + 8) (k + 8 + n) ((k : Int) + 8) ((k : Int) + 8 + (n : Int)) (by omega) (by omega) (by omega) (by omega)
          rwa [Nat.add_sub_cancel_left] at this
        obtain ⟨W, HW⟩ : ∃ W, Hid (wr.drewN q1 = W) := ⟨_, hid rfl⟩
        have HBLW : Hid (Below w.heap.size w W) := by
          show Below _ _ _
          rw [← HW.out]; exact below_dn HBL.out _
        have HRW : Hid (W.ownsRow w.heap.size 9 1 u4 pre.length (texts pre)) := by
          show World.ownsRow _ _ _ _ _ _ _
          rw [← HW.out]; exact ownsRow_dn HR.out _
        have HOUTW : Hid (fstOf D = none → ∃ mo mc, (u4 = .slice mo pre.length mc ∧ HeldS W mo pre.length mc ps) ∧ k = E) := by
          intro hf
          obtain ⟨⟨mo, mc, hu, hh⟩, hkE⟩ := HOUT.out hf
          exact ⟨mo, mc, ⟨hu, by rw [← HW.out]; exact hh.below (below_dn (Below.refl _ _) _) (Nat.le_refl _)⟩, hkE⟩
        rw [HW.out]
        have sW := HBLW.out.size
        have hHW : Held W ao len cap bs := HH.out.below HBLW.out (Nat.le_refl _)
        have HC4W : Hid (Held W (cutAt ao cap k) 4 (cap - k) (D.take 4)) := by
          show Held _ _ _ _ _
          rw [← HW.out]; exact HC4.out.drawn _
        have HC8W : Hid (Held W (cutAt ao cap (k + 4)) 4 (cap - (k + 4)) ((D.drop 4).take 4)) := by
          show Held _ _ _ _ _
          have := hHW.cut (l := k + 4) (u := k + 8) (by omega) (by omega)
          rw [show k + 8 - (k + 4) = 4 by omega, mid_cut, HD.out, List.drop_take] at this
          exact this
        have HCPW : Hid (Held W (cutAt ao cap (k + 8)) n (cap - (k + 8)) ((D.take (8 + n)).drop 8)) := by
          show Held _ _ _ _ _
          have := hHW.cut (l := k + 8) (u := k + (8 + n)) (by omega) (by omega)
          rw [show k + (8 + n) - (k + 8) = n by omega, mid_cut, HD.out] at this
          exact this
        obtain ⟨P, HP⟩ : ∃ P, Hid ((D.take (8 + n)).drop 8 = P) := ⟨_, hid rfl⟩
        obtain ⟨A, HA⟩ : ∃ A, Hid (rd4 (D.drop 4) = A) := ⟨_, hid rfl⟩
        obtain ⟨C, HCR⟩ : ∃ C, Hid (crc (D.take 4 ++ P) = C) := ⟨_, hid rfl⟩
        have HF := hid (fst_right (D := D) (by omega) (by rw [HN.out, hDl]; exact hgr))
        rw [HN.out, HP.out, HA.out, HCR.out] at HF
        rw [HP.out] at HCPW
        have hPb : AllB P := HCPW.out.byte
        have hPl : P.length = n := HCPW.out.hlen
        have hs1 : ∀ W, (Instr.slice 22 (.slice ao len cap) (some (.int .i64 (k : Int))) (some (.int .i64 ((k : Int) + 4))) none).run Tryd.prog W = .ok (.slice (cutAt ao cap k) 4 (cap - k)) W := by
          intro W
          have := run_cut_lh (P := Tryd.prog) W 22 5 Tryd.underlying22 Tryd.size5 ao len cap k (k + 4) (k : Int) ((k : Int) + 4) rfl (by omega) (by omega) (by omega)
          rwa [Nat.add_sub_cancel_left] at this
        have hs3 : ∀ W, (Instr.slice 22 (.slice ao len cap) (some (.int .i64 ((k : Int) + 4))) (some (.int .i64 ((k : Int) + 8))) none).run Tryd.prog W = .ok (.slice (cutAt ao cap (k + 4)) 4 (cap - (k + 4))) W := by
          intro W
          have := run_cut_lh (P := Tryd.prog) W 22 5 Tryd.underlying22 Tryd.size5 ao len cap (k + 4) (k + 8) ((k : Int) + 4) ((k : Int) + 8) (by omega) (by omega) (by omega) (by omega)
          rwa [show k + 8 - (k + 4) = 4 by omega] at this
        have HNUM : ∀ V, Sc W V → Hid (Calls Tryd.prog 21 #[.slice (cutAt ao cap (k + 4)) 4 (cap - (k + 4))] V fun e w' => e = .returned (.int .u32 A) ∧ ∃ q, w' = V.drewN q) := by
          intro V hV
          have := number_any _ 4 _ _ V (HC8W.out.below hV.out (Nat.le_refl _)) (Nat.le_refl _)
          rw [rd4_take, HA.out] at this
          exact this
        have HSUM : ∀ o c V, Held V o (4 + n) c (D.take 4 ++ P) → Hid (Calls Tryd.prog 10 #[.slice o (4 + n) c] V fun e w' => e = .returned (.int .u32 C) ∧ w' = V) := by
          intro o c V hV
          have := refSum_any o (4 + n) c _ V hV
          rw [HCR.out] at this
          exact this
        clear hHW HC8W hDb HR HOUT HC4 HBL
        have hsum2 := sum_small hn32
        have HNUM' := hid HNUM
        have HSUM' := hid HSUM
        clear HNUM HSUM
        go_wp2
        clear hs2 hI1 hI2
        have v4 : IntKind.i64.wrap ((k : Int) + 4) = (k : Int) + 4 := wrap_small hk hsmall _ (by decide)
        have v8 : IntKind.i64.wrap ((k : Int) + 8) = (k : Int) + 8 := wrap_small hk hsmall _ (by decide)
        go_region_held3 (fun V => Sc W V) (first | assumption | apply Sc.start | (apply Sc.alloc; assumption) | (apply Sc.dn; assumption) | (apply Sc.go <;> assumption) | apply Sc.dn0 | apply Sc.al0 | apply Sc.al1)
          (first
            | (go_at_call 21; refine (HNUM'.out _ (by assumption)).out.mono ?_; rintro e w' ⟨rfl, q, rfl⟩)
            | (go_at_call 10; refine (HSUM'.out _ _ _ (by assumption)).out.mono ?_; rintro e w' ⟨rfl, rfl⟩)
            | (refine step_append_held rfl _ _ 22 rfl W.heap.size 5 i0 Tryd.underlying22 hi hz0 hz1 hz2 _ 0 [] rfl ?_ allb_nil (cutAt ao cap k) 4 (cap - k) (D.take 4) rfl ?_ sum_four ?_ ?_
               · exact own_made W _ (Nat.le_refl _)
               · exact HC4W.out.below (Sc.out (by assumption)) (Nat.le_refl _)
               · apply Sc.size; assumption
               intro o1 c1 w1 hown1 hh1 hb1)
            | (refine step_append_held rfl _ _ 22 rfl W.heap.size 5 i0 Tryd.underlying22 hi hz0 hz1 hz2 _ 4 (D.take 4) rfl ?_ HC4W.out.byte (cutAt ao cap (k + 8)) n (cap - (k + 8)) P rfl ?_ hsum2 ?_ ?_
               · assumption
               · exact HCPW.out.below (Sc.out (by assumption)) (Nat.le_refl _)
               · apply Sc.size; assumption
               intro o2 c2 w2 hown2 hh2 hb2))
        all_goals
          rename_i hSV
          have HSV := hid hSV.out
          have HBV : Hid (Below w.heap.size w w') := HBLW.out.trans (HSV.out.mono sW)
          have sV := HBV.out.size
          clear hSV hown1 hh1 hb1 hown2 hh2 hb2 v4 v8 hs1 hs3
          by_cases hAC : A = C
          · have hne : ((A : Int) != (C : Int)) = false := by simp [hAC]
            have hf : fstOf D = some P := by rw [HF.out, if_pos hAC]
            have hp := pays_some hf
            rw [hPl] at hp
            have hcv := run_convert_held (P := Tryd.prog) (HCPW.out.below HSV.out (Nat.le_refl _)) 22 5 9 Tryd.underlying22 Tryd.underlying5 Tryd.underlying9
            obtain ⟨S, HSs⟩ : ∃ S, Hid (strOfNums P = S) := ⟨_, hid rfl⟩
            rw [HSs.out] at hcv hp
            have HPP := hid hp
            have HRV : Hid (w'.ownsRow w.heap.size 9 1 u4 pre.length (texts pre)) := ownsRow_below HRW.out HSV.out (Nat.le_refl _)
            have hrs := row_small hprl hsmall
            clear hf hp hAC
            go_wp2_with (at_builtin; refine wpList_append_own_at _ rfl _ _ 30 rfl w.heap.size 9 i9 (.string ⟨#[]⟩) 1 16 Tryd.underlying30 hj hy0 hy1 hy2 rfl (by decide) _ _ _ rfl (HRV.out.alloc _) ⟨w'.heap.size, 0, none⟩ 1 1 [.string S] rfl rfl (cell_one_new _ _ _) (by simp [Value.oneCell']) hrs.1 hrs.2 (by simp; omega) ?_)
            intro v3 w3 hown3 hgrow3 _ _
            have HB3 : Hid (Below w.heap.size w w3) := (HBV.out.alloc sV _).grown hgrow3 (by simp; omega) (own_lt HRV.out)
            have HR3 : Hid (w3.ownsRow w.heap.size 9 1 v3 (pre ++ [S]).length (texts (pre ++ [S]))) := by
              show World.ownsRow _ _ _ _ _ _ _
              rw [texts_append, List.length_append]; exact hown3
            have HD2 : Hid (bs.drop (k + 8 + n) = D.drop (8 + n)) := by
              show _ = _
              rw [← HD.out, List.drop_drop, Nat.add_assoc]
            clear hown3 hgrow3 hcv hrs
            go_wp2
            go_roundw
            case rel =>
              refine ⟨k + 8 + n, pre ++ [S], by omega, by go_num, HR3.out, ?_, ?_, HB3.out⟩
              · rw [HD2.out, ← HPRE.out, HPP.out.1]; simp
              · rw [HD2.out, ← HEND.out, HPP.out.2]; omega
            case measure => simp [intOf]; omega
          · have hne : ((A : Int) != (C : Int)) = true := by simp; omega
            obtain ⟨mo, mc, ⟨hu, hh⟩, hkE⟩ := HOUTW.out (by rw [HF.out, if_neg hAC])
            have HHO := hid (hh.below HSV.out (Nat.le_refl _))
            clear hh hAC
            subst hu
            go_wp2
            go_ret2
            exact ⟨mo, _, mc, by first | rfl | (rw [hkE]; rfl), HHO.out, HBV.out⟩
end Go.Proofs.YtmokelmeihmeiabDoor
