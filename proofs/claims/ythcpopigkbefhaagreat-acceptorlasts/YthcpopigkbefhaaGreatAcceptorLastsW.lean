/-
  pannierlaw16.AcceptorLasts answers true for whatever messages.
-/
import Derived.Test.YthcpopigkbefhaaGreatVoOpen
import Derived.Test.YthcpopigkbefhaaGreatMsgOpen
namespace Go.Proofs.YthcpopigkbefhaaGreat
open Go.RowKit Go.Maps

/-- Between two rounds: the second acceptor is as the first one; so is the third one, as long as records are replayed to it. -/
def Las (w : World) (p m q n r o : Nat) (lim : Int) (cnt : Nat) (wr : World) : Prop := ∃ A C, A3 w.heap.size wr p m q n r o A A C ∧ Below w.heap.size w wr ∧ ((cnt : Int) ≤ lim → C = A)
theorem lasts_bad (nd : Int) (ao : Option Addr) (len cap : Nat) (lim : Int) (w : World) (hnd : nd < 0 ∨ 7 ≤ nd) :
    Calls Tryz.prog 3 #[.int .i64 nd, .slice ao len cap, .int .i64 lim] w fun e w' => e = .returned (.bool true) ∧ Below w.heap.size w w' := by
  have HNEW := hid (newA_bad w nd hnd)
  have HLV := hid (livesAc w)
  clear hnd
  go_enter Tryz.func3, Tryz.ntmps3
  go_wp2_with fail
  refine HNEW.out.mono ?_
  rintro e w1 ⟨rfl, rfl⟩
  go_wp2_with fail
  refine HNEW.out.mono ?_
  rintro e w1 ⟨rfl, rfl⟩
  go_wp2_with fail
  refine HNEW.out.mono ?_
  rintro e w1 ⟨rfl, rfl⟩
  go_wp2_with fail
  refine HLV.out.mono ?_
  rintro e w2 ⟨rfl, hb2⟩
  have HB2 := hid hb2
  clear hb2 HLV HNEW
  go_wp2
  go_ret
  exact ⟨rfl, HB2.out⟩
set_option maxRecDepth 1000000 in
set_option maxHeartbeats 16000000 in
theorem lasts_good (nd : Int) (ao : Option Addr) (cap : Nat) (xs : List MsM) (lim : Int) (w : World) (hx : HeldMs w ao xs) (hlx : xs.length ≤ 703687441776) (hnd : ¬ (nd < 0 ∨ 7 ≤ nd)) :
    Calls Tryz.prog 3 #[.int .i64 nd, .slice ao xs.length cap, .int .i64 lim] w fun e w' => e = .returned (.bool true) ∧ Below w.heap.size w w' := by
  have HX := hid hx
  obtain ⟨N1, HN⟩ : ∃ n, Hid (xs.length = n) := ⟨_, hid rfl⟩
  rw [HN.out]
  rw [HN.out] at hlx
  have HNEW := hid (fun V => newA_good V nd (fun h => hnd (.inl h)) (fun h => hnd (.inr h)))
  clear hx hnd
  go_enter Tryz.func3, Tryz.ntmps3
  go_wp2_with fail
  refine (HNEW.out _).mono ?_
  rintro e w1 ⟨p, m, rfl, hat1, hb1, hp, hm⟩
  have HL1 : Hid (AcIn w.heap.size w1 p m (newAc nd)) := ⟨hat1, hp, hm⟩
  have HB1 := hid hb1
  clear hat1 hb1 hp hm
  go_wp2_with fail
  refine (HNEW.out _).mono ?_
  rintro e w2 ⟨q, n, rfl, hat2, hb2, hq, hn⟩
  have HL2 : Hid (AcIn w.heap.size w2 q n (newAc nd)) := ⟨hat2, Nat.le_trans HB1.out.size hq, Nat.le_trans HB1.out.size hn⟩
  have HL1b := hid (HL1.out.below hb2)
  have HB2 := hid (bt' HB1.out hb2)
  have HD1 : Hid (∀ i, FootA p m i → ¬ FootA q n i) := fun i hi hf => by
    have h1 := HL1.out.at'.lt i hi
    rcases hf with e | e <;> omega
  clear hat2 hb2 hq hn HL1
  go_wp2_with fail
  refine (HNEW.out _).mono ?_
  rintro e w3 ⟨r, o, rfl, hat3, hb3, hr, ho⟩
  have HL3 : Hid (A3 w.heap.size w3 p m q n r o (newAc nd) (newAc nd) (newAc nd)) := by
    refine ⟨HL1b.out.below hb3, HL2.out.below hb3, ⟨hat3, Nat.le_trans HB2.out.size hr, Nat.le_trans HB2.out.size ho⟩, HD1.out, fun i hi hf => ?_, fun i hi hf => ?_⟩
    · have h1 := HL1b.out.at'.lt i hi
      rcases hf with e | e <;> omega
    · have h1 := HL2.out.at'.lt i hi
      rcases hf with e | e <;> omega
  have HB3 := hid (bt' HB2.out hb3)
  have HLV := hid (livesAc w3)
  clear hat3 hb3 hr ho HNEW HL1b HL2 HD1
  go_wp2_with fail
  refine HLV.out.mono ?_
  rintro e w4 ⟨rfl, hb4⟩
  have HLA : Hid (Las w p m q n r o lim 0 w4) := ⟨_, _, HL3.out.below hb4, bt' HB3.out hb4, fun _ => rfl⟩
  clear hb4 HLV HL3 HB3
  go_wp2
  go_loopw [13, 14, 15, 16, 17] (fun c i _ _ _ wr => ∃ (k cnt : Nat), k ≤ N1 ∧ cnt ≤ k ∧ i = .int .i64 k ∧ c = .int .i64 cnt ∧ Hid (Las w p m q n r o lim cnt wr)) (fun _ i _ _ _ _ => N1 - (intOf i).toNat)
  case atStart => exact ⟨0, 0, Nat.zero_le _, Nat.zero_le _, rfl, rfl, HLA⟩
  case round =>
    obtain ⟨k, cnt, hk, hck, rfl, rfl, HR⟩ := hrel
    obtain ⟨A, C, ha3, hbr, hcut⟩ := HR.out
    have HAC := hid ha3
    have HBR := hid hbr
    have HCT := hid hcut
    clear ha3 hbr hcut HR HLA
    by_cases hlt : k < N1
    · have hlt' : (k : Int) < (N1 : Int) := by omega
      have HLT := hid hlt
      have HCK : Hid (cnt ≤ k ∧ cnt + 1 ≤ k + 1) := ⟨hck, by omega⟩
      have hkx : Hid (k < xs.length) := (HN.out ▸ hlt : k < xs.length)
      have HOKX := hid (HX.out.okD hkx.out)
      have HMB := hid (msB_of HOKX.out)
      obtain ⟨bb, off, hao, hbb, d0, d1, d2, d3, d4, d5, d6, d7, d8, d9, d10, d11, d12, d13, d14⟩ := HX.out.cellsD hkx.out
      subst hao
      obtain ⟨X, hX⟩ : ∃ X, X = xs.getD k default := ⟨_, rfl⟩
      rw [← hX] at d0 d1 d2 d3 d4 d5 d6 d7 d8 d9 d10 d11 d12 d13 d14 HOKX HMB
      clear hX
      obtain ⟨kd, fr, to, ⟨br, bn⟩, sl, ⟨⟨np, tk, ct, ep, cut⟩, ao1, cap1⟩, vo, vc, vs, so, sc, seen, eo, ec, evs, ti⟩ := X
      simp only at d0 d1 d2 d3 d4 d5 d6 d7 d8 d9 d10 d11 d12 d13 d14
      obtain ⟨XN, HXN⟩ : ∃ m, Hid (cut.length = m) := ⟨_, hid rfl⟩
      obtain ⟨VN, HVN⟩ : ∃ m, Hid (vs.length = m) := ⟨_, hid rfl⟩
      obtain ⟨SN, HSN⟩ : ∃ m, Hid (seen.length = m) := ⟨_, hid rfl⟩
      obtain ⟨EN, HEN⟩ : ∃ m, Hid (evs.length = m) := ⟨_, hid rfl⟩
      rw [HXN.out] at d10
      rw [HVN.out] at d11
      rw [HSN.out] at d12
      rw [HEN.out] at d13
      have c0 := (HBR.out.cell (p := ⟨bb, _, none⟩) hbb).trans d0
      have c1 := (HBR.out.cell (p := ⟨bb, _, none⟩) hbb).trans d1
      have c2 := (HBR.out.cell (p := ⟨bb, _, none⟩) hbb).trans d2
      have c3 := (HBR.out.cell (p := ⟨bb, _, none⟩) hbb).trans d3
      have c4 := (HBR.out.cell (p := ⟨bb, _, none⟩) hbb).trans d4
      have c5 := (HBR.out.cell (p := ⟨bb, _, none⟩) hbb).trans d5
      have c6 := (HBR.out.cell (p := ⟨bb, _, none⟩) hbb).trans d6
      have c7 := (HBR.out.cell (p := ⟨bb, _, none⟩) hbb).trans d7
      have c8 := (HBR.out.cell (p := ⟨bb, _, none⟩) hbb).trans d8
      have c9 := (HBR.out.cell (p := ⟨bb, _, none⟩) hbb).trans d9
      have c10 := (HBR.out.cell (p := ⟨bb, _, none⟩) hbb).trans d10
      have c11 := (HBR.out.cell (p := ⟨bb, _, none⟩) hbb).trans d11
      have c12 := (HBR.out.cell (p := ⟨bb, _, none⟩) hbb).trans d12
      have c13 := (HBR.out.cell (p := ⟨bb, _, none⟩) hbb).trans d13
      have c14 := (HBR.out.cell (p := ⟨bb, _, none⟩) hbb).trans d14
      clear d0 d1 d2 d3 d4 d5 d6 d7 d8 d9 d10 d11 d12 d13 d14
      have HON := hid (HAC.out.x.on_all HBR.out.size ⟨kd, fr, to, (br, bn), sl, ⟨⟨np, tk, ct, ep, cut⟩, ao1, cap1⟩, vo, vc, vs, so, sc, seen, eo, ec, evs, ti⟩ (HOKX.out.below HBR.out) HMB.out)
      simp only [MsM.val] at HON
      rw [HXN.out, HVN.out, HSN.out, HEN.out] at HON
      have hcnt : cnt ≤ 703687441776 := by omega
      clear hlt hk hck
      go_wp2_with fail
      refine HON.out.mono ?_
      rintro e w4 ⟨k4, nd4, fr4, r4, n4, sl4, np4, vo4, N4, vc4, RR, ok, A', rfl, hof, hac4, ht4, hb4⟩
      obtain ⟨W5, hW5⟩ : ∃ V, V = w4.alloc (.cells #[.int .i64 k4, .int .i64 nd4, .int .i64 fr4, .int .i64 r4, .int .i64 n4, .int .i64 sl4, .bool np4, .string ⟨#[]⟩, .string ⟨#[]⟩, .int .i64 0, .slice none 0 0, .slice vo4 N4 vc4, .slice none 0 0, .slice none 0 0, .int .i64 0] 38) := ⟨_, rfl⟩
      have hb5 : Below w4.heap.size w4 W5 := by rw [hW5]; exact (Below.refl _ _).alloc (Nat.le_refl _) _
      have H5 : Hid (A3 w.heap.size W5 p m q n r o A' A C) := (HAC.out.turnX hac4 ht4).below hb5
      have HB5 : Hid (Below w.heap.size w W5) := bt' (HBR.out.trans hb4) hb5
      have HOF := hid hof
      have HW5 := hid hW5
      have HOK := hid HAC.out.x.at'.ok
      clear hof hac4 ht4 hb4 hb5 hW5 HON HAC c0 c1 c2 c3 c4 c5 c6 c7 c8 c9 c10 c11 c12 c13 c14
      by_cases hR : RR = ⟨#[]⟩
      · obtain rfl : A' = A := HOF.out.empty HOK.out hR
        subst hR
        have HNX : Hid (Las w p m q n r o lim cnt W5) := ⟨_, _, H5.out, HB5.out, HCT.out⟩
        clear H5 HB5 HOF HCT
        go_wp2
        rw [← HW5.out]
        go_roundw
        case rel => exact ⟨k + 1, cnt, HLT.out, Nat.le_succ_of_le HCK.out.1, by go_num, rfl, HNX⟩
        case measure => have := HLT.out; simp [intOf]; omega
      · have HFU := hid (HOF.out.full hR)
        have hRe : ¬ RR.toList = [] := fun hh => hR (bytes_injC (hh.trans (by rw [ByteArray.toList_eq])))
        have hRb : (RR.toList == ([] : List UInt8)) = false := beq_eq_false_iff_ne.2 hRe
        obtain ⟨pr1, pr2, hpr⟩ : ∃ x y, A'.pr = (x, y) := ⟨_, _, rfl⟩
        have HPR := hid hpr
        obtain ⟨KN, HKN⟩ : ∃ x, Hid (A'.ks.length = x) := ⟨_, hid rfl⟩
        have HRP := hid (fun V (hv : AcIn w.heap.size V q n A) (hb : w.heap.size ≤ V.heap.size) => hv.replays hb HFU.out.1 HFU.out.2.1)
        have HRZ := hid (fun V (hv : AcIn w.heap.size V r o A) (hb : w.heap.size ≤ V.heap.size) => hv.replays hb HFU.out.1 HFU.out.2.1)
        rw [← HFU.out.2.2.2, ← HFU.out.2.2.1] at HRP HRZ
        clear hR hpr
        go_wp2_with fail
        rw [← HW5.out]
        refine (HRP.out _ H5.out.y HB5.out.size).mono ?_
        rintro e w6 ⟨rfl, hy6, ht6, hb6⟩
        have H6 := hid (H5.out.turnY hy6 ht6)
        have HB6 := hid (HB5.out.trans hb6)
        clear hy6 ht6 hb6 H5 HB5
        go_wp2_with fail
        refine (H6.out.x.prom HPR.out).mono ?_
        rintro e ua1 ⟨rfl, hba1⟩
        have Ha1 := hid (H6.out.below hba1)
        have Ga1 := hid hba1
        clear hba1
        go_wp2_with fail
        refine (Ha1.out.y.prom HPR.out).mono ?_
        rintro e ua2 ⟨rfl, hba2⟩
        have Ha2 := hid (Ha1.out.below hba2)
        have Ga2 := hid (bt' Ga1.out hba2)
        clear hba2
        go_wp2_with fail
        refine (Ha2.out.x.vots HKN.out).mono ?_
        rintro e ua3 ⟨voa3, vca3, rfl, HVa3, hba3⟩
        have Ha3 := hid (Ha2.out.below hba3)
        have Ga3 := hid (bt' Ga2.out hba3)
        clear hba3
        go_wp2_with fail
        refine (Ha3.out.y.vots HKN.out).mono ?_
        rintro e ua4 ⟨voa4, vca4, rfl, HVa4, hba4⟩
        have Ha4 := hid (Ha3.out.below hba4)
        have Ga4 := hid (bt' Ga3.out hba4)
        have HSa := hid (sameVo2 (vc := vca3) (vc' := vca4) HVa3 HVa4 hba4 (Below.refl _ _))
        clear hba4
        go_wp2_with fail
        refine HSa.out.mono ?_
        rintro e ua5 ⟨rfl, hba5⟩
        have Ha5 := hid (Ha4.out.below hba5)
        have Ga5 := hid (bt' Ga4.out hba5)
        clear hba5 HSa HVa3 HVa4 Ha1 Ha2 Ha3 Ha4 Ga1 Ga2 Ga3 Ga4
        have HBA : Hid (Below w.heap.size w ua5) := bt' HB6.out Ga5.out
        clear HB6 Ga5 H6
        by_cases hcn : (cnt : Int) < lim
        · have HCA : Hid (C = A) := HCT.out (by omega)
          have HZA : Hid (AcIn w.heap.size ua5 r o A) := by rw [← HCA.out]; exact Ha5.out.z
          have HCN : Hid (((cnt + 1 : Nat) : Int) ≤ lim) := (by omega : ((cnt + 1 : Nat) : Int) ≤ lim)
          go_wp2_with fail
          refine (HRZ.out _ HZA.out HBA.out.size).mono ?_
          rintro e w8 ⟨rfl, hz8, ht8, hb8⟩
          have H8 := hid (Ha5.out.turnZ hz8 ht8)
          have HB8 := hid (HBA.out.trans hb8)
          clear hz8 ht8 hb8 Ha5 HBA HZA
          go_wp2_with fail
          refine (H8.out.z.prom HPR.out).mono ?_
          rintro e ub1 ⟨rfl, hbb1⟩
          have Hb1 := hid (H8.out.below hbb1)
          have Gb1 := hid hbb1
          clear hbb1
          go_wp2_with fail
          refine (Hb1.out.x.prom HPR.out).mono ?_
          rintro e ub2 ⟨rfl, hbb2⟩
          have Hb2 := hid (Hb1.out.below hbb2)
          have Gb2 := hid (bt' Gb1.out hbb2)
          clear hbb2
          go_wp2_with fail
          refine (Hb2.out.x.vots HKN.out).mono ?_
          rintro e ub3 ⟨vob3, vcb3, rfl, HVb3, hbb3⟩
          have Hb3 := hid (Hb2.out.below hbb3)
          have Gb3 := hid (bt' Gb2.out hbb3)
          clear hbb3
          go_wp2_with fail
          refine (Hb3.out.z.vots HKN.out).mono ?_
          rintro e ub4 ⟨vob4, vcb4, rfl, HVb4, hbb4⟩
          have Hb4 := hid (Hb3.out.below hbb4)
          have Gb4 := hid (bt' Gb3.out hbb4)
          have HSb := hid (sameVo2 (vc := vcb3) (vc' := vcb4) HVb3 HVb4 hbb4 (Below.refl _ _))
          clear hbb4
          go_wp2_with fail
          refine HSb.out.mono ?_
          rintro e ub5 ⟨rfl, hbb5⟩
          have Hb5 := hid (Hb4.out.below hbb5)
          have Gb5 := hid (bt' Gb4.out hbb5)
          clear hbb5 HSb HVb3 HVb4 Hb1 Hb2 Hb3 Hb4 Gb1 Gb2 Gb3 Gb4
          have HNX : Hid (Las w p m q n r o lim (cnt + 1) ub5) := ⟨_, _, Hb5.out, bt' HB8.out Gb5.out, fun _ => rfl⟩
          clear HB8 Gb5 H8 Hb5
          go_wp2
          go_roundw
          case rel => exact ⟨k + 1, cnt + 1, HLT.out, HCK.out.2, by go_num, by go_num, HNX⟩
          case measure => have := HLT.out; simp [intOf]; omega
        · have HNX : Hid (Las w p m q n r o lim (cnt + 1) ua5) := ⟨_, _, Ha5.out, HBA.out, fun h => absurd h (by omega)⟩
          clear HBA Ha5
          go_wp2
          go_roundw
          case rel => exact ⟨k + 1, cnt + 1, HLT.out, HCK.out.2, by go_num, by go_num, HNX⟩
          case measure => have := HLT.out; simp [intOf]; omega
    · have hlt' : ¬ (k : Int) < (N1 : Int) := by omega
      obtain ⟨pr1, pr2, hpr⟩ : ∃ x y, A.pr = (x, y) := ⟨_, _, rfl⟩
      have HPR := hid hpr
      obtain ⟨KN, HKN⟩ : ∃ x, Hid (A.ks.length = x) := ⟨_, hid rfl⟩
      clear hpr hlt hk hck
      go_wp2_with fail
      refine (HAC.out.x.prom HPR.out).mono ?_
      rintro e uc1 ⟨rfl, hbc1⟩
      have Hc1 := hid (HAC.out.below hbc1)
      have Gc1 := hid hbc1
      clear hbc1
      go_wp2_with fail
      refine (Hc1.out.y.prom HPR.out).mono ?_
      rintro e uc2 ⟨rfl, hbc2⟩
      have Hc2 := hid (Hc1.out.below hbc2)
      have Gc2 := hid (bt' Gc1.out hbc2)
      clear hbc2
      go_wp2_with fail
      refine (Hc2.out.x.vots HKN.out).mono ?_
      rintro e uc3 ⟨voc3, vcc3, rfl, HVc3, hbc3⟩
      have Hc3 := hid (Hc2.out.below hbc3)
      have Gc3 := hid (bt' Gc2.out hbc3)
      clear hbc3
      go_wp2_with fail
      refine (Hc3.out.y.vots HKN.out).mono ?_
      rintro e uc4 ⟨voc4, vcc4, rfl, HVc4, hbc4⟩
      have Hc4 := hid (Hc3.out.below hbc4)
      have Gc4 := hid (bt' Gc3.out hbc4)
      have HSc := hid (sameVo2 (vc := vcc3) (vc' := vcc4) HVc3 HVc4 hbc4 (Below.refl _ _))
      clear hbc4
      go_wp2_with fail
      refine HSc.out.mono ?_
      rintro e uc5 ⟨rfl, hbc5⟩
      have Hc5 := hid (Hc4.out.below hbc5)
      have Gc5 := hid (bt' Gc4.out hbc5)
      clear hbc5 HSc HVc3 HVc4 Hc1 Hc2 Hc3 Hc4 Gc1 Gc2 Gc3 Gc4
      have HFB := hid (bt' HBR.out Gc5.out)
      clear Gc5 Hc5
      go_wp2
      go_ret
      exact ⟨rfl, HFB.out⟩
theorem acceptorLasts_walk (nd : Int) (ao : Option Addr) (cap : Nat) (xs : List MsM) (lim : Int) (w : World) (_ : -9223372036854775808 ≤ nd ∧ nd ≤ 9223372036854775807) (hx : HeldMs w ao xs) (hlx : xs.length ≤ 703687441776) (_ : -9223372036854775808 ≤ lim ∧ lim ≤ 9223372036854775807) :
    Calls Tryz.prog 3 #[.int .i64 nd, .slice ao xs.length cap, .int .i64 lim] w fun e w' => e = .returned (.bool true) ∧ Below w.heap.size w w' := by
  by_cases h : nd < 0 ∨ 7 ≤ nd
  · exact lasts_bad nd ao xs.length cap lim w h
  · exact lasts_good nd ao cap xs lim w hx hlx h
end Go.Proofs.YthcpopigkbefhaaGreat
