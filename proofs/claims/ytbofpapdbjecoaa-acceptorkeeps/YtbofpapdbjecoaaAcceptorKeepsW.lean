/-
  pannierlaw16.AcceptorKeeps answers true for whatever messages.
-/
import Derived.Test.YtbofpapdbjecoaaAcY
import Derived.Test.YtbofpapdbjecoaaMsgOpen
import Derived.Test.YtbofpapdbjecoaaAcH
namespace Go.Proofs.Ytbofpapdbjecoaa
open Go.RowKit Go.Maps

/-- Between two rounds of the loop. -/
def Kep1 (w : World) (p m : Nat) (wr : World) : Prop := ∃ a, AcIn w.heap.size wr p m a ∧ Below w.heap.size w wr
/-- Between two rounds of the inner loop. -/
def Kep2 (w : World) (p m : Nat) (b : Ac) (b12 : Nat) (r n : Int) (vo : Option Addr) (vs : List VoM) (wr : World) : Prop := AcIn w.heap.size wr p m b ∧ Below w.heap.size w wr ∧ Blk wr b12 29 [.int .i64 r, .int .i64 n] ∧ HeldVI wr vo vs
set_option maxRecDepth 1000000 in
set_option maxHeartbeats 4000000 in
theorem acceptorKeeps_walk (nd : Int) (ao : Option Addr) (cap : Nat) (xs : List MsM) (w : World) (_ : -9223372036854775808 ≤ nd ∧ nd ≤ 9223372036854775807) (hx : HeldMs w ao xs) (hlx : xs.length ≤ 703687441776) :
    Calls Try.prog 3 #[.int .i64 nd, .slice ao xs.length cap] w fun e w' => e = .returned (.bool true) ∧ Below w.heap.size w w' := by
  have HX := hid hx
  obtain ⟨N1, HN⟩ : ∃ n, Hid (xs.length = n) := ⟨_, hid rfl⟩
  rw [HN.out]
  rw [HN.out] at hlx
  clear hx
  by_cases hnd : nd < 0 ∨ 7 ≤ nd
  · have HNEW := hid (newA_bad w nd hnd)
    go_enter Try.func3, Try.ntmps3
    go_wp2_with fail
    refine HNEW.out.mono ?_
    rintro e w1 ⟨rfl, rfl⟩
    have HLV := hid (livesAc w1)
    go_wp2_with fail
    refine HLV.out.mono ?_
    rintro e w2 ⟨rfl, hb2⟩
    have HB2 := hid hb2
    clear hb2 HLV HNEW
    by_cases h0 : nd < 0
    · clear hnd
      go_wp2
      go_ret
      exact ⟨rfl, HB2.out⟩
    · have h6 : (6 : Int) < nd := by omega
      clear hnd
      go_wp2
      go_ret
      exact ⟨rfl, HB2.out⟩
  have HNEW := hid (newA_good w nd (fun h => hnd (.inl h)) (fun h => hnd (.inr h)))
  clear hnd
  go_enter Try.func3, Try.ntmps3
  go_wp2_with fail
  refine HNEW.out.mono ?_
  rintro e w1 ⟨p, m, rfl, hat, hb1, hp, hm⟩
  have HL1 : Hid (AcIn w.heap.size w1 p m (newAc nd)) := ⟨hat, hp, hm⟩
  have HB1 := hid hb1
  have HLV := hid (livesAc w1)
  clear hat hb1 hp hm HNEW
  go_wp2_with fail
  refine HLV.out.mono ?_
  rintro e w2 ⟨rfl, hb2⟩
  have HL2 := hid (HL1.out.below hb2)
  have HB2 := hid (bt' HB1.out hb2)
  clear hb2 HLV
  go_wp2
  go_loopw [7, 8, 9, 10, 11, 12, 13, 14] (fun i _ _ _ _ _ _ _ wr => ∃ k : Nat, k ≤ N1 ∧ i = .int .i64 k ∧ Hid (Kep1 w p m wr)) (fun i _ _ _ _ _ _ _ _ => N1 - (intOf i).toNat)
  case atStart => exact ⟨0, Nat.zero_le _, rfl, _, HL2.out, HB2.out⟩
  case round =>
    obtain ⟨k, hk, rfl, HR⟩ := hrel
    obtain ⟨a, hac, hbr⟩ := HR.out
    have HAC := hid hac
    have HBR := hid hbr
    clear hac hbr HR
    by_cases hlt : k < N1
    · have hlt' : (k : Int) < (N1 : Int) := by omega
      have HLT := hid hlt
      have hkx : Hid (k < xs.length) := (HN.out ▸ hlt : k < xs.length)
      have HOKX := hid (HX.out.okD hkx.out)
      have HMB := hid (msB_of HOKX.out)
      obtain ⟨bb, off, hao, hbb, d0, d1, d2, d3, d4, d5, d6, d7, d8, d9, d10, d11, d12, d13, d14⟩ := HX.out.cellsD hkx.out
      subst hao
      obtain ⟨X, hX⟩ : ∃ X, X = xs.getD k default := ⟨_, rfl⟩
      rw [← hX] at d0 d1 d2 d3 d4 d5 d6 d7 d8 d9 d10 d11 d12 d13 d14 HOKX HMB
      clear hX
      obtain ⟨kd, fr, to, ⟨br, bn⟩, sl, ⟨⟨np, tk, ct, ep, cut⟩, ao1, cap1⟩, vo, vc, vs, so, sc, seen, eo, ec, evs, ti⟩ := X
      simp only at d0 d1 d2 d3 d4 d5 d6 d7 d8 d9 d10 d11 d12 d13 d14
      obtain ⟨XN, HXN⟩ : ∃ m, Hid (cut.length = m) := ⟨_, hid rfl⟩
      obtain ⟨VN, HVN⟩ : ∃ m, Hid (vs.length = m) := ⟨_, hid rfl⟩
      obtain ⟨SN, HSN⟩ : ∃ m, Hid (seen.length = m) := ⟨_, hid rfl⟩
      obtain ⟨EN, HEN⟩ : ∃ m, Hid (evs.length = m) := ⟨_, hid rfl⟩
      rw [HXN.out] at d10
      rw [HVN.out] at d11
      rw [HSN.out] at d12
      rw [HEN.out] at d13
      have c0 := (HBR.out.cell (p := ⟨bb, _, none⟩) hbb).trans d0
      have c1 := (HBR.out.cell (p := ⟨bb, _, none⟩) hbb).trans d1
      have c2 := (HBR.out.cell (p := ⟨bb, _, none⟩) hbb).trans d2
      have c3 := (HBR.out.cell (p := ⟨bb, _, none⟩) hbb).trans d3
      have c4 := (HBR.out.cell (p := ⟨bb, _, none⟩) hbb).trans d4
      have c5 := (HBR.out.cell (p := ⟨bb, _, none⟩) hbb).trans d5
      have c6 := (HBR.out.cell (p := ⟨bb, _, none⟩) hbb).trans d6
      have c7 := (HBR.out.cell (p := ⟨bb, _, none⟩) hbb).trans d7
      have c8 := (HBR.out.cell (p := ⟨bb, _, none⟩) hbb).trans d8
      have c9 := (HBR.out.cell (p := ⟨bb, _, none⟩) hbb).trans d9
      have c10 := (HBR.out.cell (p := ⟨bb, _, none⟩) hbb).trans d10
      have c11 := (HBR.out.cell (p := ⟨bb, _, none⟩) hbb).trans d11
      have c12 := (HBR.out.cell (p := ⟨bb, _, none⟩) hbb).trans d12
      have c13 := (HBR.out.cell (p := ⟨bb, _, none⟩) hbb).trans d13
      have c14 := (HBR.out.cell (p := ⟨bb, _, none⟩) hbb).trans d14
      clear d0 d1 d2 d3 d4 d5 d6 d7 d8 d9 d10 d11 d12 d13 d14
      have HMS : Hid (∀ V, Below w.heap.size w V → (V.cell? ⟨bb, off + k * 15, none⟩ = some (.int .i64 kd) ∧ V.cell? ⟨bb, off + k * 15 + 1, none⟩ = some (.int .i64 fr) ∧ V.cell? ⟨bb, off + k * 15 + 2, none⟩ = some (.int .i64 to) ∧ V.cell? ⟨bb, off + k * 15 + 3, none⟩ = some (.int .i64 br) ∧ V.cell? ⟨bb, off + k * 15 + 4, none⟩ = some (.int .i64 bn) ∧ V.cell? ⟨bb, off + k * 15 + 5, none⟩ = some (.int .i64 sl) ∧ V.cell? ⟨bb, off + k * 15 + 6, none⟩ = some (.bool np) ∧ V.cell? ⟨bb, off + k * 15 + 7, none⟩ = some (.string tk) ∧ V.cell? ⟨bb, off + k * 15 + 8, none⟩ = some (.string ct) ∧ V.cell? ⟨bb, off + k * 15 + 9, none⟩ = some (.int .i64 ep) ∧ V.cell? ⟨bb, off + k * 15 + 10, none⟩ = some (.slice ao1 XN cap1) ∧ V.cell? ⟨bb, off + k * 15 + 11, none⟩ = some (.slice vo VN vc) ∧ V.cell? ⟨bb, off + k * 15 + 12, none⟩ = some (.slice so SN sc) ∧ V.cell? ⟨bb, off + k * 15 + 13, none⟩ = some (.slice eo EN ec) ∧ V.cell? ⟨bb, off + k * 15 + 14, none⟩ = some (.int .i64 ti))) := fun V hV =>
        ⟨(hV.cell (p := ⟨bb, _, none⟩) hbb).trans ((HBR.out.cell (p := ⟨bb, _, none⟩) hbb).symm.trans c0), (hV.cell (p := ⟨bb, _, none⟩) hbb).trans ((HBR.out.cell (p := ⟨bb, _, none⟩) hbb).symm.trans c1), (hV.cell (p := ⟨bb, _, none⟩) hbb).trans ((HBR.out.cell (p := ⟨bb, _, none⟩) hbb).symm.trans c2), (hV.cell (p := ⟨bb, _, none⟩) hbb).trans ((HBR.out.cell (p := ⟨bb, _, none⟩) hbb).symm.trans c3), (hV.cell (p := ⟨bb, _, none⟩) hbb).trans ((HBR.out.cell (p := ⟨bb, _, none⟩) hbb).symm.trans c4), (hV.cell (p := ⟨bb, _, none⟩) hbb).trans ((HBR.out.cell (p := ⟨bb, _, none⟩) hbb).symm.trans c5), (hV.cell (p := ⟨bb, _, none⟩) hbb).trans ((HBR.out.cell (p := ⟨bb, _, none⟩) hbb).symm.trans c6), (hV.cell (p := ⟨bb, _, none⟩) hbb).trans ((HBR.out.cell (p := ⟨bb, _, none⟩) hbb).symm.trans c7), (hV.cell (p := ⟨bb, _, none⟩) hbb).trans ((HBR.out.cell (p := ⟨bb, _, none⟩) hbb).symm.trans c8), (hV.cell (p := ⟨bb, _, none⟩) hbb).trans ((HBR.out.cell (p := ⟨bb, _, none⟩) hbb).symm.trans c9), (hV.cell (p := ⟨bb, _, none⟩) hbb).trans ((HBR.out.cell (p := ⟨bb, _, none⟩) hbb).symm.trans c10), (hV.cell (p := ⟨bb, _, none⟩) hbb).trans ((HBR.out.cell (p := ⟨bb, _, none⟩) hbb).symm.trans c11), (hV.cell (p := ⟨bb, _, none⟩) hbb).trans ((HBR.out.cell (p := ⟨bb, _, none⟩) hbb).symm.trans c12), (hV.cell (p := ⟨bb, _, none⟩) hbb).trans ((HBR.out.cell (p := ⟨bb, _, none⟩) hbb).symm.trans c13), (hV.cell (p := ⟨bb, _, none⟩) hbb).trans ((HBR.out.cell (p := ⟨bb, _, none⟩) hbb).symm.trans c14)⟩
      clear c0 c1 c2 c3 c4 c5 c6 c7 c8 c9 c10 c11 c12 c13 c14
      obtain ⟨pr, pn, hpr⟩ : ∃ x y, a.pr = (x, y) := ⟨_, _, rfl⟩
      have HPR := hid hpr
      have HPD := hid HAC.out.at'.promised
      unfold PromP at HPD
      rw [HPR.out] at HPD
      clear hlt hk hpr
      go_wp2_with fail
      refine HPD.out.mono ?_
      rintro e w4 ⟨rfl, hb4⟩
      obtain ⟨W5, hW5⟩ : ∃ V, V = w4.alloc (.cells #[.int .i64 pr, .int .i64 pn] 29) := ⟨_, rfl⟩
      have hb5 : Below w4.heap.size w4 W5 := by rw [hW5]; exact (Below.refl _ _).alloc (Nat.le_refl _) _
      obtain ⟨b8, hb8⟩ : ∃ q, q = w4.heap.size := ⟨_, rfl⟩
      have HK8 : Hid (Blk W5 b8 29 [.int .i64 pr, .int .i64 pn]) := by rw [hW5, hb8]; exact Blk.new w4 _ _
      have HL5 := hid ((HAC.out.below hb4).below hb5)
      have HB5 := hid (bt' (bt' HBR.out hb4) hb5)
      have HF8 : Hid (¬ FootA p m b8) := fun hf => by have := HAC.out.at'.lt _ hf; have := hb4.size; omega
      have HW5 := hid hW5
      have HE8 := hid hb8
      obtain ⟨c0, c1, c2, c3, c4, c5, c6, c7, c8, c9, c10, c11, c12, c13, c14⟩ := HMS.out _ HB5.out
      rw [HW5.out] at c0 c1 c2 c3 c4 c5 c6 c7 c8 c9 c10 c11 c12 c13 c14
      have HON := hid (HL5.out.on_all HB5.out.size ⟨kd, fr, to, (br, bn), sl, ⟨⟨np, tk, ct, ep, cut⟩, ao1, cap1⟩, vo, vc, vs, so, sc, seen, eo, ec, evs, ti⟩ (HOKX.out.below HB5.out) HMB.out)
      simp only [MsM.val] at HON
      rw [HXN.out, HVN.out, HSN.out, HEN.out] at HON
      clear hb4 hb5 hW5 hb8 HPD
      go_wp2_with fail
      rw [← HW5.out, ← HE8.out]
      refine HON.out.mono ?_
      rintro e w6 ⟨k6, nd6, fr6, r6, n6, sl6, np6, vo6, N6, vc6, R6, ok6, b, rfl, hof, hac6, ht6, hb6⟩
      obtain ⟨W7, hW7⟩ : ∃ V, V = w6.alloc (.cells #[.int .i64 k6, .int .i64 nd6, .int .i64 fr6, .int .i64 r6, .int .i64 n6, .int .i64 sl6, .bool np6, .string ⟨#[]⟩, .string ⟨#[]⟩, .int .i64 0, .slice none 0 0, .slice vo6 N6 vc6, .slice none 0 0, .slice none 0 0, .int .i64 0] 39) := ⟨_, rfl⟩
      have hb7 : Below w6.heap.size w6 W7 := by rw [hW7]; exact (Below.refl _ _).alloc (Nat.le_refl _) _
      obtain ⟨b9, hb9⟩ : ∃ q, q = w6.heap.size := ⟨_, rfl⟩
      have HK9 : Hid (Blk W7 b9 39 [.int .i64 k6, .int .i64 nd6, .int .i64 fr6, .int .i64 r6, .int .i64 n6, .int .i64 sl6, .bool np6, .string ⟨#[]⟩, .string ⟨#[]⟩, .int .i64 0, .slice none 0 0, .slice vo6 N6 vc6, .slice none 0 0, .slice none 0 0, .int .i64 0]) := by rw [hW7, hb9]; exact Blk.new w6 _ _
      have HL7 := hid (hac6.below hb7)
      have HB7 := hid (bt' (HB5.out.trans hb6) hb7)
      have HK87 := hid ((ht6.blk HK8.out HF8.out).below hb7 (ht6.blk HK8.out HF8.out).lt)
      have HOF := hid hof
      have HW7 := hid hW7
      have HE9 := hid hb9
      obtain ⟨ar, an, har⟩ : ∃ x y, b.pr = (x, y) := ⟨_, _, rfl⟩
      have HAR := hid har
      have HPD := hid HL7.out.at'.promised
      unfold PromP at HPD
      rw [HAR.out] at HPD
      clear hof hac6 ht6 hb6 hb7 hW7 hb9 har HON c0 c1 c2 c3 c4 c5 c6 c7 c8 c9 c10 c11 c12 c13 c14
      go_wp2_with fail
      rw [← HW7.out, ← HE9.out]
      refine HPD.out.mono ?_
      rintro e w8 ⟨rfl, hb8⟩
      obtain ⟨W9, hW9⟩ : ∃ V, V = w8.alloc (.cells #[.int .i64 ar, .int .i64 an] 29) := ⟨_, rfl⟩
      have hb9 : Below w8.heap.size w8 W9 := by rw [hW9]; exact (Below.refl _ _).alloc (Nat.le_refl _) _
      obtain ⟨b12, hb12⟩ : ∃ q, q = w8.heap.size := ⟨_, rfl⟩
      have HK12 : Hid (Blk W9 b12 29 [.int .i64 ar, .int .i64 an]) := by rw [hW9, hb12]; exact Blk.new w8 _ _
      have HL9 := hid ((HL7.out.below hb8).below hb9)
      have HB9 := hid (bt' (bt' HB7.out hb8) hb9)
      have HK89 := hid ((HK87.out.below hb8 HK87.out.lt).below hb9 (HK87.out.below hb8 HK87.out.lt).lt)
      have HK99 := hid ((HK9.out.below hb8 HK9.out.lt).below hb9 (HK9.out.below hb8 HK9.out.lt).lt)
      have HW9 := hid hW9
      have HE12 := hid hb12
      obtain ⟨cc, HCC⟩ : ∃ c, Hid (cmpB (ar, an) (pr, pn) = c) := ⟨_, hid rfl⟩
      have hcc : ¬ cc < (0 : Int) := by
        rw [← HCC.out, ← HAR.out, ← HPR.out]
        cases ok6
        · rw [(HOF.out.no rfl).1, cmpB_same]; omega
        · rw [(HOF.out.yes rfl).2.2.1]; exact after_le
      have HCP := hid (compareB W9 (ar, an) (pr, pn))
      simp only [blt] at HCP
      rw [HCC.out] at HCP
      have s0 := HK89.out.cell (i := 0) rfl
      have s1 := HK89.out.cell (i := 1) rfl
      have t0 := HK12.out.cell (i := 0) rfl
      have t1 := HK12.out.cell (i := 1) rfl
      rw [HW9.out] at s0 s1 t0 t1
      rw [HE12.out] at t0 t1
      clear hb8 hb9 hW9 hb12 HPD
      go_wp2_with fail
      rw [← HW9.out, ← HE12.out]
      refine HCP.out.mono ?_
      rintro e w10 ⟨rfl, hb10⟩
      have HL10 := hid (HL9.out.below hb10)
      have HB10 := hid (bt' HB9.out hb10)
      have HK8A := hid (HK89.out.below hb10 HK89.out.lt)
      have HK9A := hid (HK99.out.below hb10 HK99.out.lt)
      have HK12A := hid (HK12.out.below hb10 HK12.out.lt)
      clear hb10 HCP s0 s1 t0 t1
      have s0 := HK8A.out.cell (i := 0) rfl
      have s1 := HK8A.out.cell (i := 1) rfl
      have t0 := HK12A.out.cell (i := 0) rfl
      have t1 := HK12A.out.cell (i := 1) rfl
      have u0 := HK9A.out.cell (i := 0) rfl
      have u3 := HK9A.out.cell (i := 3) rfl
      have u4 := HK9A.out.cell (i := 4) rfl
      cases ok6
      case false =>
        obtain ⟨hba, rfl⟩ := HOF.out.no rfl
        have hap : ar = pr ∧ an = pn := by have h1 := HAR.out; rw [hba, HPR.out] at h1; cases h1; exact ⟨rfl, rfl⟩
        obtain ⟨rfl, rfl⟩ := hap
        clear hba
        go_wp2_with fail
        go_quiet (fail)
        obtain ⟨w11, hw11⟩ : ∃ V, V = w10.drewN nq := ⟨_, rfl⟩
        rw [← hw11]
        have hs11 : ScL w10 w11 := by rw [hw11]; exact ⟨below_dn (Below.refl _ _) nq⟩
        clear hw11
        have HL11 := hid (HL10.out.below hs11.out)
        have HB11 := hid (bt' HB10.out hs11.out)
        have HK12B := hid (HK12A.out.below hs11.out HK12A.out.lt)
        have HK8B := hid (HK8A.out.below hs11.out HK8A.out.lt)
        have HK9B := hid (HK9A.out.below hs11.out HK9A.out.lt)
        clear s0 s1 t0 t1 u0 u3 u4
        have s0 := HK8B.out.cell (i := 0) rfl
        have s1 := HK8B.out.cell (i := 1) rfl
        have t0 := HK12B.out.cell (i := 0) rfl
        have t1 := HK12B.out.cell (i := 1) rfl
        have u0 := HK9B.out.cell (i := 0) rfl
        have u3 := HK9B.out.cell (i := 3) rfl
        have u4 := HK9B.out.cell (i := 4) rfl
        have HVO := hid HL11.out.at'.votes
        clear hs11
        go_wp2_with fail
        refine HVO.out.mono ?_
        rintro e w12 ⟨vot, vct, vts, rfl, hmap, hheld, hlen, _, hb12⟩
        obtain ⟨VV, HVV⟩ : ∃ q, Hid (vts.length = q) := ⟨_, hid rfl⟩
        rw [HVV.out]
        have hVL : VV ≤ 4096 := by rw [← HVV.out]; exact hlen
        have HMAP := hid hmap
        have HKP : Hid (Kep2 w p m b b12 ar an vot vts w12) := ⟨HL11.out.below hb12, bt' HB11.out hb12, HK12B.out.below hb12 HK12B.out.lt, hheld⟩
        clear hmap hheld hlen hb12 HVO s0 s1 t0 t1 u0 u3 u4
        go_wp2
        go_loopw [14] (fun x wr => ∃ j : Nat, j ≤ VV ∧ x = .int .i64 j ∧ Hid (Kep2 w p m b b12 ar an vot vts wr)) (fun x _ => VV - (intOf x).toNat)
        case atStart => exact ⟨0, Nat.zero_le _, rfl, HKP⟩
        case round =>
          obtain ⟨j, hj, rfl, HR⟩ := hrel
          have HA := hid HR.out.1
          have HBZ := hid HR.out.2.1
          have HKZ := hid HR.out.2.2.1
          have HHV := hid HR.out.2.2.2
          clear HR
          by_cases hlt : j < VV
          · have hlt2 : (j : Int) < (VV : Int) := by omega
            have HJ := hid hlt
            have hjx : Hid (j < vts.length) := (HVV.out ▸ hlt : j < vts.length)
            have HYC : Hid (cmpB (vts[j]'hjx.out).bal (ar, an) ≤ 0) := by
              obtain ⟨_, _, h3⟩ := votes_at HA.out.at'.ok HMAP.out hjx.out
              rw [HAR.out] at h3
              exact h3
            have HRI : Hid (∀ i, (e : j = i + 1) → ∃ hi : i < vts.length, (vts[i]'hi).slot < (vts[j]'hjx.out).slot) := fun i e => by
              subst e
              exact ⟨Nat.lt_of_succ_lt hjx.out, votes_rise HA.out.at'.ok HMAP.out hjx.out⟩
            obtain ⟨gv, fv, hgo, hgv, ev⟩ := HHV.out.held.at hjx.out
            subst hgo
            obtain ⟨Y, hY⟩ : ∃ Y, Y = vts[j]'hjx.out := ⟨_, rfl⟩
            rw [← hY] at ev HYC HRI
            clear hY
            obtain ⟨ys, ⟨yr, yn⟩, ye⟩ := Y
            have e0 := ev 0 _ rfl
            have e1 := ev 1 _ rfl
            have e2 := ev 2 _ rfl
            have t0 := HKZ.out.cell (i := 0) rfl
            have t1 := HKZ.out.cell (i := 1) rfl
            obtain ⟨cy, HCYe⟩ : ∃ c, Hid (cmpB (yr, yn) (ar, an) = c) := ⟨_, hid rfl⟩
            have hcy : decide ((0 : Int) < cy) = false := decide_eq_false (by rw [← HCYe.out]; have := HYC.out; simp only at this; omega)
            have HCY : Hid (∀ V, ScL wr V → Calls Try.prog 9 #[.agg #[.int .i64 yr, .int .i64 yn], .agg #[.int .i64 ar, .int .i64 an]] V fun e w' => e = .returned (.int .i64 cy) ∧ ScL wr w') := fun V hV => by
              have h1 := compareB V (yr, yn) (ar, an)
              rw [HCYe.out] at h1
              exact h1.mono fun e w' ⟨h2, h3⟩ => ⟨h2, hV.go h3⟩
            clear ev hlt hj
            by_cases hj0 : j = 0
            · subst hj0
              rw [Nat.zero_mul, Nat.add_zero] at e0 e1 e2
              have HSV : Hid (∀ V, ScL wr V → (ScL wr V ∧ V.cell? ⟨gv, fv + 1, none⟩ = some (.int .i64 yr) ∧ V.cell? ⟨gv, fv + 2, none⟩ = some (.int .i64 yn) ∧ V.cell? ⟨gv, fv, none⟩ = some (.int .i64 ys) ∧ V.cell? ⟨b12, 0, none⟩ = some (.int .i64 ar) ∧ V.cell? ⟨b12, 1, none⟩ = some (.int .i64 an))) := fun V hV => ⟨hV, (hV.out.cell (p := ⟨gv, _, none⟩) hgv).trans e1, (hV.out.cell (p := ⟨gv, _, none⟩) hgv).trans e2, (hV.out.cell (p := ⟨gv, _, none⟩) hgv).trans e0, (hV.out.cell (p := ⟨b12, _, none⟩) HKZ.out.lt).trans t0, (hV.out.cell (p := ⟨b12, _, none⟩) HKZ.out.lt).trans t1⟩
              clear e0 e1 e2 t0 t1
              go_wp2
              refine wp_region_noPanic ?_
              refine wp_region_held_drew (S := (fun V => ScL wr V ∧ V.cell? ⟨gv, fv + 1, none⟩ = some (.int .i64 yr) ∧ V.cell? ⟨gv, fv + 2, none⟩ = some (.int .i64 yn) ∧ V.cell? ⟨gv, fv, none⟩ = some (.int .i64 ys) ∧ V.cell? ⟨b12, 0, none⟩ = some (.int .i64 ar) ∧ V.cell? ⟨b12, 1, none⟩ = some (.int .i64 an))) (by kernel_rfl) (HSV.out _ (ScL.start _).dr) (fun hHeld => ?_)
              refine wpAnyH_take (i := 0) (oi := { dst := some 125, op := Op.move (Operand.tmp 13), type := 36, pos := "law.go:100", after := #[], guard := none }) (v := ?va0u1) rfl (by kernel_rfl) (by kernel_rfl) (by kernel_rfl) (fun _ _ _ h => h) (Or.inl ⟨by rfl, ?ha0u1⟩) (by assumption) ?ra0u1
              case ha0u1 => (intro w0 hSw; (try dsimp only at hSw); go_simp; try with_reducible rfl)
              try simp only [Act.put, List.setIfInBounds_toArray, List.set_cons_zero, List.set_cons_succ]
              refine wpAnyH_take (i := 1) (oi := { dst := some 126, op := Op.move (Operand.tmp 14), type := 3, pos := "law.go:100", after := #[], guard := none }) (v := ?va1u1) rfl (by kernel_rfl) (by kernel_rfl) (by kernel_rfl) (fun _ _ _ h => h) (Or.inl ⟨by rfl, ?ha1u1⟩) (by assumption) ?ra1u1
              case ha1u1 => (intro w0 hSw; (try dsimp only at hSw); go_simp; try with_reducible rfl)
              try simp only [Act.put, List.setIfInBounds_toArray, List.set_cons_zero, List.set_cons_succ]
              refine wpAnyH_take (i := 2) (oi := { dst := some 127, op := Op.indexAddr 36 (Operand.tmp 125) (Operand.tmp 126), type := 0, pos := "law.go:100", after := #[{ on := 0, ground := Ground.data }, { on := 1, ground := Ground.data }], guard := none }) (v := ?va2u1) rfl (by kernel_rfl) (by kernel_rfl) (by kernel_rfl) (fun _ _ _ h => h) (Or.inl ⟨by rfl, ?ha2u1⟩) (by assumption) ?ra2u1
              case ha2u1 => (intro w0 hSw; (try dsimp only at hSw); go_simp; try with_reducible rfl)
              try simp only [Act.put, List.setIfInBounds_toArray, List.set_cons_zero, List.set_cons_succ]
              refine wpAnyH_take (i := 3) (oi := { dst := some 128, op := Op.fieldAddr 45 (Operand.tmp 127) 1, type := 0, pos := "law.go:100", after := #[{ on := 2, ground := Ground.data }], guard := none }) (v := ?va3u1) rfl (by kernel_rfl) (by kernel_rfl) (by kernel_rfl) (fun _ _ _ h => h) (Or.inl ⟨by rfl, ?ha3u1⟩) (by assumption) ?ra3u1
              case ha3u1 => (intro w0 hSw; (try dsimp only at hSw); go_simp; try with_reducible rfl)
              try simp only [Act.put, List.setIfInBounds_toArray, List.set_cons_zero, List.set_cons_succ]
              refine wpAnyH_take (i := 4) (oi := { dst := some 129, op := Op.load 29 (Operand.tmp 128), type := 29, pos := "law.go:100", after := #[{ on := 3, ground := Ground.data }], guard := none }) (v := ?va4u1) rfl (by kernel_rfl) (by kernel_rfl) (by kernel_rfl) (fun _ _ _ h => h) (Or.inl ⟨by rfl, ?ha4u1⟩) (by assumption) ?ra4u1
              case ha4u1 => (intro w0 hSw; (try dsimp only at hSw); go_simp; try with_reducible rfl)
              try simp only [Act.put, List.setIfInBounds_toArray, List.set_cons_zero, List.set_cons_succ]
              refine wpAnyH_take (i := 5) (oi := { dst := some 130, op := Op.load 29 (Operand.tmp 12), type := 29, pos := "law.go:100", after := #[], guard := none }) (v := ?va5u1) rfl (by kernel_rfl) (by kernel_rfl) (by kernel_rfl) (fun _ _ _ h => h) (Or.inl ⟨by rfl, ?ha5u1⟩) (by assumption) ?ra5u1
              case ha5u1 => (intro w0 hSw; (try dsimp only at hSw); go_simp; try with_reducible rfl)
              try simp only [Act.put, List.setIfInBounds_toArray, List.set_cons_zero, List.set_cons_succ]
              refine wpAnyH_ready (rs := [6]) (by kernel_rfl) (by simp) ?_
              refine AllReadyH.cons (o := { dst := some 131, op := Op.call { callee := Callee.value (Operand.func 9), args := #[Operand.tmp 129, Operand.tmp 130], argTypes := #[29, 29] }, type := 3, pos := "law.go:100", after := #[{ on := 4, ground := Ground.data }, { on := 5, ground := Ground.data }], guard := none }) rfl (fun K hK => ?_) AllReadyH.nil
              go_simp
              go_at_call 9; refine (HCY.out _ (by (repeat (first | assumption | exact ScL.start _ | apply ScL.dr)))).mono ?_; rintro e w15 ⟨rfl, hs15⟩
              refine hK.out _ _ (HSV.out _ hs15) (fun hHeld => ?_)
              clear hK K
              try simp only [Act.put, List.setIfInBounds_toArray, List.set_cons_zero, List.set_cons_succ]
              refine wpAnyH_take (i := 7) (oi := { dst := some 132, op := Op.binOp BinOp.gtr 3 (Operand.tmp 131) (Operand.const (Value.int IntKind.i64 0)) 3, type := 4, pos := "law.go:100", after := #[{ on := 6, ground := Ground.data }], guard := none }) (v := ?va7u1) rfl (by kernel_rfl) (by kernel_rfl) (by kernel_rfl) (fun _ _ _ h => h) (Or.inl ⟨by rfl, ?ha7u1⟩) (by assumption) ?ra7u1
              case ha7u1 => (intro w0 hSw; (try dsimp only at hSw); go_simp; try with_reducible rfl)
              try simp only [Act.put, List.setIfInBounds_toArray, List.set_cons_zero, List.set_cons_succ]
              refine wpAnyH_take (i := 8) (oi := { dst := some 133, op := Op.move (Operand.tmp 132), type := 4, pos := "law.go:100", after := #[{ on := 7, ground := Ground.data }, { on := 6, ground := Ground.chain }], guard := none }) (v := ?va8u1) rfl (by kernel_rfl) (by kernel_rfl) (by kernel_rfl) (fun _ _ _ h => h) (Or.inl ⟨by rfl, ?ha8u1⟩) (by assumption) ?ra8u1
              case ha8u1 => (intro w0 hSw; (try dsimp only at hSw); go_simp; try with_reducible rfl)
              try simp only [Act.put, List.setIfInBounds_toArray, List.set_cons_zero, List.set_cons_succ]
              refine wpAnyH_take (i := 9) (oi := { dst := some 134, op := Op.move (Operand.tmp 14), type := 3, pos := "law.go:100", after := #[{ on := 8, ground := Ground.guard }], guard := some (8, false) }) (v := ?va9u1) rfl (by kernel_rfl) (by kernel_rfl) (by kernel_rfl) (fun _ _ _ h => h) (Or.inl ⟨by rfl, ?ha9u1⟩) (by assumption) ?ra9u1
              case ha9u1 => (intro w0 hSw; (try dsimp only at hSw); go_simp; try with_reducible rfl)
              try simp only [Act.put, List.setIfInBounds_toArray, List.set_cons_zero, List.set_cons_succ]
              refine wpAnyH_take (i := 10) (oi := { dst := some 135, op := Op.binOp BinOp.gtr 3 (Operand.tmp 134) (Operand.const (Value.int IntKind.i64 0)) 3, type := 4, pos := "law.go:100", after := #[{ on := 9, ground := Ground.data }, { on := 8, ground := Ground.guard }], guard := some (8, false) }) (v := ?va10u1) rfl (by kernel_rfl) (by kernel_rfl) (by kernel_rfl) (fun _ _ _ h => h) (Or.inl ⟨by rfl, ?ha10u1⟩) (by assumption) ?ra10u1
              case ha10u1 => (intro w0 hSw; (try dsimp only at hSw); go_simp; try with_reducible rfl)
              try simp only [Act.put, List.setIfInBounds_toArray, List.set_cons_zero, List.set_cons_succ]
              refine wpAnyH_take (i := 11) (oi := { dst := some 136, op := Op.move (Operand.tmp 135), type := 4, pos := "law.go:100", after := #[{ on := 10, ground := Ground.data }, { on := 8, ground := Ground.chain }, { on := 8, ground := Ground.guard }], guard := some (8, false) }) (v := ?va11u1) rfl (by kernel_rfl) (by kernel_rfl) (by kernel_rfl) (fun _ _ _ h => h) (Or.inl ⟨by rfl, ?ha11u1⟩) (by assumption) ?ra11u1
              case ha11u1 => (intro w0 hSw; (try dsimp only at hSw); go_simp; try with_reducible rfl)
              try simp only [Act.put, List.setIfInBounds_toArray, List.set_cons_zero, List.set_cons_succ]
              refine wpAnyH_take (i := 12) (oi := { dst := some 137, op := Op.move (Operand.tmp 13), type := 36, pos := "law.go:100", after := #[{ on := 11, ground := Ground.guard }], guard := some (11, true) }) (v := undef) rfl (by kernel_rfl) (by kernel_rfl) (by kernel_rfl) (fun _ _ _ h => h) (Or.inr ⟨by rfl, rfl⟩) (by assumption) ?_
              try simp only [Act.put, List.setIfInBounds_toArray, List.set_cons_zero, List.set_cons_succ]
              refine wpAnyH_take (i := 13) (oi := { dst := some 138, op := Op.move (Operand.tmp 14), type := 3, pos := "law.go:100", after := #[{ on := 11, ground := Ground.guard }], guard := some (11, true) }) (v := undef) rfl (by kernel_rfl) (by kernel_rfl) (by kernel_rfl) (fun _ _ _ h => h) (Or.inr ⟨by rfl, rfl⟩) (by assumption) ?_
              try simp only [Act.put, List.setIfInBounds_toArray, List.set_cons_zero, List.set_cons_succ]
              refine wpAnyH_take (i := 14) (oi := { dst := some 139, op := Op.binOp BinOp.sub 3 (Operand.tmp 138) (Operand.const (Value.int IntKind.i64 1)) 3, type := 3, pos := "law.go:100", after := #[{ on := 13, ground := Ground.data }, { on := 11, ground := Ground.guard }], guard := some (11, true) }) (v := undef) rfl (by kernel_rfl) (by kernel_rfl) (by kernel_rfl) (fun _ _ _ h => h) (Or.inr ⟨by rfl, rfl⟩) (by assumption) ?_
              try simp only [Act.put, List.setIfInBounds_toArray, List.set_cons_zero, List.set_cons_succ]
              refine wpAnyH_take (i := 15) (oi := { dst := some 140, op := Op.indexAddr 36 (Operand.tmp 137) (Operand.tmp 139), type := 0, pos := "law.go:100", after := #[{ on := 12, ground := Ground.data }, { on := 14, ground := Ground.data }, { on := 11, ground := Ground.guard }], guard := some (11, true) }) (v := undef) rfl (by kernel_rfl) (by kernel_rfl) (by kernel_rfl) (fun _ _ _ h => h) (Or.inr ⟨by rfl, rfl⟩) (by assumption) ?_
              try simp only [Act.put, List.setIfInBounds_toArray, List.set_cons_zero, List.set_cons_succ]
              refine wpAnyH_take (i := 16) (oi := { dst := some 141, op := Op.fieldAddr 45 (Operand.tmp 140) 0, type := 0, pos := "law.go:100", after := #[{ on := 15, ground := Ground.data }, { on := 11, ground := Ground.guard }], guard := some (11, true) }) (v := undef) rfl (by kernel_rfl) (by kernel_rfl) (by kernel_rfl) (fun _ _ _ h => h) (Or.inr ⟨by rfl, rfl⟩) (by assumption) ?_
              try simp only [Act.put, List.setIfInBounds_toArray, List.set_cons_zero, List.set_cons_succ]
              refine wpAnyH_take (i := 17) (oi := { dst := some 142, op := Op.load 3 (Operand.tmp 141), type := 3, pos := "law.go:100", after := #[{ on := 16, ground := Ground.data }, { on := 11, ground := Ground.guard }], guard := some (11, true) }) (v := undef) rfl (by kernel_rfl) (by kernel_rfl) (by kernel_rfl) (fun _ _ _ h => h) (Or.inr ⟨by rfl, rfl⟩) (by assumption) ?_
              try simp only [Act.put, List.setIfInBounds_toArray, List.set_cons_zero, List.set_cons_succ]
              refine wpAnyH_take (i := 18) (oi := { dst := some 143, op := Op.move (Operand.tmp 13), type := 36, pos := "law.go:100", after := #[{ on := 11, ground := Ground.guard }], guard := some (11, true) }) (v := undef) rfl (by kernel_rfl) (by kernel_rfl) (by kernel_rfl) (fun _ _ _ h => h) (Or.inr ⟨by rfl, rfl⟩) (by assumption) ?_
              try simp only [Act.put, List.setIfInBounds_toArray, List.set_cons_zero, List.set_cons_succ]
              refine wpAnyH_take (i := 19) (oi := { dst := some 144, op := Op.move (Operand.tmp 14), type := 3, pos := "law.go:100", after := #[{ on := 11, ground := Ground.guard }], guard := some (11, true) }) (v := undef) rfl (by kernel_rfl) (by kernel_rfl) (by kernel_rfl) (fun _ _ _ h => h) (Or.inr ⟨by rfl, rfl⟩) (by assumption) ?_
              try simp only [Act.put, List.setIfInBounds_toArray, List.set_cons_zero, List.set_cons_succ]
              refine wpAnyH_take (i := 20) (oi := { dst := some 145, op := Op.indexAddr 36 (Operand.tmp 143) (Operand.tmp 144), type := 0, pos := "law.go:100", after := #[{ on := 18, ground := Ground.data }, { on := 19, ground := Ground.data }, { on := 11, ground := Ground.guard }], guard := some (11, true) }) (v := undef) rfl (by kernel_rfl) (by kernel_rfl) (by kernel_rfl) (fun _ _ _ h => h) (Or.inr ⟨by rfl, rfl⟩) (by assumption) ?_
              try simp only [Act.put, List.setIfInBounds_toArray, List.set_cons_zero, List.set_cons_succ]
              refine wpAnyH_take (i := 21) (oi := { dst := some 146, op := Op.fieldAddr 45 (Operand.tmp 145) 0, type := 0, pos := "law.go:100", after := #[{ on := 20, ground := Ground.data }, { on := 11, ground := Ground.guard }], guard := some (11, true) }) (v := undef) rfl (by kernel_rfl) (by kernel_rfl) (by kernel_rfl) (fun _ _ _ h => h) (Or.inr ⟨by rfl, rfl⟩) (by assumption) ?_
              try simp only [Act.put, List.setIfInBounds_toArray, List.set_cons_zero, List.set_cons_succ]
              refine wpAnyH_take (i := 22) (oi := { dst := some 147, op := Op.load 3 (Operand.tmp 146), type := 3, pos := "law.go:100", after := #[{ on := 21, ground := Ground.data }, { on := 11, ground := Ground.guard }], guard := some (11, true) }) (v := undef) rfl (by kernel_rfl) (by kernel_rfl) (by kernel_rfl) (fun _ _ _ h => h) (Or.inr ⟨by rfl, rfl⟩) (by assumption) ?_
              try simp only [Act.put, List.setIfInBounds_toArray, List.set_cons_zero, List.set_cons_succ]
              refine wpAnyH_take (i := 23) (oi := { dst := some 148, op := Op.binOp BinOp.geq 3 (Operand.tmp 142) (Operand.tmp 147) 3, type := 4, pos := "law.go:100", after := #[{ on := 17, ground := Ground.data }, { on := 22, ground := Ground.data }, { on := 11, ground := Ground.guard }], guard := some (11, true) }) (v := undef) rfl (by kernel_rfl) (by kernel_rfl) (by kernel_rfl) (fun _ _ _ h => h) (Or.inr ⟨by rfl, rfl⟩) (by assumption) ?_
              try simp only [Act.put, List.setIfInBounds_toArray, List.set_cons_zero, List.set_cons_succ]
              refine wpAnyH_take (i := 24) (oi := { dst := some 149, op := Op.pick (Operand.tmp 136) (Operand.tmp 148) (Operand.const (Value.bool false)), type := 4, pos := "law.go:100", after := #[{ on := 11, ground := Ground.data }, { on := 23, ground := Ground.data }, { on := 8, ground := Ground.guard }], guard := some (8, false) }) (v := ?va24u1) rfl (by kernel_rfl) (by kernel_rfl) (by kernel_rfl) (fun _ _ _ h => h) (Or.inl ⟨by rfl, ?ha24u1⟩) (by assumption) ?ra24u1
              case ha24u1 => (intro w0 hSw; (try dsimp only at hSw); go_simp; try with_reducible rfl)
              try simp only [Act.put, List.setIfInBounds_toArray, List.set_cons_zero, List.set_cons_succ]
              refine wpAnyH_take (i := 25) (oi := { dst := some 150, op := Op.pick (Operand.tmp 133) (Operand.const (Value.bool true)) (Operand.tmp 149), type := 4, pos := "law.go:100", after := #[{ on := 8, ground := Ground.data }, { on := 24, ground := Ground.data }], guard := none }) (v := ?va25u1) rfl (by kernel_rfl) (by kernel_rfl) (by kernel_rfl) (fun _ _ _ h => h) (Or.inl ⟨by rfl, ?ha25u1⟩) (by assumption) ?ra25u1
              case ha25u1 => (intro w0 hSw; (try dsimp only at hSw); go_simp; try with_reducible rfl)
              try simp only [Act.put, List.setIfInBounds_toArray, List.set_cons_zero, List.set_cons_succ]
              refine wpAnyH_done (by kernel_rfl) ?_ _
              refine NoPanic.normal ?_
              have HNX : Hid (Kep2 w p m b b12 ar an (some ⟨gv, fv, none⟩) vts w15) := ⟨HA.out.below hs15.out, bt' HBZ.out hs15.out, HKZ.out.below hs15.out HKZ.out.lt, HHV.out.below hs15.out⟩
              clear hs15
              go_wp2
              go_roundw
              case rel => exact ⟨_, HJ.out, by go_num, HNX⟩
              case measure => have := HJ.out; simp [intOf]; omega
            · obtain ⟨i, hie⟩ : ∃ i, j = i + 1 := ⟨j - 1, by omega⟩
              obtain ⟨hi, hzs⟩ := HRI.out i hie
              obtain ⟨gv', fv', hgo', _, ev'⟩ := HHV.out.held.at hi
              cases hgo'
              have z0 := ev' 0 _ rfl
              obtain ⟨zs, HZS⟩ : ∃ z, Hid ((vts[i]'hi).slot = z) := ⟨_, hid rfl⟩
              have z1 : wr.cell? ⟨gv, fv + i * 8, none⟩ = some (.int .i64 zs) := by rw [← HZS.out]; exact z0
              have hzy : ¬ ys ≤ zs := by rw [← HZS.out]; simp only at hzs; omega
              have hji : (j : Int) - 1 = (i : Int) := by omega
              have hii : (0 : Int) ≤ (i : Int) := by omega
              have hi2 : (i : Int) < (VV : Int) := by omega
              have hp1 : decide ((0 : Int) < (j : Int)) = true := decide_eq_true (by omega)
              have hq1 : decide (0 < j) = true := decide_eq_true (by omega)
              have hbi : -9223372036854775808 ≤ (i : Int) ∧ (i : Int) ≤ 9223372036854775807 := ⟨by omega, by omega⟩
              have hwi : IntKind.i64.wrap (i : Int) = (i : Int) := by rw [IntKind.wrap_i64]; omega
              have hwj : IntKind.i64.wrap ((j : Int) - 1) = (i : Int) := (congrArg IntKind.i64.wrap hji).trans hwi
              clear hbi
              clear hie
              clear ev' z0 hzs hj0
              have HSV : Hid (∀ V, ScL wr V → (ScL wr V ∧ V.cell? ⟨gv, fv + j * 8 + 1, none⟩ = some (.int .i64 yr) ∧ V.cell? ⟨gv, fv + j * 8 + 2, none⟩ = some (.int .i64 yn) ∧ V.cell? ⟨gv, fv + j * 8, none⟩ = some (.int .i64 ys) ∧ V.cell? ⟨b12, 0, none⟩ = some (.int .i64 ar) ∧ V.cell? ⟨b12, 1, none⟩ = some (.int .i64 an) ∧ V.cell? ⟨gv, fv + i * 8, none⟩ = some (.int .i64 zs))) := fun V hV => ⟨hV, (hV.out.cell (p := ⟨gv, _, none⟩) hgv).trans e1, (hV.out.cell (p := ⟨gv, _, none⟩) hgv).trans e2, (hV.out.cell (p := ⟨gv, _, none⟩) hgv).trans e0, (hV.out.cell (p := ⟨b12, _, none⟩) HKZ.out.lt).trans t0, (hV.out.cell (p := ⟨b12, _, none⟩) HKZ.out.lt).trans t1, (hV.out.cell (p := ⟨gv, _, none⟩) hgv).trans z1⟩
              clear e0 e1 e2 t0 t1 z1
              go_wp2
              refine wp_region_noPanic ?_
              refine wp_region_held_drew (S := (fun V => ScL wr V ∧ V.cell? ⟨gv, fv + j * 8 + 1, none⟩ = some (.int .i64 yr) ∧ V.cell? ⟨gv, fv + j * 8 + 2, none⟩ = some (.int .i64 yn) ∧ V.cell? ⟨gv, fv + j * 8, none⟩ = some (.int .i64 ys) ∧ V.cell? ⟨b12, 0, none⟩ = some (.int .i64 ar) ∧ V.cell? ⟨b12, 1, none⟩ = some (.int .i64 an) ∧ V.cell? ⟨gv, fv + i * 8, none⟩ = some (.int .i64 zs))) (by kernel_rfl) (HSV.out _ (ScL.start _).dr) (fun hHeld => ?_)
              refine wpAnyH_take (i := 0) (oi := { dst := some 125, op := Op.move (Operand.tmp 13), type := 36, pos := "law.go:100", after := #[], guard := none }) (v := ?vb0u1) rfl (by kernel_rfl) (by kernel_rfl) (by kernel_rfl) (fun _ _ _ h => h) (Or.inl ⟨by rfl, ?hb0u1⟩) (by assumption) ?rb0u1
              case hb0u1 => (intro w0 hSw; (try dsimp only at hSw); go_simp; try with_reducible rfl)
              try simp only [Act.put, List.setIfInBounds_toArray, List.set_cons_zero, List.set_cons_succ]
              refine wpAnyH_take (i := 1) (oi := { dst := some 126, op := Op.move (Operand.tmp 14), type := 3, pos := "law.go:100", after := #[], guard := none }) (v := ?vb1u1) rfl (by kernel_rfl) (by kernel_rfl) (by kernel_rfl) (fun _ _ _ h => h) (Or.inl ⟨by rfl, ?hb1u1⟩) (by assumption) ?rb1u1
              case hb1u1 => (intro w0 hSw; (try dsimp only at hSw); go_simp; try with_reducible rfl)
              try simp only [Act.put, List.setIfInBounds_toArray, List.set_cons_zero, List.set_cons_succ]
              refine wpAnyH_take (i := 2) (oi := { dst := some 127, op := Op.indexAddr 36 (Operand.tmp 125) (Operand.tmp 126), type := 0, pos := "law.go:100", after := #[{ on := 0, ground := Ground.data }, { on := 1, ground := Ground.data }], guard := none }) (v := ?vb2u1) rfl (by kernel_rfl) (by kernel_rfl) (by kernel_rfl) (fun _ _ _ h => h) (Or.inl ⟨by rfl, ?hb2u1⟩) (by assumption) ?rb2u1
              case hb2u1 => (intro w0 hSw; (try dsimp only at hSw); go_simp; try with_reducible rfl)
              try simp only [Act.put, List.setIfInBounds_toArray, List.set_cons_zero, List.set_cons_succ]
              refine wpAnyH_take (i := 3) (oi := { dst := some 128, op := Op.fieldAddr 45 (Operand.tmp 127) 1, type := 0, pos := "law.go:100", after := #[{ on := 2, ground := Ground.data }], guard := none }) (v := ?vb3u1) rfl (by kernel_rfl) (by kernel_rfl) (by kernel_rfl) (fun _ _ _ h => h) (Or.inl ⟨by rfl, ?hb3u1⟩) (by assumption) ?rb3u1
              case hb3u1 => (intro w0 hSw; (try dsimp only at hSw); go_simp; try with_reducible rfl)
              try simp only [Act.put, List.setIfInBounds_toArray, List.set_cons_zero, List.set_cons_succ]
              refine wpAnyH_take (i := 4) (oi := { dst := some 129, op := Op.load 29 (Operand.tmp 128), type := 29, pos := "law.go:100", after := #[{ on := 3, ground := Ground.data }], guard := none }) (v := ?vb4u1) rfl (by kernel_rfl) (by kernel_rfl) (by kernel_rfl) (fun _ _ _ h => h) (Or.inl ⟨by rfl, ?hb4u1⟩) (by assumption) ?rb4u1
              case hb4u1 => (intro w0 hSw; (try dsimp only at hSw); go_simp; try with_reducible rfl)
              try simp only [Act.put, List.setIfInBounds_toArray, List.set_cons_zero, List.set_cons_succ]
              refine wpAnyH_take (i := 5) (oi := { dst := some 130, op := Op.load 29 (Operand.tmp 12), type := 29, pos := "law.go:100", after := #[], guard := none }) (v := ?vb5u1) rfl (by kernel_rfl) (by kernel_rfl) (by kernel_rfl) (fun _ _ _ h => h) (Or.inl ⟨by rfl, ?hb5u1⟩) (by assumption) ?rb5u1
              case hb5u1 => (intro w0 hSw; (try dsimp only at hSw); go_simp; try with_reducible rfl)
              try simp only [Act.put, List.setIfInBounds_toArray, List.set_cons_zero, List.set_cons_succ]
              refine wpAnyH_ready (rs := [6]) (by kernel_rfl) (by simp) ?_
              refine AllReadyH.cons (o := { dst := some 131, op := Op.call { callee := Callee.value (Operand.func 9), args := #[Operand.tmp 129, Operand.tmp 130], argTypes := #[29, 29] }, type := 3, pos := "law.go:100", after := #[{ on := 4, ground := Ground.data }, { on := 5, ground := Ground.data }], guard := none }) rfl (fun K hK => ?_) AllReadyH.nil
              go_simp
              go_at_call 9; refine (HCY.out _ (by (repeat (first | assumption | exact ScL.start _ | apply ScL.dr)))).mono ?_; rintro e w15 ⟨rfl, hs15⟩
              refine hK.out _ _ (HSV.out _ hs15) (fun hHeld => ?_)
              clear hK K
              try simp only [Act.put, List.setIfInBounds_toArray, List.set_cons_zero, List.set_cons_succ]
              refine wpAnyH_take (i := 7) (oi := { dst := some 132, op := Op.binOp BinOp.gtr 3 (Operand.tmp 131) (Operand.const (Value.int IntKind.i64 0)) 3, type := 4, pos := "law.go:100", after := #[{ on := 6, ground := Ground.data }], guard := none }) (v := ?vb7u1) rfl (by kernel_rfl) (by kernel_rfl) (by kernel_rfl) (fun _ _ _ h => h) (Or.inl ⟨by rfl, ?hb7u1⟩) (by assumption) ?rb7u1
              case hb7u1 => (intro w0 hSw; (try dsimp only at hSw); go_simp; try with_reducible rfl)
              try simp only [Act.put, List.setIfInBounds_toArray, List.set_cons_zero, List.set_cons_succ]
              refine wpAnyH_take (i := 8) (oi := { dst := some 133, op := Op.move (Operand.tmp 132), type := 4, pos := "law.go:100", after := #[{ on := 7, ground := Ground.data }, { on := 6, ground := Ground.chain }], guard := none }) (v := ?vb8u1) rfl (by kernel_rfl) (by kernel_rfl) (by kernel_rfl) (fun _ _ _ h => h) (Or.inl ⟨by rfl, ?hb8u1⟩) (by assumption) ?rb8u1
              case hb8u1 => (intro w0 hSw; (try dsimp only at hSw); go_simp; try with_reducible rfl)
              try simp only [Act.put, List.setIfInBounds_toArray, List.set_cons_zero, List.set_cons_succ]
              refine wpAnyH_take (i := 9) (oi := { dst := some 134, op := Op.move (Operand.tmp 14), type := 3, pos := "law.go:100", after := #[{ on := 8, ground := Ground.guard }], guard := some (8, false) }) (v := ?vb9u1) rfl (by kernel_rfl) (by kernel_rfl) (by kernel_rfl) (fun _ _ _ h => h) (Or.inl ⟨by rfl, ?hb9u1⟩) (by assumption) ?rb9u1
              case hb9u1 => (intro w0 hSw; (try dsimp only at hSw); go_simp; try with_reducible rfl)
              try simp only [Act.put, List.setIfInBounds_toArray, List.set_cons_zero, List.set_cons_succ]
              refine wpAnyH_take (i := 10) (oi := { dst := some 135, op := Op.binOp BinOp.gtr 3 (Operand.tmp 134) (Operand.const (Value.int IntKind.i64 0)) 3, type := 4, pos := "law.go:100", after := #[{ on := 9, ground := Ground.data }, { on := 8, ground := Ground.guard }], guard := some (8, false) }) (v := ?vb10u1) rfl (by kernel_rfl) (by kernel_rfl) (by kernel_rfl) (fun _ _ _ h => h) (Or.inl ⟨by rfl, ?hb10u1⟩) (by assumption) ?rb10u1
              case hb10u1 => (intro w0 hSw; (try dsimp only at hSw); go_simp; try with_reducible rfl)
              try simp only [Act.put, List.setIfInBounds_toArray, List.set_cons_zero, List.set_cons_succ]
              refine wpAnyH_take (i := 11) (oi := { dst := some 136, op := Op.move (Operand.tmp 135), type := 4, pos := "law.go:100", after := #[{ on := 10, ground := Ground.data }, { on := 8, ground := Ground.chain }, { on := 8, ground := Ground.guard }], guard := some (8, false) }) (v := ?vb11u1) rfl (by kernel_rfl) (by kernel_rfl) (by kernel_rfl) (fun _ _ _ h => h) (Or.inl ⟨by rfl, ?hb11u1⟩) (by assumption) ?rb11u1
              case hb11u1 => (intro w0 hSw; (try dsimp only at hSw); go_simp; try with_reducible rfl)
              try simp only [Act.put, List.setIfInBounds_toArray, List.set_cons_zero, List.set_cons_succ]
              refine wpAnyH_take (i := 12) (oi := { dst := some 137, op := Op.move (Operand.tmp 13), type := 36, pos := "law.go:100", after := #[{ on := 11, ground := Ground.guard }], guard := some (11, true) }) (v := ?vb12u1) rfl (by kernel_rfl) (by kernel_rfl) (by kernel_rfl) (fun _ _ _ h => h) (Or.inl ⟨by rfl, ?hb12u1⟩) (by assumption) ?rb12u1
              case hb12u1 => (intro w0 hSw; (try dsimp only at hSw); go_simp; try with_reducible rfl)
              try simp only [Act.put, List.setIfInBounds_toArray, List.set_cons_zero, List.set_cons_succ]
              refine wpAnyH_take (i := 13) (oi := { dst := some 138, op := Op.move (Operand.tmp 14), type := 3, pos := "law.go:100", after := #[{ on := 11, ground := Ground.guard }], guard := some (11, true) }) (v := ?vb13u1) rfl (by kernel_rfl) (by kernel_rfl) (by kernel_rfl) (fun _ _ _ h => h) (Or.inl ⟨by rfl, ?hb13u1⟩) (by assumption) ?rb13u1
              case hb13u1 => (intro w0 hSw; (try dsimp only at hSw); go_simp; try with_reducible rfl)
              try simp only [Act.put, List.setIfInBounds_toArray, List.set_cons_zero, List.set_cons_succ]
              refine wpAnyH_take (i := 14) (oi := { dst := some 139, op := Op.binOp BinOp.sub 3 (Operand.tmp 138) (Operand.const (Value.int IntKind.i64 1)) 3, type := 3, pos := "law.go:100", after := #[{ on := 13, ground := Ground.data }, { on := 11, ground := Ground.guard }], guard := some (11, true) }) (v := ?vb14u1) rfl (by kernel_rfl) (by kernel_rfl) (by kernel_rfl) (fun _ _ _ h => h) (Or.inl ⟨by rfl, ?hb14u1⟩) (by assumption) ?rb14u1
              case hb14u1 => (intro w0 hSw; (try dsimp only at hSw); go_simp; try with_reducible rfl)
              try simp only [Act.put, List.setIfInBounds_toArray, List.set_cons_zero, List.set_cons_succ]
              refine wpAnyH_take (i := 15) (oi := { dst := some 140, op := Op.indexAddr 36 (Operand.tmp 137) (Operand.tmp 139), type := 0, pos := "law.go:100", after := #[{ on := 12, ground := Ground.data }, { on := 14, ground := Ground.data }, { on := 11, ground := Ground.guard }], guard := some (11, true) }) (v := ?vb15u1) rfl (by kernel_rfl) (by kernel_rfl) (by kernel_rfl) (fun _ _ _ h => h) (Or.inl ⟨by rfl, ?hb15u1⟩) (by assumption) ?rb15u1
              case hb15u1 => (intro w0 hSw; (try dsimp only at hSw); go_simp; try with_reducible rfl)
              try simp only [Act.put, List.setIfInBounds_toArray, List.set_cons_zero, List.set_cons_succ]
              refine wpAnyH_take (i := 16) (oi := { dst := some 141, op := Op.fieldAddr 45 (Operand.tmp 140) 0, type := 0, pos := "law.go:100", after := #[{ on := 15, ground := Ground.data }, { on := 11, ground := Ground.guard }], guard := some (11, true) }) (v := ?vb16u1) rfl (by kernel_rfl) (by kernel_rfl) (by kernel_rfl) (fun _ _ _ h => h) (Or.inl ⟨by rfl, ?hb16u1⟩) (by assumption) ?rb16u1
              case hb16u1 => (intro w0 hSw; (try dsimp only at hSw); go_simp; try with_reducible rfl)
              try simp only [Act.put, List.setIfInBounds_toArray, List.set_cons_zero, List.set_cons_succ]
              refine wpAnyH_take (i := 17) (oi := { dst := some 142, op := Op.load 3 (Operand.tmp 141), type := 3, pos := "law.go:100", after := #[{ on := 16, ground := Ground.data }, { on := 11, ground := Ground.guard }], guard := some (11, true) }) (v := ?vb17u1) rfl (by kernel_rfl) (by kernel_rfl) (by kernel_rfl) (fun _ _ _ h => h) (Or.inl ⟨by rfl, ?hb17u1⟩) (by assumption) ?rb17u1
              case hb17u1 => (intro w0 hSw; (try dsimp only at hSw); go_simp; try with_reducible rfl)
              try simp only [Act.put, List.setIfInBounds_toArray, List.set_cons_zero, List.set_cons_succ]
              refine wpAnyH_take (i := 18) (oi := { dst := some 143, op := Op.move (Operand.tmp 13), type := 36, pos := "law.go:100", after := #[{ on := 11, ground := Ground.guard }], guard := some (11, true) }) (v := ?vb18u1) rfl (by kernel_rfl) (by kernel_rfl) (by kernel_rfl) (fun _ _ _ h => h) (Or.inl ⟨by rfl, ?hb18u1⟩) (by assumption) ?rb18u1
              case hb18u1 => (intro w0 hSw; (try dsimp only at hSw); go_simp; try with_reducible rfl)
              try simp only [Act.put, List.setIfInBounds_toArray, List.set_cons_zero, List.set_cons_succ]
              refine wpAnyH_take (i := 19) (oi := { dst := some 144, op := Op.move (Operand.tmp 14), type := 3, pos := "law.go:100", after := #[{ on := 11, ground := Ground.guard }], guard := some (11, true) }) (v := ?vb19u1) rfl (by kernel_rfl) (by kernel_rfl) (by kernel_rfl) (fun _ _ _ h => h) (Or.inl ⟨by rfl, ?hb19u1⟩) (by assumption) ?rb19u1
              case hb19u1 => (intro w0 hSw; (try dsimp only at hSw); go_simp; try with_reducible rfl)
              try simp only [Act.put, List.setIfInBounds_toArray, List.set_cons_zero, List.set_cons_succ]
              refine wpAnyH_take (i := 20) (oi := { dst := some 145, op := Op.indexAddr 36 (Operand.tmp 143) (Operand.tmp 144), type := 0, pos := "law.go:100", after := #[{ on := 18, ground := Ground.data }, { on := 19, ground := Ground.data }, { on := 11, ground := Ground.guard }], guard := some (11, true) }) (v := ?vb20u1) rfl (by kernel_rfl) (by kernel_rfl) (by kernel_rfl) (fun _ _ _ h => h) (Or.inl ⟨by rfl, ?hb20u1⟩) (by assumption) ?rb20u1
              case hb20u1 => (intro w0 hSw; (try dsimp only at hSw); go_simp; try with_reducible rfl)
              try simp only [Act.put, List.setIfInBounds_toArray, List.set_cons_zero, List.set_cons_succ]
              refine wpAnyH_take (i := 21) (oi := { dst := some 146, op := Op.fieldAddr 45 (Operand.tmp 145) 0, type := 0, pos := "law.go:100", after := #[{ on := 20, ground := Ground.data }, { on := 11, ground := Ground.guard }], guard := some (11, true) }) (v := ?vb21u1) rfl (by kernel_rfl) (by kernel_rfl) (by kernel_rfl) (fun _ _ _ h => h) (Or.inl ⟨by rfl, ?hb21u1⟩) (by assumption) ?rb21u1
              case hb21u1 => (intro w0 hSw; (try dsimp only at hSw); go_simp; try with_reducible rfl)
              try simp only [Act.put, List.setIfInBounds_toArray, List.set_cons_zero, List.set_cons_succ]
              refine wpAnyH_take (i := 22) (oi := { dst := some 147, op := Op.load 3 (Operand.tmp 146), type := 3, pos := "law.go:100", after := #[{ on := 21, ground := Ground.data }, { on := 11, ground := Ground.guard }], guard := some (11, true) }) (v := ?vb22u1) rfl (by kernel_rfl) (by kernel_rfl) (by kernel_rfl) (fun _ _ _ h => h) (Or.inl ⟨by rfl, ?hb22u1⟩) (by assumption) ?rb22u1
              case hb22u1 => (intro w0 hSw; (try dsimp only at hSw); go_simp; try with_reducible rfl)
              try simp only [Act.put, List.setIfInBounds_toArray, List.set_cons_zero, List.set_cons_succ]
              refine wpAnyH_take (i := 23) (oi := { dst := some 148, op := Op.binOp BinOp.geq 3 (Operand.tmp 142) (Operand.tmp 147) 3, type := 4, pos := "law.go:100", after := #[{ on := 17, ground := Ground.data }, { on := 22, ground := Ground.data }, { on := 11, ground := Ground.guard }], guard := some (11, true) }) (v := ?vb23u1) rfl (by kernel_rfl) (by kernel_rfl) (by kernel_rfl) (fun _ _ _ h => h) (Or.inl ⟨by rfl, ?hb23u1⟩) (by assumption) ?rb23u1
              case hb23u1 => (intro w0 hSw; (try dsimp only at hSw); go_simp; try with_reducible rfl)
              try simp only [Act.put, List.setIfInBounds_toArray, List.set_cons_zero, List.set_cons_succ]
              refine wpAnyH_take (i := 24) (oi := { dst := some 149, op := Op.pick (Operand.tmp 136) (Operand.tmp 148) (Operand.const (Value.bool false)), type := 4, pos := "law.go:100", after := #[{ on := 11, ground := Ground.data }, { on := 23, ground := Ground.data }, { on := 8, ground := Ground.guard }], guard := some (8, false) }) (v := ?vb24u1) rfl (by kernel_rfl) (by kernel_rfl) (by kernel_rfl) (fun _ _ _ h => h) (Or.inl ⟨by rfl, ?hb24u1⟩) (by assumption) ?rb24u1
              case hb24u1 => (intro w0 hSw; (try dsimp only at hSw); go_simp; try with_reducible rfl)
              try simp only [Act.put, List.setIfInBounds_toArray, List.set_cons_zero, List.set_cons_succ]
              refine wpAnyH_take (i := 25) (oi := { dst := some 150, op := Op.pick (Operand.tmp 133) (Operand.const (Value.bool true)) (Operand.tmp 149), type := 4, pos := "law.go:100", after := #[{ on := 8, ground := Ground.data }, { on := 24, ground := Ground.data }], guard := none }) (v := ?vb25u1) rfl (by kernel_rfl) (by kernel_rfl) (by kernel_rfl) (fun _ _ _ h => h) (Or.inl ⟨by rfl, ?hb25u1⟩) (by assumption) ?rb25u1
              case hb25u1 => (intro w0 hSw; (try dsimp only at hSw); go_simp; try with_reducible rfl)
              try simp only [Act.put, List.setIfInBounds_toArray, List.set_cons_zero, List.set_cons_succ]
              refine wpAnyH_done (by kernel_rfl) ?_ _
              refine NoPanic.normal ?_
              have HNX : Hid (Kep2 w p m b b12 ar an (some ⟨gv, fv, none⟩) vts w15) := ⟨HA.out.below hs15.out, bt' HBZ.out hs15.out, HKZ.out.below hs15.out HKZ.out.lt, HHV.out.below hs15.out⟩
              clear hs15 hwi hwj hji hii hi2 hp1 hq1
              go_wp2
              go_roundw
              case rel => exact ⟨_, HJ.out, by go_num, HNX⟩
              case measure => have := HJ.out; simp [intOf]; omega
          · have hlt2 : ¬ (j : Int) < (VV : Int) := by omega
            have HNX : Hid (Kep1 w p m wr) := ⟨b, HA.out, HBZ.out⟩
            clear hlt hj
            go_wp2
            go_roundw
            case rel => exact ⟨k + 1, HLT.out, by go_num, HNX⟩
            case measure => have := HLT.out; simp [intOf]; omega
      case true =>
        obtain ⟨hk6, hrn6, hba, hR6⟩ := HOF.out.yes rfl
        by_cases hk5 : k6 = 5
        · have hkk : kindA a ⟨kd, fr, to, (br, bn), sl, ⟨⟨np, tk, ct, ep, cut⟩, ao1, cap1⟩, vo, vc, vs, so, sc, seen, eo, ec, evs, ti⟩ = 5 := hk6.symm.trans hk5
          have hap : ar = pr ∧ an = pn := by have h1 := HAR.out; rw [hba, kind5_after hkk, HPR.out] at h1; cases h1; exact ⟨rfl, rfl⟩
          obtain ⟨rfl, rfl⟩ := hap
          have hrr : ar = r6 ∧ an = n6 := by rw [HAR.out] at hrn6; cases hrn6; exact ⟨rfl, rfl⟩
          obtain ⟨rfl, rfl⟩ := hrr
          have hRR : R6 = ⟨#[]⟩ := by rw [hR6]; exact kind5_rec hkk
          subst hRR
          subst hk5
          clear hk6 hrn6 hba hR6 hkk
          go_wp2_with fail
          go_quiet (fail)
          obtain ⟨w11, hw11⟩ : ∃ V, V = w10.drewN nq := ⟨_, rfl⟩
          rw [← hw11]
          have hs11 : ScL w10 w11 := by rw [hw11]; exact ⟨below_dn (Below.refl _ _) nq⟩
          clear hw11
          have HL11 := hid (HL10.out.below hs11.out)
          have HB11 := hid (bt' HB10.out hs11.out)
          have HK12B := hid (HK12A.out.below hs11.out HK12A.out.lt)
          have HK8B := hid (HK8A.out.below hs11.out HK8A.out.lt)
          have HK9B := hid (HK9A.out.below hs11.out HK9A.out.lt)
          clear s0 s1 t0 t1 u0 u3 u4
          have s0 := HK8B.out.cell (i := 0) rfl
          have s1 := HK8B.out.cell (i := 1) rfl
          have t0 := HK12B.out.cell (i := 0) rfl
          have t1 := HK12B.out.cell (i := 1) rfl
          have u0 := HK9B.out.cell (i := 0) rfl
          have u3 := HK9B.out.cell (i := 3) rfl
          have u4 := HK9B.out.cell (i := 4) rfl
          have HVO := hid HL11.out.at'.votes
          clear hs11
          go_wp2_with fail
          refine HVO.out.mono ?_
          rintro e w12 ⟨vot, vct, vts, rfl, hmap, hheld, hlen, _, hb12⟩
          obtain ⟨VV, HVV⟩ : ∃ q, Hid (vts.length = q) := ⟨_, hid rfl⟩
          rw [HVV.out]
          have hVL : VV ≤ 4096 := by rw [← HVV.out]; exact hlen
          have HMAP := hid hmap
          have HKP : Hid (Kep2 w p m b b12 ar an vot vts w12) := ⟨HL11.out.below hb12, bt' HB11.out hb12, HK12B.out.below hb12 HK12B.out.lt, hheld⟩
          clear hmap hheld hlen hb12 HVO s0 s1 t0 t1 u0 u3 u4
          go_wp2
          go_loopw [14] (fun x wr => ∃ j : Nat, j ≤ VV ∧ x = .int .i64 j ∧ Hid (Kep2 w p m b b12 ar an vot vts wr)) (fun x _ => VV - (intOf x).toNat)
          case atStart => exact ⟨0, Nat.zero_le _, rfl, HKP⟩
          case round =>
            obtain ⟨j, hj, rfl, HR⟩ := hrel
            have HA := hid HR.out.1
            have HBZ := hid HR.out.2.1
            have HKZ := hid HR.out.2.2.1
            have HHV := hid HR.out.2.2.2
            clear HR
            by_cases hlt : j < VV
            · have hlt2 : (j : Int) < (VV : Int) := by omega
              have HJ := hid hlt
              have hjx : Hid (j < vts.length) := (HVV.out ▸ hlt : j < vts.length)
              have HYC : Hid (cmpB (vts[j]'hjx.out).bal (ar, an) ≤ 0) := by
                obtain ⟨_, _, h3⟩ := votes_at HA.out.at'.ok HMAP.out hjx.out
                rw [HAR.out] at h3
                exact h3
              have HRI : Hid (∀ i, (e : j = i + 1) → ∃ hi : i < vts.length, (vts[i]'hi).slot < (vts[j]'hjx.out).slot) := fun i e => by
                subst e
                exact ⟨Nat.lt_of_succ_lt hjx.out, votes_rise HA.out.at'.ok HMAP.out hjx.out⟩
              obtain ⟨gv, fv, hgo, hgv, ev⟩ := HHV.out.held.at hjx.out
              subst hgo
              obtain ⟨Y, hY⟩ : ∃ Y, Y = vts[j]'hjx.out := ⟨_, rfl⟩
              rw [← hY] at ev HYC HRI
              clear hY
              obtain ⟨ys, ⟨yr, yn⟩, ye⟩ := Y
              have e0 := ev 0 _ rfl
              have e1 := ev 1 _ rfl
              have e2 := ev 2 _ rfl
              have t0 := HKZ.out.cell (i := 0) rfl
              have t1 := HKZ.out.cell (i := 1) rfl
              obtain ⟨cy, HCYe⟩ : ∃ c, Hid (cmpB (yr, yn) (ar, an) = c) := ⟨_, hid rfl⟩
              have hcy : decide ((0 : Int) < cy) = false := decide_eq_false (by rw [← HCYe.out]; have := HYC.out; simp only at this; omega)
              have HCY : Hid (∀ V, ScL wr V → Calls Try.prog 9 #[.agg #[.int .i64 yr, .int .i64 yn], .agg #[.int .i64 ar, .int .i64 an]] V fun e w' => e = .returned (.int .i64 cy) ∧ ScL wr w') := fun V hV => by
                have h1 := compareB V (yr, yn) (ar, an)
                rw [HCYe.out] at h1
                exact h1.mono fun e w' ⟨h2, h3⟩ => ⟨h2, hV.go h3⟩
              clear ev hlt hj
              by_cases hj0 : j = 0
              · subst hj0
                rw [Nat.zero_mul, Nat.add_zero] at e0 e1 e2
                have HSV : Hid (∀ V, ScL wr V → (ScL wr V ∧ V.cell? ⟨gv, fv + 1, none⟩ = some (.int .i64 yr) ∧ V.cell? ⟨gv, fv + 2, none⟩ = some (.int .i64 yn) ∧ V.cell? ⟨gv, fv, none⟩ = some (.int .i64 ys) ∧ V.cell? ⟨b12, 0, none⟩ = some (.int .i64 ar) ∧ V.cell? ⟨b12, 1, none⟩ = some (.int .i64 an))) := fun V hV => ⟨hV, (hV.out.cell (p := ⟨gv, _, none⟩) hgv).trans e1, (hV.out.cell (p := ⟨gv, _, none⟩) hgv).trans e2, (hV.out.cell (p := ⟨gv, _, none⟩) hgv).trans e0, (hV.out.cell (p := ⟨b12, _, none⟩) HKZ.out.lt).trans t0, (hV.out.cell (p := ⟨b12, _, none⟩) HKZ.out.lt).trans t1⟩
                clear e0 e1 e2 t0 t1
                go_wp2
                refine wp_region_noPanic ?_
                refine wp_region_held_drew (S := (fun V => ScL wr V ∧ V.cell? ⟨gv, fv + 1, none⟩ = some (.int .i64 yr) ∧ V.cell? ⟨gv, fv + 2, none⟩ = some (.int .i64 yn) ∧ V.cell? ⟨gv, fv, none⟩ = some (.int .i64 ys) ∧ V.cell? ⟨b12, 0, none⟩ = some (.int .i64 ar) ∧ V.cell? ⟨b12, 1, none⟩ = some (.int .i64 an))) (by kernel_rfl) (HSV.out _ (ScL.start _).dr) (fun hHeld => ?_)
                refine wpAnyH_take (i := 0) (oi := { dst := some 125, op := Op.move (Operand.tmp 13), type := 36, pos := "law.go:100", after := #[], guard := none }) (v := ?va0u2) rfl (by kernel_rfl) (by kernel_rfl) (by kernel_rfl) (fun _ _ _ h => h) (Or.inl ⟨by rfl, ?ha0u2⟩) (by assumption) ?ra0u2
                case ha0u2 => (intro w0 hSw; (try dsimp only at hSw); go_simp; try with_reducible rfl)
                try simp only [Act.put, List.setIfInBounds_toArray, List.set_cons_zero, List.set_cons_succ]
                refine wpAnyH_take (i := 1) (oi := { dst := some 126, op := Op.move (Operand.tmp 14), type := 3, pos := "law.go:100", after := #[], guard := none }) (v := ?va1u2) rfl (by kernel_rfl) (by kernel_rfl) (by kernel_rfl) (fun _ _ _ h => h) (Or.inl ⟨by rfl, ?ha1u2⟩) (by assumption) ?ra1u2
                case ha1u2 => (intro w0 hSw; (try dsimp only at hSw); go_simp; try with_reducible rfl)
                try simp only [Act.put, List.setIfInBounds_toArray, List.set_cons_zero, List.set_cons_succ]
                refine wpAnyH_take (i := 2) (oi := { dst := some 127, op := Op.indexAddr 36 (Operand.tmp 125) (Operand.tmp 126), type := 0, pos := "law.go:100", after := #[{ on := 0, ground := Ground.data }, { on := 1, ground := Ground.data }], guard := none }) (v := ?va2u2) rfl (by kernel_rfl) (by kernel_rfl) (by kernel_rfl) (fun _ _ _ h => h) (Or.inl ⟨by rfl, ?ha2u2⟩) (by assumption) ?ra2u2
                case ha2u2 => (intro w0 hSw; (try dsimp only at hSw); go_simp; try with_reducible rfl)
                try simp only [Act.put, List.setIfInBounds_toArray, List.set_cons_zero, List.set_cons_succ]
                refine wpAnyH_take (i := 3) (oi := { dst := some 128, op := Op.fieldAddr 45 (Operand.tmp 127) 1, type := 0, pos := "law.go:100", after := #[{ on := 2, ground := Ground.data }], guard := none }) (v := ?va3u2) rfl (by kernel_rfl) (by kernel_rfl) (by kernel_rfl) (fun _ _ _ h => h) (Or.inl ⟨by rfl, ?ha3u2⟩) (by assumption) ?ra3u2
                case ha3u2 => (intro w0 hSw; (try dsimp only at hSw); go_simp; try with_reducible rfl)
                try simp only [Act.put, List.setIfInBounds_toArray, List.set_cons_zero, List.set_cons_succ]
                refine wpAnyH_take (i := 4) (oi := { dst := some 129, op := Op.load 29 (Operand.tmp 128), type := 29, pos := "law.go:100", after := #[{ on := 3, ground := Ground.data }], guard := none }) (v := ?va4u2) rfl (by kernel_rfl) (by kernel_rfl) (by kernel_rfl) (fun _ _ _ h => h) (Or.inl ⟨by rfl, ?ha4u2⟩) (by assumption) ?ra4u2
                case ha4u2 => (intro w0 hSw; (try dsimp only at hSw); go_simp; try with_reducible rfl)
                try simp only [Act.put, List.setIfInBounds_toArray, List.set_cons_zero, List.set_cons_succ]
                refine wpAnyH_take (i := 5) (oi := { dst := some 130, op := Op.load 29 (Operand.tmp 12), type := 29, pos := "law.go:100", after := #[], guard := none }) (v := ?va5u2) rfl (by kernel_rfl) (by kernel_rfl) (by kernel_rfl) (fun _ _ _ h => h) (Or.inl ⟨by rfl, ?ha5u2⟩) (by assumption) ?ra5u2
                case ha5u2 => (intro w0 hSw; (try dsimp only at hSw); go_simp; try with_reducible rfl)
                try simp only [Act.put, List.setIfInBounds_toArray, List.set_cons_zero, List.set_cons_succ]
                refine wpAnyH_ready (rs := [6]) (by kernel_rfl) (by simp) ?_
                refine AllReadyH.cons (o := { dst := some 131, op := Op.call { callee := Callee.value (Operand.func 9), args := #[Operand.tmp 129, Operand.tmp 130], argTypes := #[29, 29] }, type := 3, pos := "law.go:100", after := #[{ on := 4, ground := Ground.data }, { on := 5, ground := Ground.data }], guard := none }) rfl (fun K hK => ?_) AllReadyH.nil
                go_simp
                go_at_call 9; refine (HCY.out _ (by (repeat (first | assumption | exact ScL.start _ | apply ScL.dr)))).mono ?_; rintro e w15 ⟨rfl, hs15⟩
                refine hK.out _ _ (HSV.out _ hs15) (fun hHeld => ?_)
                clear hK K
                try simp only [Act.put, List.setIfInBounds_toArray, List.set_cons_zero, List.set_cons_succ]
                refine wpAnyH_take (i := 7) (oi := { dst := some 132, op := Op.binOp BinOp.gtr 3 (Operand.tmp 131) (Operand.const (Value.int IntKind.i64 0)) 3, type := 4, pos := "law.go:100", after := #[{ on := 6, ground := Ground.data }], guard := none }) (v := ?va7u2) rfl (by kernel_rfl) (by kernel_rfl) (by kernel_rfl) (fun _ _ _ h => h) (Or.inl ⟨by rfl, ?ha7u2⟩) (by assumption) ?ra7u2
                case ha7u2 => (intro w0 hSw; (try dsimp only at hSw); go_simp; try with_reducible rfl)
                try simp only [Act.put, List.setIfInBounds_toArray, List.set_cons_zero, List.set_cons_succ]
                refine wpAnyH_take (i := 8) (oi := { dst := some 133, op := Op.move (Operand.tmp 132), type := 4, pos := "law.go:100", after := #[{ on := 7, ground := Ground.data }, { on := 6, ground := Ground.chain }], guard := none }) (v := ?va8u2) rfl (by kernel_rfl) (by kernel_rfl) (by kernel_rfl) (fun _ _ _ h => h) (Or.inl ⟨by rfl, ?ha8u2⟩) (by assumption) ?ra8u2
                case ha8u2 => (intro w0 hSw; (try dsimp only at hSw); go_simp; try with_reducible rfl)
                try simp only [Act.put, List.setIfInBounds_toArray, List.set_cons_zero, List.set_cons_succ]
                refine wpAnyH_take (i := 9) (oi := { dst := some 134, op := Op.move (Operand.tmp 14), type := 3, pos := "law.go:100", after := #[{ on := 8, ground := Ground.guard }], guard := some (8, false) }) (v := ?va9u2) rfl (by kernel_rfl) (by kernel_rfl) (by kernel_rfl) (fun _ _ _ h => h) (Or.inl ⟨by rfl, ?ha9u2⟩) (by assumption) ?ra9u2
                case ha9u2 => (intro w0 hSw; (try dsimp only at hSw); go_simp; try with_reducible rfl)
                try simp only [Act.put, List.setIfInBounds_toArray, List.set_cons_zero, List.set_cons_succ]
                refine wpAnyH_take (i := 10) (oi := { dst := some 135, op := Op.binOp BinOp.gtr 3 (Operand.tmp 134) (Operand.const (Value.int IntKind.i64 0)) 3, type := 4, pos := "law.go:100", after := #[{ on := 9, ground := Ground.data }, { on := 8, ground := Ground.guard }], guard := some (8, false) }) (v := ?va10u2) rfl (by kernel_rfl) (by kernel_rfl) (by kernel_rfl) (fun _ _ _ h => h) (Or.inl ⟨by rfl, ?ha10u2⟩) (by assumption) ?ra10u2
                case ha10u2 => (intro w0 hSw; (try dsimp only at hSw); go_simp; try with_reducible rfl)
                try simp only [Act.put, List.setIfInBounds_toArray, List.set_cons_zero, List.set_cons_succ]
                refine wpAnyH_take (i := 11) (oi := { dst := some 136, op := Op.move (Operand.tmp 135), type := 4, pos := "law.go:100", after := #[{ on := 10, ground := Ground.data }, { on := 8, ground := Ground.chain }, { on := 8, ground := Ground.guard }], guard := some (8, false) }) (v := ?va11u2) rfl (by kernel_rfl) (by kernel_rfl) (by kernel_rfl) (fun _ _ _ h => h) (Or.inl ⟨by rfl, ?ha11u2⟩) (by assumption) ?ra11u2
                case ha11u2 => (intro w0 hSw; (try dsimp only at hSw); go_simp; try with_reducible rfl)
                try simp only [Act.put, List.setIfInBounds_toArray, List.set_cons_zero, List.set_cons_succ]
                refine wpAnyH_take (i := 12) (oi := { dst := some 137, op := Op.move (Operand.tmp 13), type := 36, pos := "law.go:100", after := #[{ on := 11, ground := Ground.guard }], guard := some (11, true) }) (v := undef) rfl (by kernel_rfl) (by kernel_rfl) (by kernel_rfl) (fun _ _ _ h => h) (Or.inr ⟨by rfl, rfl⟩) (by assumption) ?_
                try simp only [Act.put, List.setIfInBounds_toArray, List.set_cons_zero, List.set_cons_succ]
                refine wpAnyH_take (i := 13) (oi := { dst := some 138, op := Op.move (Operand.tmp 14), type := 3, pos := "law.go:100", after := #[{ on := 11, ground := Ground.guard }], guard := some (11, true) }) (v := undef) rfl (by kernel_rfl) (by kernel_rfl) (by kernel_rfl) (fun _ _ _ h => h) (Or.inr ⟨by rfl, rfl⟩) (by assumption) ?_
                try simp only [Act.put, List.setIfInBounds_toArray, List.set_cons_zero, List.set_cons_succ]
                refine wpAnyH_take (i := 14) (oi := { dst := some 139, op := Op.binOp BinOp.sub 3 (Operand.tmp 138) (Operand.const (Value.int IntKind.i64 1)) 3, type := 3, pos := "law.go:100", after := #[{ on := 13, ground := Ground.data }, { on := 11, ground := Ground.guard }], guard := some (11, true) }) (v := undef) rfl (by kernel_rfl) (by kernel_rfl) (by kernel_rfl) (fun _ _ _ h => h) (Or.inr ⟨by rfl, rfl⟩) (by assumption) ?_
                try simp only [Act.put, List.setIfInBounds_toArray, List.set_cons_zero, List.set_cons_succ]
                refine wpAnyH_take (i := 15) (oi := { dst := some 140, op := Op.indexAddr 36 (Operand.tmp 137) (Operand.tmp 139), type := 0, pos := "law.go:100", after := #[{ on := 12, ground := Ground.data }, { on := 14, ground := Ground.data }, { on := 11, ground := Ground.guard }], guard := some (11, true) }) (v := undef) rfl (by kernel_rfl) (by kernel_rfl) (by kernel_rfl) (fun _ _ _ h => h) (Or.inr ⟨by rfl, rfl⟩) (by assumption) ?_
                try simp only [Act.put, List.setIfInBounds_toArray, List.set_cons_zero, List.set_cons_succ]
                refine wpAnyH_take (i := 16) (oi := { dst := some 141, op := Op.fieldAddr 45 (Operand.tmp 140) 0, type := 0, pos := "law.go:100", after := #[{ on := 15, ground := Ground.data }, { on := 11, ground := Ground.guard }], guard := some (11, true) }) (v := undef) rfl (by kernel_rfl) (by kernel_rfl) (by kernel_rfl) (fun _ _ _ h => h) (Or.inr ⟨by rfl, rfl⟩) (by assumption) ?_
                try simp only [Act.put, List.setIfInBounds_toArray, List.set_cons_zero, List.set_cons_succ]
                refine wpAnyH_take (i := 17) (oi := { dst := some 142, op := Op.load 3 (Operand.tmp 141), type := 3, pos := "law.go:100", after := #[{ on := 16, ground := Ground.data }, { on := 11, ground := Ground.guard }], guard := some (11, true) }) (v := undef) rfl (by kernel_rfl) (by kernel_rfl) (by kernel_rfl) (fun _ _ _ h => h) (Or.inr ⟨by rfl, rfl⟩) (by assumption) ?_
                try simp only [Act.put, List.setIfInBounds_toArray, List.set_cons_zero, List.set_cons_succ]
                refine wpAnyH_take (i := 18) (oi := { dst := some 143, op := Op.move (Operand.tmp 13), type := 36, pos := "law.go:100", after := #[{ on := 11, ground := Ground.guard }], guard := some (11, true) }) (v := undef) rfl (by kernel_rfl) (by kernel_rfl) (by kernel_rfl) (fun _ _ _ h => h) (Or.inr ⟨by rfl, rfl⟩) (by assumption) ?_
                try simp only [Act.put, List.setIfInBounds_toArray, List.set_cons_zero, List.set_cons_succ]
                refine wpAnyH_take (i := 19) (oi := { dst := some 144, op := Op.move (Operand.tmp 14), type := 3, pos := "law.go:100", after := #[{ on := 11, ground := Ground.guard }], guard := some (11, true) }) (v := undef) rfl (by kernel_rfl) (by kernel_rfl) (by kernel_rfl) (fun _ _ _ h => h) (Or.inr ⟨by rfl, rfl⟩) (by assumption) ?_
                try simp only [Act.put, List.setIfInBounds_toArray, List.set_cons_zero, List.set_cons_succ]
                refine wpAnyH_take (i := 20) (oi := { dst := some 145, op := Op.indexAddr 36 (Operand.tmp 143) (Operand.tmp 144), type := 0, pos := "law.go:100", after := #[{ on := 18, ground := Ground.data }, { on := 19, ground := Ground.data }, { on := 11, ground := Ground.guard }], guard := some (11, true) }) (v := undef) rfl (by kernel_rfl) (by kernel_rfl) (by kernel_rfl) (fun _ _ _ h => h) (Or.inr ⟨by rfl, rfl⟩) (by assumption) ?_
                try simp only [Act.put, List.setIfInBounds_toArray, List.set_cons_zero, List.set_cons_succ]
                refine wpAnyH_take (i := 21) (oi := { dst := some 146, op := Op.fieldAddr 45 (Operand.tmp 145) 0, type := 0, pos := "law.go:100", after := #[{ on := 20, ground := Ground.data }, { on := 11, ground := Ground.guard }], guard := some (11, true) }) (v := undef) rfl (by kernel_rfl) (by kernel_rfl) (by kernel_rfl) (fun _ _ _ h => h) (Or.inr ⟨by rfl, rfl⟩) (by assumption) ?_
                try simp only [Act.put, List.setIfInBounds_toArray, List.set_cons_zero, List.set_cons_succ]
                refine wpAnyH_take (i := 22) (oi := { dst := some 147, op := Op.load 3 (Operand.tmp 146), type := 3, pos := "law.go:100", after := #[{ on := 21, ground := Ground.data }, { on := 11, ground := Ground.guard }], guard := some (11, true) }) (v := undef) rfl (by kernel_rfl) (by kernel_rfl) (by kernel_rfl) (fun _ _ _ h => h) (Or.inr ⟨by rfl, rfl⟩) (by assumption) ?_
                try simp only [Act.put, List.setIfInBounds_toArray, List.set_cons_zero, List.set_cons_succ]
                refine wpAnyH_take (i := 23) (oi := { dst := some 148, op := Op.binOp BinOp.geq 3 (Operand.tmp 142) (Operand.tmp 147) 3, type := 4, pos := "law.go:100", after := #[{ on := 17, ground := Ground.data }, { on := 22, ground := Ground.data }, { on := 11, ground := Ground.guard }], guard := some (11, true) }) (v := undef) rfl (by kernel_rfl) (by kernel_rfl) (by kernel_rfl) (fun _ _ _ h => h) (Or.inr ⟨by rfl, rfl⟩) (by assumption) ?_
                try simp only [Act.put, List.setIfInBounds_toArray, List.set_cons_zero, List.set_cons_succ]
                refine wpAnyH_take (i := 24) (oi := { dst := some 149, op := Op.pick (Operand.tmp 136) (Operand.tmp 148) (Operand.const (Value.bool false)), type := 4, pos := "law.go:100", after := #[{ on := 11, ground := Ground.data }, { on := 23, ground := Ground.data }, { on := 8, ground := Ground.guard }], guard := some (8, false) }) (v := ?va24u2) rfl (by kernel_rfl) (by kernel_rfl) (by kernel_rfl) (fun _ _ _ h => h) (Or.inl ⟨by rfl, ?ha24u2⟩) (by assumption) ?ra24u2
                case ha24u2 => (intro w0 hSw; (try dsimp only at hSw); go_simp; try with_reducible rfl)
                try simp only [Act.put, List.setIfInBounds_toArray, List.set_cons_zero, List.set_cons_succ]
                refine wpAnyH_take (i := 25) (oi := { dst := some 150, op := Op.pick (Operand.tmp 133) (Operand.const (Value.bool true)) (Operand.tmp 149), type := 4, pos := "law.go:100", after := #[{ on := 8, ground := Ground.data }, { on := 24, ground := Ground.data }], guard := none }) (v := ?va25u2) rfl (by kernel_rfl) (by kernel_rfl) (by kernel_rfl) (fun _ _ _ h => h) (Or.inl ⟨by rfl, ?ha25u2⟩) (by assumption) ?ra25u2
                case ha25u2 => (intro w0 hSw; (try dsimp only at hSw); go_simp; try with_reducible rfl)
                try simp only [Act.put, List.setIfInBounds_toArray, List.set_cons_zero, List.set_cons_succ]
                refine wpAnyH_done (by kernel_rfl) ?_ _
                refine NoPanic.normal ?_
                have HNX : Hid (Kep2 w p m b b12 ar an (some ⟨gv, fv, none⟩) vts w15) := ⟨HA.out.below hs15.out, bt' HBZ.out hs15.out, HKZ.out.below hs15.out HKZ.out.lt, HHV.out.below hs15.out⟩
                clear hs15
                go_wp2
                go_roundw
                case rel => exact ⟨_, HJ.out, by go_num, HNX⟩
                case measure => have := HJ.out; simp [intOf]; omega
              · obtain ⟨i, hie⟩ : ∃ i, j = i + 1 := ⟨j - 1, by omega⟩
                obtain ⟨hi, hzs⟩ := HRI.out i hie
                obtain ⟨gv', fv', hgo', _, ev'⟩ := HHV.out.held.at hi
                cases hgo'
                have z0 := ev' 0 _ rfl
                obtain ⟨zs, HZS⟩ : ∃ z, Hid ((vts[i]'hi).slot = z) := ⟨_, hid rfl⟩
                have z1 : wr.cell? ⟨gv, fv + i * 8, none⟩ = some (.int .i64 zs) := by rw [← HZS.out]; exact z0
                have hzy : ¬ ys ≤ zs := by rw [← HZS.out]; simp only at hzs; omega
                have hji : (j : Int) - 1 = (i : Int) := by omega
                have hii : (0 : Int) ≤ (i : Int) := by omega
                have hi2 : (i : Int) < (VV : Int) := by omega
                have hp1 : decide ((0 : Int) < (j : Int)) = true := decide_eq_true (by omega)
                have hq1 : decide (0 < j) = true := decide_eq_true (by omega)
                have hbi : -9223372036854775808 ≤ (i : Int) ∧ (i : Int) ≤ 9223372036854775807 := ⟨by omega, by omega⟩
                have hwi : IntKind.i64.wrap (i : Int) = (i : Int) := by rw [IntKind.wrap_i64]; omega
                have hwj : IntKind.i64.wrap ((j : Int) - 1) = (i : Int) := (congrArg IntKind.i64.wrap hji).trans hwi
                clear hbi
                clear hie
                clear ev' z0 hzs hj0
                have HSV : Hid (∀ V, ScL wr V → (ScL wr V ∧ V.cell? ⟨gv, fv + j * 8 + 1, none⟩ = some (.int .i64 yr) ∧ V.cell? ⟨gv, fv + j * 8 + 2, none⟩ = some (.int .i64 yn) ∧ V.cell? ⟨gv, fv + j * 8, none⟩ = some (.int .i64 ys) ∧ V.cell? ⟨b12, 0, none⟩ = some (.int .i64 ar) ∧ V.cell? ⟨b12, 1, none⟩ = some (.int .i64 an) ∧ V.cell? ⟨gv, fv + i * 8, none⟩ = some (.int .i64 zs))) := fun V hV => ⟨hV, (hV.out.cell (p := ⟨gv, _, none⟩) hgv).trans e1, (hV.out.cell (p := ⟨gv, _, none⟩) hgv).trans e2, (hV.out.cell (p := ⟨gv, _, none⟩) hgv).trans e0, (hV.out.cell (p := ⟨b12, _, none⟩) HKZ.out.lt).trans t0, (hV.out.cell (p := ⟨b12, _, none⟩) HKZ.out.lt).trans t1, (hV.out.cell (p := ⟨gv, _, none⟩) hgv).trans z1⟩
                clear e0 e1 e2 t0 t1 z1
                go_wp2
                refine wp_region_noPanic ?_
                refine wp_region_held_drew (S := (fun V => ScL wr V ∧ V.cell? ⟨gv, fv + j * 8 + 1, none⟩ = some (.int .i64 yr) ∧ V.cell? ⟨gv, fv + j * 8 + 2, none⟩ = some (.int .i64 yn) ∧ V.cell? ⟨gv, fv + j * 8, none⟩ = some (.int .i64 ys) ∧ V.cell? ⟨b12, 0, none⟩ = some (.int .i64 ar) ∧ V.cell? ⟨b12, 1, none⟩ = some (.int .i64 an) ∧ V.cell? ⟨gv, fv + i * 8, none⟩ = some (.int .i64 zs))) (by kernel_rfl) (HSV.out _ (ScL.start _).dr) (fun hHeld => ?_)
                refine wpAnyH_take (i := 0) (oi := { dst := some 125, op := Op.move (Operand.tmp 13), type := 36, pos := "law.go:100", after := #[], guard := none }) (v := ?vb0u2) rfl (by kernel_rfl) (by kernel_rfl) (by kernel_rfl) (fun _ _ _ h => h) (Or.inl ⟨by rfl, ?hb0u2⟩) (by assumption) ?rb0u2
                case hb0u2 => (intro w0 hSw; (try dsimp only at hSw); go_simp; try with_reducible rfl)
                try simp only [Act.put, List.setIfInBounds_toArray, List.set_cons_zero, List.set_cons_succ]
                refine wpAnyH_take (i := 1) (oi := { dst := some 126, op := Op.move (Operand.tmp 14), type := 3, pos := "law.go:100", after := #[], guard := none }) (v := ?vb1u2) rfl (by kernel_rfl) (by kernel_rfl) (by kernel_rfl) (fun _ _ _ h => h) (Or.inl ⟨by rfl, ?hb1u2⟩) (by assumption) ?rb1u2
                case hb1u2 => (intro w0 hSw; (try dsimp only at hSw); go_simp; try with_reducible rfl)
                try simp only [Act.put, List.setIfInBounds_toArray, List.set_cons_zero, List.set_cons_succ]
                refine wpAnyH_take (i := 2) (oi := { dst := some 127, op := Op.indexAddr 36 (Operand.tmp 125) (Operand.tmp 126), type := 0, pos := "law.go:100", after := #[{ on := 0, ground := Ground.data }, { on := 1, ground := Ground.data }], guard := none }) (v := ?vb2u2) rfl (by kernel_rfl) (by kernel_rfl) (by kernel_rfl) (fun _ _ _ h => h) (Or.inl ⟨by rfl, ?hb2u2⟩) (by assumption) ?rb2u2
                case hb2u2 => (intro w0 hSw; (try dsimp only at hSw); go_simp; try with_reducible rfl)
                try simp only [Act.put, List.setIfInBounds_toArray, List.set_cons_zero, List.set_cons_succ]
                refine wpAnyH_take (i := 3) (oi := { dst := some 128, op := Op.fieldAddr 45 (Operand.tmp 127) 1, type := 0, pos := "law.go:100", after := #[{ on := 2, ground := Ground.data }], guard := none }) (v := ?vb3u2) rfl (by kernel_rfl) (by kernel_rfl) (by kernel_rfl) (fun _ _ _ h => h) (Or.inl ⟨by rfl, ?hb3u2⟩) (by assumption) ?rb3u2
                case hb3u2 => (intro w0 hSw; (try dsimp only at hSw); go_simp; try with_reducible rfl)
                try simp only [Act.put, List.setIfInBounds_toArray, List.set_cons_zero, List.set_cons_succ]
                refine wpAnyH_take (i := 4) (oi := { dst := some 129, op := Op.load 29 (Operand.tmp 128), type := 29, pos := "law.go:100", after := #[{ on := 3, ground := Ground.data }], guard := none }) (v := ?vb4u2) rfl (by kernel_rfl) (by kernel_rfl) (by kernel_rfl) (fun _ _ _ h => h) (Or.inl ⟨by rfl, ?hb4u2⟩) (by assumption) ?rb4u2
                case hb4u2 => (intro w0 hSw; (try dsimp only at hSw); go_simp; try with_reducible rfl)
                try simp only [Act.put, List.setIfInBounds_toArray, List.set_cons_zero, List.set_cons_succ]
                refine wpAnyH_take (i := 5) (oi := { dst := some 130, op := Op.load 29 (Operand.tmp 12), type := 29, pos := "law.go:100", after := #[], guard := none }) (v := ?vb5u2) rfl (by kernel_rfl) (by kernel_rfl) (by kernel_rfl) (fun _ _ _ h => h) (Or.inl ⟨by rfl, ?hb5u2⟩) (by assumption) ?rb5u2
                case hb5u2 => (intro w0 hSw; (try dsimp only at hSw); go_simp; try with_reducible rfl)
                try simp only [Act.put, List.setIfInBounds_toArray, List.set_cons_zero, List.set_cons_succ]
                refine wpAnyH_ready (rs := [6]) (by kernel_rfl) (by simp) ?_
                refine AllReadyH.cons (o := { dst := some 131, op := Op.call { callee := Callee.value (Operand.func 9), args := #[Operand.tmp 129, Operand.tmp 130], argTypes := #[29, 29] }, type := 3, pos := "law.go:100", after := #[{ on := 4, ground := Ground.data }, { on := 5, ground := Ground.data }], guard := none }) rfl (fun K hK => ?_) AllReadyH.nil
                go_simp
                go_at_call 9; refine (HCY.out _ (by (repeat (first | assumption | exact ScL.start _ | apply ScL.dr)))).mono ?_; rintro e w15 ⟨rfl, hs15⟩
                refine hK.out _ _ (HSV.out _ hs15) (fun hHeld => ?_)
                clear hK K
                try simp only [Act.put, List.setIfInBounds_toArray, List.set_cons_zero, List.set_cons_succ]
                refine wpAnyH_take (i := 7) (oi := { dst := some 132, op := Op.binOp BinOp.gtr 3 (Operand.tmp 131) (Operand.const (Value.int IntKind.i64 0)) 3, type := 4, pos := "law.go:100", after := #[{ on := 6, ground := Ground.data }], guard := none }) (v := ?vb7u2) rfl (by kernel_rfl) (by kernel_rfl) (by kernel_rfl) (fun _ _ _ h => h) (Or.inl ⟨by rfl, ?hb7u2⟩) (by assumption) ?rb7u2
                case hb7u2 => (intro w0 hSw; (try dsimp only at hSw); go_simp; try with_reducible rfl)
                try simp only [Act.put, List.setIfInBounds_toArray, List.set_cons_zero, List.set_cons_succ]
                refine wpAnyH_take (i := 8) (oi := { dst := some 133, op := Op.move (Operand.tmp 132), type := 4, pos := "law.go:100", after := #[{ on := 7, ground := Ground.data }, { on := 6, ground := Ground.chain }], guard := none }) (v := ?vb8u2) rfl (by kernel_rfl) (by kernel_rfl) (by kernel_rfl) (fun _ _ _ h => h) (Or.inl ⟨by rfl, ?hb8u2⟩) (by assumption) ?rb8u2
                case hb8u2 => (intro w0 hSw; (try dsimp only at hSw); go_simp; try with_reducible rfl)
                try simp only [Act.put, List.setIfInBounds_toArray, List.set_cons_zero, List.set_cons_succ]
                refine wpAnyH_take (i := 9) (oi := { dst := some 134, op := Op.move (Operand.tmp 14), type := 3, pos := "law.go:100", after := #[{ on := 8, ground := Ground.guard }], guard := some (8, false) }) (v := ?vb9u2) rfl (by kernel_rfl) (by kernel_rfl) (by kernel_rfl) (fun _ _ _ h => h) (Or.inl ⟨by rfl, ?hb9u2⟩) (by assumption) ?rb9u2
                case hb9u2 => (intro w0 hSw; (try dsimp only at hSw); go_simp; try with_reducible rfl)
                try simp only [Act.put, List.setIfInBounds_toArray, List.set_cons_zero, List.set_cons_succ]
                refine wpAnyH_take (i := 10) (oi := { dst := some 135, op := Op.binOp BinOp.gtr 3 (Operand.tmp 134) (Operand.const (Value.int IntKind.i64 0)) 3, type := 4, pos := "law.go:100", after := #[{ on := 9, ground := Ground.data }, { on := 8, ground := Ground.guard }], guard := some (8, false) }) (v := ?vb10u2) rfl (by kernel_rfl) (by kernel_rfl) (by kernel_rfl) (fun _ _ _ h => h) (Or.inl ⟨by rfl, ?hb10u2⟩) (by assumption) ?rb10u2
                case hb10u2 => (intro w0 hSw; (try dsimp only at hSw); go_simp; try with_reducible rfl)
                try simp only [Act.put, List.setIfInBounds_toArray, List.set_cons_zero, List.set_cons_succ]
                refine wpAnyH_take (i := 11) (oi := { dst := some 136, op := Op.move (Operand.tmp 135), type := 4, pos := "law.go:100", after := #[{ on := 10, ground := Ground.data }, { on := 8, ground := Ground.chain }, { on := 8, ground := Ground.guard }], guard := some (8, false) }) (v := ?vb11u2) rfl (by kernel_rfl) (by kernel_rfl) (by kernel_rfl) (fun _ _ _ h => h) (Or.inl ⟨by rfl, ?hb11u2⟩) (by assumption) ?rb11u2
                case hb11u2 => (intro w0 hSw; (try dsimp only at hSw); go_simp; try with_reducible rfl)
                try simp only [Act.put, List.setIfInBounds_toArray, List.set_cons_zero, List.set_cons_succ]
                refine wpAnyH_take (i := 12) (oi := { dst := some 137, op := Op.move (Operand.tmp 13), type := 36, pos := "law.go:100", after := #[{ on := 11, ground := Ground.guard }], guard := some (11, true) }) (v := ?vb12u2) rfl (by kernel_rfl) (by kernel_rfl) (by kernel_rfl) (fun _ _ _ h => h) (Or.inl ⟨by rfl, ?hb12u2⟩) (by assumption) ?rb12u2
                case hb12u2 => (intro w0 hSw; (try dsimp only at hSw); go_simp; try with_reducible rfl)
                try simp only [Act.put, List.setIfInBounds_toArray, List.set_cons_zero, List.set_cons_succ]
                refine wpAnyH_take (i := 13) (oi := { dst := some 138, op := Op.move (Operand.tmp 14), type := 3, pos := "law.go:100", after := #[{ on := 11, ground := Ground.guard }], guard := some (11, true) }) (v := ?vb13u2) rfl (by kernel_rfl) (by kernel_rfl) (by kernel_rfl) (fun _ _ _ h => h) (Or.inl ⟨by rfl, ?hb13u2⟩) (by assumption) ?rb13u2
                case hb13u2 => (intro w0 hSw; (try dsimp only at hSw); go_simp; try with_reducible rfl)
                try simp only [Act.put, List.setIfInBounds_toArray, List.set_cons_zero, List.set_cons_succ]
                refine wpAnyH_take (i := 14) (oi := { dst := some 139, op := Op.binOp BinOp.sub 3 (Operand.tmp 138) (Operand.const (Value.int IntKind.i64 1)) 3, type := 3, pos := "law.go:100", after := #[{ on := 13, ground := Ground.data }, { on := 11, ground := Ground.guard }], guard := some (11, true) }) (v := ?vb14u2) rfl (by kernel_rfl) (by kernel_rfl) (by kernel_rfl) (fun _ _ _ h => h) (Or.inl ⟨by rfl, ?hb14u2⟩) (by assumption) ?rb14u2
                case hb14u2 => (intro w0 hSw; (try dsimp only at hSw); go_simp; try with_reducible rfl)
                try simp only [Act.put, List.setIfInBounds_toArray, List.set_cons_zero, List.set_cons_succ]
                refine wpAnyH_take (i := 15) (oi := { dst := some 140, op := Op.indexAddr 36 (Operand.tmp 137) (Operand.tmp 139), type := 0, pos := "law.go:100", after := #[{ on := 12, ground := Ground.data }, { on := 14, ground := Ground.data }, { on := 11, ground := Ground.guard }], guard := some (11, true) }) (v := ?vb15u2) rfl (by kernel_rfl) (by kernel_rfl) (by kernel_rfl) (fun _ _ _ h => h) (Or.inl ⟨by rfl, ?hb15u2⟩) (by assumption) ?rb15u2
                case hb15u2 => (intro w0 hSw; (try dsimp only at hSw); go_simp; try with_reducible rfl)
                try simp only [Act.put, List.setIfInBounds_toArray, List.set_cons_zero, List.set_cons_succ]
                refine wpAnyH_take (i := 16) (oi := { dst := some 141, op := Op.fieldAddr 45 (Operand.tmp 140) 0, type := 0, pos := "law.go:100", after := #[{ on := 15, ground := Ground.data }, { on := 11, ground := Ground.guard }], guard := some (11, true) }) (v := ?vb16u2) rfl (by kernel_rfl) (by kernel_rfl) (by kernel_rfl) (fun _ _ _ h => h) (Or.inl ⟨by rfl, ?hb16u2⟩) (by assumption) ?rb16u2
                case hb16u2 => (intro w0 hSw; (try dsimp only at hSw); go_simp; try with_reducible rfl)
                try simp only [Act.put, List.setIfInBounds_toArray, List.set_cons_zero, List.set_cons_succ]
                refine wpAnyH_take (i := 17) (oi := { dst := some 142, op := Op.load 3 (Operand.tmp 141), type := 3, pos := "law.go:100", after := #[{ on := 16, ground := Ground.data }, { on := 11, ground := Ground.guard }], guard := some (11, true) }) (v := ?vb17u2) rfl (by kernel_rfl) (by kernel_rfl) (by kernel_rfl) (fun _ _ _ h => h) (Or.inl ⟨by rfl, ?hb17u2⟩) (by assumption) ?rb17u2
                case hb17u2 => (intro w0 hSw; (try dsimp only at hSw); go_simp; try with_reducible rfl)
                try simp only [Act.put, List.setIfInBounds_toArray, List.set_cons_zero, List.set_cons_succ]
                refine wpAnyH_take (i := 18) (oi := { dst := some 143, op := Op.move (Operand.tmp 13), type := 36, pos := "law.go:100", after := #[{ on := 11, ground := Ground.guard }], guard := some (11, true) }) (v := ?vb18u2) rfl (by kernel_rfl) (by kernel_rfl) (by kernel_rfl) (fun _ _ _ h => h) (Or.inl ⟨by rfl, ?hb18u2⟩) (by assumption) ?rb18u2
                case hb18u2 => (intro w0 hSw; (try dsimp only at hSw); go_simp; try with_reducible rfl)
                try simp only [Act.put, List.setIfInBounds_toArray, List.set_cons_zero, List.set_cons_succ]
                refine wpAnyH_take (i := 19) (oi := { dst := some 144, op := Op.move (Operand.tmp 14), type := 3, pos := "law.go:100", after := #[{ on := 11, ground := Ground.guard }], guard := some (11, true) }) (v := ?vb19u2) rfl (by kernel_rfl) (by kernel_rfl) (by kernel_rfl) (fun _ _ _ h => h) (Or.inl ⟨by rfl, ?hb19u2⟩) (by assumption) ?rb19u2
                case hb19u2 => (intro w0 hSw; (try dsimp only at hSw); go_simp; try with_reducible rfl)
                try simp only [Act.put, List.setIfInBounds_toArray, List.set_cons_zero, List.set_cons_succ]
                refine wpAnyH_take (i := 20) (oi := { dst := some 145, op := Op.indexAddr 36 (Operand.tmp 143) (Operand.tmp 144), type := 0, pos := "law.go:100", after := #[{ on := 18, ground := Ground.data }, { on := 19, ground := Ground.data }, { on := 11, ground := Ground.guard }], guard := some (11, true) }) (v := ?vb20u2) rfl (by kernel_rfl) (by kernel_rfl) (by kernel_rfl) (fun _ _ _ h => h) (Or.inl ⟨by rfl, ?hb20u2⟩) (by assumption) ?rb20u2
                case hb20u2 => (intro w0 hSw; (try dsimp only at hSw); go_simp; try with_reducible rfl)
                try simp only [Act.put, List.setIfInBounds_toArray, List.set_cons_zero, List.set_cons_succ]
                refine wpAnyH_take (i := 21) (oi := { dst := some 146, op := Op.fieldAddr 45 (Operand.tmp 145) 0, type := 0, pos := "law.go:100", after := #[{ on := 20, ground := Ground.data }, { on := 11, ground := Ground.guard }], guard := some (11, true) }) (v := ?vb21u2) rfl (by kernel_rfl) (by kernel_rfl) (by kernel_rfl) (fun _ _ _ h => h) (Or.inl ⟨by rfl, ?hb21u2⟩) (by assumption) ?rb21u2
                case hb21u2 => (intro w0 hSw; (try dsimp only at hSw); go_simp; try with_reducible rfl)
                try simp only [Act.put, List.setIfInBounds_toArray, List.set_cons_zero, List.set_cons_succ]
                refine wpAnyH_take (i := 22) (oi := { dst := some 147, op := Op.load 3 (Operand.tmp 146), type := 3, pos := "law.go:100", after := #[{ on := 21, ground := Ground.data }, { on := 11, ground := Ground.guard }], guard := some (11, true) }) (v := ?vb22u2) rfl (by kernel_rfl) (by kernel_rfl) (by kernel_rfl) (fun _ _ _ h => h) (Or.inl ⟨by rfl, ?hb22u2⟩) (by assumption) ?rb22u2
                case hb22u2 => (intro w0 hSw; (try dsimp only at hSw); go_simp; try with_reducible rfl)
                try simp only [Act.put, List.setIfInBounds_toArray, List.set_cons_zero, List.set_cons_succ]
                refine wpAnyH_take (i := 23) (oi := { dst := some 148, op := Op.binOp BinOp.geq 3 (Operand.tmp 142) (Operand.tmp 147) 3, type := 4, pos := "law.go:100", after := #[{ on := 17, ground := Ground.data }, { on := 22, ground := Ground.data }, { on := 11, ground := Ground.guard }], guard := some (11, true) }) (v := ?vb23u2) rfl (by kernel_rfl) (by kernel_rfl) (by kernel_rfl) (fun _ _ _ h => h) (Or.inl ⟨by rfl, ?hb23u2⟩) (by assumption) ?rb23u2
                case hb23u2 => (intro w0 hSw; (try dsimp only at hSw); go_simp; try with_reducible rfl)
                try simp only [Act.put, List.setIfInBounds_toArray, List.set_cons_zero, List.set_cons_succ]
                refine wpAnyH_take (i := 24) (oi := { dst := some 149, op := Op.pick (Operand.tmp 136) (Operand.tmp 148) (Operand.const (Value.bool false)), type := 4, pos := "law.go:100", after := #[{ on := 11, ground := Ground.data }, { on := 23, ground := Ground.data }, { on := 8, ground := Ground.guard }], guard := some (8, false) }) (v := ?vb24u2) rfl (by kernel_rfl) (by kernel_rfl) (by kernel_rfl) (fun _ _ _ h => h) (Or.inl ⟨by rfl, ?hb24u2⟩) (by assumption) ?rb24u2
                case hb24u2 => (intro w0 hSw; (try dsimp only at hSw); go_simp; try with_reducible rfl)
                try simp only [Act.put, List.setIfInBounds_toArray, List.set_cons_zero, List.set_cons_succ]
                refine wpAnyH_take (i := 25) (oi := { dst := some 150, op := Op.pick (Operand.tmp 133) (Operand.const (Value.bool true)) (Operand.tmp 149), type := 4, pos := "law.go:100", after := #[{ on := 8, ground := Ground.data }, { on := 24, ground := Ground.data }], guard := none }) (v := ?vb25u2) rfl (by kernel_rfl) (by kernel_rfl) (by kernel_rfl) (fun _ _ _ h => h) (Or.inl ⟨by rfl, ?hb25u2⟩) (by assumption) ?rb25u2
                case hb25u2 => (intro w0 hSw; (try dsimp only at hSw); go_simp; try with_reducible rfl)
                try simp only [Act.put, List.setIfInBounds_toArray, List.set_cons_zero, List.set_cons_succ]
                refine wpAnyH_done (by kernel_rfl) ?_ _
                refine NoPanic.normal ?_
                have HNX : Hid (Kep2 w p m b b12 ar an (some ⟨gv, fv, none⟩) vts w15) := ⟨HA.out.below hs15.out, bt' HBZ.out hs15.out, HKZ.out.below hs15.out HKZ.out.lt, HHV.out.below hs15.out⟩
                clear hs15 hwi hwj hji hii hi2 hp1 hq1
                go_wp2
                go_roundw
                case rel => exact ⟨_, HJ.out, by go_num, HNX⟩
                case measure => have := HJ.out; simp [intOf]; omega
            · have hlt2 : ¬ (j : Int) < (VV : Int) := by omega
              have HNX : Hid (Kep1 w p m wr) := ⟨b, HA.out, HBZ.out⟩
              clear hlt hj
              go_wp2
              go_roundw
              case rel => exact ⟨k + 1, HLT.out, by go_num, HNX⟩
              case measure => have := HLT.out; simp [intOf]; omega
        · have hkk : kindA a ⟨kd, fr, to, (br, bn), sl, ⟨⟨np, tk, ct, ep, cut⟩, ao1, cap1⟩, vo, vc, vs, so, sc, seen, eo, ec, evs, ti⟩ ≠ 5 := fun h => hk5 (hk6.trans h)
          have hap : ar = br ∧ an = bn := by have h1 := HAR.out; rw [hba, kindNot5_after hkk] at h1; cases h1; exact ⟨rfl, rfl⟩
          have hk24 : k6 = 2 ∨ k6 = 4 := by
            rw [hk6]
            rcases kindA_or a ⟨kd, fr, to, (br, bn), sl, ⟨⟨np, tk, ct, ep, cut⟩, ao1, cap1⟩, vo, vc, vs, so, sc, seen, eo, ec, evs, ti⟩ with h | h | h
            · exact absurd h hkk
            · exact .inl h
            · exact .inr h
          obtain ⟨rfl, rfl⟩ := hap
          clear hk6 hrn6 hba hR6 hkk hk5
          have hcd : decide (cc < (0 : Int)) = false := decide_eq_false (by omega)
          have HCQ : Hid (∀ V, ScL w10 V → Calls Try.prog 9 #[.agg #[.int .i64 ar, .int .i64 an], .agg #[.int .i64 pr, .int .i64 pn]] V fun e w' => e = .returned (.int .i64 cc) ∧ ScL w10 w') := fun V hV => by
            have h1 := compareB V (ar, an) (pr, pn)
            rw [HCC.out] at h1
            exact h1.mono fun e w' ⟨h2, h3⟩ => ⟨h2, hV.go h3⟩
          rcases hk24 with rfl | rfl
          · have HSA : Hid (∀ V, ScL w10 V → (ScL w10 V ∧ V.cell? ⟨bb, off + k * 15 + 3, none⟩ = some (.int .i64 ar) ∧ V.cell? ⟨bb, off + k * 15 + 4, none⟩ = some (.int .i64 an) ∧ V.cell? ⟨b8, 0, none⟩ = some (.int .i64 pr) ∧ V.cell? ⟨b8, 1, none⟩ = some (.int .i64 pn) ∧ V.cell? ⟨b12, 0, none⟩ = some (.int .i64 ar) ∧ V.cell? ⟨b12, 1, none⟩ = some (.int .i64 an) ∧ V.cell? ⟨b9, 0, none⟩ = some (.int .i64 2))) := fun V hV => by
              obtain ⟨_, _, _, e3, e4, _⟩ := HMS.out V (bt' HB10.out hV.out)
              exact ⟨hV, e3, e4, (hV.out.cell (p := ⟨b8, _, none⟩) HK8A.out.lt).trans s0, (hV.out.cell (p := ⟨b8, _, none⟩) HK8A.out.lt).trans s1, (hV.out.cell (p := ⟨b12, _, none⟩) HK12A.out.lt).trans t0, (hV.out.cell (p := ⟨b12, _, none⟩) HK12A.out.lt).trans t1, (hV.out.cell (p := ⟨b9, _, none⟩) HK9A.out.lt).trans u0⟩
            go_wp2
            go_region_held3 (fun V => ScL w10 V ∧ V.cell? ⟨bb, off + k * 15 + 3, none⟩ = some (.int .i64 ar) ∧ V.cell? ⟨bb, off + k * 15 + 4, none⟩ = some (.int .i64 an) ∧ V.cell? ⟨b8, 0, none⟩ = some (.int .i64 pr) ∧ V.cell? ⟨b8, 1, none⟩ = some (.int .i64 pn) ∧ V.cell? ⟨b12, 0, none⟩ = some (.int .i64 ar) ∧ V.cell? ⟨b12, 1, none⟩ = some (.int .i64 an) ∧ V.cell? ⟨b9, 0, none⟩ = some (.int .i64 2))
              (first | (refine HSA.out _ ?_; (repeat (first | with_reducible assumption | with_reducible exact ScL.start _ | with_reducible apply ScL.dr)); done))
              ((go_at_call 9; with_reducible refine (HCQ.out _ (by (repeat (first | assumption | exact ScL.start _ | apply ScL.dr)))).mono ?_; rintro e w11 ⟨rfl, hs11⟩))
            all_goals
              have HL11 := hid (HL10.out.below hs11.out)
              have HB11 := hid (bt' HB10.out hs11.out)
              have HK12B := hid (HK12A.out.below hs11.out HK12A.out.lt)
              have HK8B := hid (HK8A.out.below hs11.out HK8A.out.lt)
              have HK9B := hid (HK9A.out.below hs11.out HK9A.out.lt)
              clear s0 s1 t0 t1 u0 u3 u4
              have s0 := HK8B.out.cell (i := 0) rfl
              have s1 := HK8B.out.cell (i := 1) rfl
              have t0 := HK12B.out.cell (i := 0) rfl
              have t1 := HK12B.out.cell (i := 1) rfl
              have u0 := HK9B.out.cell (i := 0) rfl
              have u3 := HK9B.out.cell (i := 3) rfl
              have u4 := HK9B.out.cell (i := 4) rfl
              have HVO := hid HL11.out.at'.votes
              clear hs11
              go_wp2_with fail
              refine HVO.out.mono ?_
              rintro e w12 ⟨vot, vct, vts, rfl, hmap, hheld, hlen, _, hb12⟩
              obtain ⟨VV, HVV⟩ : ∃ q, Hid (vts.length = q) := ⟨_, hid rfl⟩
              rw [HVV.out]
              have hVL : VV ≤ 4096 := by rw [← HVV.out]; exact hlen
              have HMAP := hid hmap
              have HKP : Hid (Kep2 w p m b b12 ar an vot vts w12) := ⟨HL11.out.below hb12, bt' HB11.out hb12, HK12B.out.below hb12 HK12B.out.lt, hheld⟩
              clear hmap hheld hlen hb12 HVO s0 s1 t0 t1 u0 u3 u4
              go_wp2
              go_loopw [14] (fun x wr => ∃ j : Nat, j ≤ VV ∧ x = .int .i64 j ∧ Hid (Kep2 w p m b b12 ar an vot vts wr)) (fun x _ => VV - (intOf x).toNat)
              case atStart => exact ⟨0, Nat.zero_le _, rfl, HKP⟩
              case round =>
                obtain ⟨j, hj, rfl, HR⟩ := hrel
                have HA := hid HR.out.1
                have HBZ := hid HR.out.2.1
                have HKZ := hid HR.out.2.2.1
                have HHV := hid HR.out.2.2.2
                clear HR
                by_cases hlt : j < VV
                · have hlt2 : (j : Int) < (VV : Int) := by omega
                  have HJ := hid hlt
                  have hjx : Hid (j < vts.length) := (HVV.out ▸ hlt : j < vts.length)
                  have HYC : Hid (cmpB (vts[j]'hjx.out).bal (ar, an) ≤ 0) := by
                    obtain ⟨_, _, h3⟩ := votes_at HA.out.at'.ok HMAP.out hjx.out
                    rw [HAR.out] at h3
                    exact h3
                  have HRI : Hid (∀ i, (e : j = i + 1) → ∃ hi : i < vts.length, (vts[i]'hi).slot < (vts[j]'hjx.out).slot) := fun i e => by
                    subst e
                    exact ⟨Nat.lt_of_succ_lt hjx.out, votes_rise HA.out.at'.ok HMAP.out hjx.out⟩
                  obtain ⟨gv, fv, hgo, hgv, ev⟩ := HHV.out.held.at hjx.out
                  subst hgo
                  obtain ⟨Y, hY⟩ : ∃ Y, Y = vts[j]'hjx.out := ⟨_, rfl⟩
                  rw [← hY] at ev HYC HRI
                  clear hY
                  obtain ⟨ys, ⟨yr, yn⟩, ye⟩ := Y
                  have e0 := ev 0 _ rfl
                  have e1 := ev 1 _ rfl
                  have e2 := ev 2 _ rfl
                  have t0 := HKZ.out.cell (i := 0) rfl
                  have t1 := HKZ.out.cell (i := 1) rfl
                  obtain ⟨cy, HCYe⟩ : ∃ c, Hid (cmpB (yr, yn) (ar, an) = c) := ⟨_, hid rfl⟩
                  have hcy : decide ((0 : Int) < cy) = false := decide_eq_false (by rw [← HCYe.out]; have := HYC.out; simp only at this; omega)
                  have HCY : Hid (∀ V, ScL wr V → Calls Try.prog 9 #[.agg #[.int .i64 yr, .int .i64 yn], .agg #[.int .i64 ar, .int .i64 an]] V fun e w' => e = .returned (.int .i64 cy) ∧ ScL wr w') := fun V hV => by
                    have h1 := compareB V (yr, yn) (ar, an)
                    rw [HCYe.out] at h1
                    exact h1.mono fun e w' ⟨h2, h3⟩ => ⟨h2, hV.go h3⟩
                  clear ev hlt hj
                  by_cases hj0 : j = 0
                  · subst hj0
                    rw [Nat.zero_mul, Nat.add_zero] at e0 e1 e2
                    have HSV : Hid (∀ V, ScL wr V → (ScL wr V ∧ V.cell? ⟨gv, fv + 1, none⟩ = some (.int .i64 yr) ∧ V.cell? ⟨gv, fv + 2, none⟩ = some (.int .i64 yn) ∧ V.cell? ⟨gv, fv, none⟩ = some (.int .i64 ys) ∧ V.cell? ⟨b12, 0, none⟩ = some (.int .i64 ar) ∧ V.cell? ⟨b12, 1, none⟩ = some (.int .i64 an))) := fun V hV => ⟨hV, (hV.out.cell (p := ⟨gv, _, none⟩) hgv).trans e1, (hV.out.cell (p := ⟨gv, _, none⟩) hgv).trans e2, (hV.out.cell (p := ⟨gv, _, none⟩) hgv).trans e0, (hV.out.cell (p := ⟨b12, _, none⟩) HKZ.out.lt).trans t0, (hV.out.cell (p := ⟨b12, _, none⟩) HKZ.out.lt).trans t1⟩
                    clear e0 e1 e2 t0 t1
                    go_wp2
                    refine wp_region_noPanic ?_
                    refine wp_region_held_drew (S := (fun V => ScL wr V ∧ V.cell? ⟨gv, fv + 1, none⟩ = some (.int .i64 yr) ∧ V.cell? ⟨gv, fv + 2, none⟩ = some (.int .i64 yn) ∧ V.cell? ⟨gv, fv, none⟩ = some (.int .i64 ys) ∧ V.cell? ⟨b12, 0, none⟩ = some (.int .i64 ar) ∧ V.cell? ⟨b12, 1, none⟩ = some (.int .i64 an))) (by kernel_rfl) (HSV.out _ (ScL.start _).dr) (fun hHeld => ?_)
                    refine wpAnyH_take (i := 0) (oi := { dst := some 125, op := Op.move (Operand.tmp 13), type := 36, pos := "law.go:100", after := #[], guard := none }) (v := ?va0u3) rfl (by kernel_rfl) (by kernel_rfl) (by kernel_rfl) (fun _ _ _ h => h) (Or.inl ⟨by rfl, ?ha0u3⟩) (by assumption) ?ra0u3
                    case ha0u3 => (intro w0 hSw; (try dsimp only at hSw); go_simp; try with_reducible rfl)
                    try simp only [Act.put, List.setIfInBounds_toArray, List.set_cons_zero, List.set_cons_succ]
                    refine wpAnyH_take (i := 1) (oi := { dst := some 126, op := Op.move (Operand.tmp 14), type := 3, pos := "law.go:100", after := #[], guard := none }) (v := ?va1u3) rfl (by kernel_rfl) (by kernel_rfl) (by kernel_rfl) (fun _ _ _ h => h) (Or.inl ⟨by rfl, ?ha1u3⟩) (by assumption) ?ra1u3
                    case ha1u3 => (intro w0 hSw; (try dsimp only at hSw); go_simp; try with_reducible rfl)
                    try simp only [Act.put, List.setIfInBounds_toArray, List.set_cons_zero, List.set_cons_succ]
                    refine wpAnyH_take (i := 2) (oi := { dst := some 127, op := Op.indexAddr 36 (Operand.tmp 125) (Operand.tmp 126), type := 0, pos := "law.go:100", after := #[{ on := 0, ground := Ground.data }, { on := 1, ground := Ground.data }], guard := none }) (v := ?va2u3) rfl (by kernel_rfl) (by kernel_rfl) (by kernel_rfl) (fun _ _ _ h => h) (Or.inl ⟨by rfl, ?ha2u3⟩) (by assumption) ?ra2u3
                    case ha2u3 => (intro w0 hSw; (try dsimp only at hSw); go_simp; try with_reducible rfl)
                    try simp only [Act.put, List.setIfInBounds_toArray, List.set_cons_zero, List.set_cons_succ]
                    refine wpAnyH_take (i := 3) (oi := { dst := some 128, op := Op.fieldAddr 45 (Operand.tmp 127) 1, type := 0, pos := "law.go:100", after := #[{ on := 2, ground := Ground.data }], guard := none }) (v := ?va3u3) rfl (by kernel_rfl) (by kernel_rfl) (by kernel_rfl) (fun _ _ _ h => h) (Or.inl ⟨by rfl, ?ha3u3⟩) (by assumption) ?ra3u3
                    case ha3u3 => (intro w0 hSw; (try dsimp only at hSw); go_simp; try with_reducible rfl)
                    try simp only [Act.put, List.setIfInBounds_toArray, List.set_cons_zero, List.set_cons_succ]
                    refine wpAnyH_take (i := 4) (oi := { dst := some 129, op := Op.load 29 (Operand.tmp 128), type := 29, pos := "law.go:100", after := #[{ on := 3, ground := Ground.data }], guard := none }) (v := ?va4u3) rfl (by kernel_rfl) (by kernel_rfl) (by kernel_rfl) (fun _ _ _ h => h) (Or.inl ⟨by rfl, ?ha4u3⟩) (by assumption) ?ra4u3
                    case ha4u3 => (intro w0 hSw; (try dsimp only at hSw); go_simp; try with_reducible rfl)
                    try simp only [Act.put, List.setIfInBounds_toArray, List.set_cons_zero, List.set_cons_succ]
                    refine wpAnyH_take (i := 5) (oi := { dst := some 130, op := Op.load 29 (Operand.tmp 12), type := 29, pos := "law.go:100", after := #[], guard := none }) (v := ?va5u3) rfl (by kernel_rfl) (by kernel_rfl) (by kernel_rfl) (fun _ _ _ h => h) (Or.inl ⟨by rfl, ?ha5u3⟩) (by assumption) ?ra5u3
                    case ha5u3 => (intro w0 hSw; (try dsimp only at hSw); go_simp; try with_reducible rfl)
                    try simp only [Act.put, List.setIfInBounds_toArray, List.set_cons_zero, List.set_cons_succ]
                    refine wpAnyH_ready (rs := [6]) (by kernel_rfl) (by simp) ?_
                    refine AllReadyH.cons (o := { dst := some 131, op := Op.call { callee := Callee.value (Operand.func 9), args := #[Operand.tmp 129, Operand.tmp 130], argTypes := #[29, 29] }, type := 3, pos := "law.go:100", after := #[{ on := 4, ground := Ground.data }, { on := 5, ground := Ground.data }], guard := none }) rfl (fun K hK => ?_) AllReadyH.nil
                    go_simp
                    go_at_call 9; refine (HCY.out _ (by (repeat (first | assumption | exact ScL.start _ | apply ScL.dr)))).mono ?_; rintro e w15 ⟨rfl, hs15⟩
                    refine hK.out _ _ (HSV.out _ hs15) (fun hHeld => ?_)
                    clear hK K
                    try simp only [Act.put, List.setIfInBounds_toArray, List.set_cons_zero, List.set_cons_succ]
                    refine wpAnyH_take (i := 7) (oi := { dst := some 132, op := Op.binOp BinOp.gtr 3 (Operand.tmp 131) (Operand.const (Value.int IntKind.i64 0)) 3, type := 4, pos := "law.go:100", after := #[{ on := 6, ground := Ground.data }], guard := none }) (v := ?va7u3) rfl (by kernel_rfl) (by kernel_rfl) (by kernel_rfl) (fun _ _ _ h => h) (Or.inl ⟨by rfl, ?ha7u3⟩) (by assumption) ?ra7u3
                    case ha7u3 => (intro w0 hSw; (try dsimp only at hSw); go_simp; try with_reducible rfl)
                    try simp only [Act.put, List.setIfInBounds_toArray, List.set_cons_zero, List.set_cons_succ]
                    refine wpAnyH_take (i := 8) (oi := { dst := some 133, op := Op.move (Operand.tmp 132), type := 4, pos := "law.go:100", after := #[{ on := 7, ground := Ground.data }, { on := 6, ground := Ground.chain }], guard := none }) (v := ?va8u3) rfl (by kernel_rfl) (by kernel_rfl) (by kernel_rfl) (fun _ _ _ h => h) (Or.inl ⟨by rfl, ?ha8u3⟩) (by assumption) ?ra8u3
                    case ha8u3 => (intro w0 hSw; (try dsimp only at hSw); go_simp; try with_reducible rfl)
                    try simp only [Act.put, List.setIfInBounds_toArray, List.set_cons_zero, List.set_cons_succ]
                    refine wpAnyH_take (i := 9) (oi := { dst := some 134, op := Op.move (Operand.tmp 14), type := 3, pos := "law.go:100", after := #[{ on := 8, ground := Ground.guard }], guard := some (8, false) }) (v := ?va9u3) rfl (by kernel_rfl) (by kernel_rfl) (by kernel_rfl) (fun _ _ _ h => h) (Or.inl ⟨by rfl, ?ha9u3⟩) (by assumption) ?ra9u3
                    case ha9u3 => (intro w0 hSw; (try dsimp only at hSw); go_simp; try with_reducible rfl)
                    try simp only [Act.put, List.setIfInBounds_toArray, List.set_cons_zero, List.set_cons_succ]
                    refine wpAnyH_take (i := 10) (oi := { dst := some 135, op := Op.binOp BinOp.gtr 3 (Operand.tmp 134) (Operand.const (Value.int IntKind.i64 0)) 3, type := 4, pos := "law.go:100", after := #[{ on := 9, ground := Ground.data }, { on := 8, ground := Ground.guard }], guard := some (8, false) }) (v := ?va10u3) rfl (by kernel_rfl) (by kernel_rfl) (by kernel_rfl) (fun _ _ _ h => h) (Or.inl ⟨by rfl, ?ha10u3⟩) (by assumption) ?ra10u3
                    case ha10u3 => (intro w0 hSw; (try dsimp only at hSw); go_simp; try with_reducible rfl)
                    try simp only [Act.put, List.setIfInBounds_toArray, List.set_cons_zero, List.set_cons_succ]
                    refine wpAnyH_take (i := 11) (oi := { dst := some 136, op := Op.move (Operand.tmp 135), type := 4, pos := "law.go:100", after := #[{ on := 10, ground := Ground.data }, { on := 8, ground := Ground.chain }, { on := 8, ground := Ground.guard }], guard := some (8, false) }) (v := ?va11u3) rfl (by kernel_rfl) (by kernel_rfl) (by kernel_rfl) (fun _ _ _ h => h) (Or.inl ⟨by rfl, ?ha11u3⟩) (by assumption) ?ra11u3
                    case ha11u3 => (intro w0 hSw; (try dsimp only at hSw); go_simp; try with_reducible rfl)
                    try simp only [Act.put, List.setIfInBounds_toArray, List.set_cons_zero, List.set_cons_succ]
                    refine wpAnyH_take (i := 12) (oi := { dst := some 137, op := Op.move (Operand.tmp 13), type := 36, pos := "law.go:100", after := #[{ on := 11, ground := Ground.guard }], guard := some (11, true) }) (v := undef) rfl (by kernel_rfl) (by kernel_rfl) (by kernel_rfl) (fun _ _ _ h => h) (Or.inr ⟨by rfl, rfl⟩) (by assumption) ?_
                    try simp only [Act.put, List.setIfInBounds_toArray, List.set_cons_zero, List.set_cons_succ]
                    refine wpAnyH_take (i := 13) (oi := { dst := some 138, op := Op.move (Operand.tmp 14), type := 3, pos := "law.go:100", after := #[{ on := 11, ground := Ground.guard }], guard := some (11, true) }) (v := undef) rfl (by kernel_rfl) (by kernel_rfl) (by kernel_rfl) (fun _ _ _ h => h) (Or.inr ⟨by rfl, rfl⟩) (by assumption) ?_
                    try simp only [Act.put, List.setIfInBounds_toArray, List.set_cons_zero, List.set_cons_succ]
                    refine wpAnyH_take (i := 14) (oi := { dst := some 139, op := Op.binOp BinOp.sub 3 (Operand.tmp 138) (Operand.const (Value.int IntKind.i64 1)) 3, type := 3, pos := "law.go:100", after := #[{ on := 13, ground := Ground.data }, { on := 11, ground := Ground.guard }], guard := some (11, true) }) (v := undef) rfl (by kernel_rfl) (by kernel_rfl) (by kernel_rfl) (fun _ _ _ h => h) (Or.inr ⟨by rfl, rfl⟩) (by assumption) ?_
                    try simp only [Act.put, List.setIfInBounds_toArray, List.set_cons_zero, List.set_cons_succ]
                    refine wpAnyH_take (i := 15) (oi := { dst := some 140, op := Op.indexAddr 36 (Operand.tmp 137) (Operand.tmp 139), type := 0, pos := "law.go:100", after := #[{ on := 12, ground := Ground.data }, { on := 14, ground := Ground.data }, { on := 11, ground := Ground.guard }], guard := some (11, true) }) (v := undef) rfl (by kernel_rfl) (by kernel_rfl) (by kernel_rfl) (fun _ _ _ h => h) (Or.inr ⟨by rfl, rfl⟩) (by assumption) ?_
                    try simp only [Act.put, List.setIfInBounds_toArray, List.set_cons_zero, List.set_cons_succ]
                    refine wpAnyH_take (i := 16) (oi := { dst := some 141, op := Op.fieldAddr 45 (Operand.tmp 140) 0, type := 0, pos := "law.go:100", after := #[{ on := 15, ground := Ground.data }, { on := 11, ground := Ground.guard }], guard := some (11, true) }) (v := undef) rfl (by kernel_rfl) (by kernel_rfl) (by kernel_rfl) (fun _ _ _ h => h) (Or.inr ⟨by rfl, rfl⟩) (by assumption) ?_
                    try simp only [Act.put, List.setIfInBounds_toArray, List.set_cons_zero, List.set_cons_succ]
                    refine wpAnyH_take (i := 17) (oi := { dst := some 142, op := Op.load 3 (Operand.tmp 141), type := 3, pos := "law.go:100", after := #[{ on := 16, ground := Ground.data }, { on := 11, ground := Ground.guard }], guard := some (11, true) }) (v := undef) rfl (by kernel_rfl) (by kernel_rfl) (by kernel_rfl) (fun _ _ _ h => h) (Or.inr ⟨by rfl, rfl⟩) (by assumption) ?_
                    try simp only [Act.put, List.setIfInBounds_toArray, List.set_cons_zero, List.set_cons_succ]
                    refine wpAnyH_take (i := 18) (oi := { dst := some 143, op := Op.move (Operand.tmp 13), type := 36, pos := "law.go:100", after := #[{ on := 11, ground := Ground.guard }], guard := some (11, true) }) (v := undef) rfl (by kernel_rfl) (by kernel_rfl) (by kernel_rfl) (fun _ _ _ h => h) (Or.inr ⟨by rfl, rfl⟩) (by assumption) ?_
                    try simp only [Act.put, List.setIfInBounds_toArray, List.set_cons_zero, List.set_cons_succ]
                    refine wpAnyH_take (i := 19) (oi := { dst := some 144, op := Op.move (Operand.tmp 14), type := 3, pos := "law.go:100", after := #[{ on := 11, ground := Ground.guard }], guard := some (11, true) }) (v := undef) rfl (by kernel_rfl) (by kernel_rfl) (by kernel_rfl) (fun _ _ _ h => h) (Or.inr ⟨by rfl, rfl⟩) (by assumption) ?_
                    try simp only [Act.put, List.setIfInBounds_toArray, List.set_cons_zero, List.set_cons_succ]
                    refine wpAnyH_take (i := 20) (oi := { dst := some 145, op := Op.indexAddr 36 (Operand.tmp 143) (Operand.tmp 144), type := 0, pos := "law.go:100", after := #[{ on := 18, ground := Ground.data }, { on := 19, ground := Ground.data }, { on := 11, ground := Ground.guard }], guard := some (11, true) }) (v := undef) rfl (by kernel_rfl) (by kernel_rfl) (by kernel_rfl) (fun _ _ _ h => h) (Or.inr ⟨by rfl, rfl⟩) (by assumption) ?_
                    try simp only [Act.put, List.setIfInBounds_toArray, List.set_cons_zero, List.set_cons_succ]
                    refine wpAnyH_take (i := 21) (oi := { dst := some 146, op := Op.fieldAddr 45 (Operand.tmp 145) 0, type := 0, pos := "law.go:100", after := #[{ on := 20, ground := Ground.data }, { on := 11, ground := Ground.guard }], guard := some (11, true) }) (v := undef) rfl (by kernel_rfl) (by kernel_rfl) (by kernel_rfl) (fun _ _ _ h => h) (Or.inr ⟨by rfl, rfl⟩) (by assumption) ?_
                    try simp only [Act.put, List.setIfInBounds_toArray, List.set_cons_zero, List.set_cons_succ]
                    refine wpAnyH_take (i := 22) (oi := { dst := some 147, op := Op.load 3 (Operand.tmp 146), type := 3, pos := "law.go:100", after := #[{ on := 21, ground := Ground.data }, { on := 11, ground := Ground.guard }], guard := some (11, true) }) (v := undef) rfl (by kernel_rfl) (by kernel_rfl) (by kernel_rfl) (fun _ _ _ h => h) (Or.inr ⟨by rfl, rfl⟩) (by assumption) ?_
                    try simp only [Act.put, List.setIfInBounds_toArray, List.set_cons_zero, List.set_cons_succ]
                    refine wpAnyH_take (i := 23) (oi := { dst := some 148, op := Op.binOp BinOp.geq 3 (Operand.tmp 142) (Operand.tmp 147) 3, type := 4, pos := "law.go:100", after := #[{ on := 17, ground := Ground.data }, { on := 22, ground := Ground.data }, { on := 11, ground := Ground.guard }], guard := some (11, true) }) (v := undef) rfl (by kernel_rfl) (by kernel_rfl) (by kernel_rfl) (fun _ _ _ h => h) (Or.inr ⟨by rfl, rfl⟩) (by assumption) ?_
                    try simp only [Act.put, List.setIfInBounds_toArray, List.set_cons_zero, List.set_cons_succ]
                    refine wpAnyH_take (i := 24) (oi := { dst := some 149, op := Op.pick (Operand.tmp 136) (Operand.tmp 148) (Operand.const (Value.bool false)), type := 4, pos := "law.go:100", after := #[{ on := 11, ground := Ground.data }, { on := 23, ground := Ground.data }, { on := 8, ground := Ground.guard }], guard := some (8, false) }) (v := ?va24u3) rfl (by kernel_rfl) (by kernel_rfl) (by kernel_rfl) (fun _ _ _ h => h) (Or.inl ⟨by rfl, ?ha24u3⟩) (by assumption) ?ra24u3
                    case ha24u3 => (intro w0 hSw; (try dsimp only at hSw); go_simp; try with_reducible rfl)
                    try simp only [Act.put, List.setIfInBounds_toArray, List.set_cons_zero, List.set_cons_succ]
                    refine wpAnyH_take (i := 25) (oi := { dst := some 150, op := Op.pick (Operand.tmp 133) (Operand.const (Value.bool true)) (Operand.tmp 149), type := 4, pos := "law.go:100", after := #[{ on := 8, ground := Ground.data }, { on := 24, ground := Ground.data }], guard := none }) (v := ?va25u3) rfl (by kernel_rfl) (by kernel_rfl) (by kernel_rfl) (fun _ _ _ h => h) (Or.inl ⟨by rfl, ?ha25u3⟩) (by assumption) ?ra25u3
                    case ha25u3 => (intro w0 hSw; (try dsimp only at hSw); go_simp; try with_reducible rfl)
                    try simp only [Act.put, List.setIfInBounds_toArray, List.set_cons_zero, List.set_cons_succ]
                    refine wpAnyH_done (by kernel_rfl) ?_ _
                    refine NoPanic.normal ?_
                    have HNX : Hid (Kep2 w p m b b12 ar an (some ⟨gv, fv, none⟩) vts w15) := ⟨HA.out.below hs15.out, bt' HBZ.out hs15.out, HKZ.out.below hs15.out HKZ.out.lt, HHV.out.below hs15.out⟩
                    clear hs15
                    go_wp2
                    go_roundw
                    case rel => exact ⟨_, HJ.out, by go_num, HNX⟩
                    case measure => have := HJ.out; simp [intOf]; omega
                  · obtain ⟨i, hie⟩ : ∃ i, j = i + 1 := ⟨j - 1, by omega⟩
                    obtain ⟨hi, hzs⟩ := HRI.out i hie
                    obtain ⟨gv', fv', hgo', _, ev'⟩ := HHV.out.held.at hi
                    cases hgo'
                    have z0 := ev' 0 _ rfl
                    obtain ⟨zs, HZS⟩ : ∃ z, Hid ((vts[i]'hi).slot = z) := ⟨_, hid rfl⟩
                    have z1 : wr.cell? ⟨gv, fv + i * 8, none⟩ = some (.int .i64 zs) := by rw [← HZS.out]; exact z0
                    have hzy : ¬ ys ≤ zs := by rw [← HZS.out]; simp only at hzs; omega
                    have hji : (j : Int) - 1 = (i : Int) := by omega
                    have hii : (0 : Int) ≤ (i : Int) := by omega
                    have hi2 : (i : Int) < (VV : Int) := by omega
                    have hp1 : decide ((0 : Int) < (j : Int)) = true := decide_eq_true (by omega)
                    have hq1 : decide (0 < j) = true := decide_eq_true (by omega)
                    have hbi : -9223372036854775808 ≤ (i : Int) ∧ (i : Int) ≤ 9223372036854775807 := ⟨by omega, by omega⟩
                    have hwi : IntKind.i64.wrap (i : Int) = (i : Int) := by rw [IntKind.wrap_i64]; omega
                    have hwj : IntKind.i64.wrap ((j : Int) - 1) = (i : Int) := (congrArg IntKind.i64.wrap hji).trans hwi
                    clear hbi
                    clear hie
                    clear ev' z0 hzs hj0
                    have HSV : Hid (∀ V, ScL wr V → (ScL wr V ∧ V.cell? ⟨gv, fv + j * 8 + 1, none⟩ = some (.int .i64 yr) ∧ V.cell? ⟨gv, fv + j * 8 + 2, none⟩ = some (.int .i64 yn) ∧ V.cell? ⟨gv, fv + j * 8, none⟩ = some (.int .i64 ys) ∧ V.cell? ⟨b12, 0, none⟩ = some (.int .i64 ar) ∧ V.cell? ⟨b12, 1, none⟩ = some (.int .i64 an) ∧ V.cell? ⟨gv, fv + i * 8, none⟩ = some (.int .i64 zs))) := fun V hV => ⟨hV, (hV.out.cell (p := ⟨gv, _, none⟩) hgv).trans e1, (hV.out.cell (p := ⟨gv, _, none⟩) hgv).trans e2, (hV.out.cell (p := ⟨gv, _, none⟩) hgv).trans e0, (hV.out.cell (p := ⟨b12, _, none⟩) HKZ.out.lt).trans t0, (hV.out.cell (p := ⟨b12, _, none⟩) HKZ.out.lt).trans t1, (hV.out.cell (p := ⟨gv, _, none⟩) hgv).trans z1⟩
                    clear e0 e1 e2 t0 t1 z1
                    go_wp2
                    refine wp_region_noPanic ?_
                    refine wp_region_held_drew (S := (fun V => ScL wr V ∧ V.cell? ⟨gv, fv + j * 8 + 1, none⟩ = some (.int .i64 yr) ∧ V.cell? ⟨gv, fv + j * 8 + 2, none⟩ = some (.int .i64 yn) ∧ V.cell? ⟨gv, fv + j * 8, none⟩ = some (.int .i64 ys) ∧ V.cell? ⟨b12, 0, none⟩ = some (.int .i64 ar) ∧ V.cell? ⟨b12, 1, none⟩ = some (.int .i64 an) ∧ V.cell? ⟨gv, fv + i * 8, none⟩ = some (.int .i64 zs))) (by kernel_rfl) (HSV.out _ (ScL.start _).dr) (fun hHeld => ?_)
                    refine wpAnyH_take (i := 0) (oi := { dst := some 125, op := Op.move (Operand.tmp 13), type := 36, pos := "law.go:100", after := #[], guard := none }) (v := ?vb0u3) rfl (by kernel_rfl) (by kernel_rfl) (by kernel_rfl) (fun _ _ _ h => h) (Or.inl ⟨by rfl, ?hb0u3⟩) (by assumption) ?rb0u3
                    case hb0u3 => (intro w0 hSw; (try dsimp only at hSw); go_simp; try with_reducible rfl)
                    try simp only [Act.put, List.setIfInBounds_toArray, List.set_cons_zero, List.set_cons_succ]
                    refine wpAnyH_take (i := 1) (oi := { dst := some 126, op := Op.move (Operand.tmp 14), type := 3, pos := "law.go:100", after := #[], guard := none }) (v := ?vb1u3) rfl (by kernel_rfl) (by kernel_rfl) (by kernel_rfl) (fun _ _ _ h => h) (Or.inl ⟨by rfl, ?hb1u3⟩) (by assumption) ?rb1u3
                    case hb1u3 => (intro w0 hSw; (try dsimp only at hSw); go_simp; try with_reducible rfl)
                    try simp only [Act.put, List.setIfInBounds_toArray, List.set_cons_zero, List.set_cons_succ]
                    refine wpAnyH_take (i := 2) (oi := { dst := some 127, op := Op.indexAddr 36 (Operand.tmp 125) (Operand.tmp 126), type := 0, pos := "law.go:100", after := #[{ on := 0, ground := Ground.data }, { on := 1, ground := Ground.data }], guard := none }) (v := ?vb2u3) rfl (by kernel_rfl) (by kernel_rfl) (by kernel_rfl) (fun _ _ _ h => h) (Or.inl ⟨by rfl, ?hb2u3⟩) (by assumption) ?rb2u3
                    case hb2u3 => (intro w0 hSw; (try dsimp only at hSw); go_simp; try with_reducible rfl)
                    try simp only [Act.put, List.setIfInBounds_toArray, List.set_cons_zero, List.set_cons_succ]
                    refine wpAnyH_take (i := 3) (oi := { dst := some 128, op := Op.fieldAddr 45 (Operand.tmp 127) 1, type := 0, pos := "law.go:100", after := #[{ on := 2, ground := Ground.data }], guard := none }) (v := ?vb3u3) rfl (by kernel_rfl) (by kernel_rfl) (by kernel_rfl) (fun _ _ _ h => h) (Or.inl ⟨by rfl, ?hb3u3⟩) (by assumption) ?rb3u3
                    case hb3u3 => (intro w0 hSw; (try dsimp only at hSw); go_simp; try with_reducible rfl)
                    try simp only [Act.put, List.setIfInBounds_toArray, List.set_cons_zero, List.set_cons_succ]
                    refine wpAnyH_take (i := 4) (oi := { dst := some 129, op := Op.load 29 (Operand.tmp 128), type := 29, pos := "law.go:100", after := #[{ on := 3, ground := Ground.data }], guard := none }) (v := ?vb4u3) rfl (by kernel_rfl) (by kernel_rfl) (by kernel_rfl) (fun _ _ _ h => h) (Or.inl ⟨by rfl, ?hb4u3⟩) (by assumption) ?rb4u3
                    case hb4u3 => (intro w0 hSw; (try dsimp only at hSw); go_simp; try with_reducible rfl)
                    try simp only [Act.put, List.setIfInBounds_toArray, List.set_cons_zero, List.set_cons_succ]
                    refine wpAnyH_take (i := 5) (oi := { dst := some 130, op := Op.load 29 (Operand.tmp 12), type := 29, pos := "law.go:100", after := #[], guard := none }) (v := ?vb5u3) rfl (by kernel_rfl) (by kernel_rfl) (by kernel_rfl) (fun _ _ _ h => h) (Or.inl ⟨by rfl, ?hb5u3⟩) (by assumption) ?rb5u3
                    case hb5u3 => (intro w0 hSw; (try dsimp only at hSw); go_simp; try with_reducible rfl)
                    try simp only [Act.put, List.setIfInBounds_toArray, List.set_cons_zero, List.set_cons_succ]
                    refine wpAnyH_ready (rs := [6]) (by kernel_rfl) (by simp) ?_
                    refine AllReadyH.cons (o := { dst := some 131, op := Op.call { callee := Callee.value (Operand.func 9), args := #[Operand.tmp 129, Operand.tmp 130], argTypes := #[29, 29] }, type := 3, pos := "law.go:100", after := #[{ on := 4, ground := Ground.data }, { on := 5, ground := Ground.data }], guard := none }) rfl (fun K hK => ?_) AllReadyH.nil
                    go_simp
                    go_at_call 9; refine (HCY.out _ (by (repeat (first | assumption | exact ScL.start _ | apply ScL.dr)))).mono ?_; rintro e w15 ⟨rfl, hs15⟩
                    refine hK.out _ _ (HSV.out _ hs15) (fun hHeld => ?_)
                    clear hK K
                    try simp only [Act.put, List.setIfInBounds_toArray, List.set_cons_zero, List.set_cons_succ]
                    refine wpAnyH_take (i := 7) (oi := { dst := some 132, op := Op.binOp BinOp.gtr 3 (Operand.tmp 131) (Operand.const (Value.int IntKind.i64 0)) 3, type := 4, pos := "law.go:100", after := #[{ on := 6, ground := Ground.data }], guard := none }) (v := ?vb7u3) rfl (by kernel_rfl) (by kernel_rfl) (by kernel_rfl) (fun _ _ _ h => h) (Or.inl ⟨by rfl, ?hb7u3⟩) (by assumption) ?rb7u3
                    case hb7u3 => (intro w0 hSw; (try dsimp only at hSw); go_simp; try with_reducible rfl)
                    try simp only [Act.put, List.setIfInBounds_toArray, List.set_cons_zero, List.set_cons_succ]
                    refine wpAnyH_take (i := 8) (oi := { dst := some 133, op := Op.move (Operand.tmp 132), type := 4, pos := "law.go:100", after := #[{ on := 7, ground := Ground.data }, { on := 6, ground := Ground.chain }], guard := none }) (v := ?vb8u3) rfl (by kernel_rfl) (by kernel_rfl) (by kernel_rfl) (fun _ _ _ h => h) (Or.inl ⟨by rfl, ?hb8u3⟩) (by assumption) ?rb8u3
                    case hb8u3 => (intro w0 hSw; (try dsimp only at hSw); go_simp; try with_reducible rfl)
                    try simp only [Act.put, List.setIfInBounds_toArray, List.set_cons_zero, List.set_cons_succ]
                    refine wpAnyH_take (i := 9) (oi := { dst := some 134, op := Op.move (Operand.tmp 14), type := 3, pos := "law.go:100", after := #[{ on := 8, ground := Ground.guard }], guard := some (8, false) }) (v := ?vb9u3) rfl (by kernel_rfl) (by kernel_rfl) (by kernel_rfl) (fun _ _ _ h => h) (Or.inl ⟨by rfl, ?hb9u3⟩) (by assumption) ?rb9u3
                    case hb9u3 => (intro w0 hSw; (try dsimp only at hSw); go_simp; try with_reducible rfl)
                    try simp only [Act.put, List.setIfInBounds_toArray, List.set_cons_zero, List.set_cons_succ]
                    refine wpAnyH_take (i := 10) (oi := { dst := some 135, op := Op.binOp BinOp.gtr 3 (Operand.tmp 134) (Operand.const (Value.int IntKind.i64 0)) 3, type := 4, pos := "law.go:100", after := #[{ on := 9, ground := Ground.data }, { on := 8, ground := Ground.guard }], guard := some (8, false) }) (v := ?vb10u3) rfl (by kernel_rfl) (by kernel_rfl) (by kernel_rfl) (fun _ _ _ h => h) (Or.inl ⟨by rfl, ?hb10u3⟩) (by assumption) ?rb10u3
                    case hb10u3 => (intro w0 hSw; (try dsimp only at hSw); go_simp; try with_reducible rfl)
                    try simp only [Act.put, List.setIfInBounds_toArray, List.set_cons_zero, List.set_cons_succ]
                    refine wpAnyH_take (i := 11) (oi := { dst := some 136, op := Op.move (Operand.tmp 135), type := 4, pos := "law.go:100", after := #[{ on := 10, ground := Ground.data }, { on := 8, ground := Ground.chain }, { on := 8, ground := Ground.guard }], guard := some (8, false) }) (v := ?vb11u3) rfl (by kernel_rfl) (by kernel_rfl) (by kernel_rfl) (fun _ _ _ h => h) (Or.inl ⟨by rfl, ?hb11u3⟩) (by assumption) ?rb11u3
                    case hb11u3 => (intro w0 hSw; (try dsimp only at hSw); go_simp; try with_reducible rfl)
                    try simp only [Act.put, List.setIfInBounds_toArray, List.set_cons_zero, List.set_cons_succ]
                    refine wpAnyH_take (i := 12) (oi := { dst := some 137, op := Op.move (Operand.tmp 13), type := 36, pos := "law.go:100", after := #[{ on := 11, ground := Ground.guard }], guard := some (11, true) }) (v := ?vb12u3) rfl (by kernel_rfl) (by kernel_rfl) (by kernel_rfl) (fun _ _ _ h => h) (Or.inl ⟨by rfl, ?hb12u3⟩) (by assumption) ?rb12u3
                    case hb12u3 => (intro w0 hSw; (try dsimp only at hSw); go_simp; try with_reducible rfl)
                    try simp only [Act.put, List.setIfInBounds_toArray, List.set_cons_zero, List.set_cons_succ]
                    refine wpAnyH_take (i := 13) (oi := { dst := some 138, op := Op.move (Operand.tmp 14), type := 3, pos := "law.go:100", after := #[{ on := 11, ground := Ground.guard }], guard := some (11, true) }) (v := ?vb13u3) rfl (by kernel_rfl) (by kernel_rfl) (by kernel_rfl) (fun _ _ _ h => h) (Or.inl ⟨by rfl, ?hb13u3⟩) (by assumption) ?rb13u3
                    case hb13u3 => (intro w0 hSw; (try dsimp only at hSw); go_simp; try with_reducible rfl)
                    try simp only [Act.put, List.setIfInBounds_toArray, List.set_cons_zero, List.set_cons_succ]
                    refine wpAnyH_take (i := 14) (oi := { dst := some 139, op := Op.binOp BinOp.sub 3 (Operand.tmp 138) (Operand.const (Value.int IntKind.i64 1)) 3, type := 3, pos := "law.go:100", after := #[{ on := 13, ground := Ground.data }, { on := 11, ground := Ground.guard }], guard := some (11, true) }) (v := ?vb14u3) rfl (by kernel_rfl) (by kernel_rfl) (by kernel_rfl) (fun _ _ _ h => h) (Or.inl ⟨by rfl, ?hb14u3⟩) (by assumption) ?rb14u3
                    case hb14u3 => (intro w0 hSw; (try dsimp only at hSw); go_simp; try with_reducible rfl)
                    try simp only [Act.put, List.setIfInBounds_toArray, List.set_cons_zero, List.set_cons_succ]
                    refine wpAnyH_take (i := 15) (oi := { dst := some 140, op := Op.indexAddr 36 (Operand.tmp 137) (Operand.tmp 139), type := 0, pos := "law.go:100", after := #[{ on := 12, ground := Ground.data }, { on := 14, ground := Ground.data }, { on := 11, ground := Ground.guard }], guard := some (11, true) }) (v := ?vb15u3) rfl (by kernel_rfl) (by kernel_rfl) (by kernel_rfl) (fun _ _ _ h => h) (Or.inl ⟨by rfl, ?hb15u3⟩) (by assumption) ?rb15u3
                    case hb15u3 => (intro w0 hSw; (try dsimp only at hSw); go_simp; try with_reducible rfl)
                    try simp only [Act.put, List.setIfInBounds_toArray, List.set_cons_zero, List.set_cons_succ]
                    refine wpAnyH_take (i := 16) (oi := { dst := some 141, op := Op.fieldAddr 45 (Operand.tmp 140) 0, type := 0, pos := "law.go:100", after := #[{ on := 15, ground := Ground.data }, { on := 11, ground := Ground.guard }], guard := some (11, true) }) (v := ?vb16u3) rfl (by kernel_rfl) (by kernel_rfl) (by kernel_rfl) (fun _ _ _ h => h) (Or.inl ⟨by rfl, ?hb16u3⟩) (by assumption) ?rb16u3
                    case hb16u3 => (intro w0 hSw; (try dsimp only at hSw); go_simp; try with_reducible rfl)
                    try simp only [Act.put, List.setIfInBounds_toArray, List.set_cons_zero, List.set_cons_succ]
                    refine wpAnyH_take (i := 17) (oi := { dst := some 142, op := Op.load 3 (Operand.tmp 141), type := 3, pos := "law.go:100", after := #[{ on := 16, ground := Ground.data }, { on := 11, ground := Ground.guard }], guard := some (11, true) }) (v := ?vb17u3) rfl (by kernel_rfl) (by kernel_rfl) (by kernel_rfl) (fun _ _ _ h => h) (Or.inl ⟨by rfl, ?hb17u3⟩) (by assumption) ?rb17u3
                    case hb17u3 => (intro w0 hSw; (try dsimp only at hSw); go_simp; try with_reducible rfl)
                    try simp only [Act.put, List.setIfInBounds_toArray, List.set_cons_zero, List.set_cons_succ]
                    refine wpAnyH_take (i := 18) (oi := { dst := some 143, op := Op.move (Operand.tmp 13), type := 36, pos := "law.go:100", after := #[{ on := 11, ground := Ground.guard }], guard := some (11, true) }) (v := ?vb18u3) rfl (by kernel_rfl) (by kernel_rfl) (by kernel_rfl) (fun _ _ _ h => h) (Or.inl ⟨by rfl, ?hb18u3⟩) (by assumption) ?rb18u3
                    case hb18u3 => (intro w0 hSw; (try dsimp only at hSw); go_simp; try with_reducible rfl)
                    try simp only [Act.put, List.setIfInBounds_toArray, List.set_cons_zero, List.set_cons_succ]
                    refine wpAnyH_take (i := 19) (oi := { dst := some 144, op := Op.move (Operand.tmp 14), type := 3, pos := "law.go:100", after := #[{ on := 11, ground := Ground.guard }], guard := some (11, true) }) (v := ?vb19u3) rfl (by kernel_rfl) (by kernel_rfl) (by kernel_rfl) (fun _ _ _ h => h) (Or.inl ⟨by rfl, ?hb19u3⟩) (by assumption) ?rb19u3
                    case hb19u3 => (intro w0 hSw; (try dsimp only at hSw); go_simp; try with_reducible rfl)
                    try simp only [Act.put, List.setIfInBounds_toArray, List.set_cons_zero, List.set_cons_succ]
                    refine wpAnyH_take (i := 20) (oi := { dst := some 145, op := Op.indexAddr 36 (Operand.tmp 143) (Operand.tmp 144), type := 0, pos := "law.go:100", after := #[{ on := 18, ground := Ground.data }, { on := 19, ground := Ground.data }, { on := 11, ground := Ground.guard }], guard := some (11, true) }) (v := ?vb20u3) rfl (by kernel_rfl) (by kernel_rfl) (by kernel_rfl) (fun _ _ _ h => h) (Or.inl ⟨by rfl, ?hb20u3⟩) (by assumption) ?rb20u3
                    case hb20u3 => (intro w0 hSw; (try dsimp only at hSw); go_simp; try with_reducible rfl)
                    try simp only [Act.put, List.setIfInBounds_toArray, List.set_cons_zero, List.set_cons_succ]
                    refine wpAnyH_take (i := 21) (oi := { dst := some 146, op := Op.fieldAddr 45 (Operand.tmp 145) 0, type := 0, pos := "law.go:100", after := #[{ on := 20, ground := Ground.data }, { on := 11, ground := Ground.guard }], guard := some (11, true) }) (v := ?vb21u3) rfl (by kernel_rfl) (by kernel_rfl) (by kernel_rfl) (fun _ _ _ h => h) (Or.inl ⟨by rfl, ?hb21u3⟩) (by assumption) ?rb21u3
                    case hb21u3 => (intro w0 hSw; (try dsimp only at hSw); go_simp; try with_reducible rfl)
                    try simp only [Act.put, List.setIfInBounds_toArray, List.set_cons_zero, List.set_cons_succ]
                    refine wpAnyH_take (i := 22) (oi := { dst := some 147, op := Op.load 3 (Operand.tmp 146), type := 3, pos := "law.go:100", after := #[{ on := 21, ground := Ground.data }, { on := 11, ground := Ground.guard }], guard := some (11, true) }) (v := ?vb22u3) rfl (by kernel_rfl) (by kernel_rfl) (by kernel_rfl) (fun _ _ _ h => h) (Or.inl ⟨by rfl, ?hb22u3⟩) (by assumption) ?rb22u3
                    case hb22u3 => (intro w0 hSw; (try dsimp only at hSw); go_simp; try with_reducible rfl)
                    try simp only [Act.put, List.setIfInBounds_toArray, List.set_cons_zero, List.set_cons_succ]
                    refine wpAnyH_take (i := 23) (oi := { dst := some 148, op := Op.binOp BinOp.geq 3 (Operand.tmp 142) (Operand.tmp 147) 3, type := 4, pos := "law.go:100", after := #[{ on := 17, ground := Ground.data }, { on := 22, ground := Ground.data }, { on := 11, ground := Ground.guard }], guard := some (11, true) }) (v := ?vb23u3) rfl (by kernel_rfl) (by kernel_rfl) (by kernel_rfl) (fun _ _ _ h => h) (Or.inl ⟨by rfl, ?hb23u3⟩) (by assumption) ?rb23u3
                    case hb23u3 => (intro w0 hSw; (try dsimp only at hSw); go_simp; try with_reducible rfl)
                    try simp only [Act.put, List.setIfInBounds_toArray, List.set_cons_zero, List.set_cons_succ]
                    refine wpAnyH_take (i := 24) (oi := { dst := some 149, op := Op.pick (Operand.tmp 136) (Operand.tmp 148) (Operand.const (Value.bool false)), type := 4, pos := "law.go:100", after := #[{ on := 11, ground := Ground.data }, { on := 23, ground := Ground.data }, { on := 8, ground := Ground.guard }], guard := some (8, false) }) (v := ?vb24u3) rfl (by kernel_rfl) (by kernel_rfl) (by kernel_rfl) (fun _ _ _ h => h) (Or.inl ⟨by rfl, ?hb24u3⟩) (by assumption) ?rb24u3
                    case hb24u3 => (intro w0 hSw; (try dsimp only at hSw); go_simp; try with_reducible rfl)
                    try simp only [Act.put, List.setIfInBounds_toArray, List.set_cons_zero, List.set_cons_succ]
                    refine wpAnyH_take (i := 25) (oi := { dst := some 150, op := Op.pick (Operand.tmp 133) (Operand.const (Value.bool true)) (Operand.tmp 149), type := 4, pos := "law.go:100", after := #[{ on := 8, ground := Ground.data }, { on := 24, ground := Ground.data }], guard := none }) (v := ?vb25u3) rfl (by kernel_rfl) (by kernel_rfl) (by kernel_rfl) (fun _ _ _ h => h) (Or.inl ⟨by rfl, ?hb25u3⟩) (by assumption) ?rb25u3
                    case hb25u3 => (intro w0 hSw; (try dsimp only at hSw); go_simp; try with_reducible rfl)
                    try simp only [Act.put, List.setIfInBounds_toArray, List.set_cons_zero, List.set_cons_succ]
                    refine wpAnyH_done (by kernel_rfl) ?_ _
                    refine NoPanic.normal ?_
                    have HNX : Hid (Kep2 w p m b b12 ar an (some ⟨gv, fv, none⟩) vts w15) := ⟨HA.out.below hs15.out, bt' HBZ.out hs15.out, HKZ.out.below hs15.out HKZ.out.lt, HHV.out.below hs15.out⟩
                    clear hs15 hwi hwj hji hii hi2 hp1 hq1
                    go_wp2
                    go_roundw
                    case rel => exact ⟨_, HJ.out, by go_num, HNX⟩
                    case measure => have := HJ.out; simp [intOf]; omega
                · have hlt2 : ¬ (j : Int) < (VV : Int) := by omega
                  have HNX : Hid (Kep1 w p m wr) := ⟨b, HA.out, HBZ.out⟩
                  clear hlt hj
                  go_wp2
                  go_roundw
                  case rel => exact ⟨k + 1, HLT.out, by go_num, HNX⟩
                  case measure => have := HLT.out; simp [intOf]; omega
          · have HSA : Hid (∀ V, ScL w10 V → (ScL w10 V ∧ V.cell? ⟨bb, off + k * 15 + 3, none⟩ = some (.int .i64 ar) ∧ V.cell? ⟨bb, off + k * 15 + 4, none⟩ = some (.int .i64 an) ∧ V.cell? ⟨b8, 0, none⟩ = some (.int .i64 pr) ∧ V.cell? ⟨b8, 1, none⟩ = some (.int .i64 pn) ∧ V.cell? ⟨b12, 0, none⟩ = some (.int .i64 ar) ∧ V.cell? ⟨b12, 1, none⟩ = some (.int .i64 an) ∧ V.cell? ⟨b9, 0, none⟩ = some (.int .i64 4))) := fun V hV => by
              obtain ⟨_, _, _, e3, e4, _⟩ := HMS.out V (bt' HB10.out hV.out)
              exact ⟨hV, e3, e4, (hV.out.cell (p := ⟨b8, _, none⟩) HK8A.out.lt).trans s0, (hV.out.cell (p := ⟨b8, _, none⟩) HK8A.out.lt).trans s1, (hV.out.cell (p := ⟨b12, _, none⟩) HK12A.out.lt).trans t0, (hV.out.cell (p := ⟨b12, _, none⟩) HK12A.out.lt).trans t1, (hV.out.cell (p := ⟨b9, _, none⟩) HK9A.out.lt).trans u0⟩
            go_wp2
            go_region_held3 (fun V => ScL w10 V ∧ V.cell? ⟨bb, off + k * 15 + 3, none⟩ = some (.int .i64 ar) ∧ V.cell? ⟨bb, off + k * 15 + 4, none⟩ = some (.int .i64 an) ∧ V.cell? ⟨b8, 0, none⟩ = some (.int .i64 pr) ∧ V.cell? ⟨b8, 1, none⟩ = some (.int .i64 pn) ∧ V.cell? ⟨b12, 0, none⟩ = some (.int .i64 ar) ∧ V.cell? ⟨b12, 1, none⟩ = some (.int .i64 an) ∧ V.cell? ⟨b9, 0, none⟩ = some (.int .i64 4))
              (first | (refine HSA.out _ ?_; (repeat (first | with_reducible assumption | with_reducible exact ScL.start _ | with_reducible apply ScL.dr)); done))
              ((go_at_call 9; with_reducible refine (HCQ.out _ (by (repeat (first | assumption | exact ScL.start _ | apply ScL.dr)))).mono ?_; rintro e w11 ⟨rfl, hs11⟩))
            all_goals
              have HL11 := hid (HL10.out.below hs11.out)
              have HB11 := hid (bt' HB10.out hs11.out)
              have HK12B := hid (HK12A.out.below hs11.out HK12A.out.lt)
              have HK8B := hid (HK8A.out.below hs11.out HK8A.out.lt)
              have HK9B := hid (HK9A.out.below hs11.out HK9A.out.lt)
              clear s0 s1 t0 t1 u0 u3 u4
              have s0 := HK8B.out.cell (i := 0) rfl
              have s1 := HK8B.out.cell (i := 1) rfl
              have t0 := HK12B.out.cell (i := 0) rfl
              have t1 := HK12B.out.cell (i := 1) rfl
              have u0 := HK9B.out.cell (i := 0) rfl
              have u3 := HK9B.out.cell (i := 3) rfl
              have u4 := HK9B.out.cell (i := 4) rfl
              have HVO := hid HL11.out.at'.votes
              clear hs11
              go_wp2_with fail
              refine HVO.out.mono ?_
              rintro e w12 ⟨vot, vct, vts, rfl, hmap, hheld, hlen, _, hb12⟩
              obtain ⟨VV, HVV⟩ : ∃ q, Hid (vts.length = q) := ⟨_, hid rfl⟩
              rw [HVV.out]
              have hVL : VV ≤ 4096 := by rw [← HVV.out]; exact hlen
              have HMAP := hid hmap
              have HKP : Hid (Kep2 w p m b b12 ar an vot vts w12) := ⟨HL11.out.below hb12, bt' HB11.out hb12, HK12B.out.below hb12 HK12B.out.lt, hheld⟩
              clear hmap hheld hlen hb12 HVO s0 s1 t0 t1 u0 u3 u4
              go_wp2
              go_loopw [14] (fun x wr => ∃ j : Nat, j ≤ VV ∧ x = .int .i64 j ∧ Hid (Kep2 w p m b b12 ar an vot vts wr)) (fun x _ => VV - (intOf x).toNat)
              case atStart => exact ⟨0, Nat.zero_le _, rfl, HKP⟩
              case round =>
                obtain ⟨j, hj, rfl, HR⟩ := hrel
                have HA := hid HR.out.1
                have HBZ := hid HR.out.2.1
                have HKZ := hid HR.out.2.2.1
                have HHV := hid HR.out.2.2.2
                clear HR
                by_cases hlt : j < VV
                · have hlt2 : (j : Int) < (VV : Int) := by omega
                  have HJ := hid hlt
                  have hjx : Hid (j < vts.length) := (HVV.out ▸ hlt : j < vts.length)
                  have HYC : Hid (cmpB (vts[j]'hjx.out).bal (ar, an) ≤ 0) := by
                    obtain ⟨_, _, h3⟩ := votes_at HA.out.at'.ok HMAP.out hjx.out
                    rw [HAR.out] at h3
                    exact h3
                  have HRI : Hid (∀ i, (e : j = i + 1) → ∃ hi : i < vts.length, (vts[i]'hi).slot < (vts[j]'hjx.out).slot) := fun i e => by
                    subst e
                    exact ⟨Nat.lt_of_succ_lt hjx.out, votes_rise HA.out.at'.ok HMAP.out hjx.out⟩
                  obtain ⟨gv, fv, hgo, hgv, ev⟩ := HHV.out.held.at hjx.out
                  subst hgo
                  obtain ⟨Y, hY⟩ : ∃ Y, Y = vts[j]'hjx.out := ⟨_, rfl⟩
                  rw [← hY] at ev HYC HRI
                  clear hY
                  obtain ⟨ys, ⟨yr, yn⟩, ye⟩ := Y
                  have e0 := ev 0 _ rfl
                  have e1 := ev 1 _ rfl
                  have e2 := ev 2 _ rfl
                  have t0 := HKZ.out.cell (i := 0) rfl
                  have t1 := HKZ.out.cell (i := 1) rfl
                  obtain ⟨cy, HCYe⟩ : ∃ c, Hid (cmpB (yr, yn) (ar, an) = c) := ⟨_, hid rfl⟩
                  have hcy : decide ((0 : Int) < cy) = false := decide_eq_false (by rw [← HCYe.out]; have := HYC.out; simp only at this; omega)
                  have HCY : Hid (∀ V, ScL wr V → Calls Try.prog 9 #[.agg #[.int .i64 yr, .int .i64 yn], .agg #[.int .i64 ar, .int .i64 an]] V fun e w' => e = .returned (.int .i64 cy) ∧ ScL wr w') := fun V hV => by
                    have h1 := compareB V (yr, yn) (ar, an)
                    rw [HCYe.out] at h1
                    exact h1.mono fun e w' ⟨h2, h3⟩ => ⟨h2, hV.go h3⟩
                  clear ev hlt hj
                  by_cases hj0 : j = 0
                  · subst hj0
                    rw [Nat.zero_mul, Nat.add_zero] at e0 e1 e2
                    have HSV : Hid (∀ V, ScL wr V → (ScL wr V ∧ V.cell? ⟨gv, fv + 1, none⟩ = some (.int .i64 yr) ∧ V.cell? ⟨gv, fv + 2, none⟩ = some (.int .i64 yn) ∧ V.cell? ⟨gv, fv, none⟩ = some (.int .i64 ys) ∧ V.cell? ⟨b12, 0, none⟩ = some (.int .i64 ar) ∧ V.cell? ⟨b12, 1, none⟩ = some (.int .i64 an))) := fun V hV => ⟨hV, (hV.out.cell (p := ⟨gv, _, none⟩) hgv).trans e1, (hV.out.cell (p := ⟨gv, _, none⟩) hgv).trans e2, (hV.out.cell (p := ⟨gv, _, none⟩) hgv).trans e0, (hV.out.cell (p := ⟨b12, _, none⟩) HKZ.out.lt).trans t0, (hV.out.cell (p := ⟨b12, _, none⟩) HKZ.out.lt).trans t1⟩
                    clear e0 e1 e2 t0 t1
                    go_wp2
                    refine wp_region_noPanic ?_
                    refine wp_region_held_drew (S := (fun V => ScL wr V ∧ V.cell? ⟨gv, fv + 1, none⟩ = some (.int .i64 yr) ∧ V.cell? ⟨gv, fv + 2, none⟩ = some (.int .i64 yn) ∧ V.cell? ⟨gv, fv, none⟩ = some (.int .i64 ys) ∧ V.cell? ⟨b12, 0, none⟩ = some (.int .i64 ar) ∧ V.cell? ⟨b12, 1, none⟩ = some (.int .i64 an))) (by kernel_rfl) (HSV.out _ (ScL.start _).dr) (fun hHeld => ?_)
                    refine wpAnyH_take (i := 0) (oi := { dst := some 125, op := Op.move (Operand.tmp 13), type := 36, pos := "law.go:100", after := #[], guard := none }) (v := ?va0u4) rfl (by kernel_rfl) (by kernel_rfl) (by kernel_rfl) (fun _ _ _ h => h) (Or.inl ⟨by rfl, ?ha0u4⟩) (by assumption) ?ra0u4
                    case ha0u4 => (intro w0 hSw; (try dsimp only at hSw); go_simp; try with_reducible rfl)
                    try simp only [Act.put, List.setIfInBounds_toArray, List.set_cons_zero, List.set_cons_succ]
                    refine wpAnyH_take (i := 1) (oi := { dst := some 126, op := Op.move (Operand.tmp 14), type := 3, pos := "law.go:100", after := #[], guard := none }) (v := ?va1u4) rfl (by kernel_rfl) (by kernel_rfl) (by kernel_rfl) (fun _ _ _ h => h) (Or.inl ⟨by rfl, ?ha1u4⟩) (by assumption) ?ra1u4
                    case ha1u4 => (intro w0 hSw; (try dsimp only at hSw); go_simp; try with_reducible rfl)
                    try simp only [Act.put, List.setIfInBounds_toArray, List.set_cons_zero, List.set_cons_succ]
                    refine wpAnyH_take (i := 2) (oi := { dst := some 127, op := Op.indexAddr 36 (Operand.tmp 125) (Operand.tmp 126), type := 0, pos := "law.go:100", after := #[{ on := 0, ground := Ground.data }, { on := 1, ground := Ground.data }], guard := none }) (v := ?va2u4) rfl (by kernel_rfl) (by kernel_rfl) (by kernel_rfl) (fun _ _ _ h => h) (Or.inl ⟨by rfl, ?ha2u4⟩) (by assumption) ?ra2u4
                    case ha2u4 => (intro w0 hSw; (try dsimp only at hSw); go_simp; try with_reducible rfl)
                    try simp only [Act.put, List.setIfInBounds_toArray, List.set_cons_zero, List.set_cons_succ]
                    refine wpAnyH_take (i := 3) (oi := { dst := some 128, op := Op.fieldAddr 45 (Operand.tmp 127) 1, type := 0, pos := "law.go:100", after := #[{ on := 2, ground := Ground.data }], guard := none }) (v := ?va3u4) rfl (by kernel_rfl) (by kernel_rfl) (by kernel_rfl) (fun _ _ _ h => h) (Or.inl ⟨by rfl, ?ha3u4⟩) (by assumption) ?ra3u4
                    case ha3u4 => (intro w0 hSw; (try dsimp only at hSw); go_simp; try with_reducible rfl)
                    try simp only [Act.put, List.setIfInBounds_toArray, List.set_cons_zero, List.set_cons_succ]
                    refine wpAnyH_take (i := 4) (oi := { dst := some 129, op := Op.load 29 (Operand.tmp 128), type := 29, pos := "law.go:100", after := #[{ on := 3, ground := Ground.data }], guard := none }) (v := ?va4u4) rfl (by kernel_rfl) (by kernel_rfl) (by kernel_rfl) (fun _ _ _ h => h) (Or.inl ⟨by rfl, ?ha4u4⟩) (by assumption) ?ra4u4
                    case ha4u4 => (intro w0 hSw; (try dsimp only at hSw); go_simp; try with_reducible rfl)
                    try simp only [Act.put, List.setIfInBounds_toArray, List.set_cons_zero, List.set_cons_succ]
                    refine wpAnyH_take (i := 5) (oi := { dst := some 130, op := Op.load 29 (Operand.tmp 12), type := 29, pos := "law.go:100", after := #[], guard := none }) (v := ?va5u4) rfl (by kernel_rfl) (by kernel_rfl) (by kernel_rfl) (fun _ _ _ h => h) (Or.inl ⟨by rfl, ?ha5u4⟩) (by assumption) ?ra5u4
                    case ha5u4 => (intro w0 hSw; (try dsimp only at hSw); go_simp; try with_reducible rfl)
                    try simp only [Act.put, List.setIfInBounds_toArray, List.set_cons_zero, List.set_cons_succ]
                    refine wpAnyH_ready (rs := [6]) (by kernel_rfl) (by simp) ?_
                    refine AllReadyH.cons (o := { dst := some 131, op := Op.call { callee := Callee.value (Operand.func 9), args := #[Operand.tmp 129, Operand.tmp 130], argTypes := #[29, 29] }, type := 3, pos := "law.go:100", after := #[{ on := 4, ground := Ground.data }, { on := 5, ground := Ground.data }], guard := none }) rfl (fun K hK => ?_) AllReadyH.nil
                    go_simp
                    go_at_call 9; refine (HCY.out _ (by (repeat (first | assumption | exact ScL.start _ | apply ScL.dr)))).mono ?_; rintro e w15 ⟨rfl, hs15⟩
                    refine hK.out _ _ (HSV.out _ hs15) (fun hHeld => ?_)
                    clear hK K
                    try simp only [Act.put, List.setIfInBounds_toArray, List.set_cons_zero, List.set_cons_succ]
                    refine wpAnyH_take (i := 7) (oi := { dst := some 132, op := Op.binOp BinOp.gtr 3 (Operand.tmp 131) (Operand.const (Value.int IntKind.i64 0)) 3, type := 4, pos := "law.go:100", after := #[{ on := 6, ground := Ground.data }], guard := none }) (v := ?va7u4) rfl (by kernel_rfl) (by kernel_rfl) (by kernel_rfl) (fun _ _ _ h => h) (Or.inl ⟨by rfl, ?ha7u4⟩) (by assumption) ?ra7u4
                    case ha7u4 => (intro w0 hSw; (try dsimp only at hSw); go_simp; try with_reducible rfl)
                    try simp only [Act.put, List.setIfInBounds_toArray, List.set_cons_zero, List.set_cons_succ]
                    refine wpAnyH_take (i := 8) (oi := { dst := some 133, op := Op.move (Operand.tmp 132), type := 4, pos := "law.go:100", after := #[{ on := 7, ground := Ground.data }, { on := 6, ground := Ground.chain }], guard := none }) (v := ?va8u4) rfl (by kernel_rfl) (by kernel_rfl) (by kernel_rfl) (fun _ _ _ h => h) (Or.inl ⟨by rfl, ?ha8u4⟩) (by assumption) ?ra8u4
                    case ha8u4 => (intro w0 hSw; (try dsimp only at hSw); go_simp; try with_reducible rfl)
                    try simp only [Act.put, List.setIfInBounds_toArray, List.set_cons_zero, List.set_cons_succ]
                    refine wpAnyH_take (i := 9) (oi := { dst := some 134, op := Op.move (Operand.tmp 14), type := 3, pos := "law.go:100", after := #[{ on := 8, ground := Ground.guard }], guard := some (8, false) }) (v := ?va9u4) rfl (by kernel_rfl) (by kernel_rfl) (by kernel_rfl) (fun _ _ _ h => h) (Or.inl ⟨by rfl, ?ha9u4⟩) (by assumption) ?ra9u4
                    case ha9u4 => (intro w0 hSw; (try dsimp only at hSw); go_simp; try with_reducible rfl)
                    try simp only [Act.put, List.setIfInBounds_toArray, List.set_cons_zero, List.set_cons_succ]
                    refine wpAnyH_take (i := 10) (oi := { dst := some 135, op := Op.binOp BinOp.gtr 3 (Operand.tmp 134) (Operand.const (Value.int IntKind.i64 0)) 3, type := 4, pos := "law.go:100", after := #[{ on := 9, ground := Ground.data }, { on := 8, ground := Ground.guard }], guard := some (8, false) }) (v := ?va10u4) rfl (by kernel_rfl) (by kernel_rfl) (by kernel_rfl) (fun _ _ _ h => h) (Or.inl ⟨by rfl, ?ha10u4⟩) (by assumption) ?ra10u4
                    case ha10u4 => (intro w0 hSw; (try dsimp only at hSw); go_simp; try with_reducible rfl)
                    try simp only [Act.put, List.setIfInBounds_toArray, List.set_cons_zero, List.set_cons_succ]
                    refine wpAnyH_take (i := 11) (oi := { dst := some 136, op := Op.move (Operand.tmp 135), type := 4, pos := "law.go:100", after := #[{ on := 10, ground := Ground.data }, { on := 8, ground := Ground.chain }, { on := 8, ground := Ground.guard }], guard := some (8, false) }) (v := ?va11u4) rfl (by kernel_rfl) (by kernel_rfl) (by kernel_rfl) (fun _ _ _ h => h) (Or.inl ⟨by rfl, ?ha11u4⟩) (by assumption) ?ra11u4
                    case ha11u4 => (intro w0 hSw; (try dsimp only at hSw); go_simp; try with_reducible rfl)
                    try simp only [Act.put, List.setIfInBounds_toArray, List.set_cons_zero, List.set_cons_succ]
                    refine wpAnyH_take (i := 12) (oi := { dst := some 137, op := Op.move (Operand.tmp 13), type := 36, pos := "law.go:100", after := #[{ on := 11, ground := Ground.guard }], guard := some (11, true) }) (v := undef) rfl (by kernel_rfl) (by kernel_rfl) (by kernel_rfl) (fun _ _ _ h => h) (Or.inr ⟨by rfl, rfl⟩) (by assumption) ?_
                    try simp only [Act.put, List.setIfInBounds_toArray, List.set_cons_zero, List.set_cons_succ]
                    refine wpAnyH_take (i := 13) (oi := { dst := some 138, op := Op.move (Operand.tmp 14), type := 3, pos := "law.go:100", after := #[{ on := 11, ground := Ground.guard }], guard := some (11, true) }) (v := undef) rfl (by kernel_rfl) (by kernel_rfl) (by kernel_rfl) (fun _ _ _ h => h) (Or.inr ⟨by rfl, rfl⟩) (by assumption) ?_
                    try simp only [Act.put, List.setIfInBounds_toArray, List.set_cons_zero, List.set_cons_succ]
                    refine wpAnyH_take (i := 14) (oi := { dst := some 139, op := Op.binOp BinOp.sub 3 (Operand.tmp 138) (Operand.const (Value.int IntKind.i64 1)) 3, type := 3, pos := "law.go:100", after := #[{ on := 13, ground := Ground.data }, { on := 11, ground := Ground.guard }], guard := some (11, true) }) (v := undef) rfl (by kernel_rfl) (by kernel_rfl) (by kernel_rfl) (fun _ _ _ h => h) (Or.inr ⟨by rfl, rfl⟩) (by assumption) ?_
                    try simp only [Act.put, List.setIfInBounds_toArray, List.set_cons_zero, List.set_cons_succ]
                    refine wpAnyH_take (i := 15) (oi := { dst := some 140, op := Op.indexAddr 36 (Operand.tmp 137) (Operand.tmp 139), type := 0, pos := "law.go:100", after := #[{ on := 12, ground := Ground.data }, { on := 14, ground := Ground.data }, { on := 11, ground := Ground.guard }], guard := some (11, true) }) (v := undef) rfl (by kernel_rfl) (by kernel_rfl) (by kernel_rfl) (fun _ _ _ h => h) (Or.inr ⟨by rfl, rfl⟩) (by assumption) ?_
                    try simp only [Act.put, List.setIfInBounds_toArray, List.set_cons_zero, List.set_cons_succ]
                    refine wpAnyH_take (i := 16) (oi := { dst := some 141, op := Op.fieldAddr 45 (Operand.tmp 140) 0, type := 0, pos := "law.go:100", after := #[{ on := 15, ground := Ground.data }, { on := 11, ground := Ground.guard }], guard := some (11, true) }) (v := undef) rfl (by kernel_rfl) (by kernel_rfl) (by kernel_rfl) (fun _ _ _ h => h) (Or.inr ⟨by rfl, rfl⟩) (by assumption) ?_
                    try simp only [Act.put, List.setIfInBounds_toArray, List.set_cons_zero, List.set_cons_succ]
                    refine wpAnyH_take (i := 17) (oi := { dst := some 142, op := Op.load 3 (Operand.tmp 141), type := 3, pos := "law.go:100", after := #[{ on := 16, ground := Ground.data }, { on := 11, ground := Ground.guard }], guard := some (11, true) }) (v := undef) rfl (by kernel_rfl) (by kernel_rfl) (by kernel_rfl) (fun _ _ _ h => h) (Or.inr ⟨by rfl, rfl⟩) (by assumption) ?_
                    try simp only [Act.put, List.setIfInBounds_toArray, List.set_cons_zero, List.set_cons_succ]
                    refine wpAnyH_take (i := 18) (oi := { dst := some 143, op := Op.move (Operand.tmp 13), type := 36, pos := "law.go:100", after := #[{ on := 11, ground := Ground.guard }], guard := some (11, true) }) (v := undef) rfl (by kernel_rfl) (by kernel_rfl) (by kernel_rfl) (fun _ _ _ h => h) (Or.inr ⟨by rfl, rfl⟩) (by assumption) ?_
                    try simp only [Act.put, List.setIfInBounds_toArray, List.set_cons_zero, List.set_cons_succ]
                    refine wpAnyH_take (i := 19) (oi := { dst := some 144, op := Op.move (Operand.tmp 14), type := 3, pos := "law.go:100", after := #[{ on := 11, ground := Ground.guard }], guard := some (11, true) }) (v := undef) rfl (by kernel_rfl) (by kernel_rfl) (by kernel_rfl) (fun _ _ _ h => h) (Or.inr ⟨by rfl, rfl⟩) (by assumption) ?_
                    try simp only [Act.put, List.setIfInBounds_toArray, List.set_cons_zero, List.set_cons_succ]
                    refine wpAnyH_take (i := 20) (oi := { dst := some 145, op := Op.indexAddr 36 (Operand.tmp 143) (Operand.tmp 144), type := 0, pos := "law.go:100", after := #[{ on := 18, ground := Ground.data }, { on := 19, ground := Ground.data }, { on := 11, ground := Ground.guard }], guard := some (11, true) }) (v := undef) rfl (by kernel_rfl) (by kernel_rfl) (by kernel_rfl) (fun _ _ _ h => h) (Or.inr ⟨by rfl, rfl⟩) (by assumption) ?_
                    try simp only [Act.put, List.setIfInBounds_toArray, List.set_cons_zero, List.set_cons_succ]
                    refine wpAnyH_take (i := 21) (oi := { dst := some 146, op := Op.fieldAddr 45 (Operand.tmp 145) 0, type := 0, pos := "law.go:100", after := #[{ on := 20, ground := Ground.data }, { on := 11, ground := Ground.guard }], guard := some (11, true) }) (v := undef) rfl (by kernel_rfl) (by kernel_rfl) (by kernel_rfl) (fun _ _ _ h => h) (Or.inr ⟨by rfl, rfl⟩) (by assumption) ?_
                    try simp only [Act.put, List.setIfInBounds_toArray, List.set_cons_zero, List.set_cons_succ]
                    refine wpAnyH_take (i := 22) (oi := { dst := some 147, op := Op.load 3 (Operand.tmp 146), type := 3, pos := "law.go:100", after := #[{ on := 21, ground := Ground.data }, { on := 11, ground := Ground.guard }], guard := some (11, true) }) (v := undef) rfl (by kernel_rfl) (by kernel_rfl) (by kernel_rfl) (fun _ _ _ h => h) (Or.inr ⟨by rfl, rfl⟩) (by assumption) ?_
                    try simp only [Act.put, List.setIfInBounds_toArray, List.set_cons_zero, List.set_cons_succ]
                    refine wpAnyH_take (i := 23) (oi := { dst := some 148, op := Op.binOp BinOp.geq 3 (Operand.tmp 142) (Operand.tmp 147) 3, type := 4, pos := "law.go:100", after := #[{ on := 17, ground := Ground.data }, { on := 22, ground := Ground.data }, { on := 11, ground := Ground.guard }], guard := some (11, true) }) (v := undef) rfl (by kernel_rfl) (by kernel_rfl) (by kernel_rfl) (fun _ _ _ h => h) (Or.inr ⟨by rfl, rfl⟩) (by assumption) ?_
                    try simp only [Act.put, List.setIfInBounds_toArray, List.set_cons_zero, List.set_cons_succ]
                    refine wpAnyH_take (i := 24) (oi := { dst := some 149, op := Op.pick (Operand.tmp 136) (Operand.tmp 148) (Operand.const (Value.bool false)), type := 4, pos := "law.go:100", after := #[{ on := 11, ground := Ground.data }, { on := 23, ground := Ground.data }, { on := 8, ground := Ground.guard }], guard := some (8, false) }) (v := ?va24u4) rfl (by kernel_rfl) (by kernel_rfl) (by kernel_rfl) (fun _ _ _ h => h) (Or.inl ⟨by rfl, ?ha24u4⟩) (by assumption) ?ra24u4
                    case ha24u4 => (intro w0 hSw; (try dsimp only at hSw); go_simp; try with_reducible rfl)
                    try simp only [Act.put, List.setIfInBounds_toArray, List.set_cons_zero, List.set_cons_succ]
                    refine wpAnyH_take (i := 25) (oi := { dst := some 150, op := Op.pick (Operand.tmp 133) (Operand.const (Value.bool true)) (Operand.tmp 149), type := 4, pos := "law.go:100", after := #[{ on := 8, ground := Ground.data }, { on := 24, ground := Ground.data }], guard := none }) (v := ?va25u4) rfl (by kernel_rfl) (by kernel_rfl) (by kernel_rfl) (fun _ _ _ h => h) (Or.inl ⟨by rfl, ?ha25u4⟩) (by assumption) ?ra25u4
                    case ha25u4 => (intro w0 hSw; (try dsimp only at hSw); go_simp; try with_reducible rfl)
                    try simp only [Act.put, List.setIfInBounds_toArray, List.set_cons_zero, List.set_cons_succ]
                    refine wpAnyH_done (by kernel_rfl) ?_ _
                    refine NoPanic.normal ?_
                    have HNX : Hid (Kep2 w p m b b12 ar an (some ⟨gv, fv, none⟩) vts w15) := ⟨HA.out.below hs15.out, bt' HBZ.out hs15.out, HKZ.out.below hs15.out HKZ.out.lt, HHV.out.below hs15.out⟩
                    clear hs15
                    go_wp2
                    go_roundw
                    case rel => exact ⟨_, HJ.out, by go_num, HNX⟩
                    case measure => have := HJ.out; simp [intOf]; omega
                  · obtain ⟨i, hie⟩ : ∃ i, j = i + 1 := ⟨j - 1, by omega⟩
                    obtain ⟨hi, hzs⟩ := HRI.out i hie
                    obtain ⟨gv', fv', hgo', _, ev'⟩ := HHV.out.held.at hi
                    cases hgo'
                    have z0 := ev' 0 _ rfl
                    obtain ⟨zs, HZS⟩ : ∃ z, Hid ((vts[i]'hi).slot = z) := ⟨_, hid rfl⟩
                    have z1 : wr.cell? ⟨gv, fv + i * 8, none⟩ = some (.int .i64 zs) := by rw [← HZS.out]; exact z0
                    have hzy : ¬ ys ≤ zs := by rw [← HZS.out]; simp only at hzs; omega
                    have hji : (j : Int) - 1 = (i : Int) := by omega
                    have hii : (0 : Int) ≤ (i : Int) := by omega
                    have hi2 : (i : Int) < (VV : Int) := by omega
                    have hp1 : decide ((0 : Int) < (j : Int)) = true := decide_eq_true (by omega)
                    have hq1 : decide (0 < j) = true := decide_eq_true (by omega)
                    have hbi : -9223372036854775808 ≤ (i : Int) ∧ (i : Int) ≤ 9223372036854775807 := ⟨by omega, by omega⟩
                    have hwi : IntKind.i64.wrap (i : Int) = (i : Int) := by rw [IntKind.wrap_i64]; omega
                    have hwj : IntKind.i64.wrap ((j : Int) - 1) = (i : Int) := (congrArg IntKind.i64.wrap hji).trans hwi
                    clear hbi
                    clear hie
                    clear ev' z0 hzs hj0
                    have HSV : Hid (∀ V, ScL wr V → (ScL wr V ∧ V.cell? ⟨gv, fv + j * 8 + 1, none⟩ = some (.int .i64 yr) ∧ V.cell? ⟨gv, fv + j * 8 + 2, none⟩ = some (.int .i64 yn) ∧ V.cell? ⟨gv, fv + j * 8, none⟩ = some (.int .i64 ys) ∧ V.cell? ⟨b12, 0, none⟩ = some (.int .i64 ar) ∧ V.cell? ⟨b12, 1, none⟩ = some (.int .i64 an) ∧ V.cell? ⟨gv, fv + i * 8, none⟩ = some (.int .i64 zs))) := fun V hV => ⟨hV, (hV.out.cell (p := ⟨gv, _, none⟩) hgv).trans e1, (hV.out.cell (p := ⟨gv, _, none⟩) hgv).trans e2, (hV.out.cell (p := ⟨gv, _, none⟩) hgv).trans e0, (hV.out.cell (p := ⟨b12, _, none⟩) HKZ.out.lt).trans t0, (hV.out.cell (p := ⟨b12, _, none⟩) HKZ.out.lt).trans t1, (hV.out.cell (p := ⟨gv, _, none⟩) hgv).trans z1⟩
                    clear e0 e1 e2 t0 t1 z1
                    go_wp2
                    refine wp_region_noPanic ?_
                    refine wp_region_held_drew (S := (fun V => ScL wr V ∧ V.cell? ⟨gv, fv + j * 8 + 1, none⟩ = some (.int .i64 yr) ∧ V.cell? ⟨gv, fv + j * 8 + 2, none⟩ = some (.int .i64 yn) ∧ V.cell? ⟨gv, fv + j * 8, none⟩ = some (.int .i64 ys) ∧ V.cell? ⟨b12, 0, none⟩ = some (.int .i64 ar) ∧ V.cell? ⟨b12, 1, none⟩ = some (.int .i64 an) ∧ V.cell? ⟨gv, fv + i * 8, none⟩ = some (.int .i64 zs))) (by kernel_rfl) (HSV.out _ (ScL.start _).dr) (fun hHeld => ?_)
                    refine wpAnyH_take (i := 0) (oi := { dst := some 125, op := Op.move (Operand.tmp 13), type := 36, pos := "law.go:100", after := #[], guard := none }) (v := ?vb0u4) rfl (by kernel_rfl) (by kernel_rfl) (by kernel_rfl) (fun _ _ _ h => h) (Or.inl ⟨by rfl, ?hb0u4⟩) (by assumption) ?rb0u4
                    case hb0u4 => (intro w0 hSw; (try dsimp only at hSw); go_simp; try with_reducible rfl)
                    try simp only [Act.put, List.setIfInBounds_toArray, List.set_cons_zero, List.set_cons_succ]
                    refine wpAnyH_take (i := 1) (oi := { dst := some 126, op := Op.move (Operand.tmp 14), type := 3, pos := "law.go:100", after := #[], guard := none }) (v := ?vb1u4) rfl (by kernel_rfl) (by kernel_rfl) (by kernel_rfl) (fun _ _ _ h => h) (Or.inl ⟨by rfl, ?hb1u4⟩) (by assumption) ?rb1u4
                    case hb1u4 => (intro w0 hSw; (try dsimp only at hSw); go_simp; try with_reducible rfl)
                    try simp only [Act.put, List.setIfInBounds_toArray, List.set_cons_zero, List.set_cons_succ]
                    refine wpAnyH_take (i := 2) (oi := { dst := some 127, op := Op.indexAddr 36 (Operand.tmp 125) (Operand.tmp 126), type := 0, pos := "law.go:100", after := #[{ on := 0, ground := Ground.data }, { on := 1, ground := Ground.data }], guard := none }) (v := ?vb2u4) rfl (by kernel_rfl) (by kernel_rfl) (by kernel_rfl) (fun _ _ _ h => h) (Or.inl ⟨by rfl, ?hb2u4⟩) (by assumption) ?rb2u4
                    case hb2u4 => (intro w0 hSw; (try dsimp only at hSw); go_simp; try with_reducible rfl)
                    try simp only [Act.put, List.setIfInBounds_toArray, List.set_cons_zero, List.set_cons_succ]
                    refine wpAnyH_take (i := 3) (oi := { dst := some 128, op := Op.fieldAddr 45 (Operand.tmp 127) 1, type := 0, pos := "law.go:100", after := #[{ on := 2, ground := Ground.data }], guard := none }) (v := ?vb3u4) rfl (by kernel_rfl) (by kernel_rfl) (by kernel_rfl) (fun _ _ _ h => h) (Or.inl ⟨by rfl, ?hb3u4⟩) (by assumption) ?rb3u4
                    case hb3u4 => (intro w0 hSw; (try dsimp only at hSw); go_simp; try with_reducible rfl)
                    try simp only [Act.put, List.setIfInBounds_toArray, List.set_cons_zero, List.set_cons_succ]
                    refine wpAnyH_take (i := 4) (oi := { dst := some 129, op := Op.load 29 (Operand.tmp 128), type := 29, pos := "law.go:100", after := #[{ on := 3, ground := Ground.data }], guard := none }) (v := ?vb4u4) rfl (by kernel_rfl) (by kernel_rfl) (by kernel_rfl) (fun _ _ _ h => h) (Or.inl ⟨by rfl, ?hb4u4⟩) (by assumption) ?rb4u4
                    case hb4u4 => (intro w0 hSw; (try dsimp only at hSw); go_simp; try with_reducible rfl)
                    try simp only [Act.put, List.setIfInBounds_toArray, List.set_cons_zero, List.set_cons_succ]
                    refine wpAnyH_take (i := 5) (oi := { dst := some 130, op := Op.load 29 (Operand.tmp 12), type := 29, pos := "law.go:100", after := #[], guard := none }) (v := ?vb5u4) rfl (by kernel_rfl) (by kernel_rfl) (by kernel_rfl) (fun _ _ _ h => h) (Or.inl ⟨by rfl, ?hb5u4⟩) (by assumption) ?rb5u4
                    case hb5u4 => (intro w0 hSw; (try dsimp only at hSw); go_simp; try with_reducible rfl)
                    try simp only [Act.put, List.setIfInBounds_toArray, List.set_cons_zero, List.set_cons_succ]
                    refine wpAnyH_ready (rs := [6]) (by kernel_rfl) (by simp) ?_
                    refine AllReadyH.cons (o := { dst := some 131, op := Op.call { callee := Callee.value (Operand.func 9), args := #[Operand.tmp 129, Operand.tmp 130], argTypes := #[29, 29] }, type := 3, pos := "law.go:100", after := #[{ on := 4, ground := Ground.data }, { on := 5, ground := Ground.data }], guard := none }) rfl (fun K hK => ?_) AllReadyH.nil
                    go_simp
                    go_at_call 9; refine (HCY.out _ (by (repeat (first | assumption | exact ScL.start _ | apply ScL.dr)))).mono ?_; rintro e w15 ⟨rfl, hs15⟩
                    refine hK.out _ _ (HSV.out _ hs15) (fun hHeld => ?_)
                    clear hK K
                    try simp only [Act.put, List.setIfInBounds_toArray, List.set_cons_zero, List.set_cons_succ]
                    refine wpAnyH_take (i := 7) (oi := { dst := some 132, op := Op.binOp BinOp.gtr 3 (Operand.tmp 131) (Operand.const (Value.int IntKind.i64 0)) 3, type := 4, pos := "law.go:100", after := #[{ on := 6, ground := Ground.data }], guard := none }) (v := ?vb7u4) rfl (by kernel_rfl) (by kernel_rfl) (by kernel_rfl) (fun _ _ _ h => h) (Or.inl ⟨by rfl, ?hb7u4⟩) (by assumption) ?rb7u4
                    case hb7u4 => (intro w0 hSw; (try dsimp only at hSw); go_simp; try with_reducible rfl)
                    try simp only [Act.put, List.setIfInBounds_toArray, List.set_cons_zero, List.set_cons_succ]
                    refine wpAnyH_take (i := 8) (oi := { dst := some 133, op := Op.move (Operand.tmp 132), type := 4, pos := "law.go:100", after := #[{ on := 7, ground := Ground.data }, { on := 6, ground := Ground.chain }], guard := none }) (v := ?vb8u4) rfl (by kernel_rfl) (by kernel_rfl) (by kernel_rfl) (fun _ _ _ h => h) (Or.inl ⟨by rfl, ?hb8u4⟩) (by assumption) ?rb8u4
                    case hb8u4 => (intro w0 hSw; (try dsimp only at hSw); go_simp; try with_reducible rfl)
                    try simp only [Act.put, List.setIfInBounds_toArray, List.set_cons_zero, List.set_cons_succ]
                    refine wpAnyH_take (i := 9) (oi := { dst := some 134, op := Op.move (Operand.tmp 14), type := 3, pos := "law.go:100", after := #[{ on := 8, ground := Ground.guard }], guard := some (8, false) }) (v := ?vb9u4) rfl (by kernel_rfl) (by kernel_rfl) (by kernel_rfl) (fun _ _ _ h => h) (Or.inl ⟨by rfl, ?hb9u4⟩) (by assumption) ?rb9u4
                    case hb9u4 => (intro w0 hSw; (try dsimp only at hSw); go_simp; try with_reducible rfl)
                    try simp only [Act.put, List.setIfInBounds_toArray, List.set_cons_zero, List.set_cons_succ]
                    refine wpAnyH_take (i := 10) (oi := { dst := some 135, op := Op.binOp BinOp.gtr 3 (Operand.tmp 134) (Operand.const (Value.int IntKind.i64 0)) 3, type := 4, pos := "law.go:100", after := #[{ on := 9, ground := Ground.data }, { on := 8, ground := Ground.guard }], guard := some (8, false) }) (v := ?vb10u4) rfl (by kernel_rfl) (by kernel_rfl) (by kernel_rfl) (fun _ _ _ h => h) (Or.inl ⟨by rfl, ?hb10u4⟩) (by assumption) ?rb10u4
                    case hb10u4 => (intro w0 hSw; (try dsimp only at hSw); go_simp; try with_reducible rfl)
                    try simp only [Act.put, List.setIfInBounds_toArray, List.set_cons_zero, List.set_cons_succ]
                    refine wpAnyH_take (i := 11) (oi := { dst := some 136, op := Op.move (Operand.tmp 135), type := 4, pos := "law.go:100", after := #[{ on := 10, ground := Ground.data }, { on := 8, ground := Ground.chain }, { on := 8, ground := Ground.guard }], guard := some (8, false) }) (v := ?vb11u4) rfl (by kernel_rfl) (by kernel_rfl) (by kernel_rfl) (fun _ _ _ h => h) (Or.inl ⟨by rfl, ?hb11u4⟩) (by assumption) ?rb11u4
                    case hb11u4 => (intro w0 hSw; (try dsimp only at hSw); go_simp; try with_reducible rfl)
                    try simp only [Act.put, List.setIfInBounds_toArray, List.set_cons_zero, List.set_cons_succ]
                    refine wpAnyH_take (i := 12) (oi := { dst := some 137, op := Op.move (Operand.tmp 13), type := 36, pos := "law.go:100", after := #[{ on := 11, ground := Ground.guard }], guard := some (11, true) }) (v := ?vb12u4) rfl (by kernel_rfl) (by kernel_rfl) (by kernel_rfl) (fun _ _ _ h => h) (Or.inl ⟨by rfl, ?hb12u4⟩) (by assumption) ?rb12u4
                    case hb12u4 => (intro w0 hSw; (try dsimp only at hSw); go_simp; try with_reducible rfl)
                    try simp only [Act.put, List.setIfInBounds_toArray, List.set_cons_zero, List.set_cons_succ]
                    refine wpAnyH_take (i := 13) (oi := { dst := some 138, op := Op.move (Operand.tmp 14), type := 3, pos := "law.go:100", after := #[{ on := 11, ground := Ground.guard }], guard := some (11, true) }) (v := ?vb13u4) rfl (by kernel_rfl) (by kernel_rfl) (by kernel_rfl) (fun _ _ _ h => h) (Or.inl ⟨by rfl, ?hb13u4⟩) (by assumption) ?rb13u4
                    case hb13u4 => (intro w0 hSw; (try dsimp only at hSw); go_simp; try with_reducible rfl)
                    try simp only [Act.put, List.setIfInBounds_toArray, List.set_cons_zero, List.set_cons_succ]
                    refine wpAnyH_take (i := 14) (oi := { dst := some 139, op := Op.binOp BinOp.sub 3 (Operand.tmp 138) (Operand.const (Value.int IntKind.i64 1)) 3, type := 3, pos := "law.go:100", after := #[{ on := 13, ground := Ground.data }, { on := 11, ground := Ground.guard }], guard := some (11, true) }) (v := ?vb14u4) rfl (by kernel_rfl) (by kernel_rfl) (by kernel_rfl) (fun _ _ _ h => h) (Or.inl ⟨by rfl, ?hb14u4⟩) (by assumption) ?rb14u4
                    case hb14u4 => (intro w0 hSw; (try dsimp only at hSw); go_simp; try with_reducible rfl)
                    try simp only [Act.put, List.setIfInBounds_toArray, List.set_cons_zero, List.set_cons_succ]
                    refine wpAnyH_take (i := 15) (oi := { dst := some 140, op := Op.indexAddr 36 (Operand.tmp 137) (Operand.tmp 139), type := 0, pos := "law.go:100", after := #[{ on := 12, ground := Ground.data }, { on := 14, ground := Ground.data }, { on := 11, ground := Ground.guard }], guard := some (11, true) }) (v := ?vb15u4) rfl (by kernel_rfl) (by kernel_rfl) (by kernel_rfl) (fun _ _ _ h => h) (Or.inl ⟨by rfl, ?hb15u4⟩) (by assumption) ?rb15u4
                    case hb15u4 => (intro w0 hSw; (try dsimp only at hSw); go_simp; try with_reducible rfl)
                    try simp only [Act.put, List.setIfInBounds_toArray, List.set_cons_zero, List.set_cons_succ]
                    refine wpAnyH_take (i := 16) (oi := { dst := some 141, op := Op.fieldAddr 45 (Operand.tmp 140) 0, type := 0, pos := "law.go:100", after := #[{ on := 15, ground := Ground.data }, { on := 11, ground := Ground.guard }], guard := some (11, true) }) (v := ?vb16u4) rfl (by kernel_rfl) (by kernel_rfl) (by kernel_rfl) (fun _ _ _ h => h) (Or.inl ⟨by rfl, ?hb16u4⟩) (by assumption) ?rb16u4
                    case hb16u4 => (intro w0 hSw; (try dsimp only at hSw); go_simp; try with_reducible rfl)
                    try simp only [Act.put, List.setIfInBounds_toArray, List.set_cons_zero, List.set_cons_succ]
                    refine wpAnyH_take (i := 17) (oi := { dst := some 142, op := Op.load 3 (Operand.tmp 141), type := 3, pos := "law.go:100", after := #[{ on := 16, ground := Ground.data }, { on := 11, ground := Ground.guard }], guard := some (11, true) }) (v := ?vb17u4) rfl (by kernel_rfl) (by kernel_rfl) (by kernel_rfl) (fun _ _ _ h => h) (Or.inl ⟨by rfl, ?hb17u4⟩) (by assumption) ?rb17u4
                    case hb17u4 => (intro w0 hSw; (try dsimp only at hSw); go_simp; try with_reducible rfl)
                    try simp only [Act.put, List.setIfInBounds_toArray, List.set_cons_zero, List.set_cons_succ]
                    refine wpAnyH_take (i := 18) (oi := { dst := some 143, op := Op.move (Operand.tmp 13), type := 36, pos := "law.go:100", after := #[{ on := 11, ground := Ground.guard }], guard := some (11, true) }) (v := ?vb18u4) rfl (by kernel_rfl) (by kernel_rfl) (by kernel_rfl) (fun _ _ _ h => h) (Or.inl ⟨by rfl, ?hb18u4⟩) (by assumption) ?rb18u4
                    case hb18u4 => (intro w0 hSw; (try dsimp only at hSw); go_simp; try with_reducible rfl)
                    try simp only [Act.put, List.setIfInBounds_toArray, List.set_cons_zero, List.set_cons_succ]
                    refine wpAnyH_take (i := 19) (oi := { dst := some 144, op := Op.move (Operand.tmp 14), type := 3, pos := "law.go:100", after := #[{ on := 11, ground := Ground.guard }], guard := some (11, true) }) (v := ?vb19u4) rfl (by kernel_rfl) (by kernel_rfl) (by kernel_rfl) (fun _ _ _ h => h) (Or.inl ⟨by rfl, ?hb19u4⟩) (by assumption) ?rb19u4
                    case hb19u4 => (intro w0 hSw; (try dsimp only at hSw); go_simp; try with_reducible rfl)
                    try simp only [Act.put, List.setIfInBounds_toArray, List.set_cons_zero, List.set_cons_succ]
                    refine wpAnyH_take (i := 20) (oi := { dst := some 145, op := Op.indexAddr 36 (Operand.tmp 143) (Operand.tmp 144), type := 0, pos := "law.go:100", after := #[{ on := 18, ground := Ground.data }, { on := 19, ground := Ground.data }, { on := 11, ground := Ground.guard }], guard := some (11, true) }) (v := ?vb20u4) rfl (by kernel_rfl) (by kernel_rfl) (by kernel_rfl) (fun _ _ _ h => h) (Or.inl ⟨by rfl, ?hb20u4⟩) (by assumption) ?rb20u4
                    case hb20u4 => (intro w0 hSw; (try dsimp only at hSw); go_simp; try with_reducible rfl)
                    try simp only [Act.put, List.setIfInBounds_toArray, List.set_cons_zero, List.set_cons_succ]
                    refine wpAnyH_take (i := 21) (oi := { dst := some 146, op := Op.fieldAddr 45 (Operand.tmp 145) 0, type := 0, pos := "law.go:100", after := #[{ on := 20, ground := Ground.data }, { on := 11, ground := Ground.guard }], guard := some (11, true) }) (v := ?vb21u4) rfl (by kernel_rfl) (by kernel_rfl) (by kernel_rfl) (fun _ _ _ h => h) (Or.inl ⟨by rfl, ?hb21u4⟩) (by assumption) ?rb21u4
                    case hb21u4 => (intro w0 hSw; (try dsimp only at hSw); go_simp; try with_reducible rfl)
                    try simp only [Act.put, List.setIfInBounds_toArray, List.set_cons_zero, List.set_cons_succ]
                    refine wpAnyH_take (i := 22) (oi := { dst := some 147, op := Op.load 3 (Operand.tmp 146), type := 3, pos := "law.go:100", after := #[{ on := 21, ground := Ground.data }, { on := 11, ground := Ground.guard }], guard := some (11, true) }) (v := ?vb22u4) rfl (by kernel_rfl) (by kernel_rfl) (by kernel_rfl) (fun _ _ _ h => h) (Or.inl ⟨by rfl, ?hb22u4⟩) (by assumption) ?rb22u4
                    case hb22u4 => (intro w0 hSw; (try dsimp only at hSw); go_simp; try with_reducible rfl)
                    try simp only [Act.put, List.setIfInBounds_toArray, List.set_cons_zero, List.set_cons_succ]
                    refine wpAnyH_take (i := 23) (oi := { dst := some 148, op := Op.binOp BinOp.geq 3 (Operand.tmp 142) (Operand.tmp 147) 3, type := 4, pos := "law.go:100", after := #[{ on := 17, ground := Ground.data }, { on := 22, ground := Ground.data }, { on := 11, ground := Ground.guard }], guard := some (11, true) }) (v := ?vb23u4) rfl (by kernel_rfl) (by kernel_rfl) (by kernel_rfl) (fun _ _ _ h => h) (Or.inl ⟨by rfl, ?hb23u4⟩) (by assumption) ?rb23u4
                    case hb23u4 => (intro w0 hSw; (try dsimp only at hSw); go_simp; try with_reducible rfl)
                    try simp only [Act.put, List.setIfInBounds_toArray, List.set_cons_zero, List.set_cons_succ]
                    refine wpAnyH_take (i := 24) (oi := { dst := some 149, op := Op.pick (Operand.tmp 136) (Operand.tmp 148) (Operand.const (Value.bool false)), type := 4, pos := "law.go:100", after := #[{ on := 11, ground := Ground.data }, { on := 23, ground := Ground.data }, { on := 8, ground := Ground.guard }], guard := some (8, false) }) (v := ?vb24u4) rfl (by kernel_rfl) (by kernel_rfl) (by kernel_rfl) (fun _ _ _ h => h) (Or.inl ⟨by rfl, ?hb24u4⟩) (by assumption) ?rb24u4
                    case hb24u4 => (intro w0 hSw; (try dsimp only at hSw); go_simp; try with_reducible rfl)
                    try simp only [Act.put, List.setIfInBounds_toArray, List.set_cons_zero, List.set_cons_succ]
                    refine wpAnyH_take (i := 25) (oi := { dst := some 150, op := Op.pick (Operand.tmp 133) (Operand.const (Value.bool true)) (Operand.tmp 149), type := 4, pos := "law.go:100", after := #[{ on := 8, ground := Ground.data }, { on := 24, ground := Ground.data }], guard := none }) (v := ?vb25u4) rfl (by kernel_rfl) (by kernel_rfl) (by kernel_rfl) (fun _ _ _ h => h) (Or.inl ⟨by rfl, ?hb25u4⟩) (by assumption) ?rb25u4
                    case hb25u4 => (intro w0 hSw; (try dsimp only at hSw); go_simp; try with_reducible rfl)
                    try simp only [Act.put, List.setIfInBounds_toArray, List.set_cons_zero, List.set_cons_succ]
                    refine wpAnyH_done (by kernel_rfl) ?_ _
                    refine NoPanic.normal ?_
                    have HNX : Hid (Kep2 w p m b b12 ar an (some ⟨gv, fv, none⟩) vts w15) := ⟨HA.out.below hs15.out, bt' HBZ.out hs15.out, HKZ.out.below hs15.out HKZ.out.lt, HHV.out.below hs15.out⟩
                    clear hs15 hwi hwj hji hii hi2 hp1 hq1
                    go_wp2
                    go_roundw
                    case rel => exact ⟨_, HJ.out, by go_num, HNX⟩
                    case measure => have := HJ.out; simp [intOf]; omega
                · have hlt2 : ¬ (j : Int) < (VV : Int) := by omega
                  have HNX : Hid (Kep1 w p m wr) := ⟨b, HA.out, HBZ.out⟩
                  clear hlt hj
                  go_wp2
                  go_roundw
                  case rel => exact ⟨k + 1, HLT.out, by go_num, HNX⟩
                  case measure => have := HLT.out; simp [intOf]; omega
    · have hlt' : ¬ (k : Int) < (N1 : Int) := by omega
      clear hlt hk
      go_wp2
      go_ret
      exact ⟨rfl, HBR.out⟩
end Go.Proofs.Ytbofpapdbjecoaa
