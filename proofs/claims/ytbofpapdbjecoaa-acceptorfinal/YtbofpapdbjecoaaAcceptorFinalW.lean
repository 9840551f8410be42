/-
  pannierlaw16.AcceptorFinal answers true for whatever messages.
-/
import Derived.Test.YtbofpapdbjecoaaAcY
import Derived.Test.YtbofpapdbjecoaaMsgOpen
import Derived.Test.YtbofpapdbjecoaaSameVos
namespace Go.Proofs.Ytbofpapdbjecoaa
open Go.RowKit Go.Maps

/-- Between two rounds of the first loop. -/
def Fin1 (W0 : World) (p m : Nat) (wr : World) : Prop := ∃ a, AcIn W0.heap.size wr p m a ∧ Below W0.heap.size W0 wr
/-- Between two rounds of the second loop. -/
def Fin2 (W0 : World) (p m : Nat) (a : Ac) (b13 : Nat) (r n : Int) (vo : Option Addr) (vs : List VoM) (wr : World) : Prop := AcIn W0.heap.size wr p m a ∧ Below W0.heap.size W0 wr ∧ Blk wr b13 29 [.int .i64 r, .int .i64 n] ∧ HeldVI wr vo vs
set_option maxRecDepth 1000000 in
set_option maxHeartbeats 4000000 in
theorem acceptorFinal_walk (ao : Option Addr) (cap : Nat) (xs : List MsM) (r n : Int) (bo : Option Addr) (bcap : Nat) (zs : List MsM) (w : World) (hx : HeldMs w ao xs) (hlx : xs.length ≤ 703687441776) (hir : In64B r) (hin : In64B n) (hz : HeldMs w bo zs) (hlz : zs.length ≤ 703687441776) :
    Calls Try.prog 4 #[.slice ao xs.length cap, .agg #[.int .i64 r, .int .i64 n], .slice bo zs.length bcap] w fun e w' => e = .returned (.bool true) ∧ Below w.heap.size w w' := by
  obtain ⟨W0, hW0⟩ : ∃ V, V = w.alloc (.cells #[.int .i64 r, .int .i64 n] 29) := ⟨_, rfl⟩
  have hb0 : Below w.heap.size w W0 := by rw [hW0]; exact (Below.refl _ _).alloc (Nat.le_refl _) _
  obtain ⟨bq, hbq⟩ : ∃ q, q = w.heap.size := ⟨_, rfl⟩
  have HK0 : Hid (Blk W0 bq 29 [.int .i64 r, .int .i64 n]) := by rw [hW0, hbq]; exact Blk.new w _ _
  have HX := hid (hx.below hb0)
  have HZ := hid (hz.below hb0)
  have HB0 := hid hb0
  have HIR := hid hir
  have HIN := hid hin
  have HW0 := hid hW0
  have HBQ := hid hbq
  obtain ⟨N1, HN⟩ : ∃ n, Hid (xs.length = n) := ⟨_, hid rfl⟩
  obtain ⟨N2, HM⟩ : ∃ n, Hid (zs.length = n) := ⟨_, hid rfl⟩
  rw [HN.out, HM.out]
  rw [HN.out] at hlx
  rw [HM.out] at hlz
  have HNEW := hid (newA_good W0 1 (by omega) (by omega))
  clear hx hz hb0 hW0 hbq hir hin
  go_enter Try.func4, Try.ntmps4
  go_wp2_with fail
  rw [← HW0.out, ← HBQ.out]
  refine HNEW.out.mono ?_
  rintro e w1 ⟨p, m, rfl, hat, hb1, hp, hm⟩
  have HL1 : Hid (AcIn W0.heap.size w1 p m (newAc 1)) := ⟨hat, hp, hm⟩
  have HB1 := hid hb1
  have HLV := hid (livesAc w1)
  clear hat hb1 hp hm HNEW
  go_wp2_with fail
  refine HLV.out.mono ?_
  rintro e w2 ⟨rfl, hb2⟩
  have HL2 := hid (HL1.out.below hb2)
  have HB2 := hid (bt' HB1.out hb2)
  clear hb2 HLV
  go_wp2
  go_loopw [9] (fun i wr => ∃ k : Nat, k ≤ N1 ∧ i = .int .i64 k ∧ Hid (Fin1 W0 p m wr)) (fun i _ => N1 - (intOf i).toNat)
  case atStart => exact ⟨0, Nat.zero_le _, rfl, _, HL2.out, HB2.out⟩
  case round =>
    obtain ⟨k, hk, rfl, HR⟩ := hrel
    obtain ⟨a, hac, hbr⟩ := HR.out
    have HAC := hid hac
    have HBR := hid hbr
    clear hac hbr HR
    by_cases hlt : k < N1
    · have hlt' : (k : Int) < (N1 : Int) := by omega
      have HLT := hid hlt
      have hkx : Hid (k < xs.length) := (HN.out ▸ hlt : k < xs.length)
      have HOKX := hid (HX.out.okD hkx.out)
      have HMB := hid (msB_of HOKX.out)
      obtain ⟨bb, off, hao, hbb, d0, d1, d2, d3, d4, d5, d6, d7, d8, d9, d10, d11, d12, d13, d14⟩ := HX.out.cellsD hkx.out
      subst hao
      obtain ⟨X, hX⟩ : ∃ X, X = xs.getD k default := ⟨_, rfl⟩
      rw [← hX] at d0 d1 d2 d3 d4 d5 d6 d7 d8 d9 d10 d11 d12 d13 d14 HOKX HMB
      clear hX
      obtain ⟨kd, fr, to, ⟨br, bn⟩, sl, ⟨⟨np, tk, ct, ep, cut⟩, ao1, cap1⟩, vo, vc, vs, so, sc, seen, eo, ec, evs, ti⟩ := X
      simp only at d0 d1 d2 d3 d4 d5 d6 d7 d8 d9 d10 d11 d12 d13 d14
      obtain ⟨XN, HXN⟩ : ∃ m, Hid (cut.length = m) := ⟨_, hid rfl⟩
      obtain ⟨VN, HVN⟩ : ∃ m, Hid (vs.length = m) := ⟨_, hid rfl⟩
      obtain ⟨SN, HSN⟩ : ∃ m, Hid (seen.length = m) := ⟨_, hid rfl⟩
      obtain ⟨EN, HEN⟩ : ∃ m, Hid (evs.length = m) := ⟨_, hid rfl⟩
      rw [HXN.out] at d10
      rw [HVN.out] at d11
      rw [HSN.out] at d12
      rw [HEN.out] at d13
      have c0 := (HBR.out.cell (p := ⟨bb, _, none⟩) hbb).trans d0
      have c1 := (HBR.out.cell (p := ⟨bb, _, none⟩) hbb).trans d1
      have c2 := (HBR.out.cell (p := ⟨bb, _, none⟩) hbb).trans d2
      have c3 := (HBR.out.cell (p := ⟨bb, _, none⟩) hbb).trans d3
      have c4 := (HBR.out.cell (p := ⟨bb, _, none⟩) hbb).trans d4
      have c5 := (HBR.out.cell (p := ⟨bb, _, none⟩) hbb).trans d5
      have c6 := (HBR.out.cell (p := ⟨bb, _, none⟩) hbb).trans d6
      have c7 := (HBR.out.cell (p := ⟨bb, _, none⟩) hbb).trans d7
      have c8 := (HBR.out.cell (p := ⟨bb, _, none⟩) hbb).trans d8
      have c9 := (HBR.out.cell (p := ⟨bb, _, none⟩) hbb).trans d9
      have c10 := (HBR.out.cell (p := ⟨bb, _, none⟩) hbb).trans d10
      have c11 := (HBR.out.cell (p := ⟨bb, _, none⟩) hbb).trans d11
      have c12 := (HBR.out.cell (p := ⟨bb, _, none⟩) hbb).trans d12
      have c13 := (HBR.out.cell (p := ⟨bb, _, none⟩) hbb).trans d13
      have c14 := (HBR.out.cell (p := ⟨bb, _, none⟩) hbb).trans d14
      clear d0 d1 d2 d3 d4 d5 d6 d7 d8 d9 d10 d11 d12 d13 d14
      have HON := hid (HAC.out.on_any HBR.out.size ⟨kd, fr, to, (br, bn), sl, ⟨⟨np, tk, ct, ep, cut⟩, ao1, cap1⟩, vo, vc, vs, so, sc, seen, eo, ec, evs, ti⟩ (HOKX.out.below HBR.out) HMB.out)
      simp only [MsM.val] at HON
      rw [HXN.out, HVN.out, HSN.out, HEN.out] at HON
      clear hlt hk
      go_wp2_with fail
      refine HON.out.mono ?_
      rintro e w5 ⟨⟨v, rfl⟩, ⟨b, hb⟩, hb5⟩
      have HNX : Hid (Fin1 W0 p m w5) := ⟨b, hb, HBR.out.trans hb5⟩
      clear hb hb5
      go_wp2
      go_roundw
      case rel => exact ⟨k + 1, HLT.out, by go_num, HNX⟩
      case measure => have := HLT.out; simp [intOf]; omega
    · have hlt' : ¬ (k : Int) < (N1 : Int) := by omega
      have q0 := (HK0.out.below HBR.out HK0.out.lt).cell (i := 0) rfl
      have q1 := (HK0.out.below HBR.out HK0.out.lt).cell (i := 1) rfl
      have HON := hid (HAC.out.on_all HBR.out.size (mkMs 1 0 (r, n) 0) (mkMs_ok _ _ _ _ _ (by unfold I64; decide) (by unfold I64; decide) HIR.out HIN.out (by unfold I64; decide)) (mkMs_b _ _ _ _ _))
      simp only [mkMs, MsM.val, noopEn, List.length_nil] at HON
      clear hk hlt
      go_wp2_with fail
      refine HON.out.mono ?_
      rintro e w4 ⟨k4, nd4, fr4, r4, n4, sl4, np4, vo4, N4, vc4, R4, ok, b, rfl, hof, hac4, ht4, hb4⟩
      have HB4 := hid (HBR.out.trans hb4)
      obtain ⟨W5, hW5⟩ : ∃ V, V = w4.alloc (.cells #[.int .i64 k4, .int .i64 nd4, .int .i64 fr4, .int .i64 r4, .int .i64 n4, .int .i64 sl4, .bool np4, .string ⟨#[]⟩, .string ⟨#[]⟩, .int .i64 0, .slice none 0 0, .slice vo4 N4 vc4, .slice none 0 0, .slice none 0 0, .int .i64 0] 39) := ⟨_, rfl⟩
      have hb5 : Below w4.heap.size w4 W5 := by rw [hW5]; exact (Below.refl _ _).alloc (Nat.le_refl _) _
      have HL5 := hid (hac4.below hb5)
      have HB5 := hid (bt' HB4.out hb5)
      have HW5 := hid hW5
      obtain ⟨nr, nn, hpr⟩ : ∃ x y, b.pr = (x, y) := ⟨_, _, rfl⟩
      have HPR : Hid (b.pr = (nr, nn)) := hpr
      have HPD := hid HL5.out.at'.promised
      unfold PromP at HPD
      rw [HPR.out] at HPD
      have HCM : Hid (ok = true → cmpB (r, n) (nr, nn) ≤ 0) := fun ho => by
        obtain ⟨_, _, hb', _⟩ := hof.yes ho
        have h1 := prep_le (a := a) (x := mkMs 1 0 (r, n) 0) rfl
        have h2 : ¬ 0 < cmpB (r, n) b.pr := by rw [hb']; exact h1
        rw [HPR.out] at h2
        omega
      clear hof hac4 ht4 hb4 hb5 hW5 hpr q0 q1 HON
      go_wp2_with fail
      rw [← HW5.out]
      refine HPD.out.mono ?_
      rintro e w6 ⟨rfl, hb6⟩
      have HL6 := hid (HL5.out.below hb6)
      have HB6 := hid (bt' HB5.out hb6)
      have HVO := hid HL6.out.at'.votes
      clear hb6 HPD
      go_wp2_with fail
      refine HVO.out.mono ?_
      rintro e w7 ⟨vot, vct, vts, rfl, hmap, hheld, hlen, hab, hb7⟩
      obtain ⟨VV, HVV⟩ : ∃ q, Hid (vts.length = q) := ⟨_, hid rfl⟩
      rw [HVV.out]
      obtain ⟨W8, hW8⟩ : ∃ V, V = w7.alloc (.cells #[.int .i64 nr, .int .i64 nn] 29) := ⟨_, rfl⟩
      have hb8 : Below w7.heap.size w7 W8 := by rw [hW8]; exact (Below.refl _ _).alloc (Nat.le_refl _) _
      obtain ⟨b13, hb13⟩ : ∃ q, q = w7.heap.size := ⟨_, rfl⟩
      have HK8 : Hid (Blk W8 b13 29 [.int .i64 nr, .int .i64 nn]) := by rw [hW8, hb13]; exact Blk.new w7 _ _
      have HMAP := hid hmap
      have HVL : Hid (VV ≤ 4096) := by rw [← HVV.out]; exact hid hlen
      have HLW : Hid (∀ i, FootA p m i → i < w6.heap.size) := HL6.out.at'.lt
      have HVB : Hid (∀ b off, vot = some ⟨b, off, none⟩ → ¬ FootA p m b) := fun b off e hf => by have h1 := hab b off e; have h2 := HLW.out _ hf; omega
      have H13 : Hid (¬ FootA p m b13) := fun hf => by have h2 := HLW.out _ hf; have h3 := hb7.size; omega
      have HF8 : Hid (Fin2 W0 p m b b13 nr nn vot vts W8) := ⟨(HL6.out.below hb7).below hb8, bt' (bt' HB6.out hb7) hb8, HK8.out, hheld.below hb8⟩
      have HW8 := hid hW8
      have H13e := hid hb13
      have q0 := (HK0.out.below HF8.out.2.1 HK0.out.lt).cell (i := 0) rfl
      have q1 := (HK0.out.below HF8.out.2.1 HK0.out.lt).cell (i := 1) rfl
      have s0 := HK8.out.cell (i := 0) rfl
      have s1 := HK8.out.cell (i := 1) rfl
      rw [HW8.out] at q0 q1 s0 s1
      rw [H13e.out] at s0 s1
      have HCP := hid (compareB W8 (r, n) (nr, nn))
      simp only [blt] at HCP
      clear hmap hheld hlen hab hb7 hb8 hW8 hb13 HVO
      cases ok
      case true =>
        obtain ⟨cc, HCC⟩ : ∃ c, Hid (cmpB (r, n) (nr, nn) = c) := ⟨_, hid rfl⟩
        have hcc : ¬ (0 : Int) < cc := by rw [← HCC.out]; have := HCM.out rfl; omega
        rw [HCC.out] at HCP
        go_wp2_with fail
        rw [← HW8.out, ← H13e.out]
        refine HCP.out.mono ?_
        rintro e w9 ⟨rfl, hb9⟩
        have HF9 : Hid (Fin2 W0 p m b b13 nr nn vot vts w9) := ⟨HF8.out.1.below hb9, bt' HF8.out.2.1 hb9, HF8.out.2.2.1.below hb9 HF8.out.2.2.1.lt, HF8.out.2.2.2.below hb9⟩
        clear hb9 HCP q0 q1 s0 s1
        go_wp2
        go_loopw [15, 16, 17, 18] (fun i _ _ _ wr => ∃ k : Nat, k ≤ N2 ∧ i = .int .i64 k ∧ Hid (Fin2 W0 p m b b13 nr nn vot vts wr)) (fun i _ _ _ _ => N2 - (intOf i).toNat)
        case atStart => exact ⟨0, Nat.zero_le _, rfl, HF9⟩
        case round =>
          obtain ⟨k, hk, rfl, HR⟩ := hrel
          obtain ⟨hac, hbr, hk13, hvs⟩ := HR.out
          have HAC := hid hac
          have HBR := hid hbr
          have H13B := hid hk13
          have HVS := hid hvs
          clear hac hbr hk13 hvs HR
          by_cases hlt : k < N2
          · have hlt' : (k : Int) < (N2 : Int) := by omega
            have HLT := hid hlt
            have hkx : Hid (k < zs.length) := (HM.out ▸ hlt : k < zs.length)
            have s0 := H13B.out.cell (i := 0) rfl
            have s1 := H13B.out.cell (i := 1) rfl
            have HOKX := hid (HZ.out.okD hkx.out)
            have HMB := hid (msB_of HOKX.out)
            obtain ⟨bb, off, hao, hbb, d0, d1, d2, d3, d4, d5, d6, d7, d8, d9, d10, d11, d12, d13, d14⟩ := HZ.out.cellsD hkx.out
            subst hao
            obtain ⟨X, hX⟩ : ∃ X, X = zs.getD k default := ⟨_, rfl⟩
            rw [← hX] at d0 d1 d2 d3 d4 d5 d6 d7 d8 d9 d10 d11 d12 d13 d14 HOKX HMB
            clear hX
            obtain ⟨kd, fr, to, ⟨br, bn⟩, sl, ⟨⟨np, tk, ct, ep, cut⟩, ao1, cap1⟩, vo, vc, vs, so, sc, seen, eo, ec, evs, ti⟩ := X
            simp only at d0 d1 d2 d3 d4 d5 d6 d7 d8 d9 d10 d11 d12 d13 d14
            obtain ⟨XN, HXN⟩ : ∃ m, Hid (cut.length = m) := ⟨_, hid rfl⟩
            obtain ⟨VN, HVN⟩ : ∃ m, Hid (vs.length = m) := ⟨_, hid rfl⟩
            obtain ⟨SN, HSN⟩ : ∃ m, Hid (seen.length = m) := ⟨_, hid rfl⟩
            obtain ⟨EN, HEN⟩ : ∃ m, Hid (evs.length = m) := ⟨_, hid rfl⟩
            rw [HXN.out] at d10
            rw [HVN.out] at d11
            rw [HSN.out] at d12
            rw [HEN.out] at d13
            have c0 := (HBR.out.cell (p := ⟨bb, _, none⟩) hbb).trans d0
            have c1 := (HBR.out.cell (p := ⟨bb, _, none⟩) hbb).trans d1
            have c2 := (HBR.out.cell (p := ⟨bb, _, none⟩) hbb).trans d2
            have c3 := (HBR.out.cell (p := ⟨bb, _, none⟩) hbb).trans d3
            have c4 := (HBR.out.cell (p := ⟨bb, _, none⟩) hbb).trans d4
            have c5 := (HBR.out.cell (p := ⟨bb, _, none⟩) hbb).trans d5
            have c6 := (HBR.out.cell (p := ⟨bb, _, none⟩) hbb).trans d6
            have c7 := (HBR.out.cell (p := ⟨bb, _, none⟩) hbb).trans d7
            have c8 := (HBR.out.cell (p := ⟨bb, _, none⟩) hbb).trans d8
            have c9 := (HBR.out.cell (p := ⟨bb, _, none⟩) hbb).trans d9
            have c10 := (HBR.out.cell (p := ⟨bb, _, none⟩) hbb).trans d10
            have c11 := (HBR.out.cell (p := ⟨bb, _, none⟩) hbb).trans d11
            have c12 := (HBR.out.cell (p := ⟨bb, _, none⟩) hbb).trans d12
            have c13 := (HBR.out.cell (p := ⟨bb, _, none⟩) hbb).trans d13
            have c14 := (HBR.out.cell (p := ⟨bb, _, none⟩) hbb).trans d14
            clear d0 d1 d2 d3 d4 d5 d6 d7 d8 d9 d10 d11 d12 d13 d14
            obtain ⟨cc, HCC⟩ : ∃ c, Hid (cmpB (br, bn) (nr, nn) = c) := ⟨_, hid rfl⟩
            have HCP : Hid (∀ V, ScL wr V → Calls Try.prog 9 #[.agg #[.int .i64 br, .int .i64 bn], .agg #[.int .i64 nr, .int .i64 nn]] V fun e w' => e = .returned (.int .i64 cc) ∧ ScL wr w') := fun V hV => by
              have h1 := compareB V (br, bn) (nr, nn)
              rw [HCC.out] at h1
              exact h1.mono fun e w' ⟨h2, h3⟩ => ⟨h2, hV.go h3⟩
            have HSA : Hid (∀ V, ScL wr V → (ScL wr V ∧ V.cell? ⟨bb, off + k * 15 + 3, none⟩ = some (.int .i64 br) ∧ V.cell? ⟨bb, off + k * 15 + 4, none⟩ = some (.int .i64 bn) ∧ V.cell? ⟨b13, 0, none⟩ = some (.int .i64 nr) ∧ V.cell? ⟨b13, 1, none⟩ = some (.int .i64 nn))) := fun V hV =>
              ⟨hV, (hV.out.cell (p := ⟨bb, _, none⟩) (Nat.lt_of_lt_of_le hbb HBR.out.size)).trans c3, (hV.out.cell (p := ⟨bb, _, none⟩) (Nat.lt_of_lt_of_le hbb HBR.out.size)).trans c4, (hV.out.cell (p := ⟨b13, _, none⟩) H13B.out.lt).trans s0, (hV.out.cell (p := ⟨b13, _, none⟩) H13B.out.lt).trans s1⟩
            have HMS : Hid (∀ V, ScL wr V → (V.cell? ⟨bb, off + k * 15, none⟩ = some (.int .i64 kd) ∧ V.cell? ⟨bb, off + k * 15 + 1, none⟩ = some (.int .i64 fr) ∧ V.cell? ⟨bb, off + k * 15 + 2, none⟩ = some (.int .i64 to) ∧ V.cell? ⟨bb, off + k * 15 + 3, none⟩ = some (.int .i64 br) ∧ V.cell? ⟨bb, off + k * 15 + 4, none⟩ = some (.int .i64 bn) ∧ V.cell? ⟨bb, off + k * 15 + 5, none⟩ = some (.int .i64 sl) ∧ V.cell? ⟨bb, off + k * 15 + 6, none⟩ = some (.bool np) ∧ V.cell? ⟨bb, off + k * 15 + 7, none⟩ = some (.string tk) ∧ V.cell? ⟨bb, off + k * 15 + 8, none⟩ = some (.string ct) ∧ V.cell? ⟨bb, off + k * 15 + 9, none⟩ = some (.int .i64 ep) ∧ V.cell? ⟨bb, off + k * 15 + 10, none⟩ = some (.slice ao1 XN cap1) ∧ V.cell? ⟨bb, off + k * 15 + 11, none⟩ = some (.slice vo VN vc) ∧ V.cell? ⟨bb, off + k * 15 + 12, none⟩ = some (.slice so SN sc) ∧ V.cell? ⟨bb, off + k * 15 + 13, none⟩ = some (.slice eo EN ec) ∧ V.cell? ⟨bb, off + k * 15 + 14, none⟩ = some (.int .i64 ti))) := fun V hV =>
              ⟨(hV.out.cell (p := ⟨bb, _, none⟩) (Nat.lt_of_lt_of_le hbb HBR.out.size)).trans c0, (hV.out.cell (p := ⟨bb, _, none⟩) (Nat.lt_of_lt_of_le hbb HBR.out.size)).trans c1, (hV.out.cell (p := ⟨bb, _, none⟩) (Nat.lt_of_lt_of_le hbb HBR.out.size)).trans c2, (hV.out.cell (p := ⟨bb, _, none⟩) (Nat.lt_of_lt_of_le hbb HBR.out.size)).trans c3, (hV.out.cell (p := ⟨bb, _, none⟩) (Nat.lt_of_lt_of_le hbb HBR.out.size)).trans c4, (hV.out.cell (p := ⟨bb, _, none⟩) (Nat.lt_of_lt_of_le hbb HBR.out.size)).trans c5, (hV.out.cell (p := ⟨bb, _, none⟩) (Nat.lt_of_lt_of_le hbb HBR.out.size)).trans c6, (hV.out.cell (p := ⟨bb, _, none⟩) (Nat.lt_of_lt_of_le hbb HBR.out.size)).trans c7, (hV.out.cell (p := ⟨bb, _, none⟩) (Nat.lt_of_lt_of_le hbb HBR.out.size)).trans c8, (hV.out.cell (p := ⟨bb, _, none⟩) (Nat.lt_of_lt_of_le hbb HBR.out.size)).trans c9, (hV.out.cell (p := ⟨bb, _, none⟩) (Nat.lt_of_lt_of_le hbb HBR.out.size)).trans c10, (hV.out.cell (p := ⟨bb, _, none⟩) (Nat.lt_of_lt_of_le hbb HBR.out.size)).trans c11, (hV.out.cell (p := ⟨bb, _, none⟩) (Nat.lt_of_lt_of_le hbb HBR.out.size)).trans c12, (hV.out.cell (p := ⟨bb, _, none⟩) (Nat.lt_of_lt_of_le hbb HBR.out.size)).trans c13, (hV.out.cell (p := ⟨bb, _, none⟩) (Nat.lt_of_lt_of_le hbb HBR.out.size)).trans c14⟩
            clear hlt hk c0 c1 c2 c3 c4 c5 c6 c7 c8 c9 c10 c11 c12 c13 c14 s0 s1
            by_cases hcc : cc < 0
            · have hcc' : ¬ (0 : Int) ≤ cc := by omega
              go_wp2
              go_region_held3 (fun V => ScL wr V ∧ V.cell? ⟨bb, off + k * 15 + 3, none⟩ = some (.int .i64 br) ∧ V.cell? ⟨bb, off + k * 15 + 4, none⟩ = some (.int .i64 bn) ∧ V.cell? ⟨b13, 0, none⟩ = some (.int .i64 nr) ∧ V.cell? ⟨b13, 1, none⟩ = some (.int .i64 nn))
                (first | (refine HSA.out _ ?_; (repeat (first | with_reducible assumption | with_reducible exact ScL.start _ | with_reducible apply ScL.dr)); done))
                ((go_at_call 9; with_reducible refine (HCP.out _ (by (repeat (first | assumption | exact ScL.start _ | apply ScL.dr)))).mono ?_; rintro e w5 ⟨rfl, hs5⟩))
              all_goals
                have HS5 := hid hs5
                obtain ⟨c0, c1, c2, c3, c4, c5, c6, c7, c8, c9, c10, c11, c12, c13, c14⟩ := HMS.out _ hs5
                have HL5 := hid (HAC.out.below hs5.out)
                have HB5 := hid (bt' HBR.out hs5.out)
                have HV5 := hid (HVS.out.below hs5.out)
                have HK5 := hid (H13B.out.below hs5.out H13B.out.lt)
                have HON := hid (HL5.out.on_all HB5.out.size ⟨kd, fr, to, (br, bn), sl, ⟨⟨np, tk, ct, ep, cut⟩, ao1, cap1⟩, vo, vc, vs, so, sc, seen, eo, ec, evs, ti⟩ (HOKX.out.below HB5.out) HMB.out)
                simp only [MsM.val] at HON
                rw [HXN.out, HVN.out, HSN.out, HEN.out] at HON
                clear hs5
                go_wp2_with fail
                refine HON.out.mono ?_
                rintro e w6 ⟨k6, nd6, fr6, r6, n6, sl6, np6, vo6, N6, vc6, R6, ok6, b6, rfl, hof, hac6, ht6, hb6⟩
                have hk5 : kindA b ⟨kd, fr, to, (br, bn), sl, ⟨⟨np, tk, ct, ep, cut⟩, ao1, cap1⟩, vo, vc, vs, so, sc, seen, eo, ec, evs, ti⟩ = 5 := less_kind (by show cmpB (br, bn) b.pr < 0; rw [HPR.out, HCC.out]; exact hcc)
                have hb6e : b6 = b := by
                  cases ok6
                  · exact (hof.no rfl).1
                  · rw [(hof.yes rfl).2.2.1, kind5_after hk5]
                subst hb6e
                have hR6 : R6 = ⟨#[]⟩ := by
                  cases ok6
                  · exact (hof.no rfl).2
                  · rw [(hof.yes rfl).2.2.2, kind5_rec hk5]
                subst hR6
                have hok6 : ok6 = true → k6 = 5 ∧ r6 = nr ∧ n6 = nn := fun ho => by
                  obtain ⟨h1, h2, _, _⟩ := hof.yes ho
                  rw [HPR.out] at h2
                  cases h2
                  exact ⟨h1.trans hk5, rfl, rfl⟩
                have HOK6 := hid hok6
                obtain ⟨W7, hW7⟩ : ∃ V, V = w6.alloc (.cells #[.int .i64 k6, .int .i64 nd6, .int .i64 fr6, .int .i64 r6, .int .i64 n6, .int .i64 sl6, .bool np6, .string ⟨#[]⟩, .string ⟨#[]⟩, .int .i64 0, .slice none 0 0, .slice vo6 N6 vc6, .slice none 0 0, .slice none 0 0, .int .i64 0] 39) := ⟨_, rfl⟩
                have hb7 : Below w6.heap.size w6 W7 := by rw [hW7]; exact (Below.refl _ _).alloc (Nat.le_refl _) _
                obtain ⟨b16, hb16⟩ : ∃ q, q = w6.heap.size := ⟨_, rfl⟩
                have HK7 : Hid (Blk W7 b16 39 [.int .i64 k6, .int .i64 nd6, .int .i64 fr6, .int .i64 r6, .int .i64 n6, .int .i64 sl6, .bool np6, .string ⟨#[]⟩, .string ⟨#[]⟩, .int .i64 0, .slice none 0 0, .slice vo6 N6 vc6, .slice none 0 0, .slice none 0 0, .int .i64 0]) := by rw [hW7, hb16]; exact Blk.new w6 _ _
                have HNX : Hid (Fin2 W0 p m b6 b13 nr nn vot vts W7) := ⟨hac6.below hb7, bt' (HB5.out.trans hb6) hb7, (ht6.blk HK5.out H13.out).below hb7 (ht6.blk HK5.out H13.out).lt, (HV5.out.turned ht6 HL5.out.at'.noNum HVB.out).below hb7⟩
                have t0 := HNX.out.2.2.1.cell (i := 0) rfl
                have t1 := HNX.out.2.2.1.cell (i := 1) rfl
                have u0 := HK7.out.cell (i := 0) rfl
                have u3 := HK7.out.cell (i := 3) rfl
                have u4 := HK7.out.cell (i := 4) rfl
                have HW7 := hid hW7
                have H16 := hid hb16
                rw [HW7.out] at t0 t1 u0 u3 u4
                rw [H16.out] at u0 u3 u4
                clear hof hac6 ht6 hb6 hk5 hok6 hb7 hW7 hb16 HON c0 c1 c2 c3 c4 c5 c6 c7 c8 c9 c10 c11 c12 c13 c14
                cases ok6
                case true =>
                  obtain ⟨rfl, rfl, rfl⟩ := HOK6.out rfl
                  go_wp2
                  rw [← HW7.out]
                  go_roundw
                  case rel => exact ⟨k + 1, HLT.out, by go_num, HNX⟩
                  case measure => have := HLT.out; simp [intOf]; omega
                case false =>
                  go_wp2
                  rw [← HW7.out]
                  go_roundw
                  case rel => exact ⟨k + 1, HLT.out, by go_num, HNX⟩
                  case measure => have := HLT.out; simp [intOf]; omega
            · have hcc' : (0 : Int) ≤ cc := by omega
              go_wp2
              go_region_held3 (fun V => ScL wr V ∧ V.cell? ⟨bb, off + k * 15 + 3, none⟩ = some (.int .i64 br) ∧ V.cell? ⟨bb, off + k * 15 + 4, none⟩ = some (.int .i64 bn) ∧ V.cell? ⟨b13, 0, none⟩ = some (.int .i64 nr) ∧ V.cell? ⟨b13, 1, none⟩ = some (.int .i64 nn))
                (first | (refine HSA.out _ ?_; (repeat (first | with_reducible assumption | with_reducible exact ScL.start _ | with_reducible apply ScL.dr)); done))
                ((go_at_call 9; with_reducible refine (HCP.out _ (by (repeat (first | assumption | exact ScL.start _ | apply ScL.dr)))).mono ?_; rintro e w5 ⟨rfl, hs5⟩))
              all_goals
                have HNX : Hid (Fin2 W0 p m b b13 nr nn vot vts w5) := ⟨HAC.out.below hs5.out, bt' HBR.out hs5.out, H13B.out.below hs5.out H13B.out.lt, HVS.out.below hs5.out⟩
                clear hs5
                go_wp2
                go_roundw
                case rel => exact ⟨k + 1, HLT.out, by go_num, HNX⟩
                case measure => have := HLT.out; simp [intOf]; omega
          · have hlt' : ¬ (k : Int) < (N2 : Int) := by omega
            have s0 := H13B.out.cell (i := 0) rfl
            have s1 := H13B.out.cell (i := 1) rfl
            have HPD : Hid (∀ V, ScL wr V → Calls Try.prog 7 #[.pointer (some ⟨p, 0, none⟩)] V fun e w' => e = .returned (.agg #[.int .i64 nr, .int .i64 nn]) ∧ ScL wr w') := fun V hV => by
              have h1 := (HAC.out.below hV.out).at'.promised
              unfold PromP at h1
              rw [HPR.out] at h1
              exact h1.mono fun e w' ⟨h2, h3⟩ => ⟨h2, hV.go h3⟩
            have HVT : Hid (∀ V, ScL wr V → Calls Try.prog 10 #[.pointer (some ⟨p, 0, none⟩)] V fun e w' => ∃ vo5 vc5, e = .returned (.slice vo5 VV vc5) ∧ Hid (∃ ys, ys.length = VV ∧ ys.map VoM.sv = vts.map VoM.sv ∧ HeldVI w' vo5 ys) ∧ ScL wr w') := fun V hV => by
              refine (HAC.out.below hV.out).at'.votes.mono ?_
              rintro e w' ⟨vo5, vc5, ys, rfl, h1, h2, _, _, h3⟩
              rw [← HMAP.out] at h1
              have h4 : ys.length = VV := by have := congrArg List.length h1; simp at this; rw [this, HVV.out]
              rw [h4]
              exact ⟨vo5, vc5, rfl, ⟨ys, h4, h1, h2⟩, hV.go h3⟩
            have HSM : Hid (∀ w5 V vo5 vc5, Hid (∃ ys, ys.length = VV ∧ ys.map VoM.sv = vts.map VoM.sv ∧ HeldVI w5 vo5 ys) → ScL wr w5 → ScL w5 V → Calls Try.prog 11 #[.slice vo5 VV vc5, .slice vot VV vct] V fun e w' => e = .returned (.bool true) ∧ ScL wr w') := fun w5 V vo5 vc5 hh h5 hV => by
              obtain ⟨ys, h1, h2, h3⟩ := hh.out
              refine (sameVos_B V vo5 vot vc5 vct ys vts VV h1 (h3.below hV.out).held ((HVS.out.below h5.out).below hV.out).held h2 HVL.out).mono ?_
              rintro e w' ⟨h6, h7⟩
              exact ⟨h6, (h5.go hV.out).go h7⟩
            have HSA : Hid (∀ V, ScL wr V → (ScL wr V ∧ V.cell? ⟨b13, 0, none⟩ = some (.int .i64 nr) ∧ V.cell? ⟨b13, 1, none⟩ = some (.int .i64 nn))) := fun V hV =>
              ⟨hV, (hV.out.cell (p := ⟨b13, _, none⟩) H13B.out.lt).trans s0, (hV.out.cell (p := ⟨b13, _, none⟩) H13B.out.lt).trans s1⟩
            clear hlt hk s0 s1
            go_wp2
            go_region_held3 (fun V => ScL wr V ∧ V.cell? ⟨b13, 0, none⟩ = some (.int .i64 nr) ∧ V.cell? ⟨b13, 1, none⟩ = some (.int .i64 nn))
              (first | (refine HSA.out _ ?_; (repeat (first | with_reducible assumption | with_reducible exact ScL.start _ | with_reducible apply ScL.dr)); done))
              (first
                | (go_at_call 7; with_reducible refine (HPD.out _ (by (repeat (first | assumption | exact ScL.start _ | apply ScL.dr)))).mono ?_; rintro e w5 ⟨rfl, hs5⟩)
                | (go_at_call 10; with_reducible refine (HVT.out _ (by (repeat (first | assumption | exact ScL.start _ | apply ScL.dr)))).mono ?_; rintro e w6 ⟨vo5, vc5, rfl, HY6, hs6⟩)
                | (go_at_call 11; with_reducible refine (HSM.out _ _ _ _ HY6 hs6 (by (repeat (first | assumption | exact ScL.start _ | apply ScL.dr)))).mono ?_; rintro e w7 ⟨rfl, hs7⟩))
            all_goals
              have HFB := hid (bt' HBR.out hs7.out)
              clear hs7
              go_wp2
              go_ret
              exact ⟨rfl, bt' HB0.out HFB.out⟩
      case false =>
        have HF9 := HF8
        clear HCP q0 q1 s0 s1
        go_wp2
        rw [← HW8.out, ← H13e.out]
        go_loopw [15, 16, 17, 18] (fun i _ _ _ wr => ∃ k : Nat, k ≤ N2 ∧ i = .int .i64 k ∧ Hid (Fin2 W0 p m b b13 nr nn vot vts wr)) (fun i _ _ _ _ => N2 - (intOf i).toNat)
        case atStart => exact ⟨0, Nat.zero_le _, rfl, HF9⟩
        case round =>
          obtain ⟨k, hk, rfl, HR⟩ := hrel
          obtain ⟨hac, hbr, hk13, hvs⟩ := HR.out
          have HAC := hid hac
          have HBR := hid hbr
          have H13B := hid hk13
          have HVS := hid hvs
          clear hac hbr hk13 hvs HR
          by_cases hlt : k < N2
          · have hlt' : (k : Int) < (N2 : Int) := by omega
            have HLT := hid hlt
            have hkx : Hid (k < zs.length) := (HM.out ▸ hlt : k < zs.length)
            have s0 := H13B.out.cell (i := 0) rfl
            have s1 := H13B.out.cell (i := 1) rfl
            have HOKX := hid (HZ.out.okD hkx.out)
            have HMB := hid (msB_of HOKX.out)
            obtain ⟨bb, off, hao, hbb, d0, d1, d2, d3, d4, d5, d6, d7, d8, d9, d10, d11, d12, d13, d14⟩ := HZ.out.cellsD hkx.out
            subst hao
            obtain ⟨X, hX⟩ : ∃ X, X = zs.getD k default := ⟨_, rfl⟩
            rw [← hX] at d0 d1 d2 d3 d4 d5 d6 d7 d8 d9 d10 d11 d12 d13 d14 HOKX HMB
            clear hX
            obtain ⟨kd, fr, to, ⟨br, bn⟩, sl, ⟨⟨np, tk, ct, ep, cut⟩, ao1, cap1⟩, vo, vc, vs, so, sc, seen, eo, ec, evs, ti⟩ := X
            simp only at d0 d1 d2 d3 d4 d5 d6 d7 d8 d9 d10 d11 d12 d13 d14
            obtain ⟨XN, HXN⟩ : ∃ m, Hid (cut.length = m) := ⟨_, hid rfl⟩
            obtain ⟨VN, HVN⟩ : ∃ m, Hid (vs.length = m) := ⟨_, hid rfl⟩
            obtain ⟨SN, HSN⟩ : ∃ m, Hid (seen.length = m) := ⟨_, hid rfl⟩
            obtain ⟨EN, HEN⟩ : ∃ m, Hid (evs.length = m) := ⟨_, hid rfl⟩
            rw [HXN.out] at d10
            rw [HVN.out] at d11
            rw [HSN.out] at d12
            rw [HEN.out] at d13
            have c0 := (HBR.out.cell (p := ⟨bb, _, none⟩) hbb).trans d0
            have c1 := (HBR.out.cell (p := ⟨bb, _, none⟩) hbb).trans d1
            have c2 := (HBR.out.cell (p := ⟨bb, _, none⟩) hbb).trans d2
            have c3 := (HBR.out.cell (p := ⟨bb, _, none⟩) hbb).trans d3
            have c4 := (HBR.out.cell (p := ⟨bb, _, none⟩) hbb).trans d4
            have c5 := (HBR.out.cell (p := ⟨bb, _, none⟩) hbb).trans d5
            have c6 := (HBR.out.cell (p := ⟨bb, _, none⟩) hbb).trans d6
            have c7 := (HBR.out.cell (p := ⟨bb, _, none⟩) hbb).trans d7
            have c8 := (HBR.out.cell (p := ⟨bb, _, none⟩) hbb).trans d8
            have c9 := (HBR.out.cell (p := ⟨bb, _, none⟩) hbb).trans d9
            have c10 := (HBR.out.cell (p := ⟨bb, _, none⟩) hbb).trans d10
            have c11 := (HBR.out.cell (p := ⟨bb, _, none⟩) hbb).trans d11
            have c12 := (HBR.out.cell (p := ⟨bb, _, none⟩) hbb).trans d12
            have c13 := (HBR.out.cell (p := ⟨bb, _, none⟩) hbb).trans d13
            have c14 := (HBR.out.cell (p := ⟨bb, _, none⟩) hbb).trans d14
            clear d0 d1 d2 d3 d4 d5 d6 d7 d8 d9 d10 d11 d12 d13 d14
            obtain ⟨cc, HCC⟩ : ∃ c, Hid (cmpB (br, bn) (nr, nn) = c) := ⟨_, hid rfl⟩
            have HCP : Hid (∀ V, ScL wr V → Calls Try.prog 9 #[.agg #[.int .i64 br, .int .i64 bn], .agg #[.int .i64 nr, .int .i64 nn]] V fun e w' => e = .returned (.int .i64 cc) ∧ ScL wr w') := fun V hV => by
              have h1 := compareB V (br, bn) (nr, nn)
              rw [HCC.out] at h1
              exact h1.mono fun e w' ⟨h2, h3⟩ => ⟨h2, hV.go h3⟩
            have HSA : Hid (∀ V, ScL wr V → (ScL wr V ∧ V.cell? ⟨bb, off + k * 15 + 3, none⟩ = some (.int .i64 br) ∧ V.cell? ⟨bb, off + k * 15 + 4, none⟩ = some (.int .i64 bn) ∧ V.cell? ⟨b13, 0, none⟩ = some (.int .i64 nr) ∧ V.cell? ⟨b13, 1, none⟩ = some (.int .i64 nn))) := fun V hV =>
              ⟨hV, (hV.out.cell (p := ⟨bb, _, none⟩) (Nat.lt_of_lt_of_le hbb HBR.out.size)).trans c3, (hV.out.cell (p := ⟨bb, _, none⟩) (Nat.lt_of_lt_of_le hbb HBR.out.size)).trans c4, (hV.out.cell (p := ⟨b13, _, none⟩) H13B.out.lt).trans s0, (hV.out.cell (p := ⟨b13, _, none⟩) H13B.out.lt).trans s1⟩
            have HMS : Hid (∀ V, ScL wr V → (V.cell? ⟨bb, off + k * 15, none⟩ = some (.int .i64 kd) ∧ V.cell? ⟨bb, off + k * 15 + 1, none⟩ = some (.int .i64 fr) ∧ V.cell? ⟨bb, off + k * 15 + 2, none⟩ = some (.int .i64 to) ∧ V.cell? ⟨bb, off + k * 15 + 3, none⟩ = some (.int .i64 br) ∧ V.cell? ⟨bb, off + k * 15 + 4, none⟩ = some (.int .i64 bn) ∧ V.cell? ⟨bb, off + k * 15 + 5, none⟩ = some (.int .i64 sl) ∧ V.cell? ⟨bb, off + k * 15 + 6, none⟩ = some (.bool np) ∧ V.cell? ⟨bb, off + k * 15 + 7, none⟩ = some (.string tk) ∧ V.cell? ⟨bb, off + k * 15 + 8, none⟩ = some (.string ct) ∧ V.cell? ⟨bb, off + k * 15 + 9, none⟩ = some (.int .i64 ep) ∧ V.cell? ⟨bb, off + k * 15 + 10, none⟩ = some (.slice ao1 XN cap1) ∧ V.cell? ⟨bb, off + k * 15 + 11, none⟩ = some (.slice vo VN vc) ∧ V.cell? ⟨bb, off + k * 15 + 12, none⟩ = some (.slice so SN sc) ∧ V.cell? ⟨bb, off + k * 15 + 13, none⟩ = some (.slice eo EN ec) ∧ V.cell? ⟨bb, off + k * 15 + 14, none⟩ = some (.int .i64 ti))) := fun V hV =>
              ⟨(hV.out.cell (p := ⟨bb, _, none⟩) (Nat.lt_of_lt_of_le hbb HBR.out.size)).trans c0, (hV.out.cell (p := ⟨bb, _, none⟩) (Nat.lt_of_lt_of_le hbb HBR.out.size)).trans c1, (hV.out.cell (p := ⟨bb, _, none⟩) (Nat.lt_of_lt_of_le hbb HBR.out.size)).trans c2, (hV.out.cell (p := ⟨bb, _, none⟩) (Nat.lt_of_lt_of_le hbb HBR.out.size)).trans c3, (hV.out.cell (p := ⟨bb, _, none⟩) (Nat.lt_of_lt_of_le hbb HBR.out.size)).trans c4, (hV.out.cell (p := ⟨bb, _, none⟩) (Nat.lt_of_lt_of_le hbb HBR.out.size)).trans c5, (hV.out.cell (p := ⟨bb, _, none⟩) (Nat.lt_of_lt_of_le hbb HBR.out.size)).trans c6, (hV.out.cell (p := ⟨bb, _, none⟩) (Nat.lt_of_lt_of_le hbb HBR.out.size)).trans c7, (hV.out.cell (p := ⟨bb, _, none⟩) (Nat.lt_of_lt_of_le hbb HBR.out.size)).trans c8, (hV.out.cell (p := ⟨bb, _, none⟩) (Nat.lt_of_lt_of_le hbb HBR.out.size)).trans c9, (hV.out.cell (p := ⟨bb, _, none⟩) (Nat.lt_of_lt_of_le hbb HBR.out.size)).trans c10, (hV.out.cell (p := ⟨bb, _, none⟩) (Nat.lt_of_lt_of_le hbb HBR.out.size)).trans c11, (hV.out.cell (p := ⟨bb, _, none⟩) (Nat.lt_of_lt_of_le hbb HBR.out.size)).trans c12, (hV.out.cell (p := ⟨bb, _, none⟩) (Nat.lt_of_lt_of_le hbb HBR.out.size)).trans c13, (hV.out.cell (p := ⟨bb, _, none⟩) (Nat.lt_of_lt_of_le hbb HBR.out.size)).trans c14⟩
            clear hlt hk c0 c1 c2 c3 c4 c5 c6 c7 c8 c9 c10 c11 c12 c13 c14 s0 s1
            by_cases hcc : cc < 0
            · have hcc' : ¬ (0 : Int) ≤ cc := by omega
              go_wp2
              go_region_held3 (fun V => ScL wr V ∧ V.cell? ⟨bb, off + k * 15 + 3, none⟩ = some (.int .i64 br) ∧ V.cell? ⟨bb, off + k * 15 + 4, none⟩ = some (.int .i64 bn) ∧ V.cell? ⟨b13, 0, none⟩ = some (.int .i64 nr) ∧ V.cell? ⟨b13, 1, none⟩ = some (.int .i64 nn))
                (first | (refine HSA.out _ ?_; (repeat (first | with_reducible assumption | with_reducible exact ScL.start _ | with_reducible apply ScL.dr)); done))
                ((go_at_call 9; with_reducible refine (HCP.out _ (by (repeat (first | assumption | exact ScL.start _ | apply ScL.dr)))).mono ?_; rintro e w5 ⟨rfl, hs5⟩))
              all_goals
                have HS5 := hid hs5
                obtain ⟨c0, c1, c2, c3, c4, c5, c6, c7, c8, c9, c10, c11, c12, c13, c14⟩ := HMS.out _ hs5
                have HL5 := hid (HAC.out.below hs5.out)
                have HB5 := hid (bt' HBR.out hs5.out)
                have HV5 := hid (HVS.out.below hs5.out)
                have HK5 := hid (H13B.out.below hs5.out H13B.out.lt)
                have HON := hid (HL5.out.on_all HB5.out.size ⟨kd, fr, to, (br, bn), sl, ⟨⟨np, tk, ct, ep, cut⟩, ao1, cap1⟩, vo, vc, vs, so, sc, seen, eo, ec, evs, ti⟩ (HOKX.out.below HB5.out) HMB.out)
                simp only [MsM.val] at HON
                rw [HXN.out, HVN.out, HSN.out, HEN.out] at HON
                clear hs5
                go_wp2_with fail
                refine HON.out.mono ?_
                rintro e w6 ⟨k6, nd6, fr6, r6, n6, sl6, np6, vo6, N6, vc6, R6, ok6, b6, rfl, hof, hac6, ht6, hb6⟩
                have hk5 : kindA b ⟨kd, fr, to, (br, bn), sl, ⟨⟨np, tk, ct, ep, cut⟩, ao1, cap1⟩, vo, vc, vs, so, sc, seen, eo, ec, evs, ti⟩ = 5 := less_kind (by show cmpB (br, bn) b.pr < 0; rw [HPR.out, HCC.out]; exact hcc)
                have hb6e : b6 = b := by
                  cases ok6
                  · exact (hof.no rfl).1
                  · rw [(hof.yes rfl).2.2.1, kind5_after hk5]
                subst hb6e
                have hR6 : R6 = ⟨#[]⟩ := by
                  cases ok6
                  · exact (hof.no rfl).2
                  · rw [(hof.yes rfl).2.2.2, kind5_rec hk5]
                subst hR6
                have hok6 : ok6 = true → k6 = 5 ∧ r6 = nr ∧ n6 = nn := fun ho => by
                  obtain ⟨h1, h2, _, _⟩ := hof.yes ho
                  rw [HPR.out] at h2
                  cases h2
                  exact ⟨h1.trans hk5, rfl, rfl⟩
                have HOK6 := hid hok6
                obtain ⟨W7, hW7⟩ : ∃ V, V = w6.alloc (.cells #[.int .i64 k6, .int .i64 nd6, .int .i64 fr6, .int .i64 r6, .int .i64 n6, .int .i64 sl6, .bool np6, .string ⟨#[]⟩, .string ⟨#[]⟩, .int .i64 0, .slice none 0 0, .slice vo6 N6 vc6, .slice none 0 0, .slice none 0 0, .int .i64 0] 39) := ⟨_, rfl⟩
                have hb7 : Below w6.heap.size w6 W7 := by rw [hW7]; exact (Below.refl _ _).alloc (Nat.le_refl _) _
                obtain ⟨b16, hb16⟩ : ∃ q, q = w6.heap.size := ⟨_, rfl⟩
                have HK7 : Hid (Blk W7 b16 39 [.int .i64 k6, .int .i64 nd6, .int .i64 fr6, .int .i64 r6, .int .i64 n6, .int .i64 sl6, .bool np6, .string ⟨#[]⟩, .string ⟨#[]⟩, .int .i64 0, .slice none 0 0, .slice vo6 N6 vc6, .slice none 0 0, .slice none 0 0, .int .i64 0]) := by rw [hW7, hb16]; exact Blk.new w6 _ _
                have HNX : Hid (Fin2 W0 p m b6 b13 nr nn vot vts W7) := ⟨hac6.below hb7, bt' (HB5.out.trans hb6) hb7, (ht6.blk HK5.out H13.out).below hb7 (ht6.blk HK5.out H13.out).lt, (HV5.out.turned ht6 HL5.out.at'.noNum HVB.out).below hb7⟩
                have t0 := HNX.out.2.2.1.cell (i := 0) rfl
                have t1 := HNX.out.2.2.1.cell (i := 1) rfl
                have u0 := HK7.out.cell (i := 0) rfl
                have u3 := HK7.out.cell (i := 3) rfl
                have u4 := HK7.out.cell (i := 4) rfl
                have HW7 := hid hW7
                have H16 := hid hb16
                rw [HW7.out] at t0 t1 u0 u3 u4
                rw [H16.out] at u0 u3 u4
                clear hof hac6 ht6 hb6 hk5 hok6 hb7 hW7 hb16 HON c0 c1 c2 c3 c4 c5 c6 c7 c8 c9 c10 c11 c12 c13 c14
                cases ok6
                case true =>
                  obtain ⟨rfl, rfl, rfl⟩ := HOK6.out rfl
                  go_wp2
                  rw [← HW7.out]
                  go_roundw
                  case rel => exact ⟨k + 1, HLT.out, by go_num, HNX⟩
                  case measure => have := HLT.out; simp [intOf]; omega
                case false =>
                  go_wp2
                  rw [← HW7.out]
                  go_roundw
                  case rel => exact ⟨k + 1, HLT.out, by go_num, HNX⟩
                  case measure => have := HLT.out; simp [intOf]; omega
            · have hcc' : (0 : Int) ≤ cc := by omega
              go_wp2
              go_region_held3 (fun V => ScL wr V ∧ V.cell? ⟨bb, off + k * 15 + 3, none⟩ = some (.int .i64 br) ∧ V.cell? ⟨bb, off + k * 15 + 4, none⟩ = some (.int .i64 bn) ∧ V.cell? ⟨b13, 0, none⟩ = some (.int .i64 nr) ∧ V.cell? ⟨b13, 1, none⟩ = some (.int .i64 nn))
                (first | (refine HSA.out _ ?_; (repeat (first | with_reducible assumption | with_reducible exact ScL.start _ | with_reducible apply ScL.dr)); done))
                ((go_at_call 9; with_reducible refine (HCP.out _ (by (repeat (first | assumption | exact ScL.start _ | apply ScL.dr)))).mono ?_; rintro e w5 ⟨rfl, hs5⟩))
              all_goals
                have HNX : Hid (Fin2 W0 p m b b13 nr nn vot vts w5) := ⟨HAC.out.below hs5.out, bt' HBR.out hs5.out, H13B.out.below hs5.out H13B.out.lt, HVS.out.below hs5.out⟩
                clear hs5
                go_wp2
                go_roundw
                case rel => exact ⟨k + 1, HLT.out, by go_num, HNX⟩
                case measure => have := HLT.out; simp [intOf]; omega
          · have hlt' : ¬ (k : Int) < (N2 : Int) := by omega
            have s0 := H13B.out.cell (i := 0) rfl
            have s1 := H13B.out.cell (i := 1) rfl
            have HPD : Hid (∀ V, ScL wr V → Calls Try.prog 7 #[.pointer (some ⟨p, 0, none⟩)] V fun e w' => e = .returned (.agg #[.int .i64 nr, .int .i64 nn]) ∧ ScL wr w') := fun V hV => by
              have h1 := (HAC.out.below hV.out).at'.promised
              unfold PromP at h1
              rw [HPR.out] at h1
              exact h1.mono fun e w' ⟨h2, h3⟩ => ⟨h2, hV.go h3⟩
            have HVT : Hid (∀ V, ScL wr V → Calls Try.prog 10 #[.pointer (some ⟨p, 0, none⟩)] V fun e w' => ∃ vo5 vc5, e = .returned (.slice vo5 VV vc5) ∧ Hid (∃ ys, ys.length = VV ∧ ys.map VoM.sv = vts.map VoM.sv ∧ HeldVI w' vo5 ys) ∧ ScL wr w') := fun V hV => by
              refine (HAC.out.below hV.out).at'.votes.mono ?_
              rintro e w' ⟨vo5, vc5, ys, rfl, h1, h2, _, _, h3⟩
              rw [← HMAP.out] at h1
              have h4 : ys.length = VV := by have := congrArg List.length h1; simp at this; rw [this, HVV.out]
              rw [h4]
              exact ⟨vo5, vc5, rfl, ⟨ys, h4, h1, h2⟩, hV.go h3⟩
            have HSM : Hid (∀ w5 V vo5 vc5, Hid (∃ ys, ys.length = VV ∧ ys.map VoM.sv = vts.map VoM.sv ∧ HeldVI w5 vo5 ys) → ScL wr w5 → ScL w5 V → Calls Try.prog 11 #[.slice vo5 VV vc5, .slice vot VV vct] V fun e w' => e = .returned (.bool true) ∧ ScL wr w') := fun w5 V vo5 vc5 hh h5 hV => by
              obtain ⟨ys, h1, h2, h3⟩ := hh.out
              refine (sameVos_B V vo5 vot vc5 vct ys vts VV h1 (h3.below hV.out).held ((HVS.out.below h5.out).below hV.out).held h2 HVL.out).mono ?_
              rintro e w' ⟨h6, h7⟩
              exact ⟨h6, (h5.go hV.out).go h7⟩
            have HSA : Hid (∀ V, ScL wr V → (ScL wr V ∧ V.cell? ⟨b13, 0, none⟩ = some (.int .i64 nr) ∧ V.cell? ⟨b13, 1, none⟩ = some (.int .i64 nn))) := fun V hV =>
              ⟨hV, (hV.out.cell (p := ⟨b13, _, none⟩) H13B.out.lt).trans s0, (hV.out.cell (p := ⟨b13, _, none⟩) H13B.out.lt).trans s1⟩
            clear hlt hk s0 s1
            go_wp2
            go_region_held3 (fun V => ScL wr V ∧ V.cell? ⟨b13, 0, none⟩ = some (.int .i64 nr) ∧ V.cell? ⟨b13, 1, none⟩ = some (.int .i64 nn))
              (first | (refine HSA.out _ ?_; (repeat (first | with_reducible assumption | with_reducible exact ScL.start _ | with_reducible apply ScL.dr)); done))
              (first
                | (go_at_call 7; with_reducible refine (HPD.out _ (by (repeat (first | assumption | exact ScL.start _ | apply ScL.dr)))).mono ?_; rintro e w5 ⟨rfl, hs5⟩)
                | (go_at_call 10; with_reducible refine (HVT.out _ (by (repeat (first | assumption | exact ScL.start _ | apply ScL.dr)))).mono ?_; rintro e w6 ⟨vo5, vc5, rfl, HY6, hs6⟩)
                | (go_at_call 11; with_reducible refine (HSM.out _ _ _ _ HY6 hs6 (by (repeat (first | assumption | exact ScL.start _ | apply ScL.dr)))).mono ?_; rintro e w7 ⟨rfl, hs7⟩))
            all_goals
              have HFB := hid (bt' HBR.out hs7.out)
              clear hs7
              go_wp2
              go_ret
              exact ⟨rfl, bt' HB0.out HFB.out⟩
end Go.Proofs.Ytbofpapdbjecoaa
