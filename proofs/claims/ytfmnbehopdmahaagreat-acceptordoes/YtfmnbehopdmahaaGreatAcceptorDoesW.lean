/-
  pannierlaw16.AcceptorDoes answers true for whatever messages and drops.
-/
import Derived.Test.YtfmnbehopdmahaaGreatAcY
import Derived.Test.YtfmnbehopdmahaaGreatMsgOpen
namespace Go.Proofs.YtfmnbehopdmahaaGreat
open Go.RowKit Go.Maps

/-- Between two rounds: both have the same. -/
def Doe (w : World) (p m x : Nat) (wr : World) : Prop := ∃ a xs ro rc, AcIn w.heap.size wr p m a ∧ RaIn w.heap.size wr x a xs ro rc ∧ Below w.heap.size w wr
theorem same_ms {W : World} {kk nd fr r n sl : Int} {np : Bool} {ao bo : Option Addr} {ca cb N : Nat} {L : List (Int × Vt)} (h1 : VR W ao N L) (h2 : VR W bo N L) : Calls Tryz.prog 11 #[.agg #[.int .i64 kk, .int .i64 nd, .int .i64 fr, .int .i64 r, .int .i64 n, .int .i64 sl, .bool np, .string ⟨#[]⟩, .string ⟨#[]⟩, .int .i64 0, .slice none 0 0, .slice ao N ca, .slice none 0 0, .slice none 0 0, .int .i64 0], .agg #[.int .i64 kk, .int .i64 nd, .int .i64 fr, .int .i64 r, .int .i64 n, .int .i64 sl, .bool np, .string ⟨#[]⟩, .string ⟨#[]⟩, .int .i64 0, .slice none 0 0, .slice bo N cb, .slice none 0 0, .slice none 0 0, .int .i64 0]] W fun e w' => e = .returned (.bool true) ∧ Below W.heap.size W w' := by
  obtain ⟨ys, e1, k1, l1, n1⟩ := h1
  obtain ⟨zs, e2, k2, l2, n2⟩ := h2
  exact sameMs_ans W kk nd fr r n sl np ao bo ca cb N ys zs e1 n1 n2 (l1.trans l2.symm) k1
theorem VR.len {W : World} {ao : Option Addr} {N : Nat} {L : List (Int × Vt)} (h : VR W ao N L) : N = L.length := by
  obtain ⟨ys, e1, _, l1, _⟩ := h
  have := congrArg List.length l1
  rw [List.length_map] at this
  omega
set_option maxRecDepth 1000000 in
theorem does_bad (nd : Int) (ao bo : Option Addr) (len cap blen bcap : Nat) (w : World) (hnd : nd < 0 ∨ 7 ≤ nd) :
    Calls Tryz.prog 3 #[.int .i64 nd, .slice ao len cap, .slice bo blen bcap] w fun e w' => e = .returned (.bool true) ∧ Below w.heap.size w w' := by
  have HNEW := hid (newA_bad w nd hnd)
  have HRN := hid (rnewA_bad w nd hnd)
  have HLV := hid (livesAc w)
  clear hnd
  go_enter Tryz.func3, Tryz.ntmps3
  go_wp2_with fail
  refine HNEW.out.mono ?_
  rintro e w1 ⟨rfl, hw1⟩
  rw [hw1]
  clear hw1 w1
  go_wp2_with fail
  refine HRN.out.mono ?_
  rintro e w1 ⟨rfl, hw1⟩
  rw [hw1]
  clear hw1 w1
  go_wp2_with fail
  refine HLV.out.mono ?_
  rintro e w2 ⟨rfl, hb2⟩
  have HB2 := hid hb2
  clear hb2 HLV HNEW HRN
  go_wp2
  go_loopw [7, 11, 12, 13, 14, 15, 16, 17, 18, 19, 20] (fun a i _ _ _ _ _ _ _ _ _ wr => a = .pointer none ∧ i = .int .i64 0 ∧ Hid (Below w.heap.size w wr)) (fun _ _ _ _ _ _ _ _ _ _ _ _ => 0)
  case atStart => exact ⟨rfl, rfl, HB2⟩
  case round =>
    obtain ⟨rfl, rfl, HB⟩ := hrel
    by_cases hl : (0 : Int) < (len : Int)
    · go_wp2
      go_ret
      exact ⟨rfl, HB.out⟩
    · go_wp2
      go_ret
      exact ⟨rfl, HB.out⟩
set_option maxRecDepth 1000000 in
set_option maxHeartbeats 16000000 in
theorem does_good (nd : Int) (ao : Option Addr) (cap : Nat) (xs : List MsM) (bo : Option Addr) (bcap : Nat) (ds : List Int) (w : World) (hx : HeldMs w ao xs) (hlx : xs.length ≤ 703687441776) (hd : HV w bo bcap ds) (hnd : ¬ (nd < 0 ∨ 7 ≤ nd)) :
    Calls Tryz.prog 3 #[.int .i64 nd, .slice ao xs.length cap, .slice bo ds.length bcap] w fun e w' => e = .returned (.bool true) ∧ Below w.heap.size w w' := by
  have HX := hid hx
  have HD := hid hd
  obtain ⟨N1, HN⟩ : ∃ n, Hid (xs.length = n) := ⟨_, hid rfl⟩
  obtain ⟨DN, HDN⟩ : ∃ n, Hid (ds.length = n) := ⟨_, hid rfl⟩
  rw [HN.out, HDN.out]
  rw [HN.out] at hlx
  have HNEW := hid (newA_good w nd (fun h => hnd (.inl h)) (fun h => hnd (.inr h)))
  have HRN := hid (fun V (hV : w.heap.size ≤ V.heap.size) => rnewA_good V nd (fun h => hnd (.inl h)) (fun h => hnd (.inr h)) hV)
  clear hx hnd hd
  go_enter Tryz.func3, Tryz.ntmps3
  go_wp2_with fail
  refine HNEW.out.mono ?_
  rintro e w1 ⟨p0, m0, rfl, hat1, hb1, hp, hm⟩
  have HL1 : Hid (AcIn w.heap.size w1 p0 m0 (newAc nd)) := ⟨hat1, hp, hm⟩
  have HB1 := hid hb1
  clear hat1 hb1 hp hm
  go_wp2_with fail
  refine (HRN.out _ HB1.out.size).mono ?_
  rintro e w2 ⟨x, rfl, hra2, hb2, _⟩
  have HL2 := hid (HL1.out.below hb2)
  have HR2 := hid hra2
  have HB2 := hid (bt' HB1.out hb2)
  have HLV := hid (livesAc w2)
  clear hra2 hb2 HNEW HRN HL1
  go_wp2_with fail
  refine HLV.out.mono ?_
  rintro e w4 ⟨rfl, hb4⟩
  have HLA : Hid (Doe w p0 m0 x w4) := ⟨_, _, _, _, HL2.out.below hb4, HR2.out.below hb4, bt' HB2.out hb4⟩
  clear hb4 HLV HL2 HR2 HB2 HB1
  go_wp2
  go_loopw [7, 11, 12, 13, 14, 15, 16, 17, 18, 19, 20] (fun a i _ _ _ _ _ _ _ _ _ wr => ∃ (k p m : Nat), k ≤ N1 ∧ a = .pointer (some ⟨p, 0, none⟩) ∧ i = .int .i64 k ∧ Hid (Doe w p m x wr)) (fun _ i _ _ _ _ _ _ _ _ _ _ => N1 - (intOf i).toNat)
  case atStart => exact ⟨0, p0, m0, Nat.zero_le _, rfl, rfl, HLA⟩
  case round =>
    obtain ⟨k, p, m, hk, rfl, rfl, HR⟩ := hrel
    obtain ⟨A, ys, ro, rc, ha3, hr3, hbr⟩ := HR.out
    have HAC := hid ha3
    have HRC := hid hr3
    have HBR := hid hbr
    clear ha3 hr3 hbr HR HLA
    by_cases hlt : k < N1
    · have hlt' : (k : Int) < (N1 : Int) := by omega
      have HLT := hid hlt
      have hkx : Hid (k < xs.length) := (HN.out ▸ hlt : k < xs.length)
      have HOKX := hid (HX.out.okD hkx.out)
      have HMB := hid (msB_of HOKX.out)
      obtain ⟨bb, off, hao, hbb, d0, d1, d2, d3, d4, d5, d6, d7, d8, d9, d10, d11, d12, d13, d14⟩ := HX.out.cellsD hkx.out
      subst hao
      obtain ⟨X, hX⟩ : ∃ X, X = xs.getD k default := ⟨_, rfl⟩
      rw [← hX] at d0 d1 d2 d3 d4 d5 d6 d7 d8 d9 d10 d11 d12 d13 d14 HOKX HMB
      clear hX
      obtain ⟨kd, fr, to, ⟨br, bn⟩, sl, ⟨⟨np, tk, ct, ep, cut⟩, ao1, cap1⟩, vo, vc, vs, so, sc, seen, eo, ec, evs, ti⟩ := X
      simp only at d0 d1 d2 d3 d4 d5 d6 d7 d8 d9 d10 d11 d12 d13 d14
      obtain ⟨XN, HXN⟩ : ∃ m, Hid (cut.length = m) := ⟨_, hid rfl⟩
      obtain ⟨VN, HVN⟩ : ∃ m, Hid (vs.length = m) := ⟨_, hid rfl⟩
      obtain ⟨SN, HSN⟩ : ∃ m, Hid (seen.length = m) := ⟨_, hid rfl⟩
      obtain ⟨EN, HEN⟩ : ∃ m, Hid (evs.length = m) := ⟨_, hid rfl⟩
      rw [HXN.out] at d10
      rw [HVN.out] at d11
      rw [HSN.out] at d12
      rw [HEN.out] at d13
      have HCE : Hid (∀ V, Below w.heap.size w V → (V.cell? ⟨bb, off + k * 15, none⟩ = some (.int .i64 kd) ∧ V.cell? ⟨bb, off + k * 15 + 1, none⟩ = some (.int .i64 fr) ∧ V.cell? ⟨bb, off + k * 15 + 2, none⟩ = some (.int .i64 to) ∧ V.cell? ⟨bb, off + k * 15 + 3, none⟩ = some (.int .i64 br) ∧ V.cell? ⟨bb, off + k * 15 + 4, none⟩ = some (.int .i64 bn) ∧ V.cell? ⟨bb, off + k * 15 + 5, none⟩ = some (.int .i64 sl) ∧ V.cell? ⟨bb, off + k * 15 + 6, none⟩ = some (.bool np) ∧ V.cell? ⟨bb, off + k * 15 + 7, none⟩ = some (.string tk) ∧ V.cell? ⟨bb, off + k * 15 + 8, none⟩ = some (.string ct) ∧ V.cell? ⟨bb, off + k * 15 + 9, none⟩ = some (.int .i64 ep) ∧ V.cell? ⟨bb, off + k * 15 + 10, none⟩ = some (.slice ao1 XN cap1) ∧ V.cell? ⟨bb, off + k * 15 + 11, none⟩ = some (.slice vo VN vc) ∧ V.cell? ⟨bb, off + k * 15 + 12, none⟩ = some (.slice so SN sc) ∧ V.cell? ⟨bb, off + k * 15 + 13, none⟩ = some (.slice eo EN ec) ∧ V.cell? ⟨bb, off + k * 15 + 14, none⟩ = some (.int .i64 ti))) := fun V hV => ⟨(hV.cell (p := ⟨bb, _, none⟩) hbb).trans d0, (hV.cell (p := ⟨bb, _, none⟩) hbb).trans d1, (hV.cell (p := ⟨bb, _, none⟩) hbb).trans d2, (hV.cell (p := ⟨bb, _, none⟩) hbb).trans d3, (hV.cell (p := ⟨bb, _, none⟩) hbb).trans d4, (hV.cell (p := ⟨bb, _, none⟩) hbb).trans d5, (hV.cell (p := ⟨bb, _, none⟩) hbb).trans d6, (hV.cell (p := ⟨bb, _, none⟩) hbb).trans d7, (hV.cell (p := ⟨bb, _, none⟩) hbb).trans d8, (hV.cell (p := ⟨bb, _, none⟩) hbb).trans d9, (hV.cell (p := ⟨bb, _, none⟩) hbb).trans d10, (hV.cell (p := ⟨bb, _, none⟩) hbb).trans d11, (hV.cell (p := ⟨bb, _, none⟩) hbb).trans d12, (hV.cell (p := ⟨bb, _, none⟩) hbb).trans d13, (hV.cell (p := ⟨bb, _, none⟩) hbb).trans d14⟩
      clear d0 d1 d2 d3 d4 d5 d6 d7 d8 d9 d10 d11 d12 d13 d14
      obtain ⟨kk, nd4, fr4, r4, n4, sl4, np4, RR, ok, A', L, hOA, hOX, hwd, htk⟩ := on_both A ⟨kd, fr, to, (br, bn), sl, ⟨⟨np, tk, ct, ep, cut⟩, ao1, cap1⟩, vo, vc, vs, so, sc, seen, eo, ec, evs, ti⟩
      have HOA := hid hOA
      have HOX := hid hOX
      have HWD := hid (HAC.out.at'.would ⟨kd, fr, to, (br, bn), sl, ⟨⟨np, tk, ct, ep, cut⟩, ao1, cap1⟩, vo, vc, vs, so, sc, seen, eo, ec, evs, ti⟩ (HOKX.out.below HBR.out))
      rw [hwd, htk] at HWD
      simp only [MsM.val] at HWD
      rw [HXN.out, HVN.out, HSN.out, HEN.out] at HWD
      have hkb : k ≤ 703687441776 := by omega
      clear hlt hk hOA hOX hwd htk
      obtain ⟨c0, c1, c2, c3, c4, c5, c6, c7, c8, c9, c10, c11, c12, c13, c14⟩ := HCE.out _ HBR.out
      go_wp2_with fail
      refine HWD.out.mono ?_
      rintro e w5 ⟨rfl, hb5⟩
      have HAC5 := hid (HAC.out.below hb5)
      have HRC5 := hid (HRC.out.below hb5)
      have HBR5 := hid (bt' HBR.out hb5)
      clear hb5 HWD HAC HRC HBR c0 c1 c2 c3 c4 c5 c6 c7 c8 c9 c10 c11 c12 c13 c14
      obtain ⟨c0, c1, c2, c3, c4, c5, c6, c7, c8, c9, c10, c11, c12, c13, c14⟩ := HCE.out _ HBR5.out
      have HON := hid (HOA.out _ _ _ _ HAC5.out HBR5.out.size (HOKX.out.below HBR5.out) HMB.out)
      simp only [MsM.val] at HON
      rw [HXN.out, HVN.out, HSN.out, HEN.out] at HON
      go_wp2_with fail
      refine HON.out.mono ?_
      rintro e w6 ⟨vo1, M1, vc1, rfl, hvl, hac6, ht6⟩
      have hra6 := HRC5.out.byAc HAC5.out ht6
      have hb6 : Below w.heap.size w w6 := HBR5.out.trans (ht6.below HAC5.out.foot HBR5.out.size)
      obtain ⟨b14, hb14⟩ : ∃ q, q = w6.heap.size := ⟨_, rfl⟩
      obtain ⟨W7, hW7⟩ : ∃ V, V = w6.alloc (.cells #[.int .i64 kk, .int .i64 nd4, .int .i64 fr4, .int .i64 r4, .int .i64 n4, .int .i64 sl4, .bool np4, .string ⟨#[]⟩, .string ⟨#[]⟩, .int .i64 0, .slice none 0 0, .slice vo1 M1 vc1, .slice none 0 0, .slice none 0 0, .int .i64 0] 43) := ⟨_, rfl⟩
      have hb7 : Below w6.heap.size w6 W7 := by rw [hW7]; exact (Below.refl _ _).alloc (Nat.le_refl _) _
      have HK7 : Hid (Blk W7 b14 43 [.int .i64 kk, .int .i64 nd4, .int .i64 fr4, .int .i64 r4, .int .i64 n4, .int .i64 sl4, .bool np4, .string ⟨#[]⟩, .string ⟨#[]⟩, .int .i64 0, .slice none 0 0, .slice vo1 M1 vc1, .slice none 0 0, .slice none 0 0, .int .i64 0]) := by rw [hW7, hb14]; exact Blk.new _ _ _
      have HAC7 := hid (hac6.below hb7)
      have HRC7 := hid (hra6.below hb7)
      have HBR7 := hid (bt' hb6 hb7)
      have HVL7 := hid (hvl.below hb7)
      have HFT : Hid (∀ i, FootR x ro i → i < w5.heap.size) := HRC5.out.lt
      have HS6 : Hid (w5.heap.size ≤ b14) := by rw [hb14]; exact ht6.size
      have HW7 := hid hW7
      have HB14 := hid hb14
      clear hvl hac6 ht6 hra6 hb6 hW7 hb7 hb14 HON HAC5 HRC5 HBR5 c0 c1 c2 c3 c4 c5 c6 c7 c8 c9 c10 c11 c12 c13 c14
      obtain ⟨c0, c1, c2, c3, c4, c5, c6, c7, c8, c9, c10, c11, c12, c13, c14⟩ := HCE.out _ HBR7.out
      rw [HW7.out] at c0 c1 c2 c3 c4 c5 c6 c7 c8 c9 c10 c11 c12 c13 c14
      have HON := hid (HOX.out _ _ _ _ _ _ HRC7.out HBR7.out.size (HOKX.out.below HBR7.out) HMB.out)
      simp only [MsM.val] at HON
      rw [HXN.out, HVN.out, HSN.out, HEN.out] at HON
      go_wp2_with fail
      rw [← HW7.out, ← HB14.out]
      refine HON.out.mono ?_
      rintro e w8 ⟨vo2, M2, vc2, rfl, hvr, hto⟩
      obtain ⟨ys', ro', rc', hra8, ht8, hn8⟩ := hto
      have hac8 := HAC7.out.byRa HRC7.out ht8
      have hvr1 := HVL7.out.byRa HAC7.out HRC7.out HFT.out ht8
      have hnf : ¬ FootR x ro b14 := fun hf => by have h1 := HFT.out b14 hf; have h2 := HS6.out; omega
      have hk8 := ht8.blk HK7.out hnf
      have hb8 : Below w.heap.size w w8 := HBR7.out.trans (ht8.below (fun i hi => by
        rcases hi with hi | ⟨off, hi⟩
        · rw [hi]; exact HRC7.out.ra.bx
        · exact (ra_rowblk HRC7.out.ra i off hi).1) HBR7.out.size)
      obtain ⟨b17, hb17⟩ : ∃ q, q = w8.heap.size := ⟨_, rfl⟩
      obtain ⟨W9, hW9⟩ : ∃ V, V = w8.alloc (.cells #[.int .i64 kk, .int .i64 nd4, .int .i64 fr4, .int .i64 r4, .int .i64 n4, .int .i64 sl4, .bool np4, .string ⟨#[]⟩, .string ⟨#[]⟩, .int .i64 0, .slice none 0 0, .slice vo2 M2 vc2, .slice none 0 0, .slice none 0 0, .int .i64 0] 43) := ⟨_, rfl⟩
      have hb9 : Below w8.heap.size w8 W9 := by rw [hW9]; exact (Below.refl _ _).alloc (Nat.le_refl _) _
      have HK9 : Hid (Blk W9 b17 43 [.int .i64 kk, .int .i64 nd4, .int .i64 fr4, .int .i64 r4, .int .i64 n4, .int .i64 sl4, .bool np4, .string ⟨#[]⟩, .string ⟨#[]⟩, .int .i64 0, .slice none 0 0, .slice vo2 M2 vc2, .slice none 0 0, .slice none 0 0, .int .i64 0]) := by rw [hW9, hb17]; exact Blk.new _ _ _
      have HK9a := hid (hk8.below hb9 hk8.lt)
      have HAC9 := hid (hac8.below hb9)
      have HRC9 := hid (hra8.below hb9)
      have HBR9 := hid (bt' hb8 hb9)
      obtain rfl : M2 = M1 := hvr.len.trans hvr1.len.symm
      have HSM := hid (same_ms (kk := kk) (nd := nd4) (fr := fr4) (r := r4) (n := n4) (sl := sl4) (np := np4) (ca := vc1) (cb := vc2) (hvr1.below hb9) (hvr.below hb9))
      have HW9 := hid hW9
      have HB17 := hid hb17
      clear hvr hra8 ht8 hn8 hac8 hvr1 hnf hk8 hb8 hb17 hW9 hb9 HON HAC7 HRC7 HBR7 HVL7 HFT HS6 HK7 HOA HOX c0 c1 c2 c3 c4 c5 c6 c7 c8 c9 c10 c11 c12 c13 c14
      have HEN9 : Hid True := hid trivial
      have e0 := HK9a.out.cell (i := 0) rfl
      have e1 := HK9a.out.cell (i := 1) rfl
      have e2 := HK9a.out.cell (i := 2) rfl
      have e3 := HK9a.out.cell (i := 3) rfl
      have e4 := HK9a.out.cell (i := 4) rfl
      have e5 := HK9a.out.cell (i := 5) rfl
      have e6 := HK9a.out.cell (i := 6) rfl
      have e7 := HK9a.out.cell (i := 7) rfl
      have e8 := HK9a.out.cell (i := 8) rfl
      have e9 := HK9a.out.cell (i := 9) rfl
      have e10 := HK9a.out.cell (i := 10) rfl
      have e11 := HK9a.out.cell (i := 11) rfl
      have e12 := HK9a.out.cell (i := 12) rfl
      have e13 := HK9a.out.cell (i := 13) rfl
      have e14 := HK9a.out.cell (i := 14) rfl
      have g0 := HK9.out.cell (i := 0) rfl
      have g1 := HK9.out.cell (i := 1) rfl
      have g2 := HK9.out.cell (i := 2) rfl
      have g3 := HK9.out.cell (i := 3) rfl
      have g4 := HK9.out.cell (i := 4) rfl
      have g5 := HK9.out.cell (i := 5) rfl
      have g6 := HK9.out.cell (i := 6) rfl
      have g7 := HK9.out.cell (i := 7) rfl
      have g8 := HK9.out.cell (i := 8) rfl
      have g9 := HK9.out.cell (i := 9) rfl
      have g10 := HK9.out.cell (i := 10) rfl
      have g11 := HK9.out.cell (i := 11) rfl
      have g12 := HK9.out.cell (i := 12) rfl
      have g13 := HK9.out.cell (i := 13) rfl
      have g14 := HK9.out.cell (i := 14) rfl
      rw [HW9.out] at e0 g0 e1 g1 e2 g2 e3 g3 e4 g4 e5 g5 e6 g6 e7 g7 e8 g8 e9 g9 e10 g10 e11 g11 e12 g12 e13 g13 e14 g14
      rw [HB17.out] at g0 g1 g2 g3 g4 g5 g6 g7 g8 g9 g10 g11 g12 g13 g14
      go_wp2_with fail
      rw [← HW9.out, ← HB17.out]
      refine HSM.out.mono ?_
      rintro e wa ⟨rfl, hba⟩
      have HACa := hid (HAC9.out.below hba)
      have HRCa := hid (HRC9.out.below hba)
      have HBRa := hid (bt' HBR9.out hba)
      clear hba HSM HAC9 HRC9 HBR9 HK9 HK9a e0 g0 e1 g1 e2 g2 e3 g3 e4 g4 e5 g5 e6 g6 e7 g7 e8 g8 e9 g9 e10 g10 e11 g11 e12 g12 e13 g13 e14 g14
      by_cases hdn : (k : Int) < (DN : Int)
      · by_cases h3 : (k : Int) % 3 = 2
        · have h3b : ((k : Int) % 3 == 2) = true := beq_iff_eq.2 h3
          have HKD : Hid (k < ds.length) := by rw [HDN.out]; exact hid (by omega)
          obtain ⟨bd, offd, hbo, hcd⟩ := (HD.out.held).cellAt HKD.out
          subst hbo
          obtain ⟨S, hS⟩ : ∃ s, ds.getD k 0 = s := ⟨_, rfl⟩
          have hdc := hcd k HKD.out
          rw [hS] at hdc
          have hbd : bd < w.heap.size := lt_of_cell hdc
          have HDC : Hid (∀ V, Below w.heap.size w V → V.cell? ⟨bd, offd + k, none⟩ = some (.int .i64 S)) := fun V hV => (hV.cell (p := ⟨bd, offd + k, none⟩) hbd).trans hdc
          clear hcd hdc hS hbd
          have HFK := hid (HACa.out.fork2 HBRa.out.size)
          go_wp2_with fail
          refine HFK.out.mono ?_
          rintro e wb ⟨q, n, rfl, haob, hacb, hdis, hbb2⟩
          have HAOb := hid haob
          have HACb := hid hacb
          have HDIS := hid hdis
          have HRCb := hid (HRCa.out.below hbb2)
          have HBRb := hid (bt' HBRa.out hbb2)
          have HDO := hid (haob.drop2 2147483648)
          clear haob hacb hdis hbb2 HFK HACa HRCa HBRa
          go_wp2_with fail
          refine HDO.out.mono ?_
          rintro e wc ⟨rfl, hacc, htc⟩
          have HACc := hid (HACb.out.other htc HDIS.out HAOb.out.at'.noNum)
          have HRCc := hid (HRCb.out.byAc HAOb.out htc)
          have HBRc : Hid (Below w.heap.size w wc) := HBRb.out.trans (htc.below HAOb.out.foot HBRb.out.size)
          have HDN2 := hid (HACc.out.drop2 S)
          have hdc := HDC.out _ HBRc.out
          clear hacc htc HDO HAOb HACb HRCb HBRb HDIS
          go_wp2_with fail
          refine HDN2.out.mono ?_
          rintro e wd ⟨rfl, hacd, htd⟩
          have HACd := hid hacd
          have HRCd := hid (HRCc.out.byAc HACc.out htd)
          have HBRd : Hid (Below w.heap.size w wd) := HBRc.out.trans (htd.below HACc.out.foot HBRc.out.size)
          have HAB := hid (HRCd.out.ra.above S)
          clear hacd htd HDN2 HACc HRCc HBRc hdc
          have hdc := HDC.out _ HBRd.out
          go_wp2_with fail
          refine HAB.out.mono ?_
          rintro e we ⟨yo, yc, rfl, hown, hbe⟩
          obtain ⟨Wf, hWf⟩ : ∃ V, V = we.setCell ⟨x, 3, none⟩ (.slice yo (aboveV ys' S ys'.length).length yc) := ⟨_, rfl⟩
          have hto := HRCd.out.dropV HBRd.out.size S hown hbe hWf
          obtain ⟨ys2, ro2, rc2, hraf, htf, _⟩ := hto
          have HACf := hid (HACd.out.byRa HRCd.out htf)
          have HRCf := hid hraf
          have HBRf : Hid (Below w.heap.size w Wf) := HBRd.out.trans (htf.below (fun i hi => by
            rcases hi with hi | ⟨off, hi⟩
            · rw [hi]; exact HRCd.out.ra.bx
            · exact (ra_rowblk HRCd.out.ra i off hi).1) HBRd.out.size)
          have hblkx := HRCd.out.ra.blk.below hbe HRCd.out.ra.blk.lt
          have x3 := hblkx.cell (i := 3) rfl
          have f3 := hblkx.frozen 3
          have HWf := hid hWf
          obtain ⟨YN, HYN⟩ : ∃ n, Hid ((aboveV ys' S ys'.length).length = n) := ⟨_, hid rfl⟩
          rw [HYN.out] at HWf ⊢
          clear hown hbe hWf hraf htf hblkx hdc HAB HACd HRCd HBRd
          have HSE := hid (HACf.out.same HRCf.out)
          go_wp2_with fail
          rw [← HWf.out]
          refine HSE.out.mono ?_
          rintro e wz ⟨rfl, hbz⟩
          have HNX : Hid (Doe w q n x wz) := ⟨_, _, _, _, HACf.out.below hbz, HRCf.out.below hbz, bt' HBRf.out hbz⟩
          clear hbz
          go_wp2
          go_roundw
          case rel => exact ⟨k + 1, q, n, HLT.out, rfl, by go_num, HNX⟩
          case measure => have := HLT.out; simp [intOf]; omega
        · have h3b : ((k : Int) % 3 == 2) = false := beq_eq_false_iff_ne.2 h3
          have HSE := hid (HACa.out.same HRCa.out)
          go_wp2_with fail
          refine HSE.out.mono ?_
          rintro e wz ⟨rfl, hbz⟩
          have HNX : Hid (Doe w p m x wz) := ⟨_, _, _, _, HACa.out.below hbz, HRCa.out.below hbz, bt' HBRa.out hbz⟩
          clear hbz
          go_wp2
          go_roundw
          case rel => exact ⟨k + 1, p, m, HLT.out, rfl, by go_num, HNX⟩
          case measure => have := HLT.out; simp [intOf]; omega
      · skip
        have HSE := hid (HACa.out.same HRCa.out)
        go_wp2_with fail
        refine HSE.out.mono ?_
        rintro e wz ⟨rfl, hbz⟩
        have HNX : Hid (Doe w p m x wz) := ⟨_, _, _, _, HACa.out.below hbz, HRCa.out.below hbz, bt' HBRa.out hbz⟩
        clear hbz
        go_wp2
        go_roundw
        case rel => exact ⟨k + 1, p, m, HLT.out, rfl, by go_num, HNX⟩
        case measure => have := HLT.out; simp [intOf]; omega
    · have hlt' : ¬ (k : Int) < (N1 : Int) := by omega
      go_wp2
      go_ret
      exact ⟨rfl, HBR.out⟩
theorem acceptorDoes_walk (nd : Int) (ao : Option Addr) (cap : Nat) (xs : List MsM) (bo : Option Addr) (bcap : Nat) (ds : List Int) (w : World) (_ : -9223372036854775808 ≤ nd ∧ nd ≤ 9223372036854775807) (hx : HeldMs w ao xs) (hlx : xs.length ≤ 703687441776) (hd : HV w bo bcap ds) :
    Calls Tryz.prog 3 #[.int .i64 nd, .slice ao xs.length cap, .slice bo ds.length bcap] w fun e w' => e = .returned (.bool true) ∧ Below w.heap.size w w' := by
  by_cases h : nd < 0 ∨ 7 ≤ nd
  · exact does_bad nd ao bo xs.length cap ds.length bcap w h
  · exact does_good nd ao cap xs bo bcap ds w hx hlx hd h
end Go.Proofs.YtfmnbehopdmahaaGreat
