/-
  pannierlaw01.CodecCuts answers true for whatever message, event, seal and number.
-/
import Derived.Test.YtmpkbdhihdboiaaCuO
namespace Go.Proofs.Ytmpkbdhihdboiaa
open Go.RowKit Go.Maps

set_option maxRecDepth 1000000 in
set_option maxHeartbeats 16000000 in
theorem codecCuts_walk (x : MsM) (y : EvM) (z : SlM) (lim : Int) (w : World) (hx : MsOk w x) (hy : EvOk w y) (hz : SlOk w z) (hlim : -9223372036854775808 ≤ lim ∧ lim ≤ 9223372036854775807) :
    Calls Try.prog 3 #[x.val, y.val, z.val, .int .i64 lim] w fun e w' => e = .returned (.bool true) ∧ Below w.heap.size w w' := by
  obtain ⟨kd, fr, tt, ⟨br, bn⟩, sl, ⟨⟨np, tk, ct, ep, cut⟩, a, c⟩, va, vc, vs, sa, sc, seen, ea, ec, evs, ti⟩ := x
  obtain ⟨⟨xo, xs, xd, xc, xe, xk, xq, xl⟩, xa, xp⟩ := y
  obtain ⟨⟨zt, zc, ze, zd⟩, za, zp⟩ := z
  obtain ⟨XN, HXN⟩ : ∃ m, Hid (cut.length = m) := ⟨_, hid rfl⟩
  obtain ⟨VN, HVN⟩ : ∃ m, Hid (vs.length = m) := ⟨_, hid rfl⟩
  obtain ⟨SN, HSN⟩ : ∃ m, Hid (seen.length = m) := ⟨_, hid rfl⟩
  obtain ⟨EN, HEN⟩ : ∃ m, Hid (evs.length = m) := ⟨_, hid rfl⟩
  obtain ⟨XD, HXD⟩ : ∃ m, Hid (xd.length = m) := ⟨_, hid rfl⟩
  obtain ⟨ZD, HZD⟩ : ∃ m, Hid (zd.length = m) := ⟨_, hid rfl⟩
  have HVM : Hid (MsM.val ⟨kd, fr, tt, (br, bn), sl, ⟨⟨np, tk, ct, ep, cut⟩, a, c⟩, va, vc, vs, sa, sc, seen, ea, ec, evs, ti⟩ = .agg #[.int .i64 kd, .int .i64 fr, .int .i64 tt, .int .i64 br, .int .i64 bn, .int .i64 sl, .bool np, .string tk, .string ct, .int .i64 ep, .slice a XN c, .slice va VN vc, .slice sa SN sc, .slice ea EN ec, .int .i64 ti]) := by show _ = _; simp only [MsM.val]; rw [HXN.out, HVN.out, HSN.out, HEN.out]
  have HVE : Hid (EvM.val ⟨⟨xo, xs, xd, xc, xe, xk, xq, xl⟩, xa, xp⟩ = .agg #[.int .i64 xo, .int .i64 xs, .slice xa XD xp, .string xc, .int .i64 xe, .string xk, .int .i64 xq, .bool xl]) := by show Value.agg #[.int .i64 xo, .int .i64 xs, .slice xa xd.length xp, .string xc, .int .i64 xe, .string xk, .int .i64 xq, .bool xl] = _; rw [HXD.out]
  have HVS : Hid (SlM.val ⟨⟨zt, zc, ze, zd⟩, za, zp⟩ = .agg #[.string zt, .string zc, .int .i64 ze, .slice za ZD zp]) := by show Value.agg #[.string zt, .string zc, .int .i64 ze, .slice za zd.length zp] = _; rw [HZD.out]
  obtain ⟨W1, hW1⟩ : ∃ V, V = w.alloc (.cells #[.int .i64 kd, .int .i64 fr, .int .i64 tt, .int .i64 br, .int .i64 bn, .int .i64 sl, .bool np, .string tk, .string ct, .int .i64 ep, .slice a XN c, .slice va VN vc, .slice sa SN sc, .slice ea EN ec, .int .i64 ti] 32) := ⟨_, rfl⟩
  obtain ⟨W2, hW2⟩ : ∃ V, V = W1.alloc (.cells #[.int .i64 xo, .int .i64 xs, .slice xa XD xp, .string xc, .int .i64 xe, .string xk, .int .i64 xq, .bool xl] 36) := ⟨_, rfl⟩
  obtain ⟨W, hW⟩ : ∃ V, V = W2.alloc (.cells #[.string zt, .string zc, .int .i64 ze, .slice za ZD zp] 26) := ⟨_, rfl⟩
  have s1 : W1.heap.size = w.heap.size + 1 := by rw [hW1]; simp
  have s2 : W2.heap.size = w.heap.size + 1 + 1 := by rw [hW2]; simp [s1]
  have hb1 : Below w.heap.size w W1 := by rw [hW1]; exact (Below.refl _ _).alloc (Nat.le_refl _) _
  have hb2 : Below w.heap.size w W2 := by rw [hW2]; exact hb1.alloc hb1.size _
  have HB : Hid (Below w.heap.size w W) := by rw [hW]; exact hb2.alloc hb2.size _
  obtain ⟨bm, hbm⟩ : ∃ q, q = w.heap.size := ⟨_, rfl⟩
  obtain ⟨bx, hbx⟩ : ∃ q, q = w.heap.size + 1 := ⟨_, rfl⟩
  obtain ⟨bs, hbs⟩ : ∃ q, q = w.heap.size + 1 + 1 := ⟨_, rfl⟩
  have HKM : Hid (Blk W bm 32 [.int .i64 kd, .int .i64 fr, .int .i64 tt, .int .i64 br, .int .i64 bn, .int .i64 sl, .bool np, .string tk, .string ct, .int .i64 ep, .slice a XN c, .slice va VN vc, .slice sa SN sc, .slice ea EN ec, .int .i64 ti]) := by rw [hW, hW2, hW1, hbm]; exact ((Blk.new w _ _).alloc _).alloc _
  have HKX : Hid (Blk W bx 36 [.int .i64 xo, .int .i64 xs, .slice xa XD xp, .string xc, .int .i64 xe, .string xk, .int .i64 xq, .bool xl]) := by rw [hW, hW2, hbx, ← s1]; exact (Blk.new W1 _ _).alloc _
  have HKS : Hid (Blk W bs 26 [.string zt, .string zc, .int .i64 ze, .slice za ZD zp]) := by rw [hW, hbs, ← s2]; exact Blk.new W2 _ _
  have HCL : Hid (∀ V, Below W.heap.size W V → (V.cell? ⟨bm, 0, none⟩ = some (.int .i64 kd) ∧ V.cell? ⟨bm, 1, none⟩ = some (.int .i64 fr) ∧ V.cell? ⟨bm, 2, none⟩ = some (.int .i64 tt) ∧ V.cell? ⟨bm, 3, none⟩ = some (.int .i64 br) ∧ V.cell? ⟨bm, 4, none⟩ = some (.int .i64 bn) ∧ V.cell? ⟨bm, 5, none⟩ = some (.int .i64 sl) ∧ V.cell? ⟨bm, 6, none⟩ = some (.bool np) ∧ V.cell? ⟨bm, 7, none⟩ = some (.string tk) ∧ V.cell? ⟨bm, 8, none⟩ = some (.string ct) ∧ V.cell? ⟨bm, 9, none⟩ = some (.int .i64 ep) ∧ V.cell? ⟨bm, 10, none⟩ = some (.slice a XN c) ∧ V.cell? ⟨bm, 11, none⟩ = some (.slice va VN vc) ∧ V.cell? ⟨bm, 12, none⟩ = some (.slice sa SN sc) ∧ V.cell? ⟨bm, 13, none⟩ = some (.slice ea EN ec) ∧ V.cell? ⟨bm, 14, none⟩ = some (.int .i64 ti) ∧ V.cell? ⟨bx, 0, none⟩ = some (.int .i64 xo) ∧ V.cell? ⟨bx, 1, none⟩ = some (.int .i64 xs) ∧ V.cell? ⟨bx, 2, none⟩ = some (.slice xa XD xp) ∧ V.cell? ⟨bx, 3, none⟩ = some (.string xc) ∧ V.cell? ⟨bx, 4, none⟩ = some (.int .i64 xe) ∧ V.cell? ⟨bx, 5, none⟩ = some (.string xk) ∧ V.cell? ⟨bx, 6, none⟩ = some (.int .i64 xq) ∧ V.cell? ⟨bx, 7, none⟩ = some (.bool xl) ∧ V.cell? ⟨bs, 0, none⟩ = some (.string zt) ∧ V.cell? ⟨bs, 1, none⟩ = some (.string zc) ∧ V.cell? ⟨bs, 2, none⟩ = some (.int .i64 ze) ∧ V.cell? ⟨bs, 3, none⟩ = some (.slice za ZD zp))) := fun V hV => by
    have h1 := HKM.out.below hV HKM.out.lt
    have h2 := HKX.out.below hV HKX.out.lt
    have h3 := HKS.out.below hV HKS.out.lt
    exact ⟨h1.cell rfl, h1.cell rfl, h1.cell rfl, h1.cell rfl, h1.cell rfl, h1.cell rfl, h1.cell rfl, h1.cell rfl, h1.cell rfl, h1.cell rfl, h1.cell rfl, h1.cell rfl, h1.cell rfl, h1.cell rfl, h1.cell rfl, h2.cell rfl, h2.cell rfl, h2.cell rfl, h2.cell rfl, h2.cell rfl, h2.cell rfl, h2.cell rfl, h2.cell rfl, h3.cell rfl, h3.cell rfl, h3.cell rfl, h3.cell rfl⟩
  have HXO := hid (hx.below HB.out)
  have HYO := hid (hy.below HB.out)
  have HZO := hid (hz.below HB.out)
  have HWM := hid (msgW W ⟨kd, fr, tt, (br, bn), sl, ⟨⟨np, tk, ct, ep, cut⟩, a, c⟩, va, vc, vs, sa, sc, seen, ea, ec, evs, ti⟩ HXO.out)
  have HWE := hid (fun V (hV : Below W.heap.size W V) => eventW V ⟨⟨xo, xs, xd, xc, xe, xk, xq, xl⟩, xa, xp⟩ (HYO.out.below hV))
  have HWS := hid (fun V (hV : Below W.heap.size W V) => sealW V ⟨⟨zt, zc, ze, zd⟩, za, zp⟩ (HZO.out.below hV))
  have HM := hid (fun V (hV : Below W.heap.size W V) => rmsgQ V ⟨kd, fr, tt, (br, bn), sl, ⟨⟨np, tk, ct, ep, cut⟩, a, c⟩, va, vc, vs, sa, sc, seen, ea, ec, evs, ti⟩ (HXO.out.below hV))
  have HE := hid (fun V (hV : Below W.heap.size W V) => reventQ V ⟨⟨xo, xs, xd, xc, xe, xk, xq, xl⟩, xa, xp⟩ (HYO.out.below hV))
  have HS := hid (fun V (hV : Below W.heap.size W V) => rseal_any V ⟨⟨zt, zc, ze, zd⟩, za, zp⟩ (HZO.out.below hV))
  rw [HVM.out] at HWM HM
  rw [HVE.out] at HWE HE
  rw [HVS.out] at HWS HS
  rw [HVM.out, HVE.out, HVS.out]
  obtain ⟨R1, HR1⟩ : ∃ b, Hid (RightMs ⟨kd, fr, tt, (br, bn), sl, ⟨⟨np, tk, ct, ep, cut⟩, a, c⟩, va, vc, vs, sa, sc, seen, ea, ec, evs, ti⟩ = b) := ⟨_, hid rfl⟩
  obtain ⟨R2, HR2⟩ : ∃ b, Hid (RightEvC ⟨xo, xs, xd, xc, xe, xk, xq, xl⟩ = b) := ⟨_, hid rfl⟩
  obtain ⟨R3, HR3⟩ : ∃ b, Hid (RightSl ⟨zt, zc, ze, zd⟩ = b) := ⟨_, hid rfl⟩
  simp only at HWE HE HWS HS
  rw [HR1.out] at HWM HM
  rw [HR2.out] at HWE HE
  rw [HR3.out] at HWS HS
  have HW : Hid (W = ((w.alloc (.cells #[.int .i64 kd, .int .i64 fr, .int .i64 tt, .int .i64 br, .int .i64 bn, .int .i64 sl, .bool np, .string tk, .string ct, .int .i64 ep, .slice a XN c, .slice va VN vc, .slice sa SN sc, .slice ea EN ec, .int .i64 ti] 32)).alloc (.cells #[.int .i64 xo, .int .i64 xs, .slice xa XD xp, .string xc, .int .i64 xe, .string xk, .int .i64 xq, .bool xl] 36)).alloc (.cells #[.string zt, .string zc, .int .i64 ze, .slice za ZD zp] 26)) := by show _ = _; rw [hW, hW2, hW1]
  have HBM := hid hbm
  have HBX := hid hbx
  have HBS := hid hbs
  have HLIM := hid hlim
  clear hW hW1 hW2 s1 s2 hb1 hb2 hbm hbx hbs hx hy hz hlim
  obtain ⟨c0, c1, c2, c3, c4, c5, c6, c7, c8, c9, c10, c11, c12, c13, c14, c15, c16, c17, c18, c19, c20, c21, c22, c23, c24, c25, c26⟩ := HCL.out W (Below.refl _ _)
  rw [HW.out] at c0 c1 c2 c3 c4 c5 c6 c7 c8 c9 c10 c11 c12 c13 c14 c15 c16 c17 c18 c19 c20 c21 c22 c23 c24 c25 c26
  rw [HBM.out] at c0 c1 c2 c3 c4 c5 c6 c7 c8 c9 c10 c11 c12 c13 c14
  rw [HBX.out] at c15 c16 c17 c18 c19 c20 c21 c22
  rw [HBS.out] at c23 c24 c25 c26
  go_enter Try.func3, Try.ntmps3
  go_wp2_with fail
  rw [← HW.out, ← HBS.out, ← HBX.out, ← HBM.out]
  refine HWM.out.mono ?_
  rintro e w1 ⟨aA, LA, cA, e1, rfl, hw1, hb1⟩
  have HW1 := hid hw1
  have HQ1 := hid hb1
  clear hw1 hb1 c0 c1 c2 c3 c4 c5 c6 c7 c8 c9 c10 c11 c12 c13 c14 c15 c16 c17 c18 c19 c20 c21 c22 c23 c24 c25 c26 HWM
  obtain ⟨c0, c1, c2, c3, c4, c5, c6, c7, c8, c9, c10, c11, c12, c13, c14, c15, c16, c17, c18, c19, c20, c21, c22, c23, c24, c25, c26⟩ := HCL.out _ HQ1.out
  go_wp2_with fail
  refine (HWE.out _ HQ1.out).mono ?_
  rintro e w2 ⟨aX, LX, cX, e2, rfl, hw2, hn2, hb2⟩
  have HW2 := hid hw2
  have HN2 := hid hn2
  have HG2 := hid hb2
  have HQ2 := hid (bt' HQ1.out hb2)
  clear hw2 hn2 hb2 c0 c1 c2 c3 c4 c5 c6 c7 c8 c9 c10 c11 c12 c13 c14 c15 c16 c17 c18 c19 c20 c21 c22 c23 c24 c25 c26 HWE
  obtain ⟨c0, c1, c2, c3, c4, c5, c6, c7, c8, c9, c10, c11, c12, c13, c14, c15, c16, c17, c18, c19, c20, c21, c22, c23, c24, c25, c26⟩ := HCL.out _ HQ2.out
  go_wp2_with fail
  refine (HWS.out _ HQ2.out).mono ?_
  rintro e w3 ⟨aS, LS, cS, e3, rfl, hw3, hn3, hb3⟩
  have HW3 := hid hw3
  have HN3 := hid hn3
  have HG3 := hid hb3
  have HQ3 := hid (bt' HQ2.out hb3)
  clear hw3 hn3 hb3 c0 c1 c2 c3 c4 c5 c6 c7 c8 c9 c10 c11 c12 c13 c14 c15 c16 c17 c18 c19 c20 c21 c22 c23 c24 c25 c26 HWS
  go_wp2_with fail
  refine (lives_any _).mono ?_
  rintro e w4 ⟨rfl, hb4⟩
  have HG4 := hid hb4
  have HQ4 := hid (bt' HQ3.out hb4)
  clear hb4
  rcases HW1.out with ⟨rfl, rfl⟩ | ⟨rfl, rfl⟩ | ⟨rfl, rfl, hm⟩
  · rcases HW2.out with ⟨rfl, rfl⟩ | ⟨_, h3⟩ | ⟨rfl, rfl, he⟩
    · rcases HW3.out with ⟨rfl, rfl⟩ | ⟨_, h3⟩ | ⟨rfl, rfl, hs⟩
      · obtain ⟨c0, c1, c2, c3, c4, c5, c6, c7, c8, c9, c10, c11, c12, c13, c14, c15, c16, c17, c18, c19, c20, c21, c22, c23, c24, c25, c26⟩ := HCL.out _ HQ4.out
        go_wp2_with fail
        refine (HM.out _ HQ4.out).mono ?_
        rintro e y1 ⟨rfl, hy1⟩
        have HY1 := hid (bt' HQ4.out hy1)
        clear hy1 c0 c1 c2 c3 c4 c5 c6 c7 c8 c9 c10 c11 c12 c13 c14 c15 c16 c17 c18 c19 c20 c21 c22 c23 c24 c25 c26
        obtain ⟨c0, c1, c2, c3, c4, c5, c6, c7, c8, c9, c10, c11, c12, c13, c14, c15, c16, c17, c18, c19, c20, c21, c22, c23, c24, c25, c26⟩ := HCL.out _ HY1.out
        go_wp2_with fail
        refine (HE.out _ HY1.out).mono ?_
        rintro e y2 ⟨rfl, hy2⟩
        have HY2 := hid (bt' HY1.out hy2)
        clear hy2 c0 c1 c2 c3 c4 c5 c6 c7 c8 c9 c10 c11 c12 c13 c14 c15 c16 c17 c18 c19 c20 c21 c22 c23 c24 c25 c26
        obtain ⟨c0, c1, c2, c3, c4, c5, c6, c7, c8, c9, c10, c11, c12, c13, c14, c15, c16, c17, c18, c19, c20, c21, c22, c23, c24, c25, c26⟩ := HCL.out _ HY2.out
        go_wp2_with fail
        refine (HS.out _ HY2.out).mono ?_
        rintro e y3 ⟨rfl, hy3⟩
        have HFB : Hid (Below w.heap.size w y3) := HB.out.trans ((bt' HY2.out hy3).mono HB.out.size)
        clear hy3 c0 c1 c2 c3 c4 c5 c6 c7 c8 c9 c10 c11 c12 c13 c14 c15 c16 c17 c18 c19 c20 c21 c22 c23 c24 c25 c26
        go_wp2
        go_ret
        exact ⟨rfl, HFB.out⟩
      · exact absurd h3 HN3.out
      · obtain ⟨c0, c1, c2, c3, c4, c5, c6, c7, c8, c9, c10, c11, c12, c13, c14, c15, c16, c17, c18, c19, c20, c21, c22, c23, c24, c25, c26⟩ := HCL.out _ HQ4.out
        go_wp2_with fail
        refine (HM.out _ HQ4.out).mono ?_
        rintro e y1 ⟨rfl, hy1⟩
        have HY1 := hid (bt' HQ4.out hy1)
        clear hy1 c0 c1 c2 c3 c4 c5 c6 c7 c8 c9 c10 c11 c12 c13 c14 c15 c16 c17 c18 c19 c20 c21 c22 c23 c24 c25 c26
        obtain ⟨c0, c1, c2, c3, c4, c5, c6, c7, c8, c9, c10, c11, c12, c13, c14, c15, c16, c17, c18, c19, c20, c21, c22, c23, c24, c25, c26⟩ := HCL.out _ HY1.out
        go_wp2_with fail
        refine (HE.out _ HY1.out).mono ?_
        rintro e y2 ⟨rfl, hy2⟩
        have HY2 := hid (bt' HY1.out hy2)
        clear hy2 c0 c1 c2 c3 c4 c5 c6 c7 c8 c9 c10 c11 c12 c13 c14 c15 c16 c17 c18 c19 c20 c21 c22 c23 c24 c25 c26
        obtain ⟨c0, c1, c2, c3, c4, c5, c6, c7, c8, c9, c10, c11, c12, c13, c14, c15, c16, c17, c18, c19, c20, c21, c22, c23, c24, c25, c26⟩ := HCL.out _ HY2.out
        go_wp2_with fail
        refine (HS.out _ HY2.out).mono ?_
        rintro e y3 ⟨rfl, hy3⟩
        have HFB : Hid (Below w.heap.size w y3) := HB.out.trans ((bt' HY2.out hy3).mono HB.out.size)
        clear hy3 c0 c1 c2 c3 c4 c5 c6 c7 c8 c9 c10 c11 c12 c13 c14 c15 c16 c17 c18 c19 c20 c21 c22 c23 c24 c25 c26
        go_wp2
        go_ret
        exact ⟨rfl, HFB.out⟩
    · exact absurd h3 HN2.out
    · rcases HW3.out with ⟨rfl, rfl⟩ | ⟨_, h3⟩ | ⟨rfl, rfl, hs⟩
      · obtain ⟨c0, c1, c2, c3, c4, c5, c6, c7, c8, c9, c10, c11, c12, c13, c14, c15, c16, c17, c18, c19, c20, c21, c22, c23, c24, c25, c26⟩ := HCL.out _ HQ4.out
        go_wp2_with fail
        refine (HM.out _ HQ4.out).mono ?_
        rintro e y1 ⟨rfl, hy1⟩
        have HY1 := hid (bt' HQ4.out hy1)
        clear hy1 c0 c1 c2 c3 c4 c5 c6 c7 c8 c9 c10 c11 c12 c13 c14 c15 c16 c17 c18 c19 c20 c21 c22 c23 c24 c25 c26
        obtain ⟨c0, c1, c2, c3, c4, c5, c6, c7, c8, c9, c10, c11, c12, c13, c14, c15, c16, c17, c18, c19, c20, c21, c22, c23, c24, c25, c26⟩ := HCL.out _ HY1.out
        go_wp2_with fail
        refine (HE.out _ HY1.out).mono ?_
        rintro e y2 ⟨rfl, hy2⟩
        have HY2 := hid (bt' HY1.out hy2)
        clear hy2 c0 c1 c2 c3 c4 c5 c6 c7 c8 c9 c10 c11 c12 c13 c14 c15 c16 c17 c18 c19 c20 c21 c22 c23 c24 c25 c26
        obtain ⟨c0, c1, c2, c3, c4, c5, c6, c7, c8, c9, c10, c11, c12, c13, c14, c15, c16, c17, c18, c19, c20, c21, c22, c23, c24, c25, c26⟩ := HCL.out _ HY2.out
        go_wp2_with fail
        refine (HS.out _ HY2.out).mono ?_
        rintro e y3 ⟨rfl, hy3⟩
        have HFB : Hid (Below w.heap.size w y3) := HB.out.trans ((bt' HY2.out hy3).mono HB.out.size)
        clear hy3 c0 c1 c2 c3 c4 c5 c6 c7 c8 c9 c10 c11 c12 c13 c14 c15 c16 c17 c18 c19 c20 c21 c22 c23 c24 c25 c26
        go_wp2
        go_ret
        exact ⟨rfl, HFB.out⟩
      · exact absurd h3 HN3.out
      · obtain ⟨c0, c1, c2, c3, c4, c5, c6, c7, c8, c9, c10, c11, c12, c13, c14, c15, c16, c17, c18, c19, c20, c21, c22, c23, c24, c25, c26⟩ := HCL.out _ HQ4.out
        go_wp2_with fail
        refine (HM.out _ HQ4.out).mono ?_
        rintro e y1 ⟨rfl, hy1⟩
        have HY1 := hid (bt' HQ4.out hy1)
        clear hy1 c0 c1 c2 c3 c4 c5 c6 c7 c8 c9 c10 c11 c12 c13 c14 c15 c16 c17 c18 c19 c20 c21 c22 c23 c24 c25 c26
        obtain ⟨c0, c1, c2, c3, c4, c5, c6, c7, c8, c9, c10, c11, c12, c13, c14, c15, c16, c17, c18, c19, c20, c21, c22, c23, c24, c25, c26⟩ := HCL.out _ HY1.out
        go_wp2_with fail
        refine (HE.out _ HY1.out).mono ?_
        rintro e y2 ⟨rfl, hy2⟩
        have HY2 := hid (bt' HY1.out hy2)
        clear hy2 c0 c1 c2 c3 c4 c5 c6 c7 c8 c9 c10 c11 c12 c13 c14 c15 c16 c17 c18 c19 c20 c21 c22 c23 c24 c25 c26
        obtain ⟨c0, c1, c2, c3, c4, c5, c6, c7, c8, c9, c10, c11, c12, c13, c14, c15, c16, c17, c18, c19, c20, c21, c22, c23, c24, c25, c26⟩ := HCL.out _ HY2.out
        go_wp2_with fail
        refine (HS.out _ HY2.out).mono ?_
        rintro e y3 ⟨rfl, hy3⟩
        have HFB : Hid (Below w.heap.size w y3) := HB.out.trans ((bt' HY2.out hy3).mono HB.out.size)
        clear hy3 c0 c1 c2 c3 c4 c5 c6 c7 c8 c9 c10 c11 c12 c13 c14 c15 c16 c17 c18 c19 c20 c21 c22 c23 c24 c25 c26
        go_wp2
        go_ret
        exact ⟨rfl, HFB.out⟩
  · rcases HW2.out with ⟨rfl, rfl⟩ | ⟨_, h3⟩ | ⟨rfl, rfl, he⟩
    · rcases HW3.out with ⟨rfl, rfl⟩ | ⟨_, h3⟩ | ⟨rfl, rfl, hs⟩
      · obtain ⟨c0, c1, c2, c3, c4, c5, c6, c7, c8, c9, c10, c11, c12, c13, c14, c15, c16, c17, c18, c19, c20, c21, c22, c23, c24, c25, c26⟩ := HCL.out _ HQ4.out
        go_wp2_with fail
        refine (HM.out _ HQ4.out).mono ?_
        rintro e y1 ⟨rfl, hy1⟩
        have HY1 := hid (bt' HQ4.out hy1)
        clear hy1 c0 c1 c2 c3 c4 c5 c6 c7 c8 c9 c10 c11 c12 c13 c14 c15 c16 c17 c18 c19 c20 c21 c22 c23 c24 c25 c26
        obtain ⟨c0, c1, c2, c3, c4, c5, c6, c7, c8, c9, c10, c11, c12, c13, c14, c15, c16, c17, c18, c19, c20, c21, c22, c23, c24, c25, c26⟩ := HCL.out _ HY1.out
        go_wp2_with fail
        refine (HE.out _ HY1.out).mono ?_
        rintro e y2 ⟨rfl, hy2⟩
        have HY2 := hid (bt' HY1.out hy2)
        clear hy2 c0 c1 c2 c3 c4 c5 c6 c7 c8 c9 c10 c11 c12 c13 c14 c15 c16 c17 c18 c19 c20 c21 c22 c23 c24 c25 c26
        obtain ⟨c0, c1, c2, c3, c4, c5, c6, c7, c8, c9, c10, c11, c12, c13, c14, c15, c16, c17, c18, c19, c20, c21, c22, c23, c24, c25, c26⟩ := HCL.out _ HY2.out
        go_wp2_with fail
        refine (HS.out _ HY2.out).mono ?_
        rintro e y3 ⟨rfl, hy3⟩
        have HFB : Hid (Below w.heap.size w y3) := HB.out.trans ((bt' HY2.out hy3).mono HB.out.size)
        clear hy3 c0 c1 c2 c3 c4 c5 c6 c7 c8 c9 c10 c11 c12 c13 c14 c15 c16 c17 c18 c19 c20 c21 c22 c23 c24 c25 c26
        go_wp2
        go_ret
        exact ⟨rfl, HFB.out⟩
      · exact absurd h3 HN3.out
      · obtain ⟨c0, c1, c2, c3, c4, c5, c6, c7, c8, c9, c10, c11, c12, c13, c14, c15, c16, c17, c18, c19, c20, c21, c22, c23, c24, c25, c26⟩ := HCL.out _ HQ4.out
        go_wp2_with fail
        refine (HM.out _ HQ4.out).mono ?_
        rintro e y1 ⟨rfl, hy1⟩
        have HY1 := hid (bt' HQ4.out hy1)
        clear hy1 c0 c1 c2 c3 c4 c5 c6 c7 c8 c9 c10 c11 c12 c13 c14 c15 c16 c17 c18 c19 c20 c21 c22 c23 c24 c25 c26
        obtain ⟨c0, c1, c2, c3, c4, c5, c6, c7, c8, c9, c10, c11, c12, c13, c14, c15, c16, c17, c18, c19, c20, c21, c22, c23, c24, c25, c26⟩ := HCL.out _ HY1.out
        go_wp2_with fail
        refine (HE.out _ HY1.out).mono ?_
        rintro e y2 ⟨rfl, hy2⟩
        have HY2 := hid (bt' HY1.out hy2)
        clear hy2 c0 c1 c2 c3 c4 c5 c6 c7 c8 c9 c10 c11 c12 c13 c14 c15 c16 c17 c18 c19 c20 c21 c22 c23 c24 c25 c26
        obtain ⟨c0, c1, c2, c3, c4, c5, c6, c7, c8, c9, c10, c11, c12, c13, c14, c15, c16, c17, c18, c19, c20, c21, c22, c23, c24, c25, c26⟩ := HCL.out _ HY2.out
        go_wp2_with fail
        refine (HS.out _ HY2.out).mono ?_
        rintro e y3 ⟨rfl, hy3⟩
        have HFB : Hid (Below w.heap.size w y3) := HB.out.trans ((bt' HY2.out hy3).mono HB.out.size)
        clear hy3 c0 c1 c2 c3 c4 c5 c6 c7 c8 c9 c10 c11 c12 c13 c14 c15 c16 c17 c18 c19 c20 c21 c22 c23 c24 c25 c26
        go_wp2
        go_ret
        exact ⟨rfl, HFB.out⟩
    · exact absurd h3 HN2.out
    · rcases HW3.out with ⟨rfl, rfl⟩ | ⟨_, h3⟩ | ⟨rfl, rfl, hs⟩
      · obtain ⟨c0, c1, c2, c3, c4, c5, c6, c7, c8, c9, c10, c11, c12, c13, c14, c15, c16, c17, c18, c19, c20, c21, c22, c23, c24, c25, c26⟩ := HCL.out _ HQ4.out
        go_wp2_with fail
        refine (HM.out _ HQ4.out).mono ?_
        rintro e y1 ⟨rfl, hy1⟩
        have HY1 := hid (bt' HQ4.out hy1)
        clear hy1 c0 c1 c2 c3 c4 c5 c6 c7 c8 c9 c10 c11 c12 c13 c14 c15 c16 c17 c18 c19 c20 c21 c22 c23 c24 c25 c26
        obtain ⟨c0, c1, c2, c3, c4, c5, c6, c7, c8, c9, c10, c11, c12, c13, c14, c15, c16, c17, c18, c19, c20, c21, c22, c23, c24, c25, c26⟩ := HCL.out _ HY1.out
        go_wp2_with fail
        refine (HE.out _ HY1.out).mono ?_
        rintro e y2 ⟨rfl, hy2⟩
        have HY2 := hid (bt' HY1.out hy2)
        clear hy2 c0 c1 c2 c3 c4 c5 c6 c7 c8 c9 c10 c11 c12 c13 c14 c15 c16 c17 c18 c19 c20 c21 c22 c23 c24 c25 c26
        obtain ⟨c0, c1, c2, c3, c4, c5, c6, c7, c8, c9, c10, c11, c12, c13, c14, c15, c16, c17, c18, c19, c20, c21, c22, c23, c24, c25, c26⟩ := HCL.out _ HY2.out
        go_wp2_with fail
        refine (HS.out _ HY2.out).mono ?_
        rintro e y3 ⟨rfl, hy3⟩
        have HFB : Hid (Below w.heap.size w y3) := HB.out.trans ((bt' HY2.out hy3).mono HB.out.size)
        clear hy3 c0 c1 c2 c3 c4 c5 c6 c7 c8 c9 c10 c11 c12 c13 c14 c15 c16 c17 c18 c19 c20 c21 c22 c23 c24 c25 c26
        go_wp2
        go_ret
        exact ⟨rfl, HFB.out⟩
      · exact absurd h3 HN3.out
      · obtain ⟨c0, c1, c2, c3, c4, c5, c6, c7, c8, c9, c10, c11, c12, c13, c14, c15, c16, c17, c18, c19, c20, c21, c22, c23, c24, c25, c26⟩ := HCL.out _ HQ4.out
        go_wp2_with fail
        refine (HM.out _ HQ4.out).mono ?_
        rintro e y1 ⟨rfl, hy1⟩
        have HY1 := hid (bt' HQ4.out hy1)
        clear hy1 c0 c1 c2 c3 c4 c5 c6 c7 c8 c9 c10 c11 c12 c13 c14 c15 c16 c17 c18 c19 c20 c21 c22 c23 c24 c25 c26
        obtain ⟨c0, c1, c2, c3, c4, c5, c6, c7, c8, c9, c10, c11, c12, c13, c14, c15, c16, c17, c18, c19, c20, c21, c22, c23, c24, c25, c26⟩ := HCL.out _ HY1.out
        go_wp2_with fail
        refine (HE.out _ HY1.out).mono ?_
        rintro e y2 ⟨rfl, hy2⟩
        have HY2 := hid (bt' HY1.out hy2)
        clear hy2 c0 c1 c2 c3 c4 c5 c6 c7 c8 c9 c10 c11 c12 c13 c14 c15 c16 c17 c18 c19 c20 c21 c22 c23 c24 c25 c26
        obtain ⟨c0, c1, c2, c3, c4, c5, c6, c7, c8, c9, c10, c11, c12, c13, c14, c15, c16, c17, c18, c19, c20, c21, c22, c23, c24, c25, c26⟩ := HCL.out _ HY2.out
        go_wp2_with fail
        refine (HS.out _ HY2.out).mono ?_
        rintro e y3 ⟨rfl, hy3⟩
        have HFB : Hid (Below w.heap.size w y3) := HB.out.trans ((bt' HY2.out hy3).mono HB.out.size)
        clear hy3 c0 c1 c2 c3 c4 c5 c6 c7 c8 c9 c10 c11 c12 c13 c14 c15 c16 c17 c18 c19 c20 c21 c22 c23 c24 c25 c26
        go_wp2
        go_ret
        exact ⟨rfl, HFB.out⟩
  · rcases HW2.out with ⟨rfl, rfl⟩ | ⟨_, h3⟩ | ⟨rfl, rfl, he⟩
    · rcases HW3.out with ⟨rfl, rfl⟩ | ⟨_, h3⟩ | ⟨rfl, rfl, hs⟩
      · obtain ⟨c0, c1, c2, c3, c4, c5, c6, c7, c8, c9, c10, c11, c12, c13, c14, c15, c16, c17, c18, c19, c20, c21, c22, c23, c24, c25, c26⟩ := HCL.out _ HQ4.out
        go_wp2_with fail
        refine (HM.out _ HQ4.out).mono ?_
        rintro e y1 ⟨rfl, hy1⟩
        have HY1 := hid (bt' HQ4.out hy1)
        clear hy1 c0 c1 c2 c3 c4 c5 c6 c7 c8 c9 c10 c11 c12 c13 c14 c15 c16 c17 c18 c19 c20 c21 c22 c23 c24 c25 c26
        obtain ⟨c0, c1, c2, c3, c4, c5, c6, c7, c8, c9, c10, c11, c12, c13, c14, c15, c16, c17, c18, c19, c20, c21, c22, c23, c24, c25, c26⟩ := HCL.out _ HY1.out
        go_wp2_with fail
        refine (HE.out _ HY1.out).mono ?_
        rintro e y2 ⟨rfl, hy2⟩
        have HY2 := hid (bt' HY1.out hy2)
        clear hy2 c0 c1 c2 c3 c4 c5 c6 c7 c8 c9 c10 c11 c12 c13 c14 c15 c16 c17 c18 c19 c20 c21 c22 c23 c24 c25 c26
        obtain ⟨c0, c1, c2, c3, c4, c5, c6, c7, c8, c9, c10, c11, c12, c13, c14, c15, c16, c17, c18, c19, c20, c21, c22, c23, c24, c25, c26⟩ := HCL.out _ HY2.out
        go_wp2_with fail
        refine (HS.out _ HY2.out).mono ?_
        rintro e y3 ⟨rfl, hy3⟩
        have HFB : Hid (Below w.heap.size w y3) := HB.out.trans ((bt' HY2.out hy3).mono HB.out.size)
        clear hy3 c0 c1 c2 c3 c4 c5 c6 c7 c8 c9 c10 c11 c12 c13 c14 c15 c16 c17 c18 c19 c20 c21 c22 c23 c24 c25 c26
        go_wp2
        go_ret
        exact ⟨rfl, HFB.out⟩
      · exact absurd h3 HN3.out
      · obtain ⟨c0, c1, c2, c3, c4, c5, c6, c7, c8, c9, c10, c11, c12, c13, c14, c15, c16, c17, c18, c19, c20, c21, c22, c23, c24, c25, c26⟩ := HCL.out _ HQ4.out
        go_wp2_with fail
        refine (HM.out _ HQ4.out).mono ?_
        rintro e y1 ⟨rfl, hy1⟩
        have HY1 := hid (bt' HQ4.out hy1)
        clear hy1 c0 c1 c2 c3 c4 c5 c6 c7 c8 c9 c10 c11 c12 c13 c14 c15 c16 c17 c18 c19 c20 c21 c22 c23 c24 c25 c26
        obtain ⟨c0, c1, c2, c3, c4, c5, c6, c7, c8, c9, c10, c11, c12, c13, c14, c15, c16, c17, c18, c19, c20, c21, c22, c23, c24, c25, c26⟩ := HCL.out _ HY1.out
        go_wp2_with fail
        refine (HE.out _ HY1.out).mono ?_
        rintro e y2 ⟨rfl, hy2⟩
        have HY2 := hid (bt' HY1.out hy2)
        clear hy2 c0 c1 c2 c3 c4 c5 c6 c7 c8 c9 c10 c11 c12 c13 c14 c15 c16 c17 c18 c19 c20 c21 c22 c23 c24 c25 c26
        obtain ⟨c0, c1, c2, c3, c4, c5, c6, c7, c8, c9, c10, c11, c12, c13, c14, c15, c16, c17, c18, c19, c20, c21, c22, c23, c24, c25, c26⟩ := HCL.out _ HY2.out
        go_wp2_with fail
        refine (HS.out _ HY2.out).mono ?_
        rintro e y3 ⟨rfl, hy3⟩
        have HFB : Hid (Below w.heap.size w y3) := HB.out.trans ((bt' HY2.out hy3).mono HB.out.size)
        clear hy3 c0 c1 c2 c3 c4 c5 c6 c7 c8 c9 c10 c11 c12 c13 c14 c15 c16 c17 c18 c19 c20 c21 c22 c23 c24 c25 c26
        go_wp2
        go_ret
        exact ⟨rfl, HFB.out⟩
    · exact absurd h3 HN2.out
    · rcases HW3.out with ⟨rfl, rfl⟩ | ⟨_, h3⟩ | ⟨rfl, rfl, hs⟩
      · obtain ⟨c0, c1, c2, c3, c4, c5, c6, c7, c8, c9, c10, c11, c12, c13, c14, c15, c16, c17, c18, c19, c20, c21, c22, c23, c24, c25, c26⟩ := HCL.out _ HQ4.out
        go_wp2_with fail
        refine (HM.out _ HQ4.out).mono ?_
        rintro e y1 ⟨rfl, hy1⟩
        have HY1 := hid (bt' HQ4.out hy1)
        clear hy1 c0 c1 c2 c3 c4 c5 c6 c7 c8 c9 c10 c11 c12 c13 c14 c15 c16 c17 c18 c19 c20 c21 c22 c23 c24 c25 c26
        obtain ⟨c0, c1, c2, c3, c4, c5, c6, c7, c8, c9, c10, c11, c12, c13, c14, c15, c16, c17, c18, c19, c20, c21, c22, c23, c24, c25, c26⟩ := HCL.out _ HY1.out
        go_wp2_with fail
        refine (HE.out _ HY1.out).mono ?_
        rintro e y2 ⟨rfl, hy2⟩
        have HY2 := hid (bt' HY1.out hy2)
        clear hy2 c0 c1 c2 c3 c4 c5 c6 c7 c8 c9 c10 c11 c12 c13 c14 c15 c16 c17 c18 c19 c20 c21 c22 c23 c24 c25 c26
        obtain ⟨c0, c1, c2, c3, c4, c5, c6, c7, c8, c9, c10, c11, c12, c13, c14, c15, c16, c17, c18, c19, c20, c21, c22, c23, c24, c25, c26⟩ := HCL.out _ HY2.out
        go_wp2_with fail
        refine (HS.out _ HY2.out).mono ?_
        rintro e y3 ⟨rfl, hy3⟩
        have HFB : Hid (Below w.heap.size w y3) := HB.out.trans ((bt' HY2.out hy3).mono HB.out.size)
        clear hy3 c0 c1 c2 c3 c4 c5 c6 c7 c8 c9 c10 c11 c12 c13 c14 c15 c16 c17 c18 c19 c20 c21 c22 c23 c24 c25 c26
        go_wp2
        go_ret
        exact ⟨rfl, HFB.out⟩
      · exact absurd h3 HN3.out
      · have hm4 := ((hm.below HG2.out (Nat.le_refl _)).below HG3.out (Nat.le_refl _)).below HG4.out (Nat.le_refl _)
        have he4 := (he.below HG3.out (Nat.le_refl _)).below HG4.out (Nat.le_refl _)
        have hs4 := hs.below HG4.out (Nat.le_refl _)
        have HRM := HR1
        have HRE := HR2
        have HRS : Hid (RightSe (slE ⟨zt, zc, ze, zd⟩) = true) := HR3.out
        clear hm he hs
        have HLA : Hid (1 ≤ LA ∧ LA = (encMs ⟨kd, fr, tt, (br, bn), sl, ⟨⟨np, tk, ct, ep, cut⟩, a, c⟩, va, vc, vs, sa, sc, seen, ea, ec, evs, ti⟩).length) := by
          have h1 := hm4.hlen
          have h2 := enc_pos kd.toNat
          have h3 : (encMs ⟨kd, fr, tt, (br, bn), sl, ⟨⟨np, tk, ct, ep, cut⟩, a, c⟩, va, vc, vs, sa, sc, seen, ea, ec, evs, ti⟩).length = LA := h1
          refine ⟨?_, h3.symm⟩
          rw [← h3]
          unfold encMs
          simp only [List.length_append]
          omega
        have HLX : Hid (1 ≤ LX ∧ LX = (encEvC ⟨xo, xs, xd, xc, xe, xk, xq, xl⟩).length) := by
          have h1 := he4.hlen
          have h2 := enc_pos xo.toNat
          have h3 : (encEvC ⟨xo, xs, xd, xc, xe, xk, xq, xl⟩).length = LX := h1
          refine ⟨?_, h3.symm⟩
          rw [← h3]
          unfold encEvC
          simp only [List.length_append]
          omega
        have HLS : Hid (1 ≤ LS ∧ LS = (encSe (slE ⟨zt, zc, ze, zd⟩)).length) := by
          have h1 := hs4.hlen
          have h2 := enc_pos ze.toNat
          have h3 : (encSe (slE ⟨zt, zc, ze, zd⟩)).length = LS := h1
          refine ⟨?_, h3.symm⟩
          rw [← h3]
          unfold encSe slE
          simp only [List.length_append]
          omega
        obtain ⟨bA, oA, hAo, _, _⟩ := hm4.at HLA.out.1
        obtain ⟨bX, oX, hXo, _, _⟩ := he4.at HLX.out.1
        obtain ⟨bS, oS, hSo, _, _⟩ := hs4.at HLS.out.1
        subst hAo hXo hSo
        have HM4 := hid hm4
        have HE4 := hid he4
        have HS4 := hid hs4
        have hcA : LA ≤ cA := hm4.hcap
        have hcX : LX ≤ cX := he4.hcap
        have hcS : LS ≤ cS := hs4.hcap
        clear hm4 he4 hs4
        obtain ⟨M, HMM⟩ : ∃ M : Nat, Hid ((if lim < 0 then -(lim + 1) else lim) = (M : Int) ∧ (M : Int) ≤ 9223372036854775807) := by
          have hl := HLIM.out
          by_cases h : lim < 0
          · exact ⟨(-(lim + 1)).toNat, by rw [if_pos h]; omega, by omega⟩
          · exact ⟨lim.toNat, by rw [if_neg h]; omega, by omega⟩
        obtain ⟨KA, hKA⟩ : ∃ K, K = M % LA := ⟨_, rfl⟩
        obtain ⟨KX, hKX⟩ : ∃ K, K = M % LX := ⟨_, rfl⟩
        obtain ⟨KS, hKS⟩ : ∃ K, K = M % LS := ⟨_, rfl⟩
        have lA : KA < LA := by rw [hKA]; exact Nat.mod_lt _ HLA.out.1
        have lX : KX < LX := by rw [hKX]; exact Nat.mod_lt _ HLX.out.1
        have lS : KS < LS := by rw [hKS]; exact Nat.mod_lt _ HLS.out.1
        have HTM : Hid (∀ V, Below w4.heap.size w4 V → Calls Try.prog 11 #[.slice (some ⟨bA, oA, none⟩) KA cA] V fun e w' => ∃ v, e = .returned (.tuple #[v, .int .i64 10]) ∧ Below V.heap.size V w') := fun V hV => by
          refine (readMsg_any _ _ _ _ V ((HM4.out.below hV (Nat.le_refl _)).take (Nat.le_of_lt lA))).mono ?_
          rintro e w' ⟨y, E, rfl, _, hor, hb⟩
          have hn : pMsg ((encMs ⟨kd, fr, tt, (br, bn), sl, ⟨⟨np, tk, ct, ep, cut⟩, a, c⟩, va, vc, vs, sa, sc, seen, ea, ec, evs, ti⟩).take KA) = none := by
            rw [encMs_d]
            exact pMsg_reads.cut (rightMs_d HRM.out) (by rw [← encMs_d]; exact encMs_byP _) (by rw [← encMs_d, ← HLA.out.2]; exact lA)
          rcases hor with ⟨_, _, h1⟩ | ⟨h1, _⟩
          · rw [hn] at h1; cases h1
          · exact ⟨_, by rw [h1], hb⟩
        have HTX : Hid (∀ V, Below w4.heap.size w4 V → Calls Try.prog 12 #[.slice (some ⟨bX, oX, none⟩) KX cX] V fun e w' => ∃ v n, e = .returned (.tuple #[v, n, .int .i64 10]) ∧ Below V.heap.size V w') := fun V hV => by
          refine (readEvW _ _ _ _ V ((HE4.out.below hV (Nat.le_refl _)).take (Nat.le_of_lt lX))).mono ?_
          rintro e w' ⟨_, _, _, _, _, _, _, _, _, _, n, E, rfl, hno, hb⟩
          have hn := hno (pEvent_reads.cut HRE.out (encEvC_byP _) (by rw [← HLX.out.2]; exact lX))
          exact ⟨_, _, by rw [hn], hb⟩
        have HTS : Hid (∀ V, Below w4.heap.size w4 V → Calls Try.prog 13 #[.slice (some ⟨bS, oS, none⟩) KS cS] V fun e w' => ∃ v n, e = .returned (.tuple #[v, n, .int .i64 10]) ∧ Below V.heap.size V w') := fun V hV => by
          refine (readSlW _ _ _ _ V ((HS4.out.below hV (Nat.le_refl _)).take (Nat.le_of_lt lS))).mono ?_
          rintro e w' ⟨_, _, _, _, _, _, n, E, rfl, hno, hb⟩
          have hn := hno (pSeal_reads.cut ⟨rfl, HRS.out⟩ (encSe_byP _) (by rw [← HLS.out.2]; exact lS))
          exact ⟨_, _, by rw [hn], hb⟩
        have HEA : Hid ((M : Int).tmod (LA : Int) = (KA : Int) ∧ (M : Int) % (LA : Int) = (KA : Int) ∧ ¬ LA = 0) := ⟨by rw [Int.tmod_eq_emod_of_nonneg (by omega), hKA]; rfl, by rw [hKA]; rfl, by have := HLA.out.1; omega⟩
        have HEX : Hid ((M : Int).tmod (LX : Int) = (KX : Int) ∧ (M : Int) % (LX : Int) = (KX : Int) ∧ ¬ LX = 0) := ⟨by rw [Int.tmod_eq_emod_of_nonneg (by omega), hKX]; rfl, by rw [hKX]; rfl, by have := HLX.out.1; omega⟩
        have HES : Hid ((M : Int).tmod (LS : Int) = (KS : Int) ∧ (M : Int) % (LS : Int) = (KS : Int) ∧ ¬ LS = 0) := ⟨by rw [Int.tmod_eq_emod_of_nonneg (by omega), hKS]; rfl, by rw [hKS]; rfl, by have := HLS.out.1; omega⟩
        have HKB : Hid ((0 : Int) ≤ (KA : Int) ∧ (KA : Int) ≤ (cA : Int) ∧ (0 : Int) ≤ (KX : Int) ∧ (KX : Int) ≤ (cX : Int) ∧ (0 : Int) ≤ (KS : Int) ∧ (KS : Int) ≤ (cS : Int)) := ⟨by omega, by omega, by omega, by omega, by omega, by omega⟩
        clear hKA hKX hKS lA lX lS hcA hcX hcS
        obtain ⟨ta, ma, za0⟩ := HEA.out
        obtain ⟨tx, mx, zx0⟩ := HEX.out
        obtain ⟨ts, ms, zs0⟩ := HES.out
        obtain ⟨g1, g2, g3, g4, g5, g6⟩ := HKB.out
        by_cases hneg : lim < 0
        · have HV1 : Hid (-(lim + 1) = (M : Int)) := by have := HMM.out.1; rw [if_pos hneg] at this; exact this
          obtain ⟨P, hP⟩ : ∃ P, P = lim + 1 := ⟨_, rfl⟩
          have w1' : IntKind.i64.wrap (lim + 1) = P := by rw [IntKind.wrap_i64, hP]; have := HLIM.out; omega
          have w2' : IntKind.i64.wrap (-P) = (M : Int) := by rw [IntKind.wrap_i64, hP, HV1.out]; have := HMM.out.2; omega
          clear hP HV1
          go_wp2_with fail
          refine (HTM.out _ (Below.refl _ _)).mono ?_
          rintro e y1 ⟨v1, rfl, hy1⟩
          have HY1 := hid hy1
          clear hy1
          go_wp2_with fail
          refine (HTX.out _ HY1.out).mono ?_
          rintro e y2 ⟨v2, n2, rfl, hy2⟩
          have HY2 := hid (bt' HY1.out hy2)
          clear hy2
          go_wp2_with fail
          refine (HTS.out _ HY2.out).mono ?_
          rintro e y3 ⟨v3, n3, rfl, hy3⟩
          have HFB : Hid (Below w.heap.size w y3) := HB.out.trans ((bt' HQ4.out (bt' HY2.out hy3)).mono HB.out.size)
          clear hy3
          go_wp2
          go_ret
          exact ⟨rfl, HFB.out⟩
        · have HV1 : Hid (lim = (M : Int)) := by have := HMM.out.1; rw [if_neg hneg] at this; exact this
          obtain rfl : lim = (M : Int) := HV1.out
          clear HV1
          go_wp2_with fail
          refine (HTM.out _ (Below.refl _ _)).mono ?_
          rintro e y1 ⟨v1, rfl, hy1⟩
          have HY1 := hid hy1
          clear hy1
          go_wp2_with fail
          refine (HTX.out _ HY1.out).mono ?_
          rintro e y2 ⟨v2, n2, rfl, hy2⟩
          have HY2 := hid (bt' HY1.out hy2)
          clear hy2
          go_wp2_with fail
          refine (HTS.out _ HY2.out).mono ?_
          rintro e y3 ⟨v3, n3, rfl, hy3⟩
          have HFB : Hid (Below w.heap.size w y3) := HB.out.trans ((bt' HQ4.out (bt' HY2.out hy3)).mono HB.out.size)
          clear hy3
          go_wp2
          go_ret
          exact ⟨rfl, HFB.out⟩
end Go.Proofs.Ytmpkbdhihdboiaa
