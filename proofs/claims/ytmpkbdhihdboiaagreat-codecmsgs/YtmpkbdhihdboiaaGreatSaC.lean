/-
  The law's SameMsg of whatever two messages.
-/
import Derived.Test.YtmpkbdhihdboiaaGreatSaV
import Derived.Test.YtmpkbdhihdboiaaGreatRdM
namespace Go.Proofs.YtmpkbdhihdboiaaGreat
open Go.RowKit Go.Maps

noncomputable instance msdDec (x y : MsD) : Decidable (x = y) := Classical.propDecidable _
theorem eqlBalS (W : World) (a1 a2 b1 b2 : Int) : (binOp .eql 23 (.agg #[.int .i64 a1, .int .i64 a2]) (.agg #[.int .i64 b1, .int .i64 b2])).run Tryz.prog W = .ok (.bool (decide ((a1, a2) = (b1, b2)))) W := by
  by_cases h1 : a1 = b1
  · by_cases h2 : a2 = b2
    · subst h1 h2
      simp [go_sem]
    · subst h1
      simp [go_sem, h2]
  · simp [go_sem, h1]
set_option maxRecDepth 1000000 in
set_option maxHeartbeats 4000000 in
theorem sameMsg_A (w : World) (x y : MsM) (hx : MsOk w x) (hy : MsOk w y) (hv : x.vs.length ≤ 65536) (he : x.evs.length ≤ 65536) : Calls Tryz.prog 8 #[x.val, y.val] w fun e w' => e = .returned (.bool (decide (x.d = y.d))) ∧ Below w.heap.size w w' := by
  obtain ⟨R, hR⟩ : ∃ R, R = decide (x.d = y.d) := ⟨_, rfl⟩
  rw [← hR]
  obtain ⟨k1, f1, t1, ⟨r1, n1⟩, l1, ⟨⟨np1, tk1, ct1, ep1, dp1⟩, ao1, ca1⟩, vo1, vc1, vs1, so1, sc1, se1, eo1, ec1, es1, ti1⟩ := x
  obtain ⟨k2, f2, t2, ⟨r2, n2⟩, l2, ⟨⟨np2, tk2, ct2, ep2, dp2⟩, ao2, ca2⟩, vo2, vc2, vs2, so2, sc2, se2, eo2, ec2, es2, ti2⟩ := y
  obtain ⟨XN1, HX1⟩ : ∃ m, Hid (dp1.length = m) := ⟨_, hid rfl⟩
  obtain ⟨XN2, HX2⟩ : ∃ m, Hid (dp2.length = m) := ⟨_, hid rfl⟩
  obtain ⟨VN1, HV1⟩ : ∃ m, Hid (vs1.length = m) := ⟨_, hid rfl⟩
  obtain ⟨VN2, HV2⟩ : ∃ m, Hid (vs2.length = m) := ⟨_, hid rfl⟩
  obtain ⟨SN1, HS1⟩ : ∃ m, Hid (se1.length = m) := ⟨_, hid rfl⟩
  obtain ⟨SN2, HS2⟩ : ∃ m, Hid (se2.length = m) := ⟨_, hid rfl⟩
  obtain ⟨EN1, HE1⟩ : ∃ m, Hid (es1.length = m) := ⟨_, hid rfl⟩
  obtain ⟨EN2, HE2⟩ : ∃ m, Hid (es2.length = m) := ⟨_, hid rfl⟩
  obtain ⟨W, hW⟩ : ∃ W, W = (w.alloc (.cells #[.int .i64 k1, .int .i64 f1, .int .i64 t1, .int .i64 r1, .int .i64 n1, .int .i64 l1, .bool np1, .string tk1, .string ct1, .int .i64 ep1, .slice ao1 XN1 ca1, .slice vo1 VN1 vc1, .slice so1 SN1 sc1, .slice eo1 EN1 ec1, .int .i64 ti1] 32)).alloc (.cells #[.int .i64 k2, .int .i64 f2, .int .i64 t2, .int .i64 r2, .int .i64 n2, .int .i64 l2, .bool np2, .string tk2, .string ct2, .int .i64 ep2, .slice ao2 XN2 ca2, .slice vo2 VN2 vc2, .slice so2 SN2 sc2, .slice eo2 EN2 ec2, .int .i64 ti2] 32) := ⟨_, rfl⟩
  have HB : Hid (Below w.heap.size w W) := by rw [hW]; exact ((Below.refl _ _).alloc (Nat.le_refl _) _).alloc (by simp) _
  have HW := hid hW
  have HX0 : Hid (∀ V, Below W.heap.size W V → Below w.heap.size w V) := fun V hV => bt' HB.out hV
  have HE : Hid (∀ V, Below W.heap.size W V → Calls Tryz.prog 20 #[.agg #[.bool np1, .string tk1, .string ct1, .int .i64 ep1, .slice ao1 XN1 ca1], .agg #[.bool np2, .string tk2, .string ct2, .int .i64 ep2, .slice ao2 XN2 ca2]] V fun e w' => e = .returned (.bool (decide ((⟨np1, tk1, ct1, ep1, dp1⟩ : En) = ⟨np2, tk2, ct2, ep2, dp2⟩))) ∧ Below W.heap.size W w') := fun V hV => by
    have h1 := sameEntry_A V ⟨⟨np1, tk1, ct1, ep1, dp1⟩, ao1, ca1⟩ ⟨⟨np2, tk2, ct2, ep2, dp2⟩, ao2, ca2⟩ (hx.en.below (HX0.out V hV)) (hy.en.below (HX0.out V hV))
    simp only [EnM.val] at h1
    rw [HX1.out, HX2.out] at h1
    exact h1.mono (fun e w' hh => ⟨hh.1, bt' hV hh.2⟩)
  have HVO : Hid (∀ V, Below W.heap.size W V → Calls Tryz.prog 21 #[.slice vo1 VN1 vc1, .slice vo2 VN2 vc2] V fun e w' => e = .returned (.bool (decide (vs1.map VoM.d = vs2.map VoM.d))) ∧ Below W.heap.size W w') := fun V hV =>
    (sameVoted_A V vo1 vo2 vc1 vc2 vs1 vs2 VN1 VN2 HV1.out HV2.out (hx.vs.below (HX0.out V hV)) (hy.vs.below (HX0.out V hV)) (by rw [← HV1.out]; exact hv)).mono (fun e w' hh => ⟨hh.1, bt' hV hh.2⟩)
  have HSE : Hid (∀ V, Below W.heap.size W V → Calls Tryz.prog 22 #[.slice so1 SN1 sc1, .slice so2 SN2 sc2] V fun e w' => e = .returned (.bool (decide (se1 = se2))) ∧ Below W.heap.size W w') := fun V hV =>
    (sameVec_B V so1 so2 sc1 sc2 se1 se2 SN1 SN2 HS1.out HS2.out (hx.seen.below (HX0.out V hV)) (hy.seen.below (HX0.out V hV))).mono (fun e w' hh => ⟨hh.1, by obtain ⟨q, rfl⟩ := hh.2; exact below_dn hV q⟩)
  have HEV : Hid (∀ V, Below W.heap.size W V → Calls Tryz.prog 23 #[.slice eo1 EN1 ec1, .slice eo2 EN2 ec2] V fun e w' => e = .returned (.bool (decide (es1.map (fun y => y.e) = es2.map (fun y => y.e)))) ∧ Below W.heap.size W w') := fun V hV =>
    (sameEvents_A V eo1 eo2 ec1 ec2 es1 es2 EN1 EN2 HE1.out HE2.out (hx.evs.below (HX0.out V hV)) (hy.evs.below (HX0.out V hV)) (by rw [← HE1.out]; exact he)).mono (fun e w' hh => ⟨hh.1, bt' hV hh.2⟩)
  have HTI : Hid (Blk W w.heap.size 32 [.int .i64 k1, .int .i64 f1, .int .i64 t1, .int .i64 r1, .int .i64 n1, .int .i64 l1, .bool np1, .string tk1, .string ct1, .int .i64 ep1, .slice ao1 XN1 ca1, .slice vo1 VN1 vc1, .slice so1 SN1 sc1, .slice eo1 EN1 ec1, .int .i64 ti1] ∧ Blk W (w.heap.size + 1) 32 [.int .i64 k2, .int .i64 f2, .int .i64 t2, .int .i64 r2, .int .i64 n2, .int .i64 l2, .bool np2, .string tk2, .string ct2, .int .i64 ep2, .slice ao2 XN2 ca2, .slice vo2 VN2 vc2, .slice so2 SN2 sc2, .slice eo2 EN2 ec2, .int .i64 ti2]) := by
    rw [hW]
    refine ⟨(Blk.new w _ _).alloc _, ?_⟩
    have h1 := Blk.new (w.alloc (.cells #[.int .i64 k1, .int .i64 f1, .int .i64 t1, .int .i64 r1, .int .i64 n1, .int .i64 l1, .bool np1, .string tk1, .string ct1, .int .i64 ep1, .slice ao1 XN1 ca1, .slice vo1 VN1 vc1, .slice so1 SN1 sc1, .slice eo1 EN1 ec1, .int .i64 ti1] 32)) 32 [.int .i64 k2, .int .i64 f2, .int .i64 t2, .int .i64 r2, .int .i64 n2, .int .i64 l2, .bool np2, .string tk2, .string ct2, .int .i64 ep2, .slice ao2 XN2 ca2, .slice vo2 VN2 vc2, .slice so2 SN2 sc2, .slice eo2 EN2 ec2, .int .i64 ti2]
    rw [World.size_alloc] at h1
    exact h1
  have HRF : Hid (¬ (⟨k1, f1, t1, (r1, n1), l1, ⟨np1, tk1, ct1, ep1, dp1⟩, vs1.map VoM.d, se1, es1.map (fun y => y.e), ti1⟩ : MsD) = (⟨k2, f2, t2, (r2, n2), l2, ⟨np2, tk2, ct2, ep2, dp2⟩, vs2.map VoM.d, se2, es2.map (fun y => y.e), ti2⟩ : MsD) → R = false) := fun h => by rw [hR]; exact decide_eq_false h
  have HRT : Hid ((⟨k1, f1, t1, (r1, n1), l1, ⟨np1, tk1, ct1, ep1, dp1⟩, vs1.map VoM.d, se1, es1.map (fun y => y.e), ti1⟩ : MsD) = (⟨k2, f2, t2, (r2, n2), l2, ⟨np2, tk2, ct2, ep2, dp2⟩, vs2.map VoM.d, se2, es2.map (fun y => y.e), ti2⟩ : MsD) → R = true) := fun h => by rw [hR]; exact decide_eq_true h
  clear hR
  simp only [MsM.val]
  rw [HX1.out, HX2.out, HV1.out, HV2.out, HS1.out, HS2.out, HE1.out, HE2.out]
  clear hx hy hv he hW
  obtain ⟨p, hp⟩ : ∃ p, p = w.heap.size := ⟨_, rfl⟩
  rw [← hp] at HTI
  have HP := hid hp
  clear hp
  have y0 := HTI.out.1.cell (i := 0) rfl
  have x0 := HTI.out.2.cell (i := 0) rfl
  have y1 := HTI.out.1.cell (i := 1) rfl
  have x1 := HTI.out.2.cell (i := 1) rfl
  have y2 := HTI.out.1.cell (i := 2) rfl
  have x2 := HTI.out.2.cell (i := 2) rfl
  have y3 := HTI.out.1.cell (i := 3) rfl
  have x3 := HTI.out.2.cell (i := 3) rfl
  have y4 := HTI.out.1.cell (i := 4) rfl
  have x4 := HTI.out.2.cell (i := 4) rfl
  have y5 := HTI.out.1.cell (i := 5) rfl
  have x5 := HTI.out.2.cell (i := 5) rfl
  have y6 := HTI.out.1.cell (i := 6) rfl
  have x6 := HTI.out.2.cell (i := 6) rfl
  have y7 := HTI.out.1.cell (i := 7) rfl
  have x7 := HTI.out.2.cell (i := 7) rfl
  have y8 := HTI.out.1.cell (i := 8) rfl
  have x8 := HTI.out.2.cell (i := 8) rfl
  have y9 := HTI.out.1.cell (i := 9) rfl
  have x9 := HTI.out.2.cell (i := 9) rfl
  have y10 := HTI.out.1.cell (i := 10) rfl
  have x10 := HTI.out.2.cell (i := 10) rfl
  have y11 := HTI.out.1.cell (i := 11) rfl
  have x11 := HTI.out.2.cell (i := 11) rfl
  have y12 := HTI.out.1.cell (i := 12) rfl
  have x12 := HTI.out.2.cell (i := 12) rfl
  have y13 := HTI.out.1.cell (i := 13) rfl
  have x13 := HTI.out.2.cell (i := 13) rfl
  have y14 := HTI.out.1.cell (i := 14) rfl
  have x14 := HTI.out.2.cell (i := 14) rfl
  by_cases hk : k1 = k2
  rotate_left
  · rw [HRF.out (fun e => by injection e; exact hk (by assumption))]
    have qk : (k1 == k2) = false := by simp [hk]
    clear hk
    go_enter Tryz.func8, Tryz.ntmps8
    go_wp2
    go_ret
    rw [← HW.out]
    exact ⟨rfl, HB.out⟩
  have qk : (k1 == k2) = true := by simp [hk]
  have Jk := hid hk
  clear hk
  by_cases hf : f1 = f2
  rotate_left
  · rw [HRF.out (fun e => by injection e; exact hf (by assumption))]
    have qf : (f1 == f2) = false := by simp [hf]
    clear hf
    go_enter Tryz.func8, Tryz.ntmps8
    go_wp2
    go_ret
    rw [← HW.out]
    exact ⟨rfl, HB.out⟩
  have qf : (f1 == f2) = true := by simp [hf]
  have Jf := hid hf
  clear hf
  by_cases ht : t1 = t2
  rotate_left
  · rw [HRF.out (fun e => by injection e; exact ht (by assumption))]
    have qt : (t1 == t2) = false := by simp [ht]
    clear ht
    go_enter Tryz.func8, Tryz.ntmps8
    go_wp2
    go_ret
    rw [← HW.out]
    exact ⟨rfl, HB.out⟩
  have qt : (t1 == t2) = true := by simp [ht]
  have Jt := hid ht
  clear ht
  by_cases hb : (r1, n1) = (r2, n2)
  rotate_left
  · rw [HRF.out (fun e => by injection e; exact hb (by assumption))]
    have hqb := fun V => eqlBalS V r1 n1 r2 n2
    rw [decide_eq_false hb] at hqb
    clear hb
    go_enter Tryz.func8, Tryz.ntmps8
    go_wp2
    go_ret
    rw [← HW.out]
    exact ⟨rfl, HB.out⟩
  have hqb := fun V => eqlBalS V r1 n1 r2 n2
  rw [decide_eq_true hb] at hqb
  have Jb := hid hb
  clear hb
  by_cases hl : l1 = l2
  rotate_left
  · rw [HRF.out (fun e => by injection e; exact hl (by assumption))]
    have ql : (l1 == l2) = false := by simp [hl]
    clear hl
    go_enter Tryz.func8, Tryz.ntmps8
    go_wp2
    go_ret
    rw [← HW.out]
    exact ⟨rfl, HB.out⟩
  have ql : (l1 == l2) = true := by simp [hl]
  have Jl := hid hl
  clear hl
  by_cases he : (⟨np1, tk1, ct1, ep1, dp1⟩ : En) = ⟨np2, tk2, ct2, ep2, dp2⟩
  rotate_left
  · rw [HRF.out (fun e => by injection e; exact he (by assumption))]
    rw [decide_eq_false he] at HE
    clear he
    go_enter Tryz.func8, Tryz.ntmps8
    go_wp2_with fail
    rw [← HW.out]
    (try rw [← HP.out])
    refine (HE.out _ (Below.refl _ _)).mono ?_
    rintro e w1 ⟨rfl, hb1⟩
    have HB1 := hid hb1
    clear y0 x0 y1 x1 y2 x2 y3 x3 y4 x4 y5 x5 y6 x6 y7 x7 y8 x8 y9 x9 y10 x10 y11 x11 y12 x12 y13 x13 y14 x14
    have jk1 := HTI.out.1.below hb1 HTI.out.1.lt
    have jk2 := HTI.out.2.below hb1 HTI.out.2.lt
    have y0 := jk1.cell (i := 0) rfl
    have x0 := jk2.cell (i := 0) rfl
    have y1 := jk1.cell (i := 1) rfl
    have x1 := jk2.cell (i := 1) rfl
    have y2 := jk1.cell (i := 2) rfl
    have x2 := jk2.cell (i := 2) rfl
    have y3 := jk1.cell (i := 3) rfl
    have x3 := jk2.cell (i := 3) rfl
    have y4 := jk1.cell (i := 4) rfl
    have x4 := jk2.cell (i := 4) rfl
    have y5 := jk1.cell (i := 5) rfl
    have x5 := jk2.cell (i := 5) rfl
    have y6 := jk1.cell (i := 6) rfl
    have x6 := jk2.cell (i := 6) rfl
    have y7 := jk1.cell (i := 7) rfl
    have x7 := jk2.cell (i := 7) rfl
    have y8 := jk1.cell (i := 8) rfl
    have x8 := jk2.cell (i := 8) rfl
    have y9 := jk1.cell (i := 9) rfl
    have x9 := jk2.cell (i := 9) rfl
    have y10 := jk1.cell (i := 10) rfl
    have x10 := jk2.cell (i := 10) rfl
    have y11 := jk1.cell (i := 11) rfl
    have x11 := jk2.cell (i := 11) rfl
    have y12 := jk1.cell (i := 12) rfl
    have x12 := jk2.cell (i := 12) rfl
    have y13 := jk1.cell (i := 13) rfl
    have x13 := jk2.cell (i := 13) rfl
    have y14 := jk1.cell (i := 14) rfl
    have x14 := jk2.cell (i := 14) rfl
    clear jk1 jk2
    clear hb1
    go_wp2
    go_ret
    exact ⟨rfl, bt' HB.out HB1.out⟩
  rw [decide_eq_true he] at HE
  have Je := hid he
  clear he
  by_cases hv : vs1.map VoM.d = vs2.map VoM.d
  rotate_left
  · rw [HRF.out (fun e => by injection e; exact hv (by assumption))]
    rw [decide_eq_false hv] at HVO
    clear hv
    go_enter Tryz.func8, Tryz.ntmps8
    go_wp2_with fail
    rw [← HW.out]
    (try rw [← HP.out])
    refine (HE.out _ (Below.refl _ _)).mono ?_
    rintro e w1 ⟨rfl, hb1⟩
    have HB1 := hid hb1
    clear y0 x0 y1 x1 y2 x2 y3 x3 y4 x4 y5 x5 y6 x6 y7 x7 y8 x8 y9 x9 y10 x10 y11 x11 y12 x12 y13 x13 y14 x14
    have jk1 := HTI.out.1.below hb1 HTI.out.1.lt
    have jk2 := HTI.out.2.below hb1 HTI.out.2.lt
    have y0 := jk1.cell (i := 0) rfl
    have x0 := jk2.cell (i := 0) rfl
    have y1 := jk1.cell (i := 1) rfl
    have x1 := jk2.cell (i := 1) rfl
    have y2 := jk1.cell (i := 2) rfl
    have x2 := jk2.cell (i := 2) rfl
    have y3 := jk1.cell (i := 3) rfl
    have x3 := jk2.cell (i := 3) rfl
    have y4 := jk1.cell (i := 4) rfl
    have x4 := jk2.cell (i := 4) rfl
    have y5 := jk1.cell (i := 5) rfl
    have x5 := jk2.cell (i := 5) rfl
    have y6 := jk1.cell (i := 6) rfl
    have x6 := jk2.cell (i := 6) rfl
    have y7 := jk1.cell (i := 7) rfl
    have x7 := jk2.cell (i := 7) rfl
    have y8 := jk1.cell (i := 8) rfl
    have x8 := jk2.cell (i := 8) rfl
    have y9 := jk1.cell (i := 9) rfl
    have x9 := jk2.cell (i := 9) rfl
    have y10 := jk1.cell (i := 10) rfl
    have x10 := jk2.cell (i := 10) rfl
    have y11 := jk1.cell (i := 11) rfl
    have x11 := jk2.cell (i := 11) rfl
    have y12 := jk1.cell (i := 12) rfl
    have x12 := jk2.cell (i := 12) rfl
    have y13 := jk1.cell (i := 13) rfl
    have x13 := jk2.cell (i := 13) rfl
    have y14 := jk1.cell (i := 14) rfl
    have x14 := jk2.cell (i := 14) rfl
    clear jk1 jk2
    clear hb1
    go_wp2_with fail
    refine (HVO.out _ HB1.out).mono ?_
    rintro e w2 ⟨rfl, hb2⟩
    have HB2 := hid hb2
    clear y0 x0 y1 x1 y2 x2 y3 x3 y4 x4 y5 x5 y6 x6 y7 x7 y8 x8 y9 x9 y10 x10 y11 x11 y12 x12 y13 x13 y14 x14
    have jk1 := HTI.out.1.below hb2 HTI.out.1.lt
    have jk2 := HTI.out.2.below hb2 HTI.out.2.lt
    have y0 := jk1.cell (i := 0) rfl
    have x0 := jk2.cell (i := 0) rfl
    have y1 := jk1.cell (i := 1) rfl
    have x1 := jk2.cell (i := 1) rfl
    have y2 := jk1.cell (i := 2) rfl
    have x2 := jk2.cell (i := 2) rfl
    have y3 := jk1.cell (i := 3) rfl
    have x3 := jk2.cell (i := 3) rfl
    have y4 := jk1.cell (i := 4) rfl
    have x4 := jk2.cell (i := 4) rfl
    have y5 := jk1.cell (i := 5) rfl
    have x5 := jk2.cell (i := 5) rfl
    have y6 := jk1.cell (i := 6) rfl
    have x6 := jk2.cell (i := 6) rfl
    have y7 := jk1.cell (i := 7) rfl
    have x7 := jk2.cell (i := 7) rfl
    have y8 := jk1.cell (i := 8) rfl
    have x8 := jk2.cell (i := 8) rfl
    have y9 := jk1.cell (i := 9) rfl
    have x9 := jk2.cell (i := 9) rfl
    have y10 := jk1.cell (i := 10) rfl
    have x10 := jk2.cell (i := 10) rfl
    have y11 := jk1.cell (i := 11) rfl
    have x11 := jk2.cell (i := 11) rfl
    have y12 := jk1.cell (i := 12) rfl
    have x12 := jk2.cell (i := 12) rfl
    have y13 := jk1.cell (i := 13) rfl
    have x13 := jk2.cell (i := 13) rfl
    have y14 := jk1.cell (i := 14) rfl
    have x14 := jk2.cell (i := 14) rfl
    clear jk1 jk2
    clear hb2
    go_wp2
    go_ret
    exact ⟨rfl, bt' HB.out HB2.out⟩
  rw [decide_eq_true hv] at HVO
  have Jv := hid hv
  clear hv
  by_cases hs : se1 = se2
  rotate_left
  · rw [HRF.out (fun e => by injection e; exact hs (by assumption))]
    rw [decide_eq_false hs] at HSE
    clear hs
    go_enter Tryz.func8, Tryz.ntmps8
    go_wp2_with fail
    rw [← HW.out]
    (try rw [← HP.out])
    refine (HE.out _ (Below.refl _ _)).mono ?_
    rintro e w1 ⟨rfl, hb1⟩
    have HB1 := hid hb1
    clear y0 x0 y1 x1 y2 x2 y3 x3 y4 x4 y5 x5 y6 x6 y7 x7 y8 x8 y9 x9 y10 x10 y11 x11 y12 x12 y13 x13 y14 x14
    have jk1 := HTI.out.1.below hb1 HTI.out.1.lt
    have jk2 := HTI.out.2.below hb1 HTI.out.2.lt
    have y0 := jk1.cell (i := 0) rfl
    have x0 := jk2.cell (i := 0) rfl
    have y1 := jk1.cell (i := 1) rfl
    have x1 := jk2.cell (i := 1) rfl
    have y2 := jk1.cell (i := 2) rfl
    have x2 := jk2.cell (i := 2) rfl
    have y3 := jk1.cell (i := 3) rfl
    have x3 := jk2.cell (i := 3) rfl
    have y4 := jk1.cell (i := 4) rfl
    have x4 := jk2.cell (i := 4) rfl
    have y5 := jk1.cell (i := 5) rfl
    have x5 := jk2.cell (i := 5) rfl
    have y6 := jk1.cell (i := 6) rfl
    have x6 := jk2.cell (i := 6) rfl
    have y7 := jk1.cell (i := 7) rfl
    have x7 := jk2.cell (i := 7) rfl
    have y8 := jk1.cell (i := 8) rfl
    have x8 := jk2.cell (i := 8) rfl
    have y9 := jk1.cell (i := 9) rfl
    have x9 := jk2.cell (i := 9) rfl
    have y10 := jk1.cell (i := 10) rfl
    have x10 := jk2.cell (i := 10) rfl
    have y11 := jk1.cell (i := 11) rfl
    have x11 := jk2.cell (i := 11) rfl
    have y12 := jk1.cell (i := 12) rfl
    have x12 := jk2.cell (i := 12) rfl
    have y13 := jk1.cell (i := 13) rfl
    have x13 := jk2.cell (i := 13) rfl
    have y14 := jk1.cell (i := 14) rfl
    have x14 := jk2.cell (i := 14) rfl
    clear jk1 jk2
    clear hb1
    go_wp2_with fail
    refine (HVO.out _ HB1.out).mono ?_
    rintro e w2 ⟨rfl, hb2⟩
    have HB2 := hid hb2
    clear y0 x0 y1 x1 y2 x2 y3 x3 y4 x4 y5 x5 y6 x6 y7 x7 y8 x8 y9 x9 y10 x10 y11 x11 y12 x12 y13 x13 y14 x14
    have jk1 := HTI.out.1.below hb2 HTI.out.1.lt
    have jk2 := HTI.out.2.below hb2 HTI.out.2.lt
    have y0 := jk1.cell (i := 0) rfl
    have x0 := jk2.cell (i := 0) rfl
    have y1 := jk1.cell (i := 1) rfl
    have x1 := jk2.cell (i := 1) rfl
    have y2 := jk1.cell (i := 2) rfl
    have x2 := jk2.cell (i := 2) rfl
    have y3 := jk1.cell (i := 3) rfl
    have x3 := jk2.cell (i := 3) rfl
    have y4 := jk1.cell (i := 4) rfl
    have x4 := jk2.cell (i := 4) rfl
    have y5 := jk1.cell (i := 5) rfl
    have x5 := jk2.cell (i := 5) rfl
    have y6 := jk1.cell (i := 6) rfl
    have x6 := jk2.cell (i := 6) rfl
    have y7 := jk1.cell (i := 7) rfl
    have x7 := jk2.cell (i := 7) rfl
    have y8 := jk1.cell (i := 8) rfl
    have x8 := jk2.cell (i := 8) rfl
    have y9 := jk1.cell (i := 9) rfl
    have x9 := jk2.cell (i := 9) rfl
    have y10 := jk1.cell (i := 10) rfl
    have x10 := jk2.cell (i := 10) rfl
    have y11 := jk1.cell (i := 11) rfl
    have x11 := jk2.cell (i := 11) rfl
    have y12 := jk1.cell (i := 12) rfl
    have x12 := jk2.cell (i := 12) rfl
    have y13 := jk1.cell (i := 13) rfl
    have x13 := jk2.cell (i := 13) rfl
    have y14 := jk1.cell (i := 14) rfl
    have x14 := jk2.cell (i := 14) rfl
    clear jk1 jk2
    clear hb2
    go_wp2_with fail
    refine (HSE.out _ HB2.out).mono ?_
    rintro e w3 ⟨rfl, hb3⟩
    have HB3 := hid hb3
    clear y0 x0 y1 x1 y2 x2 y3 x3 y4 x4 y5 x5 y6 x6 y7 x7 y8 x8 y9 x9 y10 x10 y11 x11 y12 x12 y13 x13 y14 x14
    have jk1 := HTI.out.1.below hb3 HTI.out.1.lt
    have jk2 := HTI.out.2.below hb3 HTI.out.2.lt
    have y0 := jk1.cell (i := 0) rfl
    have x0 := jk2.cell (i := 0) rfl
    have y1 := jk1.cell (i := 1) rfl
    have x1 := jk2.cell (i := 1) rfl
    have y2 := jk1.cell (i := 2) rfl
    have x2 := jk2.cell (i := 2) rfl
    have y3 := jk1.cell (i := 3) rfl
    have x3 := jk2.cell (i := 3) rfl
    have y4 := jk1.cell (i := 4) rfl
    have x4 := jk2.cell (i := 4) rfl
    have y5 := jk1.cell (i := 5) rfl
    have x5 := jk2.cell (i := 5) rfl
    have y6 := jk1.cell (i := 6) rfl
    have x6 := jk2.cell (i := 6) rfl
    have y7 := jk1.cell (i := 7) rfl
    have x7 := jk2.cell (i := 7) rfl
    have y8 := jk1.cell (i := 8) rfl
    have x8 := jk2.cell (i := 8) rfl
    have y9 := jk1.cell (i := 9) rfl
    have x9 := jk2.cell (i := 9) rfl
    have y10 := jk1.cell (i := 10) rfl
    have x10 := jk2.cell (i := 10) rfl
    have y11 := jk1.cell (i := 11) rfl
    have x11 := jk2.cell (i := 11) rfl
    have y12 := jk1.cell (i := 12) rfl
    have x12 := jk2.cell (i := 12) rfl
    have y13 := jk1.cell (i := 13) rfl
    have x13 := jk2.cell (i := 13) rfl
    have y14 := jk1.cell (i := 14) rfl
    have x14 := jk2.cell (i := 14) rfl
    clear jk1 jk2
    clear hb3
    go_wp2
    go_ret
    exact ⟨rfl, bt' HB.out HB3.out⟩
  rw [decide_eq_true hs] at HSE
  have Js := hid hs
  clear hs
  by_cases hx : es1.map (fun y => y.e) = es2.map (fun y => y.e)
  rotate_left
  · rw [HRF.out (fun e => by injection e; exact hx (by assumption))]
    rw [decide_eq_false hx] at HEV
    clear hx
    go_enter Tryz.func8, Tryz.ntmps8
    go_wp2_with fail
    rw [← HW.out]
    (try rw [← HP.out])
    refine (HE.out _ (Below.refl _ _)).mono ?_
    rintro e w1 ⟨rfl, hb1⟩
    have HB1 := hid hb1
    clear y0 x0 y1 x1 y2 x2 y3 x3 y4 x4 y5 x5 y6 x6 y7 x7 y8 x8 y9 x9 y10 x10 y11 x11 y12 x12 y13 x13 y14 x14
    have jk1 := HTI.out.1.below hb1 HTI.out.1.lt
    have jk2 := HTI.out.2.below hb1 HTI.out.2.lt
    have y0 := jk1.cell (i := 0) rfl
    have x0 := jk2.cell (i := 0) rfl
    have y1 := jk1.cell (i := 1) rfl
    have x1 := jk2.cell (i := 1) rfl
    have y2 := jk1.cell (i := 2) rfl
    have x2 := jk2.cell (i := 2) rfl
    have y3 := jk1.cell (i := 3) rfl
    have x3 := jk2.cell (i := 3) rfl
    have y4 := jk1.cell (i := 4) rfl
    have x4 := jk2.cell (i := 4) rfl
    have y5 := jk1.cell (i := 5) rfl
    have x5 := jk2.cell (i := 5) rfl
    have y6 := jk1.cell (i := 6) rfl
    have x6 := jk2.cell (i := 6) rfl
    have y7 := jk1.cell (i := 7) rfl
    have x7 := jk2.cell (i := 7) rfl
    have y8 := jk1.cell (i := 8) rfl
    have x8 := jk2.cell (i := 8) rfl
    have y9 := jk1.cell (i := 9) rfl
    have x9 := jk2.cell (i := 9) rfl
    have y10 := jk1.cell (i := 10) rfl
    have x10 := jk2.cell (i := 10) rfl
    have y11 := jk1.cell (i := 11) rfl
    have x11 := jk2.cell (i := 11) rfl
    have y12 := jk1.cell (i := 12) rfl
    have x12 := jk2.cell (i := 12) rfl
    have y13 := jk1.cell (i := 13) rfl
    have x13 := jk2.cell (i := 13) rfl
    have y14 := jk1.cell (i := 14) rfl
    have x14 := jk2.cell (i := 14) rfl
    clear jk1 jk2
    clear hb1
    go_wp2_with fail
    refine (HVO.out _ HB1.out).mono ?_
    rintro e w2 ⟨rfl, hb2⟩
    have HB2 := hid hb2
    clear y0 x0 y1 x1 y2 x2 y3 x3 y4 x4 y5 x5 y6 x6 y7 x7 y8 x8 y9 x9 y10 x10 y11 x11 y12 x12 y13 x13 y14 x14
    have jk1 := HTI.out.1.below hb2 HTI.out.1.lt
    have jk2 := HTI.out.2.below hb2 HTI.out.2.lt
    have y0 := jk1.cell (i := 0) rfl
    have x0 := jk2.cell (i := 0) rfl
    have y1 := jk1.cell (i := 1) rfl
    have x1 := jk2.cell (i := 1) rfl
    have y2 := jk1.cell (i := 2) rfl
    have x2 := jk2.cell (i := 2) rfl
    have y3 := jk1.cell (i := 3) rfl
    have x3 := jk2.cell (i := 3) rfl
    have y4 := jk1.cell (i := 4) rfl
    have x4 := jk2.cell (i := 4) rfl
    have y5 := jk1.cell (i := 5) rfl
    have x5 := jk2.cell (i := 5) rfl
    have y6 := jk1.cell (i := 6) rfl
    have x6 := jk2.cell (i := 6) rfl
    have y7 := jk1.cell (i := 7) rfl
    have x7 := jk2.cell (i := 7) rfl
    have y8 := jk1.cell (i := 8) rfl
    have x8 := jk2.cell (i := 8) rfl
    have y9 := jk1.cell (i := 9) rfl
    have x9 := jk2.cell (i := 9) rfl
    have y10 := jk1.cell (i := 10) rfl
    have x10 := jk2.cell (i := 10) rfl
    have y11 := jk1.cell (i := 11) rfl
    have x11 := jk2.cell (i := 11) rfl
    have y12 := jk1.cell (i := 12) rfl
    have x12 := jk2.cell (i := 12) rfl
    have y13 := jk1.cell (i := 13) rfl
    have x13 := jk2.cell (i := 13) rfl
    have y14 := jk1.cell (i := 14) rfl
    have x14 := jk2.cell (i := 14) rfl
    clear jk1 jk2
    clear hb2
    go_wp2_with fail
    refine (HSE.out _ HB2.out).mono ?_
    rintro e w3 ⟨rfl, hb3⟩
    have HB3 := hid hb3
    clear y0 x0 y1 x1 y2 x2 y3 x3 y4 x4 y5 x5 y6 x6 y7 x7 y8 x8 y9 x9 y10 x10 y11 x11 y12 x12 y13 x13 y14 x14
    have jk1 := HTI.out.1.below hb3 HTI.out.1.lt
    have jk2 := HTI.out.2.below hb3 HTI.out.2.lt
    have y0 := jk1.cell (i := 0) rfl
    have x0 := jk2.cell (i := 0) rfl
    have y1 := jk1.cell (i := 1) rfl
    have x1 := jk2.cell (i := 1) rfl
    have y2 := jk1.cell (i := 2) rfl
    have x2 := jk2.cell (i := 2) rfl
    have y3 := jk1.cell (i := 3) rfl
    have x3 := jk2.cell (i := 3) rfl
    have y4 := jk1.cell (i := 4) rfl
    have x4 := jk2.cell (i := 4) rfl
    have y5 := jk1.cell (i := 5) rfl
    have x5 := jk2.cell (i := 5) rfl
    have y6 := jk1.cell (i := 6) rfl
    have x6 := jk2.cell (i := 6) rfl
    have y7 := jk1.cell (i := 7) rfl
    have x7 := jk2.cell (i := 7) rfl
    have y8 := jk1.cell (i := 8) rfl
    have x8 := jk2.cell (i := 8) rfl
    have y9 := jk1.cell (i := 9) rfl
    have x9 := jk2.cell (i := 9) rfl
    have y10 := jk1.cell (i := 10) rfl
    have x10 := jk2.cell (i := 10) rfl
    have y11 := jk1.cell (i := 11) rfl
    have x11 := jk2.cell (i := 11) rfl
    have y12 := jk1.cell (i := 12) rfl
    have x12 := jk2.cell (i := 12) rfl
    have y13 := jk1.cell (i := 13) rfl
    have x13 := jk2.cell (i := 13) rfl
    have y14 := jk1.cell (i := 14) rfl
    have x14 := jk2.cell (i := 14) rfl
    clear jk1 jk2
    clear hb3
    go_wp2_with fail
    refine (HEV.out _ HB3.out).mono ?_
    rintro e w4 ⟨rfl, hb4⟩
    have HB4 := hid hb4
    clear y0 x0 y1 x1 y2 x2 y3 x3 y4 x4 y5 x5 y6 x6 y7 x7 y8 x8 y9 x9 y10 x10 y11 x11 y12 x12 y13 x13 y14 x14
    have jk1 := HTI.out.1.below hb4 HTI.out.1.lt
    have jk2 := HTI.out.2.below hb4 HTI.out.2.lt
    have y0 := jk1.cell (i := 0) rfl
    have x0 := jk2.cell (i := 0) rfl
    have y1 := jk1.cell (i := 1) rfl
    have x1 := jk2.cell (i := 1) rfl
    have y2 := jk1.cell (i := 2) rfl
    have x2 := jk2.cell (i := 2) rfl
    have y3 := jk1.cell (i := 3) rfl
    have x3 := jk2.cell (i := 3) rfl
    have y4 := jk1.cell (i := 4) rfl
    have x4 := jk2.cell (i := 4) rfl
    have y5 := jk1.cell (i := 5) rfl
    have x5 := jk2.cell (i := 5) rfl
    have y6 := jk1.cell (i := 6) rfl
    have x6 := jk2.cell (i := 6) rfl
    have y7 := jk1.cell (i := 7) rfl
    have x7 := jk2.cell (i := 7) rfl
    have y8 := jk1.cell (i := 8) rfl
    have x8 := jk2.cell (i := 8) rfl
    have y9 := jk1.cell (i := 9) rfl
    have x9 := jk2.cell (i := 9) rfl
    have y10 := jk1.cell (i := 10) rfl
    have x10 := jk2.cell (i := 10) rfl
    have y11 := jk1.cell (i := 11) rfl
    have x11 := jk2.cell (i := 11) rfl
    have y12 := jk1.cell (i := 12) rfl
    have x12 := jk2.cell (i := 12) rfl
    have y13 := jk1.cell (i := 13) rfl
    have x13 := jk2.cell (i := 13) rfl
    have y14 := jk1.cell (i := 14) rfl
    have x14 := jk2.cell (i := 14) rfl
    clear jk1 jk2
    clear hb4
    go_wp2
    go_ret
    exact ⟨rfl, bt' HB.out HB4.out⟩
  rw [decide_eq_true hx] at HEV
  have Jx := hid hx
  clear hx
  by_cases hz : ti1 = ti2
  rotate_left
  · rw [HRF.out (fun e => by injection e; exact hz (by assumption))]
    have qz : (ti1 == ti2) = false := by simp [hz]
    clear hz
    go_enter Tryz.func8, Tryz.ntmps8
    go_wp2_with fail
    rw [← HW.out]
    (try rw [← HP.out])
    refine (HE.out _ (Below.refl _ _)).mono ?_
    rintro e w1 ⟨rfl, hb1⟩
    have HB1 := hid hb1
    clear y0 x0 y1 x1 y2 x2 y3 x3 y4 x4 y5 x5 y6 x6 y7 x7 y8 x8 y9 x9 y10 x10 y11 x11 y12 x12 y13 x13 y14 x14
    have jk1 := HTI.out.1.below hb1 HTI.out.1.lt
    have jk2 := HTI.out.2.below hb1 HTI.out.2.lt
    have y0 := jk1.cell (i := 0) rfl
    have x0 := jk2.cell (i := 0) rfl
    have y1 := jk1.cell (i := 1) rfl
    have x1 := jk2.cell (i := 1) rfl
    have y2 := jk1.cell (i := 2) rfl
    have x2 := jk2.cell (i := 2) rfl
    have y3 := jk1.cell (i := 3) rfl
    have x3 := jk2.cell (i := 3) rfl
    have y4 := jk1.cell (i := 4) rfl
    have x4 := jk2.cell (i := 4) rfl
    have y5 := jk1.cell (i := 5) rfl
    have x5 := jk2.cell (i := 5) rfl
    have y6 := jk1.cell (i := 6) rfl
    have x6 := jk2.cell (i := 6) rfl
    have y7 := jk1.cell (i := 7) rfl
    have x7 := jk2.cell (i := 7) rfl
    have y8 := jk1.cell (i := 8) rfl
    have x8 := jk2.cell (i := 8) rfl
    have y9 := jk1.cell (i := 9) rfl
    have x9 := jk2.cell (i := 9) rfl
    have y10 := jk1.cell (i := 10) rfl
    have x10 := jk2.cell (i := 10) rfl
    have y11 := jk1.cell (i := 11) rfl
    have x11 := jk2.cell (i := 11) rfl
    have y12 := jk1.cell (i := 12) rfl
    have x12 := jk2.cell (i := 12) rfl
    have y13 := jk1.cell (i := 13) rfl
    have x13 := jk2.cell (i := 13) rfl
    have y14 := jk1.cell (i := 14) rfl
    have x14 := jk2.cell (i := 14) rfl
    clear jk1 jk2
    clear hb1
    go_wp2_with fail
    refine (HVO.out _ HB1.out).mono ?_
    rintro e w2 ⟨rfl, hb2⟩
    have HB2 := hid hb2
    clear y0 x0 y1 x1 y2 x2 y3 x3 y4 x4 y5 x5 y6 x6 y7 x7 y8 x8 y9 x9 y10 x10 y11 x11 y12 x12 y13 x13 y14 x14
    have jk1 := HTI.out.1.below hb2 HTI.out.1.lt
    have jk2 := HTI.out.2.below hb2 HTI.out.2.lt
    have y0 := jk1.cell (i := 0) rfl
    have x0 := jk2.cell (i := 0) rfl
    have y1 := jk1.cell (i := 1) rfl
    have x1 := jk2.cell (i := 1) rfl
    have y2 := jk1.cell (i := 2) rfl
    have x2 := jk2.cell (i := 2) rfl
    have y3 := jk1.cell (i := 3) rfl
    have x3 := jk2.cell (i := 3) rfl
    have y4 := jk1.cell (i := 4) rfl
    have x4 := jk2.cell (i := 4) rfl
    have y5 := jk1.cell (i := 5) rfl
    have x5 := jk2.cell (i := 5) rfl
    have y6 := jk1.cell (i := 6) rfl
    have x6 := jk2.cell (i := 6) rfl
    have y7 := jk1.cell (i := 7) rfl
    have x7 := jk2.cell (i := 7) rfl
    have y8 := jk1.cell (i := 8) rfl
    have x8 := jk2.cell (i := 8) rfl
    have y9 := jk1.cell (i := 9) rfl
    have x9 := jk2.cell (i := 9) rfl
    have y10 := jk1.cell (i := 10) rfl
    have x10 := jk2.cell (i := 10) rfl
    have y11 := jk1.cell (i := 11) rfl
    have x11 := jk2.cell (i := 11) rfl
    have y12 := jk1.cell (i := 12) rfl
    have x12 := jk2.cell (i := 12) rfl
    have y13 := jk1.cell (i := 13) rfl
    have x13 := jk2.cell (i := 13) rfl
    have y14 := jk1.cell (i := 14) rfl
    have x14 := jk2.cell (i := 14) rfl
    clear jk1 jk2
    clear hb2
    go_wp2_with fail
    refine (HSE.out _ HB2.out).mono ?_
    rintro e w3 ⟨rfl, hb3⟩
    have HB3 := hid hb3
    clear y0 x0 y1 x1 y2 x2 y3 x3 y4 x4 y5 x5 y6 x6 y7 x7 y8 x8 y9 x9 y10 x10 y11 x11 y12 x12 y13 x13 y14 x14
    have jk1 := HTI.out.1.below hb3 HTI.out.1.lt
    have jk2 := HTI.out.2.below hb3 HTI.out.2.lt
    have y0 := jk1.cell (i := 0) rfl
    have x0 := jk2.cell (i := 0) rfl
    have y1 := jk1.cell (i := 1) rfl
    have x1 := jk2.cell (i := 1) rfl
    have y2 := jk1.cell (i := 2) rfl
    have x2 := jk2.cell (i := 2) rfl
    have y3 := jk1.cell (i := 3) rfl
    have x3 := jk2.cell (i := 3) rfl
    have y4 := jk1.cell (i := 4) rfl
    have x4 := jk2.cell (i := 4) rfl
    have y5 := jk1.cell (i := 5) rfl
    have x5 := jk2.cell (i := 5) rfl
    have y6 := jk1.cell (i := 6) rfl
    have x6 := jk2.cell (i := 6) rfl
    have y7 := jk1.cell (i := 7) rfl
    have x7 := jk2.cell (i := 7) rfl
    have y8 := jk1.cell (i := 8) rfl
    have x8 := jk2.cell (i := 8) rfl
    have y9 := jk1.cell (i := 9) rfl
    have x9 := jk2.cell (i := 9) rfl
    have y10 := jk1.cell (i := 10) rfl
    have x10 := jk2.cell (i := 10) rfl
    have y11 := jk1.cell (i := 11) rfl
    have x11 := jk2.cell (i := 11) rfl
    have y12 := jk1.cell (i := 12) rfl
    have x12 := jk2.cell (i := 12) rfl
    have y13 := jk1.cell (i := 13) rfl
    have x13 := jk2.cell (i := 13) rfl
    have y14 := jk1.cell (i := 14) rfl
    have x14 := jk2.cell (i := 14) rfl
    clear jk1 jk2
    clear hb3
    go_wp2_with fail
    refine (HEV.out _ HB3.out).mono ?_
    rintro e w4 ⟨rfl, hb4⟩
    have HB4 := hid hb4
    clear y0 x0 y1 x1 y2 x2 y3 x3 y4 x4 y5 x5 y6 x6 y7 x7 y8 x8 y9 x9 y10 x10 y11 x11 y12 x12 y13 x13 y14 x14
    have jk1 := HTI.out.1.below hb4 HTI.out.1.lt
    have jk2 := HTI.out.2.below hb4 HTI.out.2.lt
    have y0 := jk1.cell (i := 0) rfl
    have x0 := jk2.cell (i := 0) rfl
    have y1 := jk1.cell (i := 1) rfl
    have x1 := jk2.cell (i := 1) rfl
    have y2 := jk1.cell (i := 2) rfl
    have x2 := jk2.cell (i := 2) rfl
    have y3 := jk1.cell (i := 3) rfl
    have x3 := jk2.cell (i := 3) rfl
    have y4 := jk1.cell (i := 4) rfl
    have x4 := jk2.cell (i := 4) rfl
    have y5 := jk1.cell (i := 5) rfl
    have x5 := jk2.cell (i := 5) rfl
    have y6 := jk1.cell (i := 6) rfl
    have x6 := jk2.cell (i := 6) rfl
    have y7 := jk1.cell (i := 7) rfl
    have x7 := jk2.cell (i := 7) rfl
    have y8 := jk1.cell (i := 8) rfl
    have x8 := jk2.cell (i := 8) rfl
    have y9 := jk1.cell (i := 9) rfl
    have x9 := jk2.cell (i := 9) rfl
    have y10 := jk1.cell (i := 10) rfl
    have x10 := jk2.cell (i := 10) rfl
    have y11 := jk1.cell (i := 11) rfl
    have x11 := jk2.cell (i := 11) rfl
    have y12 := jk1.cell (i := 12) rfl
    have x12 := jk2.cell (i := 12) rfl
    have y13 := jk1.cell (i := 13) rfl
    have x13 := jk2.cell (i := 13) rfl
    have y14 := jk1.cell (i := 14) rfl
    have x14 := jk2.cell (i := 14) rfl
    clear jk1 jk2
    clear hb4
    go_wp2
    go_ret
    exact ⟨rfl, bt' HB.out HB4.out⟩
  have qz : (ti1 == ti2) = true := by simp [hz]
  have Jz := hid hz
  clear hz
  rw [HRT.out (by rw [Jk.out, Jf.out, Jt.out, Jb.out, Jl.out, Je.out, Jv.out, Js.out, Jx.out, Jz.out])]
  go_enter Tryz.func8, Tryz.ntmps8
  go_wp2_with fail
  rw [← HW.out]
  (try rw [← HP.out])
  refine (HE.out _ (Below.refl _ _)).mono ?_
  rintro e w1 ⟨rfl, hb1⟩
  have HB1 := hid hb1
  clear y0 x0 y1 x1 y2 x2 y3 x3 y4 x4 y5 x5 y6 x6 y7 x7 y8 x8 y9 x9 y10 x10 y11 x11 y12 x12 y13 x13 y14 x14
  have jk1 := HTI.out.1.below hb1 HTI.out.1.lt
  have jk2 := HTI.out.2.below hb1 HTI.out.2.lt
  have y0 := jk1.cell (i := 0) rfl
  have x0 := jk2.cell (i := 0) rfl
  have y1 := jk1.cell (i := 1) rfl
  have x1 := jk2.cell (i := 1) rfl
  have y2 := jk1.cell (i := 2) rfl
  have x2 := jk2.cell (i := 2) rfl
  have y3 := jk1.cell (i := 3) rfl
  have x3 := jk2.cell (i := 3) rfl
  have y4 := jk1.cell (i := 4) rfl
  have x4 := jk2.cell (i := 4) rfl
  have y5 := jk1.cell (i := 5) rfl
  have x5 := jk2.cell (i := 5) rfl
  have y6 := jk1.cell (i := 6) rfl
  have x6 := jk2.cell (i := 6) rfl
  have y7 := jk1.cell (i := 7) rfl
  have x7 := jk2.cell (i := 7) rfl
  have y8 := jk1.cell (i := 8) rfl
  have x8 := jk2.cell (i := 8) rfl
  have y9 := jk1.cell (i := 9) rfl
  have x9 := jk2.cell (i := 9) rfl
  have y10 := jk1.cell (i := 10) rfl
  have x10 := jk2.cell (i := 10) rfl
  have y11 := jk1.cell (i := 11) rfl
  have x11 := jk2.cell (i := 11) rfl
  have y12 := jk1.cell (i := 12) rfl
  have x12 := jk2.cell (i := 12) rfl
  have y13 := jk1.cell (i := 13) rfl
  have x13 := jk2.cell (i := 13) rfl
  have y14 := jk1.cell (i := 14) rfl
  have x14 := jk2.cell (i := 14) rfl
  clear jk1 jk2
  clear hb1
  go_wp2_with fail
  refine (HVO.out _ HB1.out).mono ?_
  rintro e w2 ⟨rfl, hb2⟩
  have HB2 := hid hb2
  clear y0 x0 y1 x1 y2 x2 y3 x3 y4 x4 y5 x5 y6 x6 y7 x7 y8 x8 y9 x9 y10 x10 y11 x11 y12 x12 y13 x13 y14 x14
  have jk1 := HTI.out.1.below hb2 HTI.out.1.lt
  have jk2 := HTI.out.2.below hb2 HTI.out.2.lt
  have y0 := jk1.cell (i := 0) rfl
  have x0 := jk2.cell (i := 0) rfl
  have y1 := jk1.cell (i := 1) rfl
  have x1 := jk2.cell (i := 1) rfl
  have y2 := jk1.cell (i := 2) rfl
  have x2 := jk2.cell (i := 2) rfl
  have y3 := jk1.cell (i := 3) rfl
  have x3 := jk2.cell (i := 3) rfl
  have y4 := jk1.cell (i := 4) rfl
  have x4 := jk2.cell (i := 4) rfl
  have y5 := jk1.cell (i := 5) rfl
  have x5 := jk2.cell (i := 5) rfl
  have y6 := jk1.cell (i := 6) rfl
  have x6 := jk2.cell (i := 6) rfl
  have y7 := jk1.cell (i := 7) rfl
  have x7 := jk2.cell (i := 7) rfl
  have y8 := jk1.cell (i := 8) rfl
  have x8 := jk2.cell (i := 8) rfl
  have y9 := jk1.cell (i := 9) rfl
  have x9 := jk2.cell (i := 9) rfl
  have y10 := jk1.cell (i := 10) rfl
  have x10 := jk2.cell (i := 10) rfl
  have y11 := jk1.cell (i := 11) rfl
  have x11 := jk2.cell (i := 11) rfl
  have y12 := jk1.cell (i := 12) rfl
  have x12 := jk2.cell (i := 12) rfl
  have y13 := jk1.cell (i := 13) rfl
  have x13 := jk2.cell (i := 13) rfl
  have y14 := jk1.cell (i := 14) rfl
  have x14 := jk2.cell (i := 14) rfl
  clear jk1 jk2
  clear hb2
  go_wp2_with fail
  refine (HSE.out _ HB2.out).mono ?_
  rintro e w3 ⟨rfl, hb3⟩
  have HB3 := hid hb3
  clear y0 x0 y1 x1 y2 x2 y3 x3 y4 x4 y5 x5 y6 x6 y7 x7 y8 x8 y9 x9 y10 x10 y11 x11 y12 x12 y13 x13 y14 x14
  have jk1 := HTI.out.1.below hb3 HTI.out.1.lt
  have jk2 := HTI.out.2.below hb3 HTI.out.2.lt
  have y0 := jk1.cell (i := 0) rfl
  have x0 := jk2.cell (i := 0) rfl
  have y1 := jk1.cell (i := 1) rfl
  have x1 := jk2.cell (i := 1) rfl
  have y2 := jk1.cell (i := 2) rfl
  have x2 := jk2.cell (i := 2) rfl
  have y3 := jk1.cell (i := 3) rfl
  have x3 := jk2.cell (i := 3) rfl
  have y4 := jk1.cell (i := 4) rfl
  have x4 := jk2.cell (i := 4) rfl
  have y5 := jk1.cell (i := 5) rfl
  have x5 := jk2.cell (i := 5) rfl
  have y6 := jk1.cell (i := 6) rfl
  have x6 := jk2.cell (i := 6) rfl
  have y7 := jk1.cell (i := 7) rfl
  have x7 := jk2.cell (i := 7) rfl
  have y8 := jk1.cell (i := 8) rfl
  have x8 := jk2.cell (i := 8) rfl
  have y9 := jk1.cell (i := 9) rfl
  have x9 := jk2.cell (i := 9) rfl
  have y10 := jk1.cell (i := 10) rfl
  have x10 := jk2.cell (i := 10) rfl
  have y11 := jk1.cell (i := 11) rfl
  have x11 := jk2.cell (i := 11) rfl
  have y12 := jk1.cell (i := 12) rfl
  have x12 := jk2.cell (i := 12) rfl
  have y13 := jk1.cell (i := 13) rfl
  have x13 := jk2.cell (i := 13) rfl
  have y14 := jk1.cell (i := 14) rfl
  have x14 := jk2.cell (i := 14) rfl
  clear jk1 jk2
  clear hb3
  go_wp2_with fail
  refine (HEV.out _ HB3.out).mono ?_
  rintro e w4 ⟨rfl, hb4⟩
  have HB4 := hid hb4
  clear y0 x0 y1 x1 y2 x2 y3 x3 y4 x4 y5 x5 y6 x6 y7 x7 y8 x8 y9 x9 y10 x10 y11 x11 y12 x12 y13 x13 y14 x14
  have jk1 := HTI.out.1.below hb4 HTI.out.1.lt
  have jk2 := HTI.out.2.below hb4 HTI.out.2.lt
  have y0 := jk1.cell (i := 0) rfl
  have x0 := jk2.cell (i := 0) rfl
  have y1 := jk1.cell (i := 1) rfl
  have x1 := jk2.cell (i := 1) rfl
  have y2 := jk1.cell (i := 2) rfl
  have x2 := jk2.cell (i := 2) rfl
  have y3 := jk1.cell (i := 3) rfl
  have x3 := jk2.cell (i := 3) rfl
  have y4 := jk1.cell (i := 4) rfl
  have x4 := jk2.cell (i := 4) rfl
  have y5 := jk1.cell (i := 5) rfl
  have x5 := jk2.cell (i := 5) rfl
  have y6 := jk1.cell (i := 6) rfl
  have x6 := jk2.cell (i := 6) rfl
  have y7 := jk1.cell (i := 7) rfl
  have x7 := jk2.cell (i := 7) rfl
  have y8 := jk1.cell (i := 8) rfl
  have x8 := jk2.cell (i := 8) rfl
  have y9 := jk1.cell (i := 9) rfl
  have x9 := jk2.cell (i := 9) rfl
  have y10 := jk1.cell (i := 10) rfl
  have x10 := jk2.cell (i := 10) rfl
  have y11 := jk1.cell (i := 11) rfl
  have x11 := jk2.cell (i := 11) rfl
  have y12 := jk1.cell (i := 12) rfl
  have x12 := jk2.cell (i := 12) rfl
  have y13 := jk1.cell (i := 13) rfl
  have x13 := jk2.cell (i := 13) rfl
  have y14 := jk1.cell (i := 14) rfl
  have x14 := jk2.cell (i := 14) rfl
  clear jk1 jk2
  clear hb4
  go_wp2
  go_ret
  exact ⟨rfl, bt' HB.out HB4.out⟩
end Go.Proofs.YtmpkbdhihdboiaaGreat
