/-
  pannierlaw01.CodecMsgs answers true at every input.
-/
import Derived.Test.YtmpkbdhihdboiaaGreatSameB
import Derived.Test.YtmpkbdhihdboiaaGreatRdV
import Derived.Test.YtmpkbdhihdboiaaGreatSaC
import Derived.Test.YtmpkbdhihdboiaaGreatVoOpen
import Derived.Test.YtmpkbdhihdboiaaGreatMsgOpen
import Derived.Deep.CutRange
import Derived.Deep.CutBlock
import Derived.Deep.QuietTactic
import Derived.BigQuiet
namespace Go.Proofs.YtmpkbdhihdboiaaGreat
open Go.RowKit Go.Maps

theorem own_madeM (w : World) (B : Nat) (hB : B ≤ w.heap.size) : (w.alloc (.cells #[] 5)).ownsRow B 5 1 (.slice (some ⟨w.heap.size, 0, none⟩) 0 0) 0 (nums []) :=
  World.ownsRow_made w #[] 0 hB (Nat.zero_le _) rfl
theorem codeMs_zero {x : MsM} (h : codeMs x = 0) : RightMs x = true ∧ (encMs x).length ≤ 65536 ∧ bytesMs x = encMs x := by
  have hb : bytesMs x = encMs x := by unfold bytesMs; rw [if_pos h]
  unfold codeMs at h
  by_cases hr : RightMs x = true
  · rw [if_pos hr] at h
    by_cases hl : (encMs x).length ≤ 65536
    · exact ⟨hr, hl, hb⟩
    · rw [if_neg hl] at h
      omega
  · rw [if_neg hr] at h
    omega
/-- The bytes of a right message say it; with a byte behind they say nothing. -/
theorem bytes_say {x y : MsM} {E : Int} {n : Nat} (h : codeMs x = 0) (hn : n = (bytesMs x).length) (hr : RmOr y E n (bytesMs x)) : E = 0 ∧ y.d = x.d := by
  obtain ⟨h1, h2, h3⟩ := codeMs_zero h
  have hp := pMsg_reads.fwd x.d [] (rightMs_d h1)
  rw [List.append_nil, ← encMs_d, ← h3] at hp
  rcases hr with ⟨he, _, hq⟩ | ⟨_, _, hq⟩
  · rw [hp] at hq
    exact ⟨he, (Prod.mk.inj (Option.some.inj hq)).1.symm⟩
  · exact absurd ⟨by rw [hn, h3]; exact h2, _, hp⟩ hq
theorem bytes_more {x y : MsM} {E : Int} {n : Nat} (h : codeMs x = 0) (hr : RmOr y E n (bytesMs x ++ [0])) : E = 10 ∧ y = ⟨0, 0, 0, (0, 0), 0, ⟨⟨false, ⟨#[]⟩, ⟨#[]⟩, 0, []⟩, none, 0⟩, none, 0, [], none, 0, [], none, 0, [], 0⟩ := by
  obtain ⟨h1, h2, h3⟩ := codeMs_zero h
  have hp := pMsg_reads.fwd x.d [0] (rightMs_d h1)
  rw [← encMs_d, ← h3] at hp
  rcases hr with ⟨_, _, hq⟩ | ⟨he, hy, _⟩
  · rw [hp] at hq
    have := (Prod.mk.inj (Option.some.inj hq)).2
    cases this
  · exact ⟨he, hy⟩
set_option maxRecDepth 1000000 in
set_option maxHeartbeats 8000000 in
theorem codecMsgs_walk (x : MsM) (w : World) (hx : MsOk w x) : Calls Tryz.prog 3 #[x.val] w fun e w' => e = .returned (.bool true) ∧ Below w.heap.size w w' := by
  obtain ⟨i0, hi, hz0, hz1, hz2⟩ := info_parts Tryz.info5
  have HMA := hid (fun V (hV : Below w.heap.size w V) => (msg_any V x (hx.below hV)).mono fun _ _ h => msgH_of h)
  have HMR := hid (fun V (hV : Below w.heap.size w V) => (refMsg_any V x (hx.below hV)).mono fun _ _ h => msgH_of h)
  unfold MsgH at HMA HMR
  have HSY := hid (fun (y : MsM) E n => bytes_say (x := x) (y := y) (E := E) (n := n))
  have HMO := hid (fun (y : MsM) E n => bytes_more (x := x) (y := y) (E := E) (n := n))
  have HSM : Hid (codeMs x = 0 → ∀ V (y : MsM), y.d = x.d → MsOk V y → Below w.heap.size w V → Calls Tryz.prog 8 #[y.val, x.val] V fun e w' => e = .returned (.bool true) ∧ Below V.heap.size V w') := fun h0 V y hd hy hV => by
    have hf := rightMs_iff (codeMs_zero h0).1
    have e1 : y.vs.length = x.vs.length := by have := congrArg (fun d => d.vs.length) hd; simpa [MsM.d] using this
    have e2 : y.evs.length = x.evs.length := by have := congrArg (fun d => d.evs.length) hd; simpa [MsM.d] using this
    have h := sameMsg_A V y x hy (hx.below hV) (by have := hf.vl; omega) (by have := hf.el; omega)
    rw [decide_eq_true hd] at h
    exact h
  have HLB : Hid (codeMs x = 0 → (bytesMs x).length ≤ 65536) := fun h0 => by obtain ⟨_, h2, h3⟩ := codeMs_zero h0; rw [h3]; exact h2
  obtain ⟨C, HC⟩ : ∃ C, Hid (codeMs x = C) := ⟨_, hid rfl⟩
  obtain ⟨BS, HBS⟩ : ∃ B, Hid (bytesMs x = B) := ⟨_, hid rfl⟩
  obtain ⟨XD, HXD⟩ : ∃ d, Hid (x.d = d) := ⟨_, hid rfl⟩
  rw [HC.out, HBS.out] at HMA HMR HSY HMO HLB
  rw [HXD.out] at HSY HSM
  rw [HC.out] at HSM
  clear hx HC HBS HXD
  obtain ⟨kd, fr, tt, ⟨br, bn⟩, sl, ⟨⟨np, tk, ct, ep, cut⟩, a, c⟩, va, vc, vs, sa, sc, seen, ea, ec, evs, ti⟩ := x
  simp only [MsM.val] at HMA HMR HSM ⊢
  generalize cut.length = XN at *
  generalize vs.length = VN at *
  generalize seen.length = SN at *
  generalize evs.length = EN at *
  obtain ⟨W, hW⟩ : ∃ W, W = w.alloc (.cells #[.int .i64 kd, .int .i64 fr, .int .i64 tt, .int .i64 br, .int .i64 bn, .int .i64 sl, .bool np, .string tk, .string ct, .int .i64 ep, .slice a XN c, .slice va VN vc, .slice sa SN sc, .slice ea EN ec, .int .i64 ti] 32) := ⟨_, rfl⟩
  have HB : Hid (Below w.heap.size w W) := by rw [hW]; exact (Below.refl _ _).alloc (Nat.le_refl _) _
  obtain ⟨p, hp⟩ : ∃ p, p = w.heap.size := ⟨_, rfl⟩
  have HK : Hid (Blk W p 32 [.int .i64 kd, .int .i64 fr, .int .i64 tt, .int .i64 br, .int .i64 bn, .int .i64 sl, .bool np, .string tk, .string ct, .int .i64 ep, .slice a XN c, .slice va VN vc, .slice sa SN sc, .slice ea EN ec, .int .i64 ti]) := by rw [hW, hp]; exact Blk.new w _ _
  have HCL : Hid (∀ V, Below W.heap.size W V → (V.cell? ⟨p, 0, none⟩ = some (.int .i64 kd) ∧ V.cell? ⟨p, 1, none⟩ = some (.int .i64 fr) ∧ V.cell? ⟨p, 2, none⟩ = some (.int .i64 tt) ∧ V.cell? ⟨p, 3, none⟩ = some (.int .i64 br) ∧ V.cell? ⟨p, 4, none⟩ = some (.int .i64 bn) ∧ V.cell? ⟨p, 5, none⟩ = some (.int .i64 sl) ∧ V.cell? ⟨p, 6, none⟩ = some (.bool np) ∧ V.cell? ⟨p, 7, none⟩ = some (.string tk) ∧ V.cell? ⟨p, 8, none⟩ = some (.string ct) ∧ V.cell? ⟨p, 9, none⟩ = some (.int .i64 ep) ∧ V.cell? ⟨p, 10, none⟩ = some (.slice a XN c) ∧ V.cell? ⟨p, 11, none⟩ = some (.slice va VN vc) ∧ V.cell? ⟨p, 12, none⟩ = some (.slice sa SN sc) ∧ V.cell? ⟨p, 13, none⟩ = some (.slice ea EN ec) ∧ V.cell? ⟨p, 14, none⟩ = some (.int .i64 ti))) := fun V hV => by
    have h := HK.out.below hV HK.out.lt
    exact ⟨h.cell rfl, h.cell rfl, h.cell rfl, h.cell rfl, h.cell rfl, h.cell rfl, h.cell rfl, h.cell rfl, h.cell rfl, h.cell rfl, h.cell rfl, h.cell rfl, h.cell rfl, h.cell rfl, h.cell rfl⟩
  have HW := hid hW
  have HP := hid hp
  clear hW hp
  obtain ⟨c0, c1, c2, c3, c4, c5, c6, c7, c8, c9, c10, c11, c12, c13, c14⟩ := HCL.out W (Below.refl _ _)
  rw [HW.out, HP.out] at c0 c1 c2 c3 c4 c5 c6 c7 c8 c9 c10 c11 c12 c13 c14
  go_enter Tryz.func3, Tryz.ntmps3
  go_wp2_with fail
  rw [← HW.out, ← HP.out]
  clear c0 c1 c2 c3 c4 c5 c6 c7 c8 c9 c10 c11 c12 c13 c14
  refine (HMA.out W HB.out).mono ?_
  rintro e w1 ⟨ao1, n1, cp1, rfl, hh1, hb1⟩
  have HH1 := hid hh1
  have HQ1 := hid hb1
  clear hh1 hb1
  obtain ⟨c0, c1, c2, c3, c4, c5, c6, c7, c8, c9, c10, c11, c12, c13, c14⟩ := HCL.out _ HQ1.out
  go_wp2_with fail
  refine (HMR.out w1 (bt' HB.out HQ1.out)).mono ?_
  rintro e w2 ⟨ao2, n2, cp2, rfl, hh2, hb2⟩
  have HH2 := hid hh2
  have HB12 := hid hb2
  have HQ2 := hid (bt' HQ1.out hb2)
  clear hh2 hb2 c0 c1 c2 c3 c4 c5 c6 c7 c8 c9 c10 c11 c12 c13 c14
  have HLV := hid (lives_any w2)
  go_wp2_with fail
  refine HLV.out.mono ?_
  rintro e w3 ⟨rfl, hb3⟩
  have HQ3 := hid (bt' HQ2.out hb3)
  have HH13 : Hid (Held w3 ao1 n1 cp1 BS) := (HH1.out.below HB12.out (Nat.le_refl _)).below hb3 (Nat.le_refl _)
  have HH23 : Hid (Held w3 ao2 n2 cp2 BS) := HH2.out.below hb3 (Nat.le_refl _)
  have v1 := run_convert_held (P := Tryz.prog) HH13.out 33 5 9 Tryz.underlying33 Tryz.underlying5 Tryz.underlying9
  have v2 := run_convert_held (P := Tryz.prog) HH23.out 33 5 9 Tryz.underlying33 Tryz.underlying5 Tryz.underlying9
  obtain ⟨S, hS⟩ : ∃ S, S = strOfNums BS := ⟨_, rfl⟩
  rw [← hS] at v1 v2
  have hq1 : (S.toList == S.toList) = true := by simp
  have HF3 := hid (bt' HB.out HQ3.out)
  clear hb3 HLV hS
  by_cases h0 : C = 0
  · subst h0
    have HRD := hid (readMsg_any ao1 n1 cp1 BS w3 HH13.out)
    go_wp2_with fail
    refine HRD.out.mono ?_
    rintro e w4 ⟨y, E, rfl, hy, hor, hb4⟩
    obtain ⟨he, hd⟩ := HSY.out y E n1 (by trivial) HH13.out.hlen.symm hor
    subst he
    have HYD := hid hd
    have HYO := hid hy.ok
    have HQ4 := hid (bt' HQ3.out hb4)
    have HH14 : Hid (Held w4 ao1 n1 cp1 BS) := HH13.out.below hb4 (Nat.le_refl _)
    have hn1 : n1 ≤ 65536 := by rw [← HH13.out.hlen]; exact HLB.out (by trivial)
    clear hb4 hor hd hy v1 v2 hq1
    have HSY4 : Hid (∀ V, Below w4.heap.size w4 V → MsOk V y) := fun V hV => HYO.out.below hV
    have HSMY := hid (fun V (hV : Below w4.heap.size w4 V) => HSM.out (by trivial) V y HYD.out (HYO.out.below hV) (bt' (bt' HB.out HQ4.out) hV))
    clear HYO HYD HSY4 HSM
    obtain ⟨kd2, fr2, tt2, ⟨br2, bn2⟩, sl2, ⟨⟨np2, tk2, ct2, ep2, cut2⟩, a2, c2⟩, va2, vc2, vs2, sa2, sc2, seen2, ea2, ec2, evs2, ti2⟩ := y
    simp only [MsM.val] at HSMY ⊢
    generalize cut2.length = XN2 at *
    generalize vs2.length = VN2 at *
    generalize seen2.length = SN2 at *
    generalize evs2.length = EN2 at *
    obtain ⟨Z, hZ⟩ : ∃ Z, Z = w4.alloc (.cells #[.int .i64 kd2, .int .i64 fr2, .int .i64 tt2, .int .i64 br2, .int .i64 bn2, .int .i64 sl2, .bool np2, .string tk2, .string ct2, .int .i64 ep2, .slice a2 XN2 c2, .slice va2 VN2 vc2, .slice sa2 SN2 sc2, .slice ea2 EN2 ec2, .int .i64 ti2] 32) := ⟨_, rfl⟩
    have HQZ : Hid (Below W.heap.size W Z) := by rw [hZ]; exact HQ4.out.alloc HQ4.out.size _
    have HZ4 : Hid (Below w4.heap.size w4 Z) := by rw [hZ]; exact (Below.refl _ _).alloc (Nat.le_refl _) _
    have HKZ : Hid (Blk Z w4.heap.size 32 [.int .i64 kd2, .int .i64 fr2, .int .i64 tt2, .int .i64 br2, .int .i64 bn2, .int .i64 sl2, .bool np2, .string tk2, .string ct2, .int .i64 ep2, .slice a2 XN2 c2, .slice va2 VN2 vc2, .slice sa2 SN2 sc2, .slice ea2 EN2 ec2, .int .i64 ti2]) := by rw [hZ]; exact Blk.new w4 _ _
    have HZ := hid hZ
    clear hZ
    go_upto_region 8 with fail
    rw [← HZ.out]
    have HH1Z : Hid (Held Z ao1 n1 cp1 BS) := HH14.out.below HZ4.out (Nat.le_refl _)
    have HBZ : Hid (∀ V, Below Z.heap.size Z V → Below W.heap.size W V) := fun V hV => bt' HQZ.out hV
    have hba : Below Z.heap.size Z (Z.alloc (.cells #[] 5)) := (Below.refl _ Z).alloc (Nat.le_refl _) _
    obtain ⟨zs, HZS⟩ : ∃ z, Hid (z = w4.heap.size) := ⟨_, hid rfl⟩
    rw [← HZS.out] at HKZ ⊢
    clear HZ
    go_wp2_with (at_builtin; refine wpList_append_held _ rfl _ _ 33 rfl Z.heap.size 5 i0 Tryz.underlying33 hi hz0 hz1 hz2 _ 0 [] rfl (own_madeM Z _ (Nat.le_refl _)) (fun c hc => by cases hc) ao1 n1 cp1 BS rfl (HH1Z.out.below hba (Nat.le_refl _)) (by omega) (by simp) ?_)
    intro bo cpo w5 hown5 hh5 hb5 hg5
    have HO5 := hid hown5
    have HH5 := hid hh5
    have HB5 : Hid (Below Z.heap.size Z w5) := hba.trans hb5
    have hs5 : Z.heap.size ≤ w5.heap.size := HB5.out.size
    have HN5 : Hid (Held (w5.alloc (.cells #[.int .u8 0] 5)) (some ⟨w5.heap.size, 0, none⟩) 1 1 [0]) := held_new w5 [0] _ _ rfl (fun x hx => by simp at hx; omega) (by unfold maxLen; decide)
    clear hown5 hh5 hb5 hg5 hba
    go_wp2_with (at_builtin; refine wpList_append_held _ rfl _ _ 33 rfl Z.heap.size 5 i0 Tryz.underlying33 hi hz0 hz1 hz2 _ n1 BS rfl (HO5.out.alloc _) HH5.out.byte (some ⟨w5.heap.size, 0, none⟩) 1 1 [0] rfl HN5.out (by omega) (by simp; omega) ?_)
    intro bq cpq w6 hown6 hh6 hb6 hg6
    have HH6 := hid hh6
    have HB6 : Hid (Below Z.heap.size Z w6) := (HB5.out.alloc HB5.out.size _).trans hb6
    clear hown6 hh6 hb6 hg6
    have HRE := hid (readMsg_any bq (n1 + 1) cpq (BS ++ [0]) w6 HH6.out)
    go_wp2_with fail
    refine HRE.out.mono ?_
    rintro e w7 ⟨y7, E7, rfl, hy7, hor7, hb7⟩
    obtain ⟨he7, hz7⟩ := HMO.out y7 E7 _ (by trivial) hor7
    subst he7 hz7
    have HB7 := hid (bt' HB6.out hb7)
    clear hor7 hy7 hb7
    simp only [MsM.val, List.length_nil]
    obtain ⟨T, hT⟩ : ∃ T, T = w7.alloc (.cells #[.int .i64 0, .int .i64 0, .int .i64 0, .int .i64 0, .int .i64 0, .int .i64 0, .bool false, .string ⟨#[]⟩, .string ⟨#[]⟩, .int .i64 0, .slice none 0 0, .slice none 0 0, .slice none 0 0, .slice none 0 0, .int .i64 0] 32) := ⟨_, rfl⟩
    have HBT : Hid (Below Z.heap.size Z T) := by rw [hT]; exact HB7.out.alloc HB7.out.size _
    have HT := hid hT
    clear hT
    have hk := HKZ.out.below HBT.out HKZ.out.lt
    have d0 := hk.cell (i := 0) rfl
    have d1 := hk.cell (i := 1) rfl
    have d2 := hk.cell (i := 2) rfl
    have d3 := hk.cell (i := 3) rfl
    have d4 := hk.cell (i := 4) rfl
    have d5 := hk.cell (i := 5) rfl
    have d6 := hk.cell (i := 6) rfl
    have d7 := hk.cell (i := 7) rfl
    have d8 := hk.cell (i := 8) rfl
    have d9 := hk.cell (i := 9) rfl
    have d10 := hk.cell (i := 10) rfl
    have d11 := hk.cell (i := 11) rfl
    have d12 := hk.cell (i := 12) rfl
    have d13 := hk.cell (i := 13) rfl
    have d14 := hk.cell (i := 14) rfl
    obtain ⟨c0, c1, c2, c3, c4, c5, c6, c7, c8, c9, c10, c11, c12, c13, c14⟩ := HCL.out _ (HBZ.out _ HBT.out)
    rw [HT.out] at c0 c1 c2 c3 c4 c5 c6 c7 c8 c9 c10 c11 c12 c13 c14 d0 d1 d2 d3 d4 d5 d6 d7 d8 d9 d10 d11 d12 d13 d14
    clear hk
    go_wp2_with fail
    rw [← HT.out]
    refine (HSMY.out T (bt' HZ4.out HBT.out)).mono ?_
    rintro e w8 ⟨rfl, hb8⟩
    have HF := hid (bt' (bt' (bt' HB.out HQZ.out) HBT.out) hb8)
    clear hb8 c0 c1 c2 c3 c4 c5 c6 c7 c8 c9 c10 c11 c12 c13 c14 d0 d1 d2 d3 d4 d5 d6 d7 d8 d9 d10 d11 d12 d13 d14
    go_wp2
    go_ret
    exact ⟨rfl, HF.out⟩
  · have h0' : (C == 0) = false := by simpa using h0
    go_wp2
    go_ret
    exact ⟨rfl, HF3.out⟩
end Go.Proofs.YtmpkbdhihdboiaaGreat
