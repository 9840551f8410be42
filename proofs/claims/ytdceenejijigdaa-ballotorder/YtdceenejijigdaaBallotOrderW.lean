/-
  pannierlaw15.BallotOrder answers true at every input.
-/
import Derived.Test.YtdceenejijigdaaBalG
namespace Go.Proofs.Ytdceenejijigdaa
open Go.RowKit Go.Maps

/-- The cells that BallotOrder reads. -/
structure OrdC (V : World) (pa pb pc pn pm : Nat) (a b c n : Int × Int) : Prop where
  a0 : Blk V pa 23 [.int .i64 a.1, .int .i64 a.2]
  b0 : Blk V pb 23 [.int .i64 b.1, .int .i64 b.2]
  c0 : Blk V pc 23 [.int .i64 c.1, .int .i64 c.2]
  n0 : Blk V pn 23 [.int .i64 n.1, .int .i64 n.2]
  m0 : Blk V pm 23 [.int .i64 n.1, .int .i64 n.2]
theorem OrdC.below {V U : World} {pa pb pc pn pm : Nat} {a b c n : Int × Int} (h : OrdC V pa pb pc pn pm a b c n) (hb : Below V.heap.size V U) : OrdC U pa pb pc pn pm a b c n :=
  ⟨h.a0.below hb h.a0.lt, h.b0.below hb h.b0.lt, h.c0.below hb h.c0.lt, h.n0.below hb h.n0.lt, h.m0.below hb h.m0.lt⟩
theorem wrap_neg {x : Int} (h : x = -1 ∨ x = 0 ∨ x = 1) : wrap64 (-x) = -x := wrapS (by omega) (by omega)
set_option maxRecDepth 1000000 in
set_option maxHeartbeats 2000000 in
theorem ballotOrder_walk (a1 a2 b1 b2 c1 c2 : Int) (nd : Int) (w : World) (_hn : -9223372036854775808 ≤ nd ∧ nd ≤ 9223372036854775807) : Calls Try.prog 3 #[.agg #[.int .i64 a1, .int .i64 a2], .agg #[.int .i64 b1, .int .i64 b2], .agg #[.int .i64 c1, .int .i64 c2], .int .i64 nd] w fun e w' => e = .returned (.bool true) ∧ Below w.heap.size w w' := by
  clear _hn
  obtain ⟨Wa, hWa⟩ : ∃ W, W = w.alloc (.cells #[.int .i64 a1, .int .i64 a2] 23) := ⟨_, rfl⟩
  obtain ⟨Wb, hWb⟩ : ∃ W, W = Wa.alloc (.cells #[.int .i64 b1, .int .i64 b2] 23) := ⟨_, rfl⟩
  obtain ⟨Wc, hWc⟩ : ∃ W, W = Wb.alloc (.cells #[.int .i64 c1, .int .i64 c2] 23) := ⟨_, rfl⟩
  have hsa : Wa.heap.size = w.heap.size + 1 := by rw [hWa]; simp
  have hsb : Wb.heap.size = w.heap.size + 2 := by rw [hWb, World.size_alloc, hsa]
  have HB0 : Hid (Below w.heap.size w Wc) := by
    show Below _ _ _
    rw [hWc, hWb, hWa]
    exact (((Below.refl _ _).alloc (Nat.le_refl _) _).alloc (by simp) _).alloc (by simp; omega) _
  have hka : Blk Wc w.heap.size 23 [.int .i64 a1, .int .i64 a2] := by rw [hWc, hWb, hWa]; exact ((Blk.new w _ _).alloc _).alloc _
  have hkb : Blk Wc (w.heap.size + 1) 23 [.int .i64 b1, .int .i64 b2] := by rw [hWc, hWb, ← hsa]; exact (Blk.new Wa _ _).alloc _
  have hkc : Blk Wc (w.heap.size + 2) 23 [.int .i64 c1, .int .i64 c2] := by rw [hWc, ← hsb]; exact Blk.new Wb _ _
  have HW : Hid (Wc = ((w.alloc (.cells #[.int .i64 a1, .int .i64 a2] 23)).alloc (.cells #[.int .i64 b1, .int .i64 b2] 23)).alloc (.cells #[.int .i64 c1, .int .i64 c2] 23)) := by show _ = _; rw [hWc, hWb, hWa]
  have HN1 := hid (fun V => nextBal V a1 a2 nd)
  have HN2 := hid (fun V => rnextBal V a1 a2 nd)
  have HUP : Hid (nextE a1 nd = 0 → cmpB (nextB a1 nd) (a1, a2) = 1) := fun h => by
    have h1 := cmpB_lt.2 (nextB_lt (m := a2) h)
    rw [cmpB_neg]
    rcases cmpB_or (a1, a2) (nextB a1 nd) with h2 | h2 | h2 <;> omega
  obtain ⟨n1, n2, hnn⟩ : ∃ x y, nextB a1 nd = (x, y) := ⟨_, _, rfl⟩
  rw [hnn] at HN1 HN2 HUP
  obtain ⟨ev, hev⟩ : ∃ x, nextE a1 nd = x := ⟨_, rfl⟩
  rw [hev] at HN1 HN2 HUP
  unfold bltE at HN1 HN2
  clear hWa hWb hWc hnn hev hsa hsb
  have HKA := hid hka
  have HKB := hid hkb
  have HKC := hid hkc
  clear hka hkb hkc
  go_enter Try.func3, Try.ntmps3
  go_wp2_with fail
  rw [← HW.out]
  refine (HN1.out _).mono ?_
  rintro e w4 ⟨rfl, hb4⟩
  have HB4 := hid (bt' HB0.out hb4)
  have HA4 := hid (HKA.out.below hb4 HKA.out.lt)
  have HBB4 := hid (HKB.out.below hb4 HKB.out.lt)
  have HC4 := hid (HKC.out.below hb4 HKC.out.lt)
  have x0 := (HA4.out.alloc (.cells #[.int .i64 n1, .int .i64 n2] 23)).cell (i := 0) rfl
  have x1 := (HA4.out.alloc (.cells #[.int .i64 n1, .int .i64 n2] 23)).cell (i := 1) rfl
  clear hb4
  obtain ⟨V5, hV5⟩ : ∃ W, W = w4.alloc (.cells #[.int .i64 n1, .int .i64 n2] 23) := ⟨_, rfl⟩
  have HB5 : Hid (Below w4.heap.size w4 V5) := by rw [hV5]; exact (Below.refl _ _).alloc (Nat.le_refl _) _
  have HKN : Hid (Blk V5 w4.heap.size 23 [.int .i64 n1, .int .i64 n2]) := by rw [hV5]; exact Blk.new w4 _ _
  have HV5 := hid hV5
  clear hV5
  go_wp2_with fail
  rw [← HV5.out]
  refine (HN2.out _).mono ?_
  rintro e w6 ⟨rfl, hb6⟩
  clear x0 x1
  obtain ⟨V7, hV7⟩ : ∃ W, W = w6.alloc (.cells #[.int .i64 n1, .int .i64 n2] 23) := ⟨_, rfl⟩
  have HB7 : Hid (Below w6.heap.size w6 V7) := by rw [hV7]; exact (Below.refl _ _).alloc (Nat.le_refl _) _
  have HKM : Hid (Blk V7 w6.heap.size 23 [.int .i64 n1, .int .i64 n2]) := by rw [hV7]; exact Blk.new w6 _ _
  have HV7 := hid hV7
  clear hV7
  have HB67 : Hid (Below V5.heap.size V5 V7) := bt' hb6 HB7.out
  have HB57 : Hid (Below w4.heap.size w4 V7) := bt' HB5.out HB67.out
  have HO : Hid (OrdC V7 w.heap.size (w.heap.size + 1) (w.heap.size + 2) w4.heap.size w6.heap.size (a1, a2) (b1, b2) (c1, c2) (n1, n2)) := ⟨HA4.out.below HB57.out HA4.out.lt, HBB4.out.below HB57.out HBB4.out.lt, HC4.out.below HB57.out HC4.out.lt, HKN.out.below HB67.out HKN.out.lt, HKM.out⟩
  have HBV : Hid (Below w.heap.size w V7) := bt' HB4.out HB57.out
  clear hb6 HB67 HB57 HKM HB7 HKN HB5 HA4 HBB4 HC4 HB4 HN1 HN2
  obtain ⟨pa, hpa⟩ : ∃ p, p = w.heap.size := ⟨_, rfl⟩
  obtain ⟨pb, hpb⟩ : ∃ p, p = w.heap.size + 1 := ⟨_, rfl⟩
  obtain ⟨pc, hpc⟩ : ∃ p, p = w.heap.size + 2 := ⟨_, rfl⟩
  obtain ⟨pn, hpn⟩ : ∃ p, p = w4.heap.size := ⟨_, rfl⟩
  obtain ⟨pm, hpm⟩ : ∃ p, p = w6.heap.size := ⟨_, rfl⟩
  rw [← hpb, ← hpc, ← hpa, ← hpn, ← hpm] at HO
  obtain ⟨cab, HCAB⟩ : ∃ x, Hid (cmpB (a1, a2) (b1, b2) = x) := ⟨_, hid rfl⟩
  obtain ⟨cbc, HCBC⟩ : ∃ x, Hid (cmpB (b1, b2) (c1, c2) = x) := ⟨_, hid rfl⟩
  obtain ⟨cac, HCAC⟩ : ∃ x, Hid (cmpB (a1, a2) (c1, c2) = x) := ⟨_, hid rfl⟩
  obtain ⟨qn, HQN⟩ : ∃ x, Hid (quorum nd = x) := ⟨_, hid rfl⟩
  have HL7 := hid (fun X : Beyond V7 => bey_call X (livesBal X.now))
  have HC7 := hid (fun X : Beyond V7 => bey_call X (compareB X.now (a1, a2) (b1, b2)))
  have HR7 := hid (fun X : Beyond V7 => bey_call X (rcompareB X.now (a1, a2) (b1, b2)))
  have HQ7 := hid (fun X : Beyond V7 => bey_same X (quorumB X.now nd))
  have HS7 := hid (fun X : Beyond V7 => bey_same X (rquorumB X.now nd))
  rw [HCAB.out] at HC7 HR7
  rw [HQN.out] at HQ7 HS7
  have k0 := fun X : Beyond V7 => X.cell (HO.out.a0.cell (i := 0) rfl) HO.out.a0.lt
  have k1 := fun X : Beyond V7 => X.cell (HO.out.a0.cell (i := 1) rfl) HO.out.a0.lt
  have k2 := fun X : Beyond V7 => X.cell (HO.out.b0.cell (i := 0) rfl) HO.out.b0.lt
  have k3 := fun X : Beyond V7 => X.cell (HO.out.b0.cell (i := 1) rfl) HO.out.b0.lt
  have k4 := fun X : Beyond V7 => X.cell (HO.out.n0.cell (i := 0) rfl) HO.out.n0.lt
  have k5 := fun X : Beyond V7 => X.cell (HO.out.n0.cell (i := 1) rfl) HO.out.n0.lt
  have k6 := fun X : Beyond V7 => X.cell (HO.out.m0.cell (i := 0) rfl) HO.out.m0.lt
  have k7 := fun X : Beyond V7 => X.cell (HO.out.m0.cell (i := 1) rfl) HO.out.m0.lt
  go_wp2
  rw [show w.heap.size + 1 + 1 = w.heap.size + 2 from rfl, ← HV7.out, ← hpb, ← hpc, ← hpa, ← hpn, ← hpm]
  clear hpa hpb hpc hpn hpm
  refine wp_region_bey V7 (by kernel_rfl) (by kernel_rfl) (Below.refl _ _) ?_
  repeat (go_big_quiet_step (first | (go_at_call 11; exact HL7.out _) | (go_at_call 12; exact HC7.out _) | (go_at_call 13; exact HR7.out _) | (go_at_call 14; exact HQ7.out _) | (go_at_call 15; exact HS7.out _)))
  refine wpQuiet_nil ?_
  rintro _ ⟨Y, rfl⟩
  have HCN := hid (fun X : Beyond V7 => bey_call X (compareB X.now (n1, n2) (a1, a2)))
  have HCBA := hid (fun X : Beyond V7 => bey_call X (compareB X.now (b1, b2) (a1, a2)))
  have HCBC' := hid (fun X : Beyond V7 => bey_call X (compareB X.now (b1, b2) (c1, c2)))
  have HCAC' := hid (fun X : Beyond V7 => bey_call X (compareB X.now (a1, a2) (c1, c2)))
  rw [cmpB_neg (a1, a2) (b1, b2), HCAB.out] at HCBA
  rw [HCBC.out] at HCBC'
  rw [HCAC.out] at HCAC'
  have k8 := fun X : Beyond V7 => X.cell (HO.out.c0.cell (i := 0) rfl) HO.out.c0.lt
  have k9 := fun X : Beyond V7 => X.cell (HO.out.c0.cell (i := 1) rfl) HO.out.c0.lt
  have HOR : Hid (cab = -1 ∨ cab = 0 ∨ cab = 1) := by have := cmpB_or (a1, a2) (b1, b2); rw [HCAB.out] at this; exact this
  have hng : wrap64 (- - cab) = cab := by
    have := HOR.out
    rw [Int.neg_neg]
    exact wrapS (by omega) (by omega)
  have HZ : Hid (cab = 0 ↔ (a1, a2) = (b1, b2)) := by have := cmpB_zero (a := (a1, a2)) (b := (b1, b2)); rw [HCAB.out] at this; exact this
  have HTR : Hid (¬ cab < 0 → ¬ cbc < 0 → 0 ≤ cac) := fun h1 h2 => by
    rw [← HCAB.out, cmpB_lt] at h1
    rw [← HCBC.out, cmpB_lt] at h2
    have h3 : ¬ LtB (a1, a2) (c1, c2) := by
      unfold LtB at *
      simp only at *
      omega
    rw [← cmpB_lt, HCAC.out] at h3
    omega
  have hng2 : wrap64 cab = cab := by
    have := HOR.out
    exact wrapS (by omega) (by omega)
  have HEQ : Hid ((cab = 0 ∧ a1 = b1 ∧ a2 = b2) ∨ ((cab == 0) = false ∧ (a1 == b1) = false) ∨ ((cab == 0) = false ∧ (a1 == b1) = true ∧ (a2 == b2) = false)) := by
    have := HZ.out
    simp only [Prod.mk.injEq] at this
    show _ ∨ _
    simp only [beq_eq_false_iff_ne, beq_iff_eq]
    omega
  clear HCAB HCBC HCAC HQN HQ7 HS7 HR7 HL7
  by_cases hev : ev = 0
  · subst hev
    rw [HUP.out rfl] at HCN
    go_wp2_with fail
    refine (HCN.out Y).mono ?_
    rintro e _ ⟨rfl, Y2, rfl⟩
    go_wp2
    rcases HEQ.out with ⟨rfl, rfl, rfl⟩ | ⟨hc0, hx⟩ | ⟨hc0, hy, hx⟩
    · clear HZ HOR
      refine wp_region_bey V7 (by kernel_rfl) (by kernel_rfl) Y2.is ?_
      repeat (go_big_quiet_step (first | (go_at_call 12; with_reducible exact HC7.out _) | (go_at_call 12; with_reducible exact HCBA.out _)))
      refine wpQuiet_nil ?_
      rintro _ ⟨Y3, rfl⟩
      go_wp2_with fail
      refine (HC7.out Y3).mono ?_
      rintro e _ ⟨rfl, Y4, rfl⟩
      by_cases h2 : cbc < 0
      · go_wp2_with fail
        refine (HCBC'.out Y4).mono ?_
        rintro e _ ⟨rfl, Y5, rfl⟩
        have HBE := hid (bt' HBV.out Y5.is)
        go_wp2
        go_ret
        exact ⟨rfl, HBE.out⟩
      · have h3 := HTR.out (by decide) (by omega)
        go_wp2_with fail
        refine (HCBC'.out Y4).mono ?_
        rintro e _ ⟨rfl, Y5, rfl⟩
        go_wp2_with fail
        refine (HCAC'.out Y5).mono ?_
        rintro e _ ⟨rfl, Y6, rfl⟩
        have HBE := hid (bt' HBV.out Y6.is)
        go_wp2
        go_ret
        exact ⟨ret_bool (by simp), HBE.out⟩
    · clear HZ
      refine wp_region_bey V7 (by kernel_rfl) (by kernel_rfl) Y2.is ?_
      repeat (go_big_quiet_step (first | (go_at_call 12; with_reducible exact HC7.out _) | (go_at_call 12; with_reducible exact HCBA.out _)))
      refine wpQuiet_nil ?_
      rintro _ ⟨Y3, rfl⟩
      clear hc0 hx hng hng2
      by_cases h1 : cab < 0
      · go_wp2_with fail
        refine (HC7.out Y3).mono ?_
        rintro e _ ⟨rfl, Y4, rfl⟩
        have HBE := hid (bt' HBV.out Y4.is)
        go_wp2
        go_ret
        exact ⟨rfl, HBE.out⟩
      · by_cases h2 : cbc < 0
        · go_wp2_with fail
          refine (HC7.out Y3).mono ?_
          rintro e _ ⟨rfl, Y4, rfl⟩
          go_wp2_with fail
          refine (HCBC'.out Y4).mono ?_
          rintro e _ ⟨rfl, Y5, rfl⟩
          have HBE := hid (bt' HBV.out Y5.is)
          go_wp2
          go_ret
          exact ⟨rfl, HBE.out⟩
        · have h3 := HTR.out (by omega) (by omega)
          go_wp2_with fail
          refine (HC7.out Y3).mono ?_
          rintro e _ ⟨rfl, Y4, rfl⟩
          go_wp2_with fail
          refine (HCBC'.out Y4).mono ?_
          rintro e _ ⟨rfl, Y5, rfl⟩
          go_wp2_with fail
          refine (HCAC'.out Y5).mono ?_
          rintro e _ ⟨rfl, Y6, rfl⟩
          have HBE := hid (bt' HBV.out Y6.is)
          go_wp2
          go_ret
          exact ⟨ret_bool (by simp), HBE.out⟩
    · clear HZ
      refine wp_region_bey V7 (by kernel_rfl) (by kernel_rfl) Y2.is ?_
      repeat (go_big_quiet_step (first | (go_at_call 12; with_reducible exact HC7.out _) | (go_at_call 12; with_reducible exact HCBA.out _)))
      refine wpQuiet_nil ?_
      rintro _ ⟨Y3, rfl⟩
      clear hc0 hx hy hng hng2
      by_cases h1 : cab < 0
      · go_wp2_with fail
        refine (HC7.out Y3).mono ?_
        rintro e _ ⟨rfl, Y4, rfl⟩
        have HBE := hid (bt' HBV.out Y4.is)
        go_wp2
        go_ret
        exact ⟨rfl, HBE.out⟩
      · by_cases h2 : cbc < 0
        · go_wp2_with fail
          refine (HC7.out Y3).mono ?_
          rintro e _ ⟨rfl, Y4, rfl⟩
          go_wp2_with fail
          refine (HCBC'.out Y4).mono ?_
          rintro e _ ⟨rfl, Y5, rfl⟩
          have HBE := hid (bt' HBV.out Y5.is)
          go_wp2
          go_ret
          exact ⟨rfl, HBE.out⟩
        · have h3 := HTR.out (by omega) (by omega)
          go_wp2_with fail
          refine (HC7.out Y3).mono ?_
          rintro e _ ⟨rfl, Y4, rfl⟩
          go_wp2_with fail
          refine (HCBC'.out Y4).mono ?_
          rintro e _ ⟨rfl, Y5, rfl⟩
          go_wp2_with fail
          refine (HCAC'.out Y5).mono ?_
          rintro e _ ⟨rfl, Y6, rfl⟩
          have HBE := hid (bt' HBV.out Y6.is)
          go_wp2
          go_ret
          exact ⟨ret_bool (by simp), HBE.out⟩
  · have hev' : (ev == 0) = false := by simpa using hev
    clear hev
    go_wp2
    rcases HEQ.out with ⟨rfl, rfl, rfl⟩ | ⟨hc0, hx⟩ | ⟨hc0, hy, hx⟩
    · clear HZ HOR
      refine wp_region_bey V7 (by kernel_rfl) (by kernel_rfl) Y.is ?_
      repeat (go_big_quiet_step (first | (go_at_call 12; with_reducible exact HC7.out _) | (go_at_call 12; with_reducible exact HCBA.out _)))
      refine wpQuiet_nil ?_
      rintro _ ⟨Y3, rfl⟩
      go_wp2_with fail
      refine (HC7.out Y3).mono ?_
      rintro e _ ⟨rfl, Y4, rfl⟩
      by_cases h2 : cbc < 0
      · go_wp2_with fail
        refine (HCBC'.out Y4).mono ?_
        rintro e _ ⟨rfl, Y5, rfl⟩
        have HBE := hid (bt' HBV.out Y5.is)
        go_wp2
        go_ret
        exact ⟨rfl, HBE.out⟩
      · have h3 := HTR.out (by decide) (by omega)
        go_wp2_with fail
        refine (HCBC'.out Y4).mono ?_
        rintro e _ ⟨rfl, Y5, rfl⟩
        go_wp2_with fail
        refine (HCAC'.out Y5).mono ?_
        rintro e _ ⟨rfl, Y6, rfl⟩
        have HBE := hid (bt' HBV.out Y6.is)
        go_wp2
        go_ret
        exact ⟨ret_bool (by simp), HBE.out⟩
    · clear HZ
      refine wp_region_bey V7 (by kernel_rfl) (by kernel_rfl) Y.is ?_
      repeat (go_big_quiet_step (first | (go_at_call 12; with_reducible exact HC7.out _) | (go_at_call 12; with_reducible exact HCBA.out _)))
      refine wpQuiet_nil ?_
      rintro _ ⟨Y3, rfl⟩
      clear hc0 hx hng hng2
      by_cases h1 : cab < 0
      · go_wp2_with fail
        refine (HC7.out Y3).mono ?_
        rintro e _ ⟨rfl, Y4, rfl⟩
        have HBE := hid (bt' HBV.out Y4.is)
        go_wp2
        go_ret
        exact ⟨rfl, HBE.out⟩
      · by_cases h2 : cbc < 0
        · go_wp2_with fail
          refine (HC7.out Y3).mono ?_
          rintro e _ ⟨rfl, Y4, rfl⟩
          go_wp2_with fail
          refine (HCBC'.out Y4).mono ?_
          rintro e _ ⟨rfl, Y5, rfl⟩
          have HBE := hid (bt' HBV.out Y5.is)
          go_wp2
          go_ret
          exact ⟨rfl, HBE.out⟩
        · have h3 := HTR.out (by omega) (by omega)
          go_wp2_with fail
          refine (HC7.out Y3).mono ?_
          rintro e _ ⟨rfl, Y4, rfl⟩
          go_wp2_with fail
          refine (HCBC'.out Y4).mono ?_
          rintro e _ ⟨rfl, Y5, rfl⟩
          go_wp2_with fail
          refine (HCAC'.out Y5).mono ?_
          rintro e _ ⟨rfl, Y6, rfl⟩
          have HBE := hid (bt' HBV.out Y6.is)
          go_wp2
          go_ret
          exact ⟨ret_bool (by simp), HBE.out⟩
    · clear HZ
      refine wp_region_bey V7 (by kernel_rfl) (by kernel_rfl) Y.is ?_
      repeat (go_big_quiet_step (first | (go_at_call 12; with_reducible exact HC7.out _) | (go_at_call 12; with_reducible exact HCBA.out _)))
      refine wpQuiet_nil ?_
      rintro _ ⟨Y3, rfl⟩
      clear hc0 hx hy hng hng2
      by_cases h1 : cab < 0
      · go_wp2_with fail
        refine (HC7.out Y3).mono ?_
        rintro e _ ⟨rfl, Y4, rfl⟩
        have HBE := hid (bt' HBV.out Y4.is)
        go_wp2
        go_ret
        exact ⟨rfl, HBE.out⟩
      · by_cases h2 : cbc < 0
        · go_wp2_with fail
          refine (HC7.out Y3).mono ?_
          rintro e _ ⟨rfl, Y4, rfl⟩
          go_wp2_with fail
          refine (HCBC'.out Y4).mono ?_
          rintro e _ ⟨rfl, Y5, rfl⟩
          have HBE := hid (bt' HBV.out Y5.is)
          go_wp2
          go_ret
          exact ⟨rfl, HBE.out⟩
        · have h3 := HTR.out (by omega) (by omega)
          go_wp2_with fail
          refine (HC7.out Y3).mono ?_
          rintro e _ ⟨rfl, Y4, rfl⟩
          go_wp2_with fail
          refine (HCBC'.out Y4).mono ?_
          rintro e _ ⟨rfl, Y5, rfl⟩
          go_wp2_with fail
          refine (HCAC'.out Y5).mono ?_
          rintro e _ ⟨rfl, Y6, rfl⟩
          have HBE := hid (bt' HBV.out Y6.is)
          go_wp2
          go_ret
          exact ⟨ret_bool (by simp), HBE.out⟩
end Go.Proofs.Ytdceenejijigdaa
