/-
  The document's log: Put, it waits: at the end.
-/
import Derived.Test.YtjlompnjhmbhhaaGreatOlK0
namespace Go.Proofs.YtjlompnjhmbhhaaGreat
open Go.RowKit Go.Maps
set_option linter.unusedSimpArgs false
set_option maxRecDepth 1000000 in
set_option maxHeartbeats 40000000 in
theorem DlAt.putWaitEnd {w0 w : World} {x cap cap2 : Nat} {g : Dm} {eo fo : Option Addr} (h : DlAt w0 w x g eo cap fo cap2) (y : EvM) (hy : EvOk w0 y) (hm : MayE y.e) (hh : ¬ HasV (vecL (evs g.L)) y.e.o y.e.s) (hk : ¬ KnowM g.W y.e) (hl : g.L.length < 65536) (hr : ¬ ReadyE (vecL (evs g.L)) y.e) (hw : g.W.length < 4096) (hpos : posM g.W y.e = g.W.length) (b1 off1 : Nat) (hao : fo = some ⟨b1, off1, none⟩) : Calls Tryz.prog 7 #[.pointer (some ⟨x, 0, none⟩), y.val] w (RPutP w0 w x (FootR x eo g.L.length cap fo g.W.length cap2) g y) := by
  suffices hsuf : ∀ Y, Y = y → Calls Tryz.prog 7 #[.pointer (some ⟨x, 0, none⟩), y.val] w (RPutP w0 w x (FootR x eo g.L.length cap fo g.W.length cap2) g Y) from hsuf y rfl
  intro Y hYE
  rw [← hYE] at hm hh hk hr hpos
  have H_hm := hid hm
  have H_hh := hid hh
  have H_hk := hid hk
  have H_hl := hid hl
  have H_hr := hid hr
  have H_hw := hid hw
  have H_hpos := hid hpos
  obtain ⟨W1, hW1⟩ : ∃ V, V = w.alloc (.cells y.cells.toArray 33) := ⟨_, rfl⟩
  have hb1 : Below w.heap.size w W1 := by rw [hW1]; exact (Below.refl _ _).alloc (Nat.le_refl _) _
  obtain ⟨pb, hpb⟩ : ∃ q, q = w.heap.size := ⟨_, rfl⟩
  have HK : Hid (Blk W1 pb 33 y.cells) := by rw [hW1, hpb]; exact Blk.new _ _ _
  have HPL : Hid (w.heap.size ≤ pb) := by rw [hpb]; exact Nat.le_refl _
  have H_hao := hid hao
  clear hao
  have H := hid h
  have HY0 : Hid (EvOk w0 Y) := by rw [hYE]; exact hy
  have HMAY : Hid (Calls Tryz.prog 10 #[y.val] W1 fun e w' => e = .returned (.bool (decide (MayE Y.e))) ∧ Below W1.heap.size W1 w') := by rw [hYE]; exact rmayE_any W1 y (hy.below (h.below hb1).bel)
  have HAP := hid (fun V (hV : Below w.heap.size w V) => (h.below hV).applied)
  have HRD : Hid (∀ V, Below w.heap.size w V → Calls Tryz.prog 25 #[.pointer (some ⟨x, 0, none⟩), y.val] V fun e w' => e = .returned (.bool (decide (ReadyE (vecL (evs g.L)) Y.e))) ∧ Below V.heap.size V w') := fun V hV => by rw [hYE]; exact (h.below hV).ready y (hy.below (h.below hV).bel)
  obtain ⟨n, HN⟩ : ∃ n, Hid (g.W.length = n) := ⟨_, hid rfl⟩
  obtain ⟨m, HM⟩ : ∃ m, Hid (g.L.length = m) := ⟨_, hid rfl⟩
  have HNF : Hid (n ≤ 4096) := by rw [← HN.out]; exact h.fewW
  have HMF : Hid (m ≤ 65536) := by rw [← HM.out]; exact h.fewL
  have HCP : Hid (n ≤ cap2) := by rw [← HN.out]; exact h.heldW.2
  have HCL : Hid (m ≤ cap) := by rw [← HM.out]; exact h.heldL.2
  obtain ⟨V0, HV0⟩ : ∃ V0, Hid (vecL (evs g.L) = V0) := ⟨_, hid rfl⟩
  rw [HV0.out] at HAP HRD
  obtain ⟨L0, HL0⟩ : ∃ L, Hid ((plainOf V0).length = L) := ⟨_, hid rfl⟩
  have HB1 := hid hb1
  have HYE := hid hYE
  have HW1 := hid hW1
  have HPB := hid hpb
  clear h hy hb1 hpb hW1 hYE hm hh hk hl hr hw hpos
  obtain ⟨⟨o, s, dp, ct, ep, sk, qt, cl⟩, ao1, cap1⟩ := y
  obtain ⟨XN, HXN⟩ : ∃ m, Hid (dp.length = m) := ⟨_, hid rfl⟩
  simp only [EvM.val, EvM.cells] at HW1 HK HMAY HRD ⊢
  rw [HXN.out] at HW1 HK HMAY HRD ⊢
  have HEQ : Hid (Y.e.o = o ∧ Y.e.s = s) := by rw [HYE.out]; exact ⟨rfl, rfl⟩
  have HIO : Hid (I64 o ∧ I64 s) := by
    have h1 := HY0.out.io
    have h2 := HY0.out.is
    rw [HEQ.out.1] at h1
    rw [HEQ.out.2] at h2
    exact ⟨h1, h2⟩
  have HBX : Hid (∀ V, Below W1.heap.size W1 V → Blk V pb 33 [.int .i64 o, .int .i64 s, .slice ao1 XN cap1, .string ct, .int .i64 ep, .string sk, .int .i64 qt, .bool cl]) := fun V hV => HK.out.below hV HK.out.lt
  have HHA : Hid (∀ V bo cp, HV V bo cp (plainOf V0) → Calls Tryz.prog 22 #[.slice bo L0 cp, .agg #[.int .i64 o, .int .i64 s]] V fun e w' => e = .returned (.bool (decide (HasV V0 Y.e.o Y.e.s))) ∧ Below V.heap.size V w') := fun V bo cp hv => by
    have h1 := rhas_any V bo cp (plainOf V0) L0 HL0.out hv o s
    rw [HEQ.out.1, HEQ.out.2]
    simpa only [hasV_plainOf] using h1
  go_enter Tryz.func7, Tryz.ntmps7
  go_wp2_with fail
  rw [← HW1.out, ← HPB.out]
  refine HMAY.out.mono ?_
  rintro e w2 ⟨rfl, hb2⟩
  have HB12 := hid hb2
  have HB2 := hid (bt HB1.out hb2)
  clear hb2 HMAY
  rw [decide_eq_true H_hm.out]
  have HMY := H_hm
  have HSA2 : Hid (∀ V, Sc w2 V → (Sc w2 V ∧ V.cell? ⟨pb, 0, none⟩ = some (.int .i64 o) ∧ V.cell? ⟨pb, 1, none⟩ = some (.int .i64 s))) := fun V hV => by
    have h1 := HBX.out V (bt HB12.out hV.out)
    exact ⟨hV, h1.cell rfl, h1.cell rfl⟩
  have HCA : Hid (∀ V, Sc w2 V → Calls Tryz.prog 23 #[.pointer (some ⟨x, 0, none⟩)] V fun e w' => ∃ bo cp, e = .returned (.slice bo L0 cp) ∧ Hid (HV w' bo cp (plainOf V0)) ∧ Sc w2 w') := fun V hV => by
    refine (HAP.out V (bt HB2.out hV.out)).mono ?_
    rintro e w' ⟨bo, cp, rfl, h1, h2⟩
    rw [HL0.out]
    exact ⟨bo, cp, rfl, h1, hV.go h2⟩
  have HCH : Hid (∀ V bo cp, Sc w2 V → HV V bo cp (plainOf V0) → Calls Tryz.prog 22 #[.slice bo L0 cp, .agg #[.int .i64 o, .int .i64 s]] V fun e w' => e = .returned (.bool (decide (HasV V0 Y.e.o Y.e.s))) ∧ Sc w2 w') := fun V bo cp hV hv => by
    refine (HHA.out V bo cp hv).mono ?_
    rintro e w' ⟨rfl, h2⟩
    exact ⟨rfl, hV.go h2⟩
  go_wp2
  go_region_held3 (fun V => Sc w2 V ∧ V.cell? ⟨pb, 0, none⟩ = some (.int .i64 o) ∧ V.cell? ⟨pb, 1, none⟩ = some (.int .i64 s))
    ((refine HSA2.out _ ?_; (repeat (first | with_reducible assumption | exact Sc.start _ | apply Sc.dr | apply Sc.alloc))))
    (first
      | (go_at_call 23; with_reducible refine (HCA.out _ (by (repeat (first | with_reducible assumption | exact Sc.start _ | apply Sc.dr)))).mono ?_; rintro e w3 ⟨b3, c3, rfl, HV3, hs3⟩)
      | (go_at_call 22; with_reducible refine (HCH.out _ _ _ hs3 HV3.out).mono ?_; rintro e w4 ⟨rfl, hs4⟩)
      | fail)
  have HB24 := hid hs4.out
  have HB4 := hid (bt HB2.out hs4.out)
  clear hs3 hs4 HV3 HCA HCH HSA2
  have HHN : Hid (¬ HasV V0 Y.e.o Y.e.s) := by have := H_hh.out; rw [HV0.out] at this; exact this
  rw [decide_eq_false HHN.out]
  go_wp2
  go_loopw [6] (fun i wr => ∃ k : Nat, k ≤ n ∧ i = .int .i64 k ∧ Hid (AheadM g.W Y.e k) ∧ Hid (Below w4.heap.size w4 wr)) (fun i _ => n - (intOf i).toNat)
  case atStart => exact ⟨0, Nat.zero_le _, rfl, fun j _ h => (by omega), Below.refl _ _⟩
  case round =>
    obtain ⟨k, hk, rfl, HLO, HBR⟩ := hrel
    have HBW := hid (bt HB4.out HBR.out)
    have HBK := hid (bt HB12.out (bt HB24.out HBR.out))
    have HR := hid (H.out.below HBW.out)
    have HKN : Hid (k ≤ n) := hk
    have hk0 : (0 : Int) ≤ (k : Int) := by omega
    have e1 := HR.out.blk.cell (i := 1) rfl
    rw [HN.out] at e1
    have hxl := HR.out.blk.lt
    have hbx := HBX.out wr HBK.out
    have hpl := hbx.lt
    have ke1 := fun X : Beyond wr => X.cell e1 hxl
    have kb0 := fun X : Beyond wr => X.cell (hbx.cell (i := 0) rfl) hpl
    have kb1 := fun X : Beyond wr => X.cell (hbx.cell (i := 1) rfl) hpl
    clear e1 hbx hxl hpl
    by_cases hlt : k < n
    · have hlt' : (k : Int) < (n : Int) := by omega
      have hld : decide ((k : Int) < (n : Int)) = true := decide_eq_true (by omega)
      have hle : decide (k < n) = true := decide_eq_true hlt
      have HKX : Hid (k < g.W.length) := by rw [HN.out]; exact hlt
      have HKM : Hid (k + 1 ≤ n) := (by omega : k + 1 ≤ n)
      have hwk : wrap64 ((k : Int) + 1) = (k : Int) + 1 := wrapN (by omega) (by have := HNF.out; omega)
      obtain ⟨b, off, hao, hbl, a0, a1, _⟩ := HR.out.heldW.1.at HKX.out
      obtain ⟨q, HQ⟩ : ∃ z, Hid (g.W[k]'HKX.out = z) := ⟨_, hid rfl⟩
      rw [HQ.out] at a0 a1
      obtain ⟨⟨qo, qs, qd, qc, qe, qk, qq, ql⟩, qa, qp⟩ := q
      simp only at a0 a1
      have ka0 := fun X : Beyond wr => X.cell a0 hbl
      have ka1 := fun X : Beyond wr => X.cell a1 hbl
      have HLS : Hid (∀ X : Beyond wr, Calls Tryz.prog 24 #[.agg #[.int .i64 qo, .int .i64 qs], .agg #[.int .i64 o, .int .i64 s]] X.now (fun e w'' => e = .returned (.bool (lessO (g.W[k]'HKX.out).e Y.e)) ∧ ∃ Z : Beyond wr, w'' = Z.now)) := fun X => by
        have h2 : lessO (g.W[k]'HKX.out).e Y.e = decide (LessD qo qs o s) := by
          rw [HQ.out]
          unfold lessO
          rw [HEQ.out.1, HEQ.out.2]
          exact decide_eq_decide.2 Iff.rfl
        rw [h2]
        exact beyond_call X (rless_dot X.now qo qs o s)
      subst hao
      clear a0 a1 hbl
      obtain ⟨lb, HLB⟩ : ∃ lb, Hid (lessO (g.W[k]'HKX.out).e Y.e = lb) := ⟨_, hid rfl⟩
      rw [HLB.out] at HLS
      cases lb with
      | true =>
        have HNX : Hid (AheadM g.W Y.e (k + 1)) := fun j hj hjk => by
          by_cases e : j = k
          · subst e; exact HLB.out
          · exact HLO.out j hj (by omega)
        clear hlt hk
        go_wp2
        refine wp_region_beyond wr (by kernel_rfl) (by kernel_rfl) (Below.refl _ _) ?_
        repeat (go_big_quiet_step (first | (go_at_call 24; exact HLS.out _) | fail))
        refine wpQuiet_nil ?_
        rintro _ ⟨X, rfl⟩
        have HXX := hid (bt HBR.out X.is)
        clear ke1 kb0 kb1 ka0 ka1 HLS
        go_wp2
        go_roundw
        case rel => exact ⟨k + 1, HKM.out, by go_num, HNX.out, HXX.out⟩
        case measure => first | exact measNW HKM.out hwk | exact measN1 HKM.out
      | false =>
        exfalso
        have h1 := posM_at HKX.out HLO.out HLB.out
        have h2 := H_hpos.out
        have h3 := HKX.out
        omega
    · have hlt' : ¬ (k : Int) < (n : Int) := by omega
      have hld : decide ((k : Int) < (n : Int)) = false := decide_eq_false (by omega)
      have hle : decide (k < n) = false := decide_eq_false hlt
      have HKE : Hid (k = posM g.W Y.e) := by
        have h1 : k = g.W.length := by have := HN.out; omega
        show _ = _
        rw [h1]
        exact posM_end (by rw [← h1]; exact HLO.out)
      have HKW : Hid (¬ KnowM g.W Y.e) := by
        rintro ⟨h1, _⟩
        have := HKE.out
        have := HN.out
        omega
      clear hlt hk
      go_wp2
      refine wp_region_beyond wr (by kernel_rfl) (by kernel_rfl) (Below.refl _ _) ?_
      repeat (go_big_quiet_step (fail))
      refine wpQuiet_nil ?_
      rintro _ ⟨X, rfl⟩
      have c2 := ke1 X
      have HX := hid X.is
      obtain ⟨w7, HW7⟩ : ∃ V, Hid (V = X.now) := ⟨_, hid rfl⟩
      rw [← HW7.out] at c2 HX ⊢
      clear ke1 kb0 kb1
      go_wp2
      go_quiet (fail)
      have HB7 := hid (below_dn (bt HBW.out HX.out) nq)
      obtain ⟨w8, HW8⟩ : ∃ V, Hid (V = w7.drewN nq) := ⟨_, hid rfl⟩
      rw [← HW8.out] at HB7 ⊢
      have HBK8 : Hid (Below W1.heap.size W1 w8) := by rw [HW8.out]; exact below_dn (bt HBK.out HX.out) nq
      clear c2
      have hao := H_hao.out
      subst hao
      have HR8 := hid (H.out.below HB7.out)
      have d0 := HR8.out.blk.cell (i := 0) rfl
      rw [HM.out] at d0
      have HFL : Hid (m < 65536) := by rw [← HM.out]; exact H_hl.out
      have hfd : decide ((65536 : Int) ≤ (m : Int)) = false := decide_eq_false (by have := HFL.out; omega)
      have hfe : decide (65536 ≤ m) = false := decide_eq_false (by have := HFL.out; omega)
      have k0 := (HBX.out _ HBK8.out).cell (i := 0) rfl
      have k1 := (HBX.out _ HBK8.out).cell (i := 1) rfl
      have k2 := (HBX.out _ HBK8.out).cell (i := 2) rfl
      have k3 := (HBX.out _ HBK8.out).cell (i := 3) rfl
      have k4 := (HBX.out _ HBK8.out).cell (i := 4) rfl
      have k5 := (HBX.out _ HBK8.out).cell (i := 5) rfl
      have k6 := (HBX.out _ HBK8.out).cell (i := 6) rfl
      have k7 := (HBX.out _ HBK8.out).cell (i := 7) rfl
      go_wp2_with fail
      refine (HRD.out _ HB7.out).mono ?_
      rintro e w9 ⟨rfl, hb9⟩
      have HB9 := hid (bt HB7.out hb9)
      have HBK9 := hid (bt HBK8.out hb9)
      have HR9 := hid (H.out.below HB9.out)
      clear hb9 d0 k0 k1 k2 k3 k4 k5 k6 k7 hfd hfe
      have HNR : Hid (¬ ReadyE V0 Y.e) := by have := H_hr.out; rw [HV0.out] at this; exact this
      have HNL : Hid (n < 4096) := by rw [← HN.out]; exact H_hw.out
      rw [decide_eq_false HNR.out]
      have d1 := HR9.out.blk.cell (i := 1) rfl
      rw [HN.out] at d1
      have hfd4 : decide ((4096 : Int) ≤ (n : Int)) = false := decide_eq_false (by have := HNL.out; omega)
      have hfe4 : decide (4096 ≤ n) = false := decide_eq_false (by have := HNL.out; omega)
      have hkn : (k : Int) ≤ (n : Int) := by have := HKN.out; omega
      have hkc : (k : Int) ≤ (cap2 : Int) := by have := HKN.out; have := HCP.out; omega
      have hnc : (n : Int) ≤ (cap2 : Int) := by have := HCP.out; omega
      have HYV : Hid (EvOk w0 ⟨⟨o, s, dp, ct, ep, sk, qt, cl⟩, ao1, cap1⟩) := by rw [← HYE.out]; exact HY0.out
      have HW0 : Hid (∀ V, Sc w9 V → Below w0.heap.size w0 V) := fun V hV => (HR9.out.below hV.out).bel
      have HHX : Hid (∀ V, Sc w9 V → HeldE V (some ⟨b1, off1, none⟩) g.W) := fun V hV => (HR9.out.below hV.out).heldW.1
      have HZT : Hid (AllOk w0 (g.W.take k)) := fun z hz => HR9.out.okW z (List.mem_of_mem_take hz)
      have HZY : Hid (AllOk w0 [⟨⟨o, s, dp, ct, ep, sk, qt, cl⟩, ao1, cap1⟩]) := fun z hz => by rw [List.mem_singleton.1 hz]; exact HYV.out
      have HZ2 : Hid (AllOk w0 (g.W.take k ++ [⟨⟨o, s, dp, ct, ep, sk, qt, cl⟩, ao1, cap1⟩])) := fun z hz => (List.mem_append.1 hz).elim (HZT.out z) (HZY.out z)
      have HZ3 : Hid (AllOk w0 (g.W.take k ++ [⟨⟨o, s, dp, ct, ep, sk, qt, cl⟩, ao1, cap1⟩] ++ g.W.drop k)) := fun z hz => (List.mem_append.1 hz).elim (HZ2.out z) (fun h => HR9.out.okW z (List.mem_of_mem_drop h))
      have HH3 : Hid (∀ V, Sc w9 V → HeldE (V.alloc (.cells #[.int .i64 o, .int .i64 s, .slice ao1 XN cap1, .string ct, .int .i64 ep, .string sk, .int .i64 qt, .bool cl] 33)) (some ⟨V.heap.size, 0, none⟩) [⟨⟨o, s, dp, ct, ep, sk, qt, cl⟩, ao1, cap1⟩]) := fun V hV => by
        have h1 := held_newE (V := V) (y := ⟨⟨o, s, dp, ct, ep, sk, qt, cl⟩, ao1, cap1⟩) (HYV.out.below (HW0.out _ (hV.alloc _)))
        simp only [EvM.cells] at h1
        rw [HXN.out] at h1
        exact h1
      have HHA : Hid (∀ V, Sc w9 V → HeldE ((V.alloc (.cells #[.int .i64 o, .int .i64 s, .slice ao1 XN cap1, .string ct, .int .i64 ep, .string sk, .int .i64 qt, .bool cl] 33)).alloc (.cells #[] 33)).drew (some ⟨V.heap.size, 0, none⟩) [⟨⟨o, s, dp, ct, ep, sk, qt, cl⟩, ao1, cap1⟩]) := fun V hV => (HH3.out V hV).below (((Below.refl _ _).alloc (Nat.le_refl _) _).drew)
      have HHB : Hid (∀ V, Sc w9 V → HeldE ((V.alloc (.cells #[] 33)).alloc (.cells #[.int .i64 o, .int .i64 s, .slice ao1 XN cap1, .string ct, .int .i64 ep, .string sk, .int .i64 qt, .bool cl] 33)).drew (some ⟨V.heap.size + 1, 0, none⟩) [⟨⟨o, s, dp, ct, ep, sk, qt, cl⟩, ao1, cap1⟩]) := fun V hV => by
        have h1 := HH3.out (V.alloc (.cells #[] 33)) (hV.alloc _)
        rw [World.size_alloc] at h1
        exact h1.below (Below.refl _ _).drew
      have HSA : Hid (∀ V, Sc w9 V → (Sc w9 V ∧ V.cell? ⟨x, 1, none⟩ = some (.slice (some ⟨b1, off1, none⟩) n cap2) ∧ V.cell? ⟨pb, 0, none⟩ = some (.int .i64 o) ∧ V.cell? ⟨pb, 1, none⟩ = some (.int .i64 s) ∧ V.cell? ⟨pb, 2, none⟩ = some (.slice ao1 XN cap1) ∧ V.cell? ⟨pb, 3, none⟩ = some (.string ct) ∧ V.cell? ⟨pb, 4, none⟩ = some (.int .i64 ep) ∧ V.cell? ⟨pb, 5, none⟩ = some (.string sk) ∧ V.cell? ⟨pb, 6, none⟩ = some (.int .i64 qt) ∧ V.cell? ⟨pb, 7, none⟩ = some (.bool cl))) := fun V hV => by
        have h1 := (HR9.out.below hV.out).blk.cell (i := 1) rfl
        rw [HN.out] at h1
        have h2 := HBX.out V (bt HBK9.out hV.out)
        exact ⟨hV, h1, h2.cell rfl, h2.cell rfl, h2.cell rfl, h2.cell rfl, h2.cell rfl, h2.cell rfl, h2.cell rfl, h2.cell rfl⟩
      have HFIN : Hid (∀ w5 W bo cp k r, Sc w9 w5 → k = posM g.W Y.e → r = n + 1 → w5.ownsRow w9.heap.size 33 8 (.slice bo r cp) r (flatE (insM g.W k ⟨⟨o, s, dp, ct, ep, sk, qt, cl⟩, ao1, cap1⟩)) → W = w5.setCell ⟨x, 1, none⟩ (.slice bo r cp) → DlTo w0 w W x (FootR x eo g.L.length cap (some ⟨b1, off1, none⟩) g.W.length cap2) ⟨g.L, insM g.W (posM g.W Y.e) Y⟩) := fun w5 W bo cp k r e1 e2 e3 e4 e5 => by
        subst e2
        rw [← HYE.out] at e4
        have hlen := insM_len (posM_le g.W Y.e) Y
        have h9 := HNL.out
        have h8 := HN.out
        refine dl_newW H.out (insM g.W (posM g.W Y.e) Y) (by rw [hlen, e3, h8]) (by omega) (fun z hz => ?_) (fun z hz => ?_) HB9.out e1 e4 e5
        · rcases insM_mem hz with e | e
          · rw [e]; exact HY0.out
          · exact H.out.okW z e
        · rcases insM_mem hz with e | e
          · rw [e]; exact HMY.out
          · exact H.out.mayW z e
      have hs6 : Sc w9 w9 := Sc.start w9
      go_wp2
      clear d1 hfd4 hfe4
      refine wp_region_noPanic ?_
      refine wp_region_K 21 (fun V => Sc w9 V ∧ V.cell? ⟨x, 1, none⟩ = some (.slice (some ⟨b1, off1, none⟩) n cap2) ∧ V.cell? ⟨pb, 0, none⟩ = some (.int .i64 o) ∧ V.cell? ⟨pb, 1, none⟩ = some (.int .i64 s) ∧ V.cell? ⟨pb, 2, none⟩ = some (.slice ao1 XN cap1) ∧ V.cell? ⟨pb, 3, none⟩ = some (.string ct) ∧ V.cell? ⟨pb, 4, none⟩ = some (.int .i64 ep) ∧ V.cell? ⟨pb, 5, none⟩ = some (.string sk) ∧ V.cell? ⟨pb, 6, none⟩ = some (.int .i64 qt) ∧ V.cell? ⟨pb, 7, none⟩ = some (.bool cl)) (by kernel_rfl) (HSA.out _ hs6.dr) (fun hHeld => ?_)
      have hs0 := hs6.dr
      refine wpAnyK_take (i := 0) (oi := { dst := some 76, op := Go.Op.move (Go.Operand.tmp 0), type := 28, pos := "ref.go:58", after := #[], guard := none }) (v := ?vq32) [] rfl (by kernel_rfl) (by kernel_rfl) (by kernel_rfl) (by kernel_rfl) (by kernel_rfl) (fun _ _ _ h => h) (Or.inl ⟨by rfl, ?hyq32⟩) (by assumption) ?restq32
      case hyq32 => (intro w0 hSw; (try dsimp only at hSw); go_simp; try with_reducible rfl)
      simp only [Act.put, List.setIfInBounds_toArray, List.set_cons_zero, List.set_cons_succ]
      refine wpAnyK_take (i := 2) (oi := { dst := some 78, op := Go.Op.move (Go.Operand.tmp 0), type := 28, pos := "ref.go:58", after := #[], guard := none }) (v := ?vq33) [] rfl (by kernel_rfl) (by kernel_rfl) (by kernel_rfl) (by kernel_rfl) (by kernel_rfl) (fun _ _ _ h => h) (Or.inl ⟨by rfl, ?hyq33⟩) (by assumption) ?restq33
      case hyq33 => (intro w0 hSw; (try dsimp only at hSw); go_simp; try with_reducible rfl)
      simp only [Act.put, List.setIfInBounds_toArray, List.set_cons_zero, List.set_cons_succ]
      refine wpAnyK_take (i := 3) (oi := { dst := some 79, op := Go.Op.nilCheck (Go.Operand.tmp 78), type := 0, pos := "ref.go:58", after := #[{ on := 2, ground := Go.Ground.data }], guard := none }) (v := ?vq34) [] rfl (by kernel_rfl) (by kernel_rfl) (by kernel_rfl) (by kernel_rfl) (by kernel_rfl) (fun _ _ _ h => h) (Or.inl ⟨by rfl, ?hyq34⟩) (by assumption) ?restq34
      case hyq34 => (intro w0 hSw; (try dsimp only at hSw); go_simp; try with_reducible rfl)
      simp only [Act.put, List.setIfInBounds_toArray, List.set_cons_zero, List.set_cons_succ]
      refine wpAnyK_take (i := 4) (oi := { dst := some 80, op := Go.Op.fieldAddr 30 (Go.Operand.tmp 79) 1, type := 0, pos := "ref.go:58", after := #[{ on := 3, ground := Go.Ground.data }], guard := none }) (v := ?vq35) [] rfl (by kernel_rfl) (by kernel_rfl) (by kernel_rfl) (by kernel_rfl) (by kernel_rfl) (fun _ _ _ h => h) (Or.inl ⟨by rfl, ?hyq35⟩) (by assumption) ?restq35
      case hyq35 => (intro w0 hSw; (try dsimp only at hSw); go_simp; try with_reducible rfl)
      simp only [Act.put, List.setIfInBounds_toArray, List.set_cons_zero, List.set_cons_succ]
      refine wpAnyK_take (i := 5) (oi := { dst := some 81, op := Go.Op.load 22 (Go.Operand.tmp 80), type := 22, pos := "ref.go:58", after := #[{ on := 4, ground := Go.Ground.data }], guard := none }) (v := ?vq36) [] rfl (by kernel_rfl) (by kernel_rfl) (by kernel_rfl) (by kernel_rfl) (by kernel_rfl) (fun _ _ _ h => h) (Or.inl ⟨by rfl, ?hyq36⟩) (by assumption) ?restq36
      case hyq36 => (intro w0 hSw; (try dsimp only at hSw); go_simp; try with_reducible rfl)
      simp only [Act.put, List.setIfInBounds_toArray, List.set_cons_zero, List.set_cons_succ]
      refine wpAnyK_take (i := 6) (oi := { dst := some 82, op := Go.Op.move (Go.Operand.tmp 6), type := 3, pos := "ref.go:58", after := #[], guard := none }) (v := ?vq37) [] rfl (by kernel_rfl) (by kernel_rfl) (by kernel_rfl) (by kernel_rfl) (by kernel_rfl) (fun _ _ _ h => h) (Or.inl ⟨by rfl, ?hyq37⟩) (by assumption) ?restq37
      case hyq37 => (intro w0 hSw; (try dsimp only at hSw); go_simp; try with_reducible rfl)
      simp only [Act.put, List.setIfInBounds_toArray, List.set_cons_zero, List.set_cons_succ]
      refine wpAnyK_take (i := 7) (oi := { dst := some 83, op := Go.Op.slice 22 (Go.Operand.tmp 81) none (some (Go.Operand.tmp 82)) none, type := 22, pos := "ref.go:58", after := #[{ on := 5, ground := Go.Ground.data }, { on := 6, ground := Go.Ground.data }], guard := none }) (v := ?vq38) [] rfl (by kernel_rfl) (by kernel_rfl) (by kernel_rfl) (by kernel_rfl) (by kernel_rfl) (fun _ _ _ h => h) (Or.inl ⟨by rfl, ?hyq38⟩) (by assumption) ?restq38
      case hyq38 => (intro w0 hSw; (try dsimp only at hSw); go_simp; try with_reducible rfl)
      simp only [Act.put, List.setIfInBounds_toArray, List.set_cons_zero, List.set_cons_succ]
      refine wpAnyK_take (i := 9) (oi := { dst := some 85, op := Go.Op.load 33 (Go.Operand.tmp 3), type := 33, pos := "ref.go:58", after := #[], guard := none }) (v := ?vq39) [] rfl (by kernel_rfl) (by kernel_rfl) (by kernel_rfl) (by kernel_rfl) (by kernel_rfl) (fun _ _ _ h => h) (Or.inl ⟨by rfl, ?hyq39⟩) (by assumption) ?restq39
      case hyq39 => (intro w0 hSw; (try dsimp only at hSw); go_simp; try with_reducible rfl)
      simp only [Act.put, List.setIfInBounds_toArray, List.set_cons_zero, List.set_cons_succ]
      refine wpAnyK_take (i := 12) (oi := { dst := some 88, op := Go.Op.move (Go.Operand.tmp 0), type := 28, pos := "ref.go:58", after := #[], guard := none }) (v := ?vq40) [] rfl (by kernel_rfl) (by kernel_rfl) (by kernel_rfl) (by kernel_rfl) (by kernel_rfl) (fun _ _ _ h => h) (Or.inl ⟨by rfl, ?hyq40⟩) (by assumption) ?restq40
      case hyq40 => (intro w0 hSw; (try dsimp only at hSw); go_simp; try with_reducible rfl)
      simp only [Act.put, List.setIfInBounds_toArray, List.set_cons_zero, List.set_cons_succ]
      refine wpAnyK_take (i := 13) (oi := { dst := some 89, op := Go.Op.nilCheck (Go.Operand.tmp 88), type := 0, pos := "ref.go:58", after := #[{ on := 12, ground := Go.Ground.data }], guard := none }) (v := ?vq41) [] rfl (by kernel_rfl) (by kernel_rfl) (by kernel_rfl) (by kernel_rfl) (by kernel_rfl) (fun _ _ _ h => h) (Or.inl ⟨by rfl, ?hyq41⟩) (by assumption) ?restq41
      case hyq41 => (intro w0 hSw; (try dsimp only at hSw); go_simp; try with_reducible rfl)
      simp only [Act.put, List.setIfInBounds_toArray, List.set_cons_zero, List.set_cons_succ]
      refine wpAnyK_take (i := 14) (oi := { dst := some 90, op := Go.Op.fieldAddr 30 (Go.Operand.tmp 89) 1, type := 0, pos := "ref.go:58", after := #[{ on := 13, ground := Go.Ground.data }], guard := none }) (v := ?vq42) [] rfl (by kernel_rfl) (by kernel_rfl) (by kernel_rfl) (by kernel_rfl) (by kernel_rfl) (fun _ _ _ h => h) (Or.inl ⟨by rfl, ?hyq42⟩) (by assumption) ?restq42
      case hyq42 => (intro w0 hSw; (try dsimp only at hSw); go_simp; try with_reducible rfl)
      simp only [Act.put, List.setIfInBounds_toArray, List.set_cons_zero, List.set_cons_succ]
      refine wpAnyK_take (i := 15) (oi := { dst := some 91, op := Go.Op.load 22 (Go.Operand.tmp 90), type := 22, pos := "ref.go:58", after := #[{ on := 14, ground := Go.Ground.data }], guard := none }) (v := ?vq43) [] rfl (by kernel_rfl) (by kernel_rfl) (by kernel_rfl) (by kernel_rfl) (by kernel_rfl) (fun _ _ _ h => h) (Or.inl ⟨by rfl, ?hyq43⟩) (by assumption) ?restq43
      case hyq43 => (intro w0 hSw; (try dsimp only at hSw); go_simp; try with_reducible rfl)
      simp only [Act.put, List.setIfInBounds_toArray, List.set_cons_zero, List.set_cons_succ]
      refine wpAnyK_take (i := 16) (oi := { dst := some 92, op := Go.Op.move (Go.Operand.tmp 6), type := 3, pos := "ref.go:58", after := #[], guard := none }) (v := ?vq44) [] rfl (by kernel_rfl) (by kernel_rfl) (by kernel_rfl) (by kernel_rfl) (by kernel_rfl) (fun _ _ _ h => h) (Or.inl ⟨by rfl, ?hyq44⟩) (by assumption) ?restq44
      case hyq44 => (intro w0 hSw; (try dsimp only at hSw); go_simp; try with_reducible rfl)
      simp only [Act.put, List.setIfInBounds_toArray, List.set_cons_zero, List.set_cons_succ]
      refine wpAnyK_take (i := 17) (oi := { dst := some 93, op := Go.Op.slice 22 (Go.Operand.tmp 91) (some (Go.Operand.tmp 92)) none none, type := 22, pos := "ref.go:58", after := #[{ on := 15, ground := Go.Ground.data }, { on := 16, ground := Go.Ground.data }], guard := none }) (v := ?vq45) [] rfl (by kernel_rfl) (by kernel_rfl) (by kernel_rfl) (by kernel_rfl) (by kernel_rfl) (fun _ _ _ h => h) (Or.inl ⟨by rfl, ?hyq45⟩) (by assumption) ?restq45
      case hyq45 => (intro w0 hSw; (try dsimp only at hSw); go_simp; try with_reducible rfl)
      simp only [Act.put, List.setIfInBounds_toArray, List.set_cons_zero, List.set_cons_succ]
      refine wpAnyK_ready (rs := [1, 10]) (by kernel_rfl) (by simp) ?_
      refine AllReadyK.cons (o := { dst := some 77, op := Go.Op.buildSlice 22 0 #[], type := 22, pos := "ref.go:58", after := #[], guard := none }) rfl (fun K hK => ?_) (AllReadyK.cons (o := { dst := some 86, op := Go.Op.buildSlice 22 1 #[(0, Go.Operand.tmp 85)], type := 22, pos := "ref.go:58", after := #[{ on := 9, ground := Go.Ground.data }], guard := none }) rfl (fun K hK => ?_) AllReadyK.nil)
      · go_simp
        refine hK.out _ _ (.inr (HSA.out _ (by (repeat (first | with_reducible assumption | exact Sc.start _ | apply Sc.dr | apply Sc.alloc))))) (fun hHeld => ?_)
        have hHeld := hHeld.resolve_right (by decide)
        clear hK K
        try simp only [Act.put, List.setIfInBounds_toArray, List.set_cons_zero, List.set_cons_succ]
        refine wpAnyK_ready (rs := [8, 10]) (by kernel_rfl) (by simp) ?_
        refine AllReadyK.cons (o := { dst := some 84, op := Go.Op.call { callee := Go.Callee.builtin Go.Builtin.append, args := #[Go.Operand.tmp 77, Go.Operand.tmp 83], argTypes := #[22, 22] }, type := 22, pos := "ref.go:58", after := #[{ on := 1, ground := Go.Ground.data }, { on := 7, ground := Go.Ground.data }], guard := none }) rfl (fun K hK => ?_) (AllReadyK.cons (o := { dst := some 86, op := Go.Op.buildSlice 22 1 #[(0, Go.Operand.tmp 85)], type := 22, pos := "ref.go:58", after := #[{ on := 9, ground := Go.Ground.data }], guard := none }) rfl (fun K hK => ?_) AllReadyK.nil)
        · refine step_copy_evs rfl _ _ rfl w9.heap.size _ rfl ?ownz60 _ _ _ (g.W.take k) ?hmz60 rfl ?hhz60 ?hsumz60 ?hbasez60 ?hokz60 ?restz60
          case ownz60 => first | exact ownE_made w9 _ (Nat.le_refl _) | exact (ownE_made w9 _ (Nat.le_refl _)).alloc _ | exact ownE_made2 w9 _ _ (Nat.le_refl _)
          case hmz60 => have := HN.out; have := HKN.out; rw [List.length_take]; omega
          case hhz60 => exact (HHX.out _ (by (repeat (first | with_reducible assumption | exact Sc.start _ | apply Sc.dr | apply Sc.alloc)))).take k
          case hsumz60 => have := HKN.out; have := HNL.out; omega
          case hbasez60 => exact Sc.size (by (repeat (first | with_reducible assumption | exact Sc.start _ | apply Sc.dr | apply Sc.alloc)))
          case hokz60 => exact fun V hV => Dl0 HZT.out (HW0.out V (Sc.grown (by (repeat (first | with_reducible assumption | exact Sc.start _ | apply Sc.dr | apply Sc.alloc))) hV))
          intro b3 c3 w5 hown3 hh3 hb3 hg3
          have hsc3 : Sc w9 w5 := Sc.grown (by (repeat (first | with_reducible assumption | exact Sc.start _ | apply Sc.dr | apply Sc.alloc))) hb3
          refine hK.out _ _ (.inr (HSA.out _ (by (repeat (first | with_reducible assumption | exact Sc.start _ | apply Sc.dr | apply Sc.alloc))))) (fun hHeld => ?_)
          have hHeld := hHeld.resolve_right (by decide)
          clear hK K
          try simp only [Act.put, List.setIfInBounds_toArray, List.set_cons_zero, List.set_cons_succ]
          refine wpAnyK_ready (rs := [10]) (by kernel_rfl) (by simp) ?_
          refine AllReadyK.cons (o := { dst := some 86, op := Go.Op.buildSlice 22 1 #[(0, Go.Operand.tmp 85)], type := 22, pos := "ref.go:58", after := #[{ on := 9, ground := Go.Ground.data }], guard := none }) rfl (fun K hK => ?_) AllReadyK.nil
          go_simp
          refine hK.out _ _ (.inr (HSA.out _ (by (repeat (first | with_reducible assumption | exact Sc.start _ | apply Sc.dr | apply Sc.alloc))))) (fun hHeld => ?_)
          have hHeld := hHeld.resolve_right (by decide)
          clear hK K
          try simp only [Act.put, List.setIfInBounds_toArray, List.set_cons_zero, List.set_cons_succ]
          refine wpAnyK_ready (rs := [11]) (by kernel_rfl) (by simp) ?_
          refine AllReadyK.cons (o := { dst := some 87, op := Go.Op.call { callee := Go.Callee.builtin Go.Builtin.append, args := #[Go.Operand.tmp 84, Go.Operand.tmp 86], argTypes := #[22, 22] }, type := 22, pos := "ref.go:58", after := #[{ on := 8, ground := Go.Ground.data }, { on := 10, ground := Go.Ground.data }, { on := 8, ground := Go.Ground.chain }], guard := none }) rfl (fun K hK => ?_) AllReadyK.nil
          refine step_append_evs rfl _ _ rfl w9.heap.size _ _ (g.W.take k) ?hnz51 rfl (hown3.alloc _) _ 1 1 [(⟨⟨o, s, dp, ct, ep, sk, qt, cl⟩, ao1, cap1⟩ : EvM)] rfl rfl ?hhz51 ?hsumz51 ?hbasez51 ?hokz51 ?restz51
          case hnz51 => have := HN.out; have := HKN.out; rw [List.length_take]; omega
          case hhz51 => exact HH3.out _ (by (repeat (first | with_reducible assumption | exact Sc.start _ | apply Sc.dr | apply Sc.alloc)))
          case hsumz51 => have := HKN.out; have := HNL.out; omega
          case hbasez51 => exact Sc.size (by (repeat (first | with_reducible assumption | exact Sc.start _ | apply Sc.dr | apply Sc.alloc)))
          case hokz51 => exact fun V hV => Dl0 HZ2.out (HW0.out V (Sc.grown (by (repeat (first | with_reducible assumption | exact Sc.start _ | apply Sc.dr | apply Sc.alloc))) hV))
          intro b4 c4 w7x hown4 hh4 hb4 hg4
          have hsc4 : Sc w9 w7x := Sc.grown (by (repeat (first | with_reducible assumption | exact Sc.start _ | apply Sc.dr | apply Sc.alloc))) hb4
          refine hK.out _ _ (.inr (HSA.out _ (by (repeat (first | with_reducible assumption | exact Sc.start _ | apply Sc.dr | apply Sc.alloc))))) (fun hHeld => ?_)
          have hHeld := hHeld.resolve_right (by decide)
          clear hK K
          try simp only [Act.put, List.setIfInBounds_toArray, List.set_cons_zero, List.set_cons_succ]
          refine wpAnyK_ready (rs := [18]) (by kernel_rfl) (by simp) ?_
          refine AllReadyK.cons (o := { dst := some 94, op := Go.Op.call { callee := Go.Callee.builtin Go.Builtin.append, args := #[Go.Operand.tmp 87, Go.Operand.tmp 93], argTypes := #[22, 22] }, type := 22, pos := "ref.go:58", after := #[{ on := 11, ground := Go.Ground.data }, { on := 17, ground := Go.Ground.data }, { on := 11, ground := Go.Ground.chain }], guard := none }) rfl (fun K hK => ?_) AllReadyK.nil
          refine step_append_evs rfl _ _ rfl w9.heap.size _ _ (g.W.take k ++ [(⟨⟨o, s, dp, ct, ep, sk, qt, cl⟩, ao1, cap1⟩ : EvM)]) ?hnz52 rfl hown4 _ _ _ (g.W.drop k) ?hmz52 rfl ?hhz52 ?hsumz52 ?hbasez52 ?hokz52 ?restz52
          case hnz52 => have := HN.out; have := HKN.out; rw [List.length_append, List.length_take, List.length_singleton]; omega
          case hmz52 => have := HN.out; have := HKN.out; rw [List.length_drop]; omega
          case hhz52 => first | exact (HHX.out _ (by (repeat (first | with_reducible assumption | exact Sc.start _ | apply Sc.dr | apply Sc.alloc)))).drop k | exact held_dropE (HHX.out _ (by (repeat (first | with_reducible assumption | exact Sc.start _ | apply Sc.dr | apply Sc.alloc)))) k (by have := HN.out; have := HCP.out; omega)
          case hsumz52 => have := HKN.out; have := HNL.out; omega
          case hbasez52 => exact Sc.size (by (repeat (first | with_reducible assumption | exact Sc.start _ | apply Sc.dr | apply Sc.alloc)))
          case hokz52 => exact fun V hV => Dl0 HZ3.out (HW0.out V (Sc.grown (by (repeat (first | with_reducible assumption | exact Sc.start _ | apply Sc.dr | apply Sc.alloc))) hV))
          intro b5 c5 w8x hown5 hh5 hb5 hg5
          have hsc5 : Sc w9 w8x := Sc.grown (by (repeat (first | with_reducible assumption | exact Sc.start _ | apply Sc.dr | apply Sc.alloc))) hb5
          refine hK.out _ _ (.inr (HSA.out _ (by (repeat (first | with_reducible assumption | exact Sc.start _ | apply Sc.dr | apply Sc.alloc))))) (fun hHeld => ?_)
          have hHeld := hHeld.resolve_right (by decide)
          clear hK K
          try simp only [Act.put, List.setIfInBounds_toArray, List.set_cons_zero, List.set_cons_succ]
          have hpk5 := (HR9.out.below hsc5.out).blk
          have f5 := hpk5.frozen 1
          have e5 := hpk5.cell (i := 1) rfl
          rw [HN.out] at e5
          refine wpAnyK_take (i := 19) (oi := { dst := some 95, op := Go.Op.nilCheck (Go.Operand.tmp 76), type := 0, pos := "ref.go:58", after := #[{ on := 0, ground := Go.Ground.data }, { on := 0, ground := Go.Ground.phase }, { on := 1, ground := Go.Ground.phase }, { on := 2, ground := Go.Ground.phase }, { on := 3, ground := Go.Ground.phase }, { on := 4, ground := Go.Ground.phase }, { on := 5, ground := Go.Ground.phase }, { on := 6, ground := Go.Ground.phase }, { on := 7, ground := Go.Ground.phase }, { on := 8, ground := Go.Ground.phase }, { on := 9, ground := Go.Ground.phase }, { on := 10, ground := Go.Ground.phase }, { on := 11, ground := Go.Ground.phase }, { on := 12, ground := Go.Ground.phase }, { on := 13, ground := Go.Ground.phase }, { on := 14, ground := Go.Ground.phase }, { on := 15, ground := Go.Ground.phase }, { on := 16, ground := Go.Ground.phase }, { on := 17, ground := Go.Ground.phase }, { on := 18, ground := Go.Ground.phase }], guard := none }) (v := ?vq53) [20] rfl (by kernel_rfl) (by kernel_rfl) (by kernel_rfl) (by kernel_rfl) (by kernel_rfl) (fun _ _ _ h => h) (Or.inl ⟨by rfl, ?hyq53⟩) (by assumption) ?restq53
          case hyq53 => (intro w0 hSw; (try dsimp only at hSw); go_simp; try with_reducible rfl)
          simp only [Act.put, List.setIfInBounds_toArray, List.set_cons_zero, List.set_cons_succ]
          refine wpAnyK_take (i := 20) (oi := { dst := some 96, op := Go.Op.fieldAddr 30 (Go.Operand.tmp 95) 1, type := 0, pos := "ref.go:58", after := #[{ on := 19, ground := Go.Ground.data }, { on := 0, ground := Go.Ground.phase }, { on := 1, ground := Go.Ground.phase }, { on := 2, ground := Go.Ground.phase }, { on := 3, ground := Go.Ground.phase }, { on := 4, ground := Go.Ground.phase }, { on := 5, ground := Go.Ground.phase }, { on := 6, ground := Go.Ground.phase }, { on := 7, ground := Go.Ground.phase }, { on := 8, ground := Go.Ground.phase }, { on := 9, ground := Go.Ground.phase }, { on := 10, ground := Go.Ground.phase }, { on := 11, ground := Go.Ground.phase }, { on := 12, ground := Go.Ground.phase }, { on := 13, ground := Go.Ground.phase }, { on := 14, ground := Go.Ground.phase }, { on := 15, ground := Go.Ground.phase }, { on := 16, ground := Go.Ground.phase }, { on := 17, ground := Go.Ground.phase }, { on := 18, ground := Go.Ground.phase }], guard := none }) (v := ?vq54) [] rfl (by kernel_rfl) (by kernel_rfl) (by kernel_rfl) (by kernel_rfl) (by kernel_rfl) (fun _ _ _ h => h) (Or.inl ⟨by rfl, ?hyq54⟩) (by assumption) ?restq54
          case hyq54 => (intro w0 hSw; (try dsimp only at hSw); go_simp; try with_reducible rfl)
          simp only [Act.put, List.setIfInBounds_toArray, List.set_cons_zero, List.set_cons_succ]
          refine wpAnyK_ready (rs := [21]) (by kernel_rfl) (by simp) ?_
          refine AllReadyK.cons (o := { dst := none, op := Go.Op.store 22 (Go.Operand.tmp 96) (Go.Operand.tmp 94), type := 0, pos := "ref.go:58", after := #[{ on := 20, ground := Go.Ground.data }, { on := 18, ground := Go.Ground.data }, { on := 18, ground := Go.Ground.chain }, { on := 0, ground := Go.Ground.phase }, { on := 1, ground := Go.Ground.phase }, { on := 2, ground := Go.Ground.phase }, { on := 3, ground := Go.Ground.phase }, { on := 4, ground := Go.Ground.phase }, { on := 5, ground := Go.Ground.phase }, { on := 6, ground := Go.Ground.phase }, { on := 7, ground := Go.Ground.phase }, { on := 8, ground := Go.Ground.phase }, { on := 9, ground := Go.Ground.phase }, { on := 10, ground := Go.Ground.phase }, { on := 11, ground := Go.Ground.phase }, { on := 12, ground := Go.Ground.phase }, { on := 13, ground := Go.Ground.phase }, { on := 14, ground := Go.Ground.phase }, { on := 15, ground := Go.Ground.phase }, { on := 16, ground := Go.Ground.phase }, { on := 17, ground := Go.Ground.phase }, { on := 18, ground := Go.Ground.phase }], guard := none }) rfl (fun K hK => ?_) AllReadyK.nil
          go_simp
          refine hK.out _ _ (.inl rfl) (fun _ => ?_)
          clear hK K
          try simp only [Act.put, List.setIfInBounds_toArray, List.set_cons_zero, List.set_cons_succ]
          refine wpAnyK_done (by kernel_rfl) ?_ _
          refine NoPanic.normal ?_
          have HEND := hid (HFIN.out w8x _ b5 c5 k _ hsc5 HKE.out (by have := HKN.out; omega) hown5 rfl)
          clear hown3 hown4 hown5 hh3 hh4 hh5 hsc3 hsc4 hsc5 hb3 hb4 hb5 hg3 hg4 hg5 hHeld hs0 f5 e5 hpk5
          go_wp2
          all_goals (go_ret2; exact RPutP.waits HMY.out (by rw [HV0.out]; exact HHN.out) HKW.out (by rw [HM.out]; exact HFL.out) (by rw [HV0.out]; exact HNR.out) (by rw [HN.out]; exact HNL.out) HEND.out)
        · go_simp
          refine hK.out _ _ (.inr (HSA.out _ (by (repeat (first | with_reducible assumption | exact Sc.start _ | apply Sc.dr | apply Sc.alloc))))) (fun hHeld => ?_)
          have hHeld := hHeld.resolve_right (by decide)
          clear hK K
          try simp only [Act.put, List.setIfInBounds_toArray, List.set_cons_zero, List.set_cons_succ]
          refine wpAnyK_ready (rs := [8]) (by kernel_rfl) (by simp) ?_
          refine AllReadyK.cons (o := { dst := some 84, op := Go.Op.call { callee := Go.Callee.builtin Go.Builtin.append, args := #[Go.Operand.tmp 77, Go.Operand.tmp 83], argTypes := #[22, 22] }, type := 22, pos := "ref.go:58", after := #[{ on := 1, ground := Go.Ground.data }, { on := 7, ground := Go.Ground.data }], guard := none }) rfl (fun K hK => ?_) AllReadyK.nil
          refine step_copy_evs rfl _ _ rfl w9.heap.size _ rfl ?ownz46 _ _ _ (g.W.take k) ?hmz46 rfl ?hhz46 ?hsumz46 ?hbasez46 ?hokz46 ?restz46
          case ownz46 => first | exact ownE_made w9 _ (Nat.le_refl _) | exact (ownE_made w9 _ (Nat.le_refl _)).alloc _ | exact ownE_made2 w9 _ _ (Nat.le_refl _)
          case hmz46 => have := HN.out; have := HKN.out; rw [List.length_take]; omega
          case hhz46 => exact (HHX.out _ (by (repeat (first | with_reducible assumption | exact Sc.start _ | apply Sc.dr | apply Sc.alloc)))).take k
          case hsumz46 => have := HKN.out; have := HNL.out; omega
          case hbasez46 => exact Sc.size (by (repeat (first | with_reducible assumption | exact Sc.start _ | apply Sc.dr | apply Sc.alloc)))
          case hokz46 => exact fun V hV => Dl0 HZT.out (HW0.out V (Sc.grown (by (repeat (first | with_reducible assumption | exact Sc.start _ | apply Sc.dr | apply Sc.alloc))) hV))
          intro b3 c3 w5 hown3 hh3 hb3 hg3
          have hsc3 : Sc w9 w5 := Sc.grown (by (repeat (first | with_reducible assumption | exact Sc.start _ | apply Sc.dr | apply Sc.alloc))) hb3
          refine hK.out _ _ (.inr (HSA.out _ (by (repeat (first | with_reducible assumption | exact Sc.start _ | apply Sc.dr | apply Sc.alloc))))) (fun hHeld => ?_)
          have hHeld := hHeld.resolve_right (by decide)
          clear hK K
          try simp only [Act.put, List.setIfInBounds_toArray, List.set_cons_zero, List.set_cons_succ]
          refine wpAnyK_ready (rs := [11]) (by kernel_rfl) (by simp) ?_
          refine AllReadyK.cons (o := { dst := some 87, op := Go.Op.call { callee := Go.Callee.builtin Go.Builtin.append, args := #[Go.Operand.tmp 84, Go.Operand.tmp 86], argTypes := #[22, 22] }, type := 22, pos := "ref.go:58", after := #[{ on := 8, ground := Go.Ground.data }, { on := 10, ground := Go.Ground.data }, { on := 8, ground := Go.Ground.chain }], guard := none }) rfl (fun K hK => ?_) AllReadyK.nil
          refine step_append_evs rfl _ _ rfl w9.heap.size _ _ (g.W.take k) ?hnz47 rfl (hown3) _ 1 1 [(⟨⟨o, s, dp, ct, ep, sk, qt, cl⟩, ao1, cap1⟩ : EvM)] rfl rfl ?hhz47 ?hsumz47 ?hbasez47 ?hokz47 ?restz47
          case hnz47 => have := HN.out; have := HKN.out; rw [List.length_take]; omega
          case hhz47 => exact held_grownE (show HeldE _ (some ⟨w9.heap.size + 1, 0, none⟩) [⟨⟨o, s, dp, ct, ep, sk, qt, cl⟩, ao1, cap1⟩] from HHB.out _ hs6) (Dl0 HZY.out (HW0.out _ hsc3)) hg3 (by simp)
          case hsumz47 => have := HKN.out; have := HNL.out; omega
          case hbasez47 => exact Sc.size (by (repeat (first | with_reducible assumption | exact Sc.start _ | apply Sc.dr | apply Sc.alloc)))
          case hokz47 => exact fun V hV => Dl0 HZ2.out (HW0.out V (Sc.grown (by (repeat (first | with_reducible assumption | exact Sc.start _ | apply Sc.dr | apply Sc.alloc))) hV))
          intro b4 c4 w7x hown4 hh4 hb4 hg4
          have hsc4 : Sc w9 w7x := Sc.grown (by (repeat (first | with_reducible assumption | exact Sc.start _ | apply Sc.dr | apply Sc.alloc))) hb4
          refine hK.out _ _ (.inr (HSA.out _ (by (repeat (first | with_reducible assumption | exact Sc.start _ | apply Sc.dr | apply Sc.alloc))))) (fun hHeld => ?_)
          have hHeld := hHeld.resolve_right (by decide)
          clear hK K
          try simp only [Act.put, List.setIfInBounds_toArray, List.set_cons_zero, List.set_cons_succ]
          refine wpAnyK_ready (rs := [18]) (by kernel_rfl) (by simp) ?_
          refine AllReadyK.cons (o := { dst := some 94, op := Go.Op.call { callee := Go.Callee.builtin Go.Builtin.append, args := #[Go.Operand.tmp 87, Go.Operand.tmp 93], argTypes := #[22, 22] }, type := 22, pos := "ref.go:58", after := #[{ on := 11, ground := Go.Ground.data }, { on := 17, ground := Go.Ground.data }, { on := 11, ground := Go.Ground.chain }], guard := none }) rfl (fun K hK => ?_) AllReadyK.nil
          refine step_append_evs rfl _ _ rfl w9.heap.size _ _ (g.W.take k ++ [(⟨⟨o, s, dp, ct, ep, sk, qt, cl⟩, ao1, cap1⟩ : EvM)]) ?hnz48 rfl hown4 _ _ _ (g.W.drop k) ?hmz48 rfl ?hhz48 ?hsumz48 ?hbasez48 ?hokz48 ?restz48
          case hnz48 => have := HN.out; have := HKN.out; rw [List.length_append, List.length_take, List.length_singleton]; omega
          case hmz48 => have := HN.out; have := HKN.out; rw [List.length_drop]; omega
          case hhz48 => first | exact (HHX.out _ (by (repeat (first | with_reducible assumption | exact Sc.start _ | apply Sc.dr | apply Sc.alloc)))).drop k | exact held_dropE (HHX.out _ (by (repeat (first | with_reducible assumption | exact Sc.start _ | apply Sc.dr | apply Sc.alloc)))) k (by have := HN.out; have := HCP.out; omega)
          case hsumz48 => have := HKN.out; have := HNL.out; omega
          case hbasez48 => exact Sc.size (by (repeat (first | with_reducible assumption | exact Sc.start _ | apply Sc.dr | apply Sc.alloc)))
          case hokz48 => exact fun V hV => Dl0 HZ3.out (HW0.out V (Sc.grown (by (repeat (first | with_reducible assumption | exact Sc.start _ | apply Sc.dr | apply Sc.alloc))) hV))
          intro b5 c5 w8x hown5 hh5 hb5 hg5
          have hsc5 : Sc w9 w8x := Sc.grown (by (repeat (first | with_reducible assumption | exact Sc.start _ | apply Sc.dr | apply Sc.alloc))) hb5
          refine hK.out _ _ (.inr (HSA.out _ (by (repeat (first | with_reducible assumption | exact Sc.start _ | apply Sc.dr | apply Sc.alloc))))) (fun hHeld => ?_)
          have hHeld := hHeld.resolve_right (by decide)
          clear hK K
          try simp only [Act.put, List.setIfInBounds_toArray, List.set_cons_zero, List.set_cons_succ]
          have hpk5 := (HR9.out.below hsc5.out).blk
          have f5 := hpk5.frozen 1
          have e5 := hpk5.cell (i := 1) rfl
          rw [HN.out] at e5
          refine wpAnyK_take (i := 19) (oi := { dst := some 95, op := Go.Op.nilCheck (Go.Operand.tmp 76), type := 0, pos := "ref.go:58", after := #[{ on := 0, ground := Go.Ground.data }, { on := 0, ground := Go.Ground.phase }, { on := 1, ground := Go.Ground.phase }, { on := 2, ground := Go.Ground.phase }, { on := 3, ground := Go.Ground.phase }, { on := 4, ground := Go.Ground.phase }, { on := 5, ground := Go.Ground.phase }, { on := 6, ground := Go.Ground.phase }, { on := 7, ground := Go.Ground.phase }, { on := 8, ground := Go.Ground.phase }, { on := 9, ground := Go.Ground.phase }, { on := 10, ground := Go.Ground.phase }, { on := 11, ground := Go.Ground.phase }, { on := 12, ground := Go.Ground.phase }, { on := 13, ground := Go.Ground.phase }, { on := 14, ground := Go.Ground.phase }, { on := 15, ground := Go.Ground.phase }, { on := 16, ground := Go.Ground.phase }, { on := 17, ground := Go.Ground.phase }, { on := 18, ground := Go.Ground.phase }], guard := none }) (v := ?vq49) [20] rfl (by kernel_rfl) (by kernel_rfl) (by kernel_rfl) (by kernel_rfl) (by kernel_rfl) (fun _ _ _ h => h) (Or.inl ⟨by rfl, ?hyq49⟩) (by assumption) ?restq49
          case hyq49 => (intro w0 hSw; (try dsimp only at hSw); go_simp; try with_reducible rfl)
          simp only [Act.put, List.setIfInBounds_toArray, List.set_cons_zero, List.set_cons_succ]
          refine wpAnyK_take (i := 20) (oi := { dst := some 96, op := Go.Op.fieldAddr 30 (Go.Operand.tmp 95) 1, type := 0, pos := "ref.go:58", after := #[{ on := 19, ground := Go.Ground.data }, { on := 0, ground := Go.Ground.phase }, { on := 1, ground := Go.Ground.phase }, { on := 2, ground := Go.Ground.phase }, { on := 3, ground := Go.Ground.phase }, { on := 4, ground := Go.Ground.phase }, { on := 5, ground := Go.Ground.phase }, { on := 6, ground := Go.Ground.phase }, { on := 7, ground := Go.Ground.phase }, { on := 8, ground := Go.Ground.phase }, { on := 9, ground := Go.Ground.phase }, { on := 10, ground := Go.Ground.phase }, { on := 11, ground := Go.Ground.phase }, { on := 12, ground := Go.Ground.phase }, { on := 13, ground := Go.Ground.phase }, { on := 14, ground := Go.Ground.phase }, { on := 15, ground := Go.Ground.phase }, { on := 16, ground := Go.Ground.phase }, { on := 17, ground := Go.Ground.phase }, { on := 18, ground := Go.Ground.phase }], guard := none }) (v := ?vq50) [] rfl (by kernel_rfl) (by kernel_rfl) (by kernel_rfl) (by kernel_rfl) (by kernel_rfl) (fun _ _ _ h => h) (Or.inl ⟨by rfl, ?hyq50⟩) (by assumption) ?restq50
          case hyq50 => (intro w0 hSw; (try dsimp only at hSw); go_simp; try with_reducible rfl)
          simp only [Act.put, List.setIfInBounds_toArray, List.set_cons_zero, List.set_cons_succ]
          refine wpAnyK_ready (rs := [21]) (by kernel_rfl) (by simp) ?_
          refine AllReadyK.cons (o := { dst := none, op := Go.Op.store 22 (Go.Operand.tmp 96) (Go.Operand.tmp 94), type := 0, pos := "ref.go:58", after := #[{ on := 20, ground := Go.Ground.data }, { on := 18, ground := Go.Ground.data }, { on := 18, ground := Go.Ground.chain }, { on := 0, ground := Go.Ground.phase }, { on := 1, ground := Go.Ground.phase }, { on := 2, ground := Go.Ground.phase }, { on := 3, ground := Go.Ground.phase }, { on := 4, ground := Go.Ground.phase }, { on := 5, ground := Go.Ground.phase }, { on := 6, ground := Go.Ground.phase }, { on := 7, ground := Go.Ground.phase }, { on := 8, ground := Go.Ground.phase }, { on := 9, ground := Go.Ground.phase }, { on := 10, ground := Go.Ground.phase }, { on := 11, ground := Go.Ground.phase }, { on := 12, ground := Go.Ground.phase }, { on := 13, ground := Go.Ground.phase }, { on := 14, ground := Go.Ground.phase }, { on := 15, ground := Go.Ground.phase }, { on := 16, ground := Go.Ground.phase }, { on := 17, ground := Go.Ground.phase }, { on := 18, ground := Go.Ground.phase }], guard := none }) rfl (fun K hK => ?_) AllReadyK.nil
          go_simp
          refine hK.out _ _ (.inl rfl) (fun _ => ?_)
          clear hK K
          try simp only [Act.put, List.setIfInBounds_toArray, List.set_cons_zero, List.set_cons_succ]
          refine wpAnyK_done (by kernel_rfl) ?_ _
          refine NoPanic.normal ?_
          have HEND := hid (HFIN.out w8x _ b5 c5 k _ hsc5 HKE.out (by have := HKN.out; omega) hown5 rfl)
          clear hown3 hown4 hown5 hh3 hh4 hh5 hsc3 hsc4 hsc5 hb3 hb4 hb5 hg3 hg4 hg5 hHeld hs0 f5 e5 hpk5
          go_wp2
          all_goals (go_ret2; exact RPutP.waits HMY.out (by rw [HV0.out]; exact HHN.out) HKW.out (by rw [HM.out]; exact HFL.out) (by rw [HV0.out]; exact HNR.out) (by rw [HN.out]; exact HNL.out) HEND.out)
      · go_simp
        refine hK.out _ _ (.inr (HSA.out _ (by (repeat (first | with_reducible assumption | exact Sc.start _ | apply Sc.dr | apply Sc.alloc))))) (fun hHeld => ?_)
        have hHeld := hHeld.resolve_right (by decide)
        clear hK K
        try simp only [Act.put, List.setIfInBounds_toArray, List.set_cons_zero, List.set_cons_succ]
        refine wpAnyK_ready (rs := [1]) (by kernel_rfl) (by simp) ?_
        refine AllReadyK.cons (o := { dst := some 77, op := Go.Op.buildSlice 22 0 #[], type := 22, pos := "ref.go:58", after := #[], guard := none }) rfl (fun K hK => ?_) AllReadyK.nil
        go_simp
        refine hK.out _ _ (.inr (HSA.out _ (by (repeat (first | with_reducible assumption | exact Sc.start _ | apply Sc.dr | apply Sc.alloc))))) (fun hHeld => ?_)
        have hHeld := hHeld.resolve_right (by decide)
        clear hK K
        try simp only [Act.put, List.setIfInBounds_toArray, List.set_cons_zero, List.set_cons_succ]
        refine wpAnyK_ready (rs := [8]) (by kernel_rfl) (by simp) ?_
        refine AllReadyK.cons (o := { dst := some 84, op := Go.Op.call { callee := Go.Callee.builtin Go.Builtin.append, args := #[Go.Operand.tmp 77, Go.Operand.tmp 83], argTypes := #[22, 22] }, type := 22, pos := "ref.go:58", after := #[{ on := 1, ground := Go.Ground.data }, { on := 7, ground := Go.Ground.data }], guard := none }) rfl (fun K hK => ?_) AllReadyK.nil
        refine step_copy_evs rfl _ _ rfl w9.heap.size _ rfl ?ownz55 _ _ _ (g.W.take k) ?hmz55 rfl ?hhz55 ?hsumz55 ?hbasez55 ?hokz55 ?restz55
        case ownz55 => first | exact ownE_made w9 _ (Nat.le_refl _) | exact (ownE_made w9 _ (Nat.le_refl _)).alloc _ | exact ownE_made2 w9 _ _ (Nat.le_refl _)
        case hmz55 => have := HN.out; have := HKN.out; rw [List.length_take]; omega
        case hhz55 => exact (HHX.out _ (by (repeat (first | with_reducible assumption | exact Sc.start _ | apply Sc.dr | apply Sc.alloc)))).take k
        case hsumz55 => have := HKN.out; have := HNL.out; omega
        case hbasez55 => exact Sc.size (by (repeat (first | with_reducible assumption | exact Sc.start _ | apply Sc.dr | apply Sc.alloc)))
        case hokz55 => exact fun V hV => Dl0 HZT.out (HW0.out V (Sc.grown (by (repeat (first | with_reducible assumption | exact Sc.start _ | apply Sc.dr | apply Sc.alloc))) hV))
        intro b3 c3 w5 hown3 hh3 hb3 hg3
        have hsc3 : Sc w9 w5 := Sc.grown (by (repeat (first | with_reducible assumption | exact Sc.start _ | apply Sc.dr | apply Sc.alloc))) hb3
        refine hK.out _ _ (.inr (HSA.out _ (by (repeat (first | with_reducible assumption | exact Sc.start _ | apply Sc.dr | apply Sc.alloc))))) (fun hHeld => ?_)
        have hHeld := hHeld.resolve_right (by decide)
        clear hK K
        try simp only [Act.put, List.setIfInBounds_toArray, List.set_cons_zero, List.set_cons_succ]
        refine wpAnyK_ready (rs := [11]) (by kernel_rfl) (by simp) ?_
        refine AllReadyK.cons (o := { dst := some 87, op := Go.Op.call { callee := Go.Callee.builtin Go.Builtin.append, args := #[Go.Operand.tmp 84, Go.Operand.tmp 86], argTypes := #[22, 22] }, type := 22, pos := "ref.go:58", after := #[{ on := 8, ground := Go.Ground.data }, { on := 10, ground := Go.Ground.data }, { on := 8, ground := Go.Ground.chain }], guard := none }) rfl (fun K hK => ?_) AllReadyK.nil
        refine step_append_evs rfl _ _ rfl w9.heap.size _ _ (g.W.take k) ?hnz56 rfl (hown3) _ 1 1 [(⟨⟨o, s, dp, ct, ep, sk, qt, cl⟩, ao1, cap1⟩ : EvM)] rfl rfl ?hhz56 ?hsumz56 ?hbasez56 ?hokz56 ?restz56
        case hnz56 => have := HN.out; have := HKN.out; rw [List.length_take]; omega
        case hhz56 => exact held_grownE (show HeldE _ (some ⟨w9.heap.size, 0, none⟩) [⟨⟨o, s, dp, ct, ep, sk, qt, cl⟩, ao1, cap1⟩] from HHA.out _ hs6) (Dl0 HZY.out (HW0.out _ hsc3)) hg3 (by simp)
        case hsumz56 => have := HKN.out; have := HNL.out; omega
        case hbasez56 => exact Sc.size (by (repeat (first | with_reducible assumption | exact Sc.start _ | apply Sc.dr | apply Sc.alloc)))
        case hokz56 => exact fun V hV => Dl0 HZ2.out (HW0.out V (Sc.grown (by (repeat (first | with_reducible assumption | exact Sc.start _ | apply Sc.dr | apply Sc.alloc))) hV))
        intro b4 c4 w7x hown4 hh4 hb4 hg4
        have hsc4 : Sc w9 w7x := Sc.grown (by (repeat (first | with_reducible assumption | exact Sc.start _ | apply Sc.dr | apply Sc.alloc))) hb4
        refine hK.out _ _ (.inr (HSA.out _ (by (repeat (first | with_reducible assumption | exact Sc.start _ | apply Sc.dr | apply Sc.alloc))))) (fun hHeld => ?_)
        have hHeld := hHeld.resolve_right (by decide)
        clear hK K
        try simp only [Act.put, List.setIfInBounds_toArray, List.set_cons_zero, List.set_cons_succ]
        refine wpAnyK_ready (rs := [18]) (by kernel_rfl) (by simp) ?_
        refine AllReadyK.cons (o := { dst := some 94, op := Go.Op.call { callee := Go.Callee.builtin Go.Builtin.append, args := #[Go.Operand.tmp 87, Go.Operand.tmp 93], argTypes := #[22, 22] }, type := 22, pos := "ref.go:58", after := #[{ on := 11, ground := Go.Ground.data }, { on := 17, ground := Go.Ground.data }, { on := 11, ground := Go.Ground.chain }], guard := none }) rfl (fun K hK => ?_) AllReadyK.nil
        refine step_append_evs rfl _ _ rfl w9.heap.size _ _ (g.W.take k ++ [(⟨⟨o, s, dp, ct, ep, sk, qt, cl⟩, ao1, cap1⟩ : EvM)]) ?hnz57 rfl hown4 _ _ _ (g.W.drop k) ?hmz57 rfl ?hhz57 ?hsumz57 ?hbasez57 ?hokz57 ?restz57
        case hnz57 => have := HN.out; have := HKN.out; rw [List.length_append, List.length_take, List.length_singleton]; omega
        case hmz57 => have := HN.out; have := HKN.out; rw [List.length_drop]; omega
        case hhz57 => first | exact (HHX.out _ (by (repeat (first | with_reducible assumption | exact Sc.start _ | apply Sc.dr | apply Sc.alloc)))).drop k | exact held_dropE (HHX.out _ (by (repeat (first | with_reducible assumption | exact Sc.start _ | apply Sc.dr | apply Sc.alloc)))) k (by have := HN.out; have := HCP.out; omega)
        case hsumz57 => have := HKN.out; have := HNL.out; omega
        case hbasez57 => exact Sc.size (by (repeat (first | with_reducible assumption | exact Sc.start _ | apply Sc.dr | apply Sc.alloc)))
        case hokz57 => exact fun V hV => Dl0 HZ3.out (HW0.out V (Sc.grown (by (repeat (first | with_reducible assumption | exact Sc.start _ | apply Sc.dr | apply Sc.alloc))) hV))
        intro b5 c5 w8x hown5 hh5 hb5 hg5
        have hsc5 : Sc w9 w8x := Sc.grown (by (repeat (first | with_reducible assumption | exact Sc.start _ | apply Sc.dr | apply Sc.alloc))) hb5
        refine hK.out _ _ (.inr (HSA.out _ (by (repeat (first | with_reducible assumption | exact Sc.start _ | apply Sc.dr | apply Sc.alloc))))) (fun hHeld => ?_)
        have hHeld := hHeld.resolve_right (by decide)
        clear hK K
        try simp only [Act.put, List.setIfInBounds_toArray, List.set_cons_zero, List.set_cons_succ]
        have hpk5 := (HR9.out.below hsc5.out).blk
        have f5 := hpk5.frozen 1
        have e5 := hpk5.cell (i := 1) rfl
        rw [HN.out] at e5
        refine wpAnyK_take (i := 19) (oi := { dst := some 95, op := Go.Op.nilCheck (Go.Operand.tmp 76), type := 0, pos := "ref.go:58", after := #[{ on := 0, ground := Go.Ground.data }, { on := 0, ground := Go.Ground.phase }, { on := 1, ground := Go.Ground.phase }, { on := 2, ground := Go.Ground.phase }, { on := 3, ground := Go.Ground.phase }, { on := 4, ground := Go.Ground.phase }, { on := 5, ground := Go.Ground.phase }, { on := 6, ground := Go.Ground.phase }, { on := 7, ground := Go.Ground.phase }, { on := 8, ground := Go.Ground.phase }, { on := 9, ground := Go.Ground.phase }, { on := 10, ground := Go.Ground.phase }, { on := 11, ground := Go.Ground.phase }, { on := 12, ground := Go.Ground.phase }, { on := 13, ground := Go.Ground.phase }, { on := 14, ground := Go.Ground.phase }, { on := 15, ground := Go.Ground.phase }, { on := 16, ground := Go.Ground.phase }, { on := 17, ground := Go.Ground.phase }, { on := 18, ground := Go.Ground.phase }], guard := none }) (v := ?vq58) [20] rfl (by kernel_rfl) (by kernel_rfl) (by kernel_rfl) (by kernel_rfl) (by kernel_rfl) (fun _ _ _ h => h) (Or.inl ⟨by rfl, ?hyq58⟩) (by assumption) ?restq58
        case hyq58 => (intro w0 hSw; (try dsimp only at hSw); go_simp; try with_reducible rfl)
        simp only [Act.put, List.setIfInBounds_toArray, List.set_cons_zero, List.set_cons_succ]
        refine wpAnyK_take (i := 20) (oi := { dst := some 96, op := Go.Op.fieldAddr 30 (Go.Operand.tmp 95) 1, type := 0, pos := "ref.go:58", after := #[{ on := 19, ground := Go.Ground.data }, { on := 0, ground := Go.Ground.phase }, { on := 1, ground := Go.Ground.phase }, { on := 2, ground := Go.Ground.phase }, { on := 3, ground := Go.Ground.phase }, { on := 4, ground := Go.Ground.phase }, { on := 5, ground := Go.Ground.phase }, { on := 6, ground := Go.Ground.phase }, { on := 7, ground := Go.Ground.phase }, { on := 8, ground := Go.Ground.phase }, { on := 9, ground := Go.Ground.phase }, { on := 10, ground := Go.Ground.phase }, { on := 11, ground := Go.Ground.phase }, { on := 12, ground := Go.Ground.phase }, { on := 13, ground := Go.Ground.phase }, { on := 14, ground := Go.Ground.phase }, { on := 15, ground := Go.Ground.phase }, { on := 16, ground := Go.Ground.phase }, { on := 17, ground := Go.Ground.phase }, { on := 18, ground := Go.Ground.phase }], guard := none }) (v := ?vq59) [] rfl (by kernel_rfl) (by kernel_rfl) (by kernel_rfl) (by kernel_rfl) (by kernel_rfl) (fun _ _ _ h => h) (Or.inl ⟨by rfl, ?hyq59⟩) (by assumption) ?restq59
        case hyq59 => (intro w0 hSw; (try dsimp only at hSw); go_simp; try with_reducible rfl)
        simp only [Act.put, List.setIfInBounds_toArray, List.set_cons_zero, List.set_cons_succ]
        refine wpAnyK_ready (rs := [21]) (by kernel_rfl) (by simp) ?_
        refine AllReadyK.cons (o := { dst := none, op := Go.Op.store 22 (Go.Operand.tmp 96) (Go.Operand.tmp 94), type := 0, pos := "ref.go:58", after := #[{ on := 20, ground := Go.Ground.data }, { on := 18, ground := Go.Ground.data }, { on := 18, ground := Go.Ground.chain }, { on := 0, ground := Go.Ground.phase }, { on := 1, ground := Go.Ground.phase }, { on := 2, ground := Go.Ground.phase }, { on := 3, ground := Go.Ground.phase }, { on := 4, ground := Go.Ground.phase }, { on := 5, ground := Go.Ground.phase }, { on := 6, ground := Go.Ground.phase }, { on := 7, ground := Go.Ground.phase }, { on := 8, ground := Go.Ground.phase }, { on := 9, ground := Go.Ground.phase }, { on := 10, ground := Go.Ground.phase }, { on := 11, ground := Go.Ground.phase }, { on := 12, ground := Go.Ground.phase }, { on := 13, ground := Go.Ground.phase }, { on := 14, ground := Go.Ground.phase }, { on := 15, ground := Go.Ground.phase }, { on := 16, ground := Go.Ground.phase }, { on := 17, ground := Go.Ground.phase }, { on := 18, ground := Go.Ground.phase }], guard := none }) rfl (fun K hK => ?_) AllReadyK.nil
        go_simp
        refine hK.out _ _ (.inl rfl) (fun _ => ?_)
        clear hK K
        try simp only [Act.put, List.setIfInBounds_toArray, List.set_cons_zero, List.set_cons_succ]
        refine wpAnyK_done (by kernel_rfl) ?_ _
        refine NoPanic.normal ?_
        have HEND := hid (HFIN.out w8x _ b5 c5 k _ hsc5 HKE.out (by have := HKN.out; omega) hown5 rfl)
        clear hown3 hown4 hown5 hh3 hh4 hh5 hsc3 hsc4 hsc5 hb3 hb4 hb5 hg3 hg4 hg5 hHeld hs0 f5 e5 hpk5
        go_wp2
        all_goals (go_ret2; exact RPutP.waits HMY.out (by rw [HV0.out]; exact HHN.out) HKW.out (by rw [HM.out]; exact HFL.out) (by rw [HV0.out]; exact HNR.out) (by rw [HN.out]; exact HNL.out) HEND.out)
end Go.Proofs.YtjlompnjhmbhhaaGreat
