/-
  The document's log: Put, it goes: at the end.
-/
import Derived.Test.YtjlompnjhmbhhaaGreatOlK0
namespace Go.Proofs.YtjlompnjhmbhhaaGreat
open Go.RowKit Go.Maps
set_option linter.unusedSimpArgs false
set_option maxRecDepth 1000000 in
set_option maxHeartbeats 40000000 in
theorem DlAt.putGoEnd {w0 w : World} {x cap cap2 : Nat} {g : Dm} {eo fo : Option Addr} (h : DlAt w0 w x g eo cap fo cap2) (y : EvM) (hy : EvOk w0 y) (hm : MayE y.e) (hh : ¬ HasV (vecL (evs g.L)) y.e.o y.e.s) (hk : ¬ KnowM g.W y.e) (hl : g.L.length < 65536) (hr : ReadyE (vecL (evs g.L)) y.e) (hpos : posM g.W y.e = g.W.length) : Calls Tryz.prog 7 #[.pointer (some ⟨x, 0, none⟩), y.val] w (RPutP w0 w x (FootR x eo g.L.length cap fo g.W.length cap2) g y) := by
  suffices hsuf : ∀ Y, Y = y → Calls Tryz.prog 7 #[.pointer (some ⟨x, 0, none⟩), y.val] w (RPutP w0 w x (FootR x eo g.L.length cap fo g.W.length cap2) g Y) from hsuf y rfl
  intro Y hYE
  rw [← hYE] at hm hh hk hr hpos
  have H_hm := hid hm
  have H_hh := hid hh
  have H_hk := hid hk
  have H_hl := hid hl
  have H_hr := hid hr
  have H_hpos := hid hpos
  obtain ⟨W1, hW1⟩ : ∃ V, V = w.alloc (.cells y.cells.toArray 33) := ⟨_, rfl⟩
  have hb1 : Below w.heap.size w W1 := by rw [hW1]; exact (Below.refl _ _).alloc (Nat.le_refl _) _
  obtain ⟨pb, hpb⟩ : ∃ q, q = w.heap.size := ⟨_, rfl⟩
  have HK : Hid (Blk W1 pb 33 y.cells) := by rw [hW1, hpb]; exact Blk.new _ _ _
  have HPL : Hid (w.heap.size ≤ pb) := by rw [hpb]; exact Nat.le_refl _
  have H := hid h
  have HY0 : Hid (EvOk w0 Y) := by rw [hYE]; exact hy
  have HMAY : Hid (Calls Tryz.prog 10 #[y.val] W1 fun e w' => e = .returned (.bool (decide (MayE Y.e))) ∧ Below W1.heap.size W1 w') := by rw [hYE]; exact rmayE_any W1 y (hy.below (h.below hb1).bel)
  have HAP := hid (fun V (hV : Below w.heap.size w V) => (h.below hV).applied)
  have HRD : Hid (∀ V, Below w.heap.size w V → Calls Tryz.prog 25 #[.pointer (some ⟨x, 0, none⟩), y.val] V fun e w' => e = .returned (.bool (decide (ReadyE (vecL (evs g.L)) Y.e))) ∧ Below V.heap.size V w') := fun V hV => by rw [hYE]; exact (h.below hV).ready y (hy.below (h.below hV).bel)
  obtain ⟨n, HN⟩ : ∃ n, Hid (g.W.length = n) := ⟨_, hid rfl⟩
  obtain ⟨m, HM⟩ : ∃ m, Hid (g.L.length = m) := ⟨_, hid rfl⟩
  have HNF : Hid (n ≤ 4096) := by rw [← HN.out]; exact h.fewW
  have HMF : Hid (m ≤ 65536) := by rw [← HM.out]; exact h.fewL
  have HCP : Hid (n ≤ cap2) := by rw [← HN.out]; exact h.heldW.2
  have HCL : Hid (m ≤ cap) := by rw [← HM.out]; exact h.heldL.2
  obtain ⟨V0, HV0⟩ : ∃ V0, Hid (vecL (evs g.L) = V0) := ⟨_, hid rfl⟩
  rw [HV0.out] at HAP HRD
  obtain ⟨L0, HL0⟩ : ∃ L, Hid ((plainOf V0).length = L) := ⟨_, hid rfl⟩
  have HB1 := hid hb1
  have HYE := hid hYE
  have HW1 := hid hW1
  have HPB := hid hpb
  clear h hy hb1 hpb hW1 hYE hm hh hk hl hr hpos
  obtain ⟨⟨o, s, dp, ct, ep, sk, qt, cl⟩, ao1, cap1⟩ := y
  obtain ⟨XN, HXN⟩ : ∃ m, Hid (dp.length = m) := ⟨_, hid rfl⟩
  simp only [EvM.val, EvM.cells] at HW1 HK HMAY HRD ⊢
  rw [HXN.out] at HW1 HK HMAY HRD ⊢
  have HEQ : Hid (Y.e.o = o ∧ Y.e.s = s) := by rw [HYE.out]; exact ⟨rfl, rfl⟩
  have HIO : Hid (I64 o ∧ I64 s) := by
    have h1 := HY0.out.io
    have h2 := HY0.out.is
    rw [HEQ.out.1] at h1
    rw [HEQ.out.2] at h2
    exact ⟨h1, h2⟩
  have HBX : Hid (∀ V, Below W1.heap.size W1 V → Blk V pb 33 [.int .i64 o, .int .i64 s, .slice ao1 XN cap1, .string ct, .int .i64 ep, .string sk, .int .i64 qt, .bool cl]) := fun V hV => HK.out.below hV HK.out.lt
  have HHA : Hid (∀ V bo cp, HV V bo cp (plainOf V0) → Calls Tryz.prog 22 #[.slice bo L0 cp, .agg #[.int .i64 o, .int .i64 s]] V fun e w' => e = .returned (.bool (decide (HasV V0 Y.e.o Y.e.s))) ∧ Below V.heap.size V w') := fun V bo cp hv => by
    have h1 := rhas_any V bo cp (plainOf V0) L0 HL0.out hv o s
    rw [HEQ.out.1, HEQ.out.2]
    simpa only [hasV_plainOf] using h1
  go_enter Tryz.func7, Tryz.ntmps7
  go_wp2_with fail
  rw [← HW1.out, ← HPB.out]
  refine HMAY.out.mono ?_
  rintro e w2 ⟨rfl, hb2⟩
  have HB12 := hid hb2
  have HB2 := hid (bt HB1.out hb2)
  clear hb2 HMAY
  rw [decide_eq_true H_hm.out]
  have HMY := H_hm
  have HSA2 : Hid (∀ V, Sc w2 V → (Sc w2 V ∧ V.cell? ⟨pb, 0, none⟩ = some (.int .i64 o) ∧ V.cell? ⟨pb, 1, none⟩ = some (.int .i64 s))) := fun V hV => by
    have h1 := HBX.out V (bt HB12.out hV.out)
    exact ⟨hV, h1.cell rfl, h1.cell rfl⟩
  have HCA : Hid (∀ V, Sc w2 V → Calls Tryz.prog 23 #[.pointer (some ⟨x, 0, none⟩)] V fun e w' => ∃ bo cp, e = .returned (.slice bo L0 cp) ∧ Hid (HV w' bo cp (plainOf V0)) ∧ Sc w2 w') := fun V hV => by
    refine (HAP.out V (bt HB2.out hV.out)).mono ?_
    rintro e w' ⟨bo, cp, rfl, h1, h2⟩
    rw [HL0.out]
    exact ⟨bo, cp, rfl, h1, hV.go h2⟩
  have HCH : Hid (∀ V bo cp, Sc w2 V → HV V bo cp (plainOf V0) → Calls Tryz.prog 22 #[.slice bo L0 cp, .agg #[.int .i64 o, .int .i64 s]] V fun e w' => e = .returned (.bool (decide (HasV V0 Y.e.o Y.e.s))) ∧ Sc w2 w') := fun V bo cp hV hv => by
    refine (HHA.out V bo cp hv).mono ?_
    rintro e w' ⟨rfl, h2⟩
    exact ⟨rfl, hV.go h2⟩
  go_wp2
  go_region_held3 (fun V => Sc w2 V ∧ V.cell? ⟨pb, 0, none⟩ = some (.int .i64 o) ∧ V.cell? ⟨pb, 1, none⟩ = some (.int .i64 s))
    ((refine HSA2.out _ ?_; (repeat (first | with_reducible assumption | exact Sc.start _ | apply Sc.dr | apply Sc.alloc))))
    (first
      | (go_at_call 23; with_reducible refine (HCA.out _ (by (repeat (first | with_reducible assumption | exact Sc.start _ | apply Sc.dr)))).mono ?_; rintro e w3 ⟨b3, c3, rfl, HV3, hs3⟩)
      | (go_at_call 22; with_reducible refine (HCH.out _ _ _ hs3 HV3.out).mono ?_; rintro e w4 ⟨rfl, hs4⟩)
      | fail)
  have HB24 := hid hs4.out
  have HB4 := hid (bt HB2.out hs4.out)
  clear hs3 hs4 HV3 HCA HCH HSA2
  have HHN : Hid (¬ HasV V0 Y.e.o Y.e.s) := by have := H_hh.out; rw [HV0.out] at this; exact this
  rw [decide_eq_false HHN.out]
  go_wp2
  go_loopw [6] (fun i wr => ∃ k : Nat, k ≤ n ∧ i = .int .i64 k ∧ Hid (AheadM g.W Y.e k) ∧ Hid (Below w4.heap.size w4 wr)) (fun i _ => n - (intOf i).toNat)
  case atStart => exact ⟨0, Nat.zero_le _, rfl, fun j _ h => (by omega), Below.refl _ _⟩
  case round =>
    obtain ⟨k, hk, rfl, HLO, HBR⟩ := hrel
    have HBW := hid (bt HB4.out HBR.out)
    have HBK := hid (bt HB12.out (bt HB24.out HBR.out))
    have HR := hid (H.out.below HBW.out)
    have HKN : Hid (k ≤ n) := hk
    have hk0 : (0 : Int) ≤ (k : Int) := by omega
    have e1 := HR.out.blk.cell (i := 1) rfl
    rw [HN.out] at e1
    have hxl := HR.out.blk.lt
    have hbx := HBX.out wr HBK.out
    have hpl := hbx.lt
    have ke1 := fun X : Beyond wr => X.cell e1 hxl
    have kb0 := fun X : Beyond wr => X.cell (hbx.cell (i := 0) rfl) hpl
    have kb1 := fun X : Beyond wr => X.cell (hbx.cell (i := 1) rfl) hpl
    clear e1 hbx hxl hpl
    by_cases hlt : k < n
    · have hlt' : (k : Int) < (n : Int) := by omega
      have hld : decide ((k : Int) < (n : Int)) = true := decide_eq_true (by omega)
      have hle : decide (k < n) = true := decide_eq_true hlt
      have HKX : Hid (k < g.W.length) := by rw [HN.out]; exact hlt
      have HKM : Hid (k + 1 ≤ n) := (by omega : k + 1 ≤ n)
      have hwk : wrap64 ((k : Int) + 1) = (k : Int) + 1 := wrapN (by omega) (by have := HNF.out; omega)
      obtain ⟨b, off, hao, hbl, a0, a1, _⟩ := HR.out.heldW.1.at HKX.out
      obtain ⟨q, HQ⟩ : ∃ z, Hid (g.W[k]'HKX.out = z) := ⟨_, hid rfl⟩
      rw [HQ.out] at a0 a1
      obtain ⟨⟨qo, qs, qd, qc, qe, qk, qq, ql⟩, qa, qp⟩ := q
      simp only at a0 a1
      have ka0 := fun X : Beyond wr => X.cell a0 hbl
      have ka1 := fun X : Beyond wr => X.cell a1 hbl
      have HLS : Hid (∀ X : Beyond wr, Calls Tryz.prog 24 #[.agg #[.int .i64 qo, .int .i64 qs], .agg #[.int .i64 o, .int .i64 s]] X.now (fun e w'' => e = .returned (.bool (lessO (g.W[k]'HKX.out).e Y.e)) ∧ ∃ Z : Beyond wr, w'' = Z.now)) := fun X => by
        have h2 : lessO (g.W[k]'HKX.out).e Y.e = decide (LessD qo qs o s) := by
          rw [HQ.out]
          unfold lessO
          rw [HEQ.out.1, HEQ.out.2]
          exact decide_eq_decide.2 Iff.rfl
        rw [h2]
        exact beyond_call X (rless_dot X.now qo qs o s)
      subst hao
      clear a0 a1 hbl
      obtain ⟨lb, HLB⟩ : ∃ lb, Hid (lessO (g.W[k]'HKX.out).e Y.e = lb) := ⟨_, hid rfl⟩
      rw [HLB.out] at HLS
      cases lb with
      | true =>
        have HNX : Hid (AheadM g.W Y.e (k + 1)) := fun j hj hjk => by
          by_cases e : j = k
          · subst e; exact HLB.out
          · exact HLO.out j hj (by omega)
        clear hlt hk
        go_wp2
        refine wp_region_beyond wr (by kernel_rfl) (by kernel_rfl) (Below.refl _ _) ?_
        repeat (go_big_quiet_step (first | (go_at_call 24; exact HLS.out _) | fail))
        refine wpQuiet_nil ?_
        rintro _ ⟨X, rfl⟩
        have HXX := hid (bt HBR.out X.is)
        clear ke1 kb0 kb1 ka0 ka1 HLS
        go_wp2
        go_roundw
        case rel => exact ⟨k + 1, HKM.out, by go_num, HNX.out, HXX.out⟩
        case measure => first | exact measNW HKM.out hwk | exact measN1 HKM.out
      | false =>
        exfalso
        have h1 := posM_at HKX.out HLO.out HLB.out
        have h2 := H_hpos.out
        have h3 := HKX.out
        omega
    · have hlt' : ¬ (k : Int) < (n : Int) := by omega
      have hld : decide ((k : Int) < (n : Int)) = false := decide_eq_false (by omega)
      have hle : decide (k < n) = false := decide_eq_false hlt
      have HKE : Hid (k = posM g.W Y.e) := by
        have h1 : k = g.W.length := by have := HN.out; omega
        show _ = _
        rw [h1]
        exact posM_end (by rw [← h1]; exact HLO.out)
      have HKW : Hid (¬ KnowM g.W Y.e) := by
        rintro ⟨h1, _⟩
        have := HKE.out
        have := HN.out
        omega
      clear hlt hk
      go_wp2
      refine wp_region_beyond wr (by kernel_rfl) (by kernel_rfl) (Below.refl _ _) ?_
      repeat (go_big_quiet_step (fail))
      refine wpQuiet_nil ?_
      rintro _ ⟨X, rfl⟩
      have c2 := ke1 X
      have HX := hid X.is
      obtain ⟨w7, HW7⟩ : ∃ V, Hid (V = X.now) := ⟨_, hid rfl⟩
      rw [← HW7.out] at c2 HX ⊢
      clear ke1 kb0 kb1
      go_wp2
      go_quiet (fail)
      have HB7 := hid (below_dn (bt HBW.out HX.out) nq)
      obtain ⟨w8, HW8⟩ : ∃ V, Hid (V = w7.drewN nq) := ⟨_, hid rfl⟩
      rw [← HW8.out] at HB7 ⊢
      have HBK8 : Hid (Below W1.heap.size W1 w8) := by rw [HW8.out]; exact below_dn (bt HBK.out HX.out) nq
      clear c2
      have HR8 := hid (H.out.below HB7.out)
      have d0 := HR8.out.blk.cell (i := 0) rfl
      rw [HM.out] at d0
      have HFL : Hid (m < 65536) := by rw [← HM.out]; exact H_hl.out
      have hfd : decide ((65536 : Int) ≤ (m : Int)) = false := decide_eq_false (by have := HFL.out; omega)
      have hfe : decide (65536 ≤ m) = false := decide_eq_false (by have := HFL.out; omega)
      have k0 := (HBX.out _ HBK8.out).cell (i := 0) rfl
      have k1 := (HBX.out _ HBK8.out).cell (i := 1) rfl
      have k2 := (HBX.out _ HBK8.out).cell (i := 2) rfl
      have k3 := (HBX.out _ HBK8.out).cell (i := 3) rfl
      have k4 := (HBX.out _ HBK8.out).cell (i := 4) rfl
      have k5 := (HBX.out _ HBK8.out).cell (i := 5) rfl
      have k6 := (HBX.out _ HBK8.out).cell (i := 6) rfl
      have k7 := (HBX.out _ HBK8.out).cell (i := 7) rfl
      go_wp2_with fail
      refine (HRD.out _ HB7.out).mono ?_
      rintro e w9 ⟨rfl, hb9⟩
      have HB9 := hid (bt HB7.out hb9)
      have HBK9 := hid (bt HBK8.out hb9)
      have HR9 := hid (H.out.below HB9.out)
      clear hb9 d0 k0 k1 k2 k3 k4 k5 k6 k7 hfd hfe
      have HRY : Hid (ReadyE V0 Y.e) := by have := H_hr.out; rw [HV0.out] at this; exact this
      rw [decide_eq_true HRY.out]
      have d0 := HR9.out.blk.cell (i := 0) rfl
      rw [HM.out] at d0
      have HYV : Hid (EvOk w0 ⟨⟨o, s, dp, ct, ep, sk, qt, cl⟩, ao1, cap1⟩) := by rw [← HYE.out]; exact HY0.out
      have HW0 : Hid (∀ V, Sc w9 V → Below w0.heap.size w0 V) := fun V hV => (HR9.out.below hV.out).bel
      have HZL : Hid (AllOk w0 (g.L ++ [⟨⟨o, s, dp, ct, ep, sk, qt, cl⟩, ao1, cap1⟩])) := fun z hz => (List.mem_append.1 hz).elim (HR9.out.okL z) (fun h => by rw [List.mem_singleton.1 h]; exact HYV.out)
      have HH3 : Hid (∀ V, Sc w9 V → HeldE (V.alloc (.cells #[.int .i64 o, .int .i64 s, .slice ao1 XN cap1, .string ct, .int .i64 ep, .string sk, .int .i64 qt, .bool cl] 33)) (some ⟨V.heap.size, 0, none⟩) [⟨⟨o, s, dp, ct, ep, sk, qt, cl⟩, ao1, cap1⟩]) := fun V hV => by
        have h1 := held_newE (V := V) (y := ⟨⟨o, s, dp, ct, ep, sk, qt, cl⟩, ao1, cap1⟩) (HYV.out.below (HW0.out _ (hV.alloc _)))
        simp only [EvM.cells] at h1
        rw [HXN.out] at h1
        exact h1
      have HRW : Hid (∀ V, Sc w9 V → V.ownsRow w0.heap.size 33 8 (.slice eo m cap) m (flatE g.L)) := fun V hV => by
        have h1 := (HR9.out.below hV.out).rowL
        rw [HM.out] at h1
        exact h1
      have HSA : Hid (∀ V, Tb (RowB (.slice eo m cap)) w9 V → (Tb (RowB (.slice eo m cap)) w9 V ∧ V.cell? ⟨x, 0, none⟩ = some (.slice eo m cap) ∧ V.cell? ⟨pb, 0, none⟩ = some (.int .i64 o) ∧ V.cell? ⟨pb, 1, none⟩ = some (.int .i64 s) ∧ V.cell? ⟨pb, 2, none⟩ = some (.slice ao1 XN cap1) ∧ V.cell? ⟨pb, 3, none⟩ = some (.string ct) ∧ V.cell? ⟨pb, 4, none⟩ = some (.int .i64 ep) ∧ V.cell? ⟨pb, 5, none⟩ = some (.string sk) ∧ V.cell? ⟨pb, 6, none⟩ = some (.int .i64 qt) ∧ V.cell? ⟨pb, 7, none⟩ = some (.bool cl))) := fun V hV => by
        have h0 := HR9.out.blk
        rw [HM.out] at h0
        have h1 := hV.out.blk h0 (fun e => by
          have := HR9.out.ne.1 x (by rw [HM.out]; exact e)
          exact this rfl)
        have h2 := hV.out.blk (HBX.out w9 HBK9.out) (fun e => by
          have h3 := (HR9.out.rowL.lt pb (by rw [HM.out]; exact e)).2
          have h4 := HPL.out
          have h5 := H.out.rowL.lt pb (by rw [HM.out]; exact e)
          omega)
        exact ⟨hV, h1.cell rfl, h2.cell rfl, h2.cell rfl, h2.cell rfl, h2.cell rfl, h2.cell rfl, h2.cell rfl, h2.cell rfl, h2.cell rfl⟩
      have HFIN : Hid (∀ w4 w5 W bo cp, Sc w9 w4 → w5.ownsRow w0.heap.size 33 8 (.slice bo (m + 1) cp) (m + 1) (flatE (g.L ++ [⟨⟨o, s, dp, ct, ep, sk, qt, cl⟩, ao1, cap1⟩])) → w4.grownBy w5 (Value.slice eo m cap).ownBlock → ((Value.slice bo (m + 1) cp).ownBlock = (Value.slice eo m cap).ownBlock ∨ (Value.slice bo (m + 1) cp).ownBlock = some w4.heap.size) → W = w5.setCell ⟨x, 0, none⟩ (.slice bo (m + 1) cp) → DlTo w0 w W x (FootR x eo g.L.length cap fo g.W.length cap2) ⟨g.L ++ [Y], g.W⟩) := fun w4 w5 W bo cp e1 e2 e3 e4 e5 => by
        rw [← HYE.out] at e2
        rw [← HM.out] at e2 e3 e4 e5
        exact dl_newL H.out Y rfl H_hl.out HY0.out HMY.out (bt HB9.out e1.out) e2 e3 e4 e5
      have hs6 : Sc w9 w9 := Sc.start w9
      have ht6 : Tb (RowB (.slice eo m cap)) w9 w9 := Tb.start w9
      go_wp2
      clear d0
      refine wp_region_noPanic ?_
      refine wp_region_K 10 (fun V => Tb (RowB (.slice eo m cap)) w9 V ∧ V.cell? ⟨x, 0, none⟩ = some (.slice eo m cap) ∧ V.cell? ⟨pb, 0, none⟩ = some (.int .i64 o) ∧ V.cell? ⟨pb, 1, none⟩ = some (.int .i64 s) ∧ V.cell? ⟨pb, 2, none⟩ = some (.slice ao1 XN cap1) ∧ V.cell? ⟨pb, 3, none⟩ = some (.string ct) ∧ V.cell? ⟨pb, 4, none⟩ = some (.int .i64 ep) ∧ V.cell? ⟨pb, 5, none⟩ = some (.string sk) ∧ V.cell? ⟨pb, 6, none⟩ = some (.int .i64 qt) ∧ V.cell? ⟨pb, 7, none⟩ = some (.bool cl)) (by kernel_rfl) (HSA.out _ ht6.dr) (fun hHeld => ?_)
      have hs0 := hs6.dr
      refine wpAnyK_take (i := 0) (oi := { dst := some 102, op := Go.Op.move (Go.Operand.tmp 0), type := 28, pos := "ref.go:62", after := #[], guard := none }) (v := ?vq191) [] rfl (by kernel_rfl) (by kernel_rfl) (by kernel_rfl) (by kernel_rfl) (by kernel_rfl) (fun _ _ _ h => h) (Or.inl ⟨by rfl, ?hyq191⟩) (by assumption) ?restq191
      case hyq191 => (intro w0 hSw; (try dsimp only at hSw); go_simp; try with_reducible rfl)
      simp only [Act.put, List.setIfInBounds_toArray, List.set_cons_zero, List.set_cons_succ]
      refine wpAnyK_take (i := 1) (oi := { dst := some 103, op := Go.Op.move (Go.Operand.tmp 0), type := 28, pos := "ref.go:62", after := #[], guard := none }) (v := ?vq192) [] rfl (by kernel_rfl) (by kernel_rfl) (by kernel_rfl) (by kernel_rfl) (by kernel_rfl) (fun _ _ _ h => h) (Or.inl ⟨by rfl, ?hyq192⟩) (by assumption) ?restq192
      case hyq192 => (intro w0 hSw; (try dsimp only at hSw); go_simp; try with_reducible rfl)
      simp only [Act.put, List.setIfInBounds_toArray, List.set_cons_zero, List.set_cons_succ]
      refine wpAnyK_take (i := 2) (oi := { dst := some 104, op := Go.Op.nilCheck (Go.Operand.tmp 103), type := 0, pos := "ref.go:62", after := #[{ on := 1, ground := Go.Ground.data }], guard := none }) (v := ?vq193) [] rfl (by kernel_rfl) (by kernel_rfl) (by kernel_rfl) (by kernel_rfl) (by kernel_rfl) (fun _ _ _ h => h) (Or.inl ⟨by rfl, ?hyq193⟩) (by assumption) ?restq193
      case hyq193 => (intro w0 hSw; (try dsimp only at hSw); go_simp; try with_reducible rfl)
      simp only [Act.put, List.setIfInBounds_toArray, List.set_cons_zero, List.set_cons_succ]
      refine wpAnyK_take (i := 3) (oi := { dst := some 105, op := Go.Op.fieldAddr 30 (Go.Operand.tmp 104) 0, type := 0, pos := "ref.go:62", after := #[{ on := 2, ground := Go.Ground.data }], guard := none }) (v := ?vq194) [] rfl (by kernel_rfl) (by kernel_rfl) (by kernel_rfl) (by kernel_rfl) (by kernel_rfl) (fun _ _ _ h => h) (Or.inl ⟨by rfl, ?hyq194⟩) (by assumption) ?restq194
      case hyq194 => (intro w0 hSw; (try dsimp only at hSw); go_simp; try with_reducible rfl)
      simp only [Act.put, List.setIfInBounds_toArray, List.set_cons_zero, List.set_cons_succ]
      refine wpAnyK_take (i := 4) (oi := { dst := some 106, op := Go.Op.load 22 (Go.Operand.tmp 105), type := 22, pos := "ref.go:62", after := #[{ on := 3, ground := Go.Ground.data }], guard := none }) (v := ?vq195) [] rfl (by kernel_rfl) (by kernel_rfl) (by kernel_rfl) (by kernel_rfl) (by kernel_rfl) (fun _ _ _ h => h) (Or.inl ⟨by rfl, ?hyq195⟩) (by assumption) ?restq195
      case hyq195 => (intro w0 hSw; (try dsimp only at hSw); go_simp; try with_reducible rfl)
      simp only [Act.put, List.setIfInBounds_toArray, List.set_cons_zero, List.set_cons_succ]
      refine wpAnyK_take (i := 5) (oi := { dst := some 107, op := Go.Op.load 33 (Go.Operand.tmp 3), type := 33, pos := "ref.go:62", after := #[], guard := none }) (v := ?vq196) [] rfl (by kernel_rfl) (by kernel_rfl) (by kernel_rfl) (by kernel_rfl) (by kernel_rfl) (fun _ _ _ h => h) (Or.inl ⟨by rfl, ?hyq196⟩) (by assumption) ?restq196
      case hyq196 => (intro w0 hSw; (try dsimp only at hSw); go_simp; try with_reducible rfl)
      simp only [Act.put, List.setIfInBounds_toArray, List.set_cons_zero, List.set_cons_succ]
      refine wpAnyK_ready (rs := [6]) (by kernel_rfl) (by simp) ?_
      refine AllReadyK.cons (o := { dst := some 108, op := Go.Op.buildSlice 22 1 #[(0, Go.Operand.tmp 107)], type := 22, pos := "ref.go:62", after := #[{ on := 5, ground := Go.Ground.data }], guard := none }) rfl (fun K hK => ?_) AllReadyK.nil
      go_simp
      refine hK.out _ _ (.inr (HSA.out _ (by (repeat (first | with_reducible assumption | exact Tb.start _ | apply Tb.dr | apply Tb.alloc))))) (fun hHeld => ?_)
      have hHeld := hHeld.resolve_right (by decide)
      clear hK K
      try simp only [Act.put, List.setIfInBounds_toArray, List.set_cons_zero, List.set_cons_succ]
      refine wpAnyK_ready (rs := [7]) (by kernel_rfl) (by simp) ?_
      refine AllReadyK.cons (o := { dst := some 109, op := Go.Op.call { callee := Go.Callee.builtin Go.Builtin.append, args := #[Go.Operand.tmp 106, Go.Operand.tmp 108], argTypes := #[22, 22] }, type := 22, pos := "ref.go:62", after := #[{ on := 4, ground := Go.Ground.data }, { on := 6, ground := Go.Ground.data }], guard := none }) rfl (fun K hK => ?_) AllReadyK.nil
      refine step_append_evL rfl _ _ rfl w0.heap.size _ m g.L ?hnz198 rfl ?ownz198 _ 1 1 [(⟨⟨o, s, dp, ct, ep, sk, qt, cl⟩, ao1, cap1⟩ : EvM)] rfl rfl ?hhz198 ?hsumz198 ?hbasez198 ?hokz198 ?restz198
      case hnz198 => exact HM.out
      case ownz198 => exact HRW.out _ (by (repeat (first | with_reducible assumption | exact Sc.start _ | apply Sc.dr | apply Sc.alloc)))
      case hhz198 => exact HH3.out _ (by (repeat (first | with_reducible assumption | exact Sc.start _ | apply Sc.dr | apply Sc.alloc)))
      case hsumz198 => have := HFL.out; omega
      case hbasez198 => exact (HW0.out _ (by (repeat (first | with_reducible assumption | exact Sc.start _ | apply Sc.dr | apply Sc.alloc)))).size
      case hokz198 => exact fun V hV => Dl0 HZL.out ((HW0.out _ (by (repeat (first | with_reducible assumption | exact Sc.start _ | apply Sc.dr | apply Sc.alloc)))).trans hV)
      intro b3 c3 w10 hown3 hb3 hg3 hbo3
      have htb3 : Tb (RowB (.slice eo m cap)) w9 w10 := Tb.grown (by (repeat (first | with_reducible assumption | exact Tb.start _ | apply Tb.dr | apply Tb.alloc))) hg3 (fun _ h => h)
      refine hK.out _ _ (.inr (HSA.out _ (by (repeat (first | with_reducible assumption | exact Tb.start _ | apply Tb.dr | apply Tb.alloc))))) (fun hHeld => ?_)
      have hHeld := hHeld.resolve_right (by decide)
      clear hK K
      try simp only [Act.put, List.setIfInBounds_toArray, List.set_cons_zero, List.set_cons_succ]
      have hpk5 : Blk w10 x 30 [.slice eo m cap, .slice fo g.W.length cap2] := by
        have h0 := HR9.out.blk
        rw [HM.out] at h0
        refine htb3.out.blk h0 (fun e => ?_)
        have := HR9.out.ne.1 x (by rw [HM.out]; exact e)
        exact this rfl
      have f5 := hpk5.frozen 0
      have e5 := hpk5.cell (i := 0) rfl
      refine wpAnyK_take (i := 8) (oi := { dst := some 110, op := Go.Op.nilCheck (Go.Operand.tmp 102), type := 0, pos := "ref.go:62", after := #[{ on := 0, ground := Go.Ground.data }, { on := 0, ground := Go.Ground.phase }, { on := 1, ground := Go.Ground.phase }, { on := 2, ground := Go.Ground.phase }, { on := 3, ground := Go.Ground.phase }, { on := 4, ground := Go.Ground.phase }, { on := 5, ground := Go.Ground.phase }, { on := 6, ground := Go.Ground.phase }, { on := 7, ground := Go.Ground.phase }], guard := none }) (v := ?vq199) [9] rfl (by kernel_rfl) (by kernel_rfl) (by kernel_rfl) (by kernel_rfl) (by kernel_rfl) (fun _ _ _ h => h) (Or.inl ⟨by rfl, ?hyq199⟩) (by assumption) ?restq199
      case hyq199 => (intro w0 hSw; (try dsimp only at hSw); go_simp; try with_reducible rfl)
      simp only [Act.put, List.setIfInBounds_toArray, List.set_cons_zero, List.set_cons_succ]
      refine wpAnyK_take (i := 9) (oi := { dst := some 111, op := Go.Op.fieldAddr 30 (Go.Operand.tmp 110) 0, type := 0, pos := "ref.go:62", after := #[{ on := 8, ground := Go.Ground.data }, { on := 0, ground := Go.Ground.phase }, { on := 1, ground := Go.Ground.phase }, { on := 2, ground := Go.Ground.phase }, { on := 3, ground := Go.Ground.phase }, { on := 4, ground := Go.Ground.phase }, { on := 5, ground := Go.Ground.phase }, { on := 6, ground := Go.Ground.phase }, { on := 7, ground := Go.Ground.phase }], guard := none }) (v := ?vq200) [] rfl (by kernel_rfl) (by kernel_rfl) (by kernel_rfl) (by kernel_rfl) (by kernel_rfl) (fun _ _ _ h => h) (Or.inl ⟨by rfl, ?hyq200⟩) (by assumption) ?restq200
      case hyq200 => (intro w0 hSw; (try dsimp only at hSw); go_simp; try with_reducible rfl)
      simp only [Act.put, List.setIfInBounds_toArray, List.set_cons_zero, List.set_cons_succ]
      refine wpAnyK_ready (rs := [10]) (by kernel_rfl) (by simp) ?_
      refine AllReadyK.cons (o := { dst := none, op := Go.Op.store 22 (Go.Operand.tmp 111) (Go.Operand.tmp 109), type := 0, pos := "ref.go:62", after := #[{ on := 9, ground := Go.Ground.data }, { on := 7, ground := Go.Ground.data }, { on := 7, ground := Go.Ground.chain }, { on := 0, ground := Go.Ground.phase }, { on := 1, ground := Go.Ground.phase }, { on := 2, ground := Go.Ground.phase }, { on := 3, ground := Go.Ground.phase }, { on := 4, ground := Go.Ground.phase }, { on := 5, ground := Go.Ground.phase }, { on := 6, ground := Go.Ground.phase }, { on := 7, ground := Go.Ground.phase }], guard := none }) rfl (fun K hK => ?_) AllReadyK.nil
      go_simp
      refine hK.out _ _ (.inl rfl) (fun _ => ?_)
      clear hK K
      try simp only [Act.put, List.setIfInBounds_toArray, List.set_cons_zero, List.set_cons_succ]
      refine wpAnyK_done (by kernel_rfl) ?_ _
      refine NoPanic.normal ?_
      have HEND := hid (HFIN.out _ w10 _ b3 c3 (by (repeat (first | with_reducible assumption | exact Sc.start _ | apply Sc.dr | apply Sc.alloc))) hown3 hg3 hbo3 rfl)
      obtain ⟨w11, HW11⟩ : ∃ V, Hid (V = w10.setCell ⟨x, 0, none⟩ (.slice b3 (m + 1) c3)) := ⟨_, hid rfl⟩
      rw [← HW11.out] at HEND ⊢
      clear hown3 hb3 hg3 hbo3 htb3 hHeld hs0 hs6 ht6 f5 e5 hpk5 HSA HRW HH3 HZL HW0 HYV
      have HMG : Hid (lastM ⟨g.L ++ [Y], g.W⟩ = lastM ⟨g.L ++ [Y], g.W⟩) := rfl
      obtain ⟨FIN, HFIN2⟩ : ∃ f, Hid (lastM ⟨g.L ++ [Y], g.W⟩ = f) := ⟨_, hid rfl⟩
      clear HMG
      go_wp2
      go_loopw [8, 9] (fun v _ wr => ∃ ba : Bool, v = .bool ba ∧ Hid (∃ g' eo' cap' fo' cap2', DlS w0 w wr x (FootR x eo g.L.length cap fo g.W.length cap2) g' eo' cap' fo' cap2' ∧ lastM g' = FIN ∧ (ba = false → g' = FIN) ∧ m + 1 ≤ g'.L.length)) (fun v _ wr => muP x v wr)
      case atStart =>
        obtain ⟨eo1, cp1, fo1, cp2, h1⟩ := HEND.out.open
        exact ⟨true, rfl, _, _, _, _, _, h1, HFIN2.out, (fun e => absurd e (by decide)), (by rw [← HM.out]; simp)⟩
      case round =>
        obtain ⟨ba, rfl, HRR⟩ := hrel
        obtain ⟨wB, HWB⟩ : ∃ V, Hid (V = wr) := ⟨_, hid rfl⟩
        rw [← HWB.out] at HRR ⊢
        clear HWB
        obtain ⟨g', eo', cap', fo', cap2', hS, hL, hF, hmm⟩ := HRR.out
        have HS := hid hS
        have HL := hid hL
        have HFF := hid hF
        have HMM := hid hmm
        obtain ⟨n2, HN2⟩ : ∃ n, Hid (g'.W.length = n) := ⟨_, hid rfl⟩
        obtain ⟨m2, HM2⟩ : ∃ n, Hid (g'.L.length = n) := ⟨_, hid rfl⟩
        have HNF2 : Hid (n2 ≤ 4096) := by rw [← HN2.out]; exact hS.at_.fewW
        have HMF2 : Hid (m2 ≤ 65536) := by rw [← HM2.out]; exact hS.at_.fewL
        have HC2 : Hid (m2 ≤ cap') := by rw [← HM2.out]; exact hS.at_.heldL.2
        have HCW2 : Hid (n2 ≤ cap2') := by rw [← HN2.out]; exact hS.at_.heldW.2
        have d0 := hS.at_.blk.cell (i := 0) rfl
        rw [HM2.out] at d0
        clear hS hL hF hmm HRR
        cases ba with
        | false =>
          clear d0
          have HFG : Hid (g' = FIN) := (HFF.out rfl)
          have d0 := HS.out.at_.blk.cell (i := 0) rfl
          rw [HM2.out] at d0
          obtain ⟨b2, hb2⟩ := row_zero HS.out.at_.rowL (by have := HMM.out; have := HM2.out; omega)
          subst hb2
          have hmm : (m : Int) ≤ (m2 : Int) := by have := HMM.out; have := HM2.out; omega
          have hmc : (m2 : Int) ≤ (cap' : Int) := by have := HC2.out; omega
          have hm0 : (0 : Int) ≤ (m : Int) := by omega
          have HHD : Hid (HeldE (wB.alloc (.cells #[] 33)) (if cap' = m then some ⟨b2, 0, none⟩ else some ⟨b2, m * 8, none⟩) (g'.L.drop m)) := (held_drop0E HS.out.at_.heldL.1 m (by have := HM2.out; have := HC2.out; omega)).below ((Below.refl _ _).alloc (Nat.le_refl _) _)
          have HLD : Hid ((g'.L.drop m).length = m2 - m) := by rw [List.length_drop, HM2.out]; exact hid rfl
          have hl100 : 0 + (m2 - m) ≤ 100000000 := by have := HMF2.out; omega
          have HOK0 : Hid (∀ V, Below wB.heap.size (wB.alloc (.cells #[] 33)) V → AllOk V ([] ++ g'.L.drop m)) := fun V hV => Dl0 (fun z hz => HS.out.at_.okL z (List.mem_of_mem_drop (by simpa using hz))) (HS.out.at_.bel.trans ((((Below.refl _ _).alloc (Nat.le_refl _) _).trans hV).mono HS.out.at_.bel.size))
          have HSZ0 : Hid (wB.heap.size ≤ (wB.alloc (.cells #[] 33)).heap.size) := by rw [World.size_alloc]; exact hid (Nat.le_succ _)
          have hd1 : ∀ o, (wB.alloc o).cell? ⟨x, 0, none⟩ = some (.slice (some ⟨b2, 0, none⟩) m2 cap') := fun o => by
            have h1 := (HS.out.at_.below ((Below.refl _ _).alloc (Nat.le_refl _) o)).blk.cell (i := 0) rfl
            rw [HM2.out] at h1
            exact h1
          have HDN : Hid (∀ bo cp w14, w14.ownsRow wB.heap.size 33 8 (.slice bo (0 + (m2 - m)) cp) (0 + (m2 - m)) (flatE ([] ++ g'.L.drop m)) → Below wB.heap.size (wB.alloc (.cells #[] 33)) w14 → RPutP w0 w x (FootR x eo g.L.length cap fo g.W.length cap2) g Y (.returned (.tuple #[.slice bo (m2 - m) cp, .int .i64 0])) w14) := fun bo cp w14 hO hB => by
            rw [Nat.zero_add, List.nil_append] at hO
            refine RPutP.goes HMY.out (by rw [HV0.out]; exact HHN.out) HKW.out (by rw [HM.out]; exact HFL.out) (by rw [HV0.out]; exact HRY.out) ?_ ?_
            · rw [HFIN2.out, ← HFG.out]
              exact (HS.out.below (((Below.refl _ _).alloc (Nat.le_refl _) _).trans hB)).to
            · rw [HFIN2.out, ← HFG.out, HM.out, HLD.out]
              exact ownsRow_baseL hO HS.out.turn.size
          go_wp2_with (at_builtin; refine wpList_append_evs rfl _ _ rfl wB.heap.size _ 0 [] rfl rfl (ownE_made wB _ (Nat.le_refl _)) _ _ _ (g'.L.drop m) HLD.out rfl HHD.out hl100 HSZ0.out HOK0.out ?_; intro bo cp w14 hown14 _ hb14; have HO14 := hid hown14; have HB14 := hid hb14; clear hown14 hb14)
          all_goals (go_ret2; exact HDN.out _ _ _ HO14.out HB14.out)
        | true =>
          by_cases hfl2 : 65536 ≤ m2
          · have hfd2 : decide ((m2 : Int) < 65536) = false := decide_eq_false (by omega)
            have hfe2 : decide (m2 < 65536) = false := decide_eq_false (by omega)
            have HFX : Hid (65536 ≤ g'.L.length) := by rw [HM2.out]; exact hfl2
            clear d0 hfl2
            have HFG : Hid (g' = FIN) := (by have := lastM_stop (g := g') (.inl HFX.out); rw [HL.out] at this; exact this.symm)
            have d0 := HS.out.at_.blk.cell (i := 0) rfl
            rw [HM2.out] at d0
            obtain ⟨b2, hb2⟩ := row_zero HS.out.at_.rowL (by have := HMM.out; have := HM2.out; omega)
            subst hb2
            have hmm : (m : Int) ≤ (m2 : Int) := by have := HMM.out; have := HM2.out; omega
            have hmc : (m2 : Int) ≤ (cap' : Int) := by have := HC2.out; omega
            have hm0 : (0 : Int) ≤ (m : Int) := by omega
            have HHD : Hid (HeldE (wB.alloc (.cells #[] 33)) (if cap' = m then some ⟨b2, 0, none⟩ else some ⟨b2, m * 8, none⟩) (g'.L.drop m)) := (held_drop0E HS.out.at_.heldL.1 m (by have := HM2.out; have := HC2.out; omega)).below ((Below.refl _ _).alloc (Nat.le_refl _) _)
            have HLD : Hid ((g'.L.drop m).length = m2 - m) := by rw [List.length_drop, HM2.out]; exact hid rfl
            have hl100 : 0 + (m2 - m) ≤ 100000000 := by have := HMF2.out; omega
            have HOK0 : Hid (∀ V, Below wB.heap.size (wB.alloc (.cells #[] 33)) V → AllOk V ([] ++ g'.L.drop m)) := fun V hV => Dl0 (fun z hz => HS.out.at_.okL z (List.mem_of_mem_drop (by simpa using hz))) (HS.out.at_.bel.trans ((((Below.refl _ _).alloc (Nat.le_refl _) _).trans hV).mono HS.out.at_.bel.size))
            have HSZ0 : Hid (wB.heap.size ≤ (wB.alloc (.cells #[] 33)).heap.size) := by rw [World.size_alloc]; exact hid (Nat.le_succ _)
            have hd1 : ∀ o, (wB.alloc o).cell? ⟨x, 0, none⟩ = some (.slice (some ⟨b2, 0, none⟩) m2 cap') := fun o => by
              have h1 := (HS.out.at_.below ((Below.refl _ _).alloc (Nat.le_refl _) o)).blk.cell (i := 0) rfl
              rw [HM2.out] at h1
              exact h1
            have HDN : Hid (∀ bo cp w14, w14.ownsRow wB.heap.size 33 8 (.slice bo (0 + (m2 - m)) cp) (0 + (m2 - m)) (flatE ([] ++ g'.L.drop m)) → Below wB.heap.size (wB.alloc (.cells #[] 33)) w14 → RPutP w0 w x (FootR x eo g.L.length cap fo g.W.length cap2) g Y (.returned (.tuple #[.slice bo (m2 - m) cp, .int .i64 0])) w14) := fun bo cp w14 hO hB => by
              rw [Nat.zero_add, List.nil_append] at hO
              refine RPutP.goes HMY.out (by rw [HV0.out]; exact HHN.out) HKW.out (by rw [HM.out]; exact HFL.out) (by rw [HV0.out]; exact HRY.out) ?_ ?_
              · rw [HFIN2.out, ← HFG.out]
                exact (HS.out.below (((Below.refl _ _).alloc (Nat.le_refl _) _).trans hB)).to
              · rw [HFIN2.out, ← HFG.out, HM.out, HLD.out]
                exact ownsRow_baseL hO HS.out.turn.size
            go_wp2_with (at_builtin; refine wpList_append_evs rfl _ _ rfl wB.heap.size _ 0 [] rfl rfl (ownE_made wB _ (Nat.le_refl _)) _ _ _ (g'.L.drop m) HLD.out rfl HHD.out hl100 HSZ0.out HOK0.out ?_; intro bo cp w14 hown14 _ hb14; have HO14 := hid hown14; have HB14 := hid hb14; clear hown14 hb14)
            all_goals (go_ret2; exact HDN.out _ _ _ HO14.out HB14.out)
          have hfd2 : (m2 : Int) < 65536 := by omega
          have HFX : Hid (g'.L.length < 65536) := by rw [HM2.out]; exact (by omega : m2 < 65536)
          have HFLM : Hid (m2 < 65536) := (by omega : m2 < 65536)
          clear hfl2
          go_wp2
          clear d0
          go_loopw [8, 9] (fun v i wz => v = .bool false ∧ ∃ j : Nat, j ≤ n2 ∧ i = .int .i64 j ∧ Hid (NoneReady g' j) ∧ Hid (Below wB.heap.size wB wz)) (fun _ i _ => n2 - (intOf i).toNat)
          case atStart => exact ⟨rfl, 0, Nat.zero_le _, rfl, fun j _ h => (by omega), Below.refl _ _⟩
          case round =>
            obtain ⟨rfl, j, hj, rfl, HNO, HBZ⟩ := hrel
            have HSZ := hid (HS.out.below HBZ.out)
            have e1 := HSZ.out.at_.blk.cell (i := 1) rfl
            rw [HN2.out] at e1
            have hj0 : (0 : Int) ≤ (j : Int) := by omega
            by_cases hlt : j < n2
            · have hlt' : (j : Int) < (n2 : Int) := by omega
              have HJX : Hid (j < g'.W.length) := by rw [HN2.out]; exact hlt
              have HJM : Hid (j + 1 ≤ n2) := (by omega : j + 1 ≤ n2)
              have hwj : wrap64 ((j : Int) + 1) = (j : Int) + 1 := wrapN (by omega) (by have := HNF2.out; omega)
              obtain ⟨b9, hfo⟩ := row_zero HSZ.out.at_.rowW (by have := HJX.out; omega)
              subst hfo
              obtain ⟨b9', o9', hao9, _, a0, a1, a2, a3, a4, a5, a6, a7⟩ := HSZ.out.at_.heldW.1.at HJX.out
              cases hao9
              have HZOK : Hid (EvOk w0 (g'.W[j]'HJX.out)) := HSZ.out.at_.okW _ (List.getElem_mem _)
              have HZMY : Hid (MayE (g'.W[j]'HJX.out).e) := HSZ.out.at_.mayW _ (List.getElem_mem _)
              have HRDZ := hid (HSZ.out.at_.ready (g'.W[j]'HJX.out) (HZOK.out.below HSZ.out.at_.bel))
              obtain ⟨Z, HZ⟩ : ∃ z, Hid (g'.W[j]'HJX.out = z) := ⟨_, hid rfl⟩
              rw [HZ.out] at a0 a1 a2 a3 a4 a5 a6 a7 HZOK HZMY HRDZ
              obtain ⟨Z2, HZ2⟩ : ∃ z, Hid (Z = z) := ⟨_, hid rfl⟩
              obtain ⟨rz, HRZ⟩ : ∃ r, Hid (decide (ReadyE (vecL (evs g'.L)) Z.e) = r) := ⟨_, hid rfl⟩
              rw [HRZ.out] at HRDZ
              rw [HZ2.out] at HZ HRZ
              obtain ⟨⟨zo, zs, zd, zct, zep, zsk, zqt, zcl⟩, za, zc⟩ := Z
              obtain ⟨ZN, HZN⟩ : ∃ m, Hid (zd.length = m) := ⟨_, hid rfl⟩
              simp only [EvM.val] at HRDZ
              simp only [Nat.zero_add] at a0 a1 a2 a3 a4 a5 a6 a7
              rw [HZN.out] at a2 HRDZ
              go_wp2_with fail
              refine HRDZ.out.mono ?_
              rintro e w12 ⟨rfl, hb12⟩
              have HB12z := hid (bt HBZ.out hb12)
              have HS12 := hid (HSZ.out.below hb12)
              clear a0 a1 a2 a3 a4 a5 a6 a7 e1 hb12 HRDZ HSZ
              cases rz with
              | false =>
                have HNX : Hid (NoneReady g' (j + 1)) := fun i hi hij => by
                  by_cases e : i = j
                  · subst e
                    rw [HZ.out]
                    exact of_decide_eq_false HRZ.out
                  · exact HNO.out i hi (by omega)
                clear hlt hj
                go_wp2
                go_roundw
                case rel => exact ⟨rfl, j + 1, HJM.out, by go_num, HNX.out, HB12z.out⟩
                case measure => first | exact measNW HJM.out hwj | exact measN1 HJM.out
              | true =>
                have HJN : Hid (j = nextM g') := nextM_at HJX.out HNO.out (by rw [HZ.out]; exact of_decide_eq_true HRZ.out)
                clear hlt hj
                have HFL2 : Hid (∀ V, Sc w12 V → V.ownsRow w0.heap.size 33 8 (.slice eo' m2 cap') m2 (flatE g'.L)) := fun V hV => by
                  have h1 := (HS12.out.at_.below hV.out).rowL
                  rw [HM2.out] at h1
                  exact h1
                have HW0 : Hid (∀ V, Sc w12 V → Below w0.heap.size w0 V) := fun V hV => (HS12.out.at_.below hV.out).bel
                have HZL : Hid (AllOk w0 (g'.L ++ [⟨⟨zo, zs, zd, zct, zep, zsk, zqt, zcl⟩, za, zc⟩])) := fun z hz => (List.mem_append.1 hz).elim (HS12.out.at_.okL z) (fun h => by rw [List.mem_singleton.1 h]; exact HZOK.out)
                have HH3 : Hid (∀ V, Sc w12 V → HeldE (V.alloc (.cells #[.int .i64 zo, .int .i64 zs, .slice za ZN zc, .string zct, .int .i64 zep, .string zsk, .int .i64 zqt, .bool zcl] 33)) (some ⟨V.heap.size, 0, none⟩) [⟨⟨zo, zs, zd, zct, zep, zsk, zqt, zcl⟩, za, zc⟩]) := fun V hV => by
                  have h1 := held_newE (V := V) (y := ⟨⟨zo, zs, zd, zct, zep, zsk, zqt, zcl⟩, za, zc⟩) (HZOK.out.below (HW0.out _ (hV.alloc _)))
                  simp only [EvM.cells] at h1
                  rw [HZN.out] at h1
                  exact h1
                have HSA : Hid (∀ V, Tb (RowB (.slice eo' m2 cap')) w12 V → (Tb (RowB (.slice eo' m2 cap')) w12 V ∧ V.cell? ⟨x, 0, none⟩ = some (.slice eo' m2 cap') ∧ V.cell? ⟨x, 1, none⟩ = some (.slice (some ⟨b9, 0, none⟩) n2 cap2') ∧ V.cell? ⟨b9, j * 8, none⟩ = some (.int .i64 zo) ∧ V.cell? ⟨b9, j * 8 + 1, none⟩ = some (.int .i64 zs) ∧ V.cell? ⟨b9, j * 8 + 2, none⟩ = some (.slice za ZN zc) ∧ V.cell? ⟨b9, j * 8 + 3, none⟩ = some (.string zct) ∧ V.cell? ⟨b9, j * 8 + 4, none⟩ = some (.int .i64 zep) ∧ V.cell? ⟨b9, j * 8 + 5, none⟩ = some (.string zsk) ∧ V.cell? ⟨b9, j * 8 + 6, none⟩ = some (.int .i64 zqt) ∧ V.cell? ⟨b9, j * 8 + 7, none⟩ = some (.bool zcl))) := fun V hV => by
                  have h0 := HS12.out.at_.blk
                  rw [HM2.out, HN2.out] at h0
                  have h1 := hV.out.blk h0 (fun e => by
                    have := HS12.out.at_.ne.1 x (by rw [HM2.out]; exact e)
                    exact this rfl)
                  have hrw : V.ownsRow w0.heap.size 33 8 (.slice (some ⟨b9, 0, none⟩) g'.W.length cap2') g'.W.length (flatE g'.W) := hV.out.row HS12.out.at_.rowW (fun b hb hc => HS12.out.at_.apart b (by rw [HM2.out]; exact hc) hb)
                  have hbelV : Below w0.heap.size w0 V := HS12.out.at_.bel.trans (hV.out.below (fun i hi => (HS12.out.at_.rowL.lt i (by rw [HM2.out]; exact hi)).1) HS12.out.at_.bel.size)
                  obtain ⟨_, _, he, _, hh⟩ := heldE_of_own rfl hrw (HS12.out.at_.okW.below hbelV)
                  cases he
                  obtain ⟨_, _, he2, _, a0, a1, a2, a3, a4, a5, a6, a7⟩ := hh.at HJX.out
                  cases he2
                  rw [HZ.out, ← HZ2.out] at a0 a1 a2 a3 a4 a5 a6 a7
                  simp only [Nat.zero_add] at a0 a1 a2 a3 a4 a5 a6 a7
                  rw [HZN.out] at a2
                  exact ⟨hV, h1.cell rfl, h1.cell rfl, a0, a1, a2, a3, a4, a5, a6, a7⟩
                have HFIN : Hid (∀ w4 w5 W bo cp, Sc w12 w4 → w5.ownsRow w0.heap.size 33 8 (.slice bo (m2 + 1) cp) (m2 + 1) (flatE (g'.L ++ [⟨⟨zo, zs, zd, zct, zep, zsk, zqt, zcl⟩, za, zc⟩])) → w4.grownBy w5 (Value.slice eo' m2 cap').ownBlock → ((Value.slice bo (m2 + 1) cp).ownBlock = (Value.slice eo' m2 cap').ownBlock ∨ (Value.slice bo (m2 + 1) cp).ownBlock = some w4.heap.size) → W = w5.setCell ⟨x, 0, none⟩ (.slice bo (m2 + 1) cp) → ∃ eA cA fA dA, DlS w0 w W x (FootR x eo g.L.length cap fo g.W.length cap2) ⟨g'.L ++ [⟨⟨zo, zs, zd, zct, zep, zsk, zqt, zcl⟩, za, zc⟩], g'.W⟩ eA cA fA dA) := fun w4 w5 W bo cp e1 e2 e3 e4 e5 => by
                  rw [← HM2.out] at e2 e3 e4 e5
                  exact HS12.out.next (dl_newL HS12.out.at_ ⟨⟨zo, zs, zd, zct, zep, zsk, zqt, zcl⟩, za, zc⟩ rfl HFX.out HZOK.out HZMY.out e1.out e2 e3 e4 e5)
                have hs6 : Sc w12 w12 := Sc.start w12
                have ht6 : Tb (RowB (.slice eo' m2 cap')) w12 w12 := Tb.start w12
                go_wp2
                refine wp_region_noPanic ?_
                refine wp_region_K 16 (fun V => Tb (RowB (.slice eo' m2 cap')) w12 V ∧ V.cell? ⟨x, 0, none⟩ = some (.slice eo' m2 cap') ∧ V.cell? ⟨x, 1, none⟩ = some (.slice (some ⟨b9, 0, none⟩) n2 cap2') ∧ V.cell? ⟨b9, j * 8, none⟩ = some (.int .i64 zo) ∧ V.cell? ⟨b9, j * 8 + 1, none⟩ = some (.int .i64 zs) ∧ V.cell? ⟨b9, j * 8 + 2, none⟩ = some (.slice za ZN zc) ∧ V.cell? ⟨b9, j * 8 + 3, none⟩ = some (.string zct) ∧ V.cell? ⟨b9, j * 8 + 4, none⟩ = some (.int .i64 zep) ∧ V.cell? ⟨b9, j * 8 + 5, none⟩ = some (.string zsk) ∧ V.cell? ⟨b9, j * 8 + 6, none⟩ = some (.int .i64 zqt) ∧ V.cell? ⟨b9, j * 8 + 7, none⟩ = some (.bool zcl)) (by kernel_rfl) (HSA.out _ ht6.dr) (fun hHeld => ?_)
                have hs0 := hs6.dr
                refine wpAnyK_take (i := 0) (oi := { dst := some 139, op := Go.Op.move (Go.Operand.tmp 0), type := 28, pos := "ref.go:67", after := #[], guard := none }) (v := ?vq156) [] rfl (by kernel_rfl) (by kernel_rfl) (by kernel_rfl) (by kernel_rfl) (by kernel_rfl) (fun _ _ _ h => h) (Or.inl ⟨by rfl, ?hyq156⟩) (by assumption) ?restq156
                case hyq156 => (intro w0 hSw; (try dsimp only at hSw); go_simp; try with_reducible rfl)
                simp only [Act.put, List.setIfInBounds_toArray, List.set_cons_zero, List.set_cons_succ]
                refine wpAnyK_take (i := 1) (oi := { dst := some 140, op := Go.Op.move (Go.Operand.tmp 0), type := 28, pos := "ref.go:67", after := #[], guard := none }) (v := ?vq157) [] rfl (by kernel_rfl) (by kernel_rfl) (by kernel_rfl) (by kernel_rfl) (by kernel_rfl) (fun _ _ _ h => h) (Or.inl ⟨by rfl, ?hyq157⟩) (by assumption) ?restq157
                case hyq157 => (intro w0 hSw; (try dsimp only at hSw); go_simp; try with_reducible rfl)
                simp only [Act.put, List.setIfInBounds_toArray, List.set_cons_zero, List.set_cons_succ]
                refine wpAnyK_take (i := 2) (oi := { dst := some 141, op := Go.Op.nilCheck (Go.Operand.tmp 140), type := 0, pos := "ref.go:67", after := #[{ on := 1, ground := Go.Ground.data }], guard := none }) (v := ?vq158) [] rfl (by kernel_rfl) (by kernel_rfl) (by kernel_rfl) (by kernel_rfl) (by kernel_rfl) (fun _ _ _ h => h) (Or.inl ⟨by rfl, ?hyq158⟩) (by assumption) ?restq158
                case hyq158 => (intro w0 hSw; (try dsimp only at hSw); go_simp; try with_reducible rfl)
                simp only [Act.put, List.setIfInBounds_toArray, List.set_cons_zero, List.set_cons_succ]
                refine wpAnyK_take (i := 3) (oi := { dst := some 142, op := Go.Op.fieldAddr 30 (Go.Operand.tmp 141) 0, type := 0, pos := "ref.go:67", after := #[{ on := 2, ground := Go.Ground.data }], guard := none }) (v := ?vq159) [] rfl (by kernel_rfl) (by kernel_rfl) (by kernel_rfl) (by kernel_rfl) (by kernel_rfl) (fun _ _ _ h => h) (Or.inl ⟨by rfl, ?hyq159⟩) (by assumption) ?restq159
                case hyq159 => (intro w0 hSw; (try dsimp only at hSw); go_simp; try with_reducible rfl)
                simp only [Act.put, List.setIfInBounds_toArray, List.set_cons_zero, List.set_cons_succ]
                refine wpAnyK_take (i := 4) (oi := { dst := some 143, op := Go.Op.load 22 (Go.Operand.tmp 142), type := 22, pos := "ref.go:67", after := #[{ on := 3, ground := Go.Ground.data }], guard := none }) (v := ?vq160) [] rfl (by kernel_rfl) (by kernel_rfl) (by kernel_rfl) (by kernel_rfl) (by kernel_rfl) (fun _ _ _ h => h) (Or.inl ⟨by rfl, ?hyq160⟩) (by assumption) ?restq160
                case hyq160 => (intro w0 hSw; (try dsimp only at hSw); go_simp; try with_reducible rfl)
                simp only [Act.put, List.setIfInBounds_toArray, List.set_cons_zero, List.set_cons_succ]
                refine wpAnyK_take (i := 5) (oi := { dst := some 144, op := Go.Op.move (Go.Operand.tmp 0), type := 28, pos := "ref.go:67", after := #[], guard := none }) (v := ?vq161) [] rfl (by kernel_rfl) (by kernel_rfl) (by kernel_rfl) (by kernel_rfl) (by kernel_rfl) (fun _ _ _ h => h) (Or.inl ⟨by rfl, ?hyq161⟩) (by assumption) ?restq161
                case hyq161 => (intro w0 hSw; (try dsimp only at hSw); go_simp; try with_reducible rfl)
                simp only [Act.put, List.setIfInBounds_toArray, List.set_cons_zero, List.set_cons_succ]
                refine wpAnyK_take (i := 6) (oi := { dst := some 145, op := Go.Op.nilCheck (Go.Operand.tmp 144), type := 0, pos := "ref.go:67", after := #[{ on := 5, ground := Go.Ground.data }], guard := none }) (v := ?vq162) [] rfl (by kernel_rfl) (by kernel_rfl) (by kernel_rfl) (by kernel_rfl) (by kernel_rfl) (fun _ _ _ h => h) (Or.inl ⟨by rfl, ?hyq162⟩) (by assumption) ?restq162
                case hyq162 => (intro w0 hSw; (try dsimp only at hSw); go_simp; try with_reducible rfl)
                simp only [Act.put, List.setIfInBounds_toArray, List.set_cons_zero, List.set_cons_succ]
                refine wpAnyK_take (i := 7) (oi := { dst := some 146, op := Go.Op.fieldAddr 30 (Go.Operand.tmp 145) 1, type := 0, pos := "ref.go:67", after := #[{ on := 6, ground := Go.Ground.data }], guard := none }) (v := ?vq163) [] rfl (by kernel_rfl) (by kernel_rfl) (by kernel_rfl) (by kernel_rfl) (by kernel_rfl) (fun _ _ _ h => h) (Or.inl ⟨by rfl, ?hyq163⟩) (by assumption) ?restq163
                case hyq163 => (intro w0 hSw; (try dsimp only at hSw); go_simp; try with_reducible rfl)
                simp only [Act.put, List.setIfInBounds_toArray, List.set_cons_zero, List.set_cons_succ]
                refine wpAnyK_take (i := 8) (oi := { dst := some 147, op := Go.Op.load 22 (Go.Operand.tmp 146), type := 22, pos := "ref.go:67", after := #[{ on := 7, ground := Go.Ground.data }], guard := none }) (v := ?vq164) [] rfl (by kernel_rfl) (by kernel_rfl) (by kernel_rfl) (by kernel_rfl) (by kernel_rfl) (fun _ _ _ h => h) (Or.inl ⟨by rfl, ?hyq164⟩) (by assumption) ?restq164
                case hyq164 => (intro w0 hSw; (try dsimp only at hSw); go_simp; try with_reducible rfl)
                simp only [Act.put, List.setIfInBounds_toArray, List.set_cons_zero, List.set_cons_succ]
                refine wpAnyK_take (i := 9) (oi := { dst := some 148, op := Go.Op.move (Go.Operand.tmp 9), type := 3, pos := "ref.go:67", after := #[], guard := none }) (v := ?vq165) [] rfl (by kernel_rfl) (by kernel_rfl) (by kernel_rfl) (by kernel_rfl) (by kernel_rfl) (fun _ _ _ h => h) (Or.inl ⟨by rfl, ?hyq165⟩) (by assumption) ?restq165
                case hyq165 => (intro w0 hSw; (try dsimp only at hSw); go_simp; try with_reducible rfl)
                simp only [Act.put, List.setIfInBounds_toArray, List.set_cons_zero, List.set_cons_succ]
                refine wpAnyK_take (i := 10) (oi := { dst := some 149, op := Go.Op.indexAddr 22 (Go.Operand.tmp 147) (Go.Operand.tmp 148), type := 0, pos := "ref.go:67", after := #[{ on := 8, ground := Go.Ground.data }, { on := 9, ground := Go.Ground.data }], guard := none }) (v := ?vq166) [] rfl (by kernel_rfl) (by kernel_rfl) (by kernel_rfl) (by kernel_rfl) (by kernel_rfl) (fun _ _ _ h => h) (Or.inl ⟨by rfl, ?hyq166⟩) (by assumption) ?restq166
                case hyq166 => (intro w0 hSw; (try dsimp only at hSw); go_simp; try with_reducible rfl)
                simp only [Act.put, List.setIfInBounds_toArray, List.set_cons_zero, List.set_cons_succ]
                refine wpAnyK_take (i := 11) (oi := { dst := some 150, op := Go.Op.load 33 (Go.Operand.tmp 149), type := 33, pos := "ref.go:67", after := #[{ on := 10, ground := Go.Ground.data }], guard := none }) (v := ?vq167) [] rfl (by kernel_rfl) (by kernel_rfl) (by kernel_rfl) (by kernel_rfl) (by kernel_rfl) (fun _ _ _ h => h) (Or.inl ⟨by rfl, ?hyq167⟩) (by assumption) ?restq167
                case hyq167 => (intro w0 hSw; (try dsimp only at hSw); go_simp; try with_reducible rfl)
                simp only [Act.put, List.setIfInBounds_toArray, List.set_cons_zero, List.set_cons_succ]
                refine wpAnyK_ready (rs := [12]) (by kernel_rfl) (by simp) ?_
                refine AllReadyK.cons (o := { dst := some 151, op := Go.Op.buildSlice 22 1 #[(0, Go.Operand.tmp 150)], type := 22, pos := "ref.go:67", after := #[{ on := 11, ground := Go.Ground.data }], guard := none }) rfl (fun K hK => ?_) AllReadyK.nil
                go_simp
                refine hK.out _ _ (.inr (HSA.out _ (by (repeat (first | with_reducible assumption | exact Tb.start _ | apply Tb.dr | apply Tb.alloc))))) (fun hHeld => ?_)
                have hHeld := hHeld.resolve_right (by decide)
                clear hK K
                try simp only [Act.put, List.setIfInBounds_toArray, List.set_cons_zero, List.set_cons_succ]
                refine wpAnyK_ready (rs := [13]) (by kernel_rfl) (by simp) ?_
                refine AllReadyK.cons (o := { dst := some 152, op := Go.Op.call { callee := Go.Callee.builtin Go.Builtin.append, args := #[Go.Operand.tmp 143, Go.Operand.tmp 151], argTypes := #[22, 22] }, type := 22, pos := "ref.go:67", after := #[{ on := 4, ground := Go.Ground.data }, { on := 12, ground := Go.Ground.data }], guard := none }) rfl (fun K hK => ?_) AllReadyK.nil
                refine step_append_evL rfl _ _ rfl w0.heap.size _ m2 g'.L ?hnz169 rfl ?ownz169 _ 1 1 [(⟨⟨zo, zs, zd, zct, zep, zsk, zqt, zcl⟩, za, zc⟩ : EvM)] rfl rfl ?hhz169 ?hsumz169 ?hbasez169 ?hokz169 ?restz169
                case hnz169 => exact HM2.out
                case ownz169 => exact HFL2.out _ (by (repeat (first | with_reducible assumption | exact Sc.start _ | apply Sc.dr | apply Sc.alloc)))
                case hhz169 => exact HH3.out _ (by (repeat (first | with_reducible assumption | exact Sc.start _ | apply Sc.dr | apply Sc.alloc)))
                case hsumz169 => have := HMF2.out; omega
                case hbasez169 => exact (HW0.out _ (by (repeat (first | with_reducible assumption | exact Sc.start _ | apply Sc.dr | apply Sc.alloc)))).size
                case hokz169 => exact fun V hV => Dl0 HZL.out ((HW0.out _ (by (repeat (first | with_reducible assumption | exact Sc.start _ | apply Sc.dr | apply Sc.alloc)))).trans hV)
                intro b3 c3 w13 hown3 hb3 hg3 hbo3
                have htb3 : Tb (RowB (.slice eo' m2 cap')) w12 w13 := Tb.grown (by (repeat (first | with_reducible assumption | exact Tb.start _ | apply Tb.dr | apply Tb.alloc))) hg3 (fun _ h => h)
                refine hK.out _ _ (.inr (HSA.out _ (by (repeat (first | with_reducible assumption | exact Tb.start _ | apply Tb.dr | apply Tb.alloc))))) (fun hHeld => ?_)
                have hHeld := hHeld.resolve_right (by decide)
                clear hK K
                try simp only [Act.put, List.setIfInBounds_toArray, List.set_cons_zero, List.set_cons_succ]
                have hpk5 : Blk w13 x 30 [.slice eo' m2 cap', .slice (some ⟨b9, 0, none⟩) g'.W.length cap2'] := by
                  have h0 := HS12.out.at_.blk
                  rw [HM2.out] at h0
                  refine htb3.out.blk h0 (fun e => ?_)
                  have := HS12.out.at_.ne.1 x (by rw [HM2.out]; exact e)
                  exact this rfl
                have f5 := hpk5.frozen 0
                have e5 := hpk5.cell (i := 0) rfl
                refine wpAnyK_take (i := 14) (oi := { dst := some 153, op := Go.Op.nilCheck (Go.Operand.tmp 139), type := 0, pos := "ref.go:67", after := #[{ on := 0, ground := Go.Ground.data }, { on := 0, ground := Go.Ground.phase }, { on := 1, ground := Go.Ground.phase }, { on := 2, ground := Go.Ground.phase }, { on := 3, ground := Go.Ground.phase }, { on := 4, ground := Go.Ground.phase }, { on := 5, ground := Go.Ground.phase }, { on := 6, ground := Go.Ground.phase }, { on := 7, ground := Go.Ground.phase }, { on := 8, ground := Go.Ground.phase }, { on := 9, ground := Go.Ground.phase }, { on := 10, ground := Go.Ground.phase }, { on := 11, ground := Go.Ground.phase }, { on := 12, ground := Go.Ground.phase }, { on := 13, ground := Go.Ground.phase }], guard := none }) (v := ?vq170) [15] rfl (by kernel_rfl) (by kernel_rfl) (by kernel_rfl) (by kernel_rfl) (by kernel_rfl) (fun _ _ _ h => h) (Or.inl ⟨by rfl, ?hyq170⟩) (by assumption) ?restq170
                case hyq170 => (intro w0 hSw; (try dsimp only at hSw); go_simp; try with_reducible rfl)
                simp only [Act.put, List.setIfInBounds_toArray, List.set_cons_zero, List.set_cons_succ]
                refine wpAnyK_take (i := 15) (oi := { dst := some 154, op := Go.Op.fieldAddr 30 (Go.Operand.tmp 153) 0, type := 0, pos := "ref.go:67", after := #[{ on := 14, ground := Go.Ground.data }, { on := 0, ground := Go.Ground.phase }, { on := 1, ground := Go.Ground.phase }, { on := 2, ground := Go.Ground.phase }, { on := 3, ground := Go.Ground.phase }, { on := 4, ground := Go.Ground.phase }, { on := 5, ground := Go.Ground.phase }, { on := 6, ground := Go.Ground.phase }, { on := 7, ground := Go.Ground.phase }, { on := 8, ground := Go.Ground.phase }, { on := 9, ground := Go.Ground.phase }, { on := 10, ground := Go.Ground.phase }, { on := 11, ground := Go.Ground.phase }, { on := 12, ground := Go.Ground.phase }, { on := 13, ground := Go.Ground.phase }], guard := none }) (v := ?vq171) [] rfl (by kernel_rfl) (by kernel_rfl) (by kernel_rfl) (by kernel_rfl) (by kernel_rfl) (fun _ _ _ h => h) (Or.inl ⟨by rfl, ?hyq171⟩) (by assumption) ?restq171
                case hyq171 => (intro w0 hSw; (try dsimp only at hSw); go_simp; try with_reducible rfl)
                simp only [Act.put, List.setIfInBounds_toArray, List.set_cons_zero, List.set_cons_succ]
                refine wpAnyK_ready (rs := [16]) (by kernel_rfl) (by simp) ?_
                refine AllReadyK.cons (o := { dst := none, op := Go.Op.store 22 (Go.Operand.tmp 154) (Go.Operand.tmp 152), type := 0, pos := "ref.go:67", after := #[{ on := 15, ground := Go.Ground.data }, { on := 13, ground := Go.Ground.data }, { on := 13, ground := Go.Ground.chain }, { on := 0, ground := Go.Ground.phase }, { on := 1, ground := Go.Ground.phase }, { on := 2, ground := Go.Ground.phase }, { on := 3, ground := Go.Ground.phase }, { on := 4, ground := Go.Ground.phase }, { on := 5, ground := Go.Ground.phase }, { on := 6, ground := Go.Ground.phase }, { on := 7, ground := Go.Ground.phase }, { on := 8, ground := Go.Ground.phase }, { on := 9, ground := Go.Ground.phase }, { on := 10, ground := Go.Ground.phase }, { on := 11, ground := Go.Ground.phase }, { on := 12, ground := Go.Ground.phase }, { on := 13, ground := Go.Ground.phase }], guard := none }) rfl (fun K hK => ?_) AllReadyK.nil
                go_simp
                refine hK.out _ _ (.inl rfl) (fun _ => ?_)
                clear hK K
                try simp only [Act.put, List.setIfInBounds_toArray, List.set_cons_zero, List.set_cons_succ]
                refine wpAnyK_done (by kernel_rfl) ?_ _
                refine NoPanic.normal ?_
                have hend := HFIN.out _ w13 _ b3 c3 (by (repeat (first | with_reducible assumption | exact Sc.start _ | apply Sc.dr | apply Sc.alloc))) hown3 hg3 hbo3 rfl
                obtain ⟨w14, HW14⟩ : ∃ V, Hid (V = w13.setCell ⟨x, 0, none⟩ (.slice b3 (m2 + 1) c3)) := ⟨_, hid rfl⟩
                rw [← HW14.out] at hend ⊢
                obtain ⟨eA, cA, fA, dA, hSA⟩ := hend
                have HSA2 := hid hSA
                clear hown3 hb3 hg3 hbo3 htb3 hHeld hs0 hs6 ht6 f5 e5 hpk5 HSA HFL2 HH3 HZL HW0 HFIN hSA
                obtain ⟨bA, hfA⟩ := row_zero HSA2.out.at_.rowW (show 0 < g'.W.length by have := HJX.out; omega)
                subst hfA
                have hjn : (j : Int) ≤ (n2 : Int) := by omega
                have hjc : (j : Int) ≤ (dA : Int) := by
                  have h1 := HSA2.out.at_.heldW.2
                  have h2 : g'.W.length = n2 := HN2.out
                  have h3 : g'.W.length ≤ dA := h1
                  omega
                have hnc : (n2 : Int) ≤ (dA : Int) := by
                  have h1 := HSA2.out.at_.heldW.2
                  have h2 : g'.W.length = n2 := HN2.out
                  have h3 : g'.W.length ≤ dA := h1
                  omega
                have hj1 : (0 : Int) ≤ (j : Int) + 1 := by omega
                have hj1n : (j : Int) + 1 ≤ (n2 : Int) := by omega
                have hj1c : (j : Int) + 1 ≤ (dA : Int) := by omega
                have hwji : IntKind.i64.wrap ((j : Int) + 1) = (j : Int) + 1 := wrapNI (by omega) (by have := HNF2.out; omega)
                have HDC : Hid (n2 ≤ dA) := (by omega : n2 ≤ dA)
                have HW0 : Hid (∀ V, Sc w14 V → Below w0.heap.size w0 V) := fun V hV => (HSA2.out.at_.below hV.out).bel
                have HHX : Hid (∀ V, Sc w14 V → HeldE V (some ⟨bA, 0, none⟩) g'.W) := fun V hV => (HSA2.out.at_.below hV.out).heldW.1
                have HZT : Hid (AllOk w0 (g'.W.take j)) := fun z hz => HS12.out.at_.okW z (List.mem_of_mem_take hz)
                have HZ3 : Hid (AllOk w0 (g'.W.take j ++ g'.W.drop (j + 1))) := fun z hz => (List.mem_append.1 hz).elim (HZT.out z) (fun h => HS12.out.at_.okW z (List.mem_of_mem_drop h))
                have HSA : Hid (∀ V, Sc w14 V → (Sc w14 V ∧ V.cell? ⟨x, 1, none⟩ = some (.slice (some ⟨bA, 0, none⟩) n2 dA))) := fun V hV => by
                  have h1 := (HSA2.out.at_.below hV.out).blk.cell (i := 1) rfl
                  have h2 : g'.W.length = n2 := HN2.out
                  rw [← h2]
                  exact ⟨hV, h1⟩
                have HFIN : Hid (∀ w5 W bo cp r, Sc w14 w5 → r + 1 = n2 → w5.ownsRow w14.heap.size 33 8 (.slice bo r cp) r (flatE (g'.W.take j ++ g'.W.drop (j + 1))) → W = w5.setCell ⟨x, 1, none⟩ (.slice bo r cp) → ∃ eB cB fB dB, DlS w0 w W x (FootR x eo g.L.length cap fo g.W.length cap2) (stepM g') eB cB fB dB) := fun w5 W bo cp r e1 e2 e3 e4 => by
                  have hlen := dropE_len HJX.out
                  have h8 := HN2.out
                  have h9 := HNF2.out
                  have hst : stepM g' = ⟨g'.L ++ [⟨⟨zo, zs, zd, zct, zep, zsk, zqt, zcl⟩, za, zc⟩], dropE g'.W j⟩ := by
                    unfold stepM
                    rw [← HJN.out, List.getD_eq_getElem?_getD, List.getElem?_eq_getElem HJX.out]
                    show (⟨g'.L ++ [g'.W[j]'HJX.out], dropE g'.W j⟩ : Dm) = _
                    rw [HZ.out, ← HZ2.out]
                  rw [hst]
                  exact HSA2.out.next (dl_newW (g := ⟨g'.L ++ [⟨⟨zo, zs, zd, zct, zep, zsk, zqt, zcl⟩, za, zc⟩], g'.W⟩) HSA2.out.at_ (dropE g'.W j) (by omega) (by omega) HZ3.out (fun z hz => HS12.out.at_.mayW z (dropE_mem hz)) (Below.refl _ _) e1 e3 e4)
                have hs6 : Sc w14 w14 := Sc.start w14
                go_wp2
                refine wp_region_noPanic ?_
                refine wp_region_K 19 (fun V => Sc w14 V ∧ V.cell? ⟨x, 1, none⟩ = some (.slice (some ⟨bA, 0, none⟩) n2 dA)) (by kernel_rfl) (HSA.out _ hs6.dr) (fun hHeld => ?_)
                have hs0 := hs6.dr
                refine wpAnyK_take (i := 0) (oi := { dst := some 155, op := Go.Op.move (Go.Operand.tmp 0), type := 28, pos := "ref.go:68", after := #[], guard := none }) (v := ?vq172) [] rfl (by kernel_rfl) (by kernel_rfl) (by kernel_rfl) (by kernel_rfl) (by kernel_rfl) (fun _ _ _ h => h) (Or.inl ⟨by rfl, ?hyq172⟩) (by assumption) ?restq172
                case hyq172 => (intro w0 hSw; (try dsimp only at hSw); go_simp; try with_reducible rfl)
                simp only [Act.put, List.setIfInBounds_toArray, List.set_cons_zero, List.set_cons_succ]
                refine wpAnyK_take (i := 2) (oi := { dst := some 157, op := Go.Op.move (Go.Operand.tmp 0), type := 28, pos := "ref.go:68", after := #[], guard := none }) (v := ?vq173) [] rfl (by kernel_rfl) (by kernel_rfl) (by kernel_rfl) (by kernel_rfl) (by kernel_rfl) (fun _ _ _ h => h) (Or.inl ⟨by rfl, ?hyq173⟩) (by assumption) ?restq173
                case hyq173 => (intro w0 hSw; (try dsimp only at hSw); go_simp; try with_reducible rfl)
                simp only [Act.put, List.setIfInBounds_toArray, List.set_cons_zero, List.set_cons_succ]
                refine wpAnyK_take (i := 3) (oi := { dst := some 158, op := Go.Op.nilCheck (Go.Operand.tmp 157), type := 0, pos := "ref.go:68", after := #[{ on := 2, ground := Go.Ground.data }], guard := none }) (v := ?vq174) [] rfl (by kernel_rfl) (by kernel_rfl) (by kernel_rfl) (by kernel_rfl) (by kernel_rfl) (fun _ _ _ h => h) (Or.inl ⟨by rfl, ?hyq174⟩) (by assumption) ?restq174
                case hyq174 => (intro w0 hSw; (try dsimp only at hSw); go_simp; try with_reducible rfl)
                simp only [Act.put, List.setIfInBounds_toArray, List.set_cons_zero, List.set_cons_succ]
                refine wpAnyK_take (i := 4) (oi := { dst := some 159, op := Go.Op.fieldAddr 30 (Go.Operand.tmp 158) 1, type := 0, pos := "ref.go:68", after := #[{ on := 3, ground := Go.Ground.data }], guard := none }) (v := ?vq175) [] rfl (by kernel_rfl) (by kernel_rfl) (by kernel_rfl) (by kernel_rfl) (by kernel_rfl) (fun _ _ _ h => h) (Or.inl ⟨by rfl, ?hyq175⟩) (by assumption) ?restq175
                case hyq175 => (intro w0 hSw; (try dsimp only at hSw); go_simp; try with_reducible rfl)
                simp only [Act.put, List.setIfInBounds_toArray, List.set_cons_zero, List.set_cons_succ]
                refine wpAnyK_take (i := 5) (oi := { dst := some 160, op := Go.Op.load 22 (Go.Operand.tmp 159), type := 22, pos := "ref.go:68", after := #[{ on := 4, ground := Go.Ground.data }], guard := none }) (v := ?vq176) [] rfl (by kernel_rfl) (by kernel_rfl) (by kernel_rfl) (by kernel_rfl) (by kernel_rfl) (fun _ _ _ h => h) (Or.inl ⟨by rfl, ?hyq176⟩) (by assumption) ?restq176
                case hyq176 => (intro w0 hSw; (try dsimp only at hSw); go_simp; try with_reducible rfl)
                simp only [Act.put, List.setIfInBounds_toArray, List.set_cons_zero, List.set_cons_succ]
                refine wpAnyK_take (i := 6) (oi := { dst := some 161, op := Go.Op.move (Go.Operand.tmp 9), type := 3, pos := "ref.go:68", after := #[], guard := none }) (v := ?vq177) [] rfl (by kernel_rfl) (by kernel_rfl) (by kernel_rfl) (by kernel_rfl) (by kernel_rfl) (fun _ _ _ h => h) (Or.inl ⟨by rfl, ?hyq177⟩) (by assumption) ?restq177
                case hyq177 => (intro w0 hSw; (try dsimp only at hSw); go_simp; try with_reducible rfl)
                simp only [Act.put, List.setIfInBounds_toArray, List.set_cons_zero, List.set_cons_succ]
                refine wpAnyK_take (i := 7) (oi := { dst := some 162, op := Go.Op.slice 22 (Go.Operand.tmp 160) none (some (Go.Operand.tmp 161)) none, type := 22, pos := "ref.go:68", after := #[{ on := 5, ground := Go.Ground.data }, { on := 6, ground := Go.Ground.data }], guard := none }) (v := ?vq178) [] rfl (by kernel_rfl) (by kernel_rfl) (by kernel_rfl) (by kernel_rfl) (by kernel_rfl) (fun _ _ _ h => h) (Or.inl ⟨by rfl, ?hyq178⟩) (by assumption) ?restq178
                case hyq178 => (intro w0 hSw; (try dsimp only at hSw); go_simp; try with_reducible rfl)
                simp only [Act.put, List.setIfInBounds_toArray, List.set_cons_zero, List.set_cons_succ]
                refine wpAnyK_take (i := 9) (oi := { dst := some 164, op := Go.Op.move (Go.Operand.tmp 0), type := 28, pos := "ref.go:68", after := #[], guard := none }) (v := ?vq179) [] rfl (by kernel_rfl) (by kernel_rfl) (by kernel_rfl) (by kernel_rfl) (by kernel_rfl) (fun _ _ _ h => h) (Or.inl ⟨by rfl, ?hyq179⟩) (by assumption) ?restq179
                case hyq179 => (intro w0 hSw; (try dsimp only at hSw); go_simp; try with_reducible rfl)
                simp only [Act.put, List.setIfInBounds_toArray, List.set_cons_zero, List.set_cons_succ]
                refine wpAnyK_take (i := 10) (oi := { dst := some 165, op := Go.Op.nilCheck (Go.Operand.tmp 164), type := 0, pos := "ref.go:68", after := #[{ on := 9, ground := Go.Ground.data }], guard := none }) (v := ?vq180) [] rfl (by kernel_rfl) (by kernel_rfl) (by kernel_rfl) (by kernel_rfl) (by kernel_rfl) (fun _ _ _ h => h) (Or.inl ⟨by rfl, ?hyq180⟩) (by assumption) ?restq180
                case hyq180 => (intro w0 hSw; (try dsimp only at hSw); go_simp; try with_reducible rfl)
                simp only [Act.put, List.setIfInBounds_toArray, List.set_cons_zero, List.set_cons_succ]
                refine wpAnyK_take (i := 11) (oi := { dst := some 166, op := Go.Op.fieldAddr 30 (Go.Operand.tmp 165) 1, type := 0, pos := "ref.go:68", after := #[{ on := 10, ground := Go.Ground.data }], guard := none }) (v := ?vq181) [] rfl (by kernel_rfl) (by kernel_rfl) (by kernel_rfl) (by kernel_rfl) (by kernel_rfl) (fun _ _ _ h => h) (Or.inl ⟨by rfl, ?hyq181⟩) (by assumption) ?restq181
                case hyq181 => (intro w0 hSw; (try dsimp only at hSw); go_simp; try with_reducible rfl)
                simp only [Act.put, List.setIfInBounds_toArray, List.set_cons_zero, List.set_cons_succ]
                refine wpAnyK_take (i := 12) (oi := { dst := some 167, op := Go.Op.load 22 (Go.Operand.tmp 166), type := 22, pos := "ref.go:68", after := #[{ on := 11, ground := Go.Ground.data }], guard := none }) (v := ?vq182) [] rfl (by kernel_rfl) (by kernel_rfl) (by kernel_rfl) (by kernel_rfl) (by kernel_rfl) (fun _ _ _ h => h) (Or.inl ⟨by rfl, ?hyq182⟩) (by assumption) ?restq182
                case hyq182 => (intro w0 hSw; (try dsimp only at hSw); go_simp; try with_reducible rfl)
                simp only [Act.put, List.setIfInBounds_toArray, List.set_cons_zero, List.set_cons_succ]
                refine wpAnyK_take (i := 13) (oi := { dst := some 168, op := Go.Op.move (Go.Operand.tmp 9), type := 3, pos := "ref.go:68", after := #[], guard := none }) (v := ?vq183) [] rfl (by kernel_rfl) (by kernel_rfl) (by kernel_rfl) (by kernel_rfl) (by kernel_rfl) (fun _ _ _ h => h) (Or.inl ⟨by rfl, ?hyq183⟩) (by assumption) ?restq183
                case hyq183 => (intro w0 hSw; (try dsimp only at hSw); go_simp; try with_reducible rfl)
                simp only [Act.put, List.setIfInBounds_toArray, List.set_cons_zero, List.set_cons_succ]
                refine wpAnyK_take (i := 14) (oi := { dst := some 169, op := Go.Op.binOp Go.BinOp.add 3 (Go.Operand.tmp 168) (Go.Operand.const (Go.Value.int Go.IntKind.i64 1)) 3, type := 3, pos := "ref.go:68", after := #[{ on := 13, ground := Go.Ground.data }], guard := none }) (v := ?vq184) [] rfl (by kernel_rfl) (by kernel_rfl) (by kernel_rfl) (by kernel_rfl) (by kernel_rfl) (fun _ _ _ h => h) (Or.inl ⟨by rfl, ?hyq184⟩) (by assumption) ?restq184
                case hyq184 => (intro w0 hSw; (try dsimp only at hSw); go_simp; try with_reducible rfl)
                simp only [Act.put, List.setIfInBounds_toArray, List.set_cons_zero, List.set_cons_succ]
                refine wpAnyK_take (i := 15) (oi := { dst := some 170, op := Go.Op.slice 22 (Go.Operand.tmp 167) (some (Go.Operand.tmp 169)) none none, type := 22, pos := "ref.go:68", after := #[{ on := 12, ground := Go.Ground.data }, { on := 14, ground := Go.Ground.data }], guard := none }) (v := ?vq185) [] rfl (by kernel_rfl) (by kernel_rfl) (by kernel_rfl) (by kernel_rfl) (by kernel_rfl) (fun _ _ _ h => h) (Or.inl ⟨by rfl, ?hyq185⟩) (by assumption) ?restq185
                case hyq185 => (intro w0 hSw; (try dsimp only at hSw); go_simp; try with_reducible rfl)
                simp only [Act.put, List.setIfInBounds_toArray, List.set_cons_zero, List.set_cons_succ]
                refine wpAnyK_ready (rs := [1]) (by kernel_rfl) (by simp) ?_
                refine AllReadyK.cons (o := { dst := some 156, op := Go.Op.buildSlice 22 0 #[], type := 22, pos := "ref.go:68", after := #[], guard := none }) rfl (fun K hK => ?_) AllReadyK.nil
                go_simp
                refine hK.out _ _ (.inr (HSA.out _ (by (repeat (first | with_reducible assumption | exact Sc.start _ | apply Sc.dr | apply Sc.alloc))))) (fun hHeld => ?_)
                have hHeld := hHeld.resolve_right (by decide)
                clear hK K
                try simp only [Act.put, List.setIfInBounds_toArray, List.set_cons_zero, List.set_cons_succ]
                refine wpAnyK_ready (rs := [8]) (by kernel_rfl) (by simp) ?_
                refine AllReadyK.cons (o := { dst := some 163, op := Go.Op.call { callee := Go.Callee.builtin Go.Builtin.append, args := #[Go.Operand.tmp 156, Go.Operand.tmp 162], argTypes := #[22, 22] }, type := 22, pos := "ref.go:68", after := #[{ on := 1, ground := Go.Ground.data }, { on := 7, ground := Go.Ground.data }], guard := none }) rfl (fun K hK => ?_) AllReadyK.nil
                refine step_copy_evs rfl _ _ rfl w14.heap.size _ rfl ?ownz187 _ _ _ (g'.W.take j) ?hmz187 rfl ?hhz187 ?hsumz187 ?hbasez187 ?hokz187 ?restz187
                case ownz187 => exact ownE_made w14 _ (Nat.le_refl _)
                case hmz187 => have := HN2.out; have := HJX.out; rw [List.length_take]; omega
                case hhz187 => exact (HHX.out _ (by (repeat (first | with_reducible assumption | exact Sc.start _ | apply Sc.dr | apply Sc.alloc)))).take j
                case hsumz187 => have := HJX.out; have := HN2.out; have := HNF2.out; omega
                case hbasez187 => exact Sc.size (by (repeat (first | with_reducible assumption | exact Sc.start _ | apply Sc.dr | apply Sc.alloc)))
                case hokz187 => exact fun V hV => Dl0 HZT.out (HW0.out V (Sc.grown (by (repeat (first | with_reducible assumption | exact Sc.start _ | apply Sc.dr | apply Sc.alloc))) hV))
                intro b3 c3 w15 hown3 hh3 hb3 hg3
                have hsc3 : Sc w14 w15 := Sc.grown (by (repeat (first | with_reducible assumption | exact Sc.start _ | apply Sc.dr | apply Sc.alloc))) hb3
                refine hK.out _ _ (.inr (HSA.out _ (by (repeat (first | with_reducible assumption | exact Sc.start _ | apply Sc.dr | apply Sc.alloc))))) (fun hHeld => ?_)
                have hHeld := hHeld.resolve_right (by decide)
                clear hK K
                try simp only [Act.put, List.setIfInBounds_toArray, List.set_cons_zero, List.set_cons_succ]
                refine wpAnyK_ready (rs := [16]) (by kernel_rfl) (by simp) ?_
                refine AllReadyK.cons (o := { dst := some 171, op := Go.Op.call { callee := Go.Callee.builtin Go.Builtin.append, args := #[Go.Operand.tmp 163, Go.Operand.tmp 170], argTypes := #[22, 22] }, type := 22, pos := "ref.go:68", after := #[{ on := 8, ground := Go.Ground.data }, { on := 15, ground := Go.Ground.data }, { on := 8, ground := Go.Ground.chain }], guard := none }) rfl (fun K hK => ?_) AllReadyK.nil
                refine step_append_evs rfl _ _ rfl w14.heap.size _ _ (g'.W.take j) ?hnz188 rfl hown3 _ _ _ (g'.W.drop (j + 1)) ?hmz188 rfl ?hhz188 ?hsumz188 ?hbasez188 ?hokz188 ?restz188
                case hnz188 => have := HN2.out; have := HJX.out; rw [List.length_take]; omega
                case hmz188 => have := HN2.out; have := HJX.out; rw [List.length_drop]; omega
                case hhz188 => first | exact held_drop0E (HHX.out _ (by (repeat (first | with_reducible assumption | exact Sc.start _ | apply Sc.dr | apply Sc.alloc)))) (j + 1) (by have := HN2.out; have := HDC.out; omega) | exact (HHX.out _ (by (repeat (first | with_reducible assumption | exact Sc.start _ | apply Sc.dr | apply Sc.alloc)))).drop0 (j + 1)
                case hsumz188 => have := HJX.out; have := HN2.out; have := HNF2.out; omega
                case hbasez188 => exact Sc.size (by (repeat (first | with_reducible assumption | exact Sc.start _ | apply Sc.dr | apply Sc.alloc)))
                case hokz188 => exact fun V hV => Dl0 HZ3.out (HW0.out V (Sc.grown (by (repeat (first | with_reducible assumption | exact Sc.start _ | apply Sc.dr | apply Sc.alloc))) hV))
                intro b4 c4 w16 hown4 hh4 hb4 hg4
                have hsc4 : Sc w14 w16 := Sc.grown (by (repeat (first | with_reducible assumption | exact Sc.start _ | apply Sc.dr | apply Sc.alloc))) hb4
                refine hK.out _ _ (.inr (HSA.out _ (by (repeat (first | with_reducible assumption | exact Sc.start _ | apply Sc.dr | apply Sc.alloc))))) (fun hHeld => ?_)
                have hHeld := hHeld.resolve_right (by decide)
                clear hK K
                try simp only [Act.put, List.setIfInBounds_toArray, List.set_cons_zero, List.set_cons_succ]
                have hpk5 := (HSA2.out.at_.below hsc4.out).blk
                have f5 := hpk5.frozen 1
                have e5 := hpk5.cell (i := 1) rfl
                have hn5 : g'.W.length = n2 := HN2.out
                rw [show (⟨g'.L ++ [⟨⟨zo, zs, zd, zct, zep, zsk, zqt, zcl⟩, za, zc⟩], g'.W⟩ : Dm).W.length = n2 from hn5] at e5
                refine wpAnyK_take (i := 17) (oi := { dst := some 172, op := Go.Op.nilCheck (Go.Operand.tmp 155), type := 0, pos := "ref.go:68", after := #[{ on := 0, ground := Go.Ground.data }, { on := 0, ground := Go.Ground.phase }, { on := 1, ground := Go.Ground.phase }, { on := 2, ground := Go.Ground.phase }, { on := 3, ground := Go.Ground.phase }, { on := 4, ground := Go.Ground.phase }, { on := 5, ground := Go.Ground.phase }, { on := 6, ground := Go.Ground.phase }, { on := 7, ground := Go.Ground.phase }, { on := 8, ground := Go.Ground.phase }, { on := 9, ground := Go.Ground.phase }, { on := 10, ground := Go.Ground.phase }, { on := 11, ground := Go.Ground.phase }, { on := 12, ground := Go.Ground.phase }, { on := 13, ground := Go.Ground.phase }, { on := 14, ground := Go.Ground.phase }, { on := 15, ground := Go.Ground.phase }, { on := 16, ground := Go.Ground.phase }], guard := none }) (v := ?vq189) [18] rfl (by kernel_rfl) (by kernel_rfl) (by kernel_rfl) (by kernel_rfl) (by kernel_rfl) (fun _ _ _ h => h) (Or.inl ⟨by rfl, ?hyq189⟩) (by assumption) ?restq189
                case hyq189 => (intro w0 hSw; (try dsimp only at hSw); go_simp; try with_reducible rfl)
                simp only [Act.put, List.setIfInBounds_toArray, List.set_cons_zero, List.set_cons_succ]
                refine wpAnyK_take (i := 18) (oi := { dst := some 173, op := Go.Op.fieldAddr 30 (Go.Operand.tmp 172) 1, type := 0, pos := "ref.go:68", after := #[{ on := 17, ground := Go.Ground.data }, { on := 0, ground := Go.Ground.phase }, { on := 1, ground := Go.Ground.phase }, { on := 2, ground := Go.Ground.phase }, { on := 3, ground := Go.Ground.phase }, { on := 4, ground := Go.Ground.phase }, { on := 5, ground := Go.Ground.phase }, { on := 6, ground := Go.Ground.phase }, { on := 7, ground := Go.Ground.phase }, { on := 8, ground := Go.Ground.phase }, { on := 9, ground := Go.Ground.phase }, { on := 10, ground := Go.Ground.phase }, { on := 11, ground := Go.Ground.phase }, { on := 12, ground := Go.Ground.phase }, { on := 13, ground := Go.Ground.phase }, { on := 14, ground := Go.Ground.phase }, { on := 15, ground := Go.Ground.phase }, { on := 16, ground := Go.Ground.phase }], guard := none }) (v := ?vq190) [] rfl (by kernel_rfl) (by kernel_rfl) (by kernel_rfl) (by kernel_rfl) (by kernel_rfl) (fun _ _ _ h => h) (Or.inl ⟨by rfl, ?hyq190⟩) (by assumption) ?restq190
                case hyq190 => (intro w0 hSw; (try dsimp only at hSw); go_simp; try with_reducible rfl)
                simp only [Act.put, List.setIfInBounds_toArray, List.set_cons_zero, List.set_cons_succ]
                refine wpAnyK_ready (rs := [19]) (by kernel_rfl) (by simp) ?_
                refine AllReadyK.cons (o := { dst := none, op := Go.Op.store 22 (Go.Operand.tmp 173) (Go.Operand.tmp 171), type := 0, pos := "ref.go:68", after := #[{ on := 18, ground := Go.Ground.data }, { on := 16, ground := Go.Ground.data }, { on := 16, ground := Go.Ground.chain }, { on := 0, ground := Go.Ground.phase }, { on := 1, ground := Go.Ground.phase }, { on := 2, ground := Go.Ground.phase }, { on := 3, ground := Go.Ground.phase }, { on := 4, ground := Go.Ground.phase }, { on := 5, ground := Go.Ground.phase }, { on := 6, ground := Go.Ground.phase }, { on := 7, ground := Go.Ground.phase }, { on := 8, ground := Go.Ground.phase }, { on := 9, ground := Go.Ground.phase }, { on := 10, ground := Go.Ground.phase }, { on := 11, ground := Go.Ground.phase }, { on := 12, ground := Go.Ground.phase }, { on := 13, ground := Go.Ground.phase }, { on := 14, ground := Go.Ground.phase }, { on := 15, ground := Go.Ground.phase }, { on := 16, ground := Go.Ground.phase }], guard := none }) rfl (fun K hK => ?_) AllReadyK.nil
                go_simp
                refine hK.out _ _ (.inl rfl) (fun _ => ?_)
                clear hK K
                try simp only [Act.put, List.setIfInBounds_toArray, List.set_cons_zero, List.set_cons_succ]
                refine wpAnyK_done (by kernel_rfl) ?_ _
                refine NoPanic.normal ?_
                have hend := HFIN.out w16 _ b4 c4 _ hsc4 (by have := HJX.out; have := HN2.out; omega) hown4 rfl
                obtain ⟨eB, cB, fB, dB, hSB⟩ := hend
                have HSB := hid hSB
                have HLL : Hid (lastM (stepM g') = FIN) := by show _ = _; rw [← HL.out]; exact (lastM_step HFX.out (by rw [← HJN.out]; exact HJX.out)).symm
                have HMB : Hid (m + 1 ≤ (stepM g').L.length) := by have h1 := HMM.out; show m + 1 ≤ (g'.L ++ [_]).length; rw [List.length_append]; omega
                have HMU := hid (mu_ltO HSB.out.at_ HS.out.at_ (dropE_len (by rw [← HJN.out]; exact HJX.out)))
                clear hown3 hown4 hh3 hh4 hsc3 hsc4 hb3 hb4 hg3 hg4 hHeld hs0 hs6 f5 e5 hpk5 hn5 hSB HSA HFIN HW0 HHX HZT HZ3 hjn hjc hnc hj1 hj1n hj1c hwji
                go_wp2
                go_roundw
                case rel => exact ⟨true, rfl, stepM g', _, _, _, _, HSB.out, HLL.out, (fun e => absurd e (by decide)), HMB.out⟩
                case measure => exact HMU.out
            · have hlt' : ¬ (j : Int) < (n2 : Int) := by omega
              have HST : Hid (g' = FIN) := by
                show _ = _
                rw [← HL.out]
                exact (lastM_stop (.inr (nextM_none (by rw [HN2.out, show n2 = j by omega]; exact HNO.out)))).symm
              have HMU : Hid (muP x (.bool false) wr < muP x (.bool true) wB) := by
                have h1 := muP_eq HSZ.out.at_ false
                have h2 := muP_eq HS.out.at_ true
                show _ < _
                rw [h1, h2]
                simp
              go_wp2
              go_roundw
              case rel => exact ⟨false, rfl, g', _, _, _, _, HSZ.out, HL.out, fun _ => HST.out, HMM.out⟩
              case measure => exact HMU.out
end Go.Proofs.YtjlompnjhmbhhaaGreat
