/-
  OplogDoes: pannierlaw10.looks: what a log should have, it has.
-/
import Derived.Test.YtjlompnjhmbhhaaGreatOlU
import Derived.Test.YtjlompnjhmbhhaaGreatRows
import Derived.Test.YtjlompnjhmbhhaaGreatBlk
import Derived.Lib.SmallJoins
namespace Go.Proofs.YtjlompnjhmbhhaaGreat
open Go.RowKit Go.Shelf Go.Maps
attribute [local go_sem] Oper.semAt_some
set_option linter.unusedSimpArgs false

theorem wrap_smallO {c M : Nat} (h : c < M) (h2 : M ≤ 65536) : wrap64 ((c : Int) + 1) = (c : Int) + 1 := wrapN (by omega) (by omega)
theorem dec_leO {c M : Nat} (h : c < M) : decide ((M : Int) ≤ (c : Int)) = false := decide_eq_false (by omega)
theorem dec_leO2 {c M : Nat} (h : c < M) : decide (M ≤ c) = false := decide_eq_false (by omega)
theorem int_ltO {c M : Nat} (h : c < M) : (c : Int) < (M : Int) := by omega
theorem evs_takeL (xs : List EvM) (k : Nat) : evs (xs.take k) = (evs xs).take k := List.map_take
set_option maxRecDepth 1000000 in
set_option maxHeartbeats 8000000 in
theorem looks_log {w0 w : World} {p me mw x : Nat} {g : Lg} {gm : Dm} (h : DuL w0 w p me mw x g gm) (vo : Option Addr) (vc : Nat) (v : List Int) (k0 : Nat) (hk0 : v.length = k0) (hv : HV w vo vc v) (most : Int) (o s : Int) (ho : I64 o) (hs : I64 s) :
    Calls Tryz.prog 12 #[.pointer (some ⟨p, 0, none⟩), .pointer (some ⟨x, 0, none⟩), .slice vo k0 vc, .int .i64 most, .agg #[.int .i64 o, .int .i64 s]] w fun e w' => e = .returned (.bool true) ∧ Below w.heap.size w w' := by
  refine (callsIn_wide (n := 5)).1 ?_
  have H := hid h
  have HV0 := hid hv
  have HK0 := hid hk0
  have HIO : Hid (I64 o ∧ I64 s) := ⟨ho, hs⟩
  obtain ⟨eo, cap, fo, cap2, hD⟩ := h.D
  have HD := hid hD
  have HFL : Hid (gm.L.length ≤ 65536) := hD.fewL
  have HEVA : Hid (evL [] g = evs (sortM gm.L)) := all_same h.same h.L h.nod
  have HAFE : Hid (evL v g = evs (restE v (sortM gm.L))) := after_same h.same h.L h.nod v
  have HSL : Hid ((sortM gm.L).length = gm.L.length) := by
    have := sortM_len_take gm.L gm.L.length (Nat.le_refl _)
    rw [List.take_length] at this
    exact this
  obtain ⟨n, HN⟩ : ∃ n, Hid (gm.W.length = n) := ⟨_, hid rfl⟩
  have HNF : Hid (n ≤ 4096) := by rw [← HN.out]; exact hD.fewW
  obtain ⟨S, HS⟩ : ∃ S, Hid (sortM gm.L = S) := ⟨_, hid rfl⟩
  have HAR := hid (hD.after)
  have HSR := hid (hD.sorted)
  rw [HS.out] at HEVA HAFE HSL HSR
  obtain ⟨M, HM⟩ : ∃ M, Hid (S.length = M) := ⟨_, hid rfl⟩
  have HMF : Hid (M ≤ 65536) := by have := HM.out; have := HSL.out; have := HFL.out; exact (by omega : M ≤ 65536)
  have HRL : Hid ((restE v S).length ≤ 65536) := by
    have h1 : (restE v S).length ≤ S.length := List.length_filter_le _ _
    have := HM.out
    have := HMF.out
    exact (by omega : (restE v S).length ≤ 65536)
  have HAFL : Hid ((evL v g).length ≤ 65536) := by rw [HAFE.out, evs_len]; exact HRL.out
  obtain ⟨T0, HT0⟩ : ∃ T, Hid ((restE v S).take most.toNat = T) := ⟨_, hid rfl⟩
  have HAFT : Hid ((evL v g).take most.toNat = evs T0) := by rw [HAFE.out, ← evs_takeL, HT0.out]; exact hid rfl
  obtain ⟨nT, HNT⟩ : ∃ n, Hid (T0.length = n) := ⟨_, hid rfl⟩
  have HNTF : Hid (nT ≤ 65536) := by
    rw [← HNT.out, ← HT0.out, List.length_take]
    have := HRL.out
    exact (by omega : min most.toNat (restE v S).length ≤ 65536)
  obtain ⟨V0, HV0E⟩ : ∃ V0, Hid (plainOf g.A = V0) := ⟨_, hid rfl⟩
  have HVEC : Hid (plainOf (vecL (evs gm.L)) = V0) := by rw [← HV0E.out]; exact (applied_same h.same).symm
  obtain ⟨L0, HL0⟩ : ∃ L0, Hid (V0.length = L0) := ⟨_, hid rfl⟩
  obtain ⟨ro, HRO⟩ : ∃ r, Hid ((g.E o s).map (·.e) = r) := ⟨_, hid rfl⟩
  have HFIND : Hid ((evs gm.L).find? (dotIs o s) = ro) := by rw [← HRO.out]; exact (get_same h.same h.L o s).symm
  have HWS := hid (fun ss (hss : WaitsOf g ss) => waits_same h.same h.L hss)
  clear h hv hk0 ho hs hD HAR HSR
  refine callsIn_of_wp_marks Tryz.func12 rfl trivial ?_ rfl
  simp only [Tryz.ntmps12, List.size_toArray, List.length_cons, List.length_nil, Nat.reduceAdd, Nat.reduceSub, Array.replicate_succ, Array.replicate_zero, List.push_toArray, List.append_toArray, List.nil_append, List.cons_append]
  refine wpIn_wide.2 ?_
  obtain ⟨Wa, hWa⟩ : ∃ V, V = w.alloc (.cells #[.int .i64 o, .int .i64 s] 25) := ⟨_, rfl⟩
  obtain ⟨W0, hW0⟩ : ∃ V, V = Wa.alloc (.cells #[.bool false] 4) := ⟨_, rfl⟩
  have hba : Below w.heap.size w Wa := by rw [hWa]; exact (Below.refl _ w).alloc (Nat.le_refl _) _
  have hb0 : Below Wa.heap.size Wa W0 := by rw [hW0]; exact (Below.refl _ _).alloc (Nat.le_refl _) _
  obtain ⟨ab, HAB⟩ : ∃ q, Hid (q = w.heap.size) := ⟨_, hid rfl⟩
  obtain ⟨rb, HRB⟩ : ∃ q, Hid (q = w.heap.size + 1) := ⟨_, hid rfl⟩
  have hsa : Wa.heap.size = w.heap.size + 1 := by rw [hWa]; simp
  have HB0 := hid (bt hba hb0)
  have HRES : Hid (Boxed W0 rb 4 (.bool false)) := by rw [hW0, HRB.out, ← hsa]; exact Boxed.new Wa _ _
  have HABX : Hid (Blk W0 ab 25 [.int .i64 o, .int .i64 s]) := by
    have h1 : Blk Wa ab 25 [.int .i64 o, .int .i64 s] := by rw [hWa, HAB.out]; exact Blk.new w _ _
    exact h1.below hb0 h1.lt
  have HW0 : Hid (W0 = (w.alloc (.cells #[.int .i64 o, .int .i64 s] 25)).alloc (.cells #[.bool false] 4)) := by show _ = _; rw [hW0, hWa]
  clear hW0 hWa hba hb0 hsa
  go_wp2_with fail
  rw [← HW0.out, ← HRB.out, ← HAB.out]
  refine (waiting_any (H.out.below HB0.out).L).mono ?_
  rintro e w1 ⟨wv, ss, rfl, hws, _, hrow, hb1⟩
  obtain rfl := HWS.out ss hws
  obtain ⟨wo, wc, rfl⟩ := own_slice hrow
  have HSSL : Hid ((gm.d.W.map (fun e => (e.o, e.s))).length = n) := by rw [List.length_map]; show (evs gm.W).length = n; rw [evs_len]; exact HN.out
  have HROW : Hid (w1.ownsRow W0.heap.size 25 2 (.slice wo n wc) (gm.d.W.map (fun e => (e.o, e.s))).length (flatD (gm.d.W.map (fun e => (e.o, e.s))))) := by rw [← HSSL.out]; exact hrow
  rw [HSSL.out]
  have HB1 := hid (bt HB0.out hb1)
  have HB01 := hid hb1
  clear hws hrow hb1 HWS
  have HU1 := hid (H.out.below HB1.out)
  have HD1 := hid (HD.out.below HB1.out)
  have e1 := HD1.out.blk.cell (i := 1) rfl
  rw [HN.out] at e1
  have hnn : ((n : Int) != (n : Int)) = false := by simp
  go_wp2_with fail
  clear hnn e1
  refine (applied_any HU1.out.L).mono ?_
  rintro e w2 ⟨a2, c2, rfl, hv2, hb2⟩
  rw [HV0E.out] at hv2 ⊢
  rw [HL0.out]
  have HV2 := hid hv2
  have HB2 := hid (bt HB1.out hb2)
  have HB02 := hid (bt HB01.out hb2)
  have HC2 := hid hb2
  clear hv2 hb2
  go_wp2_with fail
  refine ((HD.out.below HB2.out).applied).mono ?_
  rintro e w3 ⟨a3, c3, rfl, hv3, hb3⟩
  rw [HVEC.out] at hv3 ⊢
  rw [HL0.out]
  have HV3 := hid hv3
  have HB3 := hid (bt HB2.out hb3)
  have HB03 := hid (bt HB02.out hb3)
  have HC3 := hid (bt HC2.out hb3)
  have HV23 := hid (HV2.out.below hb3)
  clear hv3 hb3
  go_wp2_with fail
  refine (same_any w3 a2 a3 c2 c3 V0 V0 L0 L0 HL0.out HL0.out HV23.out HV3.out).mono ?_
  rintro e w4 ⟨rfl, q4, hw4⟩
  rw [decide_eq_true rfl]
  have HB4 : Hid (Below w.heap.size w w4) := by rw [hw4]; exact below_dn HB3.out q4
  have HB04 : Hid (Below W0.heap.size W0 w4) := by rw [hw4]; exact below_dn HB03.out q4
  have HC4 : Hid (Below w1.heap.size w1 w4) := by rw [hw4]; exact below_dn HC3.out q4
  clear hw4
  go_wp2_with fail
  refine (after_any (H.out.below HB4.out).L vo vc v (HV0.out.below HB4.out) k0 HK0.out most HAFL.out).mono ?_
  rintro e w5 ⟨r5, xs5, rfl, hr5, he5, hb5⟩
  obtain ⟨a5, c5, rfl⟩ := own_slice' hr5.row
  have HX5 : Hid (xs5.map (·.e) = evs T0) := by rw [← HAFT.out]; exact he5
  have HXL5 : Hid (xs5.length = nT) := by
    have := congrArg List.length HX5.out
    rw [List.length_map, evs_len, HNT.out] at this
    exact this
  have HHE5 : Hid (HeldE w5 a5 xs5) := (held_of_rowE hr5).1
  rw [HXL5.out]
  have HB5 := hid (bt HB4.out hb5)
  have HB05 := hid (bt HB04.out hb5)
  have HC5 := hid (bt HC4.out hb5)
  clear hr5 he5 hb5
  go_wp2_with fail
  refine ((HD.out.below HB5.out).after vo vc v k0 HK0.out (HV0.out.below HB5.out) most).mono ?_
  rintro e w6 ⟨a6, c6, rfl, hr6, hok6, hb6⟩
  rw [HS.out, HT0.out] at hr6 hok6 ⊢
  rw [HNT.out] at hr6 ⊢
  have HB6 := hid (bt HB5.out hb6)
  have HB06 := hid (bt HB05.out hb6)
  have HC6 := hid (bt HC5.out hb6)
  have HHE6 : Hid (HeldE w6 a6 T0) := by
    obtain ⟨ao, cp, he, _, h2⟩ := heldE_of_own HNT.out hr6 (hok6.below (H.out.below HB6.out).bel)
    cases he
    exact h2
  have HHE56 := hid (HHE5.out.below hb6)
  clear hr6 hok6 hb6
  go_wp2_with fail
  refine (sameEvs_anyO w6 a5 a6 c5 c6 xs5 T0 nT HXL5.out HNT.out HHE56.out HHE6.out HX5.out (by have := HNTF.out; omega)).mono ?_
  rintro e w7 ⟨rfl, hb7⟩
  have HB7 := hid (bt HB6.out hb7)
  have HB07 := hid (bt HB06.out hb7)
  have HB17 : Hid (Below w1.heap.size w1 w7) := bt HC6.out hb7
  clear hb7 HHE5 HHE6 HHE56 HX5 HXL5 HB2 HB3 HB4 HB5 HB6 HB02 HB03 HB04 HB05 HB06 HV2 HV3 HV23 HU1 HD1
  go_wp2
  go_loopw [12] (fun i wr => ∃ k : Nat, k ≤ n ∧ i = .int .i64 k ∧ Hid (Below w7.heap.size w7 wr)) (fun i _ => n - (intOf i).toNat)
  case atStart => exact ⟨0, Nat.zero_le _, rfl, Below.refl _ _⟩
  case round =>
    obtain ⟨k, hk, rfl, HBR⟩ := hrel
    have hk0' : (0 : Int) ≤ (k : Int) := by omega
    have HBW := hid (bt HB7.out HBR.out)
    by_cases hlt : k < n
    · have hlt' : (k : Int) < (n : Int) := by omega
      have HKM : Hid (k + 1 ≤ n) := (by omega : k + 1 ≤ n)
      have hwk : wrap64 ((k : Int) + 1) = (k : Int) + 1 := wrapN (by omega) (by have := HNF.out; omega)
      have HDR := hid (HD.out.below HBW.out)
      have HKX : Hid (k < gm.W.length) := by rw [HN.out]; exact hlt
      obtain ⟨gb, hgb, _, hgl, hc⟩ := dots_cells HROW.out (by have := HSSL.out; have := HKM.out; omega)
      have hcb := hc k (by rw [HSSL.out]; exact hlt)
      have hbr7 : Below w1.heap.size w1 wr := bt HB17.out HBR.out
      obtain ⟨b, off, hao, _, a0, a1, _⟩ := HDR.out.heldW.1.at HKX.out
      have HDT : Hid ((gm.d.W.map (fun e => (e.o, e.s))).getD k (0, 0) = ((gm.W[k]'HKX.out).e.o, (gm.W[k]'HKX.out).e.s)) := by
        show _ = _
        rw [List.getD_eq_getElem?_getD, List.getElem?_map]
        show (Option.map _ ((evs gm.W)[k]?)).getD _ = _
        unfold evs
        rw [List.getElem?_map, List.getElem?_eq_getElem HKX.out]
        rfl
      rw [HDT.out] at hcb
      obtain ⟨yo, HYO⟩ : ∃ y, Hid ((gm.W[k]'HKX.out).e.o = y) := ⟨_, hid rfl⟩
      obtain ⟨ys, HYS⟩ : ∃ y, Hid ((gm.W[k]'HKX.out).e.s = y) := ⟨_, hid rfl⟩
      simp only [HYO.out, HYS.out] at hcb
      rw [HYO.out] at a0
      rw [HYS.out] at a1
      have c0 := (hbr7.cell (p := ⟨gb, k * 2, none⟩) hgl).trans hcb.1
      have c1 := (hbr7.cell (p := ⟨gb, k * 2 + 1, none⟩) hgl).trans hcb.2
      have e1 := HDR.out.blk.cell (i := 1) rfl
      rw [HN.out] at e1
      have hneq := fun W => neq_dotO W yo ys
      subst hgb
      subst hao
      clear hc hcb hgl hlt hk hbr7
      go_wp2
      go_quiet (fail)
      clear hneq
      go_wp2
      go_roundw
      case rel => exact ⟨k + 1, HKM.out, by go_num, below_dn HBR.out _⟩
      case measure => first | exact measNW HKM.out hwk | exact measN1 HKM.out
    · have hlt' : ¬ (k : Int) < (n : Int) := by omega
      clear hlt hk
      have HBW0 := hid (bt HB07.out HBR.out)
      refine ?_
      go_wp2_with fail
      refine ((HD.out.below HBW.out).sorted).mono ?_
      rintro e w8 ⟨so, sc, rfl, hrow8, hok8, hb8⟩
      rw [HS.out] at hrow8 hok8 ⊢
      rw [HM.out] at hrow8 ⊢
      have HB8 := hid (bt HBW.out hb8)
      have HB08 := hid (bt HBW0.out hb8)
      have HHS : Hid (HeldE w8 so S) := by
        obtain ⟨ao, cp, he, _, h2⟩ := heldE_of_own HM.out hrow8 (hok8.below (H.out.below HB8.out).bel)
        cases he
        exact h2
      have HOKS := hid hok8
      clear hrow8 hok8 hb8
      obtain ⟨Ws, hWs⟩ : ∃ V, V = w8.alloc (.cells #[.slice so M sc] 22) := ⟨_, rfl⟩
      obtain ⟨W9, hW9⟩ : ∃ V, V = Ws.alloc (.cells #[.int .i64 0] 3) := ⟨_, rfl⟩
      have hbs : Below w8.heap.size w8 Ws := by rw [hWs]; exact (Below.refl _ _).alloc (Nat.le_refl _) _
      have hb9 : Below Ws.heap.size Ws W9 := by rw [hW9]; exact (Below.refl _ _).alloc (Nat.le_refl _) _
      obtain ⟨sb, HSB⟩ : ∃ q, Hid (q = w8.heap.size) := ⟨_, hid rfl⟩
      obtain ⟨rn0, HRN0⟩ : ∃ q, Hid (q = w8.heap.size + 1) := ⟨_, hid rfl⟩
      have hss : Ws.heap.size = w8.heap.size + 1 := by rw [hWs]; simp
      have hb89 := bt hbs hb9
      have HS0 : Hid (LkL w W9 ab sb rb rn0 0 o s so M sc S []) := by
        have h1 : Boxed Ws sb 22 (.slice so M sc) := by rw [hWs, HSB.out]; exact Boxed.new _ _ _
        have h0 := bt HB08.out hb89
        refine ⟨bt HB8.out hb89, (h0.block _ HRES.out.lt).trans HRES.out, HABX.out.below h0 HABX.out.lt, (hb9.block _ h1.lt).trans h1, HHS.out.below hb89, ?_, Marks.nil _ _, by rw [HRB.out]; omega, by rw [HRN0.out]; have := HB8.out.size; omega, by omega⟩
        rw [hW9, HRN0.out, ← hss]
        exact Boxed.new _ _ _
      have HW9 : Hid (W9 = (w8.alloc (.cells #[.slice so M sc] 22)).alloc (.cells #[.int .i64 0] 3)) := by show _ = _; rw [hW9, hWs]
      clear hWs hW9 hbs hb9 hss hb89
      go_wp2
      rw [← HW9.out, ← HRN0.out, ← HSB.out]
      refine (wpIn_wide (n := 5)).1 ?_
      refine wpIn_loop_k (LoI w p x ab sb rb o s so M sc S) LoMu ?_ ?_
      · exact loI_of rfl rfl rfl rfl rfl rfl rfl rfl HS0.out
      rintro a V ⟨r, Ds, rnb, f, rfl, hS⟩ K hK
      have HLK := hid hS
      have HK := hid hK
      clear hS hK HS0
      refine wpIn_wide.2 ?_
      have cr := HLK.out.rdx.cell
      by_cases hr2 : r < 2
      · have hr2' : (r : Int) < 2 := by omega
        have HRR : Hid (r < 2) := hr2
        clear hr2
        have HUV := hid (H.out.below HLK.out.bel)
        obtain ⟨ib, HIB⟩ : ∃ q, Hid (q = V.heap.size) := ⟨_, hid rfl⟩
        obtain ⟨WA, hWA⟩ : ∃ U, U = V.alloc (.cells #[.int .i64 0] 3) := ⟨_, rfl⟩
        have hbA : Below V.heap.size V WA := by rw [hWA]; exact (Below.refl _ _).alloc (Nat.le_refl _) _
        have HIA : Hid (Boxed WA ib 3 (.int .i64 0)) := by rw [hWA, HIB.out]; exact Boxed.new V _ _
        have HSA0 : Hid (WA.heap.size = V.heap.size + 1) := by rw [hWA]; exact hid (World.size_alloc _ _)
        have HBA := hid hbA
        have HWA := hid hWA
        clear hWA hbA
        go_wp2_with fail
        rw [← HIB.out, ← HWA.out]
        refine (all_any WA (some ⟨p, 0, none⟩)).mono ?_
        rintro e w6 ⟨rfl, hw6⟩
        have hb6 := (since_boxes _ _ _ hw6).2
        have HB6 := hid (bt HBA.out hb6)
        have HI6 : Hid (Boxed w6 ib 3 (.int .i64 0)) := (hb6.block _ HIA.out.lt).trans HIA.out
        have HS6 : Hid (w6.heap.size = V.heap.size + 3) := by show _ = _; rw [hw6]; simp; have := HSA0.out; omega
        have hit := fun W => itL_eql WA.heap.size (WA.heap.size + 1) W
        clear hw6 hb6
        go_wp2_with fail
        clear hit
        refine (all_any w6 (some ⟨p, 0, none⟩)).mono ?_
        rintro e X ⟨rfl, hw7⟩
        obtain ⟨hx0, hb7⟩ := since_boxes _ _ _ hw7
        have hx1 : Boxed X (w6.heap.size + 1) 23 (.slice none ([] : List Int).length 0) := by
          have := Boxed.new (w6.alloc (.cells #[.pointer (some ⟨p, 0, none⟩)] 26)) 23 (.slice none 0 0)
          rw [World.size_alloc] at this
          rw [hw7]
          exact this
        have HBX := hid (bt HB6.out hb7)
        have HIX : Hid (Boxed X ib 3 (.int .i64 0)) := (hb7.block _ HI6.out.lt).trans HI6.out
        have HSX : Hid (X.heap.size = V.heap.size + 5) := by show _ = _; rw [hw7]; simp; have := HS6.out; omega
        obtain ⟨Fo, hFo⟩ : ∃ Fo : Nat → Prop, Fo = fun j => j = ib ∨ j = X.heap.size + 1 := ⟨_, rfl⟩
        have HX0 := hid hx0
        have HX1 := hid hx1
        have HSEQ : Hid (∀ r, SeqAt Fence.wide 4 Tryz.prog (X.heap.size + 1) 61 #[.pointer (some ⟨w6.heap.size, 0, none⟩), .pointer (some ⟨w6.heap.size + 1, 0, none⟩)] (fun x : EvM => #[x.val]) (Ke Fo)
            (fun pre x V => pre.map (·.e) ++ [x.e] <+: evL [] g ∧ EvKeep V x) (fun xs => xs.map (·.e) = evL [] g) (fun pre => pre.map (·.e) <+: evL [] g) ((X.alloc (.deferred (some []))).alloc (.loop r))) := fun r => by
          have hbr : Below X.heap.size X ((X.alloc (.deferred (some []))).alloc (.loop r)) := ((Below.refl _ _).alloc (Nat.le_refl _) _).alloc (by simp) _
          have s6 := HS6.out
          have s7 := HSX.out
          have s8 := HIB.out
          refine since_at 4 (by omega) _ HUV.out.L (bt HBX.out hbr) w6.heap.size (w6.heap.size + 1) ((hbr.block _ HX0.out.lt).trans HX0.out) none 0 [] ((hbr.block _ HX1.out.lt).trans HX1.out) ⟨⟨fun x hx => (by cases hx), .inl rfl⟩, Nat.le_refl _, Nat.zero_le _⟩ Fo ?_ ?_ ?_ ?_
          · intro j hj
            rw [hFo] at hj
            simp
            omega
          · intro i hi hj
            rw [hFo] at hj
            have := HUV.out.L.lt i hi
            omega
          · rintro i ⟨hj, hl⟩
            rw [hFo] at hj
            omega
          · intro hj
            rw [hFo] at hj
            omega
        have HFO := hid hFo
        have HBV : Hid (∀ U, KpJ ib (X.heap.size + 1) X U → Below V.heap.size V U) := fun U hk => by
          refine HBX.out.trans (Turns.below hk (fun i hi => ?_) HBX.out.size)
          have h1 := HIB.out
          have h2 := HBX.out.size
          rcases hi with h | h <;> omega
        have HMLT : Hid (∀ D ∈ Ds, D < X.heap.size) := fun D hD => Nat.lt_of_lt_of_le (Array.getElem?_eq_some_iff.1 (HLK.out.mks.at_ D hD).2).1 HBX.out.size
        have HIXL : Hid (ib < X.heap.size) := HIX.out.lt
        have HIV : Hid (V.heap.size ≤ ib) := by rw [HIB.out]; exact Nat.le_refl _
        clear hw7 hb7 hx0 hx1 HIA HI6 HBA HB6 cr hFo
        go_wp2
        refine (wpIn_wide (n := 5)).1 ?_
        apply wpIn_rangeFunc_Gc (encs := fun x : EvM => #[x.val]) (Kp := Ke Fo) (G := fun pre x V => pre.map (·.e) ++ [x.e] <+: evL [] g ∧ EvKeep V x) (S := fun xs => xs.map (·.e) = evL [] g) (Sp := fun pre => pre.map (·.e) <+: evL [] g) rfl (by omega) (gf := 61) (lb := #[.pointer (some ⟨w6.heap.size, 0, none⟩), .pointer (some ⟨w6.heap.size + 1, 0, none⟩)]) rfl trivial (enters_of Tryz.func61 (by kernel_rfl) rfl) HSEQ.out
          (I := RnL X ib (X.heap.size + 1)) (Ix := fun c pr U => c = Code.exit 4 ∧ r = 0 ∧ pr.length = 2 ∧ RnL X ib (X.heap.size + 1) pr U) (X := fun pre x V => pre.map (·.e) ++ [x.e] <+: evL [] g ∧ EvKeep V x) (Bx := fun x => x.cells) (t := 33)
        case hKt => exact fun h k => Ke.trans h k
        case hKb =>
          intro U r' r'' _
          exact Turns.of_grown (grownBy_putObj' U _ _) (fun j e => by cases e; exact .inl (by rw [HFO.out]; exact .inr rfl))
        case hps => exact fun _ => rfl
        case hI => exact rnL_own X ib (X.heap.size + 1)
        case hIx =>
          rintro c pr U U' row ⟨h1, h2, h3, h4⟩ hg hr
          exact ⟨h1, h2, h3, rnL_own X ib (X.heap.size + 1) pr U U' row h4 hg hr⟩
        case h0 => exact ⟨HIX.out, KpJ.refl _ _ _⟩
        case hX =>
          rintro pre x _ U U' row ⟨h1, h2⟩ hg hr
          exact ⟨h1, h2.noCells hg (fun r e => (hr r e).2)⟩
        case hassign =>
          rintro l' pr x' U K' hltU hI ⟨hG, hG2⟩ hK'
          obtain ⟨gg, hgg⟩ : ∃ z, z = U.heap.size := ⟨_, rfl⟩
          have hba : Below U.heap.size U (U.alloc (.cells x'.cells.toArray 33)) := (Below.refl _ _).alloc (Nat.le_refl _) _
          have hI2 := (rnL_own X ib (X.heap.size + 1)).alloc (.cells x'.cells.toArray 33) hI
          have hbk : Blk (U.alloc (.cells x'.cells.toArray 33)) gg 33 x'.cells := by rw [hgg]; exact Blk.new U _ _
          have HI : Hid (KeptAs X.heap.size U (U.alloc (.cells x'.cells.toArray 33)) ∧ Ke Fo U (U.alloc (.cells x'.cells.toArray 33)) ∧ RnL X ib (X.heap.size + 1) pr (U.alloc (.cells x'.cells.toArray 33)) ∧ (pr.map (·.e) ++ [x'.e] <+: evL [] g ∧ EvKeep (U.alloc (.cells x'.cells.toArray 33)) x') ∧ X.heap.size ≤ gg) :=
            ⟨⟨hba.block _ hltU, hba.block _ (by omega)⟩, Ke.below hba, hI2, ⟨hG, hG2.below hba⟩, by omega⟩
          have HBK := hid hbk
          have HGG := hid hgg
          clear hgg hba hbk hI2 hG hG2 hltU hI
          gi_wp2
          rw [← HGG.out]
          exact hK' gg (U.alloc (.cells x'.cells.toArray 33)) HI.out.1 HI.out.2.1 HI.out.2.2.1 HI.out.2.2.2.1 HBK.out HI.out.2.2.2.2
        case hbody =>
          rintro l' pr x' gg U ⟨rc, hkp⟩ hR ⟨hG, hG2⟩ hbk hgl
          have HR := hid hR
          have HKP := hid hkp
          rw [HEVA.out] at hG
          obtain ⟨hcl, hce⟩ := pre_at hG
          obtain ⟨c, HC⟩ : ∃ c : Nat, Hid (pr.length = c) := ⟨_, hid rfl⟩
          have HCX : Hid (c < S.length) := by rw [← HC.out]; exact hcl
          have HCE : Hid ((S[c]'HCX.out).e = x'.e) := by
            have key : ∀ k (hk : k < S.length), k = c → (S[k]'hk).e = x'.e → (S[c]'HCX.out).e = x'.e := fun k hk e h => by subst e; exact h
            exact key _ hcl HC.out hce
          have HUS := hid (HLK.out.below (HBV.out U hR.kp))
          obtain ⟨b9, off, hao, _, d0, d1, d2, d3, d4, d5, d6, d7⟩ := HUS.out.row.at HCX.out
          have HSY : Hid (EvOk U (S[c]'HCX.out)) := HOKS.out.below (H.out.below HUS.out.bel).bel _ (List.getElem_mem _)
          obtain ⟨Y, HY⟩ : ∃ y, Hid (S[c]'HCX.out = y) := ⟨_, hid rfl⟩
          rw [HY.out] at d0 d1 d2 d3 d4 d5 d6 d7 HSY HCE
          have HXK := hid hG2
          have HSE0 : Hid (∀ B : Beyond U, CallsIn Fence.wide 2 Tryz.prog 26 #[x'.val, Y.val] B.now (fun e w'' => e = .returned (.bool true) ∧ ∃ Z : Beyond U, w'' = Z.now)) := fun B => by
            have h1 := sameEv_any B.now x' Y (HXK.out.ok.below B.is) (HSY.out.below B.is)
            rw [decide_eq_true HCE.out.symm] at h1
            refine (callsIn_wide.2 h1).mono ?_
            rintro e w'' ⟨he, hb9⟩
            exact ⟨he, ⟨w'', B.is.trans (hb9.mono B.is.size)⟩, rfl⟩
          obtain ⟨xp, HXP⟩ : ∃ z, Hid (x' = z) := ⟨_, hid rfl⟩
          obtain ⟨⟨xo, xs, xd, xc, xe, xk, xq, xl⟩, xa, xap⟩ := x'
          obtain ⟨⟨yo, ys, yd, yc, ye, yk, yq, yl⟩, ya, yap⟩ := Y
          obtain ⟨XD, HXD⟩ : ∃ m, Hid (xd.length = m) := ⟨_, hid rfl⟩
          obtain ⟨YD, HYD⟩ : ∃ m, Hid (yd.length = m) := ⟨_, hid rfl⟩
          simp only [EvM.val] at HSE0
          simp only [EvM.cells] at hbk
          rw [HXD.out, HYD.out] at HSE0
          rw [HXD.out] at hbk
          rw [HYD.out] at d2
          have e0 := hbk.cell (i := 0) rfl
          have e1 := hbk.cell (i := 1) rfl
          have e2 := hbk.cell (i := 2) rfl
          have e3 := hbk.cell (i := 3) rfl
          have e4 := hbk.cell (i := 4) rfl
          have e5 := hbk.cell (i := 5) rfl
          have e6 := hbk.cell (i := 6) rfl
          have e7 := hbk.cell (i := 7) rfl
          have ci := hR.ibx.cell
          rw [HC.out] at ci
          have cs := HUS.out.sbx.cell
          subst hao
          have HC0 : Hid (∃ B : Beyond U, { U with drawn := U.drawn + 1 } = B.now) := ⟨⟨_, below_dn (Below.refl _ _) 1⟩, rfl⟩
          have kci := fun B : Beyond U => B.cell ci (World.block_lt_of_cell? U _ ci)
          have kcs := fun B : Beyond U => B.cell cs (World.block_lt_of_cell? U _ cs)
          have ke0 := fun B : Beyond U => B.cell e0 (World.block_lt_of_cell? U _ e0)
          have ke1 := fun B : Beyond U => B.cell e1 (World.block_lt_of_cell? U _ e1)
          have ke2 := fun B : Beyond U => B.cell e2 (World.block_lt_of_cell? U _ e2)
          have ke3 := fun B : Beyond U => B.cell e3 (World.block_lt_of_cell? U _ e3)
          have ke4 := fun B : Beyond U => B.cell e4 (World.block_lt_of_cell? U _ e4)
          have ke5 := fun B : Beyond U => B.cell e5 (World.block_lt_of_cell? U _ e5)
          have ke6 := fun B : Beyond U => B.cell e6 (World.block_lt_of_cell? U _ e6)
          have ke7 := fun B : Beyond U => B.cell e7 (World.block_lt_of_cell? U _ e7)
          have kd0 := fun B : Beyond U => B.cell d0 (World.block_lt_of_cell? U _ d0)
          have kd1 := fun B : Beyond U => B.cell d1 (World.block_lt_of_cell? U _ d1)
          have kd2 := fun B : Beyond U => B.cell d2 (World.block_lt_of_cell? U _ d2)
          have kd3 := fun B : Beyond U => B.cell d3 (World.block_lt_of_cell? U _ d3)
          have kd4 := fun B : Beyond U => B.cell d4 (World.block_lt_of_cell? U _ d4)
          have kd5 := fun B : Beyond U => B.cell d5 (World.block_lt_of_cell? U _ d5)
          have kd6 := fun B : Beyond U => B.cell d6 (World.block_lt_of_cell? U _ d6)
          have kd7 := fun B : Beyond U => B.cell d7 (World.block_lt_of_cell? U _ d7)
          have HGN : Hid (c < M) := by rw [← HM.out]; exact HCX.out
          have hg1 : decide ((M : Int) ≤ (c : Int)) = false := dec_leO HGN.out
          have hg2 : decide (M ≤ c) = false := dec_leO2 HGN.out
          have hgN : (c : Int) < (M : Int) := int_ltO HGN.out
          have hg0 : (0 : Int) ≤ (c : Int) := Int.natCast_nonneg c
          have hwc : wrap64 ((c : Int) + 1) = (c : Int) + 1 := wrap_smallO HGN.out HMF.out
          clear hR hkp hbk hG hG2 hcl hce hgl
          gi_wp2
          refine wpIn_region_round (fun w' => ∃ B : Beyond U, w' = B.now) l' rfl (by kernel_rfl) (by kernel_rfl) (by kernel_rfl) HC0.out ?_
          repeat (gi_big_quiet_step (fail))
          refine quiet_call (.bool true) (fun _ _ _ _ => trivial) rfl 26 #[.agg #[.int .i64 xo, .int .i64 xs, .slice xa XD xap, .string xc, .int .i64 xe, .string xk, .int .i64 xq, .bool xl], .agg #[.int .i64 yo, .int .i64 ys, .slice ya YD yap, .string yc, .int .i64 ye, .string yk, .int .i64 yq, .bool yl]] (fun w' _ => by go_simp) (fun h => by cases h) (fun w' hc => by obtain ⟨B, rfl⟩ := hc; exact HSE0.out B) ?_
          go_simp
          repeat (gi_big_quiet_step (fail))
          refine wpQuietIn_nil ?_
          intro B
          have hib : Boxed B.now ib 3 (.int .i64 (c : Int)) := by
            have := HR.out.ibx
            rw [HC.out] at this
            exact (B.is.block _ this.lt).trans this
          have kn1 := hib.cell
          have kf1 := hib.frozen
          have hib2 := hib.set (.int .i64 ((c : Int) + 1))
          have kn2 := hib2.cell
          have hr1 : Boxed B.now rnb 3 (.int .i64 (r : Int)) := (B.is.block _ HUS.out.rdx.lt).trans HUS.out.rdx
          have hne9 : rnb ≠ ib := by have h1 := HLK.out.rdx.lt; have h2 := HIV.out; omega
          have kr1 := ((turns_set B.now ib (.int .i64 ((c : Int) + 1))).block rnb hr1.lt hne9).trans hr1
          have kr2 := Boxed.cell (t := 3) kr1
          have kr3 : B.now.cell? ⟨rnb, 0, none⟩ = some (.int .i64 (r : Int)) := hr1.cell
          have hTU : Turns (fun i => i = ib) U (B.now.setCell ⟨ib, 0, none⟩ (.int .i64 ((c : Int) + 1))) := (Turns.of_below (F := fun i => i = ib) B.is (Nat.le_refl _)).trans (turns_set B.now ib _) (fun i hi => .inl hi)
          have HRN : Hid (RnL X ib (X.heap.size + 1) (pr ++ [(⟨⟨xo, xs, xd, xc, xe, xk, xq, xl⟩, xa, xap⟩ : EvM)]) (B.now.setCell ⟨ib, 0, none⟩ (.int .i64 ((c : Int) + 1)))) := by
            refine ⟨?_, (HR.out.kp.trans (KpJ.below B.is)).trans ((turns_set B.now ib _).mono (fun i hi => .inl hi))⟩
            rw [List.length_append, List.length_singleton, HC.out, show ((c + 1 : Nat) : Int) = (c : Int) + 1 by omega]
            exact hib2
          have HTK : Hid (KeptAs X.heap.size U (B.now.setCell ⟨ib, 0, none⟩ (.int .i64 ((c : Int) + 1)))) := KeptAs.turns hTU HKP.out.lt (by have := HIXL.out; omega) (by have := HIXL.out; omega)
          have HTP : Hid (Ke Fo U (B.now.setCell ⟨ib, 0, none⟩ (.int .i64 ((c : Int) + 1)))) := hTU.mono (fun i hi => .inl (by rw [HFO.out]; exact .inl hi))
          have HLN : Hid ((pr ++ [(⟨⟨xo, xs, xd, xc, xe, xk, xq, xl⟩, xa, xap⟩ : EvM)]).length = c + 1) := by rw [List.length_append, List.length_singleton, HC.out]; exact hid rfl
          clear hib hib2 hr1 kr1 hTU kci kcs ke0 ke1 ke2 ke3 ke4 ke5 ke6 ke7 kd0 kd1 kd2 kd3 kd4 kd5 kd6 kd7 ci cs e0 e1 e2 e3 e4 e5 e6 e7 d0 d1 d2 d3 d4 d5 d6 d7 HSE0 HC0 hg1 hg2 hgN
          generalize B.now = WB at *
          by_cases hr0 : r = 0
          · subst hr0
            by_cases hcz : c = 1
            · subst hcz
              gi_wp2
              exact ⟨HTK.out, HTP.out, rfl, HLN.out, HRN.out⟩
            · have hc1 : ((c : Int) + 1 == 2) = false := by simp; omega
              gi_wp2
              exact ⟨HTK.out, HTP.out, HRN.out⟩
          · have hrr : ((r : Int) == 0) = false := by simp; omega
            gi_wp2
            exact ⟨HTK.out, HTP.out, HRN.out⟩
        case hdone =>
          intro D zs U hD hzs hR hDef
          have hzl : zs.length = M := by
            have := congrArg List.length hzs
            rw [List.length_map, HEVA.out, evs_len, HM.out] at this
            exact this
          have hUS := HLK.out.below (HBV.out U hR.kp)
          have ci := hR.ibx.cell
          rw [hzl] at ci
          have cs := hUS.sbx.cell
          have crr := hUS.rdx.cell
          have hmm : ((M : Int) != (M : Int)) = false := by simp
          have hwr1 : wrap64 ((r : Int) + 1) = (r : Int) + 1 := wrapN (by omega) (by have := HRR.out; omega)
          have HUS := hid hUS
          have HDD : Hid (D ∉ Ds ∧ w.heap.size ≤ D ∧ U.heap[D]? = some (.deferred (some []))) := ⟨fun hm => by have := HMLT.out D hm; omega, by have h1 := HLK.out.bel.size; have h2 := HBX.out.size; exact (by omega : w.heap.size ≤ D), hDef⟩
          obtain ⟨rn2, HRN2⟩ : ∃ q, Hid (q = U.heap.size) := ⟨_, hid rfl⟩
          obtain ⟨WC, hWC⟩ : ∃ V, V = U.alloc (.cells #[.int .i64 ((r : Int) + 1)] 3) := ⟨_, rfl⟩
          have HNX := hid (HUS.out.next HRR.out HDD.out.2.1 HDD.out.2.2 HDD.out.1 hWC)
          rw [← HRN2.out] at HNX
          have HWC := hid hWC
          clear hDef hD hUS hR hzs hzl hWC
          go_wp2
          rw [← HRN2.out, ← HWC.out]
          refine HK.out _ _ (loI_of rfl rfl rfl rfl rfl rfl rfl rfl HNX.out) ?_
          rw [loMu_eq HNX.out.rdx rfl, loMu_eq HLK.out.rdx rfl]
          have := HRR.out
          omega
        case hstop =>
          rintro D c pr U hD _ ⟨rfl, hr0, hpl, hR⟩ hDef
          refine wpIn_wide.2 ?_
          have hUS := HLK.out.below (HBV.out U hR.kp)
          have ci := hR.ibx.cell
          rw [hpl] at ci
          have cs := hUS.sbx.cell
          have crr := hUS.rdx.cell
          have hz1 : ((r : Int) == 1) = false := by rw [hr0]; simp
          have hwr1 : wrap64 ((r : Int) + 1) = (r : Int) + 1 := wrapN (by omega) (by have := HRR.out; omega)
          have HUS := hid hUS
          have HDD : Hid (D ∉ Ds ∧ w.heap.size ≤ D ∧ U.heap[D]? = some (.deferred (some []))) := ⟨fun hm => by have := HMLT.out D hm; omega, by have h1 := HLK.out.bel.size; have h2 := HBX.out.size; exact (by omega : w.heap.size ≤ D), hDef⟩
          obtain ⟨rn2, HRN2⟩ : ∃ q, Hid (q = U.heap.size) := ⟨_, hid rfl⟩
          obtain ⟨WC, hWC⟩ : ∃ V, V = U.alloc (.cells #[.int .i64 ((r : Int) + 1)] 3) := ⟨_, rfl⟩
          have HNX := hid (HUS.out.next HRR.out HDD.out.2.1 HDD.out.2.2 HDD.out.1 hWC)
          rw [← HRN2.out] at HNX
          have HWC := hid hWC
          clear hDef hD hUS hR hr0 hWC
          by_cases hM1 : M = 2
          · have hmm : ((2 : Int) != (M : Int)) = false := by rw [hM1]; simp
            go_wp2
            rw [← HRN2.out, ← HWC.out]
            refine HK.out _ _ (loI_of rfl rfl rfl rfl rfl rfl rfl rfl HNX.out) ?_
            rw [loMu_eq HNX.out.rdx rfl, loMu_eq HLK.out.rdx rfl]
            have := HRR.out
            omega
          · have hmm : ((2 : Int) != (M : Int)) = true := by simp; omega
            clear hM1
            go_wp2
            rw [← HRN2.out, ← HWC.out]
            refine HK.out _ _ (loI_of rfl rfl rfl rfl rfl rfl rfl rfl HNX.out) ?_
            rw [loMu_eq HNX.out.rdx rfl, loMu_eq HLK.out.rdx rfl]
            have := HRR.out
            omega
      · have hr2' : ¬ (r : Int) < 2 := by omega
        clear hr2
        have HUV := hid (H.out.below HLK.out.bel)
        have HRB2 : Hid (∀ V', Below V.heap.size V V' → Boxed V' rb 4 (.bool false)) := fun V' hb => (hb.block _ HLK.out.res.lt).trans HLK.out.res
        have HEND : Hid (∀ V', Below V.heap.size V V' → ∀ fr : Array Value, fr.getD 10 undef = .pointer (some ⟨rb, 0, none⟩) → LeavesInM Fence.wide 5 Tryz.prog Tryz.f12 fr (fun e w' => e = .returned (.bool true) ∧ Below w.heap.size w w') (Ds.map markD) .returning (V'.setCell ⟨rb, 0, none⟩ (.bool true))) := fun V' hb fr hfr => by
          have h3 := HRB2.out V' hb
          have h4 : Boxed (V'.setCell ⟨rb, 0, none⟩ (.bool true)) rb 4 (.bool true) := h3.set (.bool true)
          have h5 : Below w.heap.size w (V'.setCell ⟨rb, 0, none⟩ (.bool true)) := (bt HLK.out.bel hb).setCell (p := ⟨rb, 0, none⟩) HLK.out.rl _
          have h6 : Marks w.heap.size Ds (V'.setCell ⟨rb, 0, none⟩ (.bool true)) := (HLK.out.mks.below hb).turned (F := fun i => i = rb) ((Turns.refl (fun i => i = rb) _).setCell (p := ⟨rb, 0, none⟩) (.inl rfl) _) (fun i hi => by
            have h1 : V'.heap[rb]? = some (.cells #[.bool false] 4 (0, 0)) := h3
            rw [hi, h1]
            simp)
          refine leavesM_all (B := w.heap.size) (fun U => Below w.heap.size w U ∧ Boxed U rb 4 (.bool true)) ?_ ?_ Ds _ h6 ⟨h5, h4⟩
          · rintro U D ⟨h1, h2⟩ hD hU
            refine ⟨belowJ h1 hD _, ?_⟩
            have h3 : U.heap[rb]? = some (.cells #[.bool true] 4 (0, 0)) := h2
            show (U.putObj D (.deferred none)).heap[rb]? = _
            rw [World.putObj_heap_other (by rintro rfl; rw [h3] at hU; cases hU)]
            exact h3
          · rintro U ⟨h1, h2⟩
            exact ⟨_, results_cellR rfl _ _ hfr h2.cell, rfl, h1⟩
        have q0 := HLK.out.abx.cell (i := 0) rfl
        have q1 := HLK.out.abx.cell (i := 1) rfl
        go_wp2_with fail
        clear q0 q1 cr
        refine (HUV.out.L.get o s HIO.out.1 HIO.out.2).mono ?_
        rintro e w5 ⟨y, rfl, hye, hyo, hb5⟩
        rw [HRO.out] at hye ⊢
        have HYE := hid hye
        have HYO := hid hyo
        have HB5 := hid hb5
        clear hye hyo hb5
        obtain ⟨y2, HY2⟩ : ∃ z, Hid (y = z) := ⟨_, hid rfl⟩
        rw [HY2.out] at HYE HYO
        obtain ⟨⟨yo, ys, yd, yc, ye, yk, yq, yl⟩, ya, yap⟩ := y
        obtain ⟨YN, HYN⟩ : ∃ m, Hid (yd.length = m) := ⟨_, hid rfl⟩
        obtain ⟨b5, HBB⟩ : ∃ b, Hid (ro.isSome = b) := ⟨_, hid rfl⟩
        simp only [EvM.val]
        rw [HYN.out, HBB.out]
        obtain ⟨WA, hWA⟩ : ∃ U, U = w5.alloc (.cells #[.int .i64 yo, .int .i64 ys, .slice ya YN yap, .string yc, .int .i64 ye, .string yk, .int .i64 yq, .bool yl] 33) := ⟨_, rfl⟩
        obtain ⟨pa, HPA⟩ : ∃ q, Hid (q = w5.heap.size) := ⟨_, hid rfl⟩
        have HBA : Hid (Below V.heap.size V WA) := by rw [hWA]; exact bt HB5.out ((Below.refl _ _).alloc (Nat.le_refl _) _)
        have HKA : Hid (Blk WA pa 33 [.int .i64 yo, .int .i64 ys, .slice ya YN yap, .string yc, .int .i64 ye, .string yk, .int .i64 yq, .bool yl]) := by rw [hWA, HPA.out]; exact Blk.new w5 _ _
        have HYA : Hid (EvOk WA y2) := by rw [hWA]; exact HYO.out.below ((Below.refl _ _).alloc (Nat.le_refl _) _)
        have HAX : Hid (Blk WA ab 25 [.int .i64 o, .int .i64 s]) := HLK.out.abx.below HBA.out HLK.out.abx.lt
        have q0 := HAX.out.cell (i := 0) rfl
        have q1 := HAX.out.cell (i := 1) rfl
        have HWA := hid hWA
        rw [hWA] at q0 q1
        clear hWA HYO HB5
        go_wp2_with fail
        rw [← HWA.out, ← HPA.out]
        clear q0 q1
        refine ((HD.out.below (bt HLK.out.bel HBA.out)).get o s).mono ?_
        rintro e w6 ⟨z, rfl, hze, hzo, hb6⟩
        rw [HFIND.out] at hze ⊢
        have HZE := hid hze
        have HZO := hid hzo
        have HB6 := hid hb6
        clear hze hzo hb6
        obtain ⟨z2, HZ2⟩ : ∃ u, Hid (z = u) := ⟨_, hid rfl⟩
        rw [HZ2.out] at HZE HZO
        obtain ⟨⟨zo, zs, zd, zc, ze, zk, zq, zl⟩, za, zap⟩ := z
        obtain ⟨ZN, HZN⟩ : ∃ m, Hid (zd.length = m) := ⟨_, hid rfl⟩
        simp only [EvM.val]
        rw [HZN.out, HBB.out]
        obtain ⟨WB, hWB⟩ : ∃ U, U = w6.alloc (.cells #[.int .i64 zo, .int .i64 zs, .slice za ZN zap, .string zc, .int .i64 ze, .string zk, .int .i64 zq, .bool zl] 33) := ⟨_, rfl⟩
        obtain ⟨pz, HPZ⟩ : ∃ q, Hid (q = w6.heap.size) := ⟨_, hid rfl⟩
        have hbab : Below WA.heap.size WA WB := by rw [hWB]; exact bt HB6.out ((Below.refl _ _).alloc (Nat.le_refl _) _)
        have HBB2 : Hid (Below V.heap.size V WB) := bt HBA.out hbab
        have HKZ : Hid (Blk WB pz 33 [.int .i64 zo, .int .i64 zs, .slice za ZN zap, .string zc, .int .i64 ze, .string zk, .int .i64 zq, .bool zl]) := by rw [hWB, HPZ.out]; exact Blk.new w6 _ _
        have HKA2 := hid (HKA.out.below hbab HKA.out.lt)
        have HZB : Hid (EvOk WB z2) := by rw [hWB]; exact HZO.out.below ((Below.refl _ _).alloc (Nat.le_refl _) _)
        have HYB := hid (HYA.out.below hbab)
        have HSEV : Hid (Calls Tryz.prog 26 #[.agg #[.int .i64 yo, .int .i64 ys, .slice ya YN yap, .string yc, .int .i64 ye, .string yk, .int .i64 yq, .bool yl], .agg #[.int .i64 zo, .int .i64 zs, .slice za ZN zap, .string zc, .int .i64 ze, .string zk, .int .i64 zq, .bool zl]] WB fun e w' => e = .returned (.bool true) ∧ Below WB.heap.size WB w') := by
          have h1 := sameEv_any WB y2 z2 HYB.out HZB.out
          rw [decide_eq_true (HYE.out.trans HZE.out.symm), ← HY2.out, ← HZ2.out] at h1
          simp only [EvM.val] at h1
          rw [HYN.out, HZN.out] at h1
          exact h1
        have a0 := HKA2.out.cell (i := 0) rfl
        have a1 := HKA2.out.cell (i := 1) rfl
        have a2 := HKA2.out.cell (i := 2) rfl
        have a3 := HKA2.out.cell (i := 3) rfl
        have a4 := HKA2.out.cell (i := 4) rfl
        have a5 := HKA2.out.cell (i := 5) rfl
        have a6 := HKA2.out.cell (i := 6) rfl
        have a7 := HKA2.out.cell (i := 7) rfl
        have z0 := HKZ.out.cell (i := 0) rfl
        have z1 := HKZ.out.cell (i := 1) rfl
        have z3 := HKZ.out.cell (i := 2) rfl
        have z4 := HKZ.out.cell (i := 3) rfl
        have z5 := HKZ.out.cell (i := 4) rfl
        have z6 := HKZ.out.cell (i := 5) rfl
        have z7 := HKZ.out.cell (i := 6) rfl
        have z8 := HKZ.out.cell (i := 7) rfl
        have hbb : (b5 == b5) = true := by simp
        have HWB := hid hWB
        rw [hWB] at a0 a1 a2 a3 a4 a5 a6 a7
        rw [hWB, HPZ.out] at z0 z1 z3 z4 z5 z6 z7 z8
        clear hWB hbab
        go_wp2_with fail
        rw [← HWB.out]
        refine HSEV.out.mono ?_
        rintro e w7 ⟨rfl, hb7⟩
        have HB7 := hid (bt HBB2.out hb7)
        have hr7 := HRB2.out w7 HB7.out
        have cr := hr7.cell
        have fr := hr7.frozen
        have HE9 := hid (HEND.out w7 HB7.out)
        clear hb7 a0 a1 a2 a3 a4 a5 a6 a7 z0 z1 z3 z4 z5 z6 z7 z8 hr7 hbb
        go_wp2
        exact HE9.out _ rfl
end Go.Proofs.YtjlompnjhmbhhaaGreat
/-
  How an argument of type api.Dot is read.
-/
namespace Go.Proofs.YtjlompnjhmbhhaaGreat
open Go.RowKit Go.ChangeShapes Go.WideShapes Go.Deep

/-- Whole numbers of 64 bits. -/
def In64 (x : Int) : Prop := -9223372036854775808 ≤ x ∧ x ≤ 9223372036854775807
theorem in64_wf {x : Int} (h : (Lit.int .i64 x).wf = true) : In64 x := by
  simp [Lit.wf, IntKind.min, IntKind.max, IntKind.signed, IntKind.bits] at h
  exact ⟨by omega, by omega⟩
theorem array2 {α : Type} {cs : List α} (h : cs.length = 2) : ∃ c0 c1, cs = [c0, c1] := by
  match cs, h with
  | [c0, c1], _ => exact ⟨c0, c1, rfl⟩
theorem Tryz.cellsDot : Tryz.prog.cellsOf 25 = 2 := by kernel_rfl

set_option maxRecDepth 100000 in
theorem dot_of_trod {H : Type} {enc : TypeId × Value → H} {w : World} {base : Nat} {spare : Nat → Bool} {held : Bool} {fuel : Nat} {cs : List Value} {x : DataW H × List MemPlace} (h : DataW.trod enc Tryz.prog w base spare held fuel 25 cs = some x) :
    ∃ o s : Int, cs = [.int .i64 o, .int .i64 s] ∧ In64 o ∧ In64 s := by
  obtain ⟨xs, n, _, _, hl, hlen, hf⟩ := DataW.trod_struct Tryz.underlying25 h
  rw [Tryz.cellsDot] at hl
  obtain ⟨c0, c1, rfl⟩ := array2 hl
  obtain ⟨y0, y1, rfl⟩ := array2 hlen
  have g : ∀ (i : Nat) (f : Field), (#[_, _] : Array Field)[i]? = some f → _ := hf
  have h0 := g 0 _ rfl
  have h1 := g 1 _ rfl
  have k3 : Tryz.prog.cellsOf 3 = 1 := by kernel_rfl
  simp [k3] at h0 h1
  obtain ⟨a0, e0, _, w0⟩ := DataW.trod_int Tryz.underlying3 h0
  obtain ⟨a1, e1, _, w1⟩ := DataW.trod_int Tryz.underlying3 h1
  simp at e0 e1
  subst e0 e1
  exact ⟨a0, a1, rfl, in64_wf w0, in64_wf w1⟩
set_option maxRecDepth 100000 in
theorem open_dot {H : Type} {enc : TypeId × Value → H} {w : World} {base b0 : Nat} {r : Reach} {spare : Nat → Bool} {held : Bool} {v : Value} {d : DataW H} {p : List MemPlace} (hv : Value.okWide Tryz.prog w r b0 25 v) (h : DataW.Trod enc Tryz.prog w base spare held 25 v d p) :
    ∃ o s : Int, v = .agg #[.int .i64 o, .int .i64 s] ∧ In64 o ∧ In64 s := by
  obtain ⟨cs, rfl, _⟩ := okWide_struct Tryz.underlying25 hv
  obtain ⟨fuel, hf⟩ := h
  obtain ⟨o, s, ho, h1, h2⟩ := dot_of_trod hf
  refine ⟨o, s, ?_, h1, h2⟩
  simp [Value.cells] at ho
  rw [show cs = #[.int .i64 o, .int .i64 s] from Array.ext' ho]
end Go.Proofs.YtjlompnjhmbhhaaGreat
