/-
  pannierlaw15.BallotChain answers true at every input.
-/
import Derived.Test.YtdceenejijigdaaBalRow
namespace Go.Proofs.Ytdceenejijigdaa
open Go.RowKit Go.Maps

set_option maxRecDepth 1000000 in
set_option maxHeartbeats 2000000 in
theorem ballotChain_walk (b1 b2 : Int) (ao : Option Addr) (cap : Nat) (xs : List Int) (w : World) (hx : HV w ao cap xs) :
    Calls Try.prog 8 #[.agg #[.int .i64 b1, .int .i64 b2], .slice ao xs.length cap] w fun e w' => e = .returned (.bool true) ∧ Below w.heap.size w w' := by
  have HX := hid hx
  clear hx
  obtain ⟨lx, HLX⟩ : ∃ l, Hid (xs.length = l) := ⟨_, hid rfl⟩
  rw [HLX.out]
  have hlx : lx ≤ 17592186044416 := by have := HX.out.few; have := HLX.out; omega
  obtain ⟨W1, hW1⟩ : ∃ W, W = w.alloc (.cells #[.int .i64 b1, .int .i64 b2] 23) := ⟨_, rfl⟩
  have HB1 : Hid (Below w.heap.size w W1) := by rw [hW1]; exact (Below.refl _ _).alloc (Nat.le_refl _) _
  have HK1 : Hid (Blk W1 w.heap.size 23 [.int .i64 b1, .int .i64 b2]) := by rw [hW1]; exact Blk.new w _ _
  have HW1 := hid hW1
  clear hW1
  go_enter Try.func8, Try.ntmps8
  go_wp2_with fail
  rw [← HW1.out]
  refine (livesBal _).mono ?_
  rintro e w2 ⟨rfl, hb2⟩
  have hk2 := HK1.out.below hb2 HK1.out.lt
  have c0 := hk2.cell (i := 0) rfl
  have c1 := hk2.cell (i := 1) rfl
  have HB2 := hid (bt' HB1.out hb2)
  have HCH : Hid (ChainB w (.slice (some ⟨w2.heap.size, 0, none⟩) 1 1) [(b1, b2)] (w2.alloc (.cells #[.int .i64 b1, .int .i64 b2] 23))) := by
    have h1 := ownBal_new w2 (b1, b2)
    refine ⟨?_, by simp, by simp, HB2.out.alloc HB2.out.size _⟩
    exact ⟨h1.1, by
      rcases h1.2 with h | ⟨g, cap, cur, h2, h3, h4⟩
      · exact .inl h
      · exact .inr ⟨g, cap, cur, h2, Nat.le_trans HB2.out.size h3, h4⟩⟩
  clear hb2 hk2
  go_wp2
  clear c0 c1
  go_loopw [5, 6, 7, 8, 9] (fun v i _ _ _ wr => ∃ (k : Nat) (l : List (Int × Int)), k ≤ lx ∧ k ≤ 200 ∧ i = .int .i64 k ∧ l.length ≤ k + 1 ∧ Hid (ChainB w v l wr)) (fun _ i _ _ _ _ => lx - (intOf i).toNat)
  case atStart => exact ⟨0, [(b1, b2)], by omega, by omega, rfl, by simp, HCH⟩
  case round =>
    obtain ⟨k, l, hk, hk2, rfl, hll, HR⟩ := hrel
    by_cases hlt : k < lx
    · have hlt' : (k : Int) < (lx : Int) := by omega
      by_cases h200 : k < 200
      · have h200' : (k : Int) < 200 := by omega
        obtain ⟨g, cp, hv, hg0, hgl, hcl⟩ := HR.out.cells
        subst hv
        have HCL := hid hcl
        obtain ⟨L, HL⟩ : ∃ L, Hid (l.length = L + 1) := ⟨l.length - 1, by have := HR.out.some; show _ = _; omega⟩
        have hLL : Hid (L < l.length) := (by rw [HL.out]; omega : L < l.length)
        obtain ⟨t0, t1⟩ := hcl L hLL.out
        obtain ⟨r, m, hrm⟩ : ∃ r m, l[L]'hLL.out = (r, m) := ⟨_, _, rfl⟩
        rw [hrm] at t0 t1
        have HRM := hid hrm
        obtain ⟨M, HM⟩ : ∃ M, Hid (l.length = M) := ⟨_, hid rfl⟩
        rw [HM.out]
        have hkx : Hid (k < xs.length) := (HLX.out ▸ hlt : k < xs.length)
        obtain ⟨b, off, rfl, hc⟩ := (HX.out.held.below HR.out.bel).cellAt hkx.out
        have hcell := hc k hkx.out
        obtain ⟨X, hX⟩ : ∃ X, X = xs.getD k 0 := ⟨_, rfl⟩
        rw [← hX] at hcell
        clear hc hcl hrm hX
        have hL200 : L ≤ 200 := by have := HL.out; omega
        have hM : M ≤ 201 := by have := HM.out; omega
        have hLM : M = L + 1 := by have := HM.out; have := HL.out; omega
        have hL1 : wrap64 ((M : Int) - 1) = (L : Int) := by rw [wrapS (by omega) (by omega)]; omega
        have hL2 : IntKind.i64.wrap ((M : Int) - 1) = (L : Int) := by rw [wrapIB (by omega) (by omega)]; omega
        have hL4 : (L : Int) < (M : Int) := by omega
        have HLM := hid hLM
        clear hLM
        have HSA : Hid (∀ V, ScB wr V → (ScB wr V ∧ V.cell? ⟨g, L * 2, none⟩ = some (.int .i64 r) ∧ V.cell? ⟨g, L * 2 + 1, none⟩ = some (.int .i64 m) ∧ V.cell? ⟨b, off + k, none⟩ = some (.int .i64 X))) := fun V hV => ⟨hV, (hV.out.cell (p := ⟨g, L * 2, none⟩) hgl).trans t0, (hV.out.cell (p := ⟨g, L * 2 + 1, none⟩) hgl).trans t1, (hV.out.cell (p := ⟨b, off + k, none⟩) (World.block_lt_of_cell? _ _ hcell)).trans hcell⟩
        have HNX := hid (fun V => nextBal V r m X)
        obtain ⟨n1, n2, HNB⟩ : ∃ x y, Hid (nextB r X = (x, y)) := ⟨_, _, hid rfl⟩
        obtain ⟨ev, HEV⟩ : ∃ x, Hid (nextE r X = x) := ⟨_, hid rfl⟩
        rw [HNB.out, HEV.out] at HNX
        unfold bltE at HNX
        go_wp2
        go_region_held3 (fun V => ScB wr V ∧ V.cell? ⟨g, L * 2, none⟩ = some (.int .i64 r) ∧ V.cell? ⟨g, L * 2 + 1, none⟩ = some (.int .i64 m) ∧ V.cell? ⟨b, off + k, none⟩ = some (.int .i64 X)) (first | (refine ⟨?_, ?_, ?_, ?_⟩ <;> assumption) | (refine HSA.out _ ?_; (repeat (first | assumption | exact ScB.start _ | apply ScB.dr | apply ScB.alloc | refine ScB.setCell ?_ (Nat.le_refl _) _)))) (first
          | (go_at_call 9; with_reducible refine (HNX.out _).mono ?_; rintro e w4 ⟨rfl, hb4⟩; have hs4 : ScB wr w4 := (ScB.go (by repeat (first | assumption | exact ScB.start _ | apply ScB.dr | apply ScB.alloc)) hb4); (try (have hz4 : Blk w4 wr.heap.size 23 [.int .i64 0, .int .i64 0] := zeroBal hb4; have z0 := hz4.cell (i := 0) rfl; have z1 := hz4.cell (i := 1) rfl; have y0 := hz4.frozen 0; have y1 := hz4.frozen 1)); clear hb4))
        · obtain ⟨V, hV⟩ : ∃ V, V = w4.alloc (.cells #[.int .i64 n1, .int .i64 n2] 23) := ⟨_, rfl⟩
          obtain ⟨pn, hpn⟩ : ∃ p, p = w4.heap.size := ⟨_, rfl⟩
          have HSV : Hid (ScB wr V) := by rw [hV]; exact hs4.alloc _
          have HKV : Hid (Blk V pn 23 [.int .i64 n1, .int .i64 n2]) := by rw [hV, hpn]; exact Blk.new w4 _ _
          rw [← hV, ← hpn]
          clear hV hpn hs4
          have HCV : Hid (ChainB w (.slice (some ⟨g, 0, none⟩) M cp) l V) := by
            have hr := HR.out
            rw [HM.out] at hr
            have h3 := hr.row
            have hsm := HR.out.some
            have hbw := HR.out.bel
            exact ⟨by
              refine ⟨h3.1, ?_⟩
              rcases h3.2 with ⟨h, _⟩ | ⟨g', cap', cur, he, hB, hg, hrest⟩
              · cases h
              · cases he
                exact .inr ⟨g, cp, cur, rfl, hB, (HSV.out.out.block g hgl).trans hg, hrest⟩, hsm, HR.out.up, bt' hbw HSV.out.out⟩
          have hcV : V.cell? ⟨b, off + k, none⟩ = some (.int .i64 X) := (HSA.out V HSV.out).2.2.2
          have q0 := HKV.out.cell (i := 0) rfl
          have q1 := HKV.out.cell (i := 1) rfl
          rcases nextE_or r X with ⟨h1, h2, h3⟩ | ⟨h1, h2, h3, h4⟩ | ⟨h1, h2, h3, h4⟩
          · rw [HEV.out] at h1
            rw [HNB.out] at h2
            simp only [Prod.mk.injEq] at h2
            obtain ⟨rfl, rfl⟩ := h2
            subst h1
            clear HNX HEV HNB t0 t1 hcell
            by_cases hX0 : X < 0
            · have hX1 : ¬ 0 ≤ X := by omega
              clear h3
              go_wp2
              go_roundw
              case rel => exact ⟨k + 1, l, by omega, by omega, by go_num, by omega, HCV.out⟩
              case measure => simp [intOf]; omega
            · have hX1 : 0 ≤ X := by omega
              have hX2 : ¬ X ≤ 6 := by omega
              clear h3
              go_wp2
              go_roundw
              case rel => exact ⟨k + 1, l, by omega, by omega, by go_num, by omega, HCV.out⟩
              case measure => simp [intOf]; omega
          · rw [HEV.out] at h1
            rw [HNB.out] at h2
            simp only [Prod.mk.injEq] at h2
            obtain ⟨rfl, rfl⟩ := h2
            subst h1
            have hX1 : 0 ≤ X := by omega
            have hX2 : X ≤ 6 := by omega
            clear HNX h3 h4 HEV HNB t0 t1 hcell
            go_wp2
            go_roundw
            case rel => exact ⟨k + 1, l, by omega, by omega, by go_num, by omega, HCV.out⟩
            case measure => simp [intOf]; omega
          · have HUP : Hid (∀ j (hj : j < l.length), cmpB l[j] (n1, n2) < 0) := fun j hj => by
              refine cmpB_lt.2 (ChainB.last_up HR.out.up HR.out.some ?_ j hj)
              have e1 : l.length - 1 = L := by have := HL.out; omega
              have e2 : l[l.length - 1]'(by have := HR.out.some; omega) = (r, m) := by rw [← HRM.out]; congr 1
              rw [e2, ← HNB.out]
              exact nextB_lt h1
            have HLT : Hid (LtB (r, m) (n1, n2)) := by rw [← HNB.out]; exact nextB_lt h1
            rw [HEV.out] at h1
            subst h1
            clear HNX h2 h3 h4 HEV HNB t0 t1 hcell hcV
            have HCC : Hid (∀ j (hj : j < l.length), V.cell? ⟨g, j * 2, none⟩ = some (.int .i64 l[j].1) ∧ V.cell? ⟨g, j * 2 + 1, none⟩ = some (.int .i64 l[j].2)) := fun j hj => ⟨(HSV.out.out.cell (p := ⟨g, j * 2, none⟩) hgl).trans (HCL.out j hj).1, (HSV.out.out.cell (p := ⟨g, j * 2 + 1, none⟩) hgl).trans (HCL.out j hj).2⟩
            have HGV : Hid (g < V.heap.size) := Nat.lt_of_lt_of_le hgl HSV.out.out.size
            go_wp2
            go_loopw [9] (fun i wz => ∃ j : Nat, j ≤ M ∧ i = .int .i64 j ∧ Hid (Below V.heap.size V wz)) (fun i _ => M - (intOf i).toNat)
            case atStart => exact ⟨0, by omega, rfl, Below.refl _ _⟩
            case round =>
              clear q0 q1
              obtain ⟨j, hj, rfl, HI⟩ := hrel
              have hki := HKV.out.below HI.out HKV.out.lt
              by_cases hjl : j < M
              · have hjl' : (j : Int) < (M : Int) := by omega
                have hjx : Hid (j < l.length) := (by rw [HM.out]; exact hjl : j < l.length)
                obtain ⟨d0, d1⟩ := HCC.out j hjx.out
                have HU := hid (HUP.out j hjx.out)
                obtain ⟨y1, y2, hy⟩ : ∃ y1 y2, l[j]'hjx.out = (y1, y2) := ⟨_, _, rfl⟩
                rw [hy] at d0 d1 HU
                clear hy
                have HCB := hid (fun X : Beyond wr => bey_call X (compareB X.now (y1, y2) (n1, n2)))
                obtain ⟨c, HCE⟩ : ∃ c, Hid (cmpB (y1, y2) (n1, n2) = c) := ⟨_, hid rfl⟩
                rw [HCE.out] at HCB HU
                have hcn : ¬ 0 ≤ c := by have := HU.out; omega
                have hkl := hki.lt
                have k0 := fun X : Beyond wr => X.cell (hki.cell (i := 0) rfl) hkl
                have k1 := fun X : Beyond wr => X.cell (hki.cell (i := 1) rfl) hkl
                have hgi : g < wr.heap.size := Nat.lt_of_lt_of_le HGV.out HI.out.size
                have k2 := fun X : Beyond wr => X.cell ((HI.out.cell (p := ⟨g, j * 2, none⟩) HGV.out).trans d0) hgi
                have k3 := fun X : Beyond wr => X.cell ((HI.out.cell (p := ⟨g, j * 2 + 1, none⟩) HGV.out).trans d1) hgi
                clear d0 d1 hki hgi
                go_wp2
                refine wp_region_bey wr (by kernel_rfl) (by kernel_rfl) (Below.refl _ _) ?_
                repeat (go_big_quiet_step (first | (go_at_call 12; with_reducible exact HCB.out _)))
                refine wpQuiet_nil ?_
                rintro _ ⟨Y, rfl⟩
                have HBY := hid (bt' HI.out Y.is)
                go_wp2
                go_roundw
                case rel => exact ⟨j + 1, by omega, by go_num, HBY.out⟩
                case measure => simp [intOf]; omega
              · have hjl' : ¬ (j : Int) < (M : Int) := by omega
                have q0 := hki.cell (i := 0) rfl
                have q1 := hki.cell (i := 1) rfl
                have HBI : Hid (Below w.heap.size w wr) := bt' HCV.out.bel HI.out
                have HRI : Hid (wr.ownsRow w.heap.size 23 2 (.slice (some ⟨g, 0, none⟩) M cp) M (flatBal l)) := by
                  have h3 := HCV.out.row
                  rw [HM.out] at h3
                  exact (Turns.of_below (F := fun _ => False) HI.out (Nat.le_refl _)).row h3 (fun _ _ h => h)
                go_wp2_with (at_builtin; refine wpList_append_bal _ _ (n1, n2) rfl rfl _ _ rfl w.heap.size _ l M rfl rfl HRI.out HBI.out.size (by omega) ?_; intro v' w5 hown hb5; have HO5 := hid hown; have HB5 := hid (HBI.out.trans hb5); clear hown hb5)
                have HC5 : Hid (ChainB w v' (l ++ [(n1, n2)]) w5) := ⟨by rw [List.length_append, HM.out]; exact HO5.out, by simp, List.pairwise_append.2 ⟨HR.out.up, by simp, fun x hx y hy => by
                  simp only [List.mem_singleton] at hy
                  subst hy
                  obtain ⟨j, hj, rfl⟩ := List.getElem_of_mem hx
                  exact cmpB_lt.1 (HUP.out j hj)⟩, HB5.out⟩
                go_wp2
                go_roundw
                case rel => exact ⟨k + 1, l ++ [(n1, n2)], by omega, by omega, by go_num, by simp; omega, HC5.out⟩
                case measure => simp [intOf]; omega
        · obtain ⟨V, hV⟩ : ∃ V, V = (w4.setCell ⟨wr.heap.size, 0, none⟩ (.int .i64 n1)).setCell ⟨wr.heap.size, 1, none⟩ (.int .i64 n2) := ⟨_, rfl⟩
          obtain ⟨pn, hpn⟩ : ∃ p, p = wr.heap.size := ⟨_, rfl⟩
          have HSV : Hid (ScB wr V) := by rw [hV]; exact (hs4.setCell (Nat.le_refl _) _).setCell (Nat.le_refl _) _
          have HKV : Hid (Blk V pn 23 [.int .i64 n1, .int .i64 n2]) := by rw [hV, hpn]; exact (hz4.set 0 _).set 1 _
          rw [← hV, ← hpn]
          clear hV hpn hs4 hz4 z0 z1 y0 y1
          have HCV : Hid (ChainB w (.slice (some ⟨g, 0, none⟩) M cp) l V) := by
            have hr := HR.out
            rw [HM.out] at hr
            have h3 := hr.row
            have hsm := HR.out.some
            have hbw := HR.out.bel
            exact ⟨by
              refine ⟨h3.1, ?_⟩
              rcases h3.2 with ⟨h, _⟩ | ⟨g', cap', cur, he, hB, hg, hrest⟩
              · cases h
              · cases he
                exact .inr ⟨g, cp, cur, rfl, hB, (HSV.out.out.block g hgl).trans hg, hrest⟩, hsm, HR.out.up, bt' hbw HSV.out.out⟩
          have hcV : V.cell? ⟨b, off + k, none⟩ = some (.int .i64 X) := (HSA.out V HSV.out).2.2.2
          have q0 := HKV.out.cell (i := 0) rfl
          have q1 := HKV.out.cell (i := 1) rfl
          rcases nextE_or r X with ⟨h1, h2, h3⟩ | ⟨h1, h2, h3, h4⟩ | ⟨h1, h2, h3, h4⟩
          · rw [HEV.out] at h1
            rw [HNB.out] at h2
            simp only [Prod.mk.injEq] at h2
            obtain ⟨rfl, rfl⟩ := h2
            subst h1
            clear HNX HEV HNB t0 t1 hcell
            by_cases hX0 : X < 0
            · have hX1 : ¬ 0 ≤ X := by omega
              clear h3
              go_wp2
              go_roundw
              case rel => exact ⟨k + 1, l, by omega, by omega, by go_num, by omega, HCV.out⟩
              case measure => simp [intOf]; omega
            · have hX1 : 0 ≤ X := by omega
              have hX2 : ¬ X ≤ 6 := by omega
              clear h3
              go_wp2
              go_roundw
              case rel => exact ⟨k + 1, l, by omega, by omega, by go_num, by omega, HCV.out⟩
              case measure => simp [intOf]; omega
          · rw [HEV.out] at h1
            rw [HNB.out] at h2
            simp only [Prod.mk.injEq] at h2
            obtain ⟨rfl, rfl⟩ := h2
            subst h1
            have hX1 : 0 ≤ X := by omega
            have hX2 : X ≤ 6 := by omega
            clear HNX h3 h4 HEV HNB t0 t1 hcell
            go_wp2
            go_roundw
            case rel => exact ⟨k + 1, l, by omega, by omega, by go_num, by omega, HCV.out⟩
            case measure => simp [intOf]; omega
          · have HUP : Hid (∀ j (hj : j < l.length), cmpB l[j] (n1, n2) < 0) := fun j hj => by
              refine cmpB_lt.2 (ChainB.last_up HR.out.up HR.out.some ?_ j hj)
              have e1 : l.length - 1 = L := by have := HL.out; omega
              have e2 : l[l.length - 1]'(by have := HR.out.some; omega) = (r, m) := by rw [← HRM.out]; congr 1
              rw [e2, ← HNB.out]
              exact nextB_lt h1
            have HLT : Hid (LtB (r, m) (n1, n2)) := by rw [← HNB.out]; exact nextB_lt h1
            rw [HEV.out] at h1
            subst h1
            clear HNX h2 h3 h4 HEV HNB t0 t1 hcell hcV
            have HCC : Hid (∀ j (hj : j < l.length), V.cell? ⟨g, j * 2, none⟩ = some (.int .i64 l[j].1) ∧ V.cell? ⟨g, j * 2 + 1, none⟩ = some (.int .i64 l[j].2)) := fun j hj => ⟨(HSV.out.out.cell (p := ⟨g, j * 2, none⟩) hgl).trans (HCL.out j hj).1, (HSV.out.out.cell (p := ⟨g, j * 2 + 1, none⟩) hgl).trans (HCL.out j hj).2⟩
            have HGV : Hid (g < V.heap.size) := Nat.lt_of_lt_of_le hgl HSV.out.out.size
            go_wp2
            go_loopw [9] (fun i wz => ∃ j : Nat, j ≤ M ∧ i = .int .i64 j ∧ Hid (Below V.heap.size V wz)) (fun i _ => M - (intOf i).toNat)
            case atStart => exact ⟨0, by omega, rfl, Below.refl _ _⟩
            case round =>
              clear q0 q1
              obtain ⟨j, hj, rfl, HI⟩ := hrel
              have hki := HKV.out.below HI.out HKV.out.lt
              by_cases hjl : j < M
              · have hjl' : (j : Int) < (M : Int) := by omega
                have hjx : Hid (j < l.length) := (by rw [HM.out]; exact hjl : j < l.length)
                obtain ⟨d0, d1⟩ := HCC.out j hjx.out
                have HU := hid (HUP.out j hjx.out)
                obtain ⟨y1, y2, hy⟩ : ∃ y1 y2, l[j]'hjx.out = (y1, y2) := ⟨_, _, rfl⟩
                rw [hy] at d0 d1 HU
                clear hy
                have HCB := hid (fun X : Beyond wr => bey_call X (compareB X.now (y1, y2) (n1, n2)))
                obtain ⟨c, HCE⟩ : ∃ c, Hid (cmpB (y1, y2) (n1, n2) = c) := ⟨_, hid rfl⟩
                rw [HCE.out] at HCB HU
                have hcn : ¬ 0 ≤ c := by have := HU.out; omega
                have hkl := hki.lt
                have k0 := fun X : Beyond wr => X.cell (hki.cell (i := 0) rfl) hkl
                have k1 := fun X : Beyond wr => X.cell (hki.cell (i := 1) rfl) hkl
                have hgi : g < wr.heap.size := Nat.lt_of_lt_of_le HGV.out HI.out.size
                have k2 := fun X : Beyond wr => X.cell ((HI.out.cell (p := ⟨g, j * 2, none⟩) HGV.out).trans d0) hgi
                have k3 := fun X : Beyond wr => X.cell ((HI.out.cell (p := ⟨g, j * 2 + 1, none⟩) HGV.out).trans d1) hgi
                clear d0 d1 hki hgi
                go_wp2
                refine wp_region_bey wr (by kernel_rfl) (by kernel_rfl) (Below.refl _ _) ?_
                repeat (go_big_quiet_step (first | (go_at_call 12; with_reducible exact HCB.out _)))
                refine wpQuiet_nil ?_
                rintro _ ⟨Y, rfl⟩
                have HBY := hid (bt' HI.out Y.is)
                go_wp2
                go_roundw
                case rel => exact ⟨j + 1, by omega, by go_num, HBY.out⟩
                case measure => simp [intOf]; omega
              · have hjl' : ¬ (j : Int) < (M : Int) := by omega
                have q0 := hki.cell (i := 0) rfl
                have q1 := hki.cell (i := 1) rfl
                have HBI : Hid (Below w.heap.size w wr) := bt' HCV.out.bel HI.out
                have HRI : Hid (wr.ownsRow w.heap.size 23 2 (.slice (some ⟨g, 0, none⟩) M cp) M (flatBal l)) := by
                  have h3 := HCV.out.row
                  rw [HM.out] at h3
                  exact (Turns.of_below (F := fun _ => False) HI.out (Nat.le_refl _)).row h3 (fun _ _ h => h)
                go_wp2_with (at_builtin; refine wpList_append_bal _ _ (n1, n2) rfl rfl _ _ rfl w.heap.size _ l M rfl rfl HRI.out HBI.out.size (by omega) ?_; intro v' w5 hown hb5; have HO5 := hid hown; have HB5 := hid (HBI.out.trans hb5); clear hown hb5)
                have HC5 : Hid (ChainB w v' (l ++ [(n1, n2)]) w5) := ⟨by rw [List.length_append, HM.out]; exact HO5.out, by simp, List.pairwise_append.2 ⟨HR.out.up, by simp, fun x hx y hy => by
                  simp only [List.mem_singleton] at hy
                  subst hy
                  obtain ⟨j, hj, rfl⟩ := List.getElem_of_mem hx
                  exact cmpB_lt.1 (HUP.out j hj)⟩, HB5.out⟩
                go_wp2
                go_roundw
                case rel => exact ⟨k + 1, l ++ [(n1, n2)], by omega, by omega, by go_num, by simp; omega, HC5.out⟩
                case measure => simp [intOf]; omega
      · have h200' : ¬ (k : Int) < 200 := by omega
        go_wp2
        go_ret
        exact ⟨rfl, HR.out.bel⟩
    · have hlt' : ¬ (k : Int) < (lx : Int) := by omega
      go_wp2
      go_ret
      exact ⟨rfl, HR.out.bel⟩
end Go.Proofs.Ytdceenejijigdaa
