/-
  Package cart: lookouts.
-/
import Derived.Test.YtkgfpnmifgifpaaCartE
namespace Go.Proofs.Ytkgfpnmifgifpaa
open Go.RowKit Go.Maps

theorem take_snoc {xs : List EvM} {k : Nat} (hk : k < xs.length) {X : EvM} (hX : xs[k] = X) : xs.take (k + 1) = xs.take k ++ [X] := by
  rw [List.take_succ_eq_append_getElem hk, hX]
/-- What lookouts leaves. -/
def Looked (w : World) (xs : List EvM) (e : Ending) (w' : World) : Prop := ∃ m N, e = .returned (.map (some m)) ∧ w.heap.size ≤ m ∧ LookAt w' m N (fun c k o => twM c k o xs) ∧ Below w.heap.size w w'
set_option maxRecDepth 1000000 in
set_option maxHeartbeats 4000000 in
theorem lookouts_any (w : World) (ao : Option Addr) (cap : Nat) (xs : List EvM) (n : Nat) (hn : xs.length = n) (h : HeldE w ao xs) (hl : n ≤ 4194304) (hd : ∀ x ∈ xs, x.e.deps.length ≤ 1048576) :
    Calls Try.prog 51 #[.slice ao n cap] w (Looked w xs) := by
  have hmm := @run_makeMap Try.prog
  have HN := hid hn
  have H := hid h
  have HD := hid hd
  obtain ⟨m, HM⟩ : ∃ m, Hid (m = w.heap.size) := ⟨_, hid rfl⟩
  have HL0 : Hid (LookAt (w.alloc (.map #[] 0)) m 0 (fun c k o => twM c k o (xs.take 0))) := by show LookAt _ _ _ _; rw [HM.out]; exact LookAt.new w
  have HB0 : Hid (Below w.heap.size w (w.alloc (.map #[] 0))) := (Below.refl _ _).alloc (Nat.le_refl _) _
  clear hn h hd
  go_enter Try.func51, Try.ntmps51
  go_wp2
  clear hmm
  rw [← HM.out]
  generalize w.alloc (.map #[] 0) = w1 at *
  go_loopw [12] (fun i wr => ∃ k : Nat, k ≤ n ∧ i = .int .i64 k ∧ Hid (LookAt wr m (k * 1048576) (fun c kk o => twM c kk o (xs.take k)) ∧ Below w.heap.size w wr)) (fun i _ => n - (intOf i).toNat)
  case atStart => exact ⟨0, Nat.zero_le _, rfl, by rw [Nat.zero_mul]; exact HL0.out, HB0.out⟩
  case round =>
    obtain ⟨k, hk, rfl, HR⟩ := hrel
    by_cases hlt : k < n
    · have hlt' : (k : Int) < (n : Int) := by omega
      have hkx : Hid (k < xs.length) := (by rw [HN.out]; exact hlt : k < xs.length)
      obtain ⟨bb, off, hao, hbb, g0, g1, g2, g3, g4, g5, g6, g7⟩ := (H.out.below HR.out.2).at hkx.out
      subst hao
      have HOK := hid (H.out.1 _ (List.getElem_mem hkx.out))
      have HDL := hid (HD.out _ (List.getElem_mem hkx.out))
      obtain ⟨X, HX⟩ : ∃ X, Hid (xs[k]'hkx.out = X) := ⟨_, hid rfl⟩
      have HTK := hid (take_snoc hkx.out HX.out)
      rw [HX.out] at g0 g1 g2 g3 g4 g5 g6 g7 HOK HDL
      have HKM : Hid (k + 1 ≤ n) := (by omega : k + 1 ≤ n)
      clear HX hbb
      obtain ⟨⟨o, s, d, c, ep, ku, q, cl⟩, ax, cx⟩ := X
      simp only at g0 g1 g2 g3 g4 g5 g6 g7 HDL
      obtain ⟨dn, HDN⟩ : ∃ m, Hid (d.length = m) := ⟨_, hid rfl⟩
      rw [HDN.out] at g2 HDL
      cases cl
      · have HQ := hid (twM_quiet (xs.take k) ⟨⟨o, s, d, c, ep, ku, q, false⟩, ax, cx⟩ rfl)
        have HLN : Hid (LookAt (wr.alloc (.cells #[.int .i64 o, .int .i64 s, .slice ax dn cx, .string c, .int .i64 ep, .string ku, .int .i64 q, .bool false] 34)) m (k * 1048576) (fun c kk o => twM c kk o (xs.take k))) := HR.out.1.below ((Below.refl _ _).alloc (Nat.le_refl _) _)
        have HBN : Hid (Below w.heap.size w (wr.alloc (.cells #[.int .i64 o, .int .i64 s, .slice ax dn cx, .string c, .int .i64 ep, .string ku, .int .i64 q, .bool false] 34))) := bt HR.out.2 ((Below.refl _ _).alloc (Nat.le_refl _) _)
        go_wp2
        go_roundw
        case rel =>
          refine ⟨k + 1, HKM.out, by go_num, (HLN.out.more (by omega)).ext (fun c' k' o' => ?_), HBN.out⟩
          rw [HTK.out]
          exact HQ.out c' k' o'
        case measure => simp [intOf]; have := HKM.out; omega
      · have HLN : Hid (LookAt (wr.alloc (.cells #[.int .i64 o, .int .i64 s, .slice ax dn cx, .string c, .int .i64 ep, .string ku, .int .i64 q, .bool true] 34)) m (k * 1048576 + 0) (midM (xs.take k) ⟨⟨o, s, d, c, ep, ku, q, true⟩, ax, cx⟩ 0)) := by
          show LookAt _ _ _ _
          rw [Nat.add_zero]
          exact (HR.out.1.below ((Below.refl _ _).alloc (Nat.le_refl _) _)).ext (fun c' k' o' => (midM_zero _ _ c' k' o').symm)
        have HBN : Hid (Below w.heap.size w (wr.alloc (.cells #[.int .i64 o, .int .i64 s, .slice ax dn cx, .string c, .int .i64 ep, .string ku, .int .i64 q, .bool true] 34))) := bt HR.out.2 ((Below.refl _ _).alloc (Nat.le_refl _) _)
        have HBK : Hid (Blk (wr.alloc (.cells #[.int .i64 o, .int .i64 s, .slice ax dn cx, .string c, .int .i64 ep, .string ku, .int .i64 q, .bool true] 34)) wr.heap.size 34 [.int .i64 o, .int .i64 s, .slice ax dn cx, .string c, .int .i64 ep, .string ku, .int .i64 q, .bool true]) := Blk.new wr _ _
        have hpw : w.heap.size ≤ wr.heap.size := HR.out.2.size
        go_wp2
        generalize wr.alloc (.cells #[.int .i64 o, .int .i64 s, .slice ax dn cx, .string c, .int .i64 ep, .string ku, .int .i64 q, .bool true] 34) = w2 at *
        obtain ⟨pb, hpb⟩ : ∃ p, p = wr.heap.size := ⟨_, rfl⟩
        rw [← hpb] at hpw HBK ⊢
        clear hpb g0 g1 g2 g3 g4 g5 g6 g7
        have hdn : dn ≤ 1048576 := HDL.out
        go_loopw [22] (fun i wx => ∃ j : Nat, j ≤ dn ∧ i = .int .i64 j ∧ Hid (LookAt wx m (k * 1048576 + j) (midM (xs.take k) ⟨⟨o, s, d, c, ep, ku, q, true⟩, ax, cx⟩ j) ∧ Blk wx pb 34 [.int .i64 o, .int .i64 s, .slice ax dn cx, .string c, .int .i64 ep, .string ku, .int .i64 q, .bool true] ∧ Below w.heap.size w wx)) (fun i _ => dn - (intOf i).toNat)
        case atStart => exact ⟨0, Nat.zero_le _, rfl, HLN.out, HBK.out, HBN.out⟩
        case round =>
          obtain ⟨j, hj, rfl, HJ⟩ := hrel
          by_cases hjl : j < dn
          · have hjl' : (j : Int) < (dn : Int) := by omega
            have hjd : Hid (j < d.length) := (by rw [HDN.out]; exact hjl : j < d.length)
            obtain ⟨db, doff, hax, hcd⟩ := (HOK.out.deps.below HJ.out.2.2).held.cellAt hjd.out
            simp only at hax
            subst hax
            have hcell := hcd j hjd.out
            simp only at hcell
            clear hcd
            obtain ⟨Y, HY⟩ : ∃ Y, Hid (d.getD j 0 = Y) := ⟨_, hid rfl⟩
            rw [HY.out] at hcell
            have HJM : Hid (j + 1 ≤ dn) := (by omega : j + 1 ≤ dn)
            by_cases hy : 0 < Y
            · have hbk := HJ.out.2.1
              have c0 := hbk.cell (i := 0) rfl
              have c1 := hbk.cell (i := 1) rfl
              have c2 := hbk.cell (i := 2) rfl
              have c3 := hbk.cell (i := 3) rfl
              have c4 := hbk.cell (i := 4) rfl
              have c5 := hbk.cell (i := 5) rfl
              have c6 := hbk.cell (i := 6) rfl
              have c7 := hbk.cell (i := 7) rfl
              obtain ⟨W1, hW1⟩ : ∃ W1, W1 = wr.alloc (.cells #[.string c, .string ku, .int .i64 (j : Int)] 92) := ⟨_, rfl⟩
              have HBW1 : Hid (Below wr.heap.size wr W1) := by rw [hW1]; exact (Below.refl _ _).alloc (Nat.le_refl _) _
              have HPS : Hid (Blk W1 wr.heap.size 92 [.string c, .string ku, .int .i64 (j : Int)]) := by rw [hW1]; exact Blk.new wr _ _
              have HW1 := hid hW1
              clear hW1
              have hbk1 := hbk.below HBW1.out hbk.lt
              have HIJ : Hid (I64 (j : Int)) := by have h1 := HDL.out; have h2 := HJM.out; show _ ∧ _; omega
              obtain ⟨T, HT⟩ : ∃ T, Hid (midM (xs.take k) ⟨⟨o, s, d, c, ep, ku, q, true⟩, some ⟨db, doff, none⟩, cx⟩ j c ku (j : Int) = T) := ⟨_, hid rfl⟩
              obtain ⟨T', HT'⟩ : ∃ T', Hid (twWithM T ⟨⟨o, s, d, c, ep, ku, q, true⟩, some ⟨db, doff, none⟩, cx⟩ (j : Int) = T') := ⟨_, hid rfl⟩
              have HTOK : Hid (∀ V, Below w.heap.size w V → TwOk V T) := fun V hV => by
                rw [← HT.out]
                have hal : AllOk V (xs.take k) := fun x hx => (H.out.1 x (List.mem_of_mem_take hx)).below hV
                unfold midM
                split
                · exact twWithM_ok (twM_ok _ _ _ _ _ hal (TwOk.zero V)) (HOK.out.below hV) _
                · exact twM_ok _ _ _ _ _ hal (TwOk.zero V)
              obtain ⟨tv, HTV⟩ : ∃ v, Hid (T.val = v) := ⟨_, hid rfl⟩
              obtain ⟨tv', HTV'⟩ : ∃ v, Hid (T'.val = v) := ⟨_, hid rfl⟩
              have hlk : (Instr.lookup 87 (.map (some m)) (.agg #[.string c, .string ku, .int .i64 (j : Int)]) false).run Try.prog W1.drew = .ok tv W1.drew := by
                have := LookAt.lookup (w := W1.drew) (HJ.out.1.below (below_dr HBW1.out)) (c := c) (k := ku) (o := (j : Int)) HOK.out.hc HOK.out.hs HIJ.out
                rw [HT.out, HTV.out] at this
                exact this
              have HWC : Hid (Calls Try.prog 63 #[tv, .agg #[.int .i64 o, .int .i64 s, .slice (some ⟨db, doff, none⟩) dn cx, .string c, .int .i64 ep, .string ku, .int .i64 q, .bool true], .int .i64 (j : Int)] W1.drew fun e w' => e = .returned tv' ∧ Below W1.heap.size W1 w') := by
                have hbw : Below w.heap.size w W1.drew := below_dr (bt HJ.out.2.2 HBW1.out)
                have := with_two W1.drew T ⟨⟨o, s, d, c, ep, ku, q, true⟩, some ⟨db, doff, none⟩, cx⟩ (j : Int) (HTOK.out _ hbw) (HOK.out.below hbw)
                rw [HT'.out, HTV.out, HTV'.out] at this
                simp only [EvM.val] at this
                rw [HDN.out] at this
                exact this.mono fun _ _ h => ⟨h.1, below_from_drew h.2⟩
              have HSTEP : Hid (∀ V, Below W1.heap.size W1 V → ∃ w6, (Instr.mapUpdate 87 (.map (some m)) (.agg #[.string c, .string ku, .int .i64 (j : Int)]) tv').run Try.prog V = .ok () w6 ∧ (LookAt w6 m (k * 1048576 + (j + 1)) (midM (xs.take k) ⟨⟨o, s, d, c, ep, ku, q, true⟩, some ⟨db, doff, none⟩, cx⟩ (j + 1)) ∧ Blk w6 pb 34 [.int .i64 o, .int .i64 s, .slice (some ⟨db, doff, none⟩) dn cx, .string c, .int .i64 ep, .string ku, .int .i64 q, .bool true] ∧ Below w.heap.size w w6) ∧ Blk w6 wr.heap.size 92 [.string c, .string ku, .int .i64 (j : Int)]) := fun V hV => by
                have hL := (HJ.out.1.below HBW1.out).below hV
                obtain ⟨w6, hr, hl6, ht6⟩ := hL.put (by have := HDL.out; have := HJM.out; unfold maxLen; omega) (c := c) (k := ku) (o := (j : Int)) HOK.out.hc HOK.out.hs HIJ.out T'
                rw [HTV'.out] at hr
                obtain ⟨D, hD, _⟩ := hL
                have hbV := (hbk.below HBW1.out hbk.lt).below hV hbk1.lt
                have hpV := HPS.out.below hV HPS.out.lt
                refine ⟨w6, hr, ⟨?_, ht6.blk hbV (fun e => hbV.not_map hD e), ?_⟩, ht6.blk hpV (fun e => hpV.not_map hD e)⟩
                · rw [← Nat.add_assoc]
                  refine hl6.ext (fun c' k' o' => ?_)
                  have := midM_put (xs.take k) ⟨⟨o, s, d, c, ep, ku, q, true⟩, some ⟨db, doff, none⟩, cx⟩ j rfl (by show 0 < d.getD j 0; rw [HY.out]; exact hy) c' k' o'
                  rw [this]
                  simp only
                  rw [HT.out, HT'.out]
                · exact (bt (bt HJ.out.2.2 HBW1.out) hV).trans (ht6.below (fun i hi => by subst hi; rw [HM.out]; exact Nat.le_refl _) (Nat.le_trans (Nat.le_trans HJ.out.2.2.size HBW1.out.size) hV.size))
              have HPB : Hid (Blk W1 pb 34 [.int .i64 o, .int .i64 s, .slice (some ⟨db, doff, none⟩) dn cx, .string c, .int .i64 ep, .string ku, .int .i64 q, .bool true]) := hbk1
              clear hbk hbk1
              go_wp2
              rw [← HW1.out]
              obtain ⟨ps, hps⟩ : ∃ p, p = wr.heap.size := ⟨_, rfl⟩
              rw [← hps] at HPS HSTEP ⊢
              clear hps c0 c1 c2 c3 c4 c5 c6 c7 hcell
              have c0 := HPB.out.cell (i := 0) rfl
              have c1 := HPB.out.cell (i := 1) rfl
              have c2 := HPB.out.cell (i := 2) rfl
              have c3 := HPB.out.cell (i := 3) rfl
              have c4 := HPB.out.cell (i := 4) rfl
              have c5 := HPB.out.cell (i := 5) rfl
              have c6 := HPB.out.cell (i := 6) rfl
              have c7 := HPB.out.cell (i := 7) rfl
              have s0 := HPS.out.cell (i := 0) rfl
              have s1 := HPS.out.cell (i := 1) rfl
              have s2 := HPS.out.cell (i := 2) rfl
              go_region_held3 (fun V => V.cell? ⟨ps, 0, none⟩ = some (.string c) ∧ V.cell? ⟨ps, 1, none⟩ = some (.string ku) ∧ V.cell? ⟨ps, 2, none⟩ = some (.int .i64 (j : Int)) ∧ V.cell? ⟨pb, 0, none⟩ = some (.int .i64 o) ∧ V.cell? ⟨pb, 1, none⟩ = some (.int .i64 s) ∧ V.cell? ⟨pb, 2, none⟩ = some (.slice (some ⟨db, doff, none⟩) dn cx) ∧ V.cell? ⟨pb, 3, none⟩ = some (.string c) ∧ V.cell? ⟨pb, 4, none⟩ = some (.int .i64 ep) ∧ V.cell? ⟨pb, 5, none⟩ = some (.string ku) ∧ V.cell? ⟨pb, 6, none⟩ = some (.int .i64 q) ∧ V.cell? ⟨pb, 7, none⟩ = some (.bool true)) (first | (refine ⟨?_, ?_, ?_, ?_, ?_, ?_, ?_, ?_, ?_, ?_, ?_⟩ <;> assumption) | go_keep)
                ((go_at_call 63; refine HWC.out.mono ?_; rintro e w5 ⟨rfl, hb5⟩; obtain ⟨w6, hrun, hst, hps6⟩ := HSTEP.out w5 hb5; have HST6 := hid hst; have y0 := hst.2.1.cell (i := 0) rfl; have y1 := hst.2.1.cell (i := 1) rfl; have y2 := hst.2.1.cell (i := 2) rfl; have y3 := hst.2.1.cell (i := 3) rfl; have y4 := hst.2.1.cell (i := 4) rfl; have y5 := hst.2.1.cell (i := 5) rfl; have y6 := hst.2.1.cell (i := 6) rfl; have y7 := hst.2.1.cell (i := 7) rfl; have z0 := hps6.cell (i := 0) rfl; have z1 := hps6.cell (i := 1) rfl; have z2 := hps6.cell (i := 2) rfl; have k0 := (HPB.out.below hb5 HPB.out.lt).cell (i := 0) rfl; have k1 := (HPB.out.below hb5 HPB.out.lt).cell (i := 1) rfl; have k2 := (HPB.out.below hb5 HPB.out.lt).cell (i := 2) rfl; have k3 := (HPB.out.below hb5 HPB.out.lt).cell (i := 3) rfl; have k4 := (HPB.out.below hb5 HPB.out.lt).cell (i := 4) rfl; have k5 := (HPB.out.below hb5 HPB.out.lt).cell (i := 5) rfl; have k6 := (HPB.out.below hb5 HPB.out.lt).cell (i := 6) rfl; have k7 := (HPB.out.below hb5 HPB.out.lt).cell (i := 7) rfl; have t0 := (HPS.out.below hb5 HPS.out.lt).cell (i := 0) rfl; have t1 := (HPS.out.below hb5 HPS.out.lt).cell (i := 1) rfl; have t2 := (HPS.out.below hb5 HPS.out.lt).cell (i := 2) rfl;  clear hb5 hst hps6))
              all_goals
                go_wp2
                go_roundw
                case rel => exact ⟨j + 1, HJM.out, by go_num, HST6.out⟩
                case measure => simp [intOf]; have := HJM.out; omega
            · have HNO := hid (midM_no (xs.take k) ⟨⟨o, s, d, c, ep, ku, q, true⟩, some ⟨db, doff, none⟩, cx⟩ j (by show ¬ 0 < d.getD j 0; rw [HY.out]; exact hy))
              go_wp2
              go_roundw
              case rel => exact ⟨j + 1, HJM.out, by go_num, (HJ.out.1.more (by omega)).ext (fun c' k' o' => (HNO.out c' k' o').symm), HJ.out.2⟩
              case measure => simp [intOf]; have := HJM.out; omega
          · have hjl' : ¬ (j : Int) < (dn : Int) := by omega
            obtain rfl : j = dn := by omega
            have HALL := hid (midM_all (xs.take k) ⟨⟨o, s, d, c, ep, ku, q, true⟩, ax, cx⟩)
            go_wp2
            go_roundw
            case rel =>
              refine ⟨k + 1, HKM.out, by go_num, (HJ.out.1.more (by have := HDL.out; omega)).ext (fun c' k' o' => ?_), HJ.out.2.2⟩
              have := HALL.out c' k' o'
              rw [HTK.out]
              rw [show (⟨⟨o, s, d, c, ep, ku, q, true⟩, ax, cx⟩ : EvM).e.deps.length = j from HDN.out] at this
              exact this
            case measure => simp [intOf]; have := HKM.out; omega
    · have hlt' : ¬ (k : Int) < (n : Int) := by omega
      obtain rfl : k = n := by omega
      go_wp2
      go_ret
      refine ⟨m, _, rfl, by rw [HM.out]; exact Nat.le_refl _, HR.out.1.ext (fun c' k' o' => ?_), HR.out.2⟩
      rw [List.take_of_length_le (by rw [HN.out]; exact Nat.le_refl _)]
end Go.Proofs.Ytkgfpnmifgifpaa
