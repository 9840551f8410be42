/-
  The document's Slots: each slot at its place.
-/
import Derived.Test.YtdceenejijigdaaBalJ
import Derived.Test.YtdceenejijigdaaIntsB
namespace Go.Proofs.Ytdceenejijigdaa
open Go.RowKit Go.Maps

theorem Try.sizeInt : ∀ w : World, (Go.sizeOf 3).run Try.prog w = .ok 1 w := by
  intro w
  obtain ⟨i, hi, _, hs, _⟩ := info_parts Try.infoInt
  simp [Go.sizeOf, typeInfo, hi, hs]
theorem ownsRow_less {w : World} {B B' e size n : Nat} {v : Value} {xs : List Value} (h : w.ownsRow B e size v n xs) (hB : B' ≤ B) : w.ownsRow B' e size v n xs := by
  refine ⟨h.1, ?_⟩
  rcases h.2 with h0 | ⟨g, cap, cur, h1, h2, h3⟩
  · exact .inl h0
  · exact .inr ⟨g, cap, cur, h1, Nat.le_trans hB h2, h3⟩
set_option maxRecDepth 1000000 in
set_option maxHeartbeats 2000000 in
theorem rslotsBal (w : World) (ao : Option Addr) (cap : Nat) (xs : List VoM) (n : Nat) (hn : xs.length = n) (h : HeldVo w ao xs) (hl : n ≤ 1466015503701) : Calls Try.prog 19 #[.slice ao n cap] w (SlotsP w xs) := by
  have H := hid h
  have HN := hid hn
  clear h hn
  go_enter Try.func19, Try.ntmps19
  go_wp2
  go_loopw [3, 4, 5] (fun v i _ wz => ∃ ii : Nat, ii ≤ n ∧ i = .int .i64 ii ∧ Hid (wz.ownsRow w.heap.size 3 1 v (putAll (slotsL (xs.take ii))).length (ints (putAll (slotsL (xs.take ii)))) ∧ Below w.heap.size w wz)) (fun _ i _ _ => n - (intOf i).toNat)
  case atStart => exact ⟨0, by omega, rfl, ⟨by simpa [slotsL, putAll] using ownI_nil w w.heap.size, Below.refl _ _⟩⟩
  case round =>
    obtain ⟨i, hi, rfl, HR⟩ := hrel
    obtain ⟨out, hout⟩ : ∃ o, o = putAll (slotsL (xs.take i)) := ⟨_, rfl⟩
    rw [← hout] at HR
    obtain ⟨oo, oc, hv, hoc, hcells⟩ := own_form8 HR.out.1
    subst hv
    have HOUT := hid hout
    by_cases hlt : i < n
    · have hlt' : (i : Int) < (n : Int) := by omega
      have hix : Hid (i < xs.length) := (HN.out ▸ hlt : i < xs.length)
      have HH := hid (H.out.below HR.out.2)
      obtain ⟨bb, off, rfl, hbb, c0, _⟩ := HH.out.cellsD hix.out
      have HXI : Hid (-9223372036854775808 ≤ (xs.getD i default).slot ∧ (xs.getD i default).slot ≤ 9223372036854775807) := by
        have := (H.out.1 _ (List.getElem_mem hix.out)).is
        rw [← vo_getD hix.out] at this
        exact this
      have HST : Hid (putAll (slotsL (xs.take (i + 1))) = putS out (xs.getD i default).slot) := by show _ = _; rw [slotsL_snoc hix.out, putAll_snoc, hout]
      obtain ⟨x, hx⟩ : ∃ X, X = (xs.getD i default).slot := ⟨_, rfl⟩
      rw [← hx] at c0 HST HXI
      have HXE := hid hx
      clear hx hout
      obtain ⟨L, HL⟩ : ∃ L, Hid (out.length = L) := ⟨_, hid rfl⟩
      have hLi : L ≤ i := by
        have h1 := putAll_len (slotsL (xs.take i))
        rw [← HOUT.out, HL.out] at h1
        have h2 : (slotsL (xs.take i)).length ≤ i := by simp [slotsL]; omega
        omega
      have HOI : Hid (∀ y ∈ out, -9223372036854775808 ≤ y ∧ y ≤ 9223372036854775807) := fun y hy => by
        rw [HOUT.out, putAll_mem] at hy
        exact slots_i64 (fun v hv => H.out.1 v (List.mem_of_mem_take hv)) y hy
      have HHO : Hid (HeldInt wr oo out) := by
        obtain ⟨eo, ec, he, hhv⟩ := hv_of_own HR.out.1 HOI.out (by rw [HL.out]; omega)
        cases he
        exact hhv.held
      rw [HL.out] at hoc hcells ⊢
      clear hcells
      go_wp2
      go_loopw [5] (fun c wz => ∃ k : Nat, k ≤ L ∧ c = .int .i64 k ∧ Hid ((∀ j (hj : j < out.length), j < k → out[j] < x) ∧ wz.ownsRow w.heap.size 3 1 (.slice oo L oc) L (ints out) ∧ Below w.heap.size w wz)) (fun c _ => L - (intOf c).toNat)
      case atStart => exact ⟨0, by omega, rfl, ⟨fun j hj h => absurd h (by omega), by have := HR.out.1; rw [HL.out] at this; exact this, HR.out.2⟩⟩
      case round =>
        obtain ⟨k, hk, rfl, HK⟩ := hrel
        have HHI : Hid (HeldInt wr oo out) := by
          obtain ⟨eo, ec, he, hhv⟩ := hv_of_own (by have := HK.out.2.1; rw [← HL.out] at this; exact this) HOI.out (by rw [HL.out]; omega)
          cases he
          exact hhv.held
        obtain ⟨bb', off', he, hbi, ci, _⟩ := (H.out.below HK.out.2.2).cellsD hix.out
        simp only [Option.some.injEq, Addr.mk.injEq] at he
        obtain ⟨rfl, rfl, _⟩ := he
        rw [← HXE.out] at ci
        by_cases hkl : k < L
        · have hkl' : (k : Int) < (L : Int) := by omega
          have hko : Hid (k < out.length) := (by rw [HL.out]; exact hkl : k < out.length)
          have hne : ((k : Int) == (L : Int)) = false := by simp; omega
          obtain ⟨g, goff, hgo, hgc⟩ := HHI.out.cellAt hko.out
          have hgk := hgc k hko.out
          rw [show out.getD k 0 = out[k]'hko.out by simp [List.getD, List.getElem?_eq_getElem hko.out]] at hgk
          obtain ⟨y, hy⟩ : ∃ y, y = out[k]'hko.out := ⟨_, rfl⟩
          rw [← hy] at hgk
          have HYE := hid hy
          have HGO := hid hgo
          clear hgc hy hgo
          have hgk2 : ∀ q, oo = some q → wr.cell? (q.add k) = some (.int .i64 y) := fun q hq => by rw [HGO.out] at hq; cases hq; rw [Addr.add_lit]; exact hgk
          clear hgk2
          have hdk : decide ((k : Int) < (L : Int)) = true := decide_eq_true hkl'
          by_cases hyx : y < x
          · have hdy : decide (y < x) = true := decide_eq_true hyx
            rw [HGO.out]
            go_wp2
            go_quiet (fail)
            go_wp2
            rw [← HGO.out]
            go_roundw
            case rel => exact ⟨k + 1, by omega, by go_num, ⟨fun j hj h => by
              rcases Nat.lt_succ_iff_lt_or_eq.1 h with h1 | h1
              · exact HK.out.1 j hj h1
              · subst h1
                rw [← HYE.out]
                exact hyx, HK.out.2.1, below_dn HK.out.2.2 _⟩⟩
            case measure => simp [intOf]; omega
          · have hdy : decide (y < x) = false := decide_eq_false hyx
            have HAH : Hid (k = aheadOf out x) := aheadOf_eq HK.out.1 (by rw [HL.out]; omega) (.inr ⟨hko.out, by rw [← HYE.out]; exact hyx⟩)
            have HGD : Hid (out.getD k 0 = y) := by show _ = _; rw [HYE.out]; simp [List.getD, List.getElem?_eq_getElem hko.out]
            by_cases hxy : y = x
            · have HSAME : Hid (putAll (slotsL (xs.take (i + 1))) = out) := by
                show _ = _
                rw [HST.out]
                unfold putS
                rw [if_neg (by rw [← HAH.out, HL.out, HGD.out]; rintro (h | h) <;> omega)]
              have hyb : (y != x) = false := by simp [hxy]
              clear hxy
              rw [HGO.out]
              go_wp2
              go_quiet (fail)
              go_wp2
              go_quiet (fail)
              go_wp2
              rw [← HGO.out]
              go_roundw
              case rel => exact ⟨i + 1, by omega, by go_num, ⟨by rw [HSAME.out, HL.out]; exact HK.out.2.1, below_dn HK.out.2.2 _⟩⟩
              case measure => simp [intOf]; omega
            · have hyb : (y != x) = true := by simpa using hxy
              have HPOS : Hid (aheadOf out x = out.length ∨ out.getD (aheadOf out x) 0 ≠ x) := .inr (by rw [← HAH.out, HGD.out]; exact hxy)
              clear hxy
              rw [HGO.out]
              go_wp2
              go_quiet (fail)
              go_wp2
              revert nq
              intro q1
              go_quiet (fail)
              go_wp2
              rw [← HGO.out]
              obtain ⟨wq, hwq⟩ : ∃ V, V = (wr.drewN q1).drewN nq := ⟨_, rfl⟩
              rw [← hwq]
              have HWQ : Hid (Below wr.heap.size wr wq) := by rw [hwq]; exact below_dn (below_dn (Below.refl _ _) _) _
              have HHQ := hid (HHI.out.below HWQ.out)
              have HKB : Hid (Below w.heap.size w wq) := bt' HK.out.2.2 HWQ.out
              have cq := (HWQ.out.cell (p := ⟨bb, off + i * 8, none⟩) hbi).trans ci
              have hbq := Nat.lt_of_lt_of_le hbi HWQ.out.size
              clear hwq
              have HSA : Hid (∀ V, ScB wq V → (ScB wq V ∧ V.cell? ⟨bb, off + i * 8, none⟩ = some (.int .i64 x))) := fun V hV => ⟨hV, (hV.out.cell (p := ⟨bb, off + i * 8, none⟩) hbq).trans cq⟩
              have HSZ : Hid (∀ V, ScB wq V → wq.heap.size ≤ V.heap.size) := fun V hV => hV.out.size
              have HTK : Hid (∀ V, ScB wq V → HeldInt V oo (out.take k)) := fun V hV => (HHQ.out.below hV.out).take k
              have HDR : Hid (∀ V, ScB wq V → HeldInt V (cutAt oo oc k) (out.drop k)) := fun V hV => (HHQ.out.below hV.out).drop (by rw [HL.out]; exact hoc)
              have HGR : Hid (∀ V U, ScB wq V → Below wq.heap.size V U → ScB wq U) := fun V U hV hb => ⟨hV.out.trans hb⟩
              have HTL : Hid ((out.take k).length = k) := by show _ = _; have := HL.out; simp; omega
              have HTX : Hid ((out.take k ++ [x]).length = k + 1) := by show _ = _; have := HL.out; simp; omega
              have HDL : Hid ((out.drop k).length = L - k) := by show _ = _; have := HL.out; simp; omega
              have HFN : Hid (∀ (V : World) (b : Option Addr) (c : Nat), V.ownsRow wq.heap.size 3 1 (.slice b (k + 1 + (L - k)) c) (k + 1 + (L - k)) (ints ((out.take k ++ [x]) ++ out.drop k)) → V.ownsRow w.heap.size 3 1 (.slice b (k + 1 + (L - k)) c) (putAll (slotsL (xs.take (i + 1)))).length (ints (putAll (slotsL (xs.take (i + 1)))))) := fun V b c ho => by
                have e1 : putS out x = (out.take k ++ [x]) ++ out.drop k := by unfold putS; rw [if_pos HPOS.out, ← HAH.out]
                rw [HST.out, e1]
                have e2 : ((out.take k ++ [x]) ++ out.drop k).length = k + 1 + (L - k) := by rw [List.length_append, HTX.out, HDL.out]
                rw [e2]
                exact ownsRow_less ho HKB.out.size
              have hs1 := fun W => run_cut_h (P := Try.prog) W 32 3 Try.underlying32 Try.sizeInt oo L oc k (k : Int) rfl (by omega)
              have hs2 := fun W => run_cut_l (P := Try.prog) W 32 3 Try.underlying32 Try.sizeInt oo L oc k (k : Int) rfl hk
              have HXI2 := HXI.out
              have HW1c : Hid ((((wq.alloc (.cells #[.int .i64 x] 3)).alloc (.cells #[] 3)).drew).cell? ⟨wq.heap.size, 0, none⟩ = some (.int .i64 x)) := ((Blk.new wq 3 [.int .i64 x]).alloc (.cells #[] 3)).cell (i := 0) rfl
              have HW2c : Hid ((((wq.alloc (.cells #[] 3)).alloc (.cells #[.int .i64 x] 3)).drew).cell? ⟨wq.heap.size + 1, 0, none⟩ = some (.int .i64 x)) := by
                have := (Blk.new (wq.alloc (.cells #[] 3)) 3 [.int .i64 x]).cell (i := 0) rfl
                rw [World.size_alloc] at this
                exact this
              have HW1b : Hid (wq.heap.size < (((wq.alloc (.cells #[.int .i64 x] 3)).alloc (.cells #[] 3)).drew).heap.size) := ((Blk.new wq 3 [.int .i64 x]).alloc (.cells #[] 3)).lt
              have HW2b : Hid (wq.heap.size + 1 < (((wq.alloc (.cells #[] 3)).alloc (.cells #[.int .i64 x] 3)).drew).heap.size) := by
                have := (Blk.new (wq.alloc (.cells #[] 3)) 3 [.int .i64 x]).lt
                rw [World.size_alloc] at this
                exact this
              go_region_held3 (fun V => ScB wq V ∧ V.cell? ⟨bb, off + i * 8, none⟩ = some (.int .i64 x)) (first | (refine ⟨?_, ?_⟩ <;> assumption) | (refine HSA.out _ ?_; (repeat (first | assumption | exact ScB.start _ | apply ScB.dr | apply ScB.alloc))))
                (first
                  | (refine step_copy_ints rfl _ _ rfl wq.heap.size _ rfl ?_ oo k oc (out.take k) HTL.out rfl ?_ (by omega) ?_ ?_
                     · first | exact ownI_made wq _ (Nat.le_refl _) | exact (ownI_made wq _ (Nat.le_refl _)).alloc _ | exact ownI_made2 wq _ _ (Nat.le_refl _)
                     · refine HTK.out _ ?_; (repeat (first | assumption | exact ScB.start _ | apply ScB.dr | apply ScB.alloc))
                     · refine HSZ.out _ ?_; (repeat (first | assumption | exact ScB.start _ | apply ScB.dr | apply ScB.alloc))
                     intro bo cp w3 hown3 hb3 hg3
                     have hsc3 : ScB wq w3 := HGR.out _ _ (by (repeat (first | assumption | exact ScB.start _ | apply ScB.dr | apply ScB.alloc))) hb3
                     first
                       | have hX3 : HeldInt w3 (some ⟨wq.heap.size, 0, none⟩) [x] := HeldInt.one_grown HXI.out HW1c.out HW1b.out hg3 (by simp)
                       | have hX3 : HeldInt w3 (some ⟨wq.heap.size + 1, 0, none⟩) [x] := HeldInt.one_grown HXI.out HW2c.out HW2b.out hg3 (by simp)
                       | skip
                     clear hb3 hg3)
                  | (refine step_append_ints rfl _ _ rfl wq.heap.size _ k (out.take k) HTL.out rfl ?_ _ 1 1 [x] rfl rfl ?_ (by omega) ?_ ?_
                     · first | exact hown3 | exact hown3.alloc _
                     · first | exact hX3 | exact HeldInt.one_new HXI.out
                     · refine HSZ.out _ ?_; (repeat (first | assumption | exact ScB.start _ | apply ScB.dr | apply ScB.alloc))
                     intro b4 c4 w4 hown4 hb4 hg4
                     have hsc4 : ScB wq w4 := HGR.out _ _ (by (repeat (first | assumption | exact ScB.start _ | apply ScB.dr | apply ScB.alloc))) hb4
                     clear hb4 hg4)
                  | (refine step_append_ints rfl _ _ rfl wq.heap.size _ (k + 1) (out.take k ++ [x]) HTX.out rfl ?_ (cutAt oo oc k) (L - k) (oc - k) (out.drop k) HDL.out rfl ?_ (by omega) ?_ ?_
                     · exact hown4
                     · refine HDR.out _ ?_; (repeat (first | assumption | exact ScB.start _ | apply ScB.dr | apply ScB.alloc))
                     · refine HSZ.out _ ?_; (repeat (first | assumption | exact ScB.start _ | apply ScB.dr | apply ScB.alloc))
                     intro b5 c5 w5 hown5 hb5 hg5
                     have hsc5 : ScB wq w5 := HGR.out _ _ (by (repeat (first | assumption | exact ScB.start _ | apply ScB.dr | apply ScB.alloc))) hb5
                     clear hb5 hg5))
              all_goals
                have HO5 : Hid (w5.ownsRow w.heap.size 3 1 (.slice b5 (k + 1 + (L - k)) c5) (putAll (slotsL (xs.take (i + 1)))).length (ints (putAll (slotsL (xs.take (i + 1)))))) := HFN.out _ _ _ hown5
                have HB5 : Hid (Below w.heap.size w w5) := bt' HKB.out hsc5.out
                clear hown5 hsc5
                go_wp2
                go_roundw
                case rel => exact ⟨i + 1, by omega, by go_num, ⟨HO5.out, HB5.out⟩⟩
                case measure => simp [intOf]; omega

        · have hkl' : ¬ (k : Int) < (L : Int) := by omega
          have hkL : k = L := by omega
          have HPOS : Hid (aheadOf out x = out.length ∨ out.getD (aheadOf out x) 0 ≠ x) := .inl (by rw [← aheadOf_eq HK.out.1 (by rw [HL.out]; omega) (.inl (by rw [HL.out]; exact hkL)), HL.out]; exact hkL)
          have HAH : Hid (k = aheadOf out x) := aheadOf_eq HK.out.1 (by rw [HL.out]; omega) (.inl (by rw [HL.out]; exact hkL))
          have hke : ((k : Int) == (L : Int)) = true := by simp; omega
          have hdk : decide ((k : Int) < (L : Int)) = false := decide_eq_false hkl'
          clear hkL
          go_wp2
          go_quiet (fail)
          go_wp2
          revert nq
          intro q1
          go_quiet (fail)
          go_wp2
          clear hke hdk
          obtain ⟨wq, hwq⟩ : ∃ V, V = (wr.drewN q1).drewN nq := ⟨_, rfl⟩
          rw [← hwq]
          have HWQ : Hid (Below wr.heap.size wr wq) := by rw [hwq]; exact below_dn (below_dn (Below.refl _ _) _) _
          have HHQ := hid (HHI.out.below HWQ.out)
          have HKB : Hid (Below w.heap.size w wq) := bt' HK.out.2.2 HWQ.out
          have cq := (HWQ.out.cell (p := ⟨bb, off + i * 8, none⟩) hbi).trans ci
          have hbq := Nat.lt_of_lt_of_le hbi HWQ.out.size
          clear hwq
          have HSA : Hid (∀ V, ScB wq V → (ScB wq V ∧ V.cell? ⟨bb, off + i * 8, none⟩ = some (.int .i64 x))) := fun V hV => ⟨hV, (hV.out.cell (p := ⟨bb, off + i * 8, none⟩) hbq).trans cq⟩
          have HSZ : Hid (∀ V, ScB wq V → wq.heap.size ≤ V.heap.size) := fun V hV => hV.out.size
          have HTK : Hid (∀ V, ScB wq V → HeldInt V oo (out.take k)) := fun V hV => (HHQ.out.below hV.out).take k
          have HDR : Hid (∀ V, ScB wq V → HeldInt V (cutAt oo oc k) (out.drop k)) := fun V hV => (HHQ.out.below hV.out).drop (by rw [HL.out]; exact hoc)
          have HGR : Hid (∀ V U, ScB wq V → Below wq.heap.size V U → ScB wq U) := fun V U hV hb => ⟨hV.out.trans hb⟩
          have HTL : Hid ((out.take k).length = k) := by show _ = _; have := HL.out; simp; omega
          have HTX : Hid ((out.take k ++ [x]).length = k + 1) := by show _ = _; have := HL.out; simp; omega
          have HDL : Hid ((out.drop k).length = L - k) := by show _ = _; have := HL.out; simp; omega
          have HFN : Hid (∀ (V : World) (b : Option Addr) (c : Nat), V.ownsRow wq.heap.size 3 1 (.slice b (k + 1 + (L - k)) c) (k + 1 + (L - k)) (ints ((out.take k ++ [x]) ++ out.drop k)) → V.ownsRow w.heap.size 3 1 (.slice b (k + 1 + (L - k)) c) (putAll (slotsL (xs.take (i + 1)))).length (ints (putAll (slotsL (xs.take (i + 1)))))) := fun V b c ho => by
            have e1 : putS out x = (out.take k ++ [x]) ++ out.drop k := by unfold putS; rw [if_pos HPOS.out, ← HAH.out]
            rw [HST.out, e1]
            have e2 : ((out.take k ++ [x]) ++ out.drop k).length = k + 1 + (L - k) := by rw [List.length_append, HTX.out, HDL.out]
            rw [e2]
            exact ownsRow_less ho HKB.out.size
          have hs1 := fun W => run_cut_h (P := Try.prog) W 32 3 Try.underlying32 Try.sizeInt oo L oc k (k : Int) rfl (by omega)
          have hs2 := fun W => run_cut_l (P := Try.prog) W 32 3 Try.underlying32 Try.sizeInt oo L oc k (k : Int) rfl hk
          have HXI2 := HXI.out
          have HW1c : Hid ((((wq.alloc (.cells #[.int .i64 x] 3)).alloc (.cells #[] 3)).drew).cell? ⟨wq.heap.size, 0, none⟩ = some (.int .i64 x)) := ((Blk.new wq 3 [.int .i64 x]).alloc (.cells #[] 3)).cell (i := 0) rfl
          have HW2c : Hid ((((wq.alloc (.cells #[] 3)).alloc (.cells #[.int .i64 x] 3)).drew).cell? ⟨wq.heap.size + 1, 0, none⟩ = some (.int .i64 x)) := by
            have := (Blk.new (wq.alloc (.cells #[] 3)) 3 [.int .i64 x]).cell (i := 0) rfl
            rw [World.size_alloc] at this
            exact this
          have HW1b : Hid (wq.heap.size < (((wq.alloc (.cells #[.int .i64 x] 3)).alloc (.cells #[] 3)).drew).heap.size) := ((Blk.new wq 3 [.int .i64 x]).alloc (.cells #[] 3)).lt
          have HW2b : Hid (wq.heap.size + 1 < (((wq.alloc (.cells #[] 3)).alloc (.cells #[.int .i64 x] 3)).drew).heap.size) := by
            have := (Blk.new (wq.alloc (.cells #[] 3)) 3 [.int .i64 x]).lt
            rw [World.size_alloc] at this
            exact this
          go_region_held3 (fun V => ScB wq V ∧ V.cell? ⟨bb, off + i * 8, none⟩ = some (.int .i64 x)) (first | (refine ⟨?_, ?_⟩ <;> assumption) | (refine HSA.out _ ?_; (repeat (first | assumption | exact ScB.start _ | apply ScB.dr | apply ScB.alloc))))
            (first
              | (refine step_copy_ints rfl _ _ rfl wq.heap.size _ rfl ?_ oo k oc (out.take k) HTL.out rfl ?_ (by omega) ?_ ?_
                 · first | exact ownI_made wq _ (Nat.le_refl _) | exact (ownI_made wq _ (Nat.le_refl _)).alloc _ | exact ownI_made2 wq _ _ (Nat.le_refl _)
                 · refine HTK.out _ ?_; (repeat (first | assumption | exact ScB.start _ | apply ScB.dr | apply ScB.alloc))
                 · refine HSZ.out _ ?_; (repeat (first | assumption | exact ScB.start _ | apply ScB.dr | apply ScB.alloc))
                 intro bo cp w3 hown3 hb3 hg3
                 have hsc3 : ScB wq w3 := HGR.out _ _ (by (repeat (first | assumption | exact ScB.start _ | apply ScB.dr | apply ScB.alloc))) hb3
                 first
                   | have hX3 : HeldInt w3 (some ⟨wq.heap.size, 0, none⟩) [x] := HeldInt.one_grown HXI.out HW1c.out HW1b.out hg3 (by simp)
                   | have hX3 : HeldInt w3 (some ⟨wq.heap.size + 1, 0, none⟩) [x] := HeldInt.one_grown HXI.out HW2c.out HW2b.out hg3 (by simp)
                   | skip
                 clear hb3 hg3)
              | (refine step_append_ints rfl _ _ rfl wq.heap.size _ k (out.take k) HTL.out rfl ?_ _ 1 1 [x] rfl rfl ?_ (by omega) ?_ ?_
                 · first | exact hown3 | exact hown3.alloc _
                 · first | exact hX3 | exact HeldInt.one_new HXI.out
                 · refine HSZ.out _ ?_; (repeat (first | assumption | exact ScB.start _ | apply ScB.dr | apply ScB.alloc))
                 intro b4 c4 w4 hown4 hb4 hg4
                 have hsc4 : ScB wq w4 := HGR.out _ _ (by (repeat (first | assumption | exact ScB.start _ | apply ScB.dr | apply ScB.alloc))) hb4
                 clear hb4 hg4)
              | (refine step_append_ints rfl _ _ rfl wq.heap.size _ (k + 1) (out.take k ++ [x]) HTX.out rfl ?_ (cutAt oo oc k) (L - k) (oc - k) (out.drop k) HDL.out rfl ?_ (by omega) ?_ ?_
                 · exact hown4
                 · refine HDR.out _ ?_; (repeat (first | assumption | exact ScB.start _ | apply ScB.dr | apply ScB.alloc))
                 · refine HSZ.out _ ?_; (repeat (first | assumption | exact ScB.start _ | apply ScB.dr | apply ScB.alloc))
                 intro b5 c5 w5 hown5 hb5 hg5
                 have hsc5 : ScB wq w5 := HGR.out _ _ (by (repeat (first | assumption | exact ScB.start _ | apply ScB.dr | apply ScB.alloc))) hb5
                 clear hb5 hg5))
          all_goals
            have HO5 : Hid (w5.ownsRow w.heap.size 3 1 (.slice b5 (k + 1 + (L - k)) c5) (putAll (slotsL (xs.take (i + 1)))).length (ints (putAll (slotsL (xs.take (i + 1)))))) := HFN.out _ _ _ hown5
            have HB5 : Hid (Below w.heap.size w w5) := bt' HKB.out hsc5.out
            clear hown5 hsc5
            go_wp2
            go_roundw
            case rel => exact ⟨i + 1, by omega, by go_num, ⟨HO5.out, HB5.out⟩⟩
            case measure => simp [intOf]; omega
    · have hlt' : ¬ (i : Int) < (n : Int) := by omega
      obtain rfl : i = n := by omega
      have HTK : Hid (xs.take i = xs) := by show _ = _; rw [← HN.out]; exact List.take_length
      have HOI : Hid (∀ y ∈ out, -9223372036854775808 ≤ y ∧ y ≤ 9223372036854775807) := fun y hy => by
        rw [HOUT.out, putAll_mem, HTK.out] at hy
        exact slots_i64 H.out.1 y hy
      have HOL : Hid (out.length ≤ 17592186044416) := by
        have h1 := putAll_len (slotsL (xs.take i))
        rw [← HOUT.out] at h1
        have h2 : (slotsL (xs.take i)).length ≤ i := by simp [slotsL]; omega
        show _ ≤ _
        omega
      have HHO : Hid (HeldInt wr oo out) := by
        obtain ⟨eo, ec, he, hhv⟩ := hv_of_own HR.out.1 HOI.out HOL.out
        cases he
        exact hhv.held
      rw [HTK.out] at HOUT
      have HF : Hid (putAll (slotsL xs) = out) := HOUT.out.symm
      obtain ⟨L, HL⟩ : ∃ L, Hid (out.length = L) := ⟨_, hid rfl⟩
      rw [HL.out]
      clear hcells hoc hout
      go_wp2
      go_ret
      exact ⟨oo, oc, by rw [HF.out, HL.out]; rfl, by rw [HF.out]; exact HHO.out, HR.out.2⟩
end Go.Proofs.Ytdceenejijigdaa
