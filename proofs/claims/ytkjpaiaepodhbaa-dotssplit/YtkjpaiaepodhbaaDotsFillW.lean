/-
  pannierlaw09.DotsFill answers true for any pairs and vector.
-/
import Derived.Test.YtkjpaiaepodhbaaDotsFillM
import Derived.Test.YtkjpaiaepodhbaaPairOpen
namespace Go.Proofs.Ytkjpaiaepodhbaa
open Go.RowKit Go.Maps

def addS (S : Int → Int → Option Value) (N : Nat) (o s : Int) (x : Value) : Int → Int → Option Value := if addCode S N o s = 0 then updS S o s x else S
def addN (S : Int → Int → Option Value) (N : Nat) (o s : Int) : Nat := if addCode S N o s = 0 then N + 1 else N
theorem addN_le (S : Int → Int → Option Value) (N : Nat) (o s : Int) : addN S N o s ≤ N + 1 := by unfold addN; split <;> omega
section
variable {w w0 wr : World} {p m N : Nat} {rs rs0 : Nat → Value} {R : Nat → List Value} {D : DataW Value} {S : Int → Int → Option Value}
theorem Closed.start (h : DotsAt w p rs R m D S N) : Closed w p m rs S N w := ⟨rs, R, D, h, Turns.refl _ _, fun _ hi => .inl hi⟩
theorem Closed.after {w' : World} (h : Closed w0 p m rs0 S N wr) (hb : Below wr.heap.size wr w') : Closed w0 p m rs0 S N w' := by
  obtain ⟨rs, R, D, h1, h2, h3⟩ := h
  exact ⟨rs, R, D, h1.below hb, h2.trans (Turns.of_below (F := fun _ => False) hb (Nat.le_refl _)) (fun _ hf => hf.elim), h3⟩
theorem Closed.add (h : Closed w0 p m rs0 S N wr) (o s : Int) (t : ByteArray) : Calls Try.prog 10 #[.pointer (some ⟨p, 0, none⟩), .agg #[.int .i64 o, .int .i64 s], .string t] wr fun e w' => e = .returned (.int .i64 (addCode S N o s)) ∧ Closed w0 p m rs0 (addS S N o s (.string t)) (addN S N o s) w' := by
  obtain ⟨rs, R, D, h1, h2, h3⟩ := h
  refine (add_any h1 o s t).mono ?_
  rintro e w' ⟨he, hr⟩
  refine ⟨he, ?_⟩
  rcases hr with ⟨hno, hd, hb⟩ | ⟨hz, rs', R', D', hd, hT, hF⟩
  · unfold addS addN
    rw [if_neg hno, if_neg hno]
    exact ⟨rs, R, D, hd, h2.trans (Turns.of_below (F := fun _ => False) hb (Nat.le_refl _)) (fun _ hf => hf.elim), h3⟩
  · unfold addS addN
    rw [if_pos hz, if_pos hz]
    refine ⟨rs', R', D', hd, h2.trans hT h3, fun i hi => ?_⟩
    rcases hF i hi with h | h
    · exact h3 i h
    · exact .inr (Nat.le_trans h2.size h)
end
def bsNew : ByteArray := { data := #[110, 101, 119] }
set_option maxRecDepth 1000000 in
set_option maxHeartbeats 2000000 in
theorem dotsFill_walk (lo : Option Addr) (lc : Nat) (l : List PairV) (vo : Option Addr) (vc : Nat) (v : List Int) (w : World) (hl : HeldPr w lo l) (hll : l.length ≤ 140737488355328) (hv : HV w vo vc v) :
    Calls Try.prog 4 #[.slice lo l.length lc, .slice vo v.length vc] w fun e w' => e = .returned (.bool true) ∧ Below w.heap.size w w' := by
  have hvf := hv.few
  obtain ⟨ln, HLN⟩ : ∃ n, Hid (l.length = n) := ⟨_, hid rfl⟩
  obtain ⟨vn, HVN⟩ : ∃ n, Hid (v.length = n) := ⟨_, hid rfl⟩
  rw [HLN.out] at hll ⊢
  rw [HVN.out] at hvf ⊢
  have HL := hid hl
  have HV := hid hv
  clear hl hv
  go_enter Try.func4, Try.ntmps4
  go_wp2_with fail
  refine (new_any w).mono ?_
  rintro e w1 ⟨rfl, hd, hb⟩
  obtain ⟨p, HP⟩ : ∃ p, Hid (p = w.heap.size + 1) := ⟨_, hid rfl⟩
  obtain ⟨m, HM⟩ : ∃ p, Hid (p = w.heap.size) := ⟨_, hid rfl⟩
  rw [← HP.out] at hd ⊢
  rw [← HM.out] at hd
  have HF0 : Hid (∀ i, FootD p m (fun _ => .slice none 0 0) i → w.heap.size ≤ i) := fun i hi => by
    rcases hi with rfl | rfl | ⟨k, _, hk⟩
    · have := HP.out; omega
    · have := HM.out; omega
    · simp [Value.ownBlock] at hk
  have HD1 := hid hd
  have HB1 := hid hb
  clear hd hb
  go_wp2_with fail
  refine (livesD_any w1).mono ?_
  rintro e w2 ⟨rfl, hb⟩
  have HD2 := hid (HD1.out.below hb)
  have HB2 := hid (bt HB1.out hb)
  clear hb HD1 HB1
  by_cases hl1 : 1000 < ln
  · have hl1' : (1000 : Int) < (ln : Int) := by omega
    go_wp2
    go_ret
    exact ⟨rfl, HB2.out⟩
  have hl1' : ¬ (1000 : Int) < (ln : Int) := by omega
  by_cases hv7 : 7 < vn
  · have hv7' : (7 : Int) < (vn : Int) := by omega
    go_wp2
    go_ret
    exact ⟨rfl, HB2.out⟩
  have hv7' : ¬ (7 : Int) < (vn : Int) := by omega
  have HL1 : Hid (ln ≤ 1000) := (by omega : ln ≤ 1000)
  have HV7 : Hid (v.length ≤ 7) := by show _ ≤ _; rw [HVN.out]; omega
  have HVW := hid (HV.out.below HB2.out)
  clear hl1 hv7
  go_wp2
  clear hl1' hv7'
  go_loop [6] (fun i => ∃ k : Nat, k ≤ vn ∧ i = .int .i64 k ∧ Hid (∀ j, j < k → v.getD j 0 ≤ 500)) (fun i => vn - (intOf i).toNat)
  case atStart => exact ⟨0, Nat.zero_le _, rfl, fun j hj => absurd hj (Nat.not_lt_zero _)⟩
  case round =>
    obtain ⟨k, hk, rfl, HA⟩ := hrel
    by_cases hlt : k < vn
    · have hlt' : (k : Int) < (vn : Int) := by omega
      obtain ⟨b, off, hvo, hc⟩ := HVW.out.held.cellAt (k := k) (by rw [HVN.out]; exact hlt)
      have hcell := hc k (by rw [HVN.out]; exact hlt)
      clear hc
      subst hvo
      obtain ⟨X, HX⟩ : ∃ X, Hid (v.getD k 0 = X) := ⟨_, hid rfl⟩
      rw [HX.out] at hcell
      by_cases hx : 500 < X
      · go_wp2
        go_ret
        exact ⟨rfl, HB2.out⟩
      · go_wp2
        go_round
        case rel =>
          refine ⟨k + 1, by omega, by go_num, fun j hj => ?_⟩
          by_cases e : j = k
          · subst e
            rw [HX.out]
            omega
          · exact HA.out j (by omega)
        case measure => simp [intOf]; omega
    · have hlt' : ¬ (k : Int) < (vn : Int) := by omega
      have H5 : Hid (∀ j, v.getD j 0 ≤ 500) := fun j => by
        by_cases hj : j < v.length
        · exact HA.out j (by have := HVN.out; omega)
        · rw [getD_far (by omega)]
          decide
      go_wp2
      clear hlt'
      go_loopw [7] (fun i wr => ∃ k : Nat, k ≤ ln ∧ i = .int .i64 k ∧ Hid (∃ S N, N ≤ k ∧ Closed w2 p m (fun _ => .slice none 0 0) S N wr)) (fun i _ => ln - (intOf i).toNat)
      case atStart => exact ⟨0, Nat.zero_le _, rfl, _, 0, Nat.le_refl _, Closed.start HD2.out⟩
      case round =>
        obtain ⟨k2, hk2, rfl, HC⟩ := hrel
        by_cases hlt : k2 < ln
        · have hlt' : (k2 : Int) < (ln : Int) := by omega
          obtain ⟨S, N, hN, hcl⟩ := HC.out
          have hB : Below w.heap.size w wr := by
            obtain ⟨_, _, _, _, hb, _⟩ := hcl.below HF0.out HB2.out.size
            exact HB2.out.trans hb
          have hkl : k2 < l.length := by rw [HLN.out]; exact hlt
          obtain ⟨b, off, hlo, q0, q1, q2⟩ := (HL.out.below hB).at hkl
          subst hlo
          obtain ⟨X, hX⟩ : ∃ X, l[k2] = X := ⟨_, rfl⟩
          rw [hX] at q0 q1 q2
          have hbl : b < w.heap.size := by
            rcases HL.out.2 with h0 | ⟨b', off', e, h2, _⟩
            · rw [h0] at hkl
              cases hkl
            · cases e
              exact h2
          have HADD := hid (Closed.add (hcl.after (below_dn (Below.refl _ _) 1)) X.o X.s X.t)
          change Hid (Calls Try.prog 10 _ wr.drew _) at HADD
          have HQ : Hid (∀ w', Closed w2 p m (fun _ => .slice none 0 0) (addS S N X.o X.s (.string X.t)) (addN S N X.o X.s) w' → w'.cell? ⟨b, off + k2 * 3, none⟩ = some (.int .i64 X.o) ∧ w'.cell? ⟨b, off + k2 * 3 + 1, none⟩ = some (.int .i64 X.s) ∧ w'.cell? ⟨b, off + k2 * 3 + 2, none⟩ = some (.string X.t)) := fun w' hc' => by
            have hB' : Below w.heap.size w w' := by
              obtain ⟨_, _, _, _, hb, _⟩ := hc'.below HF0.out HB2.out.size
              exact HB2.out.trans hb
            obtain ⟨b2, off2, e, a0, a1, a2⟩ := (HL.out.below hB').at hkl
            cases e
            rw [hX] at a0 a1 a2
            exact ⟨a0, a1, a2⟩
          have HNK : Hid (addN S N X.o X.s ≤ k2 + 1) := Nat.le_trans (addN_le S N X.o X.s) (by omega)
          clear hcl hX hB hbl hkl
          go_wp2
          go_region_held3 (fun W => W.cell? ⟨b, off + k2 * 3, none⟩ = some (.int .i64 X.o) ∧ W.cell? ⟨b, off + k2 * 3 + 1, none⟩ = some (.int .i64 X.s) ∧ W.cell? ⟨b, off + k2 * 3 + 2, none⟩ = some (.string X.t)) (go_keep) ((go_at_call 10; refine HADD.out.mono ?_; rintro e w5 ⟨rfl, hc5⟩; have HC5 := hid hc5; obtain ⟨a0, a1, a2⟩ := HQ.out w5 hc5; clear hc5))
          go_wp2
          go_roundw
          case rel => exact ⟨k2 + 1, by omega, by go_num, _, _, HNK.out, HC5.out⟩
          case measure => simp [intOf]; omega
        · have hlt' : ¬ (k2 : Int) < (ln : Int) := by omega
          obtain ⟨S, N, hN, hcl⟩ := HC.out
          obtain ⟨rs, R, D, hd, hb, hf⟩ := hcl.below HF0.out HB2.out.size
          have HDA := hid hd
          have HBW := hid (HB2.out.trans hb)
          have HFW := hid hf
          have HN : Hid (N ≤ 1000) := (by have := HL1.out; omega : N ≤ 1000)
          have HLT := hid hd.pre.foot_lt
          clear hd hb hf hcl hN HC
          go_wp2_with fail
          clear hlt'
          refine (missing_any HDA.out.pre vo vc v vn HVN.out (HV.out.below HBW.out)).mono ?_
          rintro e wm ⟨eo, cap, rfl, hrow, hbm⟩
          have HDM := hid (HDA.out.below hbm)
          have HBM := hid (bt HBW.out hbm)
          obtain ⟨M, HMM⟩ : ∃ M, Hid ((missOf S R v).length = M) := ⟨_, hid rfl⟩
          have HROW := hid hrow
          rw [HMM.out]
          have hM35 : M ≤ 3500 := by rw [← HMM.out]; exact miss_len HV7.out H5.out
          clear hrow hbm
          go_wp2
          go_loopw [9] (fun i w9 => ∃ j : Nat, j ≤ M ∧ i = .int .i64 j ∧ Hid (Closed wm p m rs (more S ((missOf S R v).take j) (.string bsNew)) (N + j) w9)) (fun i _ => M - (intOf i).toNat)
          case atStart => exact ⟨0, Nat.zero_le _, rfl, by show Closed _ _ _ _ _ _ _; rw [List.take_zero, more_nil]; exact Closed.start HDM.out⟩
          case round =>
            obtain ⟨j, hj, rfl, HC⟩ := hrel
            by_cases hlt : j < M
            · have hlt' : (j : Int) < (M : Int) := by omega
              have hjm : j < (missOf S R v).length := by rw [HMM.out]; exact hlt
              obtain ⟨g, heo, hg1, hg2, hcd⟩ := dots_cells HROW.out (by omega)
              obtain ⟨q0, q1⟩ := hcd j hjm
              subst heo
              have hkeep : ∀ off, wr.cell? ⟨g, off, none⟩ = wm.cell? ⟨g, off, none⟩ := fun off => by
                obtain ⟨_, _, _, _, hT, _⟩ := HC.out
                simp only [World.cell?]
                rw [hT.block g hg2 (fun hi => by have := HLT.out g hi; omega)]
              rw [← hkeep] at q0 q1
              have HADD := hid (HC.out.add ((missOf S R v).getD j (0, 0)).1 ((missOf S R v).getD j (0, 0)).2 bsNew)
              have hcode := more_code (S := S) (R := R) HV7.out H5.out HN.out hjm (.string bsNew)
              have hstep := more_step S hjm (.string bsNew)
              unfold addS addN at HADD
              rw [hcode, if_pos rfl, if_pos rfl, hstep] at HADD
              obtain ⟨⟨D1, D2⟩, HD⟩ : ∃ d, Hid ((missOf S R v).getD j (0, 0) = d) := ⟨_, hid rfl⟩
              rw [HD.out] at q0 q1 HADD
              clear hkeep hcd hcode hstep
              go_wp2_with fail
              refine HADD.out.mono ?_
              rintro e w5 ⟨rfl, hc5⟩
              have HC5 := hid hc5
              clear hc5 HADD q0 q1
              go_wp2
              go_roundw
              case rel => exact ⟨j + 1, by omega, by go_num, HC5.out⟩
              case measure => simp [intOf]; omega
            · have hlt' : ¬ (j : Int) < (M : Int) := by omega
              have hje : (missOf S R v).take j = missOf S R v := List.take_of_length_le (by rw [HMM.out]; omega)
              have hcl := HC.out
              rw [hje] at hcl
              obtain ⟨rs2, R2, D2, hd2, hb2, hf2⟩ := hcl.below HFW.out HBM.out.size
              have HD9 := hid hd2
              have HB9 := hid (HBM.out.trans hb2)
              clear hje hcl hd2 hb2 hf2 HC
              go_wp2_with fail
              clear hlt'
              refine (vector_any HD9.out.pre).mono ?_
              rintro e wv ⟨xo, xc, rfl, hx, hbv⟩
              obtain ⟨xn, HXN⟩ : ∃ n, Hid ((plainOf (lensOf R2)).length = n) := ⟨_, hid rfl⟩
              rw [HXN.out]
              have HXV := hid hx
              have HDV := hid (HD9.out.below hbv)
              have HBV := hid (bt HB9.out hbv)
              have hxf := hx.few
              rw [HXN.out] at hxf
              clear hx hbv
              go_wp2
              go_loopw [11] (fun i wx => ∃ k : Nat, k ≤ vn ∧ i = .int .i64 k ∧ ∃ q, wx = wv.drewN q) (fun i _ => vn - (intOf i).toNat)
              case atStart => exact ⟨0, Nat.zero_le _, rfl, 0, rfl⟩
              case round =>
                obtain ⟨k4, hk4, rfl, q, rfl⟩ := hrel
                by_cases hlt : k4 < vn
                · have hlt' : (k4 : Int) < (vn : Int) := by omega
                  have hkv : k4 < v.length := by rw [HVN.out]; exact hlt
                  obtain ⟨b, off, hvo, hc⟩ := (HV.out.below HBV.out).held.cellAt hkv
                  have hcell := hc k4 hkv
                  clear hc
                  subst hvo
                  obtain ⟨X, HX⟩ : ∃ X, Hid (v.getD k4 0 = X) := ⟨_, hid rfl⟩
                  rw [HX.out] at hcell
                  by_cases hx : 0 < X
                  · obtain ⟨h1, h2⟩ := fill_vec HDA.out HV7.out H5.out (.string bsNew) HD9.out hkv (by rw [HX.out]; exact hx)
                    obtain ⟨b2, off2, hxo, hc2⟩ := HXV.out.held.cellAt h1
                    have hcell2 := hc2 k4 h1
                    clear hc2
                    subst hxo
                    obtain ⟨Y, HY⟩ : ∃ X, Hid ((plainOf (lensOf R2)).getD k4 0 = X) := ⟨_, hid rfl⟩
                    rw [HY.out] at hcell2 h2
                    rw [HX.out] at h2
                    rw [HXN.out] at h1
                    have hx1 : (k4 : Int) < (xn : Int) := by omega
                    have d1 : decide (xn ≤ k4) = false := decide_eq_false (by omega)
                    have d2 : ¬ Y < X := by omega
                    go_wp2
                    go_quiet (fail)
                    go_wp2
                    go_roundw
                    case rel => exact ⟨k4 + 1, by omega, by go_num, q + nq, rfl⟩
                    case measure => simp [intOf]; omega
                  · have dx : decide (0 < X) = false := decide_eq_false hx
                    go_wp2
                    go_quiet (fail)
                    go_wp2
                    go_roundw
                    case rel => exact ⟨k4 + 1, by omega, by go_num, q + nq, rfl⟩
                    case measure => simp [intOf]; omega
                · have hlt' : ¬ (k4 : Int) < (vn : Int) := by omega
                  have HMS := hid (missing_any (HDV.out.below (below_dn (Below.refl _ _) q)).pre vo vc v vn HVN.out ((HV.out.below HBV.out).dn q))
                  rw [fill_none HDA.out HV7.out H5.out] at HMS
                  go_wp2_with fail
                  refine HMS.out.mono ?_
                  rintro e wz ⟨eo2, cap2, rfl, _, hbz⟩
                  have HBZ := hid (bt (below_dn HBV.out q) hbz)
                  clear hbz
                  go_wp2
                  go_ret
                  exact ⟨rfl, HBZ.out⟩
end Go.Proofs.Ytkjpaiaepodhbaa
