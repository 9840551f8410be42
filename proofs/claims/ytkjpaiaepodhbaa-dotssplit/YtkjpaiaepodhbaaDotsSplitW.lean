/-
  pannierlaw09.DotsSplit answers true for any pairs and vector. NOT CLEAN YET: all goes through but the last drawn region where M = 4096 (seven operations that are not wanted).
-/
import Derived.Test.YtkjpaiaepodhbaaDotsS
namespace Go.Proofs.Ytkjpaiaepodhbaa
open Go.RowKit Go.Shelf Go.Maps
attribute [local go_sem] Oper.semAt_some
attribute [local go_sem] undef

set_option maxRecDepth 1000000 in
set_option maxHeartbeats 4000000 in
theorem dotsSplit_walk (lo : Option Addr) (lc : Nat) (l : List PairV) (vo : Option Addr) (vc : Nat) (v : List Int) (w : World) (hl : HeldPr w lo l) (hll : l.length ≤ 140737488355328) (hv : HV w vo vc v) :
    Calls Try.prog 6 #[.slice lo l.length lc, .slice vo v.length vc] w fun e w' => e = .returned (.bool true) ∧ Below w.heap.size w w' := by
  refine (callsIn_wide (n := 5)).1 ?_
  have hvf := hv.few
  obtain ⟨ln, HLN⟩ : ∃ n, Hid (l.length = n) := ⟨_, hid rfl⟩
  obtain ⟨vn, HVN⟩ : ∃ n, Hid (v.length = n) := ⟨_, hid rfl⟩
  rw [HLN.out] at hll ⊢
  rw [HVN.out] at hvf ⊢
  have HL := hid hl
  have HV := hid hv
  clear hl hv
  refine callsIn_of_wp_marks Try.func6 rfl trivial ?_ rfl
  simp only [Try.ntmps6, List.size_toArray, List.length_cons, List.length_nil, Nat.reduceAdd, Nat.reduceSub, Array.replicate_succ, Array.replicate_zero, List.push_toArray, List.append_toArray, List.nil_append, List.cons_append]
  refine wpIn_wide.2 ?_
  obtain ⟨W0, hW0⟩ : ∃ W0, W0 = (w.alloc (.cells #[.slice vo vn vc] 23)).alloc (.cells #[.bool false] 4) := ⟨_, rfl⟩
  have HB0 : Hid (Below w.heap.size w W0) := by rw [hW0]; exact ((Below.refl _ w).alloc (Nat.le_refl _) _).alloc (by simp) _
  have HO0 : Hid (Boxed W0 w.heap.size 23 (.slice vo vn vc)) := by rw [hW0]; exact (Boxed.new w 23 _).alloc _
  have HR0 : Hid (Boxed W0 (w.heap.size + 1) 4 (.bool false)) := by
    have := Boxed.new (w.alloc (.cells #[.slice vo vn vc] 23)) 4 (.bool false)
    rw [World.size_alloc] at this
    rw [hW0]
    exact this
  go_wp2_with fail
  rw [← hW0]
  clear hW0
  refine (new_any W0).mono ?_
  rintro e w1 ⟨rfl, hd, hb⟩
  obtain ⟨p, HP⟩ : ∃ p, Hid (p = W0.heap.size + 1) := ⟨_, hid rfl⟩
  obtain ⟨m, HM⟩ : ∃ p, Hid (p = W0.heap.size) := ⟨_, hid rfl⟩
  rw [← HP.out] at hd ⊢
  rw [← HM.out] at hd
  obtain ⟨pb, HPB⟩ : ∃ q, Hid (q = w1.heap.size) := ⟨_, hid rfl⟩
  have hba : Below w1.heap.size w1 (w1.alloc (.cells #[.pointer (some ⟨p, 0, none⟩)] 26)) := (Below.refl _ _).alloc (Nat.le_refl _) _
  have HD1 := hid (hd.below hba)
  have HB1 := hid (bt (bt HB0.out hb) hba)
  have HO1 : Hid (Boxed (w1.alloc (.cells #[.pointer (some ⟨p, 0, none⟩)] 26)) w.heap.size 23 (.slice vo vn vc)) := Boxed.alloc ((hb.block _ HO0.out.lt).trans HO0.out) _
  have HR1 : Hid (Boxed (w1.alloc (.cells #[.pointer (some ⟨p, 0, none⟩)] 26)) (w.heap.size + 1) 4 (.bool false)) := Boxed.alloc ((hb.block _ HR0.out.lt).trans HR0.out) _
  have HS1 : Hid (Boxed (w1.alloc (.cells #[.pointer (some ⟨p, 0, none⟩)] 26)) pb 26 (.pointer (some ⟨p, 0, none⟩))) := by rw [HPB.out]; exact Boxed.new w1 _ _
  have HF0 : Hid (∀ i, FootD p m (fun _ => .slice none 0 0) i → i = p ∨ i = m) := fun i hi => by
    rcases hi with rfl | rfl | ⟨k, _, hk⟩
    · exact .inl rfl
    · exact .inr rfl
    · simp [Value.ownBlock] at hk
  have HPM : Hid (w.heap.size + 1 < m ∧ m < p ∧ p < pb) := by
    have h1 := HR0.out.lt
    have h2 := HP.out
    have h3 := HM.out
    have h4 := HPB.out
    have h5 := hd.pre.blk.lt
    exact ⟨by omega, by omega, by omega⟩
  have hal : w1.alloc (.cells #[.pointer (some ⟨p, 0, none⟩)] 26) = w1.alloc (.cells #[.pointer (some ⟨p, 0, none⟩)] 26) := rfl
  clear hd hb hba hal HB0 HO0 HR0
  go_wp2_with fail
  rw [← HPB.out]
  generalize w1.alloc (.cells #[.pointer (some ⟨p, 0, none⟩)] 26) = w2 at *
  refine (livesD_any w2).mono ?_
  rintro e w3 ⟨rfl, hb⟩
  have HD3 := hid (HD1.out.below hb)
  have HB3 := hid (bt HB1.out hb)
  have HO3 : Hid (Boxed w3 w.heap.size 23 (.slice vo vn vc)) := (hb.block _ HO1.out.lt).trans HO1.out
  have HR3 : Hid (Boxed w3 (w.heap.size + 1) 4 (.bool false)) := (hb.block _ HR1.out.lt).trans HR1.out
  have HS3 : Hid (Boxed w3 pb 26 (.pointer (some ⟨p, 0, none⟩))) := (hb.block _ HS1.out.lt).trans HS1.out
  clear hb HD1 HB1 HO1 HR1 HS1
  have co := HO3.out.cell
  have cs := HS3.out.cell
  have cr := HR3.out.cell
  have fr := HR3.out.frozen
  have HRT : Hid (Boxed (w3.setCell ⟨w.heap.size + 1, 0, none⟩ (.bool true)) (w.heap.size + 1) 4 (.bool true)) := HR3.out.set (.bool true)
  have HBF : Hid (Below w.heap.size w (w3.setCell ⟨w.heap.size + 1, 0, none⟩ (.bool true))) := HB3.out.setCell (p := ⟨w.heap.size + 1, 0, none⟩) (by simp) _
  have HMY := hid (may_any w3 vo vc v vn HVN.out (HV.out.below HB3.out))
  by_cases hmay : MayV v
  rotate_left 1
  · rw [decide_eq_false hmay] at HMY
    clear hmay
    go_wp2_with fail
    refine HMY.out.mono ?_
    rintro e w9 ⟨rfl, rfl⟩
    go_wp2
    exact ⟨_, results_cell4 rfl _ _ rfl HRT.out.cell, rfl, HBF.out⟩
  rw [decide_eq_true hmay] at HMY
  have HMAY := hid hmay
  clear hmay
  by_cases hl4 : 4000 < ln
  · have hl4' : (4000 : Int) < (ln : Int) := by omega
    go_wp2_with fail
    refine HMY.out.mono ?_
    rintro e w9 ⟨rfl, rfl⟩
    go_wp2
    exact ⟨_, results_cell4 rfl _ _ rfl HRT.out.cell, rfl, HBF.out⟩
  have hl4' : ¬ (4000 : Int) < (ln : Int) := by omega
  have HL4 : Hid (ln ≤ 4000) := (by omega : ln ≤ 4000)
  clear hl4
  go_wp2_with fail
  refine HMY.out.mono ?_
  rintro e w9 ⟨rfl, rfl⟩
  go_wp2
  clear hl4' co cs cr fr HMY HRT HBF
  have HNF : Hid (∀ q, q ≠ p → q ≠ m → ¬ FootD p m (fun _ => .slice none 0 0) q) := fun q h1 h2 h3 => by
    rcases HF0.out q h3 with h | h
    · exact h1 h
    · exact h2 h
  have HFB : Hid (∀ i, FootD p m (fun _ => .slice none 0 0) i → w.heap.size ≤ i) := fun i hi => by
    have := HPM.out
    rcases HF0.out i hi with rfl | rfl <;> omega
  go_loopw [6] (fun i wr => ∃ k : Nat, k ≤ ln ∧ i = .int .i64 k ∧ Hid (∃ S N, N ≤ k ∧ Closed w9 p m (fun _ => .slice none 0 0) S N wr)) (fun i _ => ln - (intOf i).toNat)
  case atStart => exact ⟨0, Nat.zero_le _, rfl, _, 0, Nat.le_refl _, Closed.start HD3.out⟩
  case round =>
    obtain ⟨k2, hk2, rfl, HC⟩ := hrel
    by_cases hlt : k2 < ln
    · have hlt' : (k2 : Int) < (ln : Int) := by omega
      obtain ⟨S, N, hN, hcl⟩ := HC.out
      have hB : Below w.heap.size w wr := by
        obtain ⟨_, _, _, _, hb, _⟩ := hcl.below HFB.out HB3.out.size
        exact HB3.out.trans hb
      have hkl : k2 < l.length := by rw [HLN.out]; exact hlt
      obtain ⟨b, off, hlo, q0, q1, q2⟩ := (HL.out.below hB).at hkl
      subst hlo
      obtain ⟨X, hX⟩ : ∃ X, l[k2] = X := ⟨_, rfl⟩
      rw [hX] at q0 q1 q2
      have hcs : wr.cell? ⟨pb, 0, none⟩ = some (.pointer (some ⟨p, 0, none⟩)) := (hcl.boxed HS3.out (HNF.out pb (by have := HPM.out; omega) (by have := HPM.out; omega))).cell
      have HADD := hid (Closed.add (hcl.after (below_dn (Below.refl _ _) 1)) X.o X.s X.t)
      change Hid (Calls Try.prog 10 _ wr.drew _) at HADD
      have HQ : Hid (∀ w', Closed w9 p m (fun _ => .slice none 0 0) (addS S N X.o X.s (.string X.t)) (addN S N X.o X.s) w' → w'.cell? ⟨b, off + k2 * 3, none⟩ = some (.int .i64 X.o) ∧ w'.cell? ⟨b, off + k2 * 3 + 1, none⟩ = some (.int .i64 X.s) ∧ w'.cell? ⟨b, off + k2 * 3 + 2, none⟩ = some (.string X.t) ∧ w'.cell? ⟨pb, 0, none⟩ = some (.pointer (some ⟨p, 0, none⟩))) := fun w' hc' => by
        have hB' : Below w.heap.size w w' := by
          obtain ⟨_, _, _, _, hb, _⟩ := hc'.below HFB.out HB3.out.size
          exact HB3.out.trans hb
        obtain ⟨b2, off2, e, a0, a1, a2⟩ := (HL.out.below hB').at hkl
        cases e
        rw [hX] at a0 a1 a2
        exact ⟨a0, a1, a2, (hc'.boxed HS3.out (HNF.out pb (by have := HPM.out; omega) (by have := HPM.out; omega))).cell⟩
      have HNK : Hid (addN S N X.o X.s ≤ k2 + 1) := Nat.le_trans (addN_le S N X.o X.s) (by omega)
      clear hcl hX hB hkl
      go_wp2
      go_region_held3 (fun W => W.cell? ⟨b, off + k2 * 3, none⟩ = some (.int .i64 X.o) ∧ W.cell? ⟨b, off + k2 * 3 + 1, none⟩ = some (.int .i64 X.s) ∧ W.cell? ⟨b, off + k2 * 3 + 2, none⟩ = some (.string X.t) ∧ W.cell? ⟨pb, 0, none⟩ = some (.pointer (some ⟨p, 0, none⟩))) (go_keep) ((go_at_call 10; refine HADD.out.mono ?_; rintro e w5 ⟨rfl, hc5⟩; have HC5 := hid hc5; obtain ⟨a0, a1, a2, a3⟩ := HQ.out w5 hc5; clear hc5))
      go_wp2
      go_roundw
      case rel => exact ⟨k2 + 1, by omega, by go_num, _, _, HNK.out, HC5.out⟩
      case measure => simp [intOf]; omega
    · have hlt' : ¬ (k2 : Int) < (ln : Int) := by omega
      obtain ⟨S, N, hN, hcl⟩ := HC.out
      have HO4 : Hid (Boxed wr w.heap.size 23 (.slice vo vn vc)) := hcl.boxed HO3.out (HNF.out _ (by have := HPM.out; omega) (by have := HPM.out; omega))
      have HR4 : Hid (Boxed wr (w.heap.size + 1) 4 (.bool false)) := hcl.boxed HR3.out (HNF.out _ (by have := HPM.out; omega) (by have := HPM.out; omega))
      have HS4 : Hid (Boxed wr pb 26 (.pointer (some ⟨p, 0, none⟩))) := hcl.boxed HS3.out (HNF.out _ (by have := HPM.out; omega) (by have := HPM.out; omega))
      obtain ⟨rs, R, D, hd, hb, hf⟩ := hcl.below HFB.out HB3.out.size
      have HD4 := hid hd
      have HB4 := hid (HB3.out.trans hb)
      have HN : Hid (N ≤ 4000) := (by have := HL4.out; omega : N ≤ 4000)
      clear hd hb hf hcl hN HC HD3 HB3 HO3 HR3 HS3 HF0 HFB HNF
      obtain ⟨ib, HIB⟩ : ∃ q, Hid (q = wr.heap.size) := ⟨_, hid rfl⟩
      have hba : Below wr.heap.size wr (wr.alloc (.cells #[.int .i64 0] 3)) := (Below.refl _ _).alloc (Nat.le_refl _) _
      have HB5 := hid hba
      have HI5 : Hid (Boxed (wr.alloc (.cells #[.int .i64 0] 3)) ib 3 (.int .i64 0)) := by rw [HIB.out]; exact Boxed.new wr _ _
      have co : (wr.alloc (.cells #[.int .i64 0] 3)).cell? ⟨w.heap.size, 0, none⟩ = some (.slice vo vn vc) := (HO4.out.alloc _).cell
      have cs : (wr.alloc (.cells #[.int .i64 0] 3)).cell? ⟨pb, 0, none⟩ = some (.pointer (some ⟨p, 0, none⟩)) := (HS4.out.alloc _).cell
      clear hba
      go_wp2_with fail
      clear hlt' co cs
      rw [← HIB.out]
      generalize wr.alloc (.cells #[.int .i64 0] 3) = w5 at *
      refine (upto_any w5 (some ⟨p, 0, none⟩) vo vc v vn HVN.out (HV.out.below (bt HB4.out HB5.out))).mono ?_
      rintro e w6 ⟨qa, coa, cca, hqa, rfl, _, _, _, _, _, hb6⟩
      have HB6 := hid (bt HB5.out hb6)
      have HI6 : Hid (Boxed w6 ib 3 (.int .i64 0)) := (hb6.block _ HI5.out.lt).trans HI5.out
      have hql := fun W => itD_eql qa (qa + 1) W
      have co : w6.cell? ⟨w.heap.size, 0, none⟩ = some (.slice vo vn vc) := (Boxed.under HB6.out HO4.out).cell
      have cs : w6.cell? ⟨pb, 0, none⟩ = some (.pointer (some ⟨p, 0, none⟩)) := (Boxed.under HB6.out HS4.out).cell
      clear hb6 hqa HI5 HB5
      go_wp2_with fail
      clear hql co cs
      refine (upto_any w6 (some ⟨p, 0, none⟩) vo vc v vn HVN.out (HV.out.below (bt HB4.out HB6.out))).mono ?_
      rintro e Rw ⟨qb, cob, ccb, hqb, rfl, hx1, hx2, hx3, hx4, hx5, hb7⟩
      have HB7 := hid (bt HB6.out hb7)
      have HI7 : Hid (Boxed Rw ib 3 (.int .i64 0)) := (hb7.block _ HI6.out.lt).trans HI6.out
      have HP7 := hid (HD4.out.pre.below HB7.out)
      have HWT : Hid (Want Rw (.func (.func 49) #[] #[.pointer (some ⟨w6.heap.size, 0, none⟩)]) (fun o s => decide (HasV v o s))) := .inr ⟨w6.heap.size, cob, ccb, v, rfl, hx3, hx4, rfl⟩
      have hib : ib < Rw.heap.size := HI7.out.lt
      have HSQ := hid (those_seq 4 (by omega) qb (qb + 1) ib Rw hib HP7.out HWT.out hx1 hx2)
      have HST : Hid (Stg w vo vc v vn pb p m rs R D S N wr) := ⟨HB4.out, HO4.out, HR4.out, HS4.out, HD4.out.pre, HV.out.below HB4.out⟩
      have HIL : Hid (wr.heap.size ≤ ib) := by rw [HIB.out]; exact Nat.le_refl _
      clear hx1 hx2 hx3 hx4 hx5 hb7 hqb HI6 HB6
      go_wp2
      have hseq := HSQ.out
      refine (wpIn_wide (n := 5)).1 ?_
      apply wpIn_rangeFunc_boxN (encs := fun x : It => #[dotV x.1, .string x.2]) (Kp := Kx ib) rfl (by omega) (gf := 65) (lb := #[.pointer (some ⟨qb, 0, none⟩), .pointer (some ⟨qb + 1, 0, none⟩)]) rfl trivial (enters_of Try.func65 (by kernel_rfl) rfl)
        hseq (fun a b => Kx.trans a b) (fun W l o o' _ ho hc _ => Kx.put W l o o' ho hc) (Below.refl _ _) (fun _ => rfl) (Cnt Rw ib List.length) (BadI S v) (cnt_own Rw ib (by omega) _)
        ⟨HI7.out, Below.refl _ _, Nat.le_refl _⟩ (Bx := fun x => [.int .i64 x.1.1, .int .i64 x.1.2]) (t := 25) (B := Rw.heap.size)
      case hno => exact fun pre ⟨its, h1, h2⟩ => its_good h1 h2
      case hassign =>
        intro l pre x W K hIp hK
        dsimp only [dotV]
        have hsW : Rw.heap.size ≤ W.heap.size := hIp.2.2
        gi_wp2
        obtain ⟨g, hg⟩ : ∃ g, g = W.heap.size := ⟨_, rfl⟩
        have hbk : Blk (W.alloc (.cells #[.int .i64 x.1.1, .int .i64 x.1.2] 25)) g 25 [.int .i64 x.1.1, .int .i64 x.1.2] := by rw [hg]; exact Blk.new W 25 [.int .i64 x.1.1, .int .i64 x.1.2]
        have hgl : Rw.heap.size ≤ g := by rw [hg]; exact hsW
        rw [← hg]
        exact hK g (W.alloc (.cells #[.int .i64 x.1.1, .int .i64 x.1.2] 25)) ((KeepsOthers.alloc W _).from _) (Kx.alloc _ _ _) ((cnt_own Rw ib (by omega) _).alloc _ hIp) hbk hgl
      case hbody =>
        rintro l pre ⟨⟨x1, x2⟩, xt⟩ g W hIp hbk hgl hlt
        have HIP := hid hIp
        obtain ⟨_, hbl, hsW⟩ := hIp
        have HZ := hid (show pb < ib ∧ w.heap.size + 1 < ib ∧ ib < Rw.heap.size from ⟨by have := HS4.out.lt; have := HIL.out; omega, by have := HR4.out.lt; have := HIL.out; omega, hib⟩)
        have HSW : Hid (Boxed W pb 26 (.pointer (some ⟨p, 0, none⟩))) := Boxed.under' hbl (Boxed.under HB7.out HS4.out) HZ.out.1
        have HOW : Hid (Boxed W w.heap.size 23 (.slice vo vn vc)) := Boxed.under' hbl (Boxed.under HB7.out HO4.out) (by have := HZ.out; omega)
        have HRW : Hid (Boxed W (w.heap.size + 1) 4 (.bool false)) := Boxed.under' hbl (Boxed.under HB7.out HR4.out) HZ.out.2.1
        have HWP : Hid (DotsPre W p rs R m D S N) := HP7.out.turned (F := fun i => ib ≤ i) ⟨hbl.os, hbl.tape, hbl.output, hbl.size, fun k _ hn => hbl.block k (by omega)⟩ (fun i hi => by have := HD4.out.pre.foot_lt i hi; have := HIL.out; omega)
        have HVW := hid (HV.out.below ((bt HB4.out HB7.out).trans (hbl.mono (by have := HZ.out; omega))))
        have HBK := hid hbk
        have HGET := hid (get_any HWP.out x1 x2)
        have HHAS := hid (fun V (hV : Below W.heap.size W V) => has_any V vo vc v vn HVN.out (HVW.out.below hV) x1 x2)
        have cS := HSW.out.cell
        have c0 := hbk.cell (i := 0) rfl
        have c1 := hbk.cell (i := 1) rfl
        have hN4 := HN.out
        obtain ⟨pl, HPL⟩ : ∃ n, Hid (pre.length = n) := ⟨_, hid rfl⟩
        have hpl : pl < 4000 := by have := HPL.out; omega
        have HLT := hid hlt
        clear hbl hbk hlt hseq
        obtain ⟨y, i9, hy⟩ : ∃ y i, (S x1 x2).getD zeroE = y ∧ (S x1 x2).isSome = i := ⟨_, _, rfl, rfl⟩
        obtain ⟨hb9, HH⟩ : ∃ b, Hid (decide (HasV v x1 x2) = b) := ⟨_, hid rfl⟩
        rw [hy.1, hy.2] at HGET
        have HYY := hid hy
        clear hy
        gi_wp2_with fail
        refine ⟨trivial, (CallsIn.inRound l (callsIn_wide.2 HGET.out)).mono ?_⟩
        rintro e V1 ⟨rfl, hv1⟩
        have HHAS1 := hid (HHAS.out V1 hv1)
        rw [HH.out] at HHAS1
        have cO := (Boxed.under hv1 HOW.out).cell
        have hbk1 := HBK.out.below hv1 HBK.out.lt
        have d0 := hbk1.cell (i := 0) rfl
        have d1 := hbk1.cell (i := 1) rfl
        have HV1 := hid hv1
        clear hv1 hbk1 cS c0 c1 HGET HHAS
        gi_wp2_with fail
        refine ⟨trivial, (CallsIn.inRound l (callsIn_wide.2 HHAS1.out)).mono ?_⟩
        rintro e V2 ⟨rfl, hv2⟩
        have HV2 := hid (bt HV1.out hv2)
        have HK10 := hid (keepsB HV2.out)
        have HC2 := hid (HIP.out.below HV2.out (by omega))
        have hci : V2.cell? ⟨ib, 0, none⟩ = some (.int .i64 (pl : Int)) := by rw [← HPL.out]; exact HC2.out.1.cell
        have hfi := HC2.out.1.frozen
        have cR := (Boxed.under HV2.out HRW.out).cell
        have fR := (Boxed.under HV2.out HRW.out).frozen
        clear hv2 HHAS1 cO d0 d1
        cases hb9 with
        | false =>
          have HBAD : Hid (BadI S v (pre ++ [((x1, x2), xt)])) := BadI.last (fun h => by have := HH.out; simp [h.2] at this)
          gi_wp2
          repeat (refine ⟨trivial, ?_⟩; gi_wp2)
          exact ⟨(HK10.out.trans (KeepsOthers.setCell _ _ _)).from _, HBAD.out⟩
        | true =>
          cases i9 with
          | false =>
            have HBAD : Hid (BadI S v (pre ++ [((x1, x2), xt)])) := BadI.last (fun h => by have := HYY.out.2; simp [h.1] at this)
            gi_wp2
            exact ⟨(HK10.out.trans (KeepsOthers.setCell _ _ _)).from _, HBAD.out⟩
          | true =>
            obtain ⟨u, hu⟩ := Option.isSome_iff_exists.1 HYY.out.2
            obtain ⟨t, rfl⟩ := HWP.out.ones x1 x2 u hu
            have hyt : y = .string t := by
              have := HYY.out.1
              rw [hu] at this
              exact this.symm
            subst hyt
            have HUU := hid hu
            clear hu
            by_cases hxt : xt = t
            · have HSET : Hid (Cnt Rw ib List.length (pre ++ [((x1, x2), xt)]) (V2.setCell ⟨ib, 0, none⟩ (.int .i64 ((pl : Int) + 1)))) := HC2.out.set _ (by simp [HPL.out])
              have HKX : Hid (Kx ib W (V2.setCell ⟨ib, 0, none⟩ (.int .i64 ((pl : Int) + 1)))) := (Kx.below HV2.out).trans (Kx.set _ _ _)
              subst hxt
              gi_wp2
              exact ⟨(HK10.out.trans (KeepsOthers.setCell _ _ _)).from _, HKX.out, HSET.out⟩
            · have HBAD : Hid (BadI S v (pre ++ [((x1, x2), xt)])) := BadI.last (fun h => by have := HUU.out.symm.trans h.1; simp at this; exact hxt this.symm)
              have hbq : (xt.toList == t.toList) = false := by
                rw [ByteArray.toList_eq, ByteArray.toList_eq, beq_eq_false_iff_ne]
                intro e
                exact hxt (ByteArray.ext (Array.ext' e))
              gi_wp2
              exact ⟨(HK10.out.trans (KeepsOthers.setCell _ _ _)).from _, HBAD.out⟩
      case hafter =>
        intro D9 xs W hD hsx hIx hDef
        obtain ⟨hits, _⟩ := hsx
        obtain ⟨hbx, hbl, hsW⟩ := hIx
        have HU := hid hits
        have HDef := hid hDef
        have HI8 := hid hbx
        obtain ⟨un, HUN⟩ : ∃ n, Hid (xs.length = n) := ⟨_, hid rfl⟩
        have HBW : Hid (Below wr.heap.size wr W) := HB7.out.trans (hbl.mono HIL.out)
        have hDl : D9 < W.heap.size := (Array.getElem?_eq_some_iff.1 hDef).1
        have HDG : Hid (ib < D9 ∧ w.heap.size + 1 < ib) := ⟨by omega, by have := HR4.out.lt; have := HIL.out; omega⟩
        have HS8 := hid (HST.out.under HBW.out)
        clear hits hDef hbx hbl hsW HP7 HWT HI7 HB7 hseq HSQ
        obtain ⟨ob, HOB⟩ : ∃ q, Hid (q = W.heap.size) := ⟨_, hid rfl⟩
        have HB9 : Hid (Below W.heap.size W (W.alloc (.cells #[.int .i64 0] 3))) := (Below.refl _ _).alloc (Nat.le_refl _) _
        have HI9 : Hid (Boxed (W.alloc (.cells #[.int .i64 0] 3)) ob 3 (.int .i64 0)) := by rw [HOB.out]; exact Boxed.new W _ _
        have cs : (W.alloc (.cells #[.int .i64 0] 3)).cell? ⟨pb, 0, none⟩ = some (.pointer (some ⟨p, 0, none⟩)) := (HS8.out.bS.alloc _).cell
        go_wp2_with fail
        clear cs
        rw [← HOB.out]
        generalize W.alloc (.cells #[.int .i64 0] 3) = X1 at *
        refine (all_any X1 (some ⟨p, 0, none⟩)).mono ?_
        rintro e X2 ⟨rfl, _, _, hb2⟩
        have HX2 := hid (bt HB9.out hb2)
        have HI10 := hid (Boxed.under hb2 HI9.out)
        have hql := fun W => itD_eql X1.heap.size (X1.heap.size + 1) W
        have cs := (HS8.out.under HX2.out).bS.cell
        clear hb2 HI9
        go_wp2_with fail
        clear hql cs
        refine (all_any X2 (some ⟨p, 0, none⟩)).mono ?_
        rintro e Ry ⟨rfl, hx1, hx2, hb3⟩
        have HX3 := hid (bt HX2.out hb3)
        have HI11 := hid (Boxed.under hb3 HI10.out)
        have HS11 := hid (HS8.out.under HX3.out)
        have hob : ob < Ry.heap.size := HI11.out.lt
        have HSQ := hid (those_seq 4 (by omega) X2.heap.size (X2.heap.size + 1) ob Ry hob HS11.out.pre (.inl ⟨rfl, rfl⟩) hx1 hx2)
        have HOL : Hid (W.heap.size ≤ ob) := by rw [HOB.out]; exact Nat.le_refl _
        clear hx1 hx2 hb3 HI10
        go_wp2
        have hseq := HSQ.out
        refine (wpIn_wide (n := 5)).1 ?_
        apply wpIn_rangeFunc_boxN (encs := fun x : It => #[dotV x.1, .string x.2]) (Kp := Kx ob) rfl (by omega) (gf := 65) (lb := #[.pointer (some ⟨X2.heap.size, 0, none⟩), .pointer (some ⟨X2.heap.size + 1, 0, none⟩)]) rfl trivial (enters_of Try.func65 (by kernel_rfl) rfl)
          hseq (fun a b => Kx.trans a b) (fun W l o o' _ ho hc _ => Kx.put W l o o' ho hc) (Below.refl _ _) (fun _ => rfl) (Cnt Ry ob (fun pre => (pre.filter (notF (fun o s => decide (HasV v o s)))).length)) (fun _ => False) (cnt_own Ry ob (by omega) _)
          ⟨HI11.out, Below.refl _ _, Nat.le_refl _⟩ (Bx := fun x => [.int .i64 x.1.1, .int .i64 x.1.2]) (t := 25) (B := Ry.heap.size)
        case hno => exact fun _ _ h => h
        case hassign =>
          intro l pre x W K hIp hK
          dsimp only [dotV]
          have hsW : Ry.heap.size ≤ W.heap.size := hIp.2.2
          gi_wp2
          obtain ⟨g, hg⟩ : ∃ g, g = W.heap.size := ⟨_, rfl⟩
          have hbk : Blk (W.alloc (.cells #[.int .i64 x.1.1, .int .i64 x.1.2] 25)) g 25 [.int .i64 x.1.1, .int .i64 x.1.2] := by rw [hg]; exact Blk.new W 25 [.int .i64 x.1.1, .int .i64 x.1.2]
          have hgl : Ry.heap.size ≤ g := by rw [hg]; exact hsW
          rw [← hg]
          exact hK g (W.alloc (.cells #[.int .i64 x.1.1, .int .i64 x.1.2] 25)) ((KeepsOthers.alloc W _).from _) (Kx.alloc _ _ _) ((cnt_own Ry ob (by omega) _).alloc _ hIp) hbk hgl
        case hbody =>
          rintro l pre ⟨⟨x1, x2⟩, xt⟩ g Y hIp hbk hgl hlt
          have HIP := hid hIp
          have HSY := hid (HS8.out.under (HX3.out.trans (hIp.2.1.mono HOL.out)))
          have HHAS := hid (has_any Y vo vc v vn HVN.out HSY.out.hv x1 x2)
          have cO := HSY.out.bO.cell
          have c0 := hbk.cell (i := 0) rfl
          have c1 := hbk.cell (i := 1) rfl
          obtain ⟨pl, HPL⟩ : ∃ n, Hid ((pre.filter (notF (fun o s => decide (HasV v o s)))).length = n) := ⟨_, hid rfl⟩
          have hpl : pl < 4000 := by
            have h1 := List.length_filter_le (notF (fun o s => decide (HasV v o s))) pre
            have h2 := HN.out
            have h3 := HPL.out
            omega
          obtain ⟨hb9, HH⟩ : ∃ b, Hid (decide (HasV v x1 x2) = b) := ⟨_, hid rfl⟩
          rw [HH.out] at HHAS
          clear hIp hbk hlt hseq
          gi_wp2_with fail
          refine ⟨trivial, (CallsIn.inRound l (callsIn_wide.2 HHAS.out)).mono ?_⟩
          rintro e V2 ⟨rfl, hv2⟩
          have HV2 := hid hv2
          have HK10 := hid (keepsB hv2)
          have HC2 := hid (HIP.out.below hv2 (by omega))
          have hci : V2.cell? ⟨ob, 0, none⟩ = some (.int .i64 (pl : Int)) := by rw [← HPL.out]; exact HC2.out.1.cell
          have hfi := HC2.out.1.frozen
          clear hv2 HHAS cO c0 c1
          cases hb9 with
          | true =>
            have HEQ : Hid ((pre ++ [((x1, x2), xt)]).filter (notF (fun o s => decide (HasV v o s))) = pre.filter (notF (fun o s => decide (HasV v o s)))) := by
              show _ = _
              rw [List.filter_append]
              simp [notF, HH.out]
            have HC3 : Hid (Cnt Ry ob (fun pre => (pre.filter (notF (fun o s => decide (HasV v o s)))).length) (pre ++ [((x1, x2), xt)]) V2) := by
              refine ⟨?_, HC2.out.2⟩
              show Boxed V2 ob _ (.int .i64 (((pre ++ [((x1, x2), xt)]).filter (notF (fun o s => decide (HasV v o s)))).length : Int))
              rw [HEQ.out]
              exact HC2.out.1
            have HKX : Hid (Kx ob Y V2) := Kx.below HV2.out
            clear HEQ
            gi_wp2
            exact ⟨HK10.out.from _, HKX.out, HC3.out⟩
          | false =>
            have HEQ : Hid ((pre ++ [((x1, x2), xt)]).filter (notF (fun o s => decide (HasV v o s))) = pre.filter (notF (fun o s => decide (HasV v o s))) ++ [((x1, x2), xt)]) := by
              show _ = _
              rw [List.filter_append]
              simp [notF, HH.out]
            have HSET : Hid (Cnt Ry ob (fun pre => (pre.filter (notF (fun o s => decide (HasV v o s)))).length) (pre ++ [((x1, x2), xt)]) (V2.setCell ⟨ob, 0, none⟩ (.int .i64 ((pl : Int) + 1)))) := HC2.out.set _ (by rw [HEQ.out]; simp [HPL.out])
            have HKX : Hid (Kx ob Y (V2.setCell ⟨ob, 0, none⟩ (.int .i64 ((pl : Int) + 1)))) := (Kx.below HV2.out).trans (Kx.set _ _ _)
            clear HEQ
            gi_wp2
            exact ⟨(HK10.out.trans (KeepsOthers.setCell _ _ _)).from _, HKX.out, HSET.out⟩
        case hafter =>
          intro D10 ys Y hE hsy hIy hDef2
          obtain ⟨hits2, hlen⟩ := hsy
          obtain ⟨hbx2, hbl2, hsY⟩ := hIy
          have HBY : Hid (Below W.heap.size W Y) := HX3.out.trans (hbl2.mono HOL.out)
          have HSY := hid (HS8.out.under HBY.out)
          have HIY : Hid (Boxed Y ib 3 (.int .i64 (un : Int))) := Boxed.under HBY.out (by rw [← HUN.out]; exact HI8.out)
          obtain ⟨on, HON⟩ : ∃ n, Hid ((ys.filter (notF (fun o s => decide (HasV v o s)))).length = n) := ⟨_, hid rfl⟩
          have HOY : Hid (Boxed Y ob 3 (.int .i64 (on : Int))) := by rw [← HON.out]; exact hbx2
          have HSUM : Hid (un + on = N) := by
            have h1 := split_len HU.out hits2
            have h2 := hlen (fun _ _ => by first | trivial | rfl)
            have h3 := HUN.out
            have h4 := HON.out
            show _ = _
            omega
          have HDY : Hid (Y.heap[D9]? = some (.deferred (some []))) := (HBY.out.block _ hDl).trans HDef.out
          have HDE := hid hDef2
          have HDEL : Hid (D10 < Y.heap.size ∧ ob < D10 ∧ D9 < ob) := ⟨(Array.getElem?_eq_some_iff.1 hDef2).1, by omega, by have := HOL.out; omega⟩
          have cs := HSY.out.bS.cell
          have co := HSY.out.bO.cell
          clear hits2 hlen hbx2 hbl2 hsY hDef2 hseq HSQ HX3 HS11 HI11 hob hE hD hib hDl
          go_wp2_with fail
          clear cs co
          refine (missing_any HSY.out.pre vo vc v vn HVN.out HSY.out.hv).mono ?_
          rintro e Z ⟨eo, cap, rfl, hrow, hbz⟩
          obtain ⟨M, HMM⟩ : ∃ M, Hid ((missOf S R v).length = M) := ⟨_, hid rfl⟩
          have HROW := hid hrow
          have HBZ := hid hbz
          rw [HMM.out]
          have hM4 : M ≤ 4096 := by
            rw [← HMM.out]
            unfold missOf
            rw [List.length_take]
            omega
          clear hrow hbz
          go_wp2
          go_loopw [15, 16, 17] (fun i _ _ wx => ∃ k : Nat, k ≤ M ∧ i = .int .i64 k ∧ Hid (Below Y.heap.size Y wx ∧ Below Z.heap.size Z wx)) (fun i _ _ _ => M - (intOf i).toNat)
          case atStart => exact ⟨0, Nat.zero_le _, rfl, HBZ.out, Below.refl _ _⟩
          case round =>
            obtain ⟨k, hk, rfl, HBX⟩ := hrel
            have HSX := hid (HSY.out.under HBX.out.1)
            by_cases hlt : k < M
            · have hlt' : (k : Int) < (M : Int) := by omega
              have hkm : k < (missOf S R v).length := by rw [HMM.out]; exact hlt
              obtain ⟨g, heo, hg1, hg2, hcd⟩ := dots_cells HROW.out (by omega)
              obtain ⟨q0, q1⟩ := hcd k hkm
              subst heo
              have hkeep : ∀ off, wr.cell? ⟨g, off, none⟩ = Z.cell? ⟨g, off, none⟩ := fun off => HBX.out.2.cell (p := ⟨g, off, none⟩) hg2
              have hmm := miss_mem (getD_memD hkm)
              obtain ⟨⟨D1, D2⟩, HD⟩ : ∃ d, Hid ((missOf S R v).getD k (0, 0) = d) := ⟨_, hid rfl⟩
              rw [HD.out] at q0 q1 hmm
              have HSN : Hid (S D1 D2 = none) := hmm.1
              have HHV : Hid (HasV v D1 D2) := mem_has hmm.2
              rw [← hkeep] at q0 q1
              have cs := HSX.out.bS.cell
              have HGET := hid (get_any (HSX.out.pre.below (below_dn (Below.refl _ _) 1)) D1 D2)
              rw [HSN.out] at HGET
              change Hid (Calls Try.prog 13 _ wr.drew _) at HGET
              have HG2 := hid hg2
              have HQ : Hid (∀ w', Below wr.drew.heap.size wr.drew w' → w'.cell? ⟨g, k * 2, none⟩ = some (.int .i64 D1) ∧ w'.cell? ⟨g, k * 2 + 1, none⟩ = some (.int .i64 D2) ∧ w'.cell? ⟨pb, 0, none⟩ = some (.pointer (some ⟨p, 0, none⟩))) := fun w' hb => by
                have hgw : g < wr.heap.size := Nat.lt_of_lt_of_le hg2 HBX.out.2.size
                exact ⟨(hb.cell (p := ⟨g, k * 2, none⟩) hgw).trans q0, (hb.cell (p := ⟨g, k * 2 + 1, none⟩) hgw).trans q1, (Boxed.under hb (show Boxed wr.drew pb _ _ from HSX.out.bS)).cell⟩
              clear hkeep hmm hcd hkm hg1 hg2
              go_wp2
              go_region_held3 (fun W => W.cell? ⟨g, k * 2, none⟩ = some (.int .i64 D1) ∧ W.cell? ⟨g, k * 2 + 1, none⟩ = some (.int .i64 D2) ∧ W.cell? ⟨pb, 0, none⟩ = some (.pointer (some ⟨p, 0, none⟩))) (go_keep) ((go_at_call 13; refine HGET.out.mono ?_; rintro e w5 ⟨rfl, hc5⟩; have HC5 := hid hc5; obtain ⟨a0, a1, a2⟩ := HQ.out w5 hc5; clear hc5))
              have HB5 : Hid (Below wr.heap.size wr w5) := ⟨HC5.out.os, HC5.out.tape, HC5.out.output, HC5.out.size, HC5.out.block⟩
              have HS5 := hid (HSX.out.under HB5.out)
              have HHAS := hid (has_any w5.drew vo vc v vn HVN.out (HS5.out.hv.below (below_dn (Below.refl _ _) 1)) D1 D2)
              rw [decide_eq_true HHV.out] at HHAS
              have hco := HS5.out.bO.cell
              have HQ2 : Hid (∀ w', Below w5.drew.heap.size w5.drew w' → w'.cell? ⟨g, k * 2, none⟩ = some (.int .i64 D1) ∧ w'.cell? ⟨g, k * 2 + 1, none⟩ = some (.int .i64 D2) ∧ w'.cell? ⟨w.heap.size, 0, none⟩ = some (.slice vo vn vc)) := fun w' hb => by
                have hgw : g < w5.heap.size := Nat.lt_of_lt_of_le HG2.out (Nat.le_trans HBX.out.2.size HB5.out.size)
                exact ⟨(hb.cell (p := ⟨g, k * 2, none⟩) hgw).trans a0, (hb.cell (p := ⟨g, k * 2 + 1, none⟩) hgw).trans a1, (Boxed.under hb (show Boxed w5.drew w.heap.size _ _ from HS5.out.bO)).cell⟩
              clear HGET HQ
              go_wp2
              go_region_held3 (fun W => W.cell? ⟨g, k * 2, none⟩ = some (.int .i64 D1) ∧ W.cell? ⟨g, k * 2 + 1, none⟩ = some (.int .i64 D2) ∧ W.cell? ⟨w.heap.size, 0, none⟩ = some (.slice vo vn vc)) (go_keep) ((go_at_call 23; refine HHAS.out.mono ?_; rintro e w6 ⟨rfl, hc6⟩; have HC6 := hid hc6; obtain ⟨b0, b1, b2⟩ := HQ2.out w6 hc6; clear hc6))
              have HB6 : Hid (Below wr.heap.size wr w6) := bt HB5.out ⟨HC6.out.os, HC6.out.tape, HC6.out.output, HC6.out.size, HC6.out.block⟩
              go_wp2
              go_roundw
              case rel => exact ⟨k + 1, by omega, by go_num, bt HBX.out.1 HB6.out, bt HBX.out.2 HB6.out⟩
              case measure => simp [intOf]; omega
            · have hlt' : ¬ (k : Int) < (M : Int) := by omega
              have HMC := hid (miss_cnt HSX.out.pre HMAY.out.1 HU.out)
              obtain ⟨C, HC⟩ : ∃ C, Hid (cntV v = C) := ⟨_, hid rfl⟩
              have HIX := hid (Boxed.under HBX.out.1 HIY.out)
              have HOX := hid (Boxed.under HBX.out.1 HOY.out)
              have ci := HIX.out.cell
              have cou := HOX.out.cell
              have cs := HSX.out.bS.cell
              have co := HSX.out.bO.cell
              have cr := HSX.out.bR.cell
              have fr := HSX.out.bR.frozen
              have hN4 := HN.out
              have hsum := HSUM.out
              have hw1 : IntKind.i64.wrap ((un : Int) + (on : Int)) = (N : Int) := by
                have : (un : Int) + (on : Int) = (N : Int) := by omega
                rw [this]
                exact (IntKind.wrap_i64 _).trans (by omega)
              have hw2 : IntKind.i64.wrap ((M : Int) + (un : Int)) = (M : Int) + (un : Int) := (IntKind.wrap_i64 _).trans (by omega)
              have HLEN := hid (lenD_any (HSX.out.pre.below (below_dn (Below.refl _ _) 1)))
              change Hid (Calls Try.prog 21 _ wr.drew _) at HLEN
              have HCNT := hid (count_any wr.drew vo vc v vn HVN.out (HSX.out.hv.below (below_dn (Below.refl _ _) 1)) HMAY.out)
              rw [HC.out] at HCNT
              have HFIN : Hid (M = 4096 ∨ (M : Int) + (un : Int) = C) := by
                have := HMC.out
                rw [HMM.out, HUN.out, HC.out] at this
                exact this
              clear hsum
              have hz1 : w.heap.size + 1 ≠ ib := by have := HDG.out; omega
              have hz2 : w.heap.size + 1 ≠ ob := by have := HDG.out; have := HDEL.out; omega
              have hz3 : w.heap.size + 1 ≠ pb := by have := HPM.out; omega
              have ki : ∀ u, (wr.setCell ⟨w.heap.size + 1, 0, none⟩ u).drew.cell? ⟨ib, 0, none⟩ = some (.int .i64 (un : Int)) := fun u => Boxed.aside HIX.out hz1.symm u
              have ko : ∀ u, (wr.setCell ⟨w.heap.size + 1, 0, none⟩ u).drew.cell? ⟨ob, 0, none⟩ = some (.int .i64 (on : Int)) := fun u => Boxed.aside HOX.out hz2.symm u
              have ks : ∀ u, (wr.setCell ⟨w.heap.size + 1, 0, none⟩ u).drew.cell? ⟨pb, 0, none⟩ = some (.pointer (some ⟨p, 0, none⟩)) := fun u => Boxed.aside HSX.out.bS hz3.symm u
              have kv : ∀ u, (wr.setCell ⟨w.heap.size + 1, 0, none⟩ u).drew.cell? ⟨w.heap.size, 0, none⟩ = some (.slice vo vn vc) := fun u => Boxed.aside HSX.out.bO (by omega) u
              clear hz1 hz2 hz3
              have HEND := hid (split_end (D9 := D9) (D10 := D10) HSX.out.bel HSX.out.bR ((HBX.out.1.block _ (by have := HDEL.out; omega)).trans HDY.out) ((HBX.out.1.block _ HDEL.out.1).trans HDE.out) (by have := HDEL.out; omega) (by have := HDG.out; omega) (by have := HDG.out; have := HDEL.out; omega))
              by_cases hM : M = 4096
              · have hM' : ((M : Int) == 4096) = true := by simp; omega
                have HM9 := hid hM
                clear hM
                have HEND0 := hid (split_end0 (w := w) (wr := wr.drewN 1) (D9 := D9) (D10 := D10) (below_dn HSX.out.bel 1) HSX.out.bR ((HBX.out.1.block _ (by have := HDEL.out; omega)).trans HDY.out) ((HBX.out.1.block _ HDEL.out.1).trans HDE.out) (by have := HDEL.out; omega) (by have := HDG.out; omega) (by have := HDG.out; have := HDEL.out; omega))
                have ji : ∀ u, ((wr.drewN 1).setCell ⟨w.heap.size + 1, 0, none⟩ u).cell? ⟨ib, 0, none⟩ = some (.int .i64 (un : Int)) := ki
                have jo : ∀ u, ((wr.drewN 1).setCell ⟨w.heap.size + 1, 0, none⟩ u).cell? ⟨ob, 0, none⟩ = some (.int .i64 (on : Int)) := ko
                have js : ∀ u, ((wr.drewN 1).setCell ⟨w.heap.size + 1, 0, none⟩ u).cell? ⟨pb, 0, none⟩ = some (.pointer (some ⟨p, 0, none⟩)) := ks
                have jv : ∀ u, ((wr.drewN 1).setCell ⟨w.heap.size + 1, 0, none⟩ u).cell? ⟨w.heap.size, 0, none⟩ = some (.slice vo vn vc) := kv
                go_wp2
                refine wp_region_noPanic ?_
                refine wp_region_held_drew (S := (fun W => W.cell? ⟨ib, 0, none⟩ = some (.int .i64 (un : Int)) ∧ W.cell? ⟨ob, 0, none⟩ = some (.int .i64 (on : Int)) ∧ W.cell? ⟨pb, 0, none⟩ = some (.pointer (some ⟨p, 0, none⟩)) ∧ W.cell? ⟨w.heap.size, 0, none⟩ = some (.slice vo vn vc))) (by kernel_rfl) ⟨ci, cou, cs, co⟩ (fun hHeld => ?_)
                refine wpAnyH_take (i := 0) (oi := { dst := some 122, op := Op.load 3 (Operand.tmp 7), type := 3, pos := "more.go:48", after := #[], guard := none }) (v := ?v0) rfl (by kernel_rfl) (by kernel_rfl) (by kernel_rfl) (fun _ _ _ h => h) (Or.inl ⟨by rfl, ?hy0⟩) (by assumption) ?rest0
                case hy0 => (intro w0 hSw; (try dsimp only at hSw); go_simp; try with_reducible rfl)
                simp only [Act.put, List.setIfInBounds_toArray, List.set_cons_zero, List.set_cons_succ]
                refine wpAnyH_take (i := 1) (oi := { dst := some 123, op := Op.load 3 (Operand.tmp 12), type := 3, pos := "more.go:48", after := #[], guard := none }) (v := ?v1) rfl (by kernel_rfl) (by kernel_rfl) (by kernel_rfl) (fun _ _ _ h => h) (Or.inl ⟨by rfl, ?hy1⟩) (by assumption) ?rest1
                case hy1 => (intro w0 hSw; (try dsimp only at hSw); go_simp; try with_reducible rfl)
                simp only [Act.put, List.setIfInBounds_toArray, List.set_cons_zero, List.set_cons_succ]
                refine wpAnyH_take (i := 2) (oi := { dst := some 124, op := Op.binOp BinOp.add 3 (Operand.tmp 122) (Operand.tmp 123) 3, type := 3, pos := "more.go:48", after := #[{ on := 0, ground := Ground.data }, { on := 1, ground := Ground.data }], guard := none }) (v := ?v2) rfl (by kernel_rfl) (by kernel_rfl) (by kernel_rfl) (fun _ _ _ h => h) (Or.inl ⟨by rfl, ?hy2⟩) (by assumption) ?rest2
                case hy2 => (intro w0 hSw; (try dsimp only at hSw); go_simp; try with_reducible rfl)
                simp only [Act.put, List.setIfInBounds_toArray, List.set_cons_zero, List.set_cons_succ]
                refine wpAnyH_take (i := 3) (oi := { dst := some 125, op := Op.load 26 (Operand.tmp 5), type := 26, pos := "more.go:48", after := #[], guard := none }) (v := ?v3) rfl (by kernel_rfl) (by kernel_rfl) (by kernel_rfl) (fun _ _ _ h => h) (Or.inl ⟨by rfl, ?hy3⟩) (by assumption) ?rest3
                case hy3 => (intro w0 hSw; (try dsimp only at hSw); go_simp; try with_reducible rfl)
                simp only [Act.put, List.setIfInBounds_toArray, List.set_cons_zero, List.set_cons_succ]
                refine wpAnyH_ready (rs := [4]) (by kernel_rfl) (by simp) ?_
                refine AllReadyH.cons (o := { dst := some 126, op := Op.call { callee := Callee.value (Operand.func 21), args := #[Operand.tmp 125], argTypes := #[26] }, type := 3, pos := "more.go:48", after := #[{ on := 3, ground := Ground.data }], guard := none }) rfl (fun K hK => ?_) AllReadyH.nil
                go_simp
                refine HLEN.out.mono ?_
                rintro e w6 ⟨rfl, rfl⟩
                go_simp
                refine hK.out _ _ ⟨ci, cou, cs, co⟩ (fun hHeld => ?_)
                clear hK K
                try simp only [Act.put, List.setIfInBounds_toArray, List.set_cons_zero, List.set_cons_succ]
                refine wpAnyH_take (i := 5) (oi := { dst := some 127, op := Op.binOp BinOp.eql 3 (Operand.tmp 124) (Operand.tmp 126) 3, type := 4, pos := "more.go:48", after := #[{ on := 2, ground := Ground.data }, { on := 4, ground := Ground.data }], guard := none }) (v := ?v5) rfl (by kernel_rfl) (by kernel_rfl) (by kernel_rfl) (fun _ _ _ h => h) (Or.inl ⟨by rfl, ?hy5⟩) (by assumption) ?rest5
                case hy5 => (intro w0 hSw; (try dsimp only at hSw); go_simp; try with_reducible rfl)
                simp only [Act.put, List.setIfInBounds_toArray, List.set_cons_zero, List.set_cons_succ]
                refine wpAnyH_take (i := 6) (oi := { dst := some 128, op := Op.move (Operand.tmp 127), type := 4, pos := "more.go:48", after := #[{ on := 5, ground := Ground.data }, { on := 4, ground := Ground.chain }], guard := none }) (v := ?v6) rfl (by kernel_rfl) (by kernel_rfl) (by kernel_rfl) (fun _ _ _ h => h) (Or.inl ⟨by rfl, ?hy6⟩) (by assumption) ?rest6
                case hy6 => (intro w0 hSw; (try dsimp only at hSw); go_simp; try with_reducible rfl)
                simp only [Act.put, List.setIfInBounds_toArray, List.set_cons_zero, List.set_cons_succ]
                refine wpAnyH_take (i := 7) (oi := { dst := some 129, op := Op.move (Operand.tmp 14), type := 40, pos := "more.go:48", after := #[{ on := 6, ground := Ground.guard }], guard := some (6, true) }) (v := ?v7) rfl (by kernel_rfl) (by kernel_rfl) (by kernel_rfl) (fun _ _ _ h => h) (Or.inl ⟨by rfl, ?hy7⟩) (by assumption) ?rest7
                case hy7 => (intro w0 hSw; (try dsimp only at hSw); go_simp; try with_reducible rfl)
                simp only [Act.put, List.setIfInBounds_toArray, List.set_cons_zero, List.set_cons_succ]
                refine wpAnyH_take (i := 8) (oi := { dst := some 130, op := Op.call { callee := Callee.builtin Builtin.len, args := #[Operand.tmp 129], argTypes := #[40] }, type := 3, pos := "more.go:48", after := #[{ on := 7, ground := Ground.data }, { on := 6, ground := Ground.guard }], guard := some (6, true) }) (v := ?v8) rfl (by kernel_rfl) (by kernel_rfl) (by kernel_rfl) (fun _ _ _ h => h) (Or.inl ⟨by rfl, ?hy8⟩) (by assumption) ?rest8
                case hy8 => (intro w0 hSw; (try dsimp only at hSw); go_simp; try with_reducible rfl)
                simp only [Act.put, List.setIfInBounds_toArray, List.set_cons_zero, List.set_cons_succ]
                refine wpAnyH_take (i := 9) (oi := { dst := some 131, op := Op.binOp BinOp.eql 3 (Operand.tmp 130) (Operand.const (Value.int IntKind.i64 4096)) 3, type := 4, pos := "more.go:48", after := #[{ on := 8, ground := Ground.data }, { on := 6, ground := Ground.guard }], guard := some (6, true) }) (v := ?v9) rfl (by kernel_rfl) (by kernel_rfl) (by kernel_rfl) (fun _ _ _ h => h) (Or.inl ⟨by rfl, ?hy9⟩) (by assumption) ?rest9
                case hy9 => (intro w0 hSw; (try dsimp only at hSw); go_simp; try with_reducible rfl)
                simp only [Act.put, List.setIfInBounds_toArray, List.set_cons_zero, List.set_cons_succ]
                refine wpAnyH_take (i := 10) (oi := { dst := some 132, op := Op.move (Operand.tmp 131), type := 4, pos := "more.go:48", after := #[{ on := 9, ground := Ground.data }, { on := 6, ground := Ground.chain }, { on := 6, ground := Ground.guard }], guard := some (6, true) }) (v := ?v10) rfl (by kernel_rfl) (by kernel_rfl) (by kernel_rfl) (fun _ _ _ h => h) (Or.inl ⟨by rfl, ?hy10⟩) (by assumption) ?rest10
                case hy10 => (intro w0 hSw; (try dsimp only at hSw); go_simp; try with_reducible rfl)
                simp only [Act.put, List.setIfInBounds_toArray, List.set_cons_zero, List.set_cons_succ]
                refine wpAnyH_take (i := 11) (oi := { dst := some 133, op := Op.move (Operand.tmp 14), type := 40, pos := "more.go:48", after := #[{ on := 10, ground := Ground.guard }], guard := some (10, false) }) (v := undef) rfl (by kernel_rfl) (by kernel_rfl) (by kernel_rfl) (fun _ _ _ h => h) (Or.inr ⟨by rfl, rfl⟩) (by assumption) ?_
                simp only [Act.put, List.setIfInBounds_toArray, List.set_cons_zero, List.set_cons_succ]
                refine wpAnyH_take (i := 12) (oi := { dst := some 134, op := Op.call { callee := Callee.builtin Builtin.len, args := #[Operand.tmp 133], argTypes := #[40] }, type := 3, pos := "more.go:48", after := #[{ on := 11, ground := Ground.data }, { on := 10, ground := Ground.guard }], guard := some (10, false) }) (v := undef) rfl (by kernel_rfl) (by kernel_rfl) (by kernel_rfl) (fun _ _ _ h => h) (Or.inr ⟨by rfl, rfl⟩) (by assumption) ?_
                simp only [Act.put, List.setIfInBounds_toArray, List.set_cons_zero, List.set_cons_succ]
                refine wpAnyH_take (i := 13) (oi := { dst := some 135, op := Op.load 3 (Operand.tmp 7), type := 3, pos := "more.go:48", after := #[{ on := 10, ground := Ground.guard }], guard := some (10, false) }) (v := undef) rfl (by kernel_rfl) (by kernel_rfl) (by kernel_rfl) (fun _ _ _ h => h) (Or.inr ⟨by rfl, rfl⟩) (by assumption) ?_
                simp only [Act.put, List.setIfInBounds_toArray, List.set_cons_zero, List.set_cons_succ]
                refine wpAnyH_take (i := 14) (oi := { dst := some 136, op := Op.binOp BinOp.add 3 (Operand.tmp 134) (Operand.tmp 135) 3, type := 3, pos := "more.go:48", after := #[{ on := 12, ground := Ground.data }, { on := 13, ground := Ground.data }, { on := 10, ground := Ground.guard }], guard := some (10, false) }) (v := undef) rfl (by kernel_rfl) (by kernel_rfl) (by kernel_rfl) (fun _ _ _ h => h) (Or.inr ⟨by rfl, rfl⟩) (by assumption) ?_
                simp only [Act.put, List.setIfInBounds_toArray, List.set_cons_zero, List.set_cons_succ]
                refine wpAnyH_take (i := 15) (oi := { dst := some 137, op := Op.load 23 (Operand.tmp 3), type := 23, pos := "more.go:48", after := #[{ on := 10, ground := Ground.guard }], guard := some (10, false) }) (v := undef) rfl (by kernel_rfl) (by kernel_rfl) (by kernel_rfl) (fun _ _ _ h => h) (Or.inr ⟨by rfl, rfl⟩) (by assumption) ?_
                simp only [Act.put, List.setIfInBounds_toArray, List.set_cons_zero, List.set_cons_succ]
                refine wpAnyH_take (i := 16) (oi := { dst := some 138, op := Op.call { callee := Callee.value (Operand.func 24), args := #[Operand.tmp 137], argTypes := #[23] }, type := 3, pos := "more.go:48", after := #[{ on := 15, ground := Ground.data }, { on := 10, ground := Ground.chain }, { on := 10, ground := Ground.guard }], guard := some (10, false) }) (v := undef) rfl (by kernel_rfl) (by kernel_rfl) (by kernel_rfl) (fun _ _ _ h => h) (Or.inr ⟨by rfl, rfl⟩) (by assumption) ?_
                simp only [Act.put, List.setIfInBounds_toArray, List.set_cons_zero, List.set_cons_succ]
                refine wpAnyH_take (i := 17) (oi := { dst := some 139, op := Op.binOp BinOp.eql 3 (Operand.tmp 136) (Operand.tmp 138) 3, type := 4, pos := "more.go:48", after := #[{ on := 14, ground := Ground.data }, { on := 16, ground := Ground.data }, { on := 10, ground := Ground.guard }], guard := some (10, false) }) (v := undef) rfl (by kernel_rfl) (by kernel_rfl) (by kernel_rfl) (fun _ _ _ h => h) (Or.inr ⟨by rfl, rfl⟩) (by assumption) ?_
                simp only [Act.put, List.setIfInBounds_toArray, List.set_cons_zero, List.set_cons_succ]
                refine wpAnyH_take (i := 18) (oi := { dst := some 140, op := Op.pick (Operand.tmp 132) (Operand.const (Value.bool true)) (Operand.tmp 139), type := 4, pos := "more.go:48", after := #[{ on := 10, ground := Ground.data }, { on := 17, ground := Ground.data }, { on := 6, ground := Ground.guard }], guard := some (6, true) }) (v := ?v18) rfl (by kernel_rfl) (by kernel_rfl) (by kernel_rfl) (fun _ _ _ h => h) (Or.inl ⟨by rfl, ?hy18⟩) (by assumption) ?rest18
                case hy18 => (intro w0 hSw; (try dsimp only at hSw); go_simp; try with_reducible rfl)
                simp only [Act.put, List.setIfInBounds_toArray, List.set_cons_zero, List.set_cons_succ]
                refine wpAnyH_take (i := 19) (oi := { dst := some 141, op := Op.pick (Operand.tmp 128) (Operand.tmp 140) (Operand.const (Value.bool false)), type := 4, pos := "more.go:48", after := #[{ on := 6, ground := Ground.data }, { on := 18, ground := Ground.data }], guard := none }) (v := ?v19) rfl (by kernel_rfl) (by kernel_rfl) (by kernel_rfl) (fun _ _ _ h => h) (Or.inl ⟨by rfl, ?hy19⟩) (by assumption) ?rest19
                case hy19 => (intro w0 hSw; (try dsimp only at hSw); go_simp; try with_reducible rfl)
                simp only [Act.put, List.setIfInBounds_toArray, List.set_cons_zero, List.set_cons_succ]
                refine wpAnyH_take (i := 20) (oi := { dst := some 142, op := Op.move (Operand.tmp 141), type := 4, pos := "more.go:48", after := #[{ on := 19, ground := Ground.data }, { on := 16, ground := Ground.chain }], guard := none }) (v := ?v20) rfl (by kernel_rfl) (by kernel_rfl) (by kernel_rfl) (fun _ _ _ h => h) (Or.inl ⟨by rfl, ?hy20⟩) (by assumption) ?rest20
                case hy20 => (intro w0 hSw; (try dsimp only at hSw); go_simp; try with_reducible rfl)
                simp only [Act.put, List.setIfInBounds_toArray, List.set_cons_zero, List.set_cons_succ]
                refine wpAnyH_take (i := 21) (oi := { dst := some 143, op := Op.pick (Operand.tmp 142) (Operand.const (Value.bool true)) (Operand.const (Value.bool false)), type := 4, pos := "more.go:48", after := #[{ on := 20, ground := Ground.data }], guard := none }) (v := ?v21) rfl (by kernel_rfl) (by kernel_rfl) (by kernel_rfl) (fun _ _ _ h => h) (Or.inl ⟨by rfl, ?hy21⟩) (by assumption) ?rest21
                case hy21 => (intro w0 hSw; (try dsimp only at hSw); go_simp; try with_reducible rfl)
                simp only [Act.put, List.setIfInBounds_toArray, List.set_cons_zero, List.set_cons_succ]
                refine wpAnyH_ready (rs := [22]) (by kernel_rfl) (by simp) ?_
                refine AllReadyH.cons (o := { dst := none, op := Op.store 4 (Operand.tmp 4) (Operand.tmp 143), type := 0, pos := "more.go:48", after := #[{ on := 21, ground := Ground.data }, { on := 20, ground := Ground.chain }, { on := 0, ground := Ground.phase }, { on := 1, ground := Ground.phase }, { on := 2, ground := Ground.phase }, { on := 3, ground := Ground.phase }, { on := 4, ground := Ground.phase }, { on := 5, ground := Ground.phase }, { on := 6, ground := Ground.phase }, { on := 7, ground := Ground.phase }, { on := 8, ground := Ground.phase }, { on := 9, ground := Ground.phase }, { on := 10, ground := Ground.phase }, { on := 11, ground := Ground.phase }, { on := 12, ground := Ground.phase }, { on := 13, ground := Ground.phase }, { on := 14, ground := Ground.phase }, { on := 15, ground := Ground.phase }, { on := 16, ground := Ground.phase }, { on := 17, ground := Ground.phase }, { on := 18, ground := Ground.phase }, { on := 19, ground := Ground.phase }, { on := 20, ground := Ground.phase }, { on := 21, ground := Ground.phase }], guard := none }) rfl (fun K hK => ?_) AllReadyH.nil
                go_simp
                refine hK.out _ _ ⟨ji _, jo _, js _, jv _⟩ (fun hHeld => ?_)
                clear hK K
                try simp only [Act.put, List.setIfInBounds_toArray, List.set_cons_zero, List.set_cons_succ]
                refine wpAnyH_done (by kernel_rfl) ?_ _
                refine NoPanic.normal ?_
                go_wp2
                obtain ⟨k10, k9, kr, kb⟩ := HEND0.out
                refine ⟨by simp, .inl ⟨_, _, rfl, run_takeDeferred k10, by simp, .inl ⟨_, _, rfl, run_takeDeferred k9, ?_⟩⟩⟩
                exact ⟨_, results_cell4 rfl _ _ rfl kr.cell, rfl, kb⟩
              · have hM' : ((M : Int) == 4096) = false := by simp; omega
                have hfin : (M : Int) + (un : Int) = C := by
                  rcases HFIN.out with h | h
                  · exact absurd h hM
                  · exact h
                replace hw2 := hw2.trans hfin
                clear hM hfin
                go_wp2
                go_region_held3 (fun W => W.cell? ⟨ib, 0, none⟩ = some (.int .i64 (un : Int)) ∧ W.cell? ⟨ob, 0, none⟩ = some (.int .i64 (on : Int)) ∧ W.cell? ⟨pb, 0, none⟩ = some (.pointer (some ⟨p, 0, none⟩)) ∧ W.cell? ⟨w.heap.size, 0, none⟩ = some (.slice vo vn vc)) (first | go_keep | (refine ⟨?_, ?_, ?_, ?_⟩ <;> first | assumption | exact ki _ | exact ko _ | exact ks _ | exact kv _)) (first | (go_at_call 21; refine HLEN.out.mono ?_; rintro e w6 ⟨rfl, rfl⟩) | (go_at_call 24; refine HCNT.out.mono ?_; rintro e w6 ⟨rfl, rfl⟩))
                go_wp2
                obtain ⟨k10, k9, kr, kb⟩ := HEND.out
                refine ⟨by simp, .inl ⟨_, _, rfl, run_takeDeferred k10, by simp, .inl ⟨_, _, rfl, run_takeDeferred k9, ?_⟩⟩⟩
                exact ⟨_, results_cell4 rfl _ _ rfl kr.cell, rfl, kb⟩
end Go.Proofs.Ytkjpaiaepodhbaa
