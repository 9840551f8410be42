/-
  Package acceptor: onAccept.
-/
import Derived.Test.YthcpopigkbefhaaGreatAcS
namespace Go.Proofs.YthcpopigkbefhaaGreat
open Go.RowKit Go.Maps

theorem ScL.setCell {W V : World} (h : ScL W V) {q : Addr} (hq : W.heap.size ≤ q.block) (u : Value) : ScL W (V.setCell q u) := ⟨h.out.setCell hq u⟩
def RefusedA (a : Ac) (x : MsM) : Prop := 0 < cmpB a.pr x.bal ∨ (a.f x.slot = none ∧ 4096 ≤ a.ks.length)
instance (a : Ac) (x : MsM) : Decidable (RefusedA a x) := by unfold RefusedA; infer_instance
/-- What onAccept leaves. -/
def AccP (w : World) (p : Nat) (a : Ac) (x : MsM) (e : Ending) (w' : World) : Prop :=
  Below w.heap.size w w' ∧ (if RefusedA a x then e = .returned (effV 5 false ⟨#[]⟩ 88 #[]) else
    ∃ ba bm, e = .returned (effV 4 (decide (a.f x.slot ≠ some (x.bal, x.en.e))) ⟨#[]⟩ 47 #[.pointer (some ⟨bm, 0, none⟩), .pointer (some ⟨ba, 0, none⟩)]) ∧ Blk w' ba 23 [.pointer (some ⟨p, 0, none⟩)] ∧ Blk w' bm 38 x.cells ∧ w.heap.size ≤ ba ∧ w.heap.size ≤ bm)
/-- The frame of onAccept: the boxes of a and of m, and the answer's. -/
structure AccW (w : World) (p m : Nat) (a : Ac) (x : MsM) (ba bm be : Nat) (W : World) : Prop where
  bel : Below w.heap.size w W
  kA : Blk W ba 23 [.pointer (some ⟨p, 0, none⟩)]
  kM : Blk W bm 38 x.cells
  kE : Blk W be 50 [.int .i64 0, .bool false, .string ⟨#[]⟩, .nilFunc]
  at' : AcAt W p m a
theorem AccW.below {w W V : World} {p m ba bm be : Nat} {a : Ac} {x : MsM} (h : AccW w p m a x ba bm be W) (hb : Below W.heap.size W V) : AccW w p m a x ba bm be V := ⟨bt' h.bel hb, h.kA.below hb h.kA.lt, h.kM.below hb h.kM.lt, h.kE.below hb h.kE.lt, h.at'.below hb⟩
/-- The end of onAccept. -/
theorem acc_end {w W : World} {p m ba bm be : Nat} {a : Ac} {x : MsM} (h : AccW w p m a x ba bm be W) (hba : w.heap.size ≤ ba) (hbm : w.heap.size ≤ bm) (hbe : w.heap.size ≤ be) (hne : ba ≠ be ∧ bm ≠ be) (hr : ¬ RefusedA a x) (c : Bool) (hc : decide (a.f x.slot ≠ some (x.bal, x.en.e)) = c) :
    AccP w p a x (.returned (effV 4 c ⟨#[]⟩ 47 #[.pointer (some ⟨bm, 0, none⟩), .pointer (some ⟨ba, 0, none⟩)])) (st4 W be (.int .i64 4) (.bool c) (.string ⟨#[]⟩) (.func (.func 47) #[] #[.pointer (some ⟨bm, 0, none⟩), .pointer (some ⟨ba, 0, none⟩)])) := by
  have hT := st4_turns W be (.int .i64 4) (.bool c) (.string ⟨#[]⟩) (.func (.func 47) #[] #[.pointer (some ⟨bm, 0, none⟩), .pointer (some ⟨ba, 0, none⟩)])
  refine ⟨h.bel.trans (hT.below (fun i hi => by rw [hi]; exact hbe) h.bel.size), ?_⟩
  rw [if_neg hr]
  exact ⟨ba, bm, by rw [hc], hT.blk h.kA hne.1, hT.blk h.kM hne.2, hba, hbm⟩
theorem acc_no {w W : World} {p m ba bm be : Nat} {a : Ac} {x : MsM} (h : AccW w p m a x ba bm be W) (hbe : w.heap.size ≤ be) (hr : RefusedA a x) : AccP w p a x (.returned (effV 5 false ⟨#[]⟩ 88 #[])) (st4 W be (.int .i64 5) (.bool false) (.string ⟨#[]⟩) (.func (.func 88) #[] #[])) := by
  refine ⟨h.bel.trans ((st4_turns W be _ _ _ _).below (fun i hi => by rw [hi]; exact hbe) h.bel.size), ?_⟩
  rw [if_pos hr]
set_option maxRecDepth 1000000 in
set_option maxHeartbeats 2000000 in
theorem AcAt.onAccept {w : World} {p m : Nat} {a : Ac} (h : AcAt w p m a) (x : MsM) (hx : MsOk w x) : Calls Tryz.prog 26 #[.pointer (some ⟨p, 0, none⟩), x.val] w (AccP w p a x) := by
  obtain ⟨W1, hW1⟩ : ∃ W, W = w.alloc (.cells #[.pointer (some ⟨p, 0, none⟩)] 23) := ⟨_, rfl⟩
  obtain ⟨W2, hW2⟩ : ∃ W, W = W1.alloc (.cells x.cells.toArray 38) := ⟨_, rfl⟩
  obtain ⟨W, hW⟩ : ∃ W, W = W2.alloc (.cells #[.int .i64 0, .bool false, .string ⟨#[]⟩, .nilFunc] 50) := ⟨_, rfl⟩
  have hs1 : W1.heap.size = w.heap.size + 1 := by rw [hW1]; simp
  have hs2 : W2.heap.size = w.heap.size + 1 + 1 := by rw [hW2]; simp [hs1]
  have hb1 : Below w.heap.size w W1 := by rw [hW1]; exact (Below.refl _ _).alloc (Nat.le_refl _) _
  have hb2 : Below w.heap.size w W2 := by rw [hW2]; exact hb1.alloc hb1.size _
  have HB : Hid (Below w.heap.size w W) := by rw [hW]; exact hb2.alloc hb2.size _
  obtain ⟨ba, hba⟩ : ∃ q, q = w.heap.size := ⟨_, rfl⟩
  obtain ⟨bm, hbm⟩ : ∃ q, q = w.heap.size + 1 := ⟨_, rfl⟩
  obtain ⟨be, hbe⟩ : ∃ q, q = w.heap.size + 1 + 1 := ⟨_, rfl⟩
  have HF : Hid (AccW w p m a x ba bm be W) := ⟨HB.out, by rw [hba, hW, hW2, hW1]; exact ((Blk.new w _ _).alloc _).alloc _, by rw [hbm, hW, hW2, ← hs1]; exact (Blk.new W1 _ _).alloc _, by rw [hbe, hW, ← hs2]; exact Blk.new W2 _ _, h.below HB.out⟩
  have HW : Hid (W = ((w.alloc (.cells #[.pointer (some ⟨p, 0, none⟩)] 23)).alloc (.cells x.cells.toArray 38)).alloc (.cells #[.int .i64 0, .bool false, .string ⟨#[]⟩, .nilFunc] 50)) := by show _ = _; rw [hW, hW2, hW1]
  have HBA := hid hba
  have HBM := hid hbm
  have HBE := hid hbe
  have HNE : Hid (ba ≠ be ∧ bm ≠ be) := ⟨by omega, by omega⟩
  have HBS : Hid (w.heap.size ≤ ba ∧ w.heap.size ≤ bm ∧ w.heap.size ≤ be ∧ be < W.heap.size) := ⟨by omega, by omega, by omega, HF.out.kE.lt⟩
  have HRF := hid refusalA
  have HSI : Hid (I64 x.slot) := hx.isl
  have HX0 := hid hx.en
  obtain ⟨C, HC⟩ : ∃ C, Hid (decide (0 < cmpB a.pr x.bal) = C) := ⟨_, hid rfl⟩
  have HAB : Hid (∀ V, Below W.heap.size W V → Calls Tryz.prog 43 #[.pointer (some ⟨p, 0, none⟩), .agg #[.int .i64 x.bal.1, .int .i64 x.bal.2]] V fun e w' => e = .returned (.bool C) ∧ Below W.heap.size W w') := fun V hV => by
    have := (HF.out.at'.below hV).above x.bal
    rw [HC.out] at this
    exact this.mono (fun e w' (hh : _ ∧ _) => And.intro hh.1 (bt' hV hh.2))
  obtain ⟨S, D, hEM, hSf⟩ := HF.out.at'.map
  have HEM := hid hEM
  have HSF := hid (hSf x.slot)
  clear h hW hW1 hW2 hs1 hs2 hb1 hb2 hba hbm hbe hEM hSf hx
  have hu : ∃ y : VoM, ((S x.slot).map VoM.val).getD zeroVo = y.val ∧ (∀ z, S x.slot = some z → y = z) := by
    cases S x.slot with
    | none => exact ⟨zeroVM, rfl, fun z hz => by cases hz⟩
    | some z => exact ⟨z, rfl, fun _ hz => by cases hz; rfl⟩
  obtain ⟨y, hy, hyz⟩ := hu
  have HYZ := hid hyz
  obtain ⟨Q, HQ⟩ : ∃ q, Hid ((S x.slot).isSome = q) := ⟨_, hid rfl⟩
  have HLK : Hid (∀ V, ScL W V → (Instr.lookup 46 (.map (some m)) (.int .i64 x.slot) true).run Tryz.prog V = .ok (.tuple #[y.val, .bool Q]) V) := fun V hV => by
    have := (HEM.out.below hV.out).look HSI.out
    rw [hy, HQ.out] at this
    exact this
  clear hy hyz
  obtain ⟨sl2, ⟨r2, n2⟩, ⟨np2, tk2, ct2, ep2, dp2⟩, ao2, cap2⟩ := y
  obtain ⟨YN, HYN⟩ : ∃ m, Hid (dp2.length = m) := ⟨_, hid rfl⟩
  simp only [VoM.val] at HLK
  rw [HYN.out] at HLK
  obtain ⟨kd, fr, to, ⟨br, bn⟩, sl, ⟨⟨np, tk, ct, ep, cut⟩, ao1, cap1⟩, vo, vc, vs, so, sc, seen, eo, ec, evs, ti⟩ := x
  obtain ⟨XN, HXN⟩ : ∃ m, Hid (cut.length = m) := ⟨_, hid rfl⟩
  obtain ⟨VN, HVN⟩ : ∃ m, Hid (vs.length = m) := ⟨_, hid rfl⟩
  obtain ⟨SN, HSN⟩ : ∃ m, Hid (seen.length = m) := ⟨_, hid rfl⟩
  obtain ⟨EN, HEN⟩ : ∃ m, Hid (evs.length = m) := ⟨_, hid rfl⟩
  simp only [MsM.val, MsM.cells] at HW HLK ⊢
  rw [HXN.out, HVN.out, HSN.out, HEN.out] at HW
  rw [HXN.out, HVN.out, HSN.out, HEN.out]
  simp only at HAB HSF HQ HYZ HC HX0
  have HSA : Hid (∀ V, ScL W V → (ScL W V ∧ V.cell? ⟨ba, 0, none⟩ = some (.pointer (some ⟨p, 0, none⟩)) ∧ V.cell? ⟨bm, 5, none⟩ = some (.int .i64 sl) ∧ V.cell? ⟨p, 3, none⟩ = some (.map (some m)) ∧ (Instr.lookup 46 (.map (some m)) (.int .i64 sl) true).run Tryz.prog V = .ok (.tuple #[.agg #[.int .i64 sl2, .int .i64 r2, .int .i64 n2, .bool np2, .string tk2, .string ct2, .int .i64 ep2, .slice ao2 YN cap2], .bool Q]) V)) := fun V hV => by
    have hf := HF.out.below hV.out
    exact ⟨hV, hf.kA.cell rfl, hf.kM.cell rfl, hf.at'.cells.2.2.2, HLK.out V hV⟩
  go_enter Tryz.func26, Tryz.ntmps26
  go_wp2
  rw [← HW.out, ← HBE.out, ← HBM.out, ← HBA.out]
  go_region_held3 (fun V => ScL W V ∧ V.cell? ⟨ba, 0, none⟩ = some (.pointer (some ⟨p, 0, none⟩)) ∧ V.cell? ⟨bm, 5, none⟩ = some (.int .i64 sl) ∧ V.cell? ⟨p, 3, none⟩ = some (.map (some m)) ∧ (Instr.lookup 46 (.map (some m)) (.int .i64 sl) true).run Tryz.prog V = .ok (.tuple #[.agg #[.int .i64 sl2, .int .i64 r2, .int .i64 n2, .bool np2, .string tk2, .string ct2, .int .i64 ep2, .slice ao2 YN cap2], .bool Q]) V)
    (first | (refine ⟨?_, ?_, ?_, ?_, ?_⟩ <;> assumption) | (refine HSA.out _ ?_; (repeat (first | assumption | exact ScL.start _ | apply ScL.dr | apply ScL.alloc | refine ScL.setCell ?_ (by first | exact Nat.le_refl _ | (simp; done) | (simp; omega)) _)); done)) (fail)
  all_goals
    rename_i hHeld
    obtain ⟨V1, hV1⟩ : ∃ V, V = (W.alloc (.cells #[.int .i64 sl2, .int .i64 r2, .int .i64 n2, .bool np2, .string tk2, .string ct2, .int .i64 ep2, .slice ao2 YN cap2] 58)).drew := ⟨_, rfl⟩
    rw [← hV1] at hHeld ⊢
    have HS1 := hid hHeld.1
    have HKB : Hid (Blk V1 W.heap.size 58 [.int .i64 sl2, .int .i64 r2, .int .i64 n2, .bool np2, .string tk2, .string ct2, .int .i64 ep2, .slice ao2 YN cap2]) := by rw [hV1]; exact (Blk.new W _ _).drew
    obtain ⟨bx, hbx⟩ : ∃ q, q = W.heap.size := ⟨_, rfl⟩
    rw [← hbx] at HKB ⊢
    have HF1 := hid (HF.out.below HS1.out.out)
    have HP1 : Hid (Calls Tryz.prog 43 #[.pointer (some ⟨p, 0, none⟩), .agg #[.int .i64 br, .int .i64 bn]] V1 fun e w' => e = .returned (.bool C) ∧ Below V1.heap.size V1 w') := by
      have := HF1.out.at'.above (br, bn)
      rw [HC.out] at this
      exact this
    clear hHeld hV1 hbx HSA
    have d0 := HF1.out.kA.cell (i := 0) rfl
    have d3 := HF1.out.kM.cell (i := 3) rfl
    have d4 := HF1.out.kM.cell (i := 4) rfl
    go_wp2_with fail
    refine HP1.out.mono ?_
    rintro e w2 ⟨rfl, hb12⟩
    have HV12 := hid hb12
    have hb2 : Below W.heap.size W w2 := bt' HS1.out.out hb12
    have HF2 := hid (HF.out.below hb2)
    have HB2 := hid hb2
    clear hb12
    clear d0 d3 d4 HP1
    cases C
    · have HCF : Hid (¬ 0 < cmpB a.pr (br, bn)) := hid (by simpa using HC.out)
      have d0 := HF2.out.kA.cell (i := 0) rfl
      have a3 := HF2.out.at'.cells.2.2.2
      cases Q
      · have HSN2 : Hid (S sl = none) := by
          show _ = _
          cases hh : S sl with
          | none => rfl
          | some z => have := HQ.out; rw [hh] at this; cases this
        have HFN : Hid (a.f sl = none) := by show _ = _; rw [← HSF.out, HSN2.out]; rfl
        have hlen := fun ty => (HEM.out.below hb2).map.len Tryz.underlying46 ty
        rw [HEM.out.cnt] at hlen
        obtain ⟨N, HN⟩ : ∃ N, Hid (a.ks.length = N) := ⟨_, hid rfl⟩
        rw [HN.out] at hlen
        by_cases h4 : 4096 ≤ N
        · have h4' : (4096 : Int) ≤ (N : Int) := by omega
          have HRR : Hid (RefusedA a ⟨kd, fr, to, (br, bn), sl, ⟨⟨np, tk, ct, ep, cut⟩, ao1, cap1⟩, vo, vc, vs, so, sc, seen, eo, ec, evs, ti⟩) := .inr ⟨HFN.out, by rw [HN.out]; exact h4⟩
          clear h4 hb2
          go_wp2_with fail
          refine (HRF.out _).mono ?_
          rintro e wz ⟨rfl, hbz⟩
          have HFz := hid (HF2.out.below hbz)
          have f0 := HFz.out.kE.cell (i := 0) rfl
          have f1 := HFz.out.kE.cell (i := 1) rfl
          have f2 := HFz.out.kE.cell (i := 2) rfl
          have f3 := HFz.out.kE.cell (i := 3) rfl
          have g0 := HFz.out.kE.frozen 0
          have g1 := HFz.out.kE.frozen 1
          have g2 := HFz.out.kE.frozen 2
          have g3 := HFz.out.kE.frozen 3
          have HFI := hid (acc_no HFz.out HBS.out.2.2.1 HRR.out)
          obtain ⟨W3, hW3⟩ : ∃ V, V = st4 wz be (.int .i64 5) (.bool false) (.string ⟨#[]⟩) (.func (.func 88) #[] #[]) := ⟨_, rfl⟩
          have hk9 : Blk W3 be 50 [.int .i64 5, .bool false, .string ⟨#[]⟩, .func (.func 88) #[] #[]] := by rw [hW3]; exact st4_blk HFz.out.kE _ _ _ _
          rw [← hW3] at HFI
          have k0 := hk9.cell (i := 0) rfl
          have k1 := hk9.cell (i := 1) rfl
          have k2 := hk9.cell (i := 2) rfl
          have k3 := hk9.cell (i := 3) rfl
          clear hbz hk9
          unfold effV
          go_wp2
          unfold st4 at hW3
          rw [← hW3]
          (try simp only [Exit.inBlock, Exit.then])
          refine bodyPost_ret (v := .agg #[.int .i64 5, .bool false, .string ⟨#[]⟩, .func (.func 88) #[] #[]]) ?_ rfl HFI.out
          rw [results_cell1B rfl]
          go_simp
        · have h4' : decide ((4096 : Int) ≤ (N : Int)) = false := decide_eq_false (by omega)
          have HNR : Hid (¬ RefusedA a ⟨kd, fr, to, (br, bn), sl, ⟨⟨np, tk, ct, ep, cut⟩, ao1, cap1⟩, vo, vc, vs, so, sc, seen, eo, ec, evs, ti⟩) := fun hh => hh.elim (fun k => HCF.out k) (fun k => h4 (by rw [← HN.out]; exact k.2))
          clear h4 hb2
          have f0 := HF2.out.kE.cell (i := 0) rfl
          have f1 := HF2.out.kE.cell (i := 1) rfl
          have f2 := HF2.out.kE.cell (i := 2) rfl
          have f3 := HF2.out.kE.cell (i := 3) rfl
          have g0 := HF2.out.kE.frozen 0
          have g1 := HF2.out.kE.frozen 1
          have g2 := HF2.out.kE.frozen 2
          have g3 := HF2.out.kE.frozen 3
          have HFI := hid (acc_end HF2.out HBS.out.1 HBS.out.2.1 HBS.out.2.2.1 HNE.out HNR.out true (decide_eq_true (by show a.f sl ≠ _; rw [HFN.out]; simp)))
          obtain ⟨W3, hW3⟩ : ∃ V, V = st4 w2 be (.int .i64 4) (.bool true) (.string ⟨#[]⟩) (.func (.func 47) #[] #[.pointer (some ⟨bm, 0, none⟩), .pointer (some ⟨ba, 0, none⟩)]) := ⟨_, rfl⟩
          have hk9 : Blk W3 be 50 [.int .i64 4, .bool true, .string ⟨#[]⟩, .func (.func 47) #[] #[.pointer (some ⟨bm, 0, none⟩), .pointer (some ⟨ba, 0, none⟩)]] := by rw [hW3]; exact st4_blk HF2.out.kE _ _ _ _
          rw [← hW3] at HFI
          have k0 := hk9.cell (i := 0) rfl
          have k1 := hk9.cell (i := 1) rfl
          have k2 := hk9.cell (i := 2) rfl
          have k3 := hk9.cell (i := 3) rfl
          clear hk9
          go_wp2
          unfold st4 at hW3
          rw [← hW3]
          (try simp only [Exit.inBlock, Exit.then])
          refine bodyPost_ret (v := .agg #[.int .i64 4, .bool true, .string ⟨#[]⟩, .func (.func 47) #[] #[.pointer (some ⟨bm, 0, none⟩), .pointer (some ⟨ba, 0, none⟩)]]) ?_ rfl HFI.out
          rw [results_cell1B rfl]
          go_simp
      · obtain ⟨z, hz⟩ : ∃ z, S sl = some z := Option.isSome_iff_exists.1 HQ.out
        have hyz := HYZ.out z hz
        have HFS : Hid (a.f sl = some ((r2, n2), ⟨np2, tk2, ct2, ep2, dp2⟩)) := by show _ = _; rw [← HSF.out, hz, ← hyz]; rfl
        have HOY : Hid (EnKeep W ⟨⟨np2, tk2, ct2, ep2, dp2⟩, ao2, cap2⟩) := by have := (HEM.out.ok sl z hz).1; rw [← hyz] at this; exact this
        have HNR : Hid (¬ RefusedA a ⟨kd, fr, to, (br, bn), sl, ⟨⟨np, tk, ct, ep, cut⟩, ao1, cap1⟩, vo, vc, vs, so, sc, seen, eo, ec, evs, ti⟩) := fun hh => hh.elim (fun k => HCF.out k) (fun k => by have := k.1; rw [show a.f sl = _ from HFS.out] at this; cases this)
        have HB2' := hid (HKB.out.below (show Below V1.heap.size V1 w2 from HV12.out) HKB.out.lt)
        have c1 := HB2'.out.cell (i := 1) rfl
        have c2 := HB2'.out.cell (i := 2) rfl
        have c3 := HB2'.out.cell (i := 3) rfl
        have c4 := HB2'.out.cell (i := 4) rfl
        have c5 := HB2'.out.cell (i := 5) rfl
        have c6 := HB2'.out.cell (i := 6) rfl
        have c7 := HB2'.out.cell (i := 7) rfl
        have d3 := HF2.out.kM.cell (i := 3) rfl
        have d4 := HF2.out.kM.cell (i := 4) rfl
        have d6 := HF2.out.kM.cell (i := 6) rfl
        have d7 := HF2.out.kM.cell (i := 7) rfl
        have d8 := HF2.out.kM.cell (i := 8) rfl
        have d9 := HF2.out.kM.cell (i := 9) rfl
        have d10 := HF2.out.kM.cell (i := 10) rfl
        simp only at d3 d4 d6 d7 d8 d9 d10
        rw [HXN.out] at d10
        obtain ⟨dd, HDD⟩ : ∃ d, Hid (decide ((⟨np, tk, ct, ep, cut⟩ : En) = ⟨np2, tk2, ct2, ep2, dp2⟩) = d) := ⟨_, hid rfl⟩
        have HSE : Hid (Calls Tryz.prog 46 #[.agg #[.bool np, .string tk, .string ct, .int .i64 ep, .slice ao1 XN cap1], .agg #[.bool np2, .string tk2, .string ct2, .int .i64 ep2, .slice ao2 YN cap2]] w2 fun e w' => e = .returned (.bool dd) ∧ Below w2.heap.size w2 w') := by
          have := sameEnA w2 ⟨⟨np, tk, ct, ep, cut⟩, ao1, cap1⟩ ⟨⟨np2, tk2, ct2, ep2, dp2⟩, ao2, cap2⟩ (HX0.out.below HF2.out.bel) (HOY.out.below HB2.out).ok
          simp only [EnM.val] at this
          rw [HXN.out, HYN.out, HDD.out] at this
          exact this
        have h3 : (br = r2 ∧ bn = n2) ∨ (br = r2 ∧ ¬ bn = n2) ∨ ¬ br = r2 := by
          by_cases h1 : br = r2
          · by_cases h2 : bn = n2
            · exact .inl ⟨h1, h2⟩
            · exact .inr (.inl ⟨h1, h2⟩)
          · exact .inr (.inr h1)
        clear hz hyz hb2
        rcases h3 with ⟨h1, h2⟩ | ⟨h1, h2⟩ | h1
        · have HBQ : Hid (((r2, n2) : Int × Int) = (br, bn)) := by rw [h1, h2]; exact rfl
          subst h1 h2
          go_wp2_with fail
          refine HSE.out.mono ?_
          rintro e w4 ⟨rfl, hb4⟩
          have HF4 := hid (HF2.out.below hb4)
          clear hb4 c1 c2 c3 c4 c5 c6 c7 d3 d4 d6 d7 d8 d9 d10
          cases dd
          · have f0 := HF4.out.kE.cell (i := 0) rfl
            have f1 := HF4.out.kE.cell (i := 1) rfl
            have f2 := HF4.out.kE.cell (i := 2) rfl
            have f3 := HF4.out.kE.cell (i := 3) rfl
            have g0 := HF4.out.kE.frozen 0
            have g1 := HF4.out.kE.frozen 1
            have g2 := HF4.out.kE.frozen 2
            have g3 := HF4.out.kE.frozen 3
            have HFI := hid (acc_end HF4.out HBS.out.1 HBS.out.2.1 HBS.out.2.2.1 HNE.out HNR.out true (decide_eq_true (by show a.f sl ≠ _; rw [HFS.out]; intro e; have := of_decide_eq_false HDD.out; injection e with e; injection e with _ e2; exact this e2.symm)))
            obtain ⟨W3, hW3⟩ : ∃ V, V = st4 w4 be (.int .i64 4) (.bool true) (.string ⟨#[]⟩) (.func (.func 47) #[] #[.pointer (some ⟨bm, 0, none⟩), .pointer (some ⟨ba, 0, none⟩)]) := ⟨_, rfl⟩
            have hk9 : Blk W3 be 50 [.int .i64 4, .bool true, .string ⟨#[]⟩, .func (.func 47) #[] #[.pointer (some ⟨bm, 0, none⟩), .pointer (some ⟨ba, 0, none⟩)]] := by rw [hW3]; exact st4_blk HF4.out.kE _ _ _ _
            rw [← hW3] at HFI
            have k0 := hk9.cell (i := 0) rfl
            have k1 := hk9.cell (i := 1) rfl
            have k2 := hk9.cell (i := 2) rfl
            have k3 := hk9.cell (i := 3) rfl
            clear hk9
            go_wp2
            unfold st4 at hW3
            rw [← hW3]
            (try simp only [Exit.inBlock, Exit.then])
            refine bodyPost_ret (v := .agg #[.int .i64 4, .bool true, .string ⟨#[]⟩, .func (.func 47) #[] #[.pointer (some ⟨bm, 0, none⟩), .pointer (some ⟨ba, 0, none⟩)]]) ?_ rfl HFI.out
            rw [results_cell1B rfl]
            go_simp
          · have f0 := HF4.out.kE.cell (i := 0) rfl
            have f1 := HF4.out.kE.cell (i := 1) rfl
            have f2 := HF4.out.kE.cell (i := 2) rfl
            have f3 := HF4.out.kE.cell (i := 3) rfl
            have g0 := HF4.out.kE.frozen 0
            have g1 := HF4.out.kE.frozen 1
            have g2 := HF4.out.kE.frozen 2
            have g3 := HF4.out.kE.frozen 3
            have HFI := hid (acc_end HF4.out HBS.out.1 HBS.out.2.1 HBS.out.2.2.1 HNE.out HNR.out false (decide_eq_false (by show ¬ a.f sl ≠ _; rw [HFS.out]; intro hh; apply hh; rw [of_decide_eq_true HDD.out])))
            obtain ⟨W3, hW3⟩ : ∃ V, V = st4 w4 be (.int .i64 4) (.bool false) (.string ⟨#[]⟩) (.func (.func 47) #[] #[.pointer (some ⟨bm, 0, none⟩), .pointer (some ⟨ba, 0, none⟩)]) := ⟨_, rfl⟩
            have hk9 : Blk W3 be 50 [.int .i64 4, .bool false, .string ⟨#[]⟩, .func (.func 47) #[] #[.pointer (some ⟨bm, 0, none⟩), .pointer (some ⟨ba, 0, none⟩)]] := by rw [hW3]; exact st4_blk HF4.out.kE _ _ _ _
            rw [← hW3] at HFI
            have k0 := hk9.cell (i := 0) rfl
            have k1 := hk9.cell (i := 1) rfl
            have k2 := hk9.cell (i := 2) rfl
            have k3 := hk9.cell (i := 3) rfl
            clear hk9
            go_wp2
            unfold st4 at hW3
            rw [← hW3]
            (try simp only [Exit.inBlock, Exit.then])
            refine bodyPost_ret (v := .agg #[.int .i64 4, .bool false, .string ⟨#[]⟩, .func (.func 47) #[] #[.pointer (some ⟨bm, 0, none⟩), .pointer (some ⟨ba, 0, none⟩)]]) ?_ rfl HFI.out
            rw [results_cell1B rfl]
            go_simp
        · have HNB : Hid (((br, bn) : Int × Int) ≠ (r2, n2)) := fun e => by cases e; exact h2 rfl
          subst h1
          have f0 := HF2.out.kE.cell (i := 0) rfl
          have f1 := HF2.out.kE.cell (i := 1) rfl
          have f2 := HF2.out.kE.cell (i := 2) rfl
          have f3 := HF2.out.kE.cell (i := 3) rfl
          have g0 := HF2.out.kE.frozen 0
          have g1 := HF2.out.kE.frozen 1
          have g2 := HF2.out.kE.frozen 2
          have g3 := HF2.out.kE.frozen 3
          have HFI := hid (acc_end HF2.out HBS.out.1 HBS.out.2.1 HBS.out.2.2.1 HNE.out HNR.out true (decide_eq_true (by show a.f sl ≠ _; rw [HFS.out]; intro e; injection e with e; injection e with e1 _; exact HNB.out e1.symm)))
          obtain ⟨W3, hW3⟩ : ∃ V, V = st4 w2 be (.int .i64 4) (.bool true) (.string ⟨#[]⟩) (.func (.func 47) #[] #[.pointer (some ⟨bm, 0, none⟩), .pointer (some ⟨ba, 0, none⟩)]) := ⟨_, rfl⟩
          have hk9 : Blk W3 be 50 [.int .i64 4, .bool true, .string ⟨#[]⟩, .func (.func 47) #[] #[.pointer (some ⟨bm, 0, none⟩), .pointer (some ⟨ba, 0, none⟩)]] := by rw [hW3]; exact st4_blk HF2.out.kE _ _ _ _
          rw [← hW3] at HFI
          have k0 := hk9.cell (i := 0) rfl
          have k1 := hk9.cell (i := 1) rfl
          have k2 := hk9.cell (i := 2) rfl
          have k3 := hk9.cell (i := 3) rfl
          clear hk9
          go_wp2
          unfold st4 at hW3
          rw [← hW3]
          (try simp only [Exit.inBlock, Exit.then])
          refine bodyPost_ret (v := .agg #[.int .i64 4, .bool true, .string ⟨#[]⟩, .func (.func 47) #[] #[.pointer (some ⟨bm, 0, none⟩), .pointer (some ⟨ba, 0, none⟩)]]) ?_ rfl HFI.out
          rw [results_cell1B rfl]
          go_simp
        · have HNB : Hid (((br, bn) : Int × Int) ≠ (r2, n2)) := fun e => by cases e; exact h1 rfl
          have f0 := HF2.out.kE.cell (i := 0) rfl
          have f1 := HF2.out.kE.cell (i := 1) rfl
          have f2 := HF2.out.kE.cell (i := 2) rfl
          have f3 := HF2.out.kE.cell (i := 3) rfl
          have g0 := HF2.out.kE.frozen 0
          have g1 := HF2.out.kE.frozen 1
          have g2 := HF2.out.kE.frozen 2
          have g3 := HF2.out.kE.frozen 3
          have HFI := hid (acc_end HF2.out HBS.out.1 HBS.out.2.1 HBS.out.2.2.1 HNE.out HNR.out true (decide_eq_true (by show a.f sl ≠ _; rw [HFS.out]; intro e; injection e with e; injection e with e1 _; exact HNB.out e1.symm)))
          obtain ⟨W3, hW3⟩ : ∃ V, V = st4 w2 be (.int .i64 4) (.bool true) (.string ⟨#[]⟩) (.func (.func 47) #[] #[.pointer (some ⟨bm, 0, none⟩), .pointer (some ⟨ba, 0, none⟩)]) := ⟨_, rfl⟩
          have hk9 : Blk W3 be 50 [.int .i64 4, .bool true, .string ⟨#[]⟩, .func (.func 47) #[] #[.pointer (some ⟨bm, 0, none⟩), .pointer (some ⟨ba, 0, none⟩)]] := by rw [hW3]; exact st4_blk HF2.out.kE _ _ _ _
          rw [← hW3] at HFI
          have k0 := hk9.cell (i := 0) rfl
          have k1 := hk9.cell (i := 1) rfl
          have k2 := hk9.cell (i := 2) rfl
          have k3 := hk9.cell (i := 3) rfl
          clear hk9
          go_wp2
          unfold st4 at hW3
          rw [← hW3]
          (try simp only [Exit.inBlock, Exit.then])
          refine bodyPost_ret (v := .agg #[.int .i64 4, .bool true, .string ⟨#[]⟩, .func (.func 47) #[] #[.pointer (some ⟨bm, 0, none⟩), .pointer (some ⟨ba, 0, none⟩)]]) ?_ rfl HFI.out
          rw [results_cell1B rfl]
          go_simp
    · have HRR : Hid (RefusedA a ⟨kd, fr, to, (br, bn), sl, ⟨⟨np, tk, ct, ep, cut⟩, ao1, cap1⟩, vo, vc, vs, so, sc, seen, eo, ec, evs, ti⟩) := .inl (of_decide_eq_true HC.out)
      clear hb2
      go_wp2_with fail
      refine (HRF.out _).mono ?_
      rintro e wz ⟨rfl, hbz⟩
      have HFz := hid (HF2.out.below hbz)
      have f0 := HFz.out.kE.cell (i := 0) rfl
      have f1 := HFz.out.kE.cell (i := 1) rfl
      have f2 := HFz.out.kE.cell (i := 2) rfl
      have f3 := HFz.out.kE.cell (i := 3) rfl
      have g0 := HFz.out.kE.frozen 0
      have g1 := HFz.out.kE.frozen 1
      have g2 := HFz.out.kE.frozen 2
      have g3 := HFz.out.kE.frozen 3
      have HFI := hid (acc_no HFz.out HBS.out.2.2.1 HRR.out)
      obtain ⟨W3, hW3⟩ : ∃ V, V = st4 wz be (.int .i64 5) (.bool false) (.string ⟨#[]⟩) (.func (.func 88) #[] #[]) := ⟨_, rfl⟩
      have hk9 : Blk W3 be 50 [.int .i64 5, .bool false, .string ⟨#[]⟩, .func (.func 88) #[] #[]] := by rw [hW3]; exact st4_blk HFz.out.kE _ _ _ _
      rw [← hW3] at HFI
      have k0 := hk9.cell (i := 0) rfl
      have k1 := hk9.cell (i := 1) rfl
      have k2 := hk9.cell (i := 2) rfl
      have k3 := hk9.cell (i := 3) rfl
      clear hbz hk9
      unfold effV
      go_wp2
      unfold st4 at hW3
      rw [← hW3]
      (try simp only [Exit.inBlock, Exit.then])
      refine bodyPost_ret (v := .agg #[.int .i64 5, .bool false, .string ⟨#[]⟩, .func (.func 88) #[] #[]]) ?_ rfl HFI.out
      rw [results_cell1B rfl]
      go_simp
end Go.Proofs.YthcpopigkbefhaaGreat
