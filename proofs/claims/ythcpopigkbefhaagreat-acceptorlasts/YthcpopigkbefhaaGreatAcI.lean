/-
  Package acceptor: answer.
-/
import Derived.Test.YthcpopigkbefhaaGreatAcH
import Derived.Test.YthcpopigkbefhaaGreatAcF
namespace Go.Proofs.YthcpopigkbefhaaGreat
open Go.RowKit Go.Maps

/-- A block of fifteen cells stored anew. -/
def st15 (w : World) (p : Nat) (v0 v1 v2 v3 v4 v5 v6 v7 v8 v9 v10 v11 v12 v13 v14 : Value) : World := ((((((((((((((w.setCell ⟨p, 0, none⟩ v0).setCell ⟨p, 1, none⟩ v1).setCell ⟨p, 2, none⟩ v2).setCell ⟨p, 3, none⟩ v3).setCell ⟨p, 4, none⟩ v4).setCell ⟨p, 5, none⟩ v5).setCell ⟨p, 6, none⟩ v6).setCell ⟨p, 7, none⟩ v7).setCell ⟨p, 8, none⟩ v8).setCell ⟨p, 9, none⟩ v9).setCell ⟨p, 10, none⟩ v10).setCell ⟨p, 11, none⟩ v11).setCell ⟨p, 12, none⟩ v12).setCell ⟨p, 13, none⟩ v13).setCell ⟨p, 14, none⟩ v14
theorem st15_blk {w : World} {p : Nat} {t : TypeId} {a0 a1 a2 a3 a4 a5 a6 a7 a8 a9 a10 a11 a12 a13 a14 : Value} (h : Blk w p t [a0, a1, a2, a3, a4, a5, a6, a7, a8, a9, a10, a11, a12, a13, a14]) (v0 v1 v2 v3 v4 v5 v6 v7 v8 v9 v10 v11 v12 v13 v14 : Value) : Blk (st15 w p v0 v1 v2 v3 v4 v5 v6 v7 v8 v9 v10 v11 v12 v13 v14) p t [v0, v1, v2, v3, v4, v5, v6, v7, v8, v9, v10, v11, v12, v13, v14] := ((((((((((((((h.set 0 v0).set 1 v1).set 2 v2).set 3 v3).set 4 v4).set 5 v5).set 6 v6).set 7 v7).set 8 v8).set 9 v9).set 10 v10).set 11 v11).set 12 v12).set 13 v13).set 14 v14
theorem st15_turns (w : World) (p : Nat) (v0 v1 v2 v3 v4 v5 v6 v7 v8 v9 v10 v11 v12 v13 v14 : Value) : Turns (fun i => i = p) w (st15 w p v0 v1 v2 v3 v4 v5 v6 v7 v8 v9 v10 v11 v12 v13 v14) := turns_own (turns_own (turns_own (turns_own (turns_own (turns_own (turns_own (turns_own (turns_own (turns_own (turns_own (turns_own (turns_own (turns_own (turns_own (Turns.refl _ _)))))))))))))))
/-- The answer to x, of that kind. -/
def ansM (a : Ac) (x : MsM) (k : Int) (vo : Option Addr) (vc : Nat) (ys : List VoM) : MsM := ⟨k, a.node, x.frm, a.pr, x.slot, ⟨noopEn, none, 0⟩, vo, vc, ys, none, 0, [], none, 0, [], 0⟩
def AnsP (w : World) (a : Ac) (x : MsM) (k : Int) (e : Ending) (w' : World) : Prop :=
  ∃ vo vc ys, e = .returned (ansM a x k vo vc ys).val ∧ ys.map VoM.sv = (if k = 2 then fromTo a x.slot a.ks.length else []) ∧ HeldVI w' vo ys ∧ ys.length ≤ 4096 ∧ (∀ b off, vo = some ⟨b, off, none⟩ → w.heap.size ≤ b) ∧ Below w.heap.size w w'
set_option maxRecDepth 1000000 in
set_option maxHeartbeats 4000000 in
theorem AcAt.answer {w : World} {p m : Nat} {a : Ac} (h : AcAt w p m a) (x : MsM) (k : Int) : Calls Tryz.prog 12 #[.pointer (some ⟨p, 0, none⟩), x.val, .int .i64 k] w (AnsP w a x k) := by
  obtain ⟨W1, hW1⟩ : ∃ W, W = w.alloc (.cells x.cells.toArray 38) := ⟨_, rfl⟩
  obtain ⟨W, hW⟩ : ∃ W, W = W1.alloc (.cells #[.int .i64 0, .int .i64 0, .int .i64 0, .int .i64 0, .int .i64 0, .int .i64 0, .bool false, .string ⟨#[]⟩, .string ⟨#[]⟩, .int .i64 0, .slice none 0 0, .slice none 0 0, .slice none 0 0, .slice none 0 0, .int .i64 0] 38) := ⟨_, rfl⟩
  have hs1 : W1.heap.size = w.heap.size + 1 := by rw [hW1]; simp
  have hb1 : Below w.heap.size w W1 := by rw [hW1]; exact (Below.refl _ _).alloc (Nat.le_refl _) _
  have HB : Hid (Below w.heap.size w W) := by rw [hW]; exact hb1.alloc hb1.size _
  obtain ⟨bm, hbm⟩ : ∃ q, q = w.heap.size := ⟨_, rfl⟩
  obtain ⟨be, hbe⟩ : ∃ q, q = w.heap.size + 1 := ⟨_, rfl⟩
  have HKM : Hid (Blk W bm 38 x.cells) := by rw [hbm, hW, hW1]; exact (Blk.new w _ _).alloc _
  have HKE : Hid (Blk W be 38 [.int .i64 0, .int .i64 0, .int .i64 0, .int .i64 0, .int .i64 0, .int .i64 0, .bool false, .string ⟨#[]⟩, .string ⟨#[]⟩, .int .i64 0, .slice none 0 0, .slice none 0 0, .slice none 0 0, .slice none 0 0, .int .i64 0]) := by rw [hbe, hW, ← hs1]; exact Blk.new W1 _ _
  have HAT := hid (h.below HB.out)
  have HW : Hid (W = (w.alloc (.cells x.cells.toArray 38)).alloc (.cells #[.int .i64 0, .int .i64 0, .int .i64 0, .int .i64 0, .int .i64 0, .int .i64 0, .bool false, .string ⟨#[]⟩, .string ⟨#[]⟩, .int .i64 0, .slice none 0 0, .slice none 0 0, .slice none 0 0, .slice none 0 0, .int .i64 0] 38)) := by show _ = _; rw [hW, hW1]
  have HBM := hid hbm
  have HBE := hid hbe
  have HBS : Hid (w.heap.size ≤ be) := hid (by omega)
  obtain ⟨r, n, hpr⟩ : ∃ r n, a.pr = (r, n) := ⟨_, _, rfl⟩
  have HPR := hid hpr
  obtain ⟨nd, HND⟩ : ∃ q, Hid (a.node = q) := ⟨_, hid rfl⟩
  clear h hW hW1 hs1 hb1 hbm hbe hpr
  obtain ⟨kd, fr, to, ⟨br, bn⟩, sl, ⟨⟨np, tk, ct, ep, cut⟩, ao1, cap1⟩, vo, vc, vs, so, sc, seen, eo, ec, evs, ti⟩ := x
  obtain ⟨XN, HXN⟩ : ∃ m, Hid (cut.length = m) := ⟨_, hid rfl⟩
  obtain ⟨VN, HVN⟩ : ∃ m, Hid (vs.length = m) := ⟨_, hid rfl⟩
  obtain ⟨SN, HSN⟩ : ∃ m, Hid (seen.length = m) := ⟨_, hid rfl⟩
  obtain ⟨EN, HEN⟩ : ∃ m, Hid (evs.length = m) := ⟨_, hid rfl⟩
  simp only [MsM.val, MsM.cells] at HW HKM ⊢
  rw [HXN.out, HVN.out, HSN.out, HEN.out] at HW HKM
  rw [HXN.out, HVN.out, HSN.out, HEN.out]
  have HSA : Hid (∀ V, ScL W V → (ScL W V ∧ V.cell? ⟨p, 0, none⟩ = some (.int .i64 nd) ∧ V.cell? ⟨p, 1, none⟩ = some (.int .i64 r) ∧ V.cell? ⟨p, 2, none⟩ = some (.int .i64 n) ∧ V.cell? ⟨bm, 1, none⟩ = some (.int .i64 fr) ∧ V.cell? ⟨bm, 5, none⟩ = some (.int .i64 sl))) := fun V hV => by
    have h1 := (HAT.out.below hV.out).cells
    rw [HPR.out, HND.out] at h1
    have h2 := HKM.out.below hV.out HKM.out.lt
    exact ⟨hV, h1.1, h1.2.1, h1.2.2.1, h2.cell rfl, h2.cell rfl⟩
  go_enter Tryz.func12, Tryz.ntmps12
  go_wp2
  rw [← HW.out, ← HBE.out, ← HBM.out]
  go_region_held3 (fun V => ScL W V ∧ V.cell? ⟨p, 0, none⟩ = some (.int .i64 nd) ∧ V.cell? ⟨p, 1, none⟩ = some (.int .i64 r) ∧ V.cell? ⟨p, 2, none⟩ = some (.int .i64 n) ∧ V.cell? ⟨bm, 1, none⟩ = some (.int .i64 fr) ∧ V.cell? ⟨bm, 5, none⟩ = some (.int .i64 sl))
    (first | (refine ⟨?_, ?_, ?_, ?_, ?_, ?_⟩ <;> assumption) | (refine HSA.out _ ?_; (repeat (first | assumption | exact ScL.start _ | apply ScL.dr | apply ScL.alloc | refine ScL.setCell ?_ (by first | exact Nat.le_refl _ | (simp; done) | (simp; omega)) _)); done)) (fail)
  all_goals
    rename_i hHeld
    obtain ⟨V1, hV1⟩ : ∃ V, V = (W.alloc (.cells #[.int .i64 k, .int .i64 nd, .int .i64 fr, .int .i64 r, .int .i64 n, .int .i64 sl, .bool true, .string ⟨#[]⟩, .string ⟨#[]⟩, .int .i64 0, .slice none 0 0, .slice none 0 0, .slice none 0 0, .slice none 0 0, .int .i64 0] 38)).drew := ⟨_, rfl⟩
    rw [← hV1] at hHeld ⊢
    have HS1 := hid hHeld.1
    have HK1 : Hid (Blk V1 W.heap.size 38 [.int .i64 k, .int .i64 nd, .int .i64 fr, .int .i64 r, .int .i64 n, .int .i64 sl, .bool true, .string ⟨#[]⟩, .string ⟨#[]⟩, .int .i64 0, .slice none 0 0, .slice none 0 0, .slice none 0 0, .slice none 0 0, .int .i64 0]) := by rw [hV1]; exact (Blk.new W _ _).drew
    obtain ⟨bx, hbx⟩ : ∃ q, q = W.heap.size := ⟨_, rfl⟩
    have HXS : Hid (w.heap.size ≤ bx) := by rw [hbx]; exact hid HB.out.size
    have HXE : Hid (bx ≠ be) := by have := HKE.out.lt; exact hid (by omega)
    rw [← hbx] at HK1 ⊢
    have HE1 := hid (HKE.out.below HS1.out.out HKE.out.lt)
    have HM1 := hid (HKM.out.below HS1.out.out HKM.out.lt)
    have HA1 := hid (HAT.out.below HS1.out.out)
    have HBV1 := hid (bt' HB.out HS1.out.out)
    clear hHeld hV1 hbx HSA
    by_cases hk2 : k = 2
    · subst hk2
      have HVF := hid (HA1.out.votesFrom sl)
      have m5 := HM1.out.cell (i := 5) rfl
      go_wp2_with fail
      refine HVF.out.mono ?_
      rintro e w2 ⟨vo2, vc2, ys, rfl, hmap, hheld, hlen, hab, hb2⟩
      obtain ⟨YN, HYN⟩ : ∃ q, Hid (ys.length = q) := ⟨_, hid rfl⟩
      rw [HYN.out]
      have hx2 := (HK1.out.below hb2 HK1.out.lt)
      have hx3 := hx2.set 11 (.slice vo2 YN vc2)
      have he3 := (HE1.out.below hb2 HE1.out.lt).other (C := bx) (fun e => HXE.out e.symm) 11 (.slice vo2 YN vc2)
      have x11 := hx2.cell (i := 11) rfl
      have z11 := hx2.frozen 11
      have y0 := hx3.cell (i := 0) rfl
      have y1 := hx3.cell (i := 1) rfl
      have y2 := hx3.cell (i := 2) rfl
      have y3 := hx3.cell (i := 3) rfl
      have y4 := hx3.cell (i := 4) rfl
      have y5 := hx3.cell (i := 5) rfl
      have y6 := hx3.cell (i := 6) rfl
      have y7 := hx3.cell (i := 7) rfl
      have y8 := hx3.cell (i := 8) rfl
      have y9 := hx3.cell (i := 9) rfl
      have y10 := hx3.cell (i := 10) rfl
      have y11 := hx3.cell (i := 11) rfl
      have y12 := hx3.cell (i := 12) rfl
      have y13 := hx3.cell (i := 13) rfl
      have y14 := hx3.cell (i := 14) rfl
      have e0 := he3.cell (i := 0) rfl
      have e1 := he3.cell (i := 1) rfl
      have e2 := he3.cell (i := 2) rfl
      have e3 := he3.cell (i := 3) rfl
      have e4 := he3.cell (i := 4) rfl
      have e5 := he3.cell (i := 5) rfl
      have e6 := he3.cell (i := 6) rfl
      have e7 := he3.cell (i := 7) rfl
      have e8 := he3.cell (i := 8) rfl
      have e9 := he3.cell (i := 9) rfl
      have e10 := he3.cell (i := 10) rfl
      have e11 := he3.cell (i := 11) rfl
      have e12 := he3.cell (i := 12) rfl
      have e13 := he3.cell (i := 13) rfl
      have e14 := he3.cell (i := 14) rfl
      have g0 := he3.frozen 0
      have g1 := he3.frozen 1
      have g2 := he3.frozen 2
      have g3 := he3.frozen 3
      have g4 := he3.frozen 4
      have g5 := he3.frozen 5
      have g6 := he3.frozen 6
      have g7 := he3.frozen 7
      have g8 := he3.frozen 8
      have g9 := he3.frozen 9
      have g10 := he3.frozen 10
      have g11 := he3.frozen 11
      have g12 := he3.frozen 12
      have g13 := he3.frozen 13
      have g14 := he3.frozen 14
      have hT2 : Turns (fun i => i = bx) w2 (w2.setCell ⟨bx, 11, none⟩ (.slice vo2 YN vc2)) := turns_own (Turns.refl _ _)
      have HBW : Hid (Below w.heap.size w (w2.setCell ⟨bx, 11, none⟩ (.slice vo2 YN vc2))) := (bt' HBV1.out hb2).trans (hT2.below (fun i hi => by rw [hi]; exact HXS.out) (bt' HBV1.out hb2).size)
      have HHV : Hid (∀ V, Turns (fun i => i = be) (w2.setCell ⟨bx, 11, none⟩ (.slice vo2 YN vc2)) V → HeldVI V vo2 ys) := fun V hV => by
        have hne := HK1.out.lt
        have hne2 := HE1.out.lt
        exact (hheld.turned hT2 (noNum_blk hx2 (by decide)) (fun b off e hf => by have := hab b off e; omega)).turned hV (noNum_blk he3 (by decide)) (fun b off e hf => by have := hab b off e; omega)
      have HMAP := hid hmap
      have HLEN := hid hlen
      have HAB : Hid (∀ b off, vo2 = some ⟨b, off, none⟩ → w.heap.size ≤ b) := fun b off e => Nat.le_trans HBV1.out.size (hab b off e)
      have HE3 := hid he3
      clear m5 hx2 hmap hheld hlen hab hb2 HVF hx3 he3 hT2
      obtain ⟨W3, hW3⟩ : ∃ V, V = st15 (w2.setCell ⟨bx, 11, none⟩ (.slice vo2 YN vc2)) be (.int .i64 2) (.int .i64 nd) (.int .i64 fr) (.int .i64 r) (.int .i64 n) (.int .i64 sl) (.bool true) (.string ⟨#[]⟩) (.string ⟨#[]⟩) (.int .i64 0) (.slice none 0 0) (.slice vo2 YN vc2) (.slice none 0 0) (.slice none 0 0) (.int .i64 0) := ⟨_, rfl⟩
      have hk9 : Blk W3 be 38 [.int .i64 2, .int .i64 nd, .int .i64 fr, .int .i64 r, .int .i64 n, .int .i64 sl, .bool true, .string ⟨#[]⟩, .string ⟨#[]⟩, .int .i64 0, .slice none 0 0, .slice vo2 YN vc2, .slice none 0 0, .slice none 0 0, .int .i64 0] := by rw [hW3]; exact st15_blk HE3.out _ _ _ _ _ _ _ _ _ _ _ _ _ _ _
      have hT3 : Turns (fun i => i = be) (w2.setCell ⟨bx, 11, none⟩ (.slice vo2 YN vc2)) W3 := by rw [hW3]; exact st15_turns _ _ _ _ _ _ _ _ _ _ _ _ _ _ _ _ _
      have HFI : Hid (AnsP w a ⟨kd, fr, to, (br, bn), sl, ⟨⟨np, tk, ct, ep, cut⟩, ao1, cap1⟩, vo, vc, vs, so, sc, seen, eo, ec, evs, ti⟩ 2 (.returned (.agg #[.int .i64 2, .int .i64 nd, .int .i64 fr, .int .i64 r, .int .i64 n, .int .i64 sl, .bool true, .string ⟨#[]⟩, .string ⟨#[]⟩, .int .i64 0, .slice none 0 0, .slice vo2 YN vc2, .slice none 0 0, .slice none 0 0, .int .i64 0])) W3) := by
        refine ⟨vo2, vc2, ys, ?_, by rw [if_pos rfl]; exact HMAP.out, HHV.out _ hT3, HLEN.out, HAB.out, (HBW.out).trans (hT3.below (fun i hi => by rw [hi]; exact HBS.out) (HBW.out).size)⟩
        simp only [ansM, MsM.val, noopEn, List.length_nil]
        rw [HPR.out, HND.out, HYN.out]
      have k0 := hk9.cell (i := 0) rfl
      have k1 := hk9.cell (i := 1) rfl
      have k2 := hk9.cell (i := 2) rfl
      have k3 := hk9.cell (i := 3) rfl
      have k4 := hk9.cell (i := 4) rfl
      have k5 := hk9.cell (i := 5) rfl
      have k6 := hk9.cell (i := 6) rfl
      have k7 := hk9.cell (i := 7) rfl
      have k8 := hk9.cell (i := 8) rfl
      have k9 := hk9.cell (i := 9) rfl
      have k10 := hk9.cell (i := 10) rfl
      have k11 := hk9.cell (i := 11) rfl
      have k12 := hk9.cell (i := 12) rfl
      have k13 := hk9.cell (i := 13) rfl
      have k14 := hk9.cell (i := 14) rfl
      clear hk9 hT3
      go_wp2
      unfold st15 at hW3
      rw [← hW3]
      (try simp only [Exit.inBlock, Exit.then])
      refine bodyPost_ret (v := .agg #[.int .i64 2, .int .i64 nd, .int .i64 fr, .int .i64 r, .int .i64 n, .int .i64 sl, .bool true, .string ⟨#[]⟩, .string ⟨#[]⟩, .int .i64 0, .slice none 0 0, .slice vo2 YN vc2, .slice none 0 0, .slice none 0 0, .int .i64 0]) ?_ rfl HFI.out
      rw [results_cell1B rfl]
      go_simp
    · have hk2' : (k == 2) = false := by simpa using hk2
      have HK2 := hid hk2
      clear hk2
      have y0 := HK1.out.cell (i := 0) rfl
      have y1 := HK1.out.cell (i := 1) rfl
      have y2 := HK1.out.cell (i := 2) rfl
      have y3 := HK1.out.cell (i := 3) rfl
      have y4 := HK1.out.cell (i := 4) rfl
      have y5 := HK1.out.cell (i := 5) rfl
      have y6 := HK1.out.cell (i := 6) rfl
      have y7 := HK1.out.cell (i := 7) rfl
      have y8 := HK1.out.cell (i := 8) rfl
      have y9 := HK1.out.cell (i := 9) rfl
      have y10 := HK1.out.cell (i := 10) rfl
      have y11 := HK1.out.cell (i := 11) rfl
      have y12 := HK1.out.cell (i := 12) rfl
      have y13 := HK1.out.cell (i := 13) rfl
      have y14 := HK1.out.cell (i := 14) rfl
      have e0 := HE1.out.cell (i := 0) rfl
      have e1 := HE1.out.cell (i := 1) rfl
      have e2 := HE1.out.cell (i := 2) rfl
      have e3 := HE1.out.cell (i := 3) rfl
      have e4 := HE1.out.cell (i := 4) rfl
      have e5 := HE1.out.cell (i := 5) rfl
      have e6 := HE1.out.cell (i := 6) rfl
      have e7 := HE1.out.cell (i := 7) rfl
      have e8 := HE1.out.cell (i := 8) rfl
      have e9 := HE1.out.cell (i := 9) rfl
      have e10 := HE1.out.cell (i := 10) rfl
      have e11 := HE1.out.cell (i := 11) rfl
      have e12 := HE1.out.cell (i := 12) rfl
      have e13 := HE1.out.cell (i := 13) rfl
      have e14 := HE1.out.cell (i := 14) rfl
      have g0 := HE1.out.frozen 0
      have g1 := HE1.out.frozen 1
      have g2 := HE1.out.frozen 2
      have g3 := HE1.out.frozen 3
      have g4 := HE1.out.frozen 4
      have g5 := HE1.out.frozen 5
      have g6 := HE1.out.frozen 6
      have g7 := HE1.out.frozen 7
      have g8 := HE1.out.frozen 8
      have g9 := HE1.out.frozen 9
      have g10 := HE1.out.frozen 10
      have g11 := HE1.out.frozen 11
      have g12 := HE1.out.frozen 12
      have g13 := HE1.out.frozen 13
      have g14 := HE1.out.frozen 14
      obtain ⟨W3, hW3⟩ : ∃ V, V = st15 V1 be (.int .i64 k) (.int .i64 nd) (.int .i64 fr) (.int .i64 r) (.int .i64 n) (.int .i64 sl) (.bool true) (.string ⟨#[]⟩) (.string ⟨#[]⟩) (.int .i64 0) (.slice none 0 0) (.slice none 0 0) (.slice none 0 0) (.slice none 0 0) (.int .i64 0) := ⟨_, rfl⟩
      have hk9 : Blk W3 be 38 [.int .i64 k, .int .i64 nd, .int .i64 fr, .int .i64 r, .int .i64 n, .int .i64 sl, .bool true, .string ⟨#[]⟩, .string ⟨#[]⟩, .int .i64 0, .slice none 0 0, .slice none 0 0, .slice none 0 0, .slice none 0 0, .int .i64 0] := by rw [hW3]; exact st15_blk HE1.out _ _ _ _ _ _ _ _ _ _ _ _ _ _ _
      have hT3 : Turns (fun i => i = be) V1 W3 := by rw [hW3]; exact st15_turns _ _ _ _ _ _ _ _ _ _ _ _ _ _ _ _ _
      have HFI : Hid (AnsP w a ⟨kd, fr, to, (br, bn), sl, ⟨⟨np, tk, ct, ep, cut⟩, ao1, cap1⟩, vo, vc, vs, so, sc, seen, eo, ec, evs, ti⟩ k (.returned (.agg #[.int .i64 k, .int .i64 nd, .int .i64 fr, .int .i64 r, .int .i64 n, .int .i64 sl, .bool true, .string ⟨#[]⟩, .string ⟨#[]⟩, .int .i64 0, .slice none 0 0, .slice none 0 0, .slice none 0 0, .slice none 0 0, .int .i64 0])) W3) := by
        refine ⟨none, 0, [], ?_, by rw [if_neg HK2.out]; rfl, ⟨⟨fun _ h => (by cases h), .inl rfl⟩, fun _ h => (by cases h)⟩, Nat.zero_le _, fun _ _ h => (by cases h), (HBV1.out).trans (hT3.below (fun i hi => by rw [hi]; exact HBS.out) (HBV1.out).size)⟩
        simp only [ansM, MsM.val, noopEn, List.length_nil]
        rw [HPR.out, HND.out]
      have k0 := hk9.cell (i := 0) rfl
      have k1 := hk9.cell (i := 1) rfl
      have k2 := hk9.cell (i := 2) rfl
      have k3 := hk9.cell (i := 3) rfl
      have k4 := hk9.cell (i := 4) rfl
      have k5 := hk9.cell (i := 5) rfl
      have k6 := hk9.cell (i := 6) rfl
      have k7 := hk9.cell (i := 7) rfl
      have k8 := hk9.cell (i := 8) rfl
      have k9 := hk9.cell (i := 9) rfl
      have k10 := hk9.cell (i := 10) rfl
      have k11 := hk9.cell (i := 11) rfl
      have k12 := hk9.cell (i := 12) rfl
      have k13 := hk9.cell (i := 13) rfl
      have k14 := hk9.cell (i := 14) rfl
      clear hk9 hT3
      go_wp2
      unfold st15 at hW3
      rw [← hW3]
      (try simp only [Exit.inBlock, Exit.then])
      refine bodyPost_ret (v := .agg #[.int .i64 k, .int .i64 nd, .int .i64 fr, .int .i64 r, .int .i64 n, .int .i64 sl, .bool true, .string ⟨#[]⟩, .string ⟨#[]⟩, .int .i64 0, .slice none 0 0, .slice none 0 0, .slice none 0 0, .slice none 0 0, .int .i64 0]) ?_ rfl HFI.out
      rw [results_cell1B rfl]
      go_simp
end Go.Proofs.YthcpopigkbefhaaGreat
