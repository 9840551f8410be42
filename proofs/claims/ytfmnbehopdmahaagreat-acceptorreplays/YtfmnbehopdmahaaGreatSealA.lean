/-
  Package acceptor: answer.
-/
import Derived.Test.YtfmnbehopdmahaaGreatAcH
import Derived.Test.YtfmnbehopdmahaaGreatAcF
import Derived.Test.YtfmnbehopdmahaaGreatCodA
namespace Go.Proofs.YtfmnbehopdmahaaGreat
open Go.RowKit Go.Maps

/-- A block of fifteen cells stored anew. -/
def st15 (w : World) (p : Nat) (v0 v1 v2 v3 v4 v5 v6 v7 v8 v9 v10 v11 v12 v13 v14 : Value) : World := ((((((((((((((w.setCell ⟨p, 0, none⟩ v0).setCell ⟨p, 1, none⟩ v1).setCell ⟨p, 2, none⟩ v2).setCell ⟨p, 3, none⟩ v3).setCell ⟨p, 4, none⟩ v4).setCell ⟨p, 5, none⟩ v5).setCell ⟨p, 6, none⟩ v6).setCell ⟨p, 7, none⟩ v7).setCell ⟨p, 8, none⟩ v8).setCell ⟨p, 9, none⟩ v9).setCell ⟨p, 10, none⟩ v10).setCell ⟨p, 11, none⟩ v11).setCell ⟨p, 12, none⟩ v12).setCell ⟨p, 13, none⟩ v13).setCell ⟨p, 14, none⟩ v14
theorem st15_blk {w : World} {p : Nat} {t : TypeId} {a0 a1 a2 a3 a4 a5 a6 a7 a8 a9 a10 a11 a12 a13 a14 : Value} (h : Blk w p t [a0, a1, a2, a3, a4, a5, a6, a7, a8, a9, a10, a11, a12, a13, a14]) (v0 v1 v2 v3 v4 v5 v6 v7 v8 v9 v10 v11 v12 v13 v14 : Value) : Blk (st15 w p v0 v1 v2 v3 v4 v5 v6 v7 v8 v9 v10 v11 v12 v13 v14) p t [v0, v1, v2, v3, v4, v5, v6, v7, v8, v9, v10, v11, v12, v13, v14] := ((((((((((((((h.set 0 v0).set 1 v1).set 2 v2).set 3 v3).set 4 v4).set 5 v5).set 6 v6).set 7 v7).set 8 v8).set 9 v9).set 10 v10).set 11 v11).set 12 v12).set 13 v13).set 14 v14
theorem st15_turns (w : World) (p : Nat) (v0 v1 v2 v3 v4 v5 v6 v7 v8 v9 v10 v11 v12 v13 v14 : Value) : Turns (fun i => i = p) w (st15 w p v0 v1 v2 v3 v4 v5 v6 v7 v8 v9 v10 v11 v12 v13 v14) := turns_own (turns_own (turns_own (turns_own (turns_own (turns_own (turns_own (turns_own (turns_own (turns_own (turns_own (turns_own (turns_own (turns_own (turns_own (Turns.refl _ _)))))))))))))))
/-- The answer to x, of that kind. -/
def ansM (a : Ac) (x : MsM) (k : Int) (vo : Option Addr) (vc : Nat) (ys : List VoM) : MsM := ⟨k, a.node, x.frm, a.pr, x.slot, ⟨noopEn, none, 0⟩, vo, vc, ys, none, 0, [], none, 0, [], 0⟩
def AnsP (w : World) (a : Ac) (x : MsM) (k : Int) (e : Ending) (w' : World) : Prop :=
  ∃ vo vc ys, e = .returned (ansM a x k vo vc ys).val ∧ ys.map VoM.sv = (if k = 2 then fromTo a x.slot a.ks.length else []) ∧ HeldVI w' vo ys ∧ ys.length ≤ 4096 ∧ (∀ b off, vo = some ⟨b, off, none⟩ → w.heap.size ≤ b) ∧ Below w.heap.size w w'
set_option maxRecDepth 1000000 in
set_option maxHeartbeats 4000000 in
theorem AcAt.answer {w : World} {p m : Nat} {a : Ac} (h : AcAt w p m a) (x : MsM) (k : Int) : Calls Tryz.prog 20 #[.pointer (some ⟨p, 0, none⟩), x.val, .int .i64 k] w (AnsP w a x k) := by
  obtain ⟨W1, hW1⟩ : ∃ W, W = w.alloc (.cells x.cells.toArray 43) := ⟨_, rfl⟩
  obtain ⟨W, hW⟩ : ∃ W, W = W1.alloc (.cells #[.int .i64 0, .int .i64 0, .int .i64 0, .int .i64 0, .int .i64 0, .int .i64 0, .bool false, .string ⟨#[]⟩, .string ⟨#[]⟩, .int .i64 0, .slice none 0 0, .slice none 0 0, .slice none 0 0, .slice none 0 0, .int .i64 0] 43) := ⟨_, rfl⟩
  have hs1 : W1.heap.size = w.heap.size + 1 := by rw [hW1]; simp
  have hb1 : Below w.heap.size w W1 := by rw [hW1]; exact (Below.refl _ _).alloc (Nat.le_refl _) _
  have HB : Hid (Below w.heap.size w W) := by rw [hW]; exact hb1.alloc hb1.size _
  obtain ⟨bm, hbm⟩ : ∃ q, q = w.heap.size := ⟨_, rfl⟩
  obtain ⟨be, hbe⟩ : ∃ q, q = w.heap.size + 1 := ⟨_, rfl⟩
  have HKM : Hid (Blk W bm 43 x.cells) := by rw [hbm, hW, hW1]; exact (Blk.new w _ _).alloc _
  have HKE : Hid (Blk W be 43 [.int .i64 0, .int .i64 0, .int .i64 0, .int .i64 0, .int .i64 0, .int .i64 0, .bool false, .string ⟨#[]⟩, .string ⟨#[]⟩, .int .i64 0, .slice none 0 0, .slice none 0 0, .slice none 0 0, .slice none 0 0, .int .i64 0]) := by rw [hbe, hW, ← hs1]; exact Blk.new W1 _ _
  have HAT := hid (h.below HB.out)
  have HW : Hid (W = (w.alloc (.cells x.cells.toArray 43)).alloc (.cells #[.int .i64 0, .int .i64 0, .int .i64 0, .int .i64 0, .int .i64 0, .int .i64 0, .bool false, .string ⟨#[]⟩, .string ⟨#[]⟩, .int .i64 0, .slice none 0 0, .slice none 0 0, .slice none 0 0, .slice none 0 0, .int .i64 0] 43)) := by show _ = _; rw [hW, hW1]
  have HBM := hid hbm
  have HBE := hid hbe
  have HBS : Hid (w.heap.size ≤ be) := hid (by omega)
  obtain ⟨r, n, hpr⟩ : ∃ r n, a.pr = (r, n) := ⟨_, _, rfl⟩
  have HPR := hid hpr
  obtain ⟨nd, HND⟩ : ∃ q, Hid (a.node = q) := ⟨_, hid rfl⟩
  clear h hW hW1 hs1 hb1 hbm hbe hpr
  obtain ⟨kd, fr, to, ⟨br, bn⟩, sl, ⟨⟨np, tk, ct, ep, cut⟩, ao1, cap1⟩, vo, vc, vs, so, sc, seen, eo, ec, evs, ti⟩ := x
  obtain ⟨XN, HXN⟩ : ∃ m, Hid (cut.length = m) := ⟨_, hid rfl⟩
  obtain ⟨VN, HVN⟩ : ∃ m, Hid (vs.length = m) := ⟨_, hid rfl⟩
  obtain ⟨SN, HSN⟩ : ∃ m, Hid (seen.length = m) := ⟨_, hid rfl⟩
  obtain ⟨EN, HEN⟩ : ∃ m, Hid (evs.length = m) := ⟨_, hid rfl⟩
  simp only [MsM.val, MsM.cells] at HW HKM ⊢
  rw [HXN.out, HVN.out, HSN.out, HEN.out] at HW HKM
  rw [HXN.out, HVN.out, HSN.out, HEN.out]
  have HSA : Hid (∀ V, ScL W V → (ScL W V ∧ V.cell? ⟨p, 0, none⟩ = some (.int .i64 nd) ∧ V.cell? ⟨p, 1, none⟩ = some (.int .i64 r) ∧ V.cell? ⟨p, 2, none⟩ = some (.int .i64 n) ∧ V.cell? ⟨bm, 1, none⟩ = some (.int .i64 fr) ∧ V.cell? ⟨bm, 5, none⟩ = some (.int .i64 sl))) := fun V hV => by
    have h1 := (HAT.out.below hV.out).cells
    rw [HPR.out, HND.out] at h1
    have h2 := HKM.out.below hV.out HKM.out.lt
    exact ⟨hV, h1.1, h1.2.1, h1.2.2.1, h2.cell rfl, h2.cell rfl⟩
  go_enter Tryz.func20, Tryz.ntmps20
  go_wp2
  rw [← HW.out, ← HBE.out, ← HBM.out]
  go_region_held3 (fun V => ScL W V ∧ V.cell? ⟨p, 0, none⟩ = some (.int .i64 nd) ∧ V.cell? ⟨p, 1, none⟩ = some (.int .i64 r) ∧ V.cell? ⟨p, 2, none⟩ = some (.int .i64 n) ∧ V.cell? ⟨bm, 1, none⟩ = some (.int .i64 fr) ∧ V.cell? ⟨bm, 5, none⟩ = some (.int .i64 sl))
    (first | (refine ⟨?_, ?_, ?_, ?_, ?_, ?_⟩ <;> assumption) | (refine HSA.out _ ?_; (repeat (first | assumption | exact ScL.start _ | apply ScL.dr | apply ScL.alloc | refine ScL.setCell ?_ (by first | exact Nat.le_refl _ | (simp; done) | (simp; omega)) _)); done)) (fail)
  all_goals
    rename_i hHeld
    obtain ⟨V1, hV1⟩ : ∃ V, V = (W.alloc (.cells #[.int .i64 k, .int .i64 nd, .int .i64 fr, .int .i64 r, .int .i64 n, .int .i64 sl, .bool true, .string ⟨#[]⟩, .string ⟨#[]⟩, .int .i64 0, .slice none 0 0, .slice none 0 0, .slice none 0 0, .slice none 0 0, .int .i64 0] 43)).drew := ⟨_, rfl⟩
    rw [← hV1] at hHeld ⊢
    have HS1 := hid hHeld.1
    have HK1 : Hid (Blk V1 W.heap.size 43 [.int .i64 k, .int .i64 nd, .int .i64 fr, .int .i64 r, .int .i64 n, .int .i64 sl, .bool true, .string ⟨#[]⟩, .string ⟨#[]⟩, .int .i64 0, .slice none 0 0, .slice none 0 0, .slice none 0 0, .slice none 0 0, .int .i64 0]) := by rw [hV1]; exact (Blk.new W _ _).drew
    obtain ⟨bx, hbx⟩ : ∃ q, q = W.heap.size := ⟨_, rfl⟩
    have HXS : Hid (w.heap.size ≤ bx) := by rw [hbx]; exact hid HB.out.size
    have HXE : Hid (bx ≠ be) := by have := HKE.out.lt; exact hid (by omega)
    rw [← hbx] at HK1 ⊢
    have HE1 := hid (HKE.out.below HS1.out.out HKE.out.lt)
    have HM1 := hid (HKM.out.below HS1.out.out HKM.out.lt)
    have HA1 := hid (HAT.out.below HS1.out.out)
    have HBV1 := hid (bt' HB.out HS1.out.out)
    clear hHeld hV1 hbx HSA
    by_cases hk2 : k = 2
    · subst hk2
      have HVF := hid (HA1.out.votesFrom sl)
      have m5 := HM1.out.cell (i := 5) rfl
      go_wp2_with fail
      refine HVF.out.mono ?_
      rintro e w2 ⟨vo2, vc2, ys, rfl, hmap, hheld, hlen, hab, hb2⟩
      obtain ⟨YN, HYN⟩ : ∃ q, Hid (ys.length = q) := ⟨_, hid rfl⟩
      rw [HYN.out]
      have hx2 := (HK1.out.below hb2 HK1.out.lt)
      have hx3 := hx2.set 11 (.slice vo2 YN vc2)
      have he3 := (HE1.out.below hb2 HE1.out.lt).other (C := bx) (fun e => HXE.out e.symm) 11 (.slice vo2 YN vc2)
      have x11 := hx2.cell (i := 11) rfl
      have z11 := hx2.frozen 11
      have y0 := hx3.cell (i := 0) rfl
      have y1 := hx3.cell (i := 1) rfl
      have y2 := hx3.cell (i := 2) rfl
      have y3 := hx3.cell (i := 3) rfl
      have y4 := hx3.cell (i := 4) rfl
      have y5 := hx3.cell (i := 5) rfl
      have y6 := hx3.cell (i := 6) rfl
      have y7 := hx3.cell (i := 7) rfl
      have y8 := hx3.cell (i := 8) rfl
      have y9 := hx3.cell (i := 9) rfl
      have y10 := hx3.cell (i := 10) rfl
      have y11 := hx3.cell (i := 11) rfl
      have y12 := hx3.cell (i := 12) rfl
      have y13 := hx3.cell (i := 13) rfl
      have y14 := hx3.cell (i := 14) rfl
      have e0 := he3.cell (i := 0) rfl
      have e1 := he3.cell (i := 1) rfl
      have e2 := he3.cell (i := 2) rfl
      have e3 := he3.cell (i := 3) rfl
      have e4 := he3.cell (i := 4) rfl
      have e5 := he3.cell (i := 5) rfl
      have e6 := he3.cell (i := 6) rfl
      have e7 := he3.cell (i := 7) rfl
      have e8 := he3.cell (i := 8) rfl
      have e9 := he3.cell (i := 9) rfl
      have e10 := he3.cell (i := 10) rfl
      have e11 := he3.cell (i := 11) rfl
      have e12 := he3.cell (i := 12) rfl
      have e13 := he3.cell (i := 13) rfl
      have e14 := he3.cell (i := 14) rfl
      have g0 := he3.frozen 0
      have g1 := he3.frozen 1
      have g2 := he3.frozen 2
      have g3 := he3.frozen 3
      have g4 := he3.frozen 4
      have g5 := he3.frozen 5
      have g6 := he3.frozen 6
      have g7 := he3.frozen 7
      have g8 := he3.frozen 8
      have g9 := he3.frozen 9
      have g10 := he3.frozen 10
      have g11 := he3.frozen 11
      have g12 := he3.frozen 12
      have g13 := he3.frozen 13
      have g14 := he3.frozen 14
      have hT2 : Turns (fun i => i = bx) w2 (w2.setCell ⟨bx, 11, none⟩ (.slice vo2 YN vc2)) := turns_own (Turns.refl _ _)
      have HBW : Hid (Below w.heap.size w (w2.setCell ⟨bx, 11, none⟩ (.slice vo2 YN vc2))) := (bt' HBV1.out hb2).trans (hT2.below (fun i hi => by rw [hi]; exact HXS.out) (bt' HBV1.out hb2).size)
      have HHV : Hid (∀ V, Turns (fun i => i = be) (w2.setCell ⟨bx, 11, none⟩ (.slice vo2 YN vc2)) V → HeldVI V vo2 ys) := fun V hV => by
        have hne := HK1.out.lt
        have hne2 := HE1.out.lt
        exact (hheld.turned hT2 (noNum_blk hx2 (by decide)) (fun b off e hf => by have := hab b off e; omega)).turned hV (noNum_blk he3 (by decide)) (fun b off e hf => by have := hab b off e; omega)
      have HMAP := hid hmap
      have HLEN := hid hlen
      have HAB : Hid (∀ b off, vo2 = some ⟨b, off, none⟩ → w.heap.size ≤ b) := fun b off e => Nat.le_trans HBV1.out.size (hab b off e)
      have HE3 := hid he3
      clear m5 hx2 hmap hheld hlen hab hb2 HVF hx3 he3 hT2
      obtain ⟨W3, hW3⟩ : ∃ V, V = st15 (w2.setCell ⟨bx, 11, none⟩ (.slice vo2 YN vc2)) be (.int .i64 2) (.int .i64 nd) (.int .i64 fr) (.int .i64 r) (.int .i64 n) (.int .i64 sl) (.bool true) (.string ⟨#[]⟩) (.string ⟨#[]⟩) (.int .i64 0) (.slice none 0 0) (.slice vo2 YN vc2) (.slice none 0 0) (.slice none 0 0) (.int .i64 0) := ⟨_, rfl⟩
      have hk9 : Blk W3 be 43 [.int .i64 2, .int .i64 nd, .int .i64 fr, .int .i64 r, .int .i64 n, .int .i64 sl, .bool true, .string ⟨#[]⟩, .string ⟨#[]⟩, .int .i64 0, .slice none 0 0, .slice vo2 YN vc2, .slice none 0 0, .slice none 0 0, .int .i64 0] := by rw [hW3]; exact st15_blk HE3.out _ _ _ _ _ _ _ _ _ _ _ _ _ _ _
      have hT3 : Turns (fun i => i = be) (w2.setCell ⟨bx, 11, none⟩ (.slice vo2 YN vc2)) W3 := by rw [hW3]; exact st15_turns _ _ _ _ _ _ _ _ _ _ _ _ _ _ _ _ _
      have HFI : Hid (AnsP w a ⟨kd, fr, to, (br, bn), sl, ⟨⟨np, tk, ct, ep, cut⟩, ao1, cap1⟩, vo, vc, vs, so, sc, seen, eo, ec, evs, ti⟩ 2 (.returned (.agg #[.int .i64 2, .int .i64 nd, .int .i64 fr, .int .i64 r, .int .i64 n, .int .i64 sl, .bool true, .string ⟨#[]⟩, .string ⟨#[]⟩, .int .i64 0, .slice none 0 0, .slice vo2 YN vc2, .slice none 0 0, .slice none 0 0, .int .i64 0])) W3) := by
        refine ⟨vo2, vc2, ys, ?_, by rw [if_pos rfl]; exact HMAP.out, HHV.out _ hT3, HLEN.out, HAB.out, (HBW.out).trans (hT3.below (fun i hi => by rw [hi]; exact HBS.out) (HBW.out).size)⟩
        simp only [ansM, MsM.val, noopEn, List.length_nil]
        rw [HPR.out, HND.out, HYN.out]
      have k0 := hk9.cell (i := 0) rfl
      have k1 := hk9.cell (i := 1) rfl
      have k2 := hk9.cell (i := 2) rfl
      have k3 := hk9.cell (i := 3) rfl
      have k4 := hk9.cell (i := 4) rfl
      have k5 := hk9.cell (i := 5) rfl
      have k6 := hk9.cell (i := 6) rfl
      have k7 := hk9.cell (i := 7) rfl
      have k8 := hk9.cell (i := 8) rfl
      have k9 := hk9.cell (i := 9) rfl
      have k10 := hk9.cell (i := 10) rfl
      have k11 := hk9.cell (i := 11) rfl
      have k12 := hk9.cell (i := 12) rfl
      have k13 := hk9.cell (i := 13) rfl
      have k14 := hk9.cell (i := 14) rfl
      clear hk9 hT3
      go_wp2
      unfold st15 at hW3
      rw [← hW3]
      (try simp only [Exit.inBlock, Exit.then])
      refine bodyPost_ret (v := .agg #[.int .i64 2, .int .i64 nd, .int .i64 fr, .int .i64 r, .int .i64 n, .int .i64 sl, .bool true, .string ⟨#[]⟩, .string ⟨#[]⟩, .int .i64 0, .slice none 0 0, .slice vo2 YN vc2, .slice none 0 0, .slice none 0 0, .int .i64 0]) ?_ rfl HFI.out
      rw [results_cell1B rfl]
      go_simp
    · have hk2' : (k == 2) = false := by simpa using hk2
      have HK2 := hid hk2
      clear hk2
      have y0 := HK1.out.cell (i := 0) rfl
      have y1 := HK1.out.cell (i := 1) rfl
      have y2 := HK1.out.cell (i := 2) rfl
      have y3 := HK1.out.cell (i := 3) rfl
      have y4 := HK1.out.cell (i := 4) rfl
      have y5 := HK1.out.cell (i := 5) rfl
      have y6 := HK1.out.cell (i := 6) rfl
      have y7 := HK1.out.cell (i := 7) rfl
      have y8 := HK1.out.cell (i := 8) rfl
      have y9 := HK1.out.cell (i := 9) rfl
      have y10 := HK1.out.cell (i := 10) rfl
      have y11 := HK1.out.cell (i := 11) rfl
      have y12 := HK1.out.cell (i := 12) rfl
      have y13 := HK1.out.cell (i := 13) rfl
      have y14 := HK1.out.cell (i := 14) rfl
      have e0 := HE1.out.cell (i := 0) rfl
      have e1 := HE1.out.cell (i := 1) rfl
      have e2 := HE1.out.cell (i := 2) rfl
      have e3 := HE1.out.cell (i := 3) rfl
      have e4 := HE1.out.cell (i := 4) rfl
      have e5 := HE1.out.cell (i := 5) rfl
      have e6 := HE1.out.cell (i := 6) rfl
      have e7 := HE1.out.cell (i := 7) rfl
      have e8 := HE1.out.cell (i := 8) rfl
      have e9 := HE1.out.cell (i := 9) rfl
      have e10 := HE1.out.cell (i := 10) rfl
      have e11 := HE1.out.cell (i := 11) rfl
      have e12 := HE1.out.cell (i := 12) rfl
      have e13 := HE1.out.cell (i := 13) rfl
      have e14 := HE1.out.cell (i := 14) rfl
      have g0 := HE1.out.frozen 0
      have g1 := HE1.out.frozen 1
      have g2 := HE1.out.frozen 2
      have g3 := HE1.out.frozen 3
      have g4 := HE1.out.frozen 4
      have g5 := HE1.out.frozen 5
      have g6 := HE1.out.frozen 6
      have g7 := HE1.out.frozen 7
      have g8 := HE1.out.frozen 8
      have g9 := HE1.out.frozen 9
      have g10 := HE1.out.frozen 10
      have g11 := HE1.out.frozen 11
      have g12 := HE1.out.frozen 12
      have g13 := HE1.out.frozen 13
      have g14 := HE1.out.frozen 14
      obtain ⟨W3, hW3⟩ : ∃ V, V = st15 V1 be (.int .i64 k) (.int .i64 nd) (.int .i64 fr) (.int .i64 r) (.int .i64 n) (.int .i64 sl) (.bool true) (.string ⟨#[]⟩) (.string ⟨#[]⟩) (.int .i64 0) (.slice none 0 0) (.slice none 0 0) (.slice none 0 0) (.slice none 0 0) (.int .i64 0) := ⟨_, rfl⟩
      have hk9 : Blk W3 be 43 [.int .i64 k, .int .i64 nd, .int .i64 fr, .int .i64 r, .int .i64 n, .int .i64 sl, .bool true, .string ⟨#[]⟩, .string ⟨#[]⟩, .int .i64 0, .slice none 0 0, .slice none 0 0, .slice none 0 0, .slice none 0 0, .int .i64 0] := by rw [hW3]; exact st15_blk HE1.out _ _ _ _ _ _ _ _ _ _ _ _ _ _ _
      have hT3 : Turns (fun i => i = be) V1 W3 := by rw [hW3]; exact st15_turns _ _ _ _ _ _ _ _ _ _ _ _ _ _ _ _ _
      have HFI : Hid (AnsP w a ⟨kd, fr, to, (br, bn), sl, ⟨⟨np, tk, ct, ep, cut⟩, ao1, cap1⟩, vo, vc, vs, so, sc, seen, eo, ec, evs, ti⟩ k (.returned (.agg #[.int .i64 k, .int .i64 nd, .int .i64 fr, .int .i64 r, .int .i64 n, .int .i64 sl, .bool true, .string ⟨#[]⟩, .string ⟨#[]⟩, .int .i64 0, .slice none 0 0, .slice none 0 0, .slice none 0 0, .slice none 0 0, .int .i64 0])) W3) := by
        refine ⟨none, 0, [], ?_, by rw [if_neg HK2.out]; rfl, ⟨⟨fun _ h => (by cases h), .inl rfl⟩, fun _ h => (by cases h)⟩, Nat.zero_le _, fun _ _ h => (by cases h), (HBV1.out).trans (hT3.below (fun i hi => by rw [hi]; exact HBS.out) (HBV1.out).size)⟩
        simp only [ansM, MsM.val, noopEn, List.length_nil]
        rw [HPR.out, HND.out]
      have k0 := hk9.cell (i := 0) rfl
      have k1 := hk9.cell (i := 1) rfl
      have k2 := hk9.cell (i := 2) rfl
      have k3 := hk9.cell (i := 3) rfl
      have k4 := hk9.cell (i := 4) rfl
      have k5 := hk9.cell (i := 5) rfl
      have k6 := hk9.cell (i := 6) rfl
      have k7 := hk9.cell (i := 7) rfl
      have k8 := hk9.cell (i := 8) rfl
      have k9 := hk9.cell (i := 9) rfl
      have k10 := hk9.cell (i := 10) rfl
      have k11 := hk9.cell (i := 11) rfl
      have k12 := hk9.cell (i := 12) rfl
      have k13 := hk9.cell (i := 13) rfl
      have k14 := hk9.cell (i := 14) rfl
      clear hk9 hT3
      go_wp2
      unfold st15 at hW3
      rw [← hW3]
      (try simp only [Exit.inBlock, Exit.then])
      refine bodyPost_ret (v := .agg #[.int .i64 k, .int .i64 nd, .int .i64 fr, .int .i64 r, .int .i64 n, .int .i64 sl, .bool true, .string ⟨#[]⟩, .string ⟨#[]⟩, .int .i64 0, .slice none 0 0, .slice none 0 0, .slice none 0 0, .slice none 0 0, .int .i64 0]) ?_ rfl HFI.out
      rw [results_cell1B rfl]
      go_simp
end Go.Proofs.YtfmnbehopdmahaaGreat
/-
  Package acceptor: On.
-/
namespace Go.Proofs.YtfmnbehopdmahaaGreat
open Go.RowKit Go.Maps

theorem results_cellA3 {fn : Func} {p u v : Tmp} {ty : TypeId} (h : fn.results = #[.cell p ty, .tmp u, .tmp v]) (tmps : Array Value) (P : Program) (w : World) :
    (results fn tmps).run P w = ((asAddr (tmps.getD p undef)).run P w).andThen fun a w₁ => ((loadVar ty a).run P w₁).andThen fun x w₂ => .ok (.tuple #[x, tmps.getD u undef, tmps.getD v undef]) w₂ := by
  simp only [results, h]
  simp [Sem.run_bind, Result.andThen]
/-- What On leaves. -/
def OnP (w : World) (p m : Nat) (a : Ac) (x : MsM) (e : Ending) (w' : World) : Prop :=
  if takesA a x = true then ∃ vo vc ys, e = .returned (.tuple #[(ansM (afterA a x) x (kindA a x) vo vc ys).val, .string (if changesA a x = true then recOf x else ⟨#[]⟩), .bool true]) ∧ ys.map VoM.sv = (if kindA a x = 2 then fromTo (afterA a x) x.slot (afterA a x).ks.length else []) ∧ (HeldVI w' vo ys ∧ ∀ b off, vo = some ⟨b, off, none⟩ → w.heap.size ≤ b) ∧ ys.length ≤ 4096 ∧ AcAt w' p m (afterA a x) ∧ Turns (FootA p m) w w'
  else e = .returned (.tuple #[.agg #[.int .i64 0, .int .i64 0, .int .i64 0, .int .i64 0, .int .i64 0, .int .i64 0, .bool false, .string ⟨#[]⟩, .string ⟨#[]⟩, .int .i64 0, .slice none 0 0, .slice none 0 0, .slice none 0 0, .slice none 0 0, .int .i64 0], .string ⟨#[]⟩, .bool false]) ∧ AcAt w' p m a ∧ Below w.heap.size w w'
theorem does_prep {W : World} {p m : Nat} {a : Ac} {x : MsM} {ba bm : Nat} (h : AcAt W p m a) (hA : Blk W ba 24 [.pointer (some ⟨p, 0, none⟩)]) (hM : Blk W bm 43 x.cells) (hr : RightMs x = true) (hk : kindA a x = 2) : Calls Tryz.prog 89 #[.pointer (some ⟨bm, 0, none⟩), .pointer (some ⟨ba, 0, none⟩)] W fun e w' => e = .returned (.tuple #[]) ∧ AcAt w' p m (afterA a x) ∧ Turns (FootA p m) W w' := by
  have hc : ¬ 0 < cmpB a.pr x.bal := fun hh => by unfold kindA at hk; rw [if_pos hh] at hk; cases hk
  refine (onPrepare1A h hA hM (rightMs_bal hr).1 hc).mono ?_
  rintro e w' ⟨rfl, h1, h2⟩
  exact ⟨rfl, by unfold afterA; rw [if_pos hk]; exact h1, h2.mono (fun i hi => .inl hi)⟩
theorem does_acc {W : World} {p m : Nat} {a : Ac} {x : MsM} {ba bm : Nat} (h : AcAt W p m a) (hA : Blk W ba 24 [.pointer (some ⟨p, 0, none⟩)]) (hM : Blk W bm 43 x.cells) (hx : MsOk W x) (hsep : ∀ b off, x.en.ao = some ⟨b, off, none⟩ → x.en.e.cut ≠ [] → b ≠ p) (hr : RightMs x = true) (hk : kindA a x = 4) : Calls Tryz.prog 91 #[.pointer (some ⟨bm, 0, none⟩), .pointer (some ⟨ba, 0, none⟩)] W fun e w' => e = .returned (.tuple #[]) ∧ AcAt w' p m (afterA a x) ∧ Turns (FootA p m) W w' := by
  have hc : ¬ RefusedA a x := fun hh => by
    unfold kindA at hk
    rcases hh with hh | hh
    · rw [if_pos hh] at hk; cases hk
    · split at hk
      · cases hk
      · split at hk
        · cases hk
        · exact absurd hk (by decide)
  refine (onAccept1A h hA hM hx hsep hr hc).mono ?_
  rintro e w' ⟨rfl, h1, h2⟩
  exact ⟨rfl, by unfold afterA; rw [if_neg (by rw [hk]; decide), if_pos hk]; exact h1, h2⟩
theorem does_no {W : World} {p m : Nat} {a : Ac} {x : MsM} (h : AcAt W p m a) (hk : kindA a x = 5) : Calls Tryz.prog 139 #[] W fun e w' => e = .returned (.tuple #[]) ∧ AcAt w' p m (afterA a x) ∧ Turns (FootA p m) W w' := by
  refine (refusal1A W).mono ?_
  rintro e w' ⟨rfl, rfl⟩
  refine ⟨rfl, ?_, Turns.refl _ _⟩
  unfold afterA
  rw [if_neg (by rw [hk]; decide), if_neg (by rw [hk]; decide)]
  exact h
theorem takesA_right {a : Ac} {x : MsM} (h : takesA a x = true) : RightMs x = true := by
  unfold takesA at h
  simp only [Bool.and_eq_true] at h
  exact h.2.2.1
set_option maxRecDepth 1000000 in
set_option maxHeartbeats 8000000 in
theorem AcAt.on_no {w : World} {p m : Nat} {a : Ac} (h : AcAt w p m a) (x : MsM) (hx : MsOk w x) (hsep : ∀ b off, x.en.ao = some ⟨b, off, none⟩ → x.en.e.cut ≠ [] → b ≠ p) (hyp0 : ¬ takesA a x = true) : Calls Tryz.prog 9 #[.pointer (some ⟨p, 0, none⟩), x.val] w (OnP w p m a x) := by
  obtain ⟨W1, hW1⟩ : ∃ W, W = w.alloc (.cells x.cells.toArray 43) := ⟨_, rfl⟩
  obtain ⟨W, hW⟩ : ∃ W, W = W1.alloc (.cells #[.int .i64 0, .int .i64 0, .int .i64 0, .int .i64 0, .int .i64 0, .int .i64 0, .bool false, .string ⟨#[]⟩, .string ⟨#[]⟩, .int .i64 0, .slice none 0 0, .slice none 0 0, .slice none 0 0, .slice none 0 0, .int .i64 0] 43) := ⟨_, rfl⟩
  have hs1 : W1.heap.size = w.heap.size + 1 := by rw [hW1]; simp
  have hb1 : Below w.heap.size w W1 := by rw [hW1]; exact (Below.refl _ _).alloc (Nat.le_refl _) _
  have HB : Hid (Below w.heap.size w W) := by rw [hW]; exact hb1.alloc hb1.size _
  obtain ⟨bm, hbm⟩ : ∃ q, q = w.heap.size := ⟨_, rfl⟩
  obtain ⟨be, hbe⟩ : ∃ q, q = w.heap.size + 1 := ⟨_, rfl⟩
  have HKM : Hid (Blk W bm 43 x.cells) := by rw [hbm, hW, hW1]; exact (Blk.new w _ _).alloc _
  have HKE : Hid (Blk W be 43 [.int .i64 0, .int .i64 0, .int .i64 0, .int .i64 0, .int .i64 0, .int .i64 0, .bool false, .string ⟨#[]⟩, .string ⟨#[]⟩, .int .i64 0, .slice none 0 0, .slice none 0 0, .slice none 0 0, .slice none 0 0, .int .i64 0]) := by rw [hbe, hW, ← hs1]; exact Blk.new W1 _ _
  have HAT := hid (h.below HB.out)
  have HEF := hid (HAT.out.effectOf x (hx.below HB.out))
  have HW : Hid (W = (w.alloc (.cells x.cells.toArray 43)).alloc (.cells #[.int .i64 0, .int .i64 0, .int .i64 0, .int .i64 0, .int .i64 0, .int .i64 0, .bool false, .string ⟨#[]⟩, .string ⟨#[]⟩, .int .i64 0, .slice none 0 0, .slice none 0 0, .slice none 0 0, .slice none 0 0, .int .i64 0] 43)) := by show _ = _; rw [hW, hW1]
  have HX0 := hid hx
  have HSEP := hid hsep
  have HBM := hid hbm
  have HBE := hid hbe
  have HBS : Hid (w.heap.size ≤ be ∧ w.heap.size ≤ bm ∧ bm ≠ be) := ⟨by omega, by omega, by omega⟩
  have HPL : Hid (∀ i, FootA p m i → i < w.heap.size) := h.lt
  obtain ⟨nd, HND⟩ : ∃ q, Hid ((afterA a x).node = q) := ⟨_, hid rfl⟩
  obtain ⟨r, n, hpr⟩ : ∃ r n, (afterA a x).pr = (r, n) := ⟨_, _, rfl⟩
  have HPR := hid hpr
  obtain ⟨kk, HKK⟩ : ∃ q, Hid (kindA a x = q) := ⟨_, hid rfl⟩
  obtain ⟨RR, HRR⟩ : ∃ q, Hid ((if changesA a x = true then recOf x else ⟨#[]⟩) = q) := ⟨_, hid rfl⟩
  obtain ⟨cc, HCC⟩ : ∃ q, Hid (changesA a x = q) := ⟨_, hid rfl⟩
  obtain ⟨BB, HBB⟩ : ∃ q, Hid (afterA a x = q) := ⟨_, hid rfl⟩
  clear h hW hW1 hs1 hb1 hbm hbe hpr hx hsep
  have HHYP := hid hyp0
  clear hyp0
  obtain ⟨kd, fr, to, ⟨br, bn⟩, sl, ⟨⟨np, tk, ct, ep, cut⟩, ao1, cap1⟩, vo, vc, vs, so, sc, seen, eo, ec, evs, ti⟩ := x
  obtain ⟨XN, HXN⟩ : ∃ m, Hid (cut.length = m) := ⟨_, hid rfl⟩
  obtain ⟨VN, HVN⟩ : ∃ m, Hid (vs.length = m) := ⟨_, hid rfl⟩
  obtain ⟨SN, HSN⟩ : ∃ m, Hid (seen.length = m) := ⟨_, hid rfl⟩
  obtain ⟨EN, HEN⟩ : ∃ m, Hid (evs.length = m) := ⟨_, hid rfl⟩
  simp only [MsM.val, MsM.cells] at HW HKM HEF ⊢
  rw [HXN.out, HVN.out, HSN.out, HEN.out] at HW HKM HEF
  rw [HXN.out, HVN.out, HSN.out, HEN.out]
  have q0 := HKM.out.cell (i := 0) rfl
  have q1 := HKM.out.cell (i := 1) rfl
  have q2 := HKM.out.cell (i := 2) rfl
  have q3 := HKM.out.cell (i := 3) rfl
  have q4 := HKM.out.cell (i := 4) rfl
  have q5 := HKM.out.cell (i := 5) rfl
  have q6 := HKM.out.cell (i := 6) rfl
  have q7 := HKM.out.cell (i := 7) rfl
  have q8 := HKM.out.cell (i := 8) rfl
  have q9 := HKM.out.cell (i := 9) rfl
  have q10 := HKM.out.cell (i := 10) rfl
  have q11 := HKM.out.cell (i := 11) rfl
  have q12 := HKM.out.cell (i := 12) rfl
  have q13 := HKM.out.cell (i := 13) rfl
  have q14 := HKM.out.cell (i := 14) rfl
  have HNT := HHYP
  go_enter Tryz.func9, Tryz.ntmps9
  go_wp2_with fail
  rw [← HW.out, ← HBE.out, ← HBM.out]
  refine HEF.out.mono ?_
  rintro e w2 ⟨hb2, h2⟩
  rw [if_neg HNT.out] at h2
  subst h2
  have he2 := (HKE.out.below hb2 HKE.out.lt).alloc (.cells #[.int .i64 0, .bool false, .string ⟨#[]⟩, .nilFunc] 62)
  have HB2 := hid hb2
  have e0 := he2.cell (i := 0) rfl
  have e1 := he2.cell (i := 1) rfl
  have e2 := he2.cell (i := 2) rfl
  have e3 := he2.cell (i := 3) rfl
  have e4 := he2.cell (i := 4) rfl
  have e5 := he2.cell (i := 5) rfl
  have e6 := he2.cell (i := 6) rfl
  have e7 := he2.cell (i := 7) rfl
  have e8 := he2.cell (i := 8) rfl
  have e9 := he2.cell (i := 9) rfl
  have e10 := he2.cell (i := 10) rfl
  have e11 := he2.cell (i := 11) rfl
  have e12 := he2.cell (i := 12) rfl
  have e13 := he2.cell (i := 13) rfl
  have e14 := he2.cell (i := 14) rfl
  have g0 := he2.frozen 0
  have g1 := he2.frozen 1
  have g2 := he2.frozen 2
  have g3 := he2.frozen 3
  have g4 := he2.frozen 4
  have g5 := he2.frozen 5
  have g6 := he2.frozen 6
  have g7 := he2.frozen 7
  have g8 := he2.frozen 8
  have g9 := he2.frozen 9
  have g10 := he2.frozen 10
  have g11 := he2.frozen 11
  have g12 := he2.frozen 12
  have g13 := he2.frozen 13
  have g14 := he2.frozen 14
  obtain ⟨W3, hW3⟩ : ∃ V, V = st15 (w2.alloc (.cells #[.int .i64 0, .bool false, .string ⟨#[]⟩, .nilFunc] 62)) be (.int .i64 0) (.int .i64 0) (.int .i64 0) (.int .i64 0) (.int .i64 0) (.int .i64 0) (.bool false) (.string ⟨#[]⟩) (.string ⟨#[]⟩) (.int .i64 0) (.slice none 0 0) (.slice none 0 0) (.slice none 0 0) (.slice none 0 0) (.int .i64 0) := ⟨_, rfl⟩
  have hk9 : Blk W3 be 43 [.int .i64 0, .int .i64 0, .int .i64 0, .int .i64 0, .int .i64 0, .int .i64 0, .bool false, .string ⟨#[]⟩, .string ⟨#[]⟩, .int .i64 0, .slice none 0 0, .slice none 0 0, .slice none 0 0, .slice none 0 0, .int .i64 0] := by rw [hW3]; exact st15_blk he2 _ _ _ _ _ _ _ _ _ _ _ _ _ _ _
  have hT3 : Turns (fun i => i = be) w2 W3 := by rw [hW3]; exact ((Turns.refl _ _).alloc _).trans (st15_turns _ _ _ _ _ _ _ _ _ _ _ _ _ _ _ _ _) (fun i hi => .inl hi)
  have HFI : Hid (OnP w p m a ⟨kd, fr, to, (br, bn), sl, ⟨⟨np, tk, ct, ep, cut⟩, ao1, cap1⟩, vo, vc, vs, so, sc, seen, eo, ec, evs, ti⟩ (.returned (.tuple #[.agg #[.int .i64 0, .int .i64 0, .int .i64 0, .int .i64 0, .int .i64 0, .int .i64 0, .bool false, .string ⟨#[]⟩, .string ⟨#[]⟩, .int .i64 0, .slice none 0 0, .slice none 0 0, .slice none 0 0, .slice none 0 0, .int .i64 0], .string ⟨#[]⟩, .bool false])) W3) := by
    unfold OnP
    rw [if_neg HNT.out]
    refine ⟨rfl, ((HAT.out.below HB2.out)).turned hT3 (fun i hi e => by have := HPL.out i hi; have := HBS.out.1; omega) (noNum_blk (HKE.out.below HB2.out HKE.out.lt) (by decide)), (bt' HB.out HB2.out).trans (hT3.below (fun i hi => by rw [hi]; exact HBS.out.1) (bt' HB.out HB2.out).size)⟩
  have k0 := hk9.cell (i := 0) rfl
  have k1 := hk9.cell (i := 1) rfl
  have k2 := hk9.cell (i := 2) rfl
  have k3 := hk9.cell (i := 3) rfl
  have k4 := hk9.cell (i := 4) rfl
  have k5 := hk9.cell (i := 5) rfl
  have k6 := hk9.cell (i := 6) rfl
  have k7 := hk9.cell (i := 7) rfl
  have k8 := hk9.cell (i := 8) rfl
  have k9 := hk9.cell (i := 9) rfl
  have k10 := hk9.cell (i := 10) rfl
  have k11 := hk9.cell (i := 11) rfl
  have k12 := hk9.cell (i := 12) rfl
  have k13 := hk9.cell (i := 13) rfl
  have k14 := hk9.cell (i := 14) rfl
  clear hk9 hT3 he2 hb2 q0 q1 q2 q3 q4 q5 q6 q7 q8 q9 q10 q11 q12 q13 q14
  go_wp2
  unfold st15 at hW3
  rw [← hW3]
  (try simp only [Exit.inBlock, Exit.then])
  refine bodyPost_ret (v := .tuple #[.agg #[.int .i64 0, .int .i64 0, .int .i64 0, .int .i64 0, .int .i64 0, .int .i64 0, .bool false, .string ⟨#[]⟩, .string ⟨#[]⟩, .int .i64 0, .slice none 0 0, .slice none 0 0, .slice none 0 0, .slice none 0 0, .int .i64 0], .string ⟨#[]⟩, .bool false]) ?_ rfl HFI.out
  rw [results_cellA3 rfl]
  go_simp
end Go.Proofs.YtfmnbehopdmahaaGreat
/-
  Seals in memory: what a slice of api.Seal holds ('HeldSl'), what append makes of one. No function of the program is named here.
-/
namespace Go.Proofs.YtfmnbehopdmahaaGreat
open Go.RowKit Go.ChangeShapes Go.WideShapes Go.Deep Go.Maps

structure Sl where
  tok : ByteArray
  cart : ByteArray
  ep : Int
  cut : List Int
  deriving DecidableEq
def zeroSl : Sl := ⟨⟨#[]⟩, ⟨#[]⟩, 0, []⟩
/-- A seal with the place of its cut. -/
structure SlM where
  e : Sl
  ao : Option Addr
  cap : Nat
def zeroSM : SlM := ⟨zeroSl, none, 0⟩
instance : Inhabited SlM := ⟨zeroSM⟩
def SlM.cells (x : SlM) : List Value := [.string x.e.tok, .string x.e.cart, .int .i64 x.e.ep, .slice x.ao x.e.cut.length x.cap]
abbrev SlM.val (x : SlM) : Value := .agg #[.string x.e.tok, .string x.e.cart, .int .i64 x.e.ep, .slice x.ao x.e.cut.length x.cap]
structure SlOk (w : World) (x : SlM) : Prop where
  cut : HV w x.ao x.cap x.e.cut
  ie : I64 x.e.ep
  ht : x.e.tok.size ≤ maxLen
  hc : x.e.cart.size ≤ maxLen
theorem SlOk.below {w w' : World} {x : SlM} (h : SlOk w x) (hb : Below w.heap.size w w') : SlOk w' x := ⟨h.cut.below hb, h.ie, h.ht, h.hc⟩
def AllS (w : World) (xs : List SlM) : Prop := ∀ x ∈ xs, SlOk w x
theorem AllS.below {w w' : World} {xs : List SlM} (h : AllS w xs) (hb : Below w.heap.size w w') : AllS w' xs := fun x hx => (h x hx).below hb
/-- A slice of seals holds xs. -/
def HeldSl (w : World) (ao : Option Addr) (xs : List SlM) : Prop :=
  AllS w xs ∧ (xs = [] ∨ ∃ b off, ao = some ⟨b, off, none⟩ ∧ b < w.heap.size ∧ ∀ j (hj : j < xs.length) c u, xs[j].cells[c]? = some u → w.cell? ⟨b, off + j * 4 + c, none⟩ = some u)
theorem HeldSl.below {w w' : World} {ao : Option Addr} {xs : List SlM} (h : HeldSl w ao xs) (hb : Below w.heap.size w w') : HeldSl w' ao xs := by
  refine ⟨h.1.below hb, ?_⟩
  rcases h.2 with h0 | ⟨b, off, h1, h2, h3⟩
  · exact .inl h0
  · exact .inr ⟨b, off, h1, Nat.lt_of_lt_of_le h2 hb.size, fun j hj c u hu => (hb.cell (p := ⟨b, off + j * 4 + c, none⟩) h2).trans (h3 j hj c u hu)⟩
theorem HeldSl.at {w : World} {ao : Option Addr} {xs : List SlM} (h : HeldSl w ao xs) {j : Nat} (hj : j < xs.length) : ∃ b off, ao = some ⟨b, off, none⟩ ∧ b < w.heap.size ∧ w.cell? ⟨b, off + j * 4, none⟩ = some (.string xs[j].e.tok) ∧ w.cell? ⟨b, off + j * 4 + 1, none⟩ = some (.string xs[j].e.cart) ∧
    w.cell? ⟨b, off + j * 4 + 2, none⟩ = some (.int .i64 xs[j].e.ep) ∧ w.cell? ⟨b, off + j * 4 + 3, none⟩ = some (.slice xs[j].ao xs[j].e.cut.length xs[j].cap) := by
  rcases h.2 with h0 | ⟨b, off, h1, h2, h3⟩
  · subst h0
    cases hj
  · exact ⟨b, off, h1, h2, h3 j hj 0 _ rfl, h3 j hj 1 _ rfl, h3 j hj 2 _ rfl, h3 j hj 3 _ rfl⟩
def flatS (xs : List SlM) : List Value := xs.flatMap SlM.cells
theorem flatS_snoc (xs : List SlM) (x : SlM) : flatS (xs ++ [x]) = flatS xs ++ x.cells := by simp [flatS]
theorem flatS_len : ∀ xs : List SlM, (flatS xs).length = xs.length * 4
  | [] => rfl
  | x :: r => by
    have := flatS_len r
    unfold flatS at this ⊢
    rw [List.flatMap_cons, List.length_append, this, List.length_cons]
    show 4 + _ = _
    omega
theorem flatS_get : ∀ (xs : List SlM) (j : Nat) (hj : j < xs.length) (c : Nat) (u : Value), xs[j].cells[c]? = some u → (flatS xs)[j * 4 + c]? = some u
  | [], j, hj, _, _, _ => by cases hj
  | x :: r, 0, _, c, u, h => by
    simp only [List.getElem_cons_zero] at h
    have hc : c < 4 := (List.getElem?_eq_some_iff.1 h).1
    unfold flatS
    rw [List.flatMap_cons, Nat.zero_mul, Nat.zero_add, List.getElem?_append_left (show c < 4 from hc)]
    exact h
  | x :: r, j + 1, hj, c, u, h => by
    simp only [List.getElem_cons_succ] at h
    have := flatS_get r j (by simpa using hj) c u h
    unfold flatS at this ⊢
    rw [List.flatMap_cons, List.getElem?_append_right (show x.cells.length ≤ _ by show 4 ≤ _; omega)]
    rw [show (j + 1) * 4 + c - x.cells.length = j * 4 + c by show _ - 4 = _; omega]
    exact this
/-- What an owned row of seals holds. -/
theorem heldSl_of_own {w : World} {B : Nat} {v : Value} {xs : List SlM} {n : Nat} (hn : xs.length = n) (h : w.ownsRow B 37 4 v n (flatS xs)) (hx : AllS w xs) : ∃ ao cap, v = .slice ao n cap ∧ n ≤ cap ∧ HeldSl w ao xs := by
  subst hn
  obtain ⟨eo, cap, rfl, hnc, hc⟩ := own_form8 h
  refine ⟨eo, cap, rfl, hnc, hx, ?_⟩
  by_cases h0 : xs = []
  · exact .inl h0
  · obtain ⟨g, rfl, _, hg, hcell⟩ := hc (List.length_pos_iff.2 h0)
    refine .inr ⟨g, 0, rfl, hg, fun j hj c u hu => ?_⟩
    rw [Nat.zero_add]
    exact hcell _ _ (flatS_get xs j hj c u hu)
theorem Tryz.infoSl : (Tryz.prog.info? 37).map (fun i => (i.zero, i.size, i.bytes)) = some (some (.agg #[.string ⟨#[]⟩, .string ⟨#[]⟩, .int .i64 0, .slice none 0 0]), 4, 64) := by kernel_rfl
theorem sl_one (x : SlM) : ∀ u ∈ x.cells, u.oneCell' = true := by
  intro u hu
  simp [SlM.cells] at hu
  rcases hu with rfl | rfl | rfl | rfl <;> rfl
end Go.Proofs.YtfmnbehopdmahaaGreat
