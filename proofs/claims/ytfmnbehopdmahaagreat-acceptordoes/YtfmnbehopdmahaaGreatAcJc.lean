/-
  Package acceptor: On, where it is a promise.
-/
import Derived.Test.YtfmnbehopdmahaaGreatAcJa
namespace Go.Proofs.YtfmnbehopdmahaaGreat
open Go.RowKit Go.Maps

set_option maxRecDepth 1000000 in
set_option maxHeartbeats 8000000 in
theorem AcAt.on_2 {w : World} {p m : Nat} {a : Ac} (h : AcAt w p m a) (x : MsM) (hx : MsOk w x) (hsep : ∀ b off, x.en.ao = some ⟨b, off, none⟩ → x.en.e.cut ≠ [] → b ≠ p) (hyp0 : takesA a x = true ∧ kindA a x = 2) : Calls Tryz.prog 9 #[.pointer (some ⟨p, 0, none⟩), x.val] w (OnP w p m a x) := by
  obtain ⟨W1, hW1⟩ : ∃ W, W = w.alloc (.cells x.cells.toArray 43) := ⟨_, rfl⟩
  obtain ⟨W, hW⟩ : ∃ W, W = W1.alloc (.cells #[.int .i64 0, .int .i64 0, .int .i64 0, .int .i64 0, .int .i64 0, .int .i64 0, .bool false, .string ⟨#[]⟩, .string ⟨#[]⟩, .int .i64 0, .slice none 0 0, .slice none 0 0, .slice none 0 0, .slice none 0 0, .int .i64 0] 43) := ⟨_, rfl⟩
  have hs1 : W1.heap.size = w.heap.size + 1 := by rw [hW1]; simp
  have hb1 : Below w.heap.size w W1 := by rw [hW1]; exact (Below.refl _ _).alloc (Nat.le_refl _) _
  have HB : Hid (Below w.heap.size w W) := by rw [hW]; exact hb1.alloc hb1.size _
  obtain ⟨bm, hbm⟩ : ∃ q, q = w.heap.size := ⟨_, rfl⟩
  obtain ⟨be, hbe⟩ : ∃ q, q = w.heap.size + 1 := ⟨_, rfl⟩
  have HKM : Hid (Blk W bm 43 x.cells) := by rw [hbm, hW, hW1]; exact (Blk.new w _ _).alloc _
  have HKE : Hid (Blk W be 43 [.int .i64 0, .int .i64 0, .int .i64 0, .int .i64 0, .int .i64 0, .int .i64 0, .bool false, .string ⟨#[]⟩, .string ⟨#[]⟩, .int .i64 0, .slice none 0 0, .slice none 0 0, .slice none 0 0, .slice none 0 0, .int .i64 0]) := by rw [hbe, hW, ← hs1]; exact Blk.new W1 _ _
  have HAT := hid (h.below HB.out)
  have HEF := hid (HAT.out.effectOf x (hx.below HB.out))
  have HW : Hid (W = (w.alloc (.cells x.cells.toArray 43)).alloc (.cells #[.int .i64 0, .int .i64 0, .int .i64 0, .int .i64 0, .int .i64 0, .int .i64 0, .bool false, .string ⟨#[]⟩, .string ⟨#[]⟩, .int .i64 0, .slice none 0 0, .slice none 0 0, .slice none 0 0, .slice none 0 0, .int .i64 0] 43)) := by show _ = _; rw [hW, hW1]
  have HX0 := hid hx
  have HSEP := hid hsep
  have HBM := hid hbm
  have HBE := hid hbe
  have HBS : Hid (w.heap.size ≤ be ∧ w.heap.size ≤ bm ∧ bm ≠ be) := ⟨by omega, by omega, by omega⟩
  have HPL : Hid (∀ i, FootA p m i → i < w.heap.size) := h.lt
  obtain ⟨nd, HND⟩ : ∃ q, Hid ((afterA a x).node = q) := ⟨_, hid rfl⟩
  obtain ⟨r, n, hpr⟩ : ∃ r n, (afterA a x).pr = (r, n) := ⟨_, _, rfl⟩
  have HPR := hid hpr
  obtain ⟨kk, HKK⟩ : ∃ q, Hid (kindA a x = q) := ⟨_, hid rfl⟩
  obtain ⟨RR, HRR⟩ : ∃ q, Hid ((if changesA a x = true then recOf x else ⟨#[]⟩) = q) := ⟨_, hid rfl⟩
  obtain ⟨cc, HCC⟩ : ∃ q, Hid (changesA a x = q) := ⟨_, hid rfl⟩
  obtain ⟨BB, HBB⟩ : ∃ q, Hid (afterA a x = q) := ⟨_, hid rfl⟩
  clear h hW hW1 hs1 hb1 hbm hbe hpr hx hsep
  have HHYP := hid hyp0
  clear hyp0
  obtain ⟨kd, fr, to, ⟨br, bn⟩, sl, ⟨⟨np, tk, ct, ep, cut⟩, ao1, cap1⟩, vo, vc, vs, so, sc, seen, eo, ec, evs, ti⟩ := x
  obtain ⟨XN, HXN⟩ : ∃ m, Hid (cut.length = m) := ⟨_, hid rfl⟩
  obtain ⟨VN, HVN⟩ : ∃ m, Hid (vs.length = m) := ⟨_, hid rfl⟩
  obtain ⟨SN, HSN⟩ : ∃ m, Hid (seen.length = m) := ⟨_, hid rfl⟩
  obtain ⟨EN, HEN⟩ : ∃ m, Hid (evs.length = m) := ⟨_, hid rfl⟩
  simp only [MsM.val, MsM.cells] at HW HKM HEF ⊢
  rw [HXN.out, HVN.out, HSN.out, HEN.out] at HW HKM HEF
  rw [HXN.out, HVN.out, HSN.out, HEN.out]
  have q0 := HKM.out.cell (i := 0) rfl
  have q1 := HKM.out.cell (i := 1) rfl
  have q2 := HKM.out.cell (i := 2) rfl
  have q3 := HKM.out.cell (i := 3) rfl
  have q4 := HKM.out.cell (i := 4) rfl
  have q5 := HKM.out.cell (i := 5) rfl
  have q6 := HKM.out.cell (i := 6) rfl
  have q7 := HKM.out.cell (i := 7) rfl
  have q8 := HKM.out.cell (i := 8) rfl
  have q9 := HKM.out.cell (i := 9) rfl
  have q10 := HKM.out.cell (i := 10) rfl
  have q11 := HKM.out.cell (i := 11) rfl
  have q12 := HKM.out.cell (i := 12) rfl
  have q13 := HKM.out.cell (i := 13) rfl
  have q14 := HKM.out.cell (i := 14) rfl
  have HTK := hid HHYP.out.1
  have HK0 := hid HHYP.out.2
  go_enter Tryz.func9, Tryz.ntmps9
  go_wp2_with fail
  rw [← HW.out, ← HBE.out, ← HBM.out]
  refine HEF.out.mono ?_
  rintro e w2 ⟨hb2, h2⟩
  rw [if_pos HTK.out] at h2
  obtain ⟨f2, lb2, rfl, hdo⟩ := h2
  rw [HKK.out, HRR.out, HCC.out]
  obtain ⟨W3, hW3⟩ : ∃ V, V = w2.alloc (.cells #[.int .i64 kk, .bool cc, .string RR, .func (.func f2) #[] lb2] 62) := ⟨_, rfl⟩
  have hb3 : Below w2.heap.size w2 W3 := by rw [hW3]; exact (Below.refl _ _).alloc (Nat.le_refl _) _
  have HB3 := hid (bt' hb2 hb3)
  have HA3 := hid (HAT.out.below HB3.out)
  have HDO := hid (hdo.below hb3)
  obtain ⟨bx, hbx⟩ : ∃ q, q = w2.heap.size := ⟨_, rfl⟩
  have HKX : Hid (Blk W3 bx 62 [.int .i64 kk, .bool cc, .string RR, .func (.func f2) #[] lb2]) := by rw [hbx, hW3]; exact Blk.new w2 _ _
  have HXB : Hid (w.heap.size ≤ bx) := by rw [hbx]; exact hid (bt' HB.out hb2).size
  have HXE : Hid (be < bx ∧ bm < bx) := by have h1 := HKE.out.lt; have h2 := HKM.out.lt; have h3 := hb2.size; exact hid ⟨by omega, by omega⟩
  have HBX := hid hbx
  have HW3 := hid hW3
  have HRM := hid (takesA_right HTK.out)
  clear hb2 hdo hb3 hW3 hbx q0 q1 q2 q3 q4 q5 q6 q7 q8 q9 q10 q11 q12 q13 q14 HEF
  rcases HDO.out with ⟨hk5, rfl, rfl⟩ | ⟨ba2, bm2, rfl, hA2, hM2, (⟨hk2, rfl⟩ | ⟨hk4, rfl⟩)⟩
  · exact absurd (hk5.symm.trans HK0.out) (by decide)
  · have HDC := hid (does_prep HA3.out hA2 hM2 HRM.out hk2)
    clear hA2 hM2 hk2
    go_wp2_with fail
    rw [← HW3.out, ← HBX.out]
    refine HDC.out.mono ?_
    rintro e w4 ⟨rfl, hat4, ht4⟩
    have HA4 := hid hat4
    have HT4 := hid ht4
    have HNF : Hid (¬ FootA p m bm ∧ ¬ FootA p m be ∧ ¬ FootA p m bx) := ⟨fun hf => by have h1 := HPL.out _ hf; have h2 := HBS.out.2.1; omega, fun hf => by have h1 := HPL.out _ hf; have h2 := HBS.out.1; omega, fun hf => by have h1 := HPL.out _ hf; have h2 := HXB.out; omega⟩
    have HM4 := hid (ht4.blk (HKM.out.below HB3.out HKM.out.lt) HNF.out.1)
    have HE4 := hid (ht4.blk (HKE.out.below HB3.out HKE.out.lt) HNF.out.2.1)
    have HX4 := hid (ht4.blk HKX.out HNF.out.2.2)
    have HAN : Hid (∀ V, ScL w4 V → Calls Tryz.prog 20 #[.pointer (some ⟨p, 0, none⟩), .agg #[.int .i64 kd, .int .i64 fr, .int .i64 to, .int .i64 br, .int .i64 bn, .int .i64 sl, .bool np, .string tk, .string ct, .int .i64 ep, .slice ao1 XN cap1, .slice vo VN vc, .slice so SN sc, .slice eo EN ec, .int .i64 ti], .int .i64 kk] V fun e w' => ∃ vo5 vc5 YN, e = .returned (.agg #[.int .i64 kk, .int .i64 nd, .int .i64 fr, .int .i64 r, .int .i64 n, .int .i64 sl, .bool true, .string ⟨#[]⟩, .string ⟨#[]⟩, .int .i64 0, .slice none 0 0, .slice vo5 YN vc5, .slice none 0 0, .slice none 0 0, .int .i64 0]) ∧ Hid (∃ ys : List VoM, ys.length = YN ∧ ys.map VoM.sv = (if kk = 2 then fromTo BB sl BB.ks.length else []) ∧ HeldVI w' vo5 ys ∧ ys.length ≤ 4096 ∧ ∀ b off, vo5 = some ⟨b, off, none⟩ → w4.heap.size ≤ b) ∧ ScL w4 w') := fun V hV => by
      have h1 := (HA4.out.below hV.out).answer ⟨kd, fr, to, (br, bn), sl, ⟨⟨np, tk, ct, ep, cut⟩, ao1, cap1⟩, vo, vc, vs, so, sc, seen, eo, ec, evs, ti⟩ kk
      simp only [MsM.val] at h1
      rw [HXN.out, HVN.out, HSN.out, HEN.out] at h1
      refine h1.mono ?_
      rintro e w' ⟨vo5, vc5, ys, rfl, hmap, hheld, hlen, hab, hb⟩
      refine ⟨vo5, vc5, ys.length, ?_, ⟨ys, rfl, by rw [← HBB.out]; exact hmap, hheld, hlen, fun b off e => Nat.le_trans hV.out.size (hab b off e)⟩, hV.go hb⟩
      simp only [ansM, MsM.val, noopEn, List.length_nil]
      rw [HPR.out, HND.out]
    have HTS : Hid (∀ U, ScL w4 U → Turns (fun i => i = be) w4 U) := fun U hU => Turns.of_below hU.out (Nat.le_refl _)
    have HT0 : Hid (Turns (fun i => i = be) w4 w4) := Turns.refl _ _
    have HSA : Hid (∀ V, Turns (fun i => i = be) w4 V → (Turns (fun i => i = be) w4 V ∧ V.cell? ⟨bm, 0, none⟩ = some (.int .i64 kd) ∧ V.cell? ⟨bm, 1, none⟩ = some (.int .i64 fr) ∧ V.cell? ⟨bm, 2, none⟩ = some (.int .i64 to) ∧ V.cell? ⟨bm, 3, none⟩ = some (.int .i64 br) ∧ V.cell? ⟨bm, 4, none⟩ = some (.int .i64 bn) ∧ V.cell? ⟨bm, 5, none⟩ = some (.int .i64 sl) ∧ V.cell? ⟨bm, 6, none⟩ = some (.bool np) ∧ V.cell? ⟨bm, 7, none⟩ = some (.string tk) ∧ V.cell? ⟨bm, 8, none⟩ = some (.string ct) ∧ V.cell? ⟨bm, 9, none⟩ = some (.int .i64 ep) ∧ V.cell? ⟨bm, 10, none⟩ = some (.slice ao1 XN cap1) ∧ V.cell? ⟨bm, 11, none⟩ = some (.slice vo VN vc) ∧ V.cell? ⟨bm, 12, none⟩ = some (.slice so SN sc) ∧ V.cell? ⟨bm, 13, none⟩ = some (.slice eo EN ec) ∧ V.cell? ⟨bm, 14, none⟩ = some (.int .i64 ti) ∧ V.cell? ⟨bx, 0, none⟩ = some (.int .i64 kk) ∧ V.cell? ⟨bx, 2, none⟩ = some (.string RR))) := fun V hV => by
      have h1 := hV.blk HM4.out HBS.out.2.2
      have h2 := hV.blk HX4.out (by have := HXE.out.1; omega)
      exact ⟨hV, h1.cell rfl, h1.cell rfl, h1.cell rfl, h1.cell rfl, h1.cell rfl, h1.cell rfl, h1.cell rfl, h1.cell rfl, h1.cell rfl, h1.cell rfl, h1.cell rfl, h1.cell rfl, h1.cell rfl, h1.cell rfl, h1.cell rfl, h2.cell rfl, h2.cell rfl⟩
    have e0 := HE4.out.cell (i := 0) rfl
    have e1 := HE4.out.cell (i := 1) rfl
    have e2 := HE4.out.cell (i := 2) rfl
    have e3 := HE4.out.cell (i := 3) rfl
    have e4 := HE4.out.cell (i := 4) rfl
    have e5 := HE4.out.cell (i := 5) rfl
    have e6 := HE4.out.cell (i := 6) rfl
    have e7 := HE4.out.cell (i := 7) rfl
    have e8 := HE4.out.cell (i := 8) rfl
    have e9 := HE4.out.cell (i := 9) rfl
    have e10 := HE4.out.cell (i := 10) rfl
    have e11 := HE4.out.cell (i := 11) rfl
    have e12 := HE4.out.cell (i := 12) rfl
    have e13 := HE4.out.cell (i := 13) rfl
    have e14 := HE4.out.cell (i := 14) rfl
    have g0 := HE4.out.frozen 0
    have g1 := HE4.out.frozen 1
    have g2 := HE4.out.frozen 2
    have g3 := HE4.out.frozen 3
    have g4 := HE4.out.frozen 4
    have g5 := HE4.out.frozen 5
    have g6 := HE4.out.frozen 6
    have g7 := HE4.out.frozen 7
    have g8 := HE4.out.frozen 8
    have g9 := HE4.out.frozen 9
    have g10 := HE4.out.frozen 10
    have g11 := HE4.out.frozen 11
    have g12 := HE4.out.frozen 12
    have g13 := HE4.out.frozen 13
    have g14 := HE4.out.frozen 14
    clear hat4 ht4 HDC
    go_wp2
    go_region_held3 (fun V => Turns (fun i => i = be) w4 V ∧ V.cell? ⟨bm, 0, none⟩ = some (.int .i64 kd) ∧ V.cell? ⟨bm, 1, none⟩ = some (.int .i64 fr) ∧ V.cell? ⟨bm, 2, none⟩ = some (.int .i64 to) ∧ V.cell? ⟨bm, 3, none⟩ = some (.int .i64 br) ∧ V.cell? ⟨bm, 4, none⟩ = some (.int .i64 bn) ∧ V.cell? ⟨bm, 5, none⟩ = some (.int .i64 sl) ∧ V.cell? ⟨bm, 6, none⟩ = some (.bool np) ∧ V.cell? ⟨bm, 7, none⟩ = some (.string tk) ∧ V.cell? ⟨bm, 8, none⟩ = some (.string ct) ∧ V.cell? ⟨bm, 9, none⟩ = some (.int .i64 ep) ∧ V.cell? ⟨bm, 10, none⟩ = some (.slice ao1 XN cap1) ∧ V.cell? ⟨bm, 11, none⟩ = some (.slice vo VN vc) ∧ V.cell? ⟨bm, 12, none⟩ = some (.slice so SN sc) ∧ V.cell? ⟨bm, 13, none⟩ = some (.slice eo EN ec) ∧ V.cell? ⟨bm, 14, none⟩ = some (.int .i64 ti) ∧ V.cell? ⟨bx, 0, none⟩ = some (.int .i64 kk) ∧ V.cell? ⟨bx, 2, none⟩ = some (.string RR))
      (first | (refine HSA.out _ ?_; (repeat (first | with_reducible assumption | with_reducible exact HT0.out | with_reducible apply Turns.drew | with_reducible apply turns_own)); done))
      (first
        | (go_at_call 20; with_reducible refine (HAN.out _ (by (repeat (first | assumption | exact ScL.start _ | apply ScL.dr)))).mono ?_; rintro e w5 ⟨vo5, vc5, YN, rfl, HYF, hs5⟩; have hT5 := HTS.out _ hs5; have HS5 := hid hs5; have hE5 := HE4.out.below hs5.out HE4.out.lt; have HE5 := hid hE5; have e0 := hE5.cell (i := 0) rfl; have e1 := hE5.cell (i := 1) rfl; have e2 := hE5.cell (i := 2) rfl; have e3 := hE5.cell (i := 3) rfl; have e4 := hE5.cell (i := 4) rfl; have e5 := hE5.cell (i := 5) rfl; have e6 := hE5.cell (i := 6) rfl; have e7 := hE5.cell (i := 7) rfl; have e8 := hE5.cell (i := 8) rfl; have e9 := hE5.cell (i := 9) rfl; have e10 := hE5.cell (i := 10) rfl; have e11 := hE5.cell (i := 11) rfl; have e12 := hE5.cell (i := 12) rfl; have e13 := hE5.cell (i := 13) rfl; have e14 := hE5.cell (i := 14) rfl; have g0 := hE5.frozen 0; have g1 := hE5.frozen 1; have g2 := hE5.frozen 2; have g3 := hE5.frozen 3; have g4 := hE5.frozen 4; have g5 := hE5.frozen 5; have g6 := hE5.frozen 6; have g7 := hE5.frozen 7; have g8 := hE5.frozen 8; have g9 := hE5.frozen 9; have g10 := hE5.frozen 10; have g11 := hE5.frozen 11; have g12 := hE5.frozen 12; have g13 := hE5.frozen 13; have g14 := hE5.frozen 14; clear hE5))
    all_goals
      obtain ⟨W6, hW6⟩ : ∃ V, V = st15 w5 be (.int .i64 kk) (.int .i64 nd) (.int .i64 fr) (.int .i64 r) (.int .i64 n) (.int .i64 sl) (.bool true) (.string ⟨#[]⟩) (.string ⟨#[]⟩) (.int .i64 0) (.slice none 0 0) (.slice vo5 YN vc5) (.slice none 0 0) (.slice none 0 0) (.int .i64 0) := ⟨_, rfl⟩
      have hk9 : Blk W6 be 43 [.int .i64 kk, .int .i64 nd, .int .i64 fr, .int .i64 r, .int .i64 n, .int .i64 sl, .bool true, .string ⟨#[]⟩, .string ⟨#[]⟩, .int .i64 0, .slice none 0 0, .slice vo5 YN vc5, .slice none 0 0, .slice none 0 0, .int .i64 0] := by rw [hW6]; exact st15_blk HE5.out _ _ _ _ _ _ _ _ _ _ _ _ _ _ _
      have hT6 : Turns (fun i => i = be) w5 W6 := by rw [hW6]; exact st15_turns _ _ _ _ _ _ _ _ _ _ _ _ _ _ _ _ _
      have HFI : Hid (OnP w p m a ⟨kd, fr, to, (br, bn), sl, ⟨⟨np, tk, ct, ep, cut⟩, ao1, cap1⟩, vo, vc, vs, so, sc, seen, eo, ec, evs, ti⟩ (.returned (.tuple #[.agg #[.int .i64 kk, .int .i64 nd, .int .i64 fr, .int .i64 r, .int .i64 n, .int .i64 sl, .bool true, .string ⟨#[]⟩, .string ⟨#[]⟩, .int .i64 0, .slice none 0 0, .slice vo5 YN vc5, .slice none 0 0, .slice none 0 0, .int .i64 0], .string RR, .bool true])) W6) := by
        obtain ⟨ys, hyn, hmap, hheld, hlen, hab⟩ := HYF.out
        unfold OnP
        rw [if_pos HTK.out, HKK.out, HRR.out]
        have hE4 := HE4.out.lt
        refine ⟨vo5, vc5, ys, ?_, by rw [HBB.out]; exact hmap, ⟨hheld.turned hT6 (noNum_blk HE5.out (by decide)) (fun b off e hf => by have := hab b off e; omega), fun b off e => Nat.le_trans (Nat.le_trans (bt' HB.out HB3.out).size HT4.out.size) (hab b off e)⟩, hlen, (HA4.out.below HS5.out.out).turned hT6 (fun i hi e => by have h1 := HPL.out i hi; have h2 := HBS.out.1; omega) (noNum_blk HE5.out (by decide)), ?_⟩
        · simp only [ansM, MsM.val, noopEn, List.length_nil]
          rw [HPR.out, HND.out, hyn]
        · exact (((Turns.of_below (F := FootA p m) (bt' HB.out HB3.out) (Nat.le_refl _)).trans HT4.out (fun i hi => .inl hi)).trans (Turns.of_below (F := fun _ => False) HS5.out.out (Nat.le_refl _)) (fun _ h => h.elim)).trans hT6 (fun i hi => .inr (by rw [hi]; exact HBS.out.1))
      have k0 := hk9.cell (i := 0) rfl
      have k1 := hk9.cell (i := 1) rfl
      have k2 := hk9.cell (i := 2) rfl
      have k3 := hk9.cell (i := 3) rfl
      have k4 := hk9.cell (i := 4) rfl
      have k5 := hk9.cell (i := 5) rfl
      have k6 := hk9.cell (i := 6) rfl
      have k7 := hk9.cell (i := 7) rfl
      have k8 := hk9.cell (i := 8) rfl
      have k9 := hk9.cell (i := 9) rfl
      have k10 := hk9.cell (i := 10) rfl
      have k11 := hk9.cell (i := 11) rfl
      have k12 := hk9.cell (i := 12) rfl
      have k13 := hk9.cell (i := 13) rfl
      have k14 := hk9.cell (i := 14) rfl
      clear hk9 hT6
      go_wp2
      unfold st15 at hW6
      rw [← hW6]
      (try simp only [Exit.inBlock, Exit.then])
      refine bodyPost_ret (v := .tuple #[.agg #[.int .i64 kk, .int .i64 nd, .int .i64 fr, .int .i64 r, .int .i64 n, .int .i64 sl, .bool true, .string ⟨#[]⟩, .string ⟨#[]⟩, .int .i64 0, .slice none 0 0, .slice vo5 YN vc5, .slice none 0 0, .slice none 0 0, .int .i64 0], .string RR, .bool true]) ?_ rfl HFI.out
      rw [results_cellA3 rfl]
      go_simp
  · exact absurd (hk4.symm.trans HK0.out) (by decide)
end Go.Proofs.YtfmnbehopdmahaaGreat
/-
  Package acceptor: On, where it is a vote.
-/
namespace Go.Proofs.YtfmnbehopdmahaaGreat
open Go.RowKit Go.Maps

set_option maxRecDepth 1000000 in
set_option maxHeartbeats 8000000 in
theorem AcAt.on_4 {w : World} {p m : Nat} {a : Ac} (h : AcAt w p m a) (x : MsM) (hx : MsOk w x) (hsep : ∀ b off, x.en.ao = some ⟨b, off, none⟩ → x.en.e.cut ≠ [] → b ≠ p) (hyp0 : takesA a x = true ∧ kindA a x = 4) : Calls Tryz.prog 9 #[.pointer (some ⟨p, 0, none⟩), x.val] w (OnP w p m a x) := by
  obtain ⟨W1, hW1⟩ : ∃ W, W = w.alloc (.cells x.cells.toArray 43) := ⟨_, rfl⟩
  obtain ⟨W, hW⟩ : ∃ W, W = W1.alloc (.cells #[.int .i64 0, .int .i64 0, .int .i64 0, .int .i64 0, .int .i64 0, .int .i64 0, .bool false, .string ⟨#[]⟩, .string ⟨#[]⟩, .int .i64 0, .slice none 0 0, .slice none 0 0, .slice none 0 0, .slice none 0 0, .int .i64 0] 43) := ⟨_, rfl⟩
  have hs1 : W1.heap.size = w.heap.size + 1 := by rw [hW1]; simp
  have hb1 : Below w.heap.size w W1 := by rw [hW1]; exact (Below.refl _ _).alloc (Nat.le_refl _) _
  have HB : Hid (Below w.heap.size w W) := by rw [hW]; exact hb1.alloc hb1.size _
  obtain ⟨bm, hbm⟩ : ∃ q, q = w.heap.size := ⟨_, rfl⟩
  obtain ⟨be, hbe⟩ : ∃ q, q = w.heap.size + 1 := ⟨_, rfl⟩
  have HKM : Hid (Blk W bm 43 x.cells) := by rw [hbm, hW, hW1]; exact (Blk.new w _ _).alloc _
  have HKE : Hid (Blk W be 43 [.int .i64 0, .int .i64 0, .int .i64 0, .int .i64 0, .int .i64 0, .int .i64 0, .bool false, .string ⟨#[]⟩, .string ⟨#[]⟩, .int .i64 0, .slice none 0 0, .slice none 0 0, .slice none 0 0, .slice none 0 0, .int .i64 0]) := by rw [hbe, hW, ← hs1]; exact Blk.new W1 _ _
  have HAT := hid (h.below HB.out)
  have HEF := hid (HAT.out.effectOf x (hx.below HB.out))
  have HW : Hid (W = (w.alloc (.cells x.cells.toArray 43)).alloc (.cells #[.int .i64 0, .int .i64 0, .int .i64 0, .int .i64 0, .int .i64 0, .int .i64 0, .bool false, .string ⟨#[]⟩, .string ⟨#[]⟩, .int .i64 0, .slice none 0 0, .slice none 0 0, .slice none 0 0, .slice none 0 0, .int .i64 0] 43)) := by show _ = _; rw [hW, hW1]
  have HX0 := hid hx
  have HSEP := hid hsep
  have HBM := hid hbm
  have HBE := hid hbe
  have HBS : Hid (w.heap.size ≤ be ∧ w.heap.size ≤ bm ∧ bm ≠ be) := ⟨by omega, by omega, by omega⟩
  have HPL : Hid (∀ i, FootA p m i → i < w.heap.size) := h.lt
  obtain ⟨nd, HND⟩ : ∃ q, Hid ((afterA a x).node = q) := ⟨_, hid rfl⟩
  obtain ⟨r, n, hpr⟩ : ∃ r n, (afterA a x).pr = (r, n) := ⟨_, _, rfl⟩
  have HPR := hid hpr
  obtain ⟨kk, HKK⟩ : ∃ q, Hid (kindA a x = q) := ⟨_, hid rfl⟩
  obtain ⟨RR, HRR⟩ : ∃ q, Hid ((if changesA a x = true then recOf x else ⟨#[]⟩) = q) := ⟨_, hid rfl⟩
  obtain ⟨cc, HCC⟩ : ∃ q, Hid (changesA a x = q) := ⟨_, hid rfl⟩
  obtain ⟨BB, HBB⟩ : ∃ q, Hid (afterA a x = q) := ⟨_, hid rfl⟩
  clear h hW hW1 hs1 hb1 hbm hbe hpr hx hsep
  have HHYP := hid hyp0
  clear hyp0
  obtain ⟨kd, fr, to, ⟨br, bn⟩, sl, ⟨⟨np, tk, ct, ep, cut⟩, ao1, cap1⟩, vo, vc, vs, so, sc, seen, eo, ec, evs, ti⟩ := x
  obtain ⟨XN, HXN⟩ : ∃ m, Hid (cut.length = m) := ⟨_, hid rfl⟩
  obtain ⟨VN, HVN⟩ : ∃ m, Hid (vs.length = m) := ⟨_, hid rfl⟩
  obtain ⟨SN, HSN⟩ : ∃ m, Hid (seen.length = m) := ⟨_, hid rfl⟩
  obtain ⟨EN, HEN⟩ : ∃ m, Hid (evs.length = m) := ⟨_, hid rfl⟩
  simp only [MsM.val, MsM.cells] at HW HKM HEF ⊢
  rw [HXN.out, HVN.out, HSN.out, HEN.out] at HW HKM HEF
  rw [HXN.out, HVN.out, HSN.out, HEN.out]
  have q0 := HKM.out.cell (i := 0) rfl
  have q1 := HKM.out.cell (i := 1) rfl
  have q2 := HKM.out.cell (i := 2) rfl
  have q3 := HKM.out.cell (i := 3) rfl
  have q4 := HKM.out.cell (i := 4) rfl
  have q5 := HKM.out.cell (i := 5) rfl
  have q6 := HKM.out.cell (i := 6) rfl
  have q7 := HKM.out.cell (i := 7) rfl
  have q8 := HKM.out.cell (i := 8) rfl
  have q9 := HKM.out.cell (i := 9) rfl
  have q10 := HKM.out.cell (i := 10) rfl
  have q11 := HKM.out.cell (i := 11) rfl
  have q12 := HKM.out.cell (i := 12) rfl
  have q13 := HKM.out.cell (i := 13) rfl
  have q14 := HKM.out.cell (i := 14) rfl
  have HTK := hid HHYP.out.1
  have HK0 := hid HHYP.out.2
  go_enter Tryz.func9, Tryz.ntmps9
  go_wp2_with fail
  rw [← HW.out, ← HBE.out, ← HBM.out]
  refine HEF.out.mono ?_
  rintro e w2 ⟨hb2, h2⟩
  rw [if_pos HTK.out] at h2
  obtain ⟨f2, lb2, rfl, hdo⟩ := h2
  rw [HKK.out, HRR.out, HCC.out]
  obtain ⟨W3, hW3⟩ : ∃ V, V = w2.alloc (.cells #[.int .i64 kk, .bool cc, .string RR, .func (.func f2) #[] lb2] 62) := ⟨_, rfl⟩
  have hb3 : Below w2.heap.size w2 W3 := by rw [hW3]; exact (Below.refl _ _).alloc (Nat.le_refl _) _
  have HB3 := hid (bt' hb2 hb3)
  have HA3 := hid (HAT.out.below HB3.out)
  have HDO := hid (hdo.below hb3)
  obtain ⟨bx, hbx⟩ : ∃ q, q = w2.heap.size := ⟨_, rfl⟩
  have HKX : Hid (Blk W3 bx 62 [.int .i64 kk, .bool cc, .string RR, .func (.func f2) #[] lb2]) := by rw [hbx, hW3]; exact Blk.new w2 _ _
  have HXB : Hid (w.heap.size ≤ bx) := by rw [hbx]; exact hid (bt' HB.out hb2).size
  have HXE : Hid (be < bx ∧ bm < bx) := by have h1 := HKE.out.lt; have h2 := HKM.out.lt; have h3 := hb2.size; exact hid ⟨by omega, by omega⟩
  have HBX := hid hbx
  have HW3 := hid hW3
  have HRM := hid (takesA_right HTK.out)
  clear hb2 hdo hb3 hW3 hbx q0 q1 q2 q3 q4 q5 q6 q7 q8 q9 q10 q11 q12 q13 q14 HEF
  rcases HDO.out with ⟨hk5, rfl, rfl⟩ | ⟨ba2, bm2, rfl, hA2, hM2, (⟨hk2, rfl⟩ | ⟨hk4, rfl⟩)⟩
  · exact absurd (hk5.symm.trans HK0.out) (by decide)
  · exact absurd (hk2.symm.trans HK0.out) (by decide)
  · have HDC := hid (does_acc HA3.out hA2 hM2 (HX0.out.below (bt' HB.out HB3.out)) HSEP.out HRM.out hk4)
    clear hA2 hM2 hk4
    go_wp2_with fail
    rw [← HW3.out, ← HBX.out]
    refine HDC.out.mono ?_
    rintro e w4 ⟨rfl, hat4, ht4⟩
    have HA4 := hid hat4
    have HT4 := hid ht4
    have HNF : Hid (¬ FootA p m bm ∧ ¬ FootA p m be ∧ ¬ FootA p m bx) := ⟨fun hf => by have h1 := HPL.out _ hf; have h2 := HBS.out.2.1; omega, fun hf => by have h1 := HPL.out _ hf; have h2 := HBS.out.1; omega, fun hf => by have h1 := HPL.out _ hf; have h2 := HXB.out; omega⟩
    have HM4 := hid (ht4.blk (HKM.out.below HB3.out HKM.out.lt) HNF.out.1)
    have HE4 := hid (ht4.blk (HKE.out.below HB3.out HKE.out.lt) HNF.out.2.1)
    have HX4 := hid (ht4.blk HKX.out HNF.out.2.2)
    have HAN : Hid (∀ V, ScL w4 V → Calls Tryz.prog 20 #[.pointer (some ⟨p, 0, none⟩), .agg #[.int .i64 kd, .int .i64 fr, .int .i64 to, .int .i64 br, .int .i64 bn, .int .i64 sl, .bool np, .string tk, .string ct, .int .i64 ep, .slice ao1 XN cap1, .slice vo VN vc, .slice so SN sc, .slice eo EN ec, .int .i64 ti], .int .i64 kk] V fun e w' => ∃ vo5 vc5 YN, e = .returned (.agg #[.int .i64 kk, .int .i64 nd, .int .i64 fr, .int .i64 r, .int .i64 n, .int .i64 sl, .bool true, .string ⟨#[]⟩, .string ⟨#[]⟩, .int .i64 0, .slice none 0 0, .slice vo5 YN vc5, .slice none 0 0, .slice none 0 0, .int .i64 0]) ∧ Hid (∃ ys : List VoM, ys.length = YN ∧ ys.map VoM.sv = (if kk = 2 then fromTo BB sl BB.ks.length else []) ∧ HeldVI w' vo5 ys ∧ ys.length ≤ 4096 ∧ ∀ b off, vo5 = some ⟨b, off, none⟩ → w4.heap.size ≤ b) ∧ ScL w4 w') := fun V hV => by
      have h1 := (HA4.out.below hV.out).answer ⟨kd, fr, to, (br, bn), sl, ⟨⟨np, tk, ct, ep, cut⟩, ao1, cap1⟩, vo, vc, vs, so, sc, seen, eo, ec, evs, ti⟩ kk
      simp only [MsM.val] at h1
      rw [HXN.out, HVN.out, HSN.out, HEN.out] at h1
      refine h1.mono ?_
      rintro e w' ⟨vo5, vc5, ys, rfl, hmap, hheld, hlen, hab, hb⟩
      refine ⟨vo5, vc5, ys.length, ?_, ⟨ys, rfl, by rw [← HBB.out]; exact hmap, hheld, hlen, fun b off e => Nat.le_trans hV.out.size (hab b off e)⟩, hV.go hb⟩
      simp only [ansM, MsM.val, noopEn, List.length_nil]
      rw [HPR.out, HND.out]
    have HTS : Hid (∀ U, ScL w4 U → Turns (fun i => i = be) w4 U) := fun U hU => Turns.of_below hU.out (Nat.le_refl _)
    have HT0 : Hid (Turns (fun i => i = be) w4 w4) := Turns.refl _ _
    have HSA : Hid (∀ V, Turns (fun i => i = be) w4 V → (Turns (fun i => i = be) w4 V ∧ V.cell? ⟨bm, 0, none⟩ = some (.int .i64 kd) ∧ V.cell? ⟨bm, 1, none⟩ = some (.int .i64 fr) ∧ V.cell? ⟨bm, 2, none⟩ = some (.int .i64 to) ∧ V.cell? ⟨bm, 3, none⟩ = some (.int .i64 br) ∧ V.cell? ⟨bm, 4, none⟩ = some (.int .i64 bn) ∧ V.cell? ⟨bm, 5, none⟩ = some (.int .i64 sl) ∧ V.cell? ⟨bm, 6, none⟩ = some (.bool np) ∧ V.cell? ⟨bm, 7, none⟩ = some (.string tk) ∧ V.cell? ⟨bm, 8, none⟩ = some (.string ct) ∧ V.cell? ⟨bm, 9, none⟩ = some (.int .i64 ep) ∧ V.cell? ⟨bm, 10, none⟩ = some (.slice ao1 XN cap1) ∧ V.cell? ⟨bm, 11, none⟩ = some (.slice vo VN vc) ∧ V.cell? ⟨bm, 12, none⟩ = some (.slice so SN sc) ∧ V.cell? ⟨bm, 13, none⟩ = some (.slice eo EN ec) ∧ V.cell? ⟨bm, 14, none⟩ = some (.int .i64 ti) ∧ V.cell? ⟨bx, 0, none⟩ = some (.int .i64 kk) ∧ V.cell? ⟨bx, 2, none⟩ = some (.string RR))) := fun V hV => by
      have h1 := hV.blk HM4.out HBS.out.2.2
      have h2 := hV.blk HX4.out (by have := HXE.out.1; omega)
      exact ⟨hV, h1.cell rfl, h1.cell rfl, h1.cell rfl, h1.cell rfl, h1.cell rfl, h1.cell rfl, h1.cell rfl, h1.cell rfl, h1.cell rfl, h1.cell rfl, h1.cell rfl, h1.cell rfl, h1.cell rfl, h1.cell rfl, h1.cell rfl, h2.cell rfl, h2.cell rfl⟩
    have e0 := HE4.out.cell (i := 0) rfl
    have e1 := HE4.out.cell (i := 1) rfl
    have e2 := HE4.out.cell (i := 2) rfl
    have e3 := HE4.out.cell (i := 3) rfl
    have e4 := HE4.out.cell (i := 4) rfl
    have e5 := HE4.out.cell (i := 5) rfl
    have e6 := HE4.out.cell (i := 6) rfl
    have e7 := HE4.out.cell (i := 7) rfl
    have e8 := HE4.out.cell (i := 8) rfl
    have e9 := HE4.out.cell (i := 9) rfl
    have e10 := HE4.out.cell (i := 10) rfl
    have e11 := HE4.out.cell (i := 11) rfl
    have e12 := HE4.out.cell (i := 12) rfl
    have e13 := HE4.out.cell (i := 13) rfl
    have e14 := HE4.out.cell (i := 14) rfl
    have g0 := HE4.out.frozen 0
    have g1 := HE4.out.frozen 1
    have g2 := HE4.out.frozen 2
    have g3 := HE4.out.frozen 3
    have g4 := HE4.out.frozen 4
    have g5 := HE4.out.frozen 5
    have g6 := HE4.out.frozen 6
    have g7 := HE4.out.frozen 7
    have g8 := HE4.out.frozen 8
    have g9 := HE4.out.frozen 9
    have g10 := HE4.out.frozen 10
    have g11 := HE4.out.frozen 11
    have g12 := HE4.out.frozen 12
    have g13 := HE4.out.frozen 13
    have g14 := HE4.out.frozen 14
    clear hat4 ht4 HDC
    go_wp2
    go_region_held3 (fun V => Turns (fun i => i = be) w4 V ∧ V.cell? ⟨bm, 0, none⟩ = some (.int .i64 kd) ∧ V.cell? ⟨bm, 1, none⟩ = some (.int .i64 fr) ∧ V.cell? ⟨bm, 2, none⟩ = some (.int .i64 to) ∧ V.cell? ⟨bm, 3, none⟩ = some (.int .i64 br) ∧ V.cell? ⟨bm, 4, none⟩ = some (.int .i64 bn) ∧ V.cell? ⟨bm, 5, none⟩ = some (.int .i64 sl) ∧ V.cell? ⟨bm, 6, none⟩ = some (.bool np) ∧ V.cell? ⟨bm, 7, none⟩ = some (.string tk) ∧ V.cell? ⟨bm, 8, none⟩ = some (.string ct) ∧ V.cell? ⟨bm, 9, none⟩ = some (.int .i64 ep) ∧ V.cell? ⟨bm, 10, none⟩ = some (.slice ao1 XN cap1) ∧ V.cell? ⟨bm, 11, none⟩ = some (.slice vo VN vc) ∧ V.cell? ⟨bm, 12, none⟩ = some (.slice so SN sc) ∧ V.cell? ⟨bm, 13, none⟩ = some (.slice eo EN ec) ∧ V.cell? ⟨bm, 14, none⟩ = some (.int .i64 ti) ∧ V.cell? ⟨bx, 0, none⟩ = some (.int .i64 kk) ∧ V.cell? ⟨bx, 2, none⟩ = some (.string RR))
      (first | (refine HSA.out _ ?_; (repeat (first | with_reducible assumption | with_reducible exact HT0.out | with_reducible apply Turns.drew | with_reducible apply turns_own)); done))
      (first
        | (go_at_call 20; with_reducible refine (HAN.out _ (by (repeat (first | assumption | exact ScL.start _ | apply ScL.dr)))).mono ?_; rintro e w5 ⟨vo5, vc5, YN, rfl, HYF, hs5⟩; have hT5 := HTS.out _ hs5; have HS5 := hid hs5; have hE5 := HE4.out.below hs5.out HE4.out.lt; have HE5 := hid hE5; have e0 := hE5.cell (i := 0) rfl; have e1 := hE5.cell (i := 1) rfl; have e2 := hE5.cell (i := 2) rfl; have e3 := hE5.cell (i := 3) rfl; have e4 := hE5.cell (i := 4) rfl; have e5 := hE5.cell (i := 5) rfl; have e6 := hE5.cell (i := 6) rfl; have e7 := hE5.cell (i := 7) rfl; have e8 := hE5.cell (i := 8) rfl; have e9 := hE5.cell (i := 9) rfl; have e10 := hE5.cell (i := 10) rfl; have e11 := hE5.cell (i := 11) rfl; have e12 := hE5.cell (i := 12) rfl; have e13 := hE5.cell (i := 13) rfl; have e14 := hE5.cell (i := 14) rfl; have g0 := hE5.frozen 0; have g1 := hE5.frozen 1; have g2 := hE5.frozen 2; have g3 := hE5.frozen 3; have g4 := hE5.frozen 4; have g5 := hE5.frozen 5; have g6 := hE5.frozen 6; have g7 := hE5.frozen 7; have g8 := hE5.frozen 8; have g9 := hE5.frozen 9; have g10 := hE5.frozen 10; have g11 := hE5.frozen 11; have g12 := hE5.frozen 12; have g13 := hE5.frozen 13; have g14 := hE5.frozen 14; clear hE5))
    all_goals
      obtain ⟨W6, hW6⟩ : ∃ V, V = st15 w5 be (.int .i64 kk) (.int .i64 nd) (.int .i64 fr) (.int .i64 r) (.int .i64 n) (.int .i64 sl) (.bool true) (.string ⟨#[]⟩) (.string ⟨#[]⟩) (.int .i64 0) (.slice none 0 0) (.slice vo5 YN vc5) (.slice none 0 0) (.slice none 0 0) (.int .i64 0) := ⟨_, rfl⟩
      have hk9 : Blk W6 be 43 [.int .i64 kk, .int .i64 nd, .int .i64 fr, .int .i64 r, .int .i64 n, .int .i64 sl, .bool true, .string ⟨#[]⟩, .string ⟨#[]⟩, .int .i64 0, .slice none 0 0, .slice vo5 YN vc5, .slice none 0 0, .slice none 0 0, .int .i64 0] := by rw [hW6]; exact st15_blk HE5.out _ _ _ _ _ _ _ _ _ _ _ _ _ _ _
      have hT6 : Turns (fun i => i = be) w5 W6 := by rw [hW6]; exact st15_turns _ _ _ _ _ _ _ _ _ _ _ _ _ _ _ _ _
      have HFI : Hid (OnP w p m a ⟨kd, fr, to, (br, bn), sl, ⟨⟨np, tk, ct, ep, cut⟩, ao1, cap1⟩, vo, vc, vs, so, sc, seen, eo, ec, evs, ti⟩ (.returned (.tuple #[.agg #[.int .i64 kk, .int .i64 nd, .int .i64 fr, .int .i64 r, .int .i64 n, .int .i64 sl, .bool true, .string ⟨#[]⟩, .string ⟨#[]⟩, .int .i64 0, .slice none 0 0, .slice vo5 YN vc5, .slice none 0 0, .slice none 0 0, .int .i64 0], .string RR, .bool true])) W6) := by
        obtain ⟨ys, hyn, hmap, hheld, hlen, hab⟩ := HYF.out
        unfold OnP
        rw [if_pos HTK.out, HKK.out, HRR.out]
        have hE4 := HE4.out.lt
        refine ⟨vo5, vc5, ys, ?_, by rw [HBB.out]; exact hmap, ⟨hheld.turned hT6 (noNum_blk HE5.out (by decide)) (fun b off e hf => by have := hab b off e; omega), fun b off e => Nat.le_trans (Nat.le_trans (bt' HB.out HB3.out).size HT4.out.size) (hab b off e)⟩, hlen, (HA4.out.below HS5.out.out).turned hT6 (fun i hi e => by have h1 := HPL.out i hi; have h2 := HBS.out.1; omega) (noNum_blk HE5.out (by decide)), ?_⟩
        · simp only [ansM, MsM.val, noopEn, List.length_nil]
          rw [HPR.out, HND.out, hyn]
        · exact (((Turns.of_below (F := FootA p m) (bt' HB.out HB3.out) (Nat.le_refl _)).trans HT4.out (fun i hi => .inl hi)).trans (Turns.of_below (F := fun _ => False) HS5.out.out (Nat.le_refl _)) (fun _ h => h.elim)).trans hT6 (fun i hi => .inr (by rw [hi]; exact HBS.out.1))
      have k0 := hk9.cell (i := 0) rfl
      have k1 := hk9.cell (i := 1) rfl
      have k2 := hk9.cell (i := 2) rfl
      have k3 := hk9.cell (i := 3) rfl
      have k4 := hk9.cell (i := 4) rfl
      have k5 := hk9.cell (i := 5) rfl
      have k6 := hk9.cell (i := 6) rfl
      have k7 := hk9.cell (i := 7) rfl
      have k8 := hk9.cell (i := 8) rfl
      have k9 := hk9.cell (i := 9) rfl
      have k10 := hk9.cell (i := 10) rfl
      have k11 := hk9.cell (i := 11) rfl
      have k12 := hk9.cell (i := 12) rfl
      have k13 := hk9.cell (i := 13) rfl
      have k14 := hk9.cell (i := 14) rfl
      clear hk9 hT6
      go_wp2
      unfold st15 at hW6
      rw [← hW6]
      (try simp only [Exit.inBlock, Exit.then])
      refine bodyPost_ret (v := .tuple #[.agg #[.int .i64 kk, .int .i64 nd, .int .i64 fr, .int .i64 r, .int .i64 n, .int .i64 sl, .bool true, .string ⟨#[]⟩, .string ⟨#[]⟩, .int .i64 0, .slice none 0 0, .slice vo5 YN vc5, .slice none 0 0, .slice none 0 0, .int .i64 0], .string RR, .bool true]) ?_ rfl HFI.out
      rw [results_cellA3 rfl]
      go_simp
end Go.Proofs.YtfmnbehopdmahaaGreat
