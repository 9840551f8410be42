/-
  Package acceptor: On, where it is refused.
-/
import Derived.Test.YtfmnbehopdmahaaGreatSealA
namespace Go.Proofs.YtfmnbehopdmahaaGreat
open Go.RowKit Go.Maps

set_option maxRecDepth 1000000 in
set_option maxHeartbeats 8000000 in
theorem AcAt.on_5 {w : World} {p m : Nat} {a : Ac} (h : AcAt w p m a) (x : MsM) (hx : MsOk w x) (hsep : ∀ b off, x.en.ao = some ⟨b, off, none⟩ → x.en.e.cut ≠ [] → b ≠ p) (hyp0 : takesA a x = true ∧ kindA a x = 5) : Calls Tryz.prog 9 #[.pointer (some ⟨p, 0, none⟩), x.val] w (OnP w p m a x) := by
  obtain ⟨W1, hW1⟩ : ∃ W, W = w.alloc (.cells x.cells.toArray 43) := ⟨_, rfl⟩
  obtain ⟨W, hW⟩ : ∃ W, W = W1.alloc (.cells #[.int .i64 0, .int .i64 0, .int .i64 0, .int .i64 0, .int .i64 0, .int .i64 0, .bool false, .string ⟨#[]⟩, .string ⟨#[]⟩, .int .i64 0, .slice none 0 0, .slice none 0 0, .slice none 0 0, .slice none 0 0, .int .i64 0] 43) := ⟨_, rfl⟩
  have hs1 : W1.heap.size = w.heap.size + 1 := by rw [hW1]; simp
  have hb1 : Below w.heap.size w W1 := by rw [hW1]; exact (Below.refl _ _).alloc (Nat.le_refl _) _
  have HB : Hid (Below w.heap.size w W) := by rw [hW]; exact hb1.alloc hb1.size _
  obtain ⟨bm, hbm⟩ : ∃ q, q = w.heap.size := ⟨_, rfl⟩
  obtain ⟨be, hbe⟩ : ∃ q, q = w.heap.size + 1 := ⟨_, rfl⟩
  have HKM : Hid (Blk W bm 43 x.cells) := by rw [hbm, hW, hW1]; exact (Blk.new w _ _).alloc _
  have HKE : Hid (Blk W be 43 [.int .i64 0, .int .i64 0, .int .i64 0, .int .i64 0, .int .i64 0, .int .i64 0, .bool false, .string ⟨#[]⟩, .string ⟨#[]⟩, .int .i64 0, .slice none 0 0, .slice none 0 0, .slice none 0 0, .slice none 0 0, .int .i64 0]) := by rw [hbe, hW, ← hs1]; exact Blk.new W1 _ _
  have HAT := hid (h.below HB.out)
  have HEF := hid (HAT.out.effectOf x (hx.below HB.out))
  have HW : Hid (W = (w.alloc (.cells x.cells.toArray 43)).alloc (.cells #[.int .i64 0, .int .i64 0, .int .i64 0, .int .i64 0, .int .i64 0, .int .i64 0, .bool false, .string ⟨#[]⟩, .string ⟨#[]⟩, .int .i64 0, .slice none 0 0, .slice none 0 0, .slice none 0 0, .slice none 0 0, .int .i64 0] 43)) := by show _ = _; rw [hW, hW1]
  have HX0 := hid hx
  have HSEP := hid hsep
  have HBM := hid hbm
  have HBE := hid hbe
  have HBS : Hid (w.heap.size ≤ be ∧ w.heap.size ≤ bm ∧ bm ≠ be) := ⟨by omega, by omega, by omega⟩
  have HPL : Hid (∀ i, FootA p m i → i < w.heap.size) := h.lt
  obtain ⟨nd, HND⟩ : ∃ q, Hid ((afterA a x).node = q) := ⟨_, hid rfl⟩
  obtain ⟨r, n, hpr⟩ : ∃ r n, (afterA a x).pr = (r, n) := ⟨_, _, rfl⟩
  have HPR := hid hpr
  obtain ⟨kk, HKK⟩ : ∃ q, Hid (kindA a x = q) := ⟨_, hid rfl⟩
  obtain ⟨RR, HRR⟩ : ∃ q, Hid ((if changesA a x = true then recOf x else ⟨#[]⟩) = q) := ⟨_, hid rfl⟩
  obtain ⟨cc, HCC⟩ : ∃ q, Hid (changesA a x = q) := ⟨_, hid rfl⟩
  obtain ⟨BB, HBB⟩ : ∃ q, Hid (afterA a x = q) := ⟨_, hid rfl⟩
  clear h hW hW1 hs1 hb1 hbm hbe hpr hx hsep
  have HHYP := hid hyp0
  clear hyp0
  obtain ⟨kd, fr, to, ⟨br, bn⟩, sl, ⟨⟨np, tk, ct, ep, cut⟩, ao1, cap1⟩, vo, vc, vs, so, sc, seen, eo, ec, evs, ti⟩ := x
  obtain ⟨XN, HXN⟩ : ∃ m, Hid (cut.length = m) := ⟨_, hid rfl⟩
  obtain ⟨VN, HVN⟩ : ∃ m, Hid (vs.length = m) := ⟨_, hid rfl⟩
  obtain ⟨SN, HSN⟩ : ∃ m, Hid (seen.length = m) := ⟨_, hid rfl⟩
  obtain ⟨EN, HEN⟩ : ∃ m, Hid (evs.length = m) := ⟨_, hid rfl⟩
  simp only [MsM.val, MsM.cells] at HW HKM HEF ⊢
  rw [HXN.out, HVN.out, HSN.out, HEN.out] at HW HKM HEF
  rw [HXN.out, HVN.out, HSN.out, HEN.out]
  have q0 := HKM.out.cell (i := 0) rfl
  have q1 := HKM.out.cell (i := 1) rfl
  have q2 := HKM.out.cell (i := 2) rfl
  have q3 := HKM.out.cell (i := 3) rfl
  have q4 := HKM.out.cell (i := 4) rfl
  have q5 := HKM.out.cell (i := 5) rfl
  have q6 := HKM.out.cell (i := 6) rfl
  have q7 := HKM.out.cell (i := 7) rfl
  have q8 := HKM.out.cell (i := 8) rfl
  have q9 := HKM.out.cell (i := 9) rfl
  have q10 := HKM.out.cell (i := 10) rfl
  have q11 := HKM.out.cell (i := 11) rfl
  have q12 := HKM.out.cell (i := 12) rfl
  have q13 := HKM.out.cell (i := 13) rfl
  have q14 := HKM.out.cell (i := 14) rfl
  have HTK := hid HHYP.out.1
  have HK0 := hid HHYP.out.2
  go_enter Tryz.func9, Tryz.ntmps9
  go_wp2_with fail
  rw [← HW.out, ← HBE.out, ← HBM.out]
  refine HEF.out.mono ?_
  rintro e w2 ⟨hb2, h2⟩
  rw [if_pos HTK.out] at h2
  obtain ⟨f2, lb2, rfl, hdo⟩ := h2
  rw [HKK.out, HRR.out, HCC.out]
  obtain ⟨W3, hW3⟩ : ∃ V, V = w2.alloc (.cells #[.int .i64 kk, .bool cc, .string RR, .func (.func f2) #[] lb2] 62) := ⟨_, rfl⟩
  have hb3 : Below w2.heap.size w2 W3 := by rw [hW3]; exact (Below.refl _ _).alloc (Nat.le_refl _) _
  have HB3 := hid (bt' hb2 hb3)
  have HA3 := hid (HAT.out.below HB3.out)
  have HDO := hid (hdo.below hb3)
  obtain ⟨bx, hbx⟩ : ∃ q, q = w2.heap.size := ⟨_, rfl⟩
  have HKX : Hid (Blk W3 bx 62 [.int .i64 kk, .bool cc, .string RR, .func (.func f2) #[] lb2]) := by rw [hbx, hW3]; exact Blk.new w2 _ _
  have HXB : Hid (w.heap.size ≤ bx) := by rw [hbx]; exact hid (bt' HB.out hb2).size
  have HXE : Hid (be < bx ∧ bm < bx) := by have h1 := HKE.out.lt; have h2 := HKM.out.lt; have h3 := hb2.size; exact hid ⟨by omega, by omega⟩
  have HBX := hid hbx
  have HW3 := hid hW3
  have HRM := hid (takesA_right HTK.out)
  clear hb2 hdo hb3 hW3 hbx q0 q1 q2 q3 q4 q5 q6 q7 q8 q9 q10 q11 q12 q13 q14 HEF
  rcases HDO.out with ⟨hk5, rfl, rfl⟩ | ⟨ba2, bm2, rfl, hA2, hM2, (⟨hk2, rfl⟩ | ⟨hk4, rfl⟩)⟩
  · have HDC := hid (does_no HA3.out hk5)
    clear hk5
    go_wp2_with fail
    rw [← HW3.out, ← HBX.out]
    refine HDC.out.mono ?_
    rintro e w4 ⟨rfl, hat4, ht4⟩
    have HA4 := hid hat4
    have HT4 := hid ht4
    have HNF : Hid (¬ FootA p m bm ∧ ¬ FootA p m be ∧ ¬ FootA p m bx) := ⟨fun hf => by have h1 := HPL.out _ hf; have h2 := HBS.out.2.1; omega, fun hf => by have h1 := HPL.out _ hf; have h2 := HBS.out.1; omega, fun hf => by have h1 := HPL.out _ hf; have h2 := HXB.out; omega⟩
    have HM4 := hid (ht4.blk (HKM.out.below HB3.out HKM.out.lt) HNF.out.1)
    have HE4 := hid (ht4.blk (HKE.out.below HB3.out HKE.out.lt) HNF.out.2.1)
    have HX4 := hid (ht4.blk HKX.out HNF.out.2.2)
    have HAN : Hid (∀ V, ScL w4 V → Calls Tryz.prog 20 #[.pointer (some ⟨p, 0, none⟩), .agg #[.int .i64 kd, .int .i64 fr, .int .i64 to, .int .i64 br, .int .i64 bn, .int .i64 sl, .bool np, .string tk, .string ct, .int .i64 ep, .slice ao1 XN cap1, .slice vo VN vc, .slice so SN sc, .slice eo EN ec, .int .i64 ti], .int .i64 kk] V fun e w' => ∃ vo5 vc5 YN, e = .returned (.agg #[.int .i64 kk, .int .i64 nd, .int .i64 fr, .int .i64 r, .int .i64 n, .int .i64 sl, .bool true, .string ⟨#[]⟩, .string ⟨#[]⟩, .int .i64 0, .slice none 0 0, .slice vo5 YN vc5, .slice none 0 0, .slice none 0 0, .int .i64 0]) ∧ Hid (∃ ys : List VoM, ys.length = YN ∧ ys.map VoM.sv = (if kk = 2 then fromTo BB sl BB.ks.length else []) ∧ HeldVI w' vo5 ys ∧ ys.length ≤ 4096 ∧ ∀ b off, vo5 = some ⟨b, off, none⟩ → w4.heap.size ≤ b) ∧ ScL w4 w') := fun V hV => by
      have h1 := (HA4.out.below hV.out).answer ⟨kd, fr, to, (br, bn), sl, ⟨⟨np, tk, ct, ep, cut⟩, ao1, cap1⟩, vo, vc, vs, so, sc, seen, eo, ec, evs, ti⟩ kk
      simp only [MsM.val] at h1
      rw [HXN.out, HVN.out, HSN.out, HEN.out] at h1
      refine h1.mono ?_
      rintro e w' ⟨vo5, vc5, ys, rfl, hmap, hheld, hlen, hab, hb⟩
      refine ⟨vo5, vc5, ys.length, ?_, ⟨ys, rfl, by rw [← HBB.out]; exact hmap, hheld, hlen, fun b off e => Nat.le_trans hV.out.size (hab b off e)⟩, hV.go hb⟩
      simp only [ansM, MsM.val, noopEn, List.length_nil]
      rw [HPR.out, HND.out]
    have HTS : Hid (∀ U, ScL w4 U → Turns (fun i => i = be) w4 U) := fun U hU => Turns.of_below hU.out (Nat.le_refl _)
    have HT0 : Hid (Turns (fun i => i = be) w4 w4) := Turns.refl _ _
    have HSA : Hid (∀ V, Turns (fun i => i = be) w4 V → (Turns (fun i => i = be) w4 V ∧ V.cell? ⟨bm, 0, none⟩ = some (.int .i64 kd) ∧ V.cell? ⟨bm, 1, none⟩ = some (.int .i64 fr) ∧ V.cell? ⟨bm, 2, none⟩ = some (.int .i64 to) ∧ V.cell? ⟨bm, 3, none⟩ = some (.int .i64 br) ∧ V.cell? ⟨bm, 4, none⟩ = some (.int .i64 bn) ∧ V.cell? ⟨bm, 5, none⟩ = some (.int .i64 sl) ∧ V.cell? ⟨bm, 6, none⟩ = some (.bool np) ∧ V.cell? ⟨bm, 7, none⟩ = some (.string tk) ∧ V.cell? ⟨bm, 8, none⟩ = some (.string ct) ∧ V.cell? ⟨bm, 9, none⟩ = some (.int .i64 ep) ∧ V.cell? ⟨bm, 10, none⟩ = some (.slice ao1 XN cap1) ∧ V.cell? ⟨bm, 11, none⟩ = some (.slice vo VN vc) ∧ V.cell? ⟨bm, 12, none⟩ = some (.slice so SN sc) ∧ V.cell? ⟨bm, 13, none⟩ = some (.slice eo EN ec) ∧ V.cell? ⟨bm, 14, none⟩ = some (.int .i64 ti) ∧ V.cell? ⟨bx, 0, none⟩ = some (.int .i64 kk) ∧ V.cell? ⟨bx, 2, none⟩ = some (.string RR))) := fun V hV => by
      have h1 := hV.blk HM4.out HBS.out.2.2
      have h2 := hV.blk HX4.out (by have := HXE.out.1; omega)
      exact ⟨hV, h1.cell rfl, h1.cell rfl, h1.cell rfl, h1.cell rfl, h1.cell rfl, h1.cell rfl, h1.cell rfl, h1.cell rfl, h1.cell rfl, h1.cell rfl, h1.cell rfl, h1.cell rfl, h1.cell rfl, h1.cell rfl, h1.cell rfl, h2.cell rfl, h2.cell rfl⟩
    have e0 := HE4.out.cell (i := 0) rfl
    have e1 := HE4.out.cell (i := 1) rfl
    have e2 := HE4.out.cell (i := 2) rfl
    have e3 := HE4.out.cell (i := 3) rfl
    have e4 := HE4.out.cell (i := 4) rfl
    have e5 := HE4.out.cell (i := 5) rfl
    have e6 := HE4.out.cell (i := 6) rfl
    have e7 := HE4.out.cell (i := 7) rfl
    have e8 := HE4.out.cell (i := 8) rfl
    have e9 := HE4.out.cell (i := 9) rfl
    have e10 := HE4.out.cell (i := 10) rfl
    have e11 := HE4.out.cell (i := 11) rfl
    have e12 := HE4.out.cell (i := 12) rfl
    have e13 := HE4.out.cell (i := 13) rfl
    have e14 := HE4.out.cell (i := 14) rfl
    have g0 := HE4.out.frozen 0
    have g1 := HE4.out.frozen 1
    have g2 := HE4.out.frozen 2
    have g3 := HE4.out.frozen 3
    have g4 := HE4.out.frozen 4
    have g5 := HE4.out.frozen 5
    have g6 := HE4.out.frozen 6
    have g7 := HE4.out.frozen 7
    have g8 := HE4.out.frozen 8
    have g9 := HE4.out.frozen 9
    have g10 := HE4.out.frozen 10
    have g11 := HE4.out.frozen 11
    have g12 := HE4.out.frozen 12
    have g13 := HE4.out.frozen 13
    have g14 := HE4.out.frozen 14
    clear hat4 ht4 HDC
    go_wp2
    go_region_held3 (fun V => Turns (fun i => i = be) w4 V ∧ V.cell? ⟨bm, 0, none⟩ = some (.int .i64 kd) ∧ V.cell? ⟨bm, 1, none⟩ = some (.int .i64 fr) ∧ V.cell? ⟨bm, 2, none⟩ = some (.int .i64 to) ∧ V.cell? ⟨bm, 3, none⟩ = some (.int .i64 br) ∧ V.cell? ⟨bm, 4, none⟩ = some (.int .i64 bn) ∧ V.cell? ⟨bm, 5, none⟩ = some (.int .i64 sl) ∧ V.cell? ⟨bm, 6, none⟩ = some (.bool np) ∧ V.cell? ⟨bm, 7, none⟩ = some (.string tk) ∧ V.cell? ⟨bm, 8, none⟩ = some (.string ct) ∧ V.cell? ⟨bm, 9, none⟩ = some (.int .i64 ep) ∧ V.cell? ⟨bm, 10, none⟩ = some (.slice ao1 XN cap1) ∧ V.cell? ⟨bm, 11, none⟩ = some (.slice vo VN vc) ∧ V.cell? ⟨bm, 12, none⟩ = some (.slice so SN sc) ∧ V.cell? ⟨bm, 13, none⟩ = some (.slice eo EN ec) ∧ V.cell? ⟨bm, 14, none⟩ = some (.int .i64 ti) ∧ V.cell? ⟨bx, 0, none⟩ = some (.int .i64 kk) ∧ V.cell? ⟨bx, 2, none⟩ = some (.string RR))
      (first | (refine HSA.out _ ?_; (repeat (first | with_reducible assumption | with_reducible exact HT0.out | with_reducible apply Turns.drew | with_reducible apply turns_own)); done))
      (first
        | (go_at_call 20; with_reducible refine (HAN.out _ (by (repeat (first | assumption | exact ScL.start _ | apply ScL.dr)))).mono ?_; rintro e w5 ⟨vo5, vc5, YN, rfl, HYF, hs5⟩; have hT5 := HTS.out _ hs5; have HS5 := hid hs5; have hE5 := HE4.out.below hs5.out HE4.out.lt; have HE5 := hid hE5; have e0 := hE5.cell (i := 0) rfl; have e1 := hE5.cell (i := 1) rfl; have e2 := hE5.cell (i := 2) rfl; have e3 := hE5.cell (i := 3) rfl; have e4 := hE5.cell (i := 4) rfl; have e5 := hE5.cell (i := 5) rfl; have e6 := hE5.cell (i := 6) rfl; have e7 := hE5.cell (i := 7) rfl; have e8 := hE5.cell (i := 8) rfl; have e9 := hE5.cell (i := 9) rfl; have e10 := hE5.cell (i := 10) rfl; have e11 := hE5.cell (i := 11) rfl; have e12 := hE5.cell (i := 12) rfl; have e13 := hE5.cell (i := 13) rfl; have e14 := hE5.cell (i := 14) rfl; have g0 := hE5.frozen 0; have g1 := hE5.frozen 1; have g2 := hE5.frozen 2; have g3 := hE5.frozen 3; have g4 := hE5.frozen 4; have g5 := hE5.frozen 5; have g6 := hE5.frozen 6; have g7 := hE5.frozen 7; have g8 := hE5.frozen 8; have g9 := hE5.frozen 9; have g10 := hE5.frozen 10; have g11 := hE5.frozen 11; have g12 := hE5.frozen 12; have g13 := hE5.frozen 13; have g14 := hE5.frozen 14; clear hE5))
    all_goals
      obtain ⟨W6, hW6⟩ : ∃ V, V = st15 w5 be (.int .i64 kk) (.int .i64 nd) (.int .i64 fr) (.int .i64 r) (.int .i64 n) (.int .i64 sl) (.bool true) (.string ⟨#[]⟩) (.string ⟨#[]⟩) (.int .i64 0) (.slice none 0 0) (.slice vo5 YN vc5) (.slice none 0 0) (.slice none 0 0) (.int .i64 0) := ⟨_, rfl⟩
      have hk9 : Blk W6 be 43 [.int .i64 kk, .int .i64 nd, .int .i64 fr, .int .i64 r, .int .i64 n, .int .i64 sl, .bool true, .string ⟨#[]⟩, .string ⟨#[]⟩, .int .i64 0, .slice none 0 0, .slice vo5 YN vc5, .slice none 0 0, .slice none 0 0, .int .i64 0] := by rw [hW6]; exact st15_blk HE5.out _ _ _ _ _ _ _ _ _ _ _ _ _ _ _
      have hT6 : Turns (fun i => i = be) w5 W6 := by rw [hW6]; exact st15_turns _ _ _ _ _ _ _ _ _ _ _ _ _ _ _ _ _
      have HFI : Hid (OnP w p m a ⟨kd, fr, to, (br, bn), sl, ⟨⟨np, tk, ct, ep, cut⟩, ao1, cap1⟩, vo, vc, vs, so, sc, seen, eo, ec, evs, ti⟩ (.returned (.tuple #[.agg #[.int .i64 kk, .int .i64 nd, .int .i64 fr, .int .i64 r, .int .i64 n, .int .i64 sl, .bool true, .string ⟨#[]⟩, .string ⟨#[]⟩, .int .i64 0, .slice none 0 0, .slice vo5 YN vc5, .slice none 0 0, .slice none 0 0, .int .i64 0], .string RR, .bool true])) W6) := by
        obtain ⟨ys, hyn, hmap, hheld, hlen, hab⟩ := HYF.out
        unfold OnP
        rw [if_pos HTK.out, HKK.out, HRR.out]
        have hE4 := HE4.out.lt
        refine ⟨vo5, vc5, ys, ?_, by rw [HBB.out]; exact hmap, ⟨hheld.turned hT6 (noNum_blk HE5.out (by decide)) (fun b off e hf => by have := hab b off e; omega), fun b off e => Nat.le_trans (Nat.le_trans (bt' HB.out HB3.out).size HT4.out.size) (hab b off e)⟩, hlen, (HA4.out.below HS5.out.out).turned hT6 (fun i hi e => by have h1 := HPL.out i hi; have h2 := HBS.out.1; omega) (noNum_blk HE5.out (by decide)), ?_⟩
        · simp only [ansM, MsM.val, noopEn, List.length_nil]
          rw [HPR.out, HND.out, hyn]
        · exact (((Turns.of_below (F := FootA p m) (bt' HB.out HB3.out) (Nat.le_refl _)).trans HT4.out (fun i hi => .inl hi)).trans (Turns.of_below (F := fun _ => False) HS5.out.out (Nat.le_refl _)) (fun _ h => h.elim)).trans hT6 (fun i hi => .inr (by rw [hi]; exact HBS.out.1))
      have k0 := hk9.cell (i := 0) rfl
      have k1 := hk9.cell (i := 1) rfl
      have k2 := hk9.cell (i := 2) rfl
      have k3 := hk9.cell (i := 3) rfl
      have k4 := hk9.cell (i := 4) rfl
      have k5 := hk9.cell (i := 5) rfl
      have k6 := hk9.cell (i := 6) rfl
      have k7 := hk9.cell (i := 7) rfl
      have k8 := hk9.cell (i := 8) rfl
      have k9 := hk9.cell (i := 9) rfl
      have k10 := hk9.cell (i := 10) rfl
      have k11 := hk9.cell (i := 11) rfl
      have k12 := hk9.cell (i := 12) rfl
      have k13 := hk9.cell (i := 13) rfl
      have k14 := hk9.cell (i := 14) rfl
      clear hk9 hT6
      go_wp2
      unfold st15 at hW6
      rw [← hW6]
      (try simp only [Exit.inBlock, Exit.then])
      refine bodyPost_ret (v := .tuple #[.agg #[.int .i64 kk, .int .i64 nd, .int .i64 fr, .int .i64 r, .int .i64 n, .int .i64 sl, .bool true, .string ⟨#[]⟩, .string ⟨#[]⟩, .int .i64 0, .slice none 0 0, .slice vo5 YN vc5, .slice none 0 0, .slice none 0 0, .int .i64 0], .string RR, .bool true]) ?_ rfl HFI.out
      rw [results_cellA3 rfl]
      go_simp
  · exact absurd (hk2.symm.trans HK0.out) (by decide)
  · exact absurd (hk4.symm.trans HK0.out) (by decide)
end Go.Proofs.YtfmnbehopdmahaaGreat
/-
  Package acceptor: On, where it is a promise.
-/
namespace Go.Proofs.YtfmnbehopdmahaaGreat
open Go.RowKit Go.Maps

set_option maxRecDepth 1000000 in
set_option maxHeartbeats 8000000 in
theorem AcAt.on_2 {w : World} {p m : Nat} {a : Ac} (h : AcAt w p m a) (x : MsM) (hx : MsOk w x) (hsep : ∀ b off, x.en.ao = some ⟨b, off, none⟩ → x.en.e.cut ≠ [] → b ≠ p) (hyp0 : takesA a x = true ∧ kindA a x = 2) : Calls Tryz.prog 9 #[.pointer (some ⟨p, 0, none⟩), x.val] w (OnP w p m a x) := by
  obtain ⟨W1, hW1⟩ : ∃ W, W = w.alloc (.cells x.cells.toArray 43) := ⟨_, rfl⟩
  obtain ⟨W, hW⟩ : ∃ W, W = W1.alloc (.cells #[.int .i64 0, .int .i64 0, .int .i64 0, .int .i64 0, .int .i64 0, .int .i64 0, .bool false, .string ⟨#[]⟩, .string ⟨#[]⟩, .int .i64 0, .slice none 0 0, .slice none 0 0, .slice none 0 0, .slice none 0 0, .int .i64 0] 43) := ⟨_, rfl⟩
  have hs1 : W1.heap.size = w.heap.size + 1 := by rw [hW1]; simp
  have hb1 : Below w.heap.size w W1 := by rw [hW1]; exact (Below.refl _ _).alloc (Nat.le_refl _) _
  have HB : Hid (Below w.heap.size w W) := by rw [hW]; exact hb1.alloc hb1.size _
  obtain ⟨bm, hbm⟩ : ∃ q, q = w.heap.size := ⟨_, rfl⟩
  obtain ⟨be, hbe⟩ : ∃ q, q = w.heap.size + 1 := ⟨_, rfl⟩
  have HKM : Hid (Blk W bm 43 x.cells) := by rw [hbm, hW, hW1]; exact (Blk.new w _ _).alloc _
  have HKE : Hid (Blk W be 43 [.int .i64 0, .int .i64 0, .int .i64 0, .int .i64 0, .int .i64 0, .int .i64 0, .bool false, .string ⟨#[]⟩, .string ⟨#[]⟩, .int .i64 0, .slice none 0 0, .slice none 0 0, .slice none 0 0, .slice none 0 0, .int .i64 0]) := by rw [hbe, hW, ← hs1]; exact Blk.new W1 _ _
  have HAT := hid (h.below HB.out)
  have HEF := hid (HAT.out.effectOf x (hx.below HB.out))
  have HW : Hid (W = (w.alloc (.cells x.cells.toArray 43)).alloc (.cells #[.int .i64 0, .int .i64 0, .int .i64 0, .int .i64 0, .int .i64 0, .int .i64 0, .bool false, .string ⟨#[]⟩, .string ⟨#[]⟩, .int .i64 0, .slice none 0 0, .slice none 0 0, .slice none 0 0, .slice none 0 0, .int .i64 0] 43)) := by show _ = _; rw [hW, hW1]
  have HX0 := hid hx
  have HSEP := hid hsep
  have HBM := hid hbm
  have HBE := hid hbe
  have HBS : Hid (w.heap.size ≤ be ∧ w.heap.size ≤ bm ∧ bm ≠ be) := ⟨by omega, by omega, by omega⟩
  have HPL : Hid (∀ i, FootA p m i → i < w.heap.size) := h.lt
  obtain ⟨nd, HND⟩ : ∃ q, Hid ((afterA a x).node = q) := ⟨_, hid rfl⟩
  obtain ⟨r, n, hpr⟩ : ∃ r n, (afterA a x).pr = (r, n) := ⟨_, _, rfl⟩
  have HPR := hid hpr
  obtain ⟨kk, HKK⟩ : ∃ q, Hid (kindA a x = q) := ⟨_, hid rfl⟩
  obtain ⟨RR, HRR⟩ : ∃ q, Hid ((if changesA a x = true then recOf x else ⟨#[]⟩) = q) := ⟨_, hid rfl⟩
  obtain ⟨cc, HCC⟩ : ∃ q, Hid (changesA a x = q) := ⟨_, hid rfl⟩
  obtain ⟨BB, HBB⟩ : ∃ q, Hid (afterA a x = q) := ⟨_, hid rfl⟩
  clear h hW hW1 hs1 hb1 hbm hbe hpr hx hsep
  have HHYP := hid hyp0
  clear hyp0
  obtain ⟨kd, fr, to, ⟨br, bn⟩, sl, ⟨⟨np, tk, ct, ep, cut⟩, ao1, cap1⟩, vo, vc, vs, so, sc, seen, eo, ec, evs, ti⟩ := x
  obtain ⟨XN, HXN⟩ : ∃ m, Hid (cut.length = m) := ⟨_, hid rfl⟩
  obtain ⟨VN, HVN⟩ : ∃ m, Hid (vs.length = m) := ⟨_, hid rfl⟩
  obtain ⟨SN, HSN⟩ : ∃ m, Hid (seen.length = m) := ⟨_, hid rfl⟩
  obtain ⟨EN, HEN⟩ : ∃ m, Hid (evs.length = m) := ⟨_, hid rfl⟩
  simp only [MsM.val, MsM.cells] at HW HKM HEF ⊢
  rw [HXN.out, HVN.out, HSN.out, HEN.out] at HW HKM HEF
  rw [HXN.out, HVN.out, HSN.out, HEN.out]
  have q0 := HKM.out.cell (i := 0) rfl
  have q1 := HKM.out.cell (i := 1) rfl
  have q2 := HKM.out.cell (i := 2) rfl
  have q3 := HKM.out.cell (i := 3) rfl
  have q4 := HKM.out.cell (i := 4) rfl
  have q5 := HKM.out.cell (i := 5) rfl
  have q6 := HKM.out.cell (i := 6) rfl
  have q7 := HKM.out.cell (i := 7) rfl
  have q8 := HKM.out.cell (i := 8) rfl
  have q9 := HKM.out.cell (i := 9) rfl
  have q10 := HKM.out.cell (i := 10) rfl
  have q11 := HKM.out.cell (i := 11) rfl
  have q12 := HKM.out.cell (i := 12) rfl
  have q13 := HKM.out.cell (i := 13) rfl
  have q14 := HKM.out.cell (i := 14) rfl
  have HTK := hid HHYP.out.1
  have HK0 := hid HHYP.out.2
  go_enter Tryz.func9, Tryz.ntmps9
  go_wp2_with fail
  rw [← HW.out, ← HBE.out, ← HBM.out]
  refine HEF.out.mono ?_
  rintro e w2 ⟨hb2, h2⟩
  rw [if_pos HTK.out] at h2
  obtain ⟨f2, lb2, rfl, hdo⟩ := h2
  rw [HKK.out, HRR.out, HCC.out]
  obtain ⟨W3, hW3⟩ : ∃ V, V = w2.alloc (.cells #[.int .i64 kk, .bool cc, .string RR, .func (.func f2) #[] lb2] 62) := ⟨_, rfl⟩
  have hb3 : Below w2.heap.size w2 W3 := by rw [hW3]; exact (Below.refl _ _).alloc (Nat.le_refl _) _
  have HB3 := hid (bt' hb2 hb3)
  have HA3 := hid (HAT.out.below HB3.out)
  have HDO := hid (hdo.below hb3)
  obtain ⟨bx, hbx⟩ : ∃ q, q = w2.heap.size := ⟨_, rfl⟩
  have HKX : Hid (Blk W3 bx 62 [.int .i64 kk, .bool cc, .string RR, .func (.func f2) #[] lb2]) := by rw [hbx, hW3]; exact Blk.new w2 _ _
  have HXB : Hid (w.heap.size ≤ bx) := by rw [hbx]; exact hid (bt' HB.out hb2).size
  have HXE : Hid (be < bx ∧ bm < bx) := by have h1 := HKE.out.lt; have h2 := HKM.out.lt; have h3 := hb2.size; exact hid ⟨by omega, by omega⟩
  have HBX := hid hbx
  have HW3 := hid hW3
  have HRM := hid (takesA_right HTK.out)
  clear hb2 hdo hb3 hW3 hbx q0 q1 q2 q3 q4 q5 q6 q7 q8 q9 q10 q11 q12 q13 q14 HEF
  rcases HDO.out with ⟨hk5, rfl, rfl⟩ | ⟨ba2, bm2, rfl, hA2, hM2, (⟨hk2, rfl⟩ | ⟨hk4, rfl⟩)⟩
  · exact absurd (hk5.symm.trans HK0.out) (by decide)
  · have HDC := hid (does_prep HA3.out hA2 hM2 HRM.out hk2)
    clear hA2 hM2 hk2
    go_wp2_with fail
    rw [← HW3.out, ← HBX.out]
    refine HDC.out.mono ?_
    rintro e w4 ⟨rfl, hat4, ht4⟩
    have HA4 := hid hat4
    have HT4 := hid ht4
    have HNF : Hid (¬ FootA p m bm ∧ ¬ FootA p m be ∧ ¬ FootA p m bx) := ⟨fun hf => by have h1 := HPL.out _ hf; have h2 := HBS.out.2.1; omega, fun hf => by have h1 := HPL.out _ hf; have h2 := HBS.out.1; omega, fun hf => by have h1 := HPL.out _ hf; have h2 := HXB.out; omega⟩
    have HM4 := hid (ht4.blk (HKM.out.below HB3.out HKM.out.lt) HNF.out.1)
    have HE4 := hid (ht4.blk (HKE.out.below HB3.out HKE.out.lt) HNF.out.2.1)
    have HX4 := hid (ht4.blk HKX.out HNF.out.2.2)
    have HAN : Hid (∀ V, ScL w4 V → Calls Tryz.prog 20 #[.pointer (some ⟨p, 0, none⟩), .agg #[.int .i64 kd, .int .i64 fr, .int .i64 to, .int .i64 br, .int .i64 bn, .int .i64 sl, .bool np, .string tk, .string ct, .int .i64 ep, .slice ao1 XN cap1, .slice vo VN vc, .slice so SN sc, .slice eo EN ec, .int .i64 ti], .int .i64 kk] V fun e w' => ∃ vo5 vc5 YN, e = .returned (.agg #[.int .i64 kk, .int .i64 nd, .int .i64 fr, .int .i64 r, .int .i64 n, .int .i64 sl, .bool true, .string ⟨#[]⟩, .string ⟨#[]⟩, .int .i64 0, .slice none 0 0, .slice vo5 YN vc5, .slice none 0 0, .slice none 0 0, .int .i64 0]) ∧ Hid (∃ ys : List VoM, ys.length = YN ∧ ys.map VoM.sv = (if kk = 2 then fromTo BB sl BB.ks.length else []) ∧ HeldVI w' vo5 ys ∧ ys.length ≤ 4096 ∧ ∀ b off, vo5 = some ⟨b, off, none⟩ → w4.heap.size ≤ b) ∧ ScL w4 w') := fun V hV => by
      have h1 := (HA4.out.below hV.out).answer ⟨kd, fr, to, (br, bn), sl, ⟨⟨np, tk, ct, ep, cut⟩, ao1, cap1⟩, vo, vc, vs, so, sc, seen, eo, ec, evs, ti⟩ kk
      simp only [MsM.val] at h1
      rw [HXN.out, HVN.out, HSN.out, HEN.out] at h1
      refine h1.mono ?_
      rintro e w' ⟨vo5, vc5, ys, rfl, hmap, hheld, hlen, hab, hb⟩
      refine ⟨vo5, vc5, ys.length, ?_, ⟨ys, rfl, by rw [← HBB.out]; exact hmap, hheld, hlen, fun b off e => Nat.le_trans hV.out.size (hab b off e)⟩, hV.go hb⟩
      simp only [ansM, MsM.val, noopEn, List.length_nil]
      rw [HPR.out, HND.out]
    have HTS : Hid (∀ U, ScL w4 U → Turns (fun i => i = be) w4 U) := fun U hU => Turns.of_below hU.out (Nat.le_refl _)
    have HT0 : Hid (Turns (fun i => i = be) w4 w4) := Turns.refl _ _
    have HSA : Hid (∀ V, Turns (fun i => i = be) w4 V → (Turns (fun i => i = be) w4 V ∧ V.cell? ⟨bm, 0, none⟩ = some (.int .i64 kd) ∧ V.cell? ⟨bm, 1, none⟩ = some (.int .i64 fr) ∧ V.cell? ⟨bm, 2, none⟩ = some (.int .i64 to) ∧ V.cell? ⟨bm, 3, none⟩ = some (.int .i64 br) ∧ V.cell? ⟨bm, 4, none⟩ = some (.int .i64 bn) ∧ V.cell? ⟨bm, 5, none⟩ = some (.int .i64 sl) ∧ V.cell? ⟨bm, 6, none⟩ = some (.bool np) ∧ V.cell? ⟨bm, 7, none⟩ = some (.string tk) ∧ V.cell? ⟨bm, 8, none⟩ = some (.string ct) ∧ V.cell? ⟨bm, 9, none⟩ = some (.int .i64 ep) ∧ V.cell? ⟨bm, 10, none⟩ = some (.slice ao1 XN cap1) ∧ V.cell? ⟨bm, 11, none⟩ = some (.slice vo VN vc) ∧ V.cell? ⟨bm, 12, none⟩ = some (.slice so SN sc) ∧ V.cell? ⟨bm, 13, none⟩ = some (.slice eo EN ec) ∧ V.cell? ⟨bm, 14, none⟩ = some (.int .i64 ti) ∧ V.cell? ⟨bx, 0, none⟩ = some (.int .i64 kk) ∧ V.cell? ⟨bx, 2, none⟩ = some (.string RR))) := fun V hV => by
      have h1 := hV.blk HM4.out HBS.out.2.2
      have h2 := hV.blk HX4.out (by have := HXE.out.1; omega)
      exact ⟨hV, h1.cell rfl, h1.cell rfl, h1.cell rfl, h1.cell rfl, h1.cell rfl, h1.cell rfl, h1.cell rfl, h1.cell rfl, h1.cell rfl, h1.cell rfl, h1.cell rfl, h1.cell rfl, h1.cell rfl, h1.cell rfl, h1.cell rfl, h2.cell rfl, h2.cell rfl⟩
    have e0 := HE4.out.cell (i := 0) rfl
    have e1 := HE4.out.cell (i := 1) rfl
    have e2 := HE4.out.cell (i := 2) rfl
    have e3 := HE4.out.cell (i := 3) rfl
    have e4 := HE4.out.cell (i := 4) rfl
    have e5 := HE4.out.cell (i := 5) rfl
    have e6 := HE4.out.cell (i := 6) rfl
    have e7 := HE4.out.cell (i := 7) rfl
    have e8 := HE4.out.cell (i := 8) rfl
    have e9 := HE4.out.cell (i := 9) rfl
    have e10 := HE4.out.cell (i := 10) rfl
    have e11 := HE4.out.cell (i := 11) rfl
    have e12 := HE4.out.cell (i := 12) rfl
    have e13 := HE4.out.cell (i := 13) rfl
    have e14 := HE4.out.cell (i := 14) rfl
    have g0 := HE4.out.frozen 0
    have g1 := HE4.out.frozen 1
    have g2 := HE4.out.frozen 2
    have g3 := HE4.out.frozen 3
    have g4 := HE4.out.frozen 4
    have g5 := HE4.out.frozen 5
    have g6 := HE4.out.frozen 6
    have g7 := HE4.out.frozen 7
    have g8 := HE4.out.frozen 8
    have g9 := HE4.out.frozen 9
    have g10 := HE4.out.frozen 10
    have g11 := HE4.out.frozen 11
    have g12 := HE4.out.frozen 12
    have g13 := HE4.out.frozen 13
    have g14 := HE4.out.frozen 14
    clear hat4 ht4 HDC
    go_wp2
    go_region_held3 (fun V => Turns (fun i => i = be) w4 V ∧ V.cell? ⟨bm, 0, none⟩ = some (.int .i64 kd) ∧ V.cell? ⟨bm, 1, none⟩ = some (.int .i64 fr) ∧ V.cell? ⟨bm, 2, none⟩ = some (.int .i64 to) ∧ V.cell? ⟨bm, 3, none⟩ = some (.int .i64 br) ∧ V.cell? ⟨bm, 4, none⟩ = some (.int .i64 bn) ∧ V.cell? ⟨bm, 5, none⟩ = some (.int .i64 sl) ∧ V.cell? ⟨bm, 6, none⟩ = some (.bool np) ∧ V.cell? ⟨bm, 7, none⟩ = some (.string tk) ∧ V.cell? ⟨bm, 8, none⟩ = some (.string ct) ∧ V.cell? ⟨bm, 9, none⟩ = some (.int .i64 ep) ∧ V.cell? ⟨bm, 10, none⟩ = some (.slice ao1 XN cap1) ∧ V.cell? ⟨bm, 11, none⟩ = some (.slice vo VN vc) ∧ V.cell? ⟨bm, 12, none⟩ = some (.slice so SN sc) ∧ V.cell? ⟨bm, 13, none⟩ = some (.slice eo EN ec) ∧ V.cell? ⟨bm, 14, none⟩ = some (.int .i64 ti) ∧ V.cell? ⟨bx, 0, none⟩ = some (.int .i64 kk) ∧ V.cell? ⟨bx, 2, none⟩ = some (.string RR))
      (first | (refine HSA.out _ ?_; (repeat (first | with_reducible assumption | with_reducible exact HT0.out | with_reducible apply Turns.drew | with_reducible apply turns_own)); done))
      (first
        | (go_at_call 20; with_reducible refine (HAN.out _ (by (repeat (first | assumption | exact ScL.start _ | apply ScL.dr)))).mono ?_; rintro e w5 ⟨vo5, vc5, YN, rfl, HYF, hs5⟩; have hT5 := HTS.out _ hs5; have HS5 := hid hs5; have hE5 := HE4.out.below hs5.out HE4.out.lt; have HE5 := hid hE5; have e0 := hE5.cell (i := 0) rfl; have e1 := hE5.cell (i := 1) rfl; have e2 := hE5.cell (i := 2) rfl; have e3 := hE5.cell (i := 3) rfl; have e4 := hE5.cell (i := 4) rfl; have e5 := hE5.cell (i := 5) rfl; have e6 := hE5.cell (i := 6) rfl; have e7 := hE5.cell (i := 7) rfl; have e8 := hE5.cell (i := 8) rfl; have e9 := hE5.cell (i := 9) rfl; have e10 := hE5.cell (i := 10) rfl; have e11 := hE5.cell (i := 11) rfl; have e12 := hE5.cell (i := 12) rfl; have e13 := hE5.cell (i := 13) rfl; have e14 := hE5.cell (i := 14) rfl; have g0 := hE5.frozen 0; have g1 := hE5.frozen 1; have g2 := hE5.frozen 2; have g3 := hE5.frozen 3; have g4 := hE5.frozen 4; have g5 := hE5.frozen 5; have g6 := hE5.frozen 6; have g7 := hE5.frozen 7; have g8 := hE5.frozen 8; have g9 := hE5.frozen 9; have g10 := hE5.frozen 10; have g11 := hE5.frozen 11; have g12 := hE5.frozen 12; have g13 := hE5.frozen 13; have g14 := hE5.frozen 14; clear hE5))
    all_goals
      obtain ⟨W6, hW6⟩ : ∃ V, V = st15 w5 be (.int .i64 kk) (.int .i64 nd) (.int .i64 fr) (.int .i64 r) (.int .i64 n) (.int .i64 sl) (.bool true) (.string ⟨#[]⟩) (.string ⟨#[]⟩) (.int .i64 0) (.slice none 0 0) (.slice vo5 YN vc5) (.slice none 0 0) (.slice none 0 0) (.int .i64 0) := ⟨_, rfl⟩
      have hk9 : Blk W6 be 43 [.int .i64 kk, .int .i64 nd, .int .i64 fr, .int .i64 r, .int .i64 n, .int .i64 sl, .bool true, .string ⟨#[]⟩, .string ⟨#[]⟩, .int .i64 0, .slice none 0 0, .slice vo5 YN vc5, .slice none 0 0, .slice none 0 0, .int .i64 0] := by rw [hW6]; exact st15_blk HE5.out _ _ _ _ _ _ _ _ _ _ _ _ _ _ _
      have hT6 : Turns (fun i => i = be) w5 W6 := by rw [hW6]; exact st15_turns _ _ _ _ _ _ _ _ _ _ _ _ _ _ _ _ _
      have HFI : Hid (OnP w p m a ⟨kd, fr, to, (br, bn), sl, ⟨⟨np, tk, ct, ep, cut⟩, ao1, cap1⟩, vo, vc, vs, so, sc, seen, eo, ec, evs, ti⟩ (.returned (.tuple #[.agg #[.int .i64 kk, .int .i64 nd, .int .i64 fr, .int .i64 r, .int .i64 n, .int .i64 sl, .bool true, .string ⟨#[]⟩, .string ⟨#[]⟩, .int .i64 0, .slice none 0 0, .slice vo5 YN vc5, .slice none 0 0, .slice none 0 0, .int .i64 0], .string RR, .bool true])) W6) := by
        obtain ⟨ys, hyn, hmap, hheld, hlen, hab⟩ := HYF.out
        unfold OnP
        rw [if_pos HTK.out, HKK.out, HRR.out]
        have hE4 := HE4.out.lt
        refine ⟨vo5, vc5, ys, ?_, by rw [HBB.out]; exact hmap, ⟨hheld.turned hT6 (noNum_blk HE5.out (by decide)) (fun b off e hf => by have := hab b off e; omega), fun b off e => Nat.le_trans (Nat.le_trans (bt' HB.out HB3.out).size HT4.out.size) (hab b off e)⟩, hlen, (HA4.out.below HS5.out.out).turned hT6 (fun i hi e => by have h1 := HPL.out i hi; have h2 := HBS.out.1; omega) (noNum_blk HE5.out (by decide)), ?_⟩
        · simp only [ansM, MsM.val, noopEn, List.length_nil]
          rw [HPR.out, HND.out, hyn]
        · exact (((Turns.of_below (F := FootA p m) (bt' HB.out HB3.out) (Nat.le_refl _)).trans HT4.out (fun i hi => .inl hi)).trans (Turns.of_below (F := fun _ => False) HS5.out.out (Nat.le_refl _)) (fun _ h => h.elim)).trans hT6 (fun i hi => .inr (by rw [hi]; exact HBS.out.1))
      have k0 := hk9.cell (i := 0) rfl
      have k1 := hk9.cell (i := 1) rfl
      have k2 := hk9.cell (i := 2) rfl
      have k3 := hk9.cell (i := 3) rfl
      have k4 := hk9.cell (i := 4) rfl
      have k5 := hk9.cell (i := 5) rfl
      have k6 := hk9.cell (i := 6) rfl
      have k7 := hk9.cell (i := 7) rfl
      have k8 := hk9.cell (i := 8) rfl
      have k9 := hk9.cell (i := 9) rfl
      have k10 := hk9.cell (i := 10) rfl
      have k11 := hk9.cell (i := 11) rfl
      have k12 := hk9.cell (i := 12) rfl
      have k13 := hk9.cell (i := 13) rfl
      have k14 := hk9.cell (i := 14) rfl
      clear hk9 hT6
      go_wp2
      unfold st15 at hW6
      rw [← hW6]
      (try simp only [Exit.inBlock, Exit.then])
      refine bodyPost_ret (v := .tuple #[.agg #[.int .i64 kk, .int .i64 nd, .int .i64 fr, .int .i64 r, .int .i64 n, .int .i64 sl, .bool true, .string ⟨#[]⟩, .string ⟨#[]⟩, .int .i64 0, .slice none 0 0, .slice vo5 YN vc5, .slice none 0 0, .slice none 0 0, .int .i64 0], .string RR, .bool true]) ?_ rfl HFI.out
      rw [results_cellA3 rfl]
      go_simp
  · exact absurd (hk4.symm.trans HK0.out) (by decide)
end Go.Proofs.YtfmnbehopdmahaaGreat
/-
  Package acceptor: On, where it is a vote.
-/
namespace Go.Proofs.YtfmnbehopdmahaaGreat
open Go.RowKit Go.Maps

set_option maxRecDepth 1000000 in
set_option maxHeartbeats 8000000 in
theorem AcAt.on_4 {w : World} {p m : Nat} {a : Ac} (h : AcAt w p m a) (x : MsM) (hx : MsOk w x) (hsep : ∀ b off, x.en.ao = some ⟨b, off, none⟩ → x.en.e.cut ≠ [] → b ≠ p) (hyp0 : takesA a x = true ∧ kindA a x = 4) : Calls Tryz.prog 9 #[.pointer (some ⟨p, 0, none⟩), x.val] w (OnP w p m a x) := by
  obtain ⟨W1, hW1⟩ : ∃ W, W = w.alloc (.cells x.cells.toArray 43) := ⟨_, rfl⟩
  obtain ⟨W, hW⟩ : ∃ W, W = W1.alloc (.cells #[.int .i64 0, .int .i64 0, .int .i64 0, .int .i64 0, .int .i64 0, .int .i64 0, .bool false, .string ⟨#[]⟩, .string ⟨#[]⟩, .int .i64 0, .slice none 0 0, .slice none 0 0, .slice none 0 0, .slice none 0 0, .int .i64 0] 43) := ⟨_, rfl⟩
  have hs1 : W1.heap.size = w.heap.size + 1 := by rw [hW1]; simp
  have hb1 : Below w.heap.size w W1 := by rw [hW1]; exact (Below.refl _ _).alloc (Nat.le_refl _) _
  have HB : Hid (Below w.heap.size w W) := by rw [hW]; exact hb1.alloc hb1.size _
  obtain ⟨bm, hbm⟩ : ∃ q, q = w.heap.size := ⟨_, rfl⟩
  obtain ⟨be, hbe⟩ : ∃ q, q = w.heap.size + 1 := ⟨_, rfl⟩
  have HKM : Hid (Blk W bm 43 x.cells) := by rw [hbm, hW, hW1]; exact (Blk.new w _ _).alloc _
  have HKE : Hid (Blk W be 43 [.int .i64 0, .int .i64 0, .int .i64 0, .int .i64 0, .int .i64 0, .int .i64 0, .bool false, .string ⟨#[]⟩, .string ⟨#[]⟩, .int .i64 0, .slice none 0 0, .slice none 0 0, .slice none 0 0, .slice none 0 0, .int .i64 0]) := by rw [hbe, hW, ← hs1]; exact Blk.new W1 _ _
  have HAT := hid (h.below HB.out)
  have HEF := hid (HAT.out.effectOf x (hx.below HB.out))
  have HW : Hid (W = (w.alloc (.cells x.cells.toArray 43)).alloc (.cells #[.int .i64 0, .int .i64 0, .int .i64 0, .int .i64 0, .int .i64 0, .int .i64 0, .bool false, .string ⟨#[]⟩, .string ⟨#[]⟩, .int .i64 0, .slice none 0 0, .slice none 0 0, .slice none 0 0, .slice none 0 0, .int .i64 0] 43)) := by show _ = _; rw [hW, hW1]
  have HX0 := hid hx
  have HSEP := hid hsep
  have HBM := hid hbm
  have HBE := hid hbe
  have HBS : Hid (w.heap.size ≤ be ∧ w.heap.size ≤ bm ∧ bm ≠ be) := ⟨by omega, by omega, by omega⟩
  have HPL : Hid (∀ i, FootA p m i → i < w.heap.size) := h.lt
  obtain ⟨nd, HND⟩ : ∃ q, Hid ((afterA a x).node = q) := ⟨_, hid rfl⟩
  obtain ⟨r, n, hpr⟩ : ∃ r n, (afterA a x).pr = (r, n) := ⟨_, _, rfl⟩
  have HPR := hid hpr
  obtain ⟨kk, HKK⟩ : ∃ q, Hid (kindA a x = q) := ⟨_, hid rfl⟩
  obtain ⟨RR, HRR⟩ : ∃ q, Hid ((if changesA a x = true then recOf x else ⟨#[]⟩) = q) := ⟨_, hid rfl⟩
  obtain ⟨cc, HCC⟩ : ∃ q, Hid (changesA a x = q) := ⟨_, hid rfl⟩
  obtain ⟨BB, HBB⟩ : ∃ q, Hid (afterA a x = q) := ⟨_, hid rfl⟩
  clear h hW hW1 hs1 hb1 hbm hbe hpr hx hsep
  have HHYP := hid hyp0
  clear hyp0
  obtain ⟨kd, fr, to, ⟨br, bn⟩, sl, ⟨⟨np, tk, ct, ep, cut⟩, ao1, cap1⟩, vo, vc, vs, so, sc, seen, eo, ec, evs, ti⟩ := x
  obtain ⟨XN, HXN⟩ : ∃ m, Hid (cut.length = m) := ⟨_, hid rfl⟩
  obtain ⟨VN, HVN⟩ : ∃ m, Hid (vs.length = m) := ⟨_, hid rfl⟩
  obtain ⟨SN, HSN⟩ : ∃ m, Hid (seen.length = m) := ⟨_, hid rfl⟩
  obtain ⟨EN, HEN⟩ : ∃ m, Hid (evs.length = m) := ⟨_, hid rfl⟩
  simp only [MsM.val, MsM.cells] at HW HKM HEF ⊢
  rw [HXN.out, HVN.out, HSN.out, HEN.out] at HW HKM HEF
  rw [HXN.out, HVN.out, HSN.out, HEN.out]
  have q0 := HKM.out.cell (i := 0) rfl
  have q1 := HKM.out.cell (i := 1) rfl
  have q2 := HKM.out.cell (i := 2) rfl
  have q3 := HKM.out.cell (i := 3) rfl
  have q4 := HKM.out.cell (i := 4) rfl
  have q5 := HKM.out.cell (i := 5) rfl
  have q6 := HKM.out.cell (i := 6) rfl
  have q7 := HKM.out.cell (i := 7) rfl
  have q8 := HKM.out.cell (i := 8) rfl
  have q9 := HKM.out.cell (i := 9) rfl
  have q10 := HKM.out.cell (i := 10) rfl
  have q11 := HKM.out.cell (i := 11) rfl
  have q12 := HKM.out.cell (i := 12) rfl
  have q13 := HKM.out.cell (i := 13) rfl
  have q14 := HKM.out.cell (i := 14) rfl
  have HTK := hid HHYP.out.1
  have HK0 := hid HHYP.out.2
  go_enter Tryz.func9, Tryz.ntmps9
  go_wp2_with fail
  rw [← HW.out, ← HBE.out, ← HBM.out]
  refine HEF.out.mono ?_
  rintro e w2 ⟨hb2, h2⟩
  rw [if_pos HTK.out] at h2
  obtain ⟨f2, lb2, rfl, hdo⟩ := h2
  rw [HKK.out, HRR.out, HCC.out]
  obtain ⟨W3, hW3⟩ : ∃ V, V = w2.alloc (.cells #[.int .i64 kk, .bool cc, .string RR, .func (.func f2) #[] lb2] 62) := ⟨_, rfl⟩
  have hb3 : Below w2.heap.size w2 W3 := by rw [hW3]; exact (Below.refl _ _).alloc (Nat.le_refl _) _
  have HB3 := hid (bt' hb2 hb3)
  have HA3 := hid (HAT.out.below HB3.out)
  have HDO := hid (hdo.below hb3)
  obtain ⟨bx, hbx⟩ : ∃ q, q = w2.heap.size := ⟨_, rfl⟩
  have HKX : Hid (Blk W3 bx 62 [.int .i64 kk, .bool cc, .string RR, .func (.func f2) #[] lb2]) := by rw [hbx, hW3]; exact Blk.new w2 _ _
  have HXB : Hid (w.heap.size ≤ bx) := by rw [hbx]; exact hid (bt' HB.out hb2).size
  have HXE : Hid (be < bx ∧ bm < bx) := by have h1 := HKE.out.lt; have h2 := HKM.out.lt; have h3 := hb2.size; exact hid ⟨by omega, by omega⟩
  have HBX := hid hbx
  have HW3 := hid hW3
  have HRM := hid (takesA_right HTK.out)
  clear hb2 hdo hb3 hW3 hbx q0 q1 q2 q3 q4 q5 q6 q7 q8 q9 q10 q11 q12 q13 q14 HEF
  rcases HDO.out with ⟨hk5, rfl, rfl⟩ | ⟨ba2, bm2, rfl, hA2, hM2, (⟨hk2, rfl⟩ | ⟨hk4, rfl⟩)⟩
  · exact absurd (hk5.symm.trans HK0.out) (by decide)
  · exact absurd (hk2.symm.trans HK0.out) (by decide)
  · have HDC := hid (does_acc HA3.out hA2 hM2 (HX0.out.below (bt' HB.out HB3.out)) HSEP.out HRM.out hk4)
    clear hA2 hM2 hk4
    go_wp2_with fail
    rw [← HW3.out, ← HBX.out]
    refine HDC.out.mono ?_
    rintro e w4 ⟨rfl, hat4, ht4⟩
    have HA4 := hid hat4
    have HT4 := hid ht4
    have HNF : Hid (¬ FootA p m bm ∧ ¬ FootA p m be ∧ ¬ FootA p m bx) := ⟨fun hf => by have h1 := HPL.out _ hf; have h2 := HBS.out.2.1; omega, fun hf => by have h1 := HPL.out _ hf; have h2 := HBS.out.1; omega, fun hf => by have h1 := HPL.out _ hf; have h2 := HXB.out; omega⟩
    have HM4 := hid (ht4.blk (HKM.out.below HB3.out HKM.out.lt) HNF.out.1)
    have HE4 := hid (ht4.blk (HKE.out.below HB3.out HKE.out.lt) HNF.out.2.1)
    have HX4 := hid (ht4.blk HKX.out HNF.out.2.2)
    have HAN : Hid (∀ V, ScL w4 V → Calls Tryz.prog 20 #[.pointer (some ⟨p, 0, none⟩), .agg #[.int .i64 kd, .int .i64 fr, .int .i64 to, .int .i64 br, .int .i64 bn, .int .i64 sl, .bool np, .string tk, .string ct, .int .i64 ep, .slice ao1 XN cap1, .slice vo VN vc, .slice so SN sc, .slice eo EN ec, .int .i64 ti], .int .i64 kk] V fun e w' => ∃ vo5 vc5 YN, e = .returned (.agg #[.int .i64 kk, .int .i64 nd, .int .i64 fr, .int .i64 r, .int .i64 n, .int .i64 sl, .bool true, .string ⟨#[]⟩, .string ⟨#[]⟩, .int .i64 0, .slice none 0 0, .slice vo5 YN vc5, .slice none 0 0, .slice none 0 0, .int .i64 0]) ∧ Hid (∃ ys : List VoM, ys.length = YN ∧ ys.map VoM.sv = (if kk = 2 then fromTo BB sl BB.ks.length else []) ∧ HeldVI w' vo5 ys ∧ ys.length ≤ 4096 ∧ ∀ b off, vo5 = some ⟨b, off, none⟩ → w4.heap.size ≤ b) ∧ ScL w4 w') := fun V hV => by
      have h1 := (HA4.out.below hV.out).answer ⟨kd, fr, to, (br, bn), sl, ⟨⟨np, tk, ct, ep, cut⟩, ao1, cap1⟩, vo, vc, vs, so, sc, seen, eo, ec, evs, ti⟩ kk
      simp only [MsM.val] at h1
      rw [HXN.out, HVN.out, HSN.out, HEN.out] at h1
      refine h1.mono ?_
      rintro e w' ⟨vo5, vc5, ys, rfl, hmap, hheld, hlen, hab, hb⟩
      refine ⟨vo5, vc5, ys.length, ?_, ⟨ys, rfl, by rw [← HBB.out]; exact hmap, hheld, hlen, fun b off e => Nat.le_trans hV.out.size (hab b off e)⟩, hV.go hb⟩
      simp only [ansM, MsM.val, noopEn, List.length_nil]
      rw [HPR.out, HND.out]
    have HTS : Hid (∀ U, ScL w4 U → Turns (fun i => i = be) w4 U) := fun U hU => Turns.of_below hU.out (Nat.le_refl _)
    have HT0 : Hid (Turns (fun i => i = be) w4 w4) := Turns.refl _ _
    have HSA : Hid (∀ V, Turns (fun i => i = be) w4 V → (Turns (fun i => i = be) w4 V ∧ V.cell? ⟨bm, 0, none⟩ = some (.int .i64 kd) ∧ V.cell? ⟨bm, 1, none⟩ = some (.int .i64 fr) ∧ V.cell? ⟨bm, 2, none⟩ = some (.int .i64 to) ∧ V.cell? ⟨bm, 3, none⟩ = some (.int .i64 br) ∧ V.cell? ⟨bm, 4, none⟩ = some (.int .i64 bn) ∧ V.cell? ⟨bm, 5, none⟩ = some (.int .i64 sl) ∧ V.cell? ⟨bm, 6, none⟩ = some (.bool np) ∧ V.cell? ⟨bm, 7, none⟩ = some (.string tk) ∧ V.cell? ⟨bm, 8, none⟩ = some (.string ct) ∧ V.cell? ⟨bm, 9, none⟩ = some (.int .i64 ep) ∧ V.cell? ⟨bm, 10, none⟩ = some (.slice ao1 XN cap1) ∧ V.cell? ⟨bm, 11, none⟩ = some (.slice vo VN vc) ∧ V.cell? ⟨bm, 12, none⟩ = some (.slice so SN sc) ∧ V.cell? ⟨bm, 13, none⟩ = some (.slice eo EN ec) ∧ V.cell? ⟨bm, 14, none⟩ = some (.int .i64 ti) ∧ V.cell? ⟨bx, 0, none⟩ = some (.int .i64 kk) ∧ V.cell? ⟨bx, 2, none⟩ = some (.string RR))) := fun V hV => by
      have h1 := hV.blk HM4.out HBS.out.2.2
      have h2 := hV.blk HX4.out (by have := HXE.out.1; omega)
      exact ⟨hV, h1.cell rfl, h1.cell rfl, h1.cell rfl, h1.cell rfl, h1.cell rfl, h1.cell rfl, h1.cell rfl, h1.cell rfl, h1.cell rfl, h1.cell rfl, h1.cell rfl, h1.cell rfl, h1.cell rfl, h1.cell rfl, h1.cell rfl, h2.cell rfl, h2.cell rfl⟩
    have e0 := HE4.out.cell (i := 0) rfl
    have e1 := HE4.out.cell (i := 1) rfl
    have e2 := HE4.out.cell (i := 2) rfl
    have e3 := HE4.out.cell (i := 3) rfl
    have e4 := HE4.out.cell (i := 4) rfl
    have e5 := HE4.out.cell (i := 5) rfl
    have e6 := HE4.out.cell (i := 6) rfl
    have e7 := HE4.out.cell (i := 7) rfl
    have e8 := HE4.out.cell (i := 8) rfl
    have e9 := HE4.out.cell (i := 9) rfl
    have e10 := HE4.out.cell (i := 10) rfl
    have e11 := HE4.out.cell (i := 11) rfl
    have e12 := HE4.out.cell (i := 12) rfl
    have e13 := HE4.out.cell (i := 13) rfl
    have e14 := HE4.out.cell (i := 14) rfl
    have g0 := HE4.out.frozen 0
    have g1 := HE4.out.frozen 1
    have g2 := HE4.out.frozen 2
    have g3 := HE4.out.frozen 3
    have g4 := HE4.out.frozen 4
    have g5 := HE4.out.frozen 5
    have g6 := HE4.out.frozen 6
    have g7 := HE4.out.frozen 7
    have g8 := HE4.out.frozen 8
    have g9 := HE4.out.frozen 9
    have g10 := HE4.out.frozen 10
    have g11 := HE4.out.frozen 11
    have g12 := HE4.out.frozen 12
    have g13 := HE4.out.frozen 13
    have g14 := HE4.out.frozen 14
    clear hat4 ht4 HDC
    go_wp2
    go_region_held3 (fun V => Turns (fun i => i = be) w4 V ∧ V.cell? ⟨bm, 0, none⟩ = some (.int .i64 kd) ∧ V.cell? ⟨bm, 1, none⟩ = some (.int .i64 fr) ∧ V.cell? ⟨bm, 2, none⟩ = some (.int .i64 to) ∧ V.cell? ⟨bm, 3, none⟩ = some (.int .i64 br) ∧ V.cell? ⟨bm, 4, none⟩ = some (.int .i64 bn) ∧ V.cell? ⟨bm, 5, none⟩ = some (.int .i64 sl) ∧ V.cell? ⟨bm, 6, none⟩ = some (.bool np) ∧ V.cell? ⟨bm, 7, none⟩ = some (.string tk) ∧ V.cell? ⟨bm, 8, none⟩ = some (.string ct) ∧ V.cell? ⟨bm, 9, none⟩ = some (.int .i64 ep) ∧ V.cell? ⟨bm, 10, none⟩ = some (.slice ao1 XN cap1) ∧ V.cell? ⟨bm, 11, none⟩ = some (.slice vo VN vc) ∧ V.cell? ⟨bm, 12, none⟩ = some (.slice so SN sc) ∧ V.cell? ⟨bm, 13, none⟩ = some (.slice eo EN ec) ∧ V.cell? ⟨bm, 14, none⟩ = some (.int .i64 ti) ∧ V.cell? ⟨bx, 0, none⟩ = some (.int .i64 kk) ∧ V.cell? ⟨bx, 2, none⟩ = some (.string RR))
      (first | (refine HSA.out _ ?_; (repeat (first | with_reducible assumption | with_reducible exact HT0.out | with_reducible apply Turns.drew | with_reducible apply turns_own)); done))
      (first
        | (go_at_call 20; with_reducible refine (HAN.out _ (by (repeat (first | assumption | exact ScL.start _ | apply ScL.dr)))).mono ?_; rintro e w5 ⟨vo5, vc5, YN, rfl, HYF, hs5⟩; have hT5 := HTS.out _ hs5; have HS5 := hid hs5; have hE5 := HE4.out.below hs5.out HE4.out.lt; have HE5 := hid hE5; have e0 := hE5.cell (i := 0) rfl; have e1 := hE5.cell (i := 1) rfl; have e2 := hE5.cell (i := 2) rfl; have e3 := hE5.cell (i := 3) rfl; have e4 := hE5.cell (i := 4) rfl; have e5 := hE5.cell (i := 5) rfl; have e6 := hE5.cell (i := 6) rfl; have e7 := hE5.cell (i := 7) rfl; have e8 := hE5.cell (i := 8) rfl; have e9 := hE5.cell (i := 9) rfl; have e10 := hE5.cell (i := 10) rfl; have e11 := hE5.cell (i := 11) rfl; have e12 := hE5.cell (i := 12) rfl; have e13 := hE5.cell (i := 13) rfl; have e14 := hE5.cell (i := 14) rfl; have g0 := hE5.frozen 0; have g1 := hE5.frozen 1; have g2 := hE5.frozen 2; have g3 := hE5.frozen 3; have g4 := hE5.frozen 4; have g5 := hE5.frozen 5; have g6 := hE5.frozen 6; have g7 := hE5.frozen 7; have g8 := hE5.frozen 8; have g9 := hE5.frozen 9; have g10 := hE5.frozen 10; have g11 := hE5.frozen 11; have g12 := hE5.frozen 12; have g13 := hE5.frozen 13; have g14 := hE5.frozen 14; clear hE5))
    all_goals
      obtain ⟨W6, hW6⟩ : ∃ V, V = st15 w5 be (.int .i64 kk) (.int .i64 nd) (.int .i64 fr) (.int .i64 r) (.int .i64 n) (.int .i64 sl) (.bool true) (.string ⟨#[]⟩) (.string ⟨#[]⟩) (.int .i64 0) (.slice none 0 0) (.slice vo5 YN vc5) (.slice none 0 0) (.slice none 0 0) (.int .i64 0) := ⟨_, rfl⟩
      have hk9 : Blk W6 be 43 [.int .i64 kk, .int .i64 nd, .int .i64 fr, .int .i64 r, .int .i64 n, .int .i64 sl, .bool true, .string ⟨#[]⟩, .string ⟨#[]⟩, .int .i64 0, .slice none 0 0, .slice vo5 YN vc5, .slice none 0 0, .slice none 0 0, .int .i64 0] := by rw [hW6]; exact st15_blk HE5.out _ _ _ _ _ _ _ _ _ _ _ _ _ _ _
      have hT6 : Turns (fun i => i = be) w5 W6 := by rw [hW6]; exact st15_turns _ _ _ _ _ _ _ _ _ _ _ _ _ _ _ _ _
      have HFI : Hid (OnP w p m a ⟨kd, fr, to, (br, bn), sl, ⟨⟨np, tk, ct, ep, cut⟩, ao1, cap1⟩, vo, vc, vs, so, sc, seen, eo, ec, evs, ti⟩ (.returned (.tuple #[.agg #[.int .i64 kk, .int .i64 nd, .int .i64 fr, .int .i64 r, .int .i64 n, .int .i64 sl, .bool true, .string ⟨#[]⟩, .string ⟨#[]⟩, .int .i64 0, .slice none 0 0, .slice vo5 YN vc5, .slice none 0 0, .slice none 0 0, .int .i64 0], .string RR, .bool true])) W6) := by
        obtain ⟨ys, hyn, hmap, hheld, hlen, hab⟩ := HYF.out
        unfold OnP
        rw [if_pos HTK.out, HKK.out, HRR.out]
        have hE4 := HE4.out.lt
        refine ⟨vo5, vc5, ys, ?_, by rw [HBB.out]; exact hmap, ⟨hheld.turned hT6 (noNum_blk HE5.out (by decide)) (fun b off e hf => by have := hab b off e; omega), fun b off e => Nat.le_trans (Nat.le_trans (bt' HB.out HB3.out).size HT4.out.size) (hab b off e)⟩, hlen, (HA4.out.below HS5.out.out).turned hT6 (fun i hi e => by have h1 := HPL.out i hi; have h2 := HBS.out.1; omega) (noNum_blk HE5.out (by decide)), ?_⟩
        · simp only [ansM, MsM.val, noopEn, List.length_nil]
          rw [HPR.out, HND.out, hyn]
        · exact (((Turns.of_below (F := FootA p m) (bt' HB.out HB3.out) (Nat.le_refl _)).trans HT4.out (fun i hi => .inl hi)).trans (Turns.of_below (F := fun _ => False) HS5.out.out (Nat.le_refl _)) (fun _ h => h.elim)).trans hT6 (fun i hi => .inr (by rw [hi]; exact HBS.out.1))
      have k0 := hk9.cell (i := 0) rfl
      have k1 := hk9.cell (i := 1) rfl
      have k2 := hk9.cell (i := 2) rfl
      have k3 := hk9.cell (i := 3) rfl
      have k4 := hk9.cell (i := 4) rfl
      have k5 := hk9.cell (i := 5) rfl
      have k6 := hk9.cell (i := 6) rfl
      have k7 := hk9.cell (i := 7) rfl
      have k8 := hk9.cell (i := 8) rfl
      have k9 := hk9.cell (i := 9) rfl
      have k10 := hk9.cell (i := 10) rfl
      have k11 := hk9.cell (i := 11) rfl
      have k12 := hk9.cell (i := 12) rfl
      have k13 := hk9.cell (i := 13) rfl
      have k14 := hk9.cell (i := 14) rfl
      clear hk9 hT6
      go_wp2
      unfold st15 at hW6
      rw [← hW6]
      (try simp only [Exit.inBlock, Exit.then])
      refine bodyPost_ret (v := .tuple #[.agg #[.int .i64 kk, .int .i64 nd, .int .i64 fr, .int .i64 r, .int .i64 n, .int .i64 sl, .bool true, .string ⟨#[]⟩, .string ⟨#[]⟩, .int .i64 0, .slice none 0 0, .slice vo5 YN vc5, .slice none 0 0, .slice none 0 0, .int .i64 0], .string RR, .bool true]) ?_ rfl HFI.out
      rw [results_cellA3 rfl]
      go_simp
end Go.Proofs.YtfmnbehopdmahaaGreat
/-
  Package acceptor: On of any message.
-/
namespace Go.Proofs.YtfmnbehopdmahaaGreat
open Go.RowKit Go.Maps

theorem kindA_or (a : Ac) (x : MsM) : kindA a x = 5 ∨ kindA a x = 2 ∨ kindA a x = 4 := by
  unfold kindA
  split
  · exact .inl rfl
  · split
    · exact .inr (.inl rfl)
    · split
      · exact .inl rfl
      · exact .inr (.inr rfl)
theorem AcAt.on {w : World} {p m : Nat} {a : Ac} (h : AcAt w p m a) (x : MsM) (hx : MsOk w x) (hsep : ∀ b off, x.en.ao = some ⟨b, off, none⟩ → x.en.e.cut ≠ [] → b ≠ p) : Calls Tryz.prog 9 #[.pointer (some ⟨p, 0, none⟩), x.val] w (OnP w p m a x) := by
  by_cases ht : takesA a x = true
  · rcases kindA_or a x with hk | hk | hk
    · exact h.on_5 x hx hsep ⟨ht, hk⟩
    · exact h.on_2 x hx hsep ⟨ht, hk⟩
    · exact h.on_4 x hx hsep ⟨ht, hk⟩
  · exact h.on_no x hx hsep ht
end Go.Proofs.YtfmnbehopdmahaaGreat
/-
  Acceptors behind a first world; what a message makes of promises and votes, for the laws.
-/
namespace Go.Proofs.YtfmnbehopdmahaaGreat
open Go.RowKit Go.Maps

theorem kind5_after {a : Ac} {x : MsM} (h : kindA a x = 5) : afterA a x = a := by
  unfold afterA
  rw [if_neg (by rw [h]; decide), if_neg (by rw [h]; decide)]
theorem kind5_rec {a : Ac} {x : MsM} (h : kindA a x = 5) : (if changesA a x = true then recOf x else ⟨#[]⟩) = (⟨#[]⟩ : ByteArray) := by
  have hc : changesA a x = false := by
    unfold changesA
    rw [if_neg (by rw [h]; decide), if_neg (by rw [h]; decide)]
  rw [hc]
  rfl
theorem kind_other {a : Ac} {x : MsM} (h : kindA a x ≠ 5) : ¬ 0 < cmpB a.pr x.bal := fun hc => h (by unfold kindA; rw [if_pos hc])
theorem kindNot5_after {a : Ac} {x : MsM} (h : kindA a x ≠ 5) : (afterA a x).pr = x.bal := by
  unfold afterA
  rcases kindA_or a x with k | k | k
  · exact absurd k h
  · rw [if_pos k]; rfl
  · rw [if_neg (by rw [k]; decide), if_pos k]; rfl
theorem less_kind {a : Ac} {x : MsM} (h : cmpB x.bal a.pr < 0) : kindA a x = 5 := by
  unfold kindA
  rw [if_pos (by rw [cmpB_neg]; omega)]
theorem after_le {a : Ac} {x : MsM} : ¬ cmpB (afterA a x).pr a.pr < 0 := by
  by_cases h : kindA a x = 5
  · rw [kind5_after h, cmpB_same]; omega
  · rw [kindNot5_after h, cmpB_neg]
    have := kind_other h
    omega
theorem prep_le {a : Ac} {x : MsM} (hx : x.kind = 1) : ¬ 0 < cmpB x.bal (afterA a x).pr := by
  by_cases h : kindA a x = 5
  · rw [kind5_after h]
    unfold kindA at h
    by_cases hc : 0 < cmpB a.pr x.bal
    · rw [cmpB_neg]; omega
    · rw [if_neg hc, if_pos hx] at h
      exact absurd h (by decide)
  · rw [kindNot5_after h, cmpB_same]; omega
/-- The votes that Votes answers. -/
theorem fromTo_all {a : Ac} (h : AcOk a) : fromTo a 0 a.ks.length = a.ks.map (fun t => (t, (a.f t).getD dfVt)) := by
  unfold fromTo
  rw [List.take_length, List.filter_eq_self.2 (fun t ht => decide_eq_true (h.slot t ht).1)]
theorem rises_getD {l : List Int} (h : Rises l) {k : Nat} (hk : k + 1 < l.length) : l.getD k 0 < l.getD (k + 1) 0 := by
  rw [show l.getD k 0 = l[k] by simp [List.getD, List.getElem?_eq_getElem (Nat.lt_of_succ_lt hk)], show l.getD (k + 1) 0 = l[k + 1] by simp [List.getD, List.getElem?_eq_getElem hk]]
  exact List.pairwise_iff_getElem.1 h k (k + 1) _ hk (Nat.lt_succ_self k)
theorem votes_at {a : Ac} (h : AcOk a) {ys : List VoM} (hy : ys.map VoM.sv = fromTo a 0 a.ks.length) {k : Nat} (hk : k < ys.length) : ∃ hk' : k < a.ks.length, (ys[k]'hk).slot = a.ks[k] ∧ cmpB (ys[k]'hk).bal a.pr ≤ 0 := by
  rw [fromTo_all h] at hy
  have hl : ys.length = a.ks.length := by have := congrArg List.length hy; simpa using this
  have hk' : k < a.ks.length := by omega
  have h1 : (ys.map VoM.sv)[k]? = (a.ks.map (fun t => (t, (a.f t).getD dfVt)))[k]? := by rw [hy]
  rw [List.getElem?_map, List.getElem?_map, List.getElem?_eq_getElem hk, List.getElem?_eq_getElem hk'] at h1
  have h2 := Option.some.inj h1
  have h3 : (ys[k]'hk).slot = a.ks[k] := congrArg Prod.fst h2
  have h4 : (ys[k]'hk).vt = (a.f a.ks[k]).getD dfVt := congrArg Prod.snd h2
  refine ⟨hk', h3, ?_⟩
  have hs := (h.has a.ks[k]).1 (List.getElem_mem hk')
  obtain ⟨v, hv⟩ := Option.isSome_iff_exists.1 hs
  rw [hv] at h4
  have h5 : (ys[k]'hk).bal = v.1 := congrArg Prod.fst h4
  rw [h5]
  exact (h.right _ _ hv).2.2
theorem votes_rise {a : Ac} (h : AcOk a) {ys : List VoM} (hy : ys.map VoM.sv = fromTo a 0 a.ks.length) {k : Nat} (hk : k + 1 < ys.length) : (ys[k]'(Nat.lt_of_succ_lt hk)).slot < (ys[k + 1]'hk).slot := by
  obtain ⟨h1, h2, _⟩ := votes_at h hy (Nat.lt_of_succ_lt hk)
  obtain ⟨h3, h4, _⟩ := votes_at h hy hk
  rw [h2, h4]
  exact List.pairwise_iff_getElem.1 h.rise k (k + 1) h1 h3 (Nat.lt_succ_self k)
/-- An acceptor whose blocks lie behind B. -/
structure AcIn (B : Nat) (w : World) (p m : Nat) (a : Ac) : Prop where
  at' : AcAt w p m a
  bp : B ≤ p
  bm : B ≤ m
theorem AcIn.below {B : Nat} {w w' : World} {p m : Nat} {a : Ac} (h : AcIn B w p m a) (hb : Below w.heap.size w w') : AcIn B w' p m a := ⟨h.at'.below hb, h.bp, h.bm⟩
/-- A message that lies below B. -/
def MsB (B : Nat) (x : MsM) : Prop := ∀ b off, x.en.ao = some ⟨b, off, none⟩ → x.en.e.cut ≠ [] → b < B
theorem msB_of {w : World} {x : MsM} (h : MsOk w x) : MsB w.heap.size x := by
  intro b off e hne
  rcases h.en.cut.held.2 with h0 | ⟨b', off', h1, h2, _⟩
  · exact absurd h0 hne
  · rw [e] at h1
    cases h1
    exact h2
/-- What On does, below B. -/
theorem AcIn.on {w : World} {B p m : Nat} {a : Ac} (h : AcIn B w p m a) (hB : B ≤ w.heap.size) (x : MsM) (hx : MsOk w x) (hs : MsB B x) : Calls Tryz.prog 9 #[.pointer (some ⟨p, 0, none⟩), x.val] w fun e w' =>
    (if takesA a x = true then ∃ vo vc ys, e = .returned (.tuple #[(ansM (afterA a x) x (kindA a x) vo vc ys).val, .string (if changesA a x = true then recOf x else ⟨#[]⟩), .bool true]) ∧ AcIn B w' p m (afterA a x)
      else e = .returned (.tuple #[.agg #[.int .i64 0, .int .i64 0, .int .i64 0, .int .i64 0, .int .i64 0, .int .i64 0, .bool false, .string ⟨#[]⟩, .string ⟨#[]⟩, .int .i64 0, .slice none 0 0, .slice none 0 0, .slice none 0 0, .slice none 0 0, .int .i64 0], .string ⟨#[]⟩, .bool false]) ∧ AcIn B w' p m a) ∧ Turns (FootA p m) w w' ∧ Below B w w' := by
  refine (h.at'.on x hx (fun b off e hne hp => by have h1 := hs b off e hne; have h2 := h.bp; omega)).mono ?_
  intro e w' hP
  unfold OnP at hP
  have hbl : ∀ {V : World}, Turns (FootA p m) w V → Below B w V := fun ht => ht.below (fun i hi => by
    rcases hi with rfl | rfl
    · exact h.bp
    · exact h.bm) hB
  by_cases ht : takesA a x = true
  · rw [if_pos ht] at hP
    obtain ⟨vo, vc, ys, he, _, _, _, hat, htu⟩ := hP
    rw [if_pos ht]
    exact ⟨⟨vo, vc, ys, he, ⟨hat, h.bp, h.bm⟩⟩, htu, hbl htu⟩
  · rw [if_neg ht] at hP
    obtain ⟨he, hat, hb⟩ := hP
    rw [if_neg ht]
    have htu : Turns (FootA p m) w w' := Turns.of_below hb (Nat.le_refl _)
    exact ⟨⟨he, ⟨hat, h.bp, h.bm⟩⟩, htu, hbl htu⟩
theorem AcIn.on_yes {w : World} {B p m : Nat} {a : Ac} (h : AcIn B w p m a) (hB : B ≤ w.heap.size) (x : MsM) (hx : MsOk w x) (hs : MsB B x) (ht : takesA a x = true) {b : Ac} {k r n nd : Int} {R : ByteArray} (hb : afterA a x = b) (hk : kindA a x = k) (hR : (if changesA a x = true then recOf x else ⟨#[]⟩) = R) (hp : b.pr = (r, n)) (hn : b.node = nd) : Calls Tryz.prog 9 #[.pointer (some ⟨p, 0, none⟩), x.val] w fun e w' =>
    (∃ vo vc N, e = .returned (.tuple #[.agg #[.int .i64 k, .int .i64 nd, .int .i64 x.frm, .int .i64 r, .int .i64 n, .int .i64 x.slot, .bool true, .string ⟨#[]⟩, .string ⟨#[]⟩, .int .i64 0, .slice none 0 0, .slice vo N vc, .slice none 0 0, .slice none 0 0, .int .i64 0], .string R, .bool true])) ∧ AcIn B w' p m b ∧ Turns (FootA p m) w w' ∧ Below B w w' := by
  refine (h.on hB x hx hs).mono ?_
  rintro e w' ⟨h1, h2, h3⟩
  rw [if_pos ht] at h1
  obtain ⟨vo, vc, ys, he, hat⟩ := h1
  rw [hb] at he hat
  refine ⟨⟨vo, vc, ys.length, ?_⟩, hat, h2, h3⟩
  rw [he, hk, hR]
  simp only [ansM, MsM.val, noopEn, List.length_nil]
  rw [hp, hn]
theorem AcIn.on_no {w : World} {B p m : Nat} {a : Ac} (h : AcIn B w p m a) (hB : B ≤ w.heap.size) (x : MsM) (hx : MsOk w x) (hs : MsB B x) (ht : ¬ takesA a x = true) : Calls Tryz.prog 9 #[.pointer (some ⟨p, 0, none⟩), x.val] w fun e w' =>
    e = .returned (.tuple #[.agg #[.int .i64 0, .int .i64 0, .int .i64 0, .int .i64 0, .int .i64 0, .int .i64 0, .bool false, .string ⟨#[]⟩, .string ⟨#[]⟩, .int .i64 0, .slice none 0 0, .slice none 0 0, .slice none 0 0, .slice none 0 0, .int .i64 0], .string ⟨#[]⟩, .bool false]) ∧ AcIn B w' p m a ∧ Turns (FootA p m) w w' ∧ Below B w w' := by
  refine (h.on hB x hx hs).mono ?_
  rintro e w' ⟨h1, h2, h3⟩
  rw [if_neg ht] at h1
  exact ⟨h1.1, h1.2, h2, h3⟩
/-- What is known of what On told. -/
structure OnF (a : Ac) (x : MsM) (k r n : Int) (R : ByteArray) (ok : Bool) (b : Ac) : Prop where
  is : takesA a x = ok
  yes : ok = true → k = kindA a x ∧ (r, n) = b.pr ∧ b = afterA a x ∧ R = (if changesA a x = true then recOf x else ⟨#[]⟩)
  no : ok = false → b = a ∧ R = ⟨#[]⟩
theorem AcIn.on_all {w : World} {B p m : Nat} {a : Ac} (h : AcIn B w p m a) (hB : B ≤ w.heap.size) (x : MsM) (hx : MsOk w x) (hs : MsB B x) : Calls Tryz.prog 9 #[.pointer (some ⟨p, 0, none⟩), x.val] w fun e w' =>
    ∃ k nd fr r n sl np vo N vc R ok b, e = .returned (.tuple #[.agg #[.int .i64 k, .int .i64 nd, .int .i64 fr, .int .i64 r, .int .i64 n, .int .i64 sl, .bool np, .string ⟨#[]⟩, .string ⟨#[]⟩, .int .i64 0, .slice none 0 0, .slice vo N vc, .slice none 0 0, .slice none 0 0, .int .i64 0], .string R, .bool ok]) ∧ OnF a x k r n R ok b ∧ AcIn B w' p m b ∧ Turns (FootA p m) w w' ∧ Below B w w' := by
  by_cases ht : takesA a x = true
  · refine (h.on_yes hB x hx hs ht rfl rfl rfl (r := (afterA a x).pr.1) (n := (afterA a x).pr.2) rfl rfl).mono ?_
    rintro e w' ⟨⟨vo, vc, N, he⟩, h1, h2, h3⟩
    exact ⟨_, _, _, _, _, _, _, _, _, _, _, _, _, he, ⟨ht, fun _ => ⟨rfl, rfl, rfl, rfl⟩, fun h => by cases h⟩, h1, h2, h3⟩
  · refine (h.on_no hB x hx hs ht).mono ?_
    rintro e w' ⟨he, h1, h2, h3⟩
    exact ⟨_, _, _, _, _, _, _, _, _, _, _, _, _, he, ⟨by simpa using ht, fun h => (by cases h), fun _ => ⟨rfl, rfl⟩⟩, h1, h2, h3⟩
theorem AcIn.on_any {w : World} {B p m : Nat} {a : Ac} (h : AcIn B w p m a) (hB : B ≤ w.heap.size) (x : MsM) (hx : MsOk w x) (hs : MsB B x) : Calls Tryz.prog 9 #[.pointer (some ⟨p, 0, none⟩), x.val] w fun e w' => (∃ v, e = .returned v) ∧ (∃ b, AcIn B w' p m b) ∧ Below B w w' := by
  refine (h.on_all hB x hx hs).mono ?_
  rintro e w' ⟨k, nd, fr, r, n, sl, np, vo, N, vc, R, ok, b, he, _, h1, _, h2⟩
  exact ⟨⟨_, he⟩, ⟨b, h1⟩, h2⟩
end Go.Proofs.YtfmnbehopdmahaaGreat
