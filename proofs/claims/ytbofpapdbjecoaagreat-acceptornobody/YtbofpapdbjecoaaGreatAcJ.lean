/-
  Package acceptor: On.
-/
import Derived.Test.YtbofpapdbjecoaaGreatAcI
namespace Go.Proofs.YtbofpapdbjecoaaGreat
open Go.RowKit Go.Maps

theorem results_cellA3 {fn : Func} {p u v : Tmp} {ty : TypeId} (h : fn.results = #[.cell p ty, .tmp u, .tmp v]) (tmps : Array Value) (P : Program) (w : World) :
    (results fn tmps).run P w = ((asAddr (tmps.getD p undef)).run P w).andThen fun a w₁ => ((loadVar ty a).run P w₁).andThen fun x w₂ => .ok (.tuple #[x, tmps.getD u undef, tmps.getD v undef]) w₂ := by
  simp only [results, h]
  simp [Sem.run_bind, Result.andThen]
/-- What On leaves. -/
def OnP (w : World) (p m : Nat) (a : Ac) (x : MsM) (e : Ending) (w' : World) : Prop :=
  if takesA a x = true then ∃ vo vc ys, e = .returned (.tuple #[(ansM (afterA a x) x (kindA a x) vo vc ys).val, .string (if changesA a x = true then recOf x else ⟨#[]⟩), .bool true]) ∧ ys.map VoM.sv = (if kindA a x = 2 then fromTo (afterA a x) x.slot (afterA a x).ks.length else []) ∧ HeldVI w' vo ys ∧ ys.length ≤ 4096 ∧ AcAt w' p m (afterA a x) ∧ Turns (FootA p m) w w'
  else e = .returned (.tuple #[.agg #[.int .i64 0, .int .i64 0, .int .i64 0, .int .i64 0, .int .i64 0, .int .i64 0, .bool false, .string ⟨#[]⟩, .string ⟨#[]⟩, .int .i64 0, .slice none 0 0, .slice none 0 0, .slice none 0 0, .slice none 0 0, .int .i64 0], .string ⟨#[]⟩, .bool false]) ∧ AcAt w' p m a ∧ Below w.heap.size w w'
theorem does_prep {W : World} {p m : Nat} {a : Ac} {x : MsM} {ba bm : Nat} (h : AcAt W p m a) (hA : Blk W ba 24 [.pointer (some ⟨p, 0, none⟩)]) (hM : Blk W bm 43 x.cells) (hr : RightMs x = true) (hk : kindA a x = 2) : Calls Tryz.prog 91 #[.pointer (some ⟨bm, 0, none⟩), .pointer (some ⟨ba, 0, none⟩)] W fun e w' => e = .returned (.tuple #[]) ∧ AcAt w' p m (afterA a x) ∧ Turns (FootA p m) W w' := by
  have hc : ¬ 0 < cmpB a.pr x.bal := fun hh => by unfold kindA at hk; rw [if_pos hh] at hk; cases hk
  refine (onPrepare1A h hA hM (rightMs_bal hr).1 hc).mono ?_
  rintro e w' ⟨rfl, h1, h2⟩
  exact ⟨rfl, by unfold afterA; rw [if_pos hk]; exact h1, h2.mono (fun i hi => .inl hi)⟩
theorem does_acc {W : World} {p m : Nat} {a : Ac} {x : MsM} {ba bm : Nat} (h : AcAt W p m a) (hA : Blk W ba 24 [.pointer (some ⟨p, 0, none⟩)]) (hM : Blk W bm 43 x.cells) (hx : MsOk W x) (hsep : ∀ b off, x.en.ao = some ⟨b, off, none⟩ → x.en.e.cut ≠ [] → b ≠ p) (hr : RightMs x = true) (hk : kindA a x = 4) : Calls Tryz.prog 93 #[.pointer (some ⟨bm, 0, none⟩), .pointer (some ⟨ba, 0, none⟩)] W fun e w' => e = .returned (.tuple #[]) ∧ AcAt w' p m (afterA a x) ∧ Turns (FootA p m) W w' := by
  have hc : ¬ RefusedA a x := fun hh => by
    unfold kindA at hk
    rcases hh with hh | hh
    · rw [if_pos hh] at hk; cases hk
    · split at hk
      · cases hk
      · split at hk
        · cases hk
        · exact absurd hk (by decide)
  refine (onAccept1A h hA hM hx hsep hr hc).mono ?_
  rintro e w' ⟨rfl, h1, h2⟩
  exact ⟨rfl, by unfold afterA; rw [if_neg (by rw [hk]; decide), if_pos hk]; exact h1, h2⟩
theorem does_no {W : World} {p m : Nat} {a : Ac} {x : MsM} (h : AcAt W p m a) (hk : kindA a x = 5) : Calls Tryz.prog 141 #[] W fun e w' => e = .returned (.tuple #[]) ∧ AcAt w' p m (afterA a x) ∧ Turns (FootA p m) W w' := by
  refine (refusal1A W).mono ?_
  rintro e w' ⟨rfl, rfl⟩
  refine ⟨rfl, ?_, Turns.refl _ _⟩
  unfold afterA
  rw [if_neg (by rw [hk]; decide), if_neg (by rw [hk]; decide)]
  exact h
theorem takesA_right {a : Ac} {x : MsM} (h : takesA a x = true) : RightMs x = true := by
  unfold takesA at h
  simp only [Bool.and_eq_true] at h
  exact h.2.2.1
set_option maxRecDepth 1000000 in
set_option maxHeartbeats 8000000 in
theorem AcAt.on_no {w : World} {p m : Nat} {a : Ac} (h : AcAt w p m a) (x : MsM) (hx : MsOk w x) (hsep : ∀ b off, x.en.ao = some ⟨b, off, none⟩ → x.en.e.cut ≠ [] → b ≠ p) (hyp0 : ¬ takesA a x = true) : Calls Tryz.prog 11 #[.pointer (some ⟨p, 0, none⟩), x.val] w (OnP w p m a x) := by
  obtain ⟨W1, hW1⟩ : ∃ W, W = w.alloc (.cells x.cells.toArray 43) := ⟨_, rfl⟩
  obtain ⟨W, hW⟩ : ∃ W, W = W1.alloc (.cells #[.int .i64 0, .int .i64 0, .int .i64 0, .int .i64 0, .int .i64 0, .int .i64 0, .bool false, .string ⟨#[]⟩, .string ⟨#[]⟩, .int .i64 0, .slice none 0 0, .slice none 0 0, .slice none 0 0, .slice none 0 0, .int .i64 0] 43) := ⟨_, rfl⟩
  have hs1 : W1.heap.size = w.heap.size + 1 := by rw [hW1]; simp
  have hb1 : Below w.heap.size w W1 := by rw [hW1]; exact (Below.refl _ _).alloc (Nat.le_refl _) _
  have HB : Hid (Below w.heap.size w W) := by rw [hW]; exact hb1.alloc hb1.size _
  obtain ⟨bm, hbm⟩ : ∃ q, q = w.heap.size := ⟨_, rfl⟩
  obtain ⟨be, hbe⟩ : ∃ q, q = w.heap.size + 1 := ⟨_, rfl⟩
  have HKM : Hid (Blk W bm 43 x.cells) := by rw [hbm, hW, hW1]; exact (Blk.new w _ _).alloc _
  have HKE : Hid (Blk W be 43 [.int .i64 0, .int .i64 0, .int .i64 0, .int .i64 0, .int .i64 0, .int .i64 0, .bool false, .string ⟨#[]⟩, .string ⟨#[]⟩, .int .i64 0, .slice none 0 0, .slice none 0 0, .slice none 0 0, .slice none 0 0, .int .i64 0]) := by rw [hbe, hW, ← hs1]; exact Blk.new W1 _ _
  have HAT := hid (h.below HB.out)
  have HEF := hid (HAT.out.effectOf x (hx.below HB.out))
  have HW : Hid (W = (w.alloc (.cells x.cells.toArray 43)).alloc (.cells #[.int .i64 0, .int .i64 0, .int .i64 0, .int .i64 0, .int .i64 0, .int .i64 0, .bool false, .string ⟨#[]⟩, .string ⟨#[]⟩, .int .i64 0, .slice none 0 0, .slice none 0 0, .slice none 0 0, .slice none 0 0, .int .i64 0] 43)) := by show _ = _; rw [hW, hW1]
  have HX0 := hid hx
  have HSEP := hid hsep
  have HBM := hid hbm
  have HBE := hid hbe
  have HBS : Hid (w.heap.size ≤ be ∧ w.heap.size ≤ bm ∧ bm ≠ be) := ⟨by omega, by omega, by omega⟩
  have HPL : Hid (∀ i, FootA p m i → i < w.heap.size) := h.lt
  obtain ⟨nd, HND⟩ : ∃ q, Hid ((afterA a x).node = q) := ⟨_, hid rfl⟩
  obtain ⟨r, n, hpr⟩ : ∃ r n, (afterA a x).pr = (r, n) := ⟨_, _, rfl⟩
  have HPR := hid hpr
  obtain ⟨kk, HKK⟩ : ∃ q, Hid (kindA a x = q) := ⟨_, hid rfl⟩
  obtain ⟨RR, HRR⟩ : ∃ q, Hid ((if changesA a x = true then recOf x else ⟨#[]⟩) = q) := ⟨_, hid rfl⟩
  obtain ⟨cc, HCC⟩ : ∃ q, Hid (changesA a x = q) := ⟨_, hid rfl⟩
  obtain ⟨BB, HBB⟩ : ∃ q, Hid (afterA a x = q) := ⟨_, hid rfl⟩
  clear h hW hW1 hs1 hb1 hbm hbe hpr hx hsep
  have HHYP := hid hyp0
  clear hyp0
  obtain ⟨kd, fr, to, ⟨br, bn⟩, sl, ⟨⟨np, tk, ct, ep, cut⟩, ao1, cap1⟩, vo, vc, vs, so, sc, seen, eo, ec, evs, ti⟩ := x
  obtain ⟨XN, HXN⟩ : ∃ m, Hid (cut.length = m) := ⟨_, hid rfl⟩
  obtain ⟨VN, HVN⟩ : ∃ m, Hid (vs.length = m) := ⟨_, hid rfl⟩
  obtain ⟨SN, HSN⟩ : ∃ m, Hid (seen.length = m) := ⟨_, hid rfl⟩
  obtain ⟨EN, HEN⟩ : ∃ m, Hid (evs.length = m) := ⟨_, hid rfl⟩
  simp only [MsM.val, MsM.cells] at HW HKM HEF ⊢
  rw [HXN.out, HVN.out, HSN.out, HEN.out] at HW HKM HEF
  rw [HXN.out, HVN.out, HSN.out, HEN.out]
  have q0 := HKM.out.cell (i := 0) rfl
  have q1 := HKM.out.cell (i := 1) rfl
  have q2 := HKM.out.cell (i := 2) rfl
  have q3 := HKM.out.cell (i := 3) rfl
  have q4 := HKM.out.cell (i := 4) rfl
  have q5 := HKM.out.cell (i := 5) rfl
  have q6 := HKM.out.cell (i := 6) rfl
  have q7 := HKM.out.cell (i := 7) rfl
  have q8 := HKM.out.cell (i := 8) rfl
  have q9 := HKM.out.cell (i := 9) rfl
  have q10 := HKM.out.cell (i := 10) rfl
  have q11 := HKM.out.cell (i := 11) rfl
  have q12 := HKM.out.cell (i := 12) rfl
  have q13 := HKM.out.cell (i := 13) rfl
  have q14 := HKM.out.cell (i := 14) rfl
  have HNT := HHYP
  go_enter Tryz.func11, Tryz.ntmps11
  go_wp2_with fail
  rw [← HW.out, ← HBE.out, ← HBM.out]
  refine HEF.out.mono ?_
  rintro e w2 ⟨hb2, h2⟩
  rw [if_neg HNT.out] at h2
  subst h2
  have he2 := (HKE.out.below hb2 HKE.out.lt).alloc (.cells #[.int .i64 0, .bool false, .string ⟨#[]⟩, .nilFunc] 66)
  have HB2 := hid hb2
  have e0 := he2.cell (i := 0) rfl
  have e1 := he2.cell (i := 1) rfl
  have e2 := he2.cell (i := 2) rfl
  have e3 := he2.cell (i := 3) rfl
  have e4 := he2.cell (i := 4) rfl
  have e5 := he2.cell (i := 5) rfl
  have e6 := he2.cell (i := 6) rfl
  have e7 := he2.cell (i := 7) rfl
  have e8 := he2.cell (i := 8) rfl
  have e9 := he2.cell (i := 9) rfl
  have e10 := he2.cell (i := 10) rfl
  have e11 := he2.cell (i := 11) rfl
  have e12 := he2.cell (i := 12) rfl
  have e13 := he2.cell (i := 13) rfl
  have e14 := he2.cell (i := 14) rfl
  have g0 := he2.frozen 0
  have g1 := he2.frozen 1
  have g2 := he2.frozen 2
  have g3 := he2.frozen 3
  have g4 := he2.frozen 4
  have g5 := he2.frozen 5
  have g6 := he2.frozen 6
  have g7 := he2.frozen 7
  have g8 := he2.frozen 8
  have g9 := he2.frozen 9
  have g10 := he2.frozen 10
  have g11 := he2.frozen 11
  have g12 := he2.frozen 12
  have g13 := he2.frozen 13
  have g14 := he2.frozen 14
  obtain ⟨W3, hW3⟩ : ∃ V, V = st15 (w2.alloc (.cells #[.int .i64 0, .bool false, .string ⟨#[]⟩, .nilFunc] 66)) be (.int .i64 0) (.int .i64 0) (.int .i64 0) (.int .i64 0) (.int .i64 0) (.int .i64 0) (.bool false) (.string ⟨#[]⟩) (.string ⟨#[]⟩) (.int .i64 0) (.slice none 0 0) (.slice none 0 0) (.slice none 0 0) (.slice none 0 0) (.int .i64 0) := ⟨_, rfl⟩
  have hk9 : Blk W3 be 43 [.int .i64 0, .int .i64 0, .int .i64 0, .int .i64 0, .int .i64 0, .int .i64 0, .bool false, .string ⟨#[]⟩, .string ⟨#[]⟩, .int .i64 0, .slice none 0 0, .slice none 0 0, .slice none 0 0, .slice none 0 0, .int .i64 0] := by rw [hW3]; exact st15_blk he2 _ _ _ _ _ _ _ _ _ _ _ _ _ _ _
  have hT3 : Turns (fun i => i = be) w2 W3 := by rw [hW3]; exact ((Turns.refl _ _).alloc _).trans (st15_turns _ _ _ _ _ _ _ _ _ _ _ _ _ _ _ _ _) (fun i hi => .inl hi)
  have HFI : Hid (OnP w p m a ⟨kd, fr, to, (br, bn), sl, ⟨⟨np, tk, ct, ep, cut⟩, ao1, cap1⟩, vo, vc, vs, so, sc, seen, eo, ec, evs, ti⟩ (.returned (.tuple #[.agg #[.int .i64 0, .int .i64 0, .int .i64 0, .int .i64 0, .int .i64 0, .int .i64 0, .bool false, .string ⟨#[]⟩, .string ⟨#[]⟩, .int .i64 0, .slice none 0 0, .slice none 0 0, .slice none 0 0, .slice none 0 0, .int .i64 0], .string ⟨#[]⟩, .bool false])) W3) := by
    unfold OnP
    rw [if_neg HNT.out]
    refine ⟨rfl, ((HAT.out.below HB2.out)).turned hT3 (fun i hi e => by have := HPL.out i hi; have := HBS.out.1; omega) (noNum_blk (HKE.out.below HB2.out HKE.out.lt) (by decide)), (bt' HB.out HB2.out).trans (hT3.below (fun i hi => by rw [hi]; exact HBS.out.1) (bt' HB.out HB2.out).size)⟩
  have k0 := hk9.cell (i := 0) rfl
  have k1 := hk9.cell (i := 1) rfl
  have k2 := hk9.cell (i := 2) rfl
  have k3 := hk9.cell (i := 3) rfl
  have k4 := hk9.cell (i := 4) rfl
  have k5 := hk9.cell (i := 5) rfl
  have k6 := hk9.cell (i := 6) rfl
  have k7 := hk9.cell (i := 7) rfl
  have k8 := hk9.cell (i := 8) rfl
  have k9 := hk9.cell (i := 9) rfl
  have k10 := hk9.cell (i := 10) rfl
  have k11 := hk9.cell (i := 11) rfl
  have k12 := hk9.cell (i := 12) rfl
  have k13 := hk9.cell (i := 13) rfl
  have k14 := hk9.cell (i := 14) rfl
  clear hk9 hT3 he2 hb2 q0 q1 q2 q3 q4 q5 q6 q7 q8 q9 q10 q11 q12 q13 q14
  go_wp2
  unfold st15 at hW3
  rw [← hW3]
  (try simp only [Exit.inBlock, Exit.then])
  refine bodyPost_ret (v := .tuple #[.agg #[.int .i64 0, .int .i64 0, .int .i64 0, .int .i64 0, .int .i64 0, .int .i64 0, .bool false, .string ⟨#[]⟩, .string ⟨#[]⟩, .int .i64 0, .slice none 0 0, .slice none 0 0, .slice none 0 0, .slice none 0 0, .int .i64 0], .string ⟨#[]⟩, .bool false]) ?_ rfl HFI.out
  rw [results_cellA3 rfl]
  go_simp
end Go.Proofs.YtbofpapdbjecoaaGreat
