/-
  Package acceptor: kinds, onPrepare.
-/
import Derived.Test.YthcpopigkbefhaaGreatAcG
namespace Go.Proofs.YthcpopigkbefhaaGreat
open Go.RowKit Go.Maps

theorem neqBalB (W : World) (a1 a2 b1 b2 : Int) : (binOp .neq 29 (.agg #[.int .i64 a1, .int .i64 a2]) (.agg #[.int .i64 b1, .int .i64 b2])).run Tryz.prog W = .ok (.bool (decide ((a1, a2) ≠ (b1, b2)))) W := by
  by_cases h1 : a1 = b1
  · by_cases h2 : a2 = b2
    · subst h1 h2
      simp [go_sem]
    · subst h1
      simp [go_sem, h2]
  · simp [go_sem, h1]
theorem turns_own {w V : World} {b i : Nat} {v : Value} (h : Turns (fun k => k = b) w V) : Turns (fun k => k = b) w (V.setCell ⟨b, i, none⟩ v) := h.setCell (p := ⟨b, i, none⟩) (.inl rfl) v
/-- A block of four cells stored anew. -/
def st4 (w : World) (p : Nat) (v0 v1 v2 v3 : Value) : World := (((w.setCell ⟨p, 0, none⟩ v0).setCell ⟨p, 1, none⟩ v1).setCell ⟨p, 2, none⟩ v2).setCell ⟨p, 3, none⟩ v3
theorem st4_blk {w : World} {p : Nat} {t : TypeId} {a0 a1 a2 a3 : Value} (h : Blk w p t [a0, a1, a2, a3]) (v0 v1 v2 v3 : Value) : Blk (st4 w p v0 v1 v2 v3) p t [v0, v1, v2, v3] := (((h.set 0 v0).set 1 v1).set 2 v2).set 3 v3
theorem st4_turns (w : World) (p : Nat) (v0 v1 v2 v3 : Value) : Turns (fun i => i = p) w (st4 w p v0 v1 v2 v3) :=
  ((((Turns.refl (fun i => i = p) w).setCell (p := ⟨p, 0, none⟩) (.inl rfl) _).setCell (p := ⟨p, 1, none⟩) (.inl rfl) _).setCell (p := ⟨p, 2, none⟩) (.inl rfl) _).setCell (p := ⟨p, 3, none⟩) (.inl rfl) _
/-- What onPrepare leaves. -/
def PrepP (w : World) (p : Nat) (a : Ac) (x : MsM) (e : Ending) (w' : World) : Prop :=
  Below w.heap.size w w' ∧ (if 0 < cmpB a.pr x.bal then e = .returned (effV 5 false ⟨#[]⟩ 88 #[]) else
    ∃ ba bm, e = .returned (effV 2 (decide (x.bal ≠ a.pr)) ⟨#[]⟩ 45 #[.pointer (some ⟨bm, 0, none⟩), .pointer (some ⟨ba, 0, none⟩)]) ∧ Blk w' ba 23 [.pointer (some ⟨p, 0, none⟩)] ∧ Blk w' bm 38 x.cells ∧ w.heap.size ≤ ba ∧ w.heap.size ≤ bm)
set_option maxRecDepth 1000000 in
set_option maxHeartbeats 2000000 in
theorem AcAt.onPrepare {w : World} {p m : Nat} {a : Ac} (h : AcAt w p m a) (x : MsM) : Calls Tryz.prog 25 #[.pointer (some ⟨p, 0, none⟩), x.val] w (PrepP w p a x) := by
  obtain ⟨W1, hW1⟩ : ∃ W, W = w.alloc (.cells #[.pointer (some ⟨p, 0, none⟩)] 23) := ⟨_, rfl⟩
  obtain ⟨W2, hW2⟩ : ∃ W, W = W1.alloc (.cells x.cells.toArray 38) := ⟨_, rfl⟩
  obtain ⟨W, hW⟩ : ∃ W, W = W2.alloc (.cells #[.int .i64 0, .bool false, .string ⟨#[]⟩, .nilFunc] 50) := ⟨_, rfl⟩
  have hs1 : W1.heap.size = w.heap.size + 1 := by rw [hW1]; simp
  have hs2 : W2.heap.size = w.heap.size + 1 + 1 := by rw [hW2]; simp [hs1]
  have hb1 : Below w.heap.size w W1 := by rw [hW1]; exact (Below.refl _ _).alloc (Nat.le_refl _) _
  have hb2 : Below w.heap.size w W2 := by rw [hW2]; exact hb1.alloc hb1.size _
  have HB : Hid (Below w.heap.size w W) := by rw [hW]; exact hb2.alloc hb2.size _
  have HKA : Hid (Blk W w.heap.size 23 [.pointer (some ⟨p, 0, none⟩)]) := by rw [hW, hW2, hW1]; exact ((Blk.new w _ _).alloc _).alloc _
  have HKM : Hid (Blk W (w.heap.size + 1) 38 x.cells) := by rw [hW, hW2, ← hs1]; exact (Blk.new W1 _ _).alloc _
  have HKE : Hid (Blk W (w.heap.size + 1 + 1) 50 [.int .i64 0, .bool false, .string ⟨#[]⟩, .nilFunc]) := by rw [hW, ← hs2]; exact Blk.new W2 _ _
  have H := hid (h.below HB.out)
  have HAB := hid (H.out.above x.bal)
  have HRF := hid refusalA
  have HW : Hid (W = ((w.alloc (.cells #[.pointer (some ⟨p, 0, none⟩)] 23)).alloc (.cells x.cells.toArray 38)).alloc (.cells #[.int .i64 0, .bool false, .string ⟨#[]⟩, .nilFunc] 50)) := by show _ = _; rw [hW, hW2, hW1]
  obtain ⟨ba, hba⟩ : ∃ q, q = w.heap.size := ⟨_, rfl⟩
  obtain ⟨bm, hbm⟩ : ∃ q, q = w.heap.size + 1 := ⟨_, rfl⟩
  obtain ⟨be, hbe⟩ : ∃ q, q = w.heap.size + 1 + 1 := ⟨_, rfl⟩
  rw [← hba] at HKA
  rw [← hbm] at HKM
  rw [← hbe] at HKE
  have HBA := hid hba
  have HBM := hid hbm
  have HBE := hid hbe
  have HPL : Hid (p < w.heap.size) := h.lt p (.inl rfl)
  clear h hW hW1 hW2 hs1 hs2 hb1 hb2 hba hbm hbe
  obtain ⟨r, n, hpr⟩ : ∃ r n, a.pr = (r, n) := ⟨_, _, rfl⟩
  have HPR := hid hpr
  obtain ⟨C, HC⟩ : ∃ C, Hid (decide (0 < cmpB a.pr x.bal) = C) := ⟨_, hid rfl⟩
  rw [HC.out] at HAB
  clear hpr
  obtain ⟨kd, fr, to, ⟨br, bn⟩, sl, ⟨⟨np, tk, ct, ep, cut⟩, ao1, cap1⟩, vo, vc, vs, so, sc, seen, eo, ec, evs, ti⟩ := x
  obtain ⟨XN, HXN⟩ : ∃ m, Hid (cut.length = m) := ⟨_, hid rfl⟩
  obtain ⟨VN, HVN⟩ : ∃ m, Hid (vs.length = m) := ⟨_, hid rfl⟩
  obtain ⟨SN, HSN⟩ : ∃ m, Hid (seen.length = m) := ⟨_, hid rfl⟩
  obtain ⟨EN, HEN⟩ : ∃ m, Hid (evs.length = m) := ⟨_, hid rfl⟩
  simp only [MsM.val, MsM.cells] at HW HKM ⊢
  rw [HXN.out, HVN.out, HSN.out, HEN.out] at HW HKM
  rw [HXN.out, HVN.out, HSN.out, HEN.out]
  simp only at HAB
  have hka := HKA.out.cell (i := 0) rfl
  have hk3 := HKM.out.cell (i := 3) rfl
  have hk4 := HKM.out.cell (i := 4) rfl
  go_enter Tryz.func25, Tryz.ntmps25
  go_wp2_with fail
  rw [← HW.out, ← HBE.out, ← HBM.out, ← HBA.out]
  refine HAB.out.mono ?_
  rintro e w1 ⟨rfl, hb1⟩
  have HB1 := hid hb1
  have HE1 := hid (HKE.out.below hb1 HKE.out.lt)
  clear hka hk3 hk4
  cases C
  · have hnc : ¬ 0 < cmpB a.pr (br, bn) := by simpa using HC.out
    have hA1 := HKA.out.below hb1 HKA.out.lt
    have hM1 := HKM.out.below hb1 HKM.out.lt
    have hcp := (H.out.below hb1).cells
    rw [HPR.out] at hcp
    have d0 := hA1.cell (i := 0) rfl
    have d3 := hM1.cell (i := 3) rfl
    have d4 := hM1.cell (i := 4) rfl
    have d5 := hcp.2.1
    have d6 := hcp.2.2.1
    have e0 := HE1.out.cell (i := 0) rfl
    have e1 := HE1.out.cell (i := 1) rfl
    have e2 := HE1.out.cell (i := 2) rfl
    have e3 := HE1.out.cell (i := 3) rfl
    have g0 := HE1.out.frozen 0
    have g1 := HE1.out.frozen 1
    have g2 := HE1.out.frozen 2
    have g3 := HE1.out.frozen 3
    have HNC := hid hnc
    have HA1 := hid hA1
    have HM1 := hid hM1
    have HNE : Hid (ba ≠ be ∧ bm ≠ be ∧ p ≠ be) := by have := HBA.out; have := HBM.out; have := HBE.out; have := HPL.out; exact ⟨by omega, by omega, by omega⟩
    have hP1 := (H.out.below hb1).blk
    rw [HPR.out] at hP1
    have HP1 := hid hP1
    have HT0 : Hid (Turns (fun i => i = be) w1 w1) := Turns.refl _ _
    clear hnc hb1 hA1 hM1 hcp hP1
    have h3 : (br = r ∧ bn = n) ∨ (br = r ∧ ¬ bn = n) ∨ ¬ br = r := by
      by_cases h1 : br = r
      · by_cases h2 : bn = n
        · exact .inl ⟨h1, h2⟩
        · exact .inr (.inl ⟨h1, h2⟩)
      · exact .inr (.inr h1)
    rcases h3 with ⟨h1, h2⟩ | ⟨h1, h2⟩ | h1
    · have HV : Hid (decide ((br, bn) ≠ a.pr) = false) := decide_eq_false (by rw [HPR.out, h1, h2]; simp)
      subst h1 h2
      have HSA : Hid (∀ V, Turns (fun i => i = be) w1 V → (Turns (fun i => i = be) w1 V ∧ V.cell? ⟨ba, 0, none⟩ = some (.pointer (some ⟨p, 0, none⟩)) ∧ V.cell? ⟨bm, 3, none⟩ = some (.int .i64 br) ∧ V.cell? ⟨bm, 4, none⟩ = some (.int .i64 bn) ∧ V.cell? ⟨p, 1, none⟩ = some (.int .i64 br) ∧ V.cell? ⟨p, 2, none⟩ = some (.int .i64 bn))) := fun V hV => by
        have hA2 := hV.blk HA1.out HNE.out.1
        have hM2 := hV.blk HM1.out HNE.out.2.1
        have hP2 := hV.blk HP1.out HNE.out.2.2
        exact ⟨hV, hA2.cell rfl, hM2.cell rfl, hM2.cell rfl, hP2.cell rfl, hP2.cell rfl⟩
      go_wp2
      go_region_held3 (fun V => Turns (fun i => i = be) w1 V ∧ V.cell? ⟨ba, 0, none⟩ = some (.pointer (some ⟨p, 0, none⟩)) ∧ V.cell? ⟨bm, 3, none⟩ = some (.int .i64 br) ∧ V.cell? ⟨bm, 4, none⟩ = some (.int .i64 bn) ∧ V.cell? ⟨p, 1, none⟩ = some (.int .i64 br) ∧ V.cell? ⟨p, 2, none⟩ = some (.int .i64 bn))
        (first | (refine ⟨?_, ?_, ?_, ?_, ?_, ?_⟩ <;> assumption) | (refine HSA.out _ ?_; (repeat (first | assumption | exact HT0.out | apply Turns.drew | apply turns_own)); done))
        (fail)
      all_goals
        obtain ⟨W3, hW3⟩ : ∃ V, V = (st4 w1 be (.int .i64 2) (.bool false) (.string ⟨#[]⟩) (.func (.func 45) #[] #[.pointer (some ⟨bm, 0, none⟩), .pointer (some ⟨ba, 0, none⟩)])).drew := ⟨_, rfl⟩
        have hk9 : Blk W3 be 50 [.int .i64 2, .bool false, .string ⟨#[]⟩, .func (.func 45) #[] #[.pointer (some ⟨bm, 0, none⟩), .pointer (some ⟨ba, 0, none⟩)]] := by rw [hW3]; exact (st4_blk HE1.out _ _ _ _).drew
        have hT3 : Turns (fun i => i = be) w1 W3 := by rw [hW3]; exact (st4_turns _ _ _ _ _ _).drew
        have HBF : Hid (Below w.heap.size w W3) := (bt' HB.out HB1.out).trans (hT3.below (fun i hi => by rw [hi, HBE.out]; omega) (bt' HB.out HB1.out).size)
        have HA3 := hid (hT3.blk HA1.out HNE.out.1)
        have HM3 := hid (hT3.blk HM1.out HNE.out.2.1)
        have k0 := hk9.cell (i := 0) rfl
        have k1 := hk9.cell (i := 1) rfl
        have k2 := hk9.cell (i := 2) rfl
        have k3 := hk9.cell (i := 3) rfl
        clear hT3 hk9
        go_wp2
        unfold st4 at hW3
        rw [← hW3]
        (try simp only [Exit.inBlock, Exit.then])
        refine bodyPost_ret (v := .agg #[.int .i64 2, .bool false, .string ⟨#[]⟩, .func (.func 45) #[] #[.pointer (some ⟨bm, 0, none⟩), .pointer (some ⟨ba, 0, none⟩)]]) ?_ rfl ⟨HBF.out, ?_⟩
        · rw [results_cell1B rfl]
          go_simp
        · rw [if_neg (show ¬ 0 < cmpB a.pr (br, bn) by have := HNC.out; omega)]
          refine ⟨ba, bm, by rw [HV.out], HA3.out, ?_, by rw [HBA.out]; exact Nat.le_refl _, by rw [HBM.out]; exact Nat.le_succ _⟩
          simp only [MsM.cells]
          rw [HXN.out, HVN.out, HSN.out, HEN.out]
          exact HM3.out
    · have HV : Hid (decide ((br, bn) ≠ a.pr) = true) := decide_eq_true (by rw [HPR.out]; intro e; cases e; exact h2 rfl)
      subst h1
      have HSA : Hid (∀ V, Turns (fun i => i = be) w1 V → (Turns (fun i => i = be) w1 V ∧ V.cell? ⟨ba, 0, none⟩ = some (.pointer (some ⟨p, 0, none⟩)) ∧ V.cell? ⟨bm, 3, none⟩ = some (.int .i64 br) ∧ V.cell? ⟨bm, 4, none⟩ = some (.int .i64 bn) ∧ V.cell? ⟨p, 1, none⟩ = some (.int .i64 br) ∧ V.cell? ⟨p, 2, none⟩ = some (.int .i64 n))) := fun V hV => by
        have hA2 := hV.blk HA1.out HNE.out.1
        have hM2 := hV.blk HM1.out HNE.out.2.1
        have hP2 := hV.blk HP1.out HNE.out.2.2
        exact ⟨hV, hA2.cell rfl, hM2.cell rfl, hM2.cell rfl, hP2.cell rfl, hP2.cell rfl⟩
      go_wp2
      go_region_held3 (fun V => Turns (fun i => i = be) w1 V ∧ V.cell? ⟨ba, 0, none⟩ = some (.pointer (some ⟨p, 0, none⟩)) ∧ V.cell? ⟨bm, 3, none⟩ = some (.int .i64 br) ∧ V.cell? ⟨bm, 4, none⟩ = some (.int .i64 bn) ∧ V.cell? ⟨p, 1, none⟩ = some (.int .i64 br) ∧ V.cell? ⟨p, 2, none⟩ = some (.int .i64 n))
        (first | (refine ⟨?_, ?_, ?_, ?_, ?_, ?_⟩ <;> assumption) | (refine HSA.out _ ?_; (repeat (first | assumption | exact HT0.out | apply Turns.drew | apply turns_own)); done))
        (fail)
      all_goals
        obtain ⟨W3, hW3⟩ : ∃ V, V = (st4 w1 be (.int .i64 2) (.bool true) (.string ⟨#[]⟩) (.func (.func 45) #[] #[.pointer (some ⟨bm, 0, none⟩), .pointer (some ⟨ba, 0, none⟩)])).drew := ⟨_, rfl⟩
        have hk9 : Blk W3 be 50 [.int .i64 2, .bool true, .string ⟨#[]⟩, .func (.func 45) #[] #[.pointer (some ⟨bm, 0, none⟩), .pointer (some ⟨ba, 0, none⟩)]] := by rw [hW3]; exact (st4_blk HE1.out _ _ _ _).drew
        have hT3 : Turns (fun i => i = be) w1 W3 := by rw [hW3]; exact (st4_turns _ _ _ _ _ _).drew
        have HBF : Hid (Below w.heap.size w W3) := (bt' HB.out HB1.out).trans (hT3.below (fun i hi => by rw [hi, HBE.out]; omega) (bt' HB.out HB1.out).size)
        have HA3 := hid (hT3.blk HA1.out HNE.out.1)
        have HM3 := hid (hT3.blk HM1.out HNE.out.2.1)
        have k0 := hk9.cell (i := 0) rfl
        have k1 := hk9.cell (i := 1) rfl
        have k2 := hk9.cell (i := 2) rfl
        have k3 := hk9.cell (i := 3) rfl
        clear hT3 hk9
        go_wp2
        unfold st4 at hW3
        rw [← hW3]
        (try simp only [Exit.inBlock, Exit.then])
        refine bodyPost_ret (v := .agg #[.int .i64 2, .bool true, .string ⟨#[]⟩, .func (.func 45) #[] #[.pointer (some ⟨bm, 0, none⟩), .pointer (some ⟨ba, 0, none⟩)]]) ?_ rfl ⟨HBF.out, ?_⟩
        · rw [results_cell1B rfl]
          go_simp
        · rw [if_neg (show ¬ 0 < cmpB a.pr (br, bn) by have := HNC.out; omega)]
          refine ⟨ba, bm, by rw [HV.out], HA3.out, ?_, by rw [HBA.out]; exact Nat.le_refl _, by rw [HBM.out]; exact Nat.le_succ _⟩
          simp only [MsM.cells]
          rw [HXN.out, HVN.out, HSN.out, HEN.out]
          exact HM3.out
    · have HV : Hid (decide ((br, bn) ≠ a.pr) = true) := decide_eq_true (by rw [HPR.out]; intro e; cases e; exact h1 rfl)
      have HSA : Hid (∀ V, Turns (fun i => i = be) w1 V → (Turns (fun i => i = be) w1 V ∧ V.cell? ⟨ba, 0, none⟩ = some (.pointer (some ⟨p, 0, none⟩)) ∧ V.cell? ⟨bm, 3, none⟩ = some (.int .i64 br) ∧ V.cell? ⟨bm, 4, none⟩ = some (.int .i64 bn) ∧ V.cell? ⟨p, 1, none⟩ = some (.int .i64 r) ∧ V.cell? ⟨p, 2, none⟩ = some (.int .i64 n))) := fun V hV => by
        have hA2 := hV.blk HA1.out HNE.out.1
        have hM2 := hV.blk HM1.out HNE.out.2.1
        have hP2 := hV.blk HP1.out HNE.out.2.2
        exact ⟨hV, hA2.cell rfl, hM2.cell rfl, hM2.cell rfl, hP2.cell rfl, hP2.cell rfl⟩
      go_wp2
      go_region_held3 (fun V => Turns (fun i => i = be) w1 V ∧ V.cell? ⟨ba, 0, none⟩ = some (.pointer (some ⟨p, 0, none⟩)) ∧ V.cell? ⟨bm, 3, none⟩ = some (.int .i64 br) ∧ V.cell? ⟨bm, 4, none⟩ = some (.int .i64 bn) ∧ V.cell? ⟨p, 1, none⟩ = some (.int .i64 r) ∧ V.cell? ⟨p, 2, none⟩ = some (.int .i64 n))
        (first | (refine ⟨?_, ?_, ?_, ?_, ?_, ?_⟩ <;> assumption) | (refine HSA.out _ ?_; (repeat (first | assumption | exact HT0.out | apply Turns.drew | apply turns_own)); done))
        (fail)
      all_goals
        obtain ⟨W3, hW3⟩ : ∃ V, V = (st4 w1 be (.int .i64 2) (.bool true) (.string ⟨#[]⟩) (.func (.func 45) #[] #[.pointer (some ⟨bm, 0, none⟩), .pointer (some ⟨ba, 0, none⟩)])).drew := ⟨_, rfl⟩
        have hk9 : Blk W3 be 50 [.int .i64 2, .bool true, .string ⟨#[]⟩, .func (.func 45) #[] #[.pointer (some ⟨bm, 0, none⟩), .pointer (some ⟨ba, 0, none⟩)]] := by rw [hW3]; exact (st4_blk HE1.out _ _ _ _).drew
        have hT3 : Turns (fun i => i = be) w1 W3 := by rw [hW3]; exact (st4_turns _ _ _ _ _ _).drew
        have HBF : Hid (Below w.heap.size w W3) := (bt' HB.out HB1.out).trans (hT3.below (fun i hi => by rw [hi, HBE.out]; omega) (bt' HB.out HB1.out).size)
        have HA3 := hid (hT3.blk HA1.out HNE.out.1)
        have HM3 := hid (hT3.blk HM1.out HNE.out.2.1)
        have k0 := hk9.cell (i := 0) rfl
        have k1 := hk9.cell (i := 1) rfl
        have k2 := hk9.cell (i := 2) rfl
        have k3 := hk9.cell (i := 3) rfl
        clear hT3 hk9
        go_wp2
        unfold st4 at hW3
        rw [← hW3]
        (try simp only [Exit.inBlock, Exit.then])
        refine bodyPost_ret (v := .agg #[.int .i64 2, .bool true, .string ⟨#[]⟩, .func (.func 45) #[] #[.pointer (some ⟨bm, 0, none⟩), .pointer (some ⟨ba, 0, none⟩)]]) ?_ rfl ⟨HBF.out, ?_⟩
        · rw [results_cell1B rfl]
          go_simp
        · rw [if_neg (show ¬ 0 < cmpB a.pr (br, bn) by have := HNC.out; omega)]
          refine ⟨ba, bm, by rw [HV.out], HA3.out, ?_, by rw [HBA.out]; exact Nat.le_refl _, by rw [HBM.out]; exact Nat.le_succ _⟩
          simp only [MsM.cells]
          rw [HXN.out, HVN.out, HSN.out, HEN.out]
          exact HM3.out
  · have hyc : 0 < cmpB a.pr (br, bn) := by simpa using HC.out
    have HYC := hid hyc
    clear hyc hb1
    have e0 := HE1.out.cell (i := 0) rfl
    go_wp2_with fail
    refine (HRF.out _).mono ?_
    rintro e w2 ⟨rfl, hb2⟩
    have hE2 := HE1.out.below hb2 HE1.out.lt
    have HB2 := hid (bt' HB1.out hb2)
    have f0 := hE2.cell (i := 0) rfl
    have f1 := hE2.cell (i := 1) rfl
    have f2 := hE2.cell (i := 2) rfl
    have f3 := hE2.cell (i := 3) rfl
    have g0 := hE2.frozen 0
    have g1 := hE2.frozen 1
    have g2 := hE2.frozen 2
    have g3 := hE2.frozen 3
    obtain ⟨W3, hW3⟩ : ∃ V, V = st4 w2 be (.int .i64 5) (.bool false) (.string ⟨#[]⟩) (.func (.func 88) #[] #[]) := ⟨_, rfl⟩
    have hk9 : Blk W3 be 50 [.int .i64 5, .bool false, .string ⟨#[]⟩, .func (.func 88) #[] #[]] := by rw [hW3]; exact st4_blk hE2 _ _ _ _
    have HBF : Hid (Below w.heap.size w W3) := by rw [hW3]; exact (bt' HB.out HB2.out).trans ((st4_turns w2 be _ _ _ _).below (fun i hi => by rw [hi, HBE.out]; omega) (bt' HB.out HB2.out).size)
    have k0 := hk9.cell (i := 0) rfl
    have k1 := hk9.cell (i := 1) rfl
    have k2 := hk9.cell (i := 2) rfl
    have k3 := hk9.cell (i := 3) rfl
    clear hb2 hE2 hk9 e0
    unfold effV
    go_wp2
    unfold st4 at hW3
    rw [← hW3]
    (try simp only [Exit.inBlock, Exit.then])
    refine bodyPost_ret (v := .agg #[.int .i64 5, .bool false, .string ⟨#[]⟩, .func (.func 88) #[] #[]]) ?_ rfl ⟨HBF.out, ?_⟩
    · rw [results_cell1B rfl]
      go_simp
    · rw [if_pos HYC.out]
set_option maxRecDepth 100000 in
theorem onPrepare1A {w : World} {p m ba bm : Nat} {a : Ac} {x : MsM} (h : AcAt w p m a) (hA : Blk w ba 23 [.pointer (some ⟨p, 0, none⟩)]) (hM : Blk w bm 38 x.cells) (hr : RightBal x.bal = true) (hc : ¬ 0 < cmpB a.pr x.bal) : Calls Tryz.prog 45 #[.pointer (some ⟨bm, 0, none⟩), .pointer (some ⟨ba, 0, none⟩)] w fun e w' => e = .returned (.tuple #[]) ∧ AcAt w' p m (promA a x.bal) ∧ Turns (fun i => i = p) w w' := by
  obtain ⟨W3, hW3⟩ : ∃ V, V = (w.setCell ⟨p, 1, none⟩ (.int .i64 x.bal.1)).setCell ⟨p, 2, none⟩ (.int .i64 x.bal.2) := ⟨_, rfl⟩
  have hT : Turns (fun i => i = p) w W3 := by rw [hW3]; exact turns_own (turns_own (Turns.refl _ _))
  have HFIN : Hid (AcAt W3 p m (promA a x.bal) ∧ Turns (fun i => i = p) w W3) := by
    obtain ⟨S, D, h1, h2⟩ := h.map
    refine ⟨⟨promA_ok h.ok hr hc, ?_, S, D, h1.turned hT (fun e => h.pne e.symm) (noNum_blk h.blk (by decide)), h2⟩, hT⟩
    rw [hW3]
    exact (h.blk.set 1 _).set 2 _
  have c1 := h.cells.2.1
  have c2 := h.cells.2.2.1
  have f1 := h.blk.frozen 1
  have f2 := h.blk.frozen 2
  have d0 := hA.cell (i := 0) rfl
  have d3 := hM.cell (i := 3) rfl
  have d4 := hM.cell (i := 4) rfl
  clear h hA hM hT hc hr
  go_enter Tryz.func45, Tryz.ntmps45
  go_wp2
  rw [← hW3]
  (try simp only [Exit.inBlock, Exit.then])
  refine bodyPost_end (results_none rfl _ _ _) rfl ?_
  exact ⟨rfl, HFIN.out⟩
end Go.Proofs.YthcpopigkbefhaaGreat
/-
  Package acceptor: sameEntry.
-/
namespace Go.Proofs.YthcpopigkbefhaaGreat
open Go.RowKit Go.Maps

theorem toList_injA {a b : ByteArray} (h : a.toList = b.toList) : a = b := bytes_injC h
set_option maxRecDepth 100000 in
set_option maxHeartbeats 1000000 in
theorem sameEnA (w : World) (x y : EnM) (hx : EnOk w x) (hy : EnOk w y) : Calls Tryz.prog 46 #[x.val, y.val] w fun e w' => e = .returned (.bool (decide (x.e = y.e))) ∧ Below w.heap.size w w' := by
  obtain ⟨⟨np, tk, ct, ep, dp⟩, ao1, cap1⟩ := x
  obtain ⟨⟨np', tk', ct', ep', dp'⟩, ao2, cap2⟩ := y
  obtain ⟨XN, HXN⟩ : ∃ m, Hid (dp.length = m) := ⟨_, hid rfl⟩
  obtain ⟨YN, HYN⟩ : ∃ m, Hid (dp'.length = m) := ⟨_, hid rfl⟩
  simp only [EnM.val]
  rw [HXN.out, HYN.out]
  obtain ⟨W, hW⟩ : ∃ W, W = (w.alloc (.cells #[.bool np, .string tk, .string ct, .int .i64 ep, .slice ao1 XN cap1] 34)).alloc (.cells #[.bool np', .string tk', .string ct', .int .i64 ep', .slice ao2 YN cap2] 34) := ⟨_, rfl⟩
  have HB : Hid (Below w.heap.size w W) := by rw [hW]; exact ((Below.refl _ _).alloc (Nat.le_refl _) _).alloc (by simp) _
  have HS := hid (equalL_any W ao1 ao2 cap1 cap2 dp dp' XN YN HXN.out HYN.out (hx.cut.below HB.out) (hy.cut.below HB.out))
  have HW := hid hW
  clear hx hy hW
  by_cases h1 : np = np'
  · by_cases h2 : tk = tk'
    · by_cases h3 : ct = ct'
      · by_cases h4 : ep = ep'
        · subst h1 h2 h3 h4
          have HD : Hid (decide ((⟨np, tk, ct, ep, dp⟩ : En) = ⟨np, tk, ct, ep, dp'⟩) = decide (dp = dp')) := by
            show _ = _
            rw [Bool.eq_iff_iff, decide_eq_true_iff, decide_eq_true_iff]
            exact ⟨fun h => by cases h; rfl, fun h => by rw [h]⟩
          rw [HD.out]
          have hnn : (np == np) = true := by simp
          go_enter Tryz.func46, Tryz.ntmps46
          go_wp2_with fail
          rw [← HW.out]
          refine HS.out.mono ?_
          rintro e w' ⟨rfl, q, rfl⟩
          go_wp2
          go_ret
          exact ⟨rfl, below_dn HB.out q⟩
        · rw [decide_eq_false (fun h => by cases h; exact h4 rfl)]
          have hnn : (ep == ep') = false := by simpa using h4
          subst h1 h2 h3
          have hnp : (np == np) = true := by simp
          go_enter Tryz.func46, Tryz.ntmps46
          go_wp2
          go_ret
          rw [← HW.out]
          exact ⟨rfl, HB.out⟩
      · rw [decide_eq_false (fun h => by cases h; exact h3 rfl)]
        have hb2 : (ct.toList == ct'.toList) = false := beq_eq_false_iff_ne.2 fun hh => h3 (toList_injA hh)
        have hb3 : ¬ ct.toList = ct'.toList := fun hh => h3 (toList_injA hh)
        subst h1 h2
        have hnp : (np == np) = true := by simp
        go_enter Tryz.func46, Tryz.ntmps46
        go_wp2
        go_ret
        rw [← HW.out]
        exact ⟨rfl, HB.out⟩
    · rw [decide_eq_false (fun h => by cases h; exact h2 rfl)]
      have hb2 : (tk.toList == tk'.toList) = false := beq_eq_false_iff_ne.2 fun hh => h2 (toList_injA hh)
      have hb3 : ¬ tk.toList = tk'.toList := fun hh => h2 (toList_injA hh)
      subst h1
      have hnp : (np == np) = true := by simp
      go_enter Tryz.func46, Tryz.ntmps46
      go_wp2
      go_ret
      rw [← HW.out]
      exact ⟨rfl, HB.out⟩
  · rw [decide_eq_false (fun h => by cases h; exact h1 rfl)]
    have hnp : (np == np') = false := by simpa using h1
    go_enter Tryz.func46, Tryz.ntmps46
    go_wp2
    go_ret
    rw [← HW.out]
    exact ⟨rfl, HB.out⟩
end Go.Proofs.YthcpopigkbefhaaGreat
