/-
  Package oplog: told, own, May.
-/
import Derived.Test.YtcammngbhnhjjaaLogA
import Derived.Deep.QuietTactic
import Derived.BigQuiet
namespace Go.Proofs.Ytcammngbhnhjjaa
open Go.RowKit Go.Maps

/-- A block of eight cells stored anew. -/
def st8 (w : World) (p : Nat) (v0 v1 v2 v3 v4 v5 v6 v7 : Value) : World :=
  (((((((w.setCell ⟨p, 0, none⟩ v0).setCell ⟨p, 1, none⟩ v1).setCell ⟨p, 2, none⟩ v2).setCell ⟨p, 3, none⟩ v3).setCell ⟨p, 4, none⟩ v4).setCell ⟨p, 5, none⟩ v5).setCell ⟨p, 6, none⟩ v6).setCell ⟨p, 7, none⟩ v7
theorem st8_blk {w : World} {p : Nat} {t : TypeId} {a0 a1 a2 a3 a4 a5 a6 a7 : Value} (h : Blk w p t [a0, a1, a2, a3, a4, a5, a6, a7]) (v0 v1 v2 v3 v4 v5 v6 v7 : Value) : Blk (st8 w p v0 v1 v2 v3 v4 v5 v6 v7) p t [v0, v1, v2, v3, v4, v5, v6, v7] :=
  (((((((h.set 0 v0).set 1 v1).set 2 v2).set 3 v3).set 4 v4).set 5 v5).set 6 v6).set 7 v7
theorem st8_turns (w : World) (p : Nat) (v0 v1 v2 v3 v4 v5 v6 v7 : Value) : Turns (fun i => i = p) w (st8 w p v0 v1 v2 v3 v4 v5 v6 v7) :=
  ((((((((Turns.refl (fun i => i = p) w).setCell (p := ⟨p, 0, none⟩) (.inl rfl) _).setCell (p := ⟨p, 1, none⟩) (.inl rfl) _).setCell (p := ⟨p, 2, none⟩) (.inl rfl) _).setCell (p := ⟨p, 3, none⟩) (.inl rfl) _).setCell (p := ⟨p, 4, none⟩) (.inl rfl) _).setCell (p := ⟨p, 5, none⟩) (.inl rfl) _).setCell (p := ⟨p, 6, none⟩) (.inl rfl) _).setCell (p := ⟨p, 7, none⟩) (.inl rfl) _
/-- An event told anew: the same, its vector in new memory. -/
def ToldL (w : World) (x : EvM) (e : Ending) (w' : World) : Prop := ∃ y : EvM, e = .returned y.val ∧ y.e = x.e ∧ EvKeep w' y ∧ (∀ b off, y.ao = some ⟨b, off, none⟩ → w.heap.size ≤ b) ∧ Below w.heap.size w w'
set_option maxRecDepth 100000 in
set_option maxHeartbeats 1000000 in
theorem toldL_any (w : World) (x : EvM) (hx : EvOk w x) : Calls Try.prog 40 #[x.val] w (ToldL w x) := by
  obtain ⟨⟨o, s, dp, ct, ep, sk, qt, cl⟩, ao1, cap1⟩ := x
  obtain ⟨XN, HXN⟩ : ∃ m, Hid (dp.length = m) := ⟨_, hid rfl⟩
  simp only [EvM.val]
  rw [HXN.out]
  obtain ⟨W0, hW0⟩ : ∃ W, W = w.alloc (.cells #[.int .i64 o, .int .i64 s, .slice ao1 XN cap1, .string ct, .int .i64 ep, .string sk, .int .i64 qt, .bool cl] 33) := ⟨_, rfl⟩
  obtain ⟨W, hW⟩ : ∃ W, W = W0.alloc (.cells #[.int .i64 0, .int .i64 0, .slice none 0 0, .string ⟨#[]⟩, .int .i64 0, .string ⟨#[]⟩, .int .i64 0, .bool false] 33) := ⟨_, rfl⟩
  have HB0 : Hid (Below w.heap.size w W0) := by rw [hW0]; exact (Below.refl _ _).alloc (Nat.le_refl _) _
  have hs0 : W0.heap.size = w.heap.size + 1 := by rw [hW0]; simp
  have HB : Hid (Below w.heap.size w W) := by rw [hW]; exact HB0.out.alloc HB0.out.size _
  have HK : Hid (Blk W w.heap.size 33 [.int .i64 o, .int .i64 s, .slice ao1 XN cap1, .string ct, .int .i64 ep, .string sk, .int .i64 qt, .bool cl]) := by rw [hW, hW0]; exact (Blk.new w _ _).alloc _
  have HR : Hid (Blk W (w.heap.size + 1) 33 [.int .i64 0, .int .i64 0, .slice none 0 0, .string ⟨#[]⟩, .int .i64 0, .string ⟨#[]⟩, .int .i64 0, .bool false]) := by rw [hW, ← hs0]; exact Blk.new W0 _ _
  have HDI := hid (hx.deps.held.below HB.out)
  have HDF : Hid (dp.length ≤ 17592186044416) := hx.deps.few
  have HOX := hid hx
  have c2 := HK.out.cell (i := 2) rfl
  have HW : Hid (W = (w.alloc (.cells #[.int .i64 o, .int .i64 s, .slice ao1 XN cap1, .string ct, .int .i64 ep, .string sk, .int .i64 qt, .bool cl] 33)).alloc (.cells #[.int .i64 0, .int .i64 0, .slice none 0 0, .string ⟨#[]⟩, .int .i64 0, .string ⟨#[]⟩, .int .i64 0, .bool false] 33)) := by show _ = _; rw [hW, hW0]
  rw [HW.out] at c2
  clear hW hW0 hx hs0
  go_enter Try.func40, Try.ntmps40
  go_wp2_with (at_builtin; rw [← HW.out]; refine wpList_append_nilT _ rfl _ _ rfl rfl ao1 cap1 dp XN HXN.out rfl HDI.out HDF.out ?_; intro bo cp w2 hv2 hne2 hbo2 hb2; have HV2 := hid hv2; have HNE2 := hid hne2; have HBO := hid hbo2; have HB2 := hid hb2; have hk2 := HK.out.below hb2 HK.out.lt; have d2 := hk2.cell (i := 2) rfl; have f2 := hk2.frozen 2; have hk3 := hk2.set 2 (.slice bo XN cp); have t0 := hk3.cell (i := 0) rfl; have t1 := hk3.cell (i := 1) rfl; have t2 := hk3.cell (i := 2) rfl; have t3 := hk3.cell (i := 3) rfl; have t4 := hk3.cell (i := 4) rfl; have t5 := hk3.cell (i := 5) rfl; have t6 := hk3.cell (i := 6) rfl; have t7 := hk3.cell (i := 7) rfl; have hr3 := (HR.out.below hb2 HR.out.lt).other (C := w.heap.size) (by omega) 2 (.slice bo XN cp); have r0 := hr3.cell (i := 0) rfl; have r1 := hr3.cell (i := 1) rfl; have r2 := hr3.cell (i := 2) rfl; have r3 := hr3.cell (i := 3) rfl; have r4 := hr3.cell (i := 4) rfl; have r5 := hr3.cell (i := 5) rfl; have r6 := hr3.cell (i := 6) rfl; have r7 := hr3.cell (i := 7) rfl; have q0 := hr3.frozen 0; have q1 := hr3.frozen 1; have q2 := hr3.frozen 2; have q3 := hr3.frozen 3; have q4 := hr3.frozen 4; have q5 := hr3.frozen 5; have q6 := hr3.frozen 6; have q7 := hr3.frozen 7; clear hv2 hb2 hbo2 hne2 c2 hk2 hk3)
  obtain ⟨W3, hW3⟩ : ∃ V, V = st8 (w2.setCell ⟨w.heap.size, 2, none⟩ (.slice bo XN cp)) (w.heap.size + 1) (.int .i64 o) (.int .i64 s) (.slice bo XN cp) (.string ct) (.int .i64 ep) (.string sk) (.int .i64 qt) (.bool cl) := ⟨_, rfl⟩
  have hk9 : Blk W3 (w.heap.size + 1) 33 [.int .i64 o, .int .i64 s, .slice bo XN cp, .string ct, .int .i64 ep, .string sk, .int .i64 qt, .bool cl] := by rw [hW3]; exact st8_blk hr3 _ _ _ _ _ _ _ _
  have hT3 : Turns (fun i => i = w.heap.size ∨ i = w.heap.size + 1) w2 W3 := by
    rw [hW3]
    exact (((Turns.refl (fun i => i = w.heap.size) w2).setCell (p := ⟨w.heap.size, 2, none⟩) (.inl rfl) _).mono (fun i hi => .inl hi)).trans (st8_turns _ _ _ _ _ _ _ _ _ _) (fun i hi => .inl (.inr hi))
  have HBF : Hid (Below w.heap.size w W3) := (HB.out.trans (HB2.out.mono HB.out.size)).trans (hT3.below (fun i hi => by omega) (bt HB.out HB2.out).size)
  have HLW : Hid (w.heap.size + 1 < W.heap.size) := HR.out.lt
  have HV3 : Hid (HV W3 bo cp dp) := ⟨HV2.out.held.turned hT3 (fun b off e _ hF => by have := HBO.out b off e; have := HLW.out; omega), HV2.out.room, HV2.out.few⟩
  have HNE3 : Hid (NEv W3 bo dp) := HNE2.out.stay HV2.out.held hT3 (fun b off e _ hF => by have := HBO.out b off e; have := HLW.out; omega)
  have k0 := hk9.cell (i := 0) rfl
  have k1 := hk9.cell (i := 1) rfl
  have k2 := hk9.cell (i := 2) rfl
  have k3 := hk9.cell (i := 3) rfl
  have k4 := hk9.cell (i := 4) rfl
  have k5 := hk9.cell (i := 5) rfl
  have k6 := hk9.cell (i := 6) rfl
  have k7 := hk9.cell (i := 7) rfl
  unfold st8 at hW3
  rw [← hW3]
  (try simp only [Exit.inBlock, Exit.then])
  refine bodyPost_ret (v := .agg #[.int .i64 o, .int .i64 s, .slice bo XN cp, .string ct, .int .i64 ep, .string sk, .int .i64 qt, .bool cl]) ?_ rfl ⟨⟨⟨o, s, dp, ct, ep, sk, qt, cl⟩, bo, cp⟩, ?_, rfl, ⟨⟨HV3.out, HOX.out.io, HOX.out.is, HOX.out.ie, HOX.out.iq, HOX.out.hc, HOX.out.hs⟩, HNE3.out⟩, fun b off e => Nat.le_trans HB.out.size (HBO.out b off e), HBF.out⟩
  · rw [results_cell1 rfl]
    go_simp
  · simp only [EvM.val]
    rw [HXN.out]
set_option maxRecDepth 100000 in
set_option maxHeartbeats 1000000 in
theorem mayL_any (w : World) (x : EvM) (hx : EvOk w x) : Calls Try.prog 21 #[x.val] w fun e w' => e = .returned (.bool (decide (MayE x.e))) ∧ Below w.heap.size w w' := by
  obtain ⟨W, hW⟩ : ∃ W, W = w.alloc (.cells x.cells.toArray 33) := ⟨_, rfl⟩
  have HB : Hid (Below w.heap.size w W) := by rw [hW]; exact (Below.refl _ _).alloc (Nat.le_refl _) _
  have HK : Hid (Blk W w.heap.size 33 x.cells) := by rw [hW]; exact Blk.new w _ _
  have HEV := hid (event_any W x (hx.below HB.out))
  unfold EventP at HEV
  have HOX := hid hx
  have HW := hid hW
  clear hW hx
  by_cases hr : RightEv x.e = true
  rotate_left 1
  · have HD : Hid (decide (MayE x.e) = false) := decide_eq_false fun h => hr h.1
    rw [HD.out]
    simp only [hr] at HEV
    clear hr HD
    obtain ⟨⟨o, s, dp, ct, ep, sk, qt, cl⟩, ao1, cap1⟩ := x
    obtain ⟨XN, HXN⟩ : ∃ m, Hid (dp.length = m) := ⟨_, hid rfl⟩
    simp only [EvM.val, EvM.cells] at HEV HW HK ⊢
    rw [HXN.out] at HEV HW HK ⊢
    go_enter Try.func21, Try.ntmps21
    go_wp2_with fail
    rw [← HW.out]
    refine HEV.out.mono ?_
    rintro e w1 ⟨hp, hb⟩
    simp at hp
    subst hp
    have HB1 := hid (bt HB.out hb)
    clear hb
    go_wp2
    go_quiet (fail)
    go_wp2
    go_ret
    exact ⟨rfl, below_dn HB1.out _⟩
  · have HRT := hid hr
    simp only [hr, if_true] at HEV
    clear hr
    obtain ⟨⟨o, s, dp, ct, ep, sk, qt, cl⟩, ao1, cap1⟩ := x
    obtain ⟨XN, HXN⟩ : ∃ m, Hid (dp.length = m) := ⟨_, hid rfl⟩
    simp only [EvM.val, EvM.cells] at HEV HW HK ⊢
    rw [HXN.out] at HEV HW HK ⊢
    have HOF := hid (fun V (hV : Below w.heap.size w V) => of_any V ao1 cap1 dp XN HXN.out o (HOX.out.below hV).deps.held)
    have hsr : 0 ≤ s ∧ s ≤ 2147483647 := (rightEv_iff HRT.out).s
    by_cases h1 : 1 ≤ s
    rotate_left 1
    · have HD : Hid (decide (MayE ⟨o, s, dp, ct, ep, sk, qt, cl⟩) = false) := decide_eq_false fun h => h1 h.2.1
      rw [HD.out]
      have hd1 : decide (1 ≤ s) = false := decide_eq_false h1
      go_enter Try.func21, Try.ntmps21
      go_wp2_with fail
      rw [← HW.out]
      obtain ⟨p, hp⟩ : ∃ p, p = w.heap.size := ⟨_, rfl⟩
      rw [← hp] at HK ⊢
      refine HEV.out.mono ?_
      rintro e w1 ⟨⟨v, rfl, _⟩, hb⟩
      have HB1 := hid (bt HB.out hb)
      have hk1 := HK.out.below hb HK.out.lt
      have c1 := hk1.cell (i := 1) rfl
      clear hb hk1 hp
      go_wp2
      go_quiet (fail)
      go_wp2
      go_ret
      exact ⟨rfl, below_dn HB1.out _⟩
    · obtain ⟨z, HZ⟩ : ∃ z, Hid (ofV dp o = z) := ⟨_, hid rfl⟩
      rw [HZ.out] at HOF
      have HD : Hid (decide (MayE ⟨o, s, dp, ct, ep, sk, qt, cl⟩) = decide (z = s - 1)) := by
        show _ = _
        rw [decide_eq_decide, ← HZ.out]
        exact ⟨fun h => h.2.2, fun h => ⟨HRT.out, h1, h⟩⟩
      rw [HD.out]
      have hd1 : decide (1 ≤ s) = true := decide_eq_true h1
      have hsub : IntKind.i64.wrap (s - 1) = s - 1 := by rw [IntKind.wrap_i64]; omega
      go_enter Try.func21, Try.ntmps21
      go_wp2_with fail
      rw [← HW.out]
      obtain ⟨p, hp⟩ : ∃ p, p = w.heap.size := ⟨_, rfl⟩
      rw [← hp] at HK ⊢
      refine HEV.out.mono ?_
      rintro e w1 ⟨⟨v, rfl, _⟩, hb⟩
      have HB1 := hid (bt HB.out hb)
      have hk1 := HK.out.below hb HK.out.lt
      have c0 := hk1.cell (i := 0) rfl
      have c1 := hk1.cell (i := 1) rfl
      have c2 := hk1.cell (i := 2) rfl
      have HOF2 := hid (fun q => HOF.out _ (below_dn HB1.out q))
      clear hb hk1 hp
      go_wp2
      go_quiet (first | (go_at_call 10; refine Calls.quiet_of_same (HOF2.out _)))
      go_wp2
      go_ret
      exact ⟨ret_bool (by rw [Bool.eq_iff_iff]; simp), below_dn HB1.out _⟩
end Go.Proofs.Ytcammngbhnhjjaa
