/-
  Package oplog: takeReady.
-/
import Derived.Test.YtjlompnjhmbhhaaGreatLogE
namespace Go.Proofs.YtjlompnjhmbhhaaGreat
open Go.RowKit Go.Maps

/-- The log without what waited at a dot. -/
def lessW (g : Lg) (o s : Int) : Lg := ⟨g.A, g.E, updD g.W o s none, g.ne, g.nw - 1⟩
/-- Nothing that waits is ready. -/
def StuckG (g : Lg) : Prop := 65536 ≤ g.ne ∨ ∀ o s x, g.W o s = some x → ¬ ReadyE g.A x.e
/-- Of those that are ready, none has a lesser origin than x. -/
def LeastW (g : Lg) (x : Ev) : Prop := ∀ o : Nat, (o : Int) < x.o → ∀ y, g.W (o : Int) (ofV g.A o + 1) = some y → ¬ BelowV y.e.deps g.A
/-- What takeReady leaves. -/
def TakenP (w : World) (p me mw : Nat) (g : Lg) (e : Ending) (w' : World) : Prop :=
  (e = .returned (.tuple #[zeroV, .bool false]) ∧ StuckG g ∧ Below w.heap.size w w') ∨
  ∃ x : EvM, e = .returned (.tuple #[x.val, .bool true]) ∧ (g.ne < 65536 ∧ LeastW g x.e) ∧ 1 ≤ g.nw ∧ g.W x.e.o x.e.s = some x ∧ ReadyE g.A x.e ∧ EvKeep w' x ∧ AtG w p me mw (lessW g x.e.o x.e.s) w' ∧ ∀ b, b < w.heap.size → AwayL w p g b → AwayL w' p (lessW g x.e.o x.e.s) b ∧ NotIn x.ao x.e.deps b
theorem away_less {w w' : World} {p b : Nat} {g : Lg} {o s o' s' : Int} {x : EvM} (h : AwayL w p g b) (hc : w'.cell? ⟨p, 0, none⟩ = w.cell? ⟨p, 0, none⟩) (hx : g.W o' s' = some x) : AwayL w' p (lessW g o s) b ∧ NotIn x.ao x.e.deps b := by
  refine ⟨⟨(h.of_cell hc).vec, h.E, fun o2 s2 y hy => ?_⟩, h.W _ _ _ hx⟩
  have hy' : updD g.W o s none o2 s2 = some y := hy
  by_cases e : o2 = o ∧ s2 = s
  · rw [e.1, e.2, updD_same] at hy'
    cases hy'
  · rw [updD_other _ _ e] at hy'
    exact h.W _ _ _ hy'
theorem less_at {W w6 : World} {p me mw : Nat} {g : Lg} {o s : Int} (h : LogAt W p me mw g) {D2 : DataW Value} (wm : EvMap w6 mw (updD g.W o s none) (g.nw - 1) D2) (ht : Turns (fun i => i = mw) W w6) : LogAt w6 p me mw (lessW g o s) := by
  obtain ⟨ao, cap, h1, h2, h2'⟩ := h.blk
  obtain ⟨De, h3⟩ := h.em
  obtain ⟨Dw, h4⟩ := h.wm
  have hni := noInt_map h4.map
  refine ⟨⟨ao, cap, ht.blk h1 h.pne.2, h2.noInt hni ht, h2'.stay h2.held ht (noInt_off h2.held hni)⟩, h.apart, h.may, ⟨De, h3.turned ht h.apart hni⟩, ⟨D2, wm⟩, h.has, h.evs, fun o' s' y hy => ?_, h.fewE, ?_⟩
  · have hy' : updD g.W o s none o' s' = some y := hy
    by_cases e : o' = o ∧ s' = s
    · obtain ⟨rfl, rfl⟩ := e
      rw [updD_same] at hy'
      cases hy'
    · rw [updD_other _ _ e] at hy'
      exact h.wait o' s' y hy'
  · have := h.fewW
    show g.nw - 1 ≤ 4096
    omega
theorem less_end {w w6 W3 : World} {p me mw r : Nat} {g : Lg} {o s : Int} (h : LogAt w p me mw g) {D : DataW Value} (wm : EvMap w6 mw (updD g.W o s none) (g.nw - 1) D) (T6 : Turns (fun i => i = mw) w w6) (T3 : Turns (fun i => i = r) w6 W3) (hr : w.heap.size ≤ r) : AtG w p me mw (lessW g o s) W3 := by
  have T : Turns (fun i => i = mw) w W3 := T6.trans T3 (fun i hi => .inr (by rw [hi]; exact hr))
  have hmw := h.lt mw (.inr (.inr rfl))
  obtain ⟨Dw, h4⟩ := h.wm
  have hni := noInt_map h4.map
  refine ⟨less_at h (D2 := D) ⟨T3.map wm.map (fun e => by omega), wm.key, fun o' s' y hy => ?_, wm.cnt⟩ T, T.mono (fun i hi => .inr (.inr hi))⟩
  have hy' := hy
  by_cases e : o' = o ∧ s' = s
  · obtain ⟨rfl, rfl⟩ := e
    rw [updD_same] at hy'
    cases hy'
  · rw [updD_other _ _ e] at hy'
    have := h4.ok o' s' y hy'
    exact ⟨this.1.noInt hni T, this.2⟩
theorem ready_of {g : Lg} {w : World} {p me mw : Nat} (h : LogAt w p me mw g) (hs : ∀ o : Nat, o < 7 → ∀ x, g.W (o : Int) (ofV g.A o + 1) = some x → ¬ BelowV x.e.deps g.A) : StuckG g := by
  refine .inr fun o s x hx hr => ?_
  obtain ⟨Dw, hw⟩ := h.wm
  obtain ⟨_, ho, hs'⟩ := hw.ok o s x hx
  have hf := rightEv_iff (h.wait o s x hx).1.1
  have h0 := hf.o
  have e1 : ((o.toNat : Nat) : Int) = o := by omega
  refine hs o.toNat (by omega) x ?_ hr.2
  rw [e1]
  have := hr.1
  rw [ho, hs'] at this
  rw [← this]
  exact hx
set_option maxRecDepth 200000 in
set_option maxHeartbeats 4000000 in
theorem takeReady_any {w : World} {p me mw : Nat} {g : Lg} (h : LogAt w p me mw g) : Calls Tryz.prog 47 #[.pointer (some ⟨p, 0, none⟩)] w (TakenP w p me mw g) := by
  obtain ⟨W, hW⟩ : ∃ W, W = w.alloc (.cells #[.int .i64 0, .int .i64 0, .slice none 0 0, .string ⟨#[]⟩, .int .i64 0, .string ⟨#[]⟩, .int .i64 0, .bool false] 33) := ⟨_, rfl⟩
  have HB : Hid (Below w.heap.size w W) := by rw [hW]; exact (Below.refl _ _).alloc (Nat.le_refl _) _
  have HK : Hid (Blk W w.heap.size 33 [.int .i64 0, .int .i64 0, .slice none 0 0, .string ⟨#[]⟩, .int .i64 0, .string ⟨#[]⟩, .int .i64 0, .bool false]) := by rw [hW]; exact Blk.new w _ _
  have HL := hid (h.below HB.out)
  have HW := hid hW
  have HPW : Hid (∀ i, FootL p me mw i → i < w.heap.size) := h.lt
  have HH := hid h
  have HFU := hid (fullL_any HL.out)
  obtain ⟨r, hr⟩ : ∃ r, r = w.heap.size := ⟨_, rfl⟩
  have HRR := hid hr
  rw [← hr] at HK
  have k0 := HK.out.cell (i := 0) rfl
  have k1 := HK.out.cell (i := 1) rfl
  have k2 := HK.out.cell (i := 2) rfl
  have k3 := HK.out.cell (i := 3) rfl
  have k4 := HK.out.cell (i := 4) rfl
  have k5 := HK.out.cell (i := 5) rfl
  have k6 := HK.out.cell (i := 6) rfl
  have k7 := HK.out.cell (i := 7) rfl
  have f0 := HK.out.frozen 0
  have f1 := HK.out.frozen 1
  have f2 := HK.out.frozen 2
  have f3 := HK.out.frozen 3
  have f4 := HK.out.frozen 4
  have f5 := HK.out.frozen 5
  have f6 := HK.out.frozen 6
  have f7 := HK.out.frozen 7
  clear hW h hr
  by_cases hfull : 65536 ≤ g.ne
  · rw [decide_eq_true hfull] at HFU
    have HST : Hid (StuckG g) := .inl hfull
    obtain ⟨W3, hW3⟩ : ∃ V, V = st8 W r (.int .i64 0) (.int .i64 0) (.slice none 0 0) (.string ⟨#[]⟩) (.int .i64 0) (.string ⟨#[]⟩) (.int .i64 0) (.bool false) := ⟨_, rfl⟩
    have hk9 : Blk W3 r 33 [.int .i64 0, .int .i64 0, .slice none 0 0, .string ⟨#[]⟩, .int .i64 0, .string ⟨#[]⟩, .int .i64 0, .bool false] := by rw [hW3]; exact st8_blk HK.out _ _ _ _ _ _ _ _
    have HBF : Hid (Below w.heap.size w W3) := by rw [hW3]; exact HB.out.trans ((st8_turns _ _ _ _ _ _ _ _ _ _).below (fun i hi => by rw [hi, HRR.out]; exact Nat.le_refl _) HB.out.size)
    have q0 := hk9.cell (i := 0) rfl
    have q1 := hk9.cell (i := 1) rfl
    have q2 := hk9.cell (i := 2) rfl
    have q3 := hk9.cell (i := 3) rfl
    have q4 := hk9.cell (i := 4) rfl
    have q5 := hk9.cell (i := 5) rfl
    have q6 := hk9.cell (i := 6) rfl
    have q7 := hk9.cell (i := 7) rfl
    unfold st8 at hW3
    clear hfull hk9
    go_enter Tryz.func47, Tryz.ntmps47
    go_wp2_with fail
    rw [← HW.out, ← HRR.out]
    refine HFU.out.mono ?_
    rintro e w' ⟨rfl, rfl⟩
    go_wp2
    rw [← hW3]
    (try simp only [Exit.inBlock, Exit.then])
    refine bodyPost_ret (v := .tuple #[zeroV, .bool false]) ?_ rfl (.inl ⟨rfl, HST.out, HBF.out⟩)
    rw [results_cell_tmp rfl]
    unfold zeroV
    go_simp
  rw [decide_eq_false hfull] at HFU
  have HNF : Hid (g.ne < 65536) := by show _ < _; omega
  clear hfull
  go_enter Tryz.func47, Tryz.ntmps47
  go_wp2_with fail
  rw [← HW.out, ← HRR.out]
  refine HFU.out.mono ?_
  rintro e w' ⟨rfl, rfl⟩
  clear k0 k1 k2 k3 k4 k5 k6 k7 f0 f1 f2 f3 f4 f5 f6 f7
  go_wp2
  go_loopw [4, 5, 6, 7, 11] (fun _ _ _ _ i wr => ∃ k : Nat, k ≤ 7 ∧ i = .int .i64 k ∧ Hid ((∀ o : Nat, o < k → ∀ x, g.W (o : Int) (ofV g.A o + 1) = some x → ¬ BelowV x.e.deps g.A) ∧ Below w'.heap.size w' wr)) (fun _ _ _ _ i _ => 7 - (intOf i).toNat)
  case atStart => exact ⟨0, by omega, rfl, fun o ho => absurd ho (Nat.not_lt_zero _), Below.refl _ _⟩
  case round =>
    obtain ⟨k, hk, rfl, HR⟩ := hrel
    by_cases hlt : k < 7
    · have hlt' : (k : Int) < 7 := by omega
      have HLr := hid (HL.out.below HR.out.2)
      have HNX := hid (nextL_any HLr.out (k : Int))
      have HKM : Hid (k + 1 ≤ 7) := (by omega : k + 1 ≤ 7)
      have hz := ofV_may HL.out.may (k : Int)
      obtain ⟨z, HZ⟩ : ∃ z, Hid (ofV g.A (k : Int) = z) := ⟨_, hid rfl⟩
      rw [HZ.out] at HNX hz
      have HI1 : Hid (I64 (k : Int) ∧ I64 (z + 1)) := by constructor <;> (unfold I64; omega)
      clear hz
      go_wp2_with fail
      refine HNX.out.mono ?_
      rintro e w2 ⟨rfl, hb2⟩
      have HB2 : Hid (Below w'.heap.size w' w2) := bt HR.out.2 hb2
      clear hb2 HNX
      obtain ⟨V, hV⟩ : ∃ V, V = w2.alloc (.cells #[.int .i64 (k : Int), .int .i64 (z + 1)] 25) := ⟨_, rfl⟩
      have HBV : Hid (Below w'.heap.size w' V) := by rw [hV]; exact HB2.out.alloc HB2.out.size _
      have HKV : Hid (Blk V w2.heap.size 25 [.int .i64 (k : Int), .int .i64 (z + 1)]) := by rw [hV]; exact Blk.new w2 _ _
      have HLV := hid (HL.out.below HBV.out)
      obtain ⟨ao, cap, hv, _, _, c2⟩ := HLV.out.cells
      obtain ⟨D, hD⟩ := HLV.out.wm
      have HLK : Hid (∀ U, Sc V U → (Instr.lookup 41 (.map (some mw)) (.agg #[.int .i64 (k : Int), .int .i64 (z + 1)]) true).run Tryz.prog U = .ok (.tuple #[((g.W (k : Int) (z + 1)).map EvM.val).getD zeroV, .bool (g.W (k : Int) (z + 1)).isSome]) U) := fun U hU => (hD.below hU.out).look HI1.out.1 HI1.out.2
      have HPL := hid (HLV.out.lt p (.inl rfl))
      have HC2 := hid c2
      obtain ⟨pb, hpb⟩ : ∃ z, z = w2.heap.size := ⟨_, rfl⟩
      have HVW := hid hV
      have hpb' := hid hpb
      rw [← hpb] at HKV
      clear hV hv hD c2
      cases hWk : g.W (k : Int) (z + 1) with
      | none =>
        rw [hWk] at HLK
        have HNO : Hid (∀ o : Nat, o < k + 1 → ∀ x, g.W (o : Int) (ofV g.A o + 1) = some x → ¬ BelowV x.e.deps g.A) := fun o ho x hx => by
          by_cases e : o = k
          · subst e
            rw [HZ.out, hWk] at hx
            cases hx
          · exact HR.out.1 o (by omega) x hx
        simp only [Option.map_none, Option.getD_none, zeroV, Option.isSome_none] at HLK
        clear hWk
        have HSA : Hid (∀ U, Sc V U → (Sc V U ∧ U.cell? ⟨pb, 0, none⟩ = some (.int .i64 (k : Int)) ∧ U.cell? ⟨pb, 1, none⟩ = some (.int .i64 (z + 1)) ∧ U.cell? ⟨p, 2, none⟩ = some (.map (some mw)) ∧ (Instr.lookup 41 (.map (some mw)) (.agg #[.int .i64 (k : Int), .int .i64 (z + 1)]) true).run Tryz.prog U = .ok (.tuple #[.agg #[.int .i64 0, .int .i64 0, .slice none 0 0, .string ⟨#[]⟩, .int .i64 0, .string ⟨#[]⟩, .int .i64 0, .bool false], .bool false]) U)) := fun U hU => by
          have hb := HKV.out.below hU.out HKV.out.lt
          exact ⟨hU, hb.cell rfl, hb.cell rfl, (hU.out.cell (p := ⟨p, 2, none⟩) HPL.out).trans HC2.out, HLK.out U hU⟩
        go_wp2
        rw [← HVW.out, ← hpb]
        clear hpb
        go_region_held3 (fun U => Sc V U ∧ U.cell? ⟨pb, 0, none⟩ = some (.int .i64 (k : Int)) ∧ U.cell? ⟨pb, 1, none⟩ = some (.int .i64 (z + 1)) ∧ U.cell? ⟨p, 2, none⟩ = some (.map (some mw)) ∧ (Instr.lookup 41 (.map (some mw)) (.agg #[.int .i64 (k : Int), .int .i64 (z + 1)]) true).run Tryz.prog U = .ok (.tuple #[.agg #[.int .i64 0, .int .i64 0, .slice none 0 0, .string ⟨#[]⟩, .int .i64 0, .string ⟨#[]⟩, .int .i64 0, .bool false], .bool false]) U)
          (first | (refine ⟨?_, ?_, ?_, ?_, ?_⟩ <;> assumption) | (refine HSA.out _ ?_; (repeat (first | assumption | exact Sc.start _ | apply Sc.dr | apply Sc.alloc | refine Sc.setCell ?_ (by first | exact Nat.le_refl _ | (simp; done) | (simp; omega)) _)))) (fail)
        all_goals
          rename_i hHeld
          have HSC := hid (bt HBV.out hHeld.1.out)
          clear hHeld
          go_wp2
          go_roundw
          case rel => exact ⟨k + 1, HKM.out, by go_num, HNO.out, HSC.out⟩
          case measure => simp [intOf]; have := HKM.out; omega
      | some x =>
        rw [hWk] at HLK
        have HWK := hid hWk
        obtain ⟨Dw, hDw⟩ := HLV.out.wm
        obtain ⟨hxo, hx1, hx2⟩ := hDw.ok _ _ _ hWk
        have HXO := hid hxo
        have HX12 : Hid (x.e.o = (k : Int) ∧ x.e.s = z + 1) := ⟨hx1, hx2⟩
        clear hWk hDw hxo hx1 hx2
        have HRD := hid (fun U (hU : Sc V U) => readyL_any (HLV.out.below hU.out) x (HXO.out.below hU.out).ok)
        have HRE : Hid (ReadyE g.A x.e ↔ BelowV x.e.deps g.A) := ⟨fun h => h.2, fun h => ⟨by rw [HX12.out.1, HX12.out.2, HZ.out], h⟩⟩
        have HDEL := hid (fun U (hU : Sc V U) => (by
          obtain ⟨Dw, hDw⟩ := HLV.out.wm
          obtain ⟨w6, h1, ⟨D6, h2⟩, h3, h4⟩ := (hDw.below hU.out).del HI1.out.1 HI1.out.2 HWK.out 0
          exact ⟨w6, h1, ⟨⟨D6, h2⟩, h3⟩, h4⟩ : ∃ w6, (Builtin.delete_ #[41, 25] 0 #[.map (some mw), .agg #[.int .i64 (k : Int), .int .i64 (z + 1)]]).run Tryz.prog U = .ok (.tuple #[]) w6 ∧ Hid ((∃ D6, EvMap w6 mw (updD g.W (k : Int) (z + 1) none) (g.nw - 1) D6) ∧ 1 ≤ g.nw) ∧ Turns (fun i => i = mw) U w6))
        obtain ⟨⟨o, s, dp, ct, ep, sk, qt, cl⟩, ao1, cap1⟩ := x
        obtain ⟨XN, HXN⟩ : ∃ m, Hid (dp.length = m) := ⟨_, hid rfl⟩
        simp only [Option.map_some, Option.getD_some, EvM.val, Option.isSome_some] at HLK HRD
        rw [HXN.out] at HLK HRD
        have HNO : Hid (¬ BelowV dp g.A → ∀ o : Nat, o < k + 1 → ∀ x, g.W (o : Int) (ofV g.A o + 1) = some x → ¬ BelowV x.e.deps g.A) := fun hn o ho x hx => by
          by_cases e : o = k
          · subst e
            rw [HZ.out, HWK.out] at hx
            cases hx
            exact hn
          · exact HR.out.1 o (by omega) x hx
        have HSA : Hid (∀ U, Sc V U → (Sc V U ∧ U.cell? ⟨pb, 0, none⟩ = some (.int .i64 (k : Int)) ∧ U.cell? ⟨pb, 1, none⟩ = some (.int .i64 (z + 1)) ∧ U.cell? ⟨p, 2, none⟩ = some (.map (some mw)) ∧ (Instr.lookup 41 (.map (some mw)) (.agg #[.int .i64 (k : Int), .int .i64 (z + 1)]) true).run Tryz.prog U = .ok (.tuple #[.agg #[.int .i64 o, .int .i64 s, .slice ao1 XN cap1, .string ct, .int .i64 ep, .string sk, .int .i64 qt, .bool cl], .bool true]) U)) := fun U hU => by
          have hb := HKV.out.below hU.out HKV.out.lt
          exact ⟨hU, hb.cell rfl, hb.cell rfl, (hU.out.cell (p := ⟨p, 2, none⟩) HPL.out).trans HC2.out, HLK.out U hU⟩
        go_wp2
        rw [← HVW.out, ← hpb]
        clear hpb
        go_region_held3 (fun U => Sc V U ∧ U.cell? ⟨pb, 0, none⟩ = some (.int .i64 (k : Int)) ∧ U.cell? ⟨pb, 1, none⟩ = some (.int .i64 (z + 1)) ∧ U.cell? ⟨p, 2, none⟩ = some (.map (some mw)) ∧ (Instr.lookup 41 (.map (some mw)) (.agg #[.int .i64 (k : Int), .int .i64 (z + 1)]) true).run Tryz.prog U = .ok (.tuple #[.agg #[.int .i64 o, .int .i64 s, .slice ao1 XN cap1, .string ct, .int .i64 ep, .string sk, .int .i64 qt, .bool cl], .bool true]) U)
          (first | (refine ⟨?_, ?_, ?_, ?_, ?_⟩ <;> assumption) | (refine HSA.out _ ?_; (repeat (first | assumption | exact Sc.start _ | apply Sc.dr | apply Sc.alloc | refine Sc.setCell ?_ (by first | exact Nat.le_refl _ | (simp; done) | (simp; omega)) _)))) (fail)
        all_goals
          rename_i hHeld
          obtain ⟨hsc, e0, e1, e2, _⟩ := hHeld
          obtain ⟨U, hU⟩ : ∃ U, U = (V.alloc (.cells #[.int .i64 o, .int .i64 s, .slice ao1 XN cap1, .string ct, .int .i64 ep, .string sk, .int .i64 qt, .bool cl] 33)).drew := ⟨_, rfl⟩
          have hkU : Blk U V.heap.size 33 [.int .i64 o, .int .i64 s, .slice ao1 XN cap1, .string ct, .int .i64 ep, .string sk, .int .i64 qt, .bool cl] := by rw [hU]; exact (Blk.new V _ _).drew
          rw [← hU] at hsc e0 e1 e2 ⊢
          have HSC := hid hsc
          have HKU := hid hkU
          have t0 := hkU.cell (i := 0) rfl
          have t1 := hkU.cell (i := 1) rfl
          have t2 := hkU.cell (i := 2) rfl
          have t3 := hkU.cell (i := 3) rfl
          have t4 := hkU.cell (i := 4) rfl
          have t5 := hkU.cell (i := 5) rfl
          have t6 := hkU.cell (i := 6) rfl
          have t7 := hkU.cell (i := 7) rfl
          obtain ⟨pe, hpe⟩ : ∃ z, z = V.heap.size := ⟨_, rfl⟩
          rw [← hpe] at HKU t0 t1 t2 t3 t4 t5 t6 t7 ⊢
          have HPE := hid hpe
          have HE2 := hid e2
          have HE0 := hid e0
          have HE1 := hid e1
          clear hU hkU hsc hpe e0 e1 e2
          go_wp2_with fail
          refine (HRD.out _ HSC.out).mono ?_
          rintro e w5 ⟨rfl, hb5⟩
          have HS5 := hid (HSC.out.go hb5)
          have HB5 := hid hb5
          clear hb5 t0 t1 t2 t3 t4 t5 t6 t7
          by_cases hbl : BelowV dp g.A
          rotate_left 1
          · rw [decide_eq_false (fun h => hbl (HRE.out.1 h))]
            have HNN := hid (HNO.out hbl)
            clear hbl
            go_wp2
            go_roundw
            case rel => exact ⟨k + 1, HKM.out, by go_num, HNN.out, bt HBV.out HS5.out.out⟩
            case measure => simp [intOf]; have := HKM.out; omega
          rw [decide_eq_true (HRE.out.2 hbl)]
          have HRY := hid (HRE.out.2 hbl)
          clear hbl
          have c2 : w5.cell? ⟨p, 2, none⟩ = some (.map (some mw)) := (HB5.out.cell (p := ⟨p, 2, none⟩) (World.block_lt_of_cell? U _ HE2.out)).trans HE2.out
          have d0 : w5.cell? ⟨pb, 0, none⟩ = some (.int .i64 (k : Int)) := (HB5.out.cell (p := ⟨pb, 0, none⟩) (World.block_lt_of_cell? U _ HE0.out)).trans HE0.out
          have d1 : w5.cell? ⟨pb, 1, none⟩ = some (.int .i64 (z + 1)) := (HB5.out.cell (p := ⟨pb, 1, none⟩) (World.block_lt_of_cell? U _ HE1.out)).trans HE1.out
          obtain ⟨w6, hrun, HF6, ht6⟩ := HDEL.out w5.drew HS5.out.dr
          have hpm : p ≠ mw := HLV.out.pne.2
          have hmlt : mw < w'.heap.size := HL.out.lt mw (.inr (.inr rfl))
          have hbm : pb ≠ mw := fun e => by have := HB2.out.size; have := hpb'.out; omega
          have hsV := HBV.out.size
          have hem : pe ≠ mw := fun e => by have := HPE.out; omega
          have hrm : r ≠ mw := fun e => by have := HPW.out mw (.inr (.inr rfl)); have := HRR.out; omega
          have hp6 : w6.cell? ⟨p, 2, none⟩ = some (.map (some mw)) := by
            obtain ⟨_, _, hbb, _, _⟩ := (HLV.out.below HS5.out.dr.out).blk
            exact (ht6.blk hbb hpm).cell (i := 2) rfl
          have hkb6 := ht6.blk (show Blk w5.drew pb 25 _ from (HKV.out.below HS5.out.dr.out HKV.out.lt)) hbm
          have g0 := hkb6.cell (i := 0) rfl
          have g1 := hkb6.cell (i := 1) rfl
          have hke6 := ht6.blk (show Blk w5.drew pe 33 _ from (HKU.out.below (below_dr HB5.out) HKU.out.lt)) hem
          have hkr6 := ht6.blk (show Blk w5.drew r 33 _ from (HK.out.below (bt HBV.out HS5.out.dr.out) HK.out.lt)) hrm
          have HT6' := hid ht6
          have hkr6' := hkr6
          have HT6 : Hid (Turns (fun i => i = mw) w w6) := ((Turns.of_below (F := fun i => i = mw) (bt HB.out (bt HBV.out HS5.out.out)) (Nat.le_refl _)).drew).trans ht6 (fun i hi => .inl hi)
          have t0 := hke6.cell (i := 0) rfl
          have t1 := hke6.cell (i := 1) rfl
          have t2 := hke6.cell (i := 2) rfl
          have t3 := hke6.cell (i := 3) rfl
          have t4 := hke6.cell (i := 4) rfl
          have t5 := hke6.cell (i := 5) rfl
          have t6 := hke6.cell (i := 6) rfl
          have t7 := hke6.cell (i := 7) rfl
          have k0 := hkr6.cell (i := 0) rfl
          have k1 := hkr6.cell (i := 1) rfl
          have k2 := hkr6.cell (i := 2) rfl
          have k3 := hkr6.cell (i := 3) rfl
          have k4 := hkr6.cell (i := 4) rfl
          have k5 := hkr6.cell (i := 5) rfl
          have k6 := hkr6.cell (i := 6) rfl
          have k7 := hkr6.cell (i := 7) rfl
          have f0 := hkr6.frozen 0
          have f1 := hkr6.frozen 1
          have f2 := hkr6.frozen 2
          have f3 := hkr6.frozen 3
          have f4 := hkr6.frozen 4
          have f5 := hkr6.frozen 5
          have f6 := hkr6.frozen 6
          have f7 := hkr6.frozen 7
          obtain ⟨W3, hW3⟩ : ∃ V, V = st8 w6 r (.int .i64 o) (.int .i64 s) (.slice ao1 XN cap1) (.string ct) (.int .i64 ep) (.string sk) (.int .i64 qt) (.bool cl) := ⟨_, rfl⟩
          have hk9 : Blk W3 r 33 [.int .i64 o, .int .i64 s, .slice ao1 XN cap1, .string ct, .int .i64 ep, .string sk, .int .i64 qt, .bool cl] := by rw [hW3]; exact st8_blk hkr6 _ _ _ _ _ _ _ _
          have HAT : Hid (AtG w p me mw (lessW g (k : Int) (z + 1)) W3) := by
            obtain ⟨D6, hD6⟩ := HF6.out.1
            exact less_end HH.out hD6 HT6.out (by rw [hW3]; exact st8_turns _ _ _ _ _ _ _ _ _ _) (by rw [HRR.out]; exact Nat.le_refl _)
          have HKX : Hid (EvKeep W3 ⟨⟨o, s, dp, ct, ep, sk, qt, cl⟩, ao1, cap1⟩) := by
            obtain ⟨Dw, h4⟩ := HLV.out.wm
            have h5 := ((HXO.out.below HS5.out.dr.out).noInt (noInt_map ((h4.below HS5.out.dr.out).map)) HT6'.out).onEvs hkr6' (show Turns (fun i => i = r) w6 W3 by rw [hW3]; exact st8_turns _ _ _ _ _ _ _ _ _ _)
            exact h5
          have HPC : Hid (W3.cell? ⟨p, 0, none⟩ = w.cell? ⟨p, 0, none⟩) := by
            have hpl := HPW.out p (.inl rfl)
            have t3 : Turns (fun i => i = r) w6 W3 := by rw [hW3]; exact st8_turns _ _ _ _ _ _ _ _ _ _
            exact cell_block ((t3.block p (Nat.lt_of_lt_of_le hpl HT6.out.size) (by have := HRR.out; omega)).trans (HT6.out.block p hpl hpm))
          have q0 := hk9.cell (i := 0) rfl
          have q1 := hk9.cell (i := 1) rfl
          have q2 := hk9.cell (i := 2) rfl
          have q3 := hk9.cell (i := 3) rfl
          have q4 := hk9.cell (i := 4) rfl
          have q5 := hk9.cell (i := 5) rfl
          have q6 := hk9.cell (i := 6) rfl
          have q7 := hk9.cell (i := 7) rfl
          unfold st8 at hW3
          clear ht6 hpm hmlt hbm hsV hem hrm hkb6 hke6 hkr6 hkr6' hk9
          go_wp2
          go_region_held3 (fun V => V.cell? ⟨p, 2, none⟩ = some (.map (some mw)) ∧ V.cell? ⟨pb, 0, none⟩ = some (.int .i64 (k : Int)) ∧ V.cell? ⟨pb, 1, none⟩ = some (.int .i64 (z + 1))) (first | (refine ⟨?_, ?_, ?_⟩ <;> assumption) | go_keep) (fail)
          clear hrun c2 d0 d1
          go_wp2
          rw [← hW3]
          (try simp only [Exit.inBlock, Exit.then])
          obtain ⟨ho, hs⟩ := HX12.out
          refine bodyPost_ret (v := .tuple #[.agg #[.int .i64 o, .int .i64 s, .slice ao1 XN cap1, .string ct, .int .i64 ep, .string sk, .int .i64 qt, .bool cl], .bool true]) ?_ rfl (.inr ⟨⟨⟨o, s, dp, ct, ep, sk, qt, cl⟩, ao1, cap1⟩, ?_, ⟨HNF.out, fun o' ho' => HR.out.1 o' (by have h9 : (o' : Int) < o := ho'; omega)⟩, HF6.out.2, ?_, HRY.out, HKX.out, ?_, fun b _ ha => away_less ha HPC.out HWK.out⟩)
          · rw [results_cell_tmp rfl]
            go_simp
          · simp only [EvM.val]
            rw [HXN.out]
          · have h1 := HWK.out
            rw [← hs, ← ho] at h1
            exact h1
          · rw [ho, hs]
            exact HAT.out
    · have hlt' : ¬ (k : Int) < 7 := by omega
      have HST : Hid (StuckG g) := ready_of HL.out (fun o ho => HR.out.1 o (by omega))
      have hk3 := HK.out.below HR.out.2 HK.out.lt
      have k0 := hk3.cell (i := 0) rfl
      have k1 := hk3.cell (i := 1) rfl
      have k2 := hk3.cell (i := 2) rfl
      have k3 := hk3.cell (i := 3) rfl
      have k4 := hk3.cell (i := 4) rfl
      have k5 := hk3.cell (i := 5) rfl
      have k6 := hk3.cell (i := 6) rfl
      have k7 := hk3.cell (i := 7) rfl
      have f0 := hk3.frozen 0
      have f1 := hk3.frozen 1
      have f2 := hk3.frozen 2
      have f3 := hk3.frozen 3
      have f4 := hk3.frozen 4
      have f5 := hk3.frozen 5
      have f6 := hk3.frozen 6
      have f7 := hk3.frozen 7
      obtain ⟨W3, hW3⟩ : ∃ V, V = st8 wr r (.int .i64 0) (.int .i64 0) (.slice none 0 0) (.string ⟨#[]⟩) (.int .i64 0) (.string ⟨#[]⟩) (.int .i64 0) (.bool false) := ⟨_, rfl⟩
      have hk9 : Blk W3 r 33 [.int .i64 0, .int .i64 0, .slice none 0 0, .string ⟨#[]⟩, .int .i64 0, .string ⟨#[]⟩, .int .i64 0, .bool false] := by rw [hW3]; exact st8_blk hk3 _ _ _ _ _ _ _ _
      have hbr := bt HB.out HR.out.2
      have HBF : Hid (Below w.heap.size w W3) := by rw [hW3]; exact hbr.trans ((st8_turns _ _ _ _ _ _ _ _ _ _).below (fun i hi => by rw [hi, HRR.out]; exact Nat.le_refl _) hbr.size)
      have q0 := hk9.cell (i := 0) rfl
      have q1 := hk9.cell (i := 1) rfl
      have q2 := hk9.cell (i := 2) rfl
      have q3 := hk9.cell (i := 3) rfl
      have q4 := hk9.cell (i := 4) rfl
      have q5 := hk9.cell (i := 5) rfl
      have q6 := hk9.cell (i := 6) rfl
      have q7 := hk9.cell (i := 7) rfl
      unfold st8 at hW3
      clear hk9 hk3 hbr
      go_wp2
      rw [← hW3]
      (try simp only [Exit.inBlock, Exit.then])
      refine bodyPost_ret (v := .tuple #[zeroV, .bool false]) ?_ rfl (.inl ⟨rfl, HST.out, HBF.out⟩)
      rw [results_cell_tmp rfl]
      unfold zeroV
      go_simp
end Go.Proofs.YtjlompnjhmbhhaaGreat
/-
  Package oplog: what a row of events makes of a log (mathematics of applyAll).
-/
namespace Go.Proofs.YtjlompnjhmbhhaaGreat
open Go.RowKit Go.Maps

/-- Each was ready in its turn. -/
def ReadyL (A : List Int) : List Ev → Prop
  | [] => True
  | x :: r => ReadyE A x ∧ ReadyL (addA A x) r
def addL (A : List Int) (l : List Ev) : List Int := l.foldl addA A
theorem readyL_snoc {A : List Int} {l : List Ev} {x : Ev} (h : ReadyL A l) (hx : ReadyE (addL A l) x) : ReadyL A (l ++ [x]) := by
  induction l generalizing A with
  | nil => exact ⟨hx, trivial⟩
  | cons y r ih => exact ⟨h.1, ih h.2 hx⟩
theorem addL_snoc (A : List Int) (l : List Ev) (x : Ev) : addL A (l ++ [x]) = addA (addL A l) x := by simp [addL]
/-- Is the dot that of one of them? -/
def InL (l : List Ev) (o s : Int) : Prop := ∃ e ∈ l, e.o = o ∧ e.s = s
instance (l : List Ev) (o s : Int) : Decidable (InL l o s) := by unfold InL; infer_instance
theorem inL_snoc {l : List Ev} {x : Ev} {o s : Int} : InL (l ++ [x]) o s ↔ InL l o s ∨ (x.o = o ∧ x.s = s) := by
  unfold InL
  constructor
  · rintro ⟨e, he, h⟩
    rcases List.mem_append.1 he with he | he
    · exact .inl ⟨e, he, h⟩
    · rw [List.mem_singleton.1 he] at h
      exact .inr h
  · rintro (⟨e, he, h⟩ | h)
    · exact ⟨e, List.mem_append_left _ he, h⟩
    · exact ⟨x, by simp, h⟩
/-- E with a row. -/
def MoreE (E E' : Dots) (l : List Ev) : Prop := (∀ o s, ¬ InL l o s → E' o s = E o s) ∧ ∀ e ∈ l, ∃ x, E' e.o e.s = some x ∧ x.e = e
/-- t came next, behind pre: of those that waited and were ready then, none has a lesser origin. -/
def LeastAt (g : Lg) (pre : List Ev) (t : Ev) : Prop := ∀ o : Nat, (o : Int) < t.o → ∀ y, ¬ InL pre (o : Int) (ofV (addL g.A pre) o + 1) → g.W (o : Int) (ofV (addL g.A pre) o + 1) = some y → ¬ BelowV y.e.deps (addL g.A pre)
/-- What is left of g, when l was applied to it. -/
structure RanG (g : Lg) (l : List Ev) (g' : Lg) : Prop where
  A : g'.A = addL g.A l
  ready : ReadyL g.A l
  may : ∀ e ∈ l, MayE e
  W : ∀ o s, g'.W o s = if InL l o s then none else g.W o s
  E : MoreE g.E g'.E l
  ne : g'.ne = g.ne + l.length
  nw : g'.nw + l.length = g.nw + 1
  waited : ∀ e ∈ l.tail, ∃ x, g.W e.o e.s = some x ∧ x.e = e
  least : ∀ pre t post, l = pre ++ t :: post → pre ≠ [] → LeastAt g pre t
/-- .. and x is to come next; it waits no more. -/
structure HeadG (g : Lg) (l : List Ev) (x : Ev) (g' : Lg) : Prop where
  A : g'.A = addL g.A l
  ready : ReadyL g.A l
  may : ∀ e ∈ l, MayE e
  W : ∀ o s, g'.W o s = if InL (l ++ [x]) o s then none else g.W o s
  E : MoreE g.E g'.E l
  ne : g'.ne = g.ne + l.length
  nw : g'.nw + l.length = g.nw
  waited : ∀ e ∈ (l ++ [x]).tail, ∃ x, g.W e.o e.s = some x ∧ x.e = e
  least : ∀ pre t post, l ++ [x] = pre ++ t :: post → pre ≠ [] → LeastAt g pre t
theorem HeadG.start {g : Lg} {x : Ev} (h : g.W x.o x.s = none) : HeadG g [] x g := by
  refine ⟨rfl, trivial, fun e he => (by cases he), fun o s => ?_, ⟨fun _ _ _ => rfl, fun e he => by cases he⟩, rfl, rfl, fun e he => (by cases he), fun pre t post he hp => ?_⟩
  rotate_left
  · exfalso
    have h1 := congrArg List.length he
    have h2 := List.length_pos_iff.2 hp
    simp at h1
    omega
  split
  · next hc =>
    obtain ⟨e, he, rfl, rfl⟩ := hc
    simp at he
    subst he
    exact h
  · rfl
theorem HeadG.apply {g gk : Lg} {l : List Ev} {X : EvM} {w : World} {p me mw : Nat} (h : HeadG g l X.e gk) (hL : LogAt w p me mw gk) (hm : MayE X.e) (hr : ReadyE gk.A X.e) : RanG g (l ++ [X.e]) (applyG gk X) := by
  have hno : ∀ e ∈ l, ¬ (e.o = X.e.o ∧ e.s = X.e.s) := by
    rintro e he ⟨h1, h2⟩
    obtain ⟨y, hy, _⟩ := h.E.2 e he
    have h3 := (hL.has e.o e.s).1 (by rw [hy]; rfl)
    have h4 := h3.2
    have h5 := hr.1
    rw [h1, h2] at h4
    omega
  refine ⟨?_, readyL_snoc h.ready (by rw [← h.A]; exact hr), fun e he => ?_, h.W, ⟨fun o s hn => ?_, fun e he => ?_⟩, ?_, ?_, h.waited, h.least⟩
  · show addA gk.A X.e = _
    rw [addL_snoc, h.A]
  · rcases List.mem_append.1 he with he | he
    · exact h.may e he
    · rw [List.mem_singleton.1 he]
      exact hm
  · rw [inL_snoc] at hn
    show updD gk.E X.e.o X.e.s (some X) o s = _
    rw [updD_other _ _ (fun k => hn (.inr ⟨k.1.symm, k.2.symm⟩))]
    exact h.E.1 o s (fun k => hn (.inl k))
  · show ∃ x, updD gk.E X.e.o X.e.s (some X) e.o e.s = some x ∧ x.e = e
    rcases List.mem_append.1 he with he | he
    · rw [updD_other _ _ (hno e he)]
      exact h.E.2 e he
    · rw [List.mem_singleton.1 he, updD_same]
      exact ⟨X, rfl, rfl⟩
  · show gk.ne + 1 = _
    rw [h.ne, List.length_append]
    rfl
  · show gk.nw + _ = _
    have := h.nw
    rw [List.length_append]
    show gk.nw + (l.length + 1) = _
    omega
theorem RanG.take {g g2 : Lg} {l : List Ev} {X : EvM} (h : RanG g l g2) (hl : l ≠ []) (hX : g2.W X.e.o X.e.s = some X) (hn : 1 ≤ g2.nw) (hle : LeastW g2 X.e) : HeadG g l X.e (lessW g2 X.e.o X.e.s) := by
  have hg : g.W X.e.o X.e.s = some X := by
    have := h.W X.e.o X.e.s
    rw [hX] at this
    split at this
    · cases this
    · exact this.symm
  refine ⟨h.A, h.ready, h.may, fun o s => ?_, h.E, h.ne, ?_, fun e he => ?_, fun pre t post he hp => ?_⟩
  · show updD g2.W X.e.o X.e.s none o s = _
    by_cases e : o = X.e.o ∧ s = X.e.s
    · obtain ⟨rfl, rfl⟩ := e
      rw [updD_same, if_pos (inL_snoc.2 (.inr ⟨rfl, rfl⟩))]
    · rw [updD_other _ _ e, h.W]
      by_cases hc : InL l o s
      · rw [if_pos hc, if_pos (inL_snoc.2 (.inl hc))]
      · rw [if_neg hc, if_neg (fun k => (inL_snoc.1 k).elim hc (fun k => e ⟨k.1.symm, k.2.symm⟩))]
  · show g2.nw - 1 + _ = _
    have := h.nw
    omega
  · cases l with
    | nil => exact absurd rfl hl
    | cons y r =>
      have he' : e ∈ r ++ [X.e] := he
      rcases List.mem_append.1 he' with he' | he'
      · exact h.waited e he'
      · rw [List.mem_singleton.1 he']
        exact ⟨X, hg, rfl⟩
  · rcases List.eq_nil_or_concat post with hp0 | ⟨post', z, hp0⟩
    · subst hp0
      obtain ⟨h1, h2⟩ := List.append_inj' he rfl
      have h3 : X.e = t := by simpa using h2
      subst h1 h3
      intro o ho y hno hy
      rw [← h.A] at hno hy ⊢
      refine hle o ho y ?_
      rw [h.W, if_neg hno]
      exact hy
    · rw [List.concat_eq_append] at hp0
      subst hp0
      have he2 : l ++ [X.e] = (pre ++ t :: post') ++ [z] := by rw [he]; simp
      obtain ⟨h1, _⟩ := List.append_inj' he2 rfl
      exact h.least pre t post' h1 hp
/-- A row of events in memory of its own, each kept. -/
structure RowE (B : Nat) (w : World) (v : Value) (ys : List EvM) : Prop where
  row : w.ownsRow B 33 8 v ys.length (flatE ys)
  keep : ∀ y ∈ ys, EvKeep w y
theorem RowE.below {B : Nat} {w w' : World} {v : Value} {ys : List EvM} (h : RowE B w v ys) (hb : Below w.heap.size w w') : RowE B w' v ys :=
  ⟨(Turns.of_below (F := fun _ => False) hb (Nat.le_refl _)).row h.row (fun _ _ h => h), fun y hy => (h.keep y hy).below hb⟩
theorem RowE.noInt {F : Nat → Prop} {B : Nat} {w w' : World} {v : Value} {ys : List EvM} (h : RowE B w v ys) (hF : NoInt w F) (ht : Turns F w w') (hv : ∀ g, v.ownBlock = some g → ¬ F g) : RowE B w' v ys :=
  ⟨ht.row h.row hv, fun y hy => (h.keep y hy).noInt hF ht⟩
theorem RowE.onEvs {B b : Nat} {w w' : World} {v : Value} {ys : List EvM} {cs : List Value} (h : RowE B w v ys) (hb : Blk w b 33 cs) (ht : Turns (fun i => i = b) w w') (hv : ∀ g, v.ownBlock = some g → g ≠ b) : RowE B w' v ys :=
  ⟨ht.row h.row hv, fun y hy => (h.keep y hy).onEvs hb ht⟩
theorem row_blk {B n : Nat} {w : World} {v : Value} {xs : List Value} (h : w.ownsRow B 33 8 v n xs) {g : Nat} (hg : v.ownBlock = some g) : ∃ cs, Blk w g 33 cs := by
  rcases h.2 with ⟨rfl, _⟩ | ⟨g', cap, cur, rfl, _, hb, _⟩
  · cases hg
  · have e : g' = g := by simpa [Value.ownBlock] using hg
    subst e
    exact ⟨cur.toList, hb⟩
theorem LogAt.grown {w w' : World} {p me mw : Nat} {g : Lg} {B n : Nat} {v : Value} {xs : List Value} (h : LogAt w p me mw g) (hr : w.ownsRow B 33 8 v n xs) (hg : w.grownBy w' v.ownBlock) : LogAt w' p me mw g := by
  cases hv : v.ownBlock with
  | none =>
    rw [hv] at hg
    exact h.turned (F := fun _ => False) (Turns.of_grown hg (fun _ e => by cases e)) (fun _ _ h => h) (noInt_none w)
  | some b =>
    rw [hv] at hg
    obtain ⟨cs, hb⟩ := row_blk hr hv
    exact h.onEvs hb (Turns.of_grown hg (fun k e => by cases e; rfl))
theorem EvKeep.grown {w w' : World} {x : EvM} {B n : Nat} {v : Value} {xs : List Value} (h : EvKeep w x) (hr : w.ownsRow B 33 8 v n xs) (hg : w.grownBy w' v.ownBlock) : EvKeep w' x := by
  cases hv : v.ownBlock with
  | none =>
    rw [hv] at hg
    exact h.noInt (F := fun _ => False) (noInt_none w) (Turns.of_grown hg (fun _ e => by cases e))
  | some b =>
    rw [hv] at hg
    obtain ⟨cs, hb⟩ := row_blk hr hv
    exact h.onEvs hb (Turns.of_grown hg (fun k e => by cases e; rfl))
end Go.Proofs.YtjlompnjhmbhhaaGreat
/-
  Package oplog: applyAll.
-/
namespace Go.Proofs.YtjlompnjhmbhhaaGreat
open Go.RowKit Go.Maps

/-- append(out, e), and where it lies then. -/
theorem wpList_append_evL {ops : Array Oper} {rest : List Oper} {o : Oper} {a : Act} {Q : Exit → Act → World → Prop} (W0 W : World) (x : EvM) (hW : W = W0.alloc (.cells x.cells.toArray 33)) (hgd : o.guard = none) (s xx : Operand)
    (ho : o.op = .call { callee := .builtin .append, args := #[s, xx], argTypes := #[22, 22] }) (B : Nat) (v : Value) (ds : List EvM) (hs : a.eval s = v) (g : Nat) (hx : a.eval xx = .slice (some ⟨g, 0, none⟩) 1 1) (hg : g = W0.heap.size) (hown : W0.ownsRow B 33 8 v ds.length (flatE ds)) (hB : B ≤ W0.heap.size) (hl : ds.length < 1466015503701)
    (h : ∀ v' w', w'.ownsRow B 33 8 v' (ds ++ [x]).length (flatE (ds ++ [x])) → Below B W0 w' → W.grownBy w' v.ownBlock → wpList Tryz.prog ops Q rest (a.put o.dst v') w') :
    wpList Tryz.prog ops Q (o :: rest) a W := by
  subst hW
  subst hg
  obtain ⟨iI, hj, hy0, hy1, hy2⟩ := info_parts Tryz.infoEv
  have hnb := Blk.new W0 33 x.cells
  refine wpList_append_own_at _ hgd s xx 22 ho B 33 iI _ 8 96 Tryz.underlying22 hj hy0 hy1 hy2 rfl (by decide) v ds.length (flatE ds) hs (hown.alloc _) ⟨W0.heap.size, 0, none⟩ 1 1 x.cells hx rfl (fun j u hu => ?_) (ev_one x) (by unfold maxLen; omega) (by omega) (by simp; omega) ?_
  · rw [Addr.add_lit, Nat.zero_add]
    exact hnb.cell hu
  · intro v' w' hown' hgrow _ _
    refine h v' w' ?_ (((Below.refl _ _).alloc hB _).grown hgrow (by simp; omega) (fun k hk => (hown.lt k hk).1)) hgrow
    rw [flatE_snoc, List.length_append]
    exact hown'
/-- What applyAll leaves. -/
def AllP (w : World) (p me mw : Nat) (g : Lg) (e0 : Ev) (a0 : Option Addr) (e : Ending) (w' : World) : Prop :=
  ∃ v ys g', e = .returned v ∧ RowE w.heap.size w' v ys ∧ (∃ r, ys.map (·.e) = e0 :: r) ∧ RanG g (ys.map (·.e)) g' ∧ StuckG g' ∧ AtG w p me mw g' w' ∧ (∀ b, b < w.heap.size → AwayL w p g b → NotIn a0 e0.deps b → AwayL w' p g' b) ∧ ∀ y ∈ ys, ∀ b, b < w.heap.size → NotIn y.ao y.e.deps b
structure InG (w : World) (p me mw pb B : Nat) (g : Lg) (e0 : Ev) (v : Value) (ys : List EvM) (gk : Lg) (wr : World) : Prop where
  log : LogAt wr p me mw gk
  row : RowE B wr v ys
  box : ∃ X : EvM, Blk wr pb 33 X.cells
  turn : Turns (FootL p me mw) w wr
  size : B ≤ wr.heap.size
/-- One more is to be applied. -/
structure GoesOn (w : World) (p me mw pb B : Nat) (g : Lg) (e0 : Ev) (a0 : Option Addr) (v : Value) (ys : List EvM) (X : EvM) (gk : Lg) (wr : World) : Prop where
  log : LogAt wr p me mw gk
  row : RowE B wr v ys
  box : Blk wr pb 33 X.cells
  turn : Turns (FootL p me mw) w wr
  size : B ≤ wr.heap.size
  head : HeadG g (ys.map (·.e)) X.e gk
  first : ∃ r, ys.map (·.e) ++ [X.e] = e0 :: r
  keep : EvKeep wr X
  may : MayE X.e
  ready : ReadyE gk.A X.e
  gone : gk.W X.e.o X.e.s = none
  room : gk.ne < 65536
  away : ∀ b, b < w.heap.size → AwayL w p g b → NotIn a0 e0.deps b → AwayL wr p gk b ∧ NotIn X.ao X.e.deps b
  fresh : ∀ y ∈ ys, ∀ b, b < w.heap.size → NotIn y.ao y.e.deps b
structure Ended (w : World) (p me mw B : Nat) (g : Lg) (e0 : Ev) (a0 : Option Addr) (v : Value) (ys : List EvM) (gk : Lg) (wr : World) : Prop where
  log : LogAt wr p me mw gk
  row : RowE B wr v ys
  turn : Turns (FootL p me mw) w wr
  ran : RanG g (ys.map (·.e)) gk
  first : ∃ r, ys.map (·.e) = e0 :: r
  stuck : StuckG gk
  away : ∀ b, b < w.heap.size → AwayL w p g b → NotIn a0 e0.deps b → AwayL wr p gk b
  fresh : ∀ y ∈ ys, ∀ b, b < w.heap.size → NotIn y.ao y.e.deps b
theorem snoc_first {l : List Ev} {x e0 : Ev} (h : ∃ r, l ++ [x] = e0 :: r) (y : Ev) : ∃ r, l ++ [x] ++ [y] = e0 :: r := by
  obtain ⟨r, h⟩ := h
  exact ⟨r ++ [y], by rw [h]; rfl⟩
set_option maxRecDepth 200000 in
set_option maxHeartbeats 4000000 in
theorem applyAll_any {w : World} {p me mw : Nat} {g : Lg} (h : LogAt w p me mw g) (x : EvM) (hx : EvKeep w x) (hm : MayE x.e) (hr : ReadyE g.A x.e) (hw : g.W x.e.o x.e.s = none) (hn : g.ne < 65536) :
    Calls Tryz.prog 20 #[.pointer (some ⟨p, 0, none⟩), x.val] w (AllP w p me mw g x.e x.ao) := by
  obtain ⟨W, hW⟩ : ∃ W, W = w.alloc (.cells x.cells.toArray 33) := ⟨_, rfl⟩
  have HB : Hid (Below w.heap.size w W) := by rw [hW]; exact (Below.refl _ _).alloc (Nat.le_refl _) _
  have HK : Hid (Blk W w.heap.size 33 x.cells) := by rw [hW]; exact Blk.new w _ _
  obtain ⟨pb, hpb⟩ : ∃ q, q = w.heap.size := ⟨_, rfl⟩
  rw [← hpb] at HK
  have HPP := hid hpb
  have HPW : Hid (∀ i, FootL p me mw i → i < w.heap.size) := h.lt
  have HBB : Hid (pb < W.heap.size) := HK.out.lt
  have HST : Hid (GoesOn w p me mw pb W.heap.size g x.e x.ao (.slice none 0 0) [] x g W) := ⟨h.below HB.out, ⟨World.ownsRow_nil _ _ _ _, fun y hy => by cases hy⟩, HK.out, Turns.of_below HB.out (Nat.le_refl _), Nat.le_refl _, HeadG.start hw, ⟨[], rfl⟩, hx.below HB.out, hm, hr, hw, hn, fun b _ ha hx0 => ⟨ha.below (HPW.out p (.inl rfl)) HB.out, hx0⟩, fun y hy => by cases hy⟩
  obtain ⟨e0, he0⟩ : ∃ e, e = x.e := ⟨_, rfl⟩
  obtain ⟨a0, ha0⟩ : ∃ a, a = x.ao := ⟨_, rfl⟩
  rw [← he0, ← ha0] at HST ⊢
  have HW := hid hW
  clear hW hx h hm hr hw hn hpb he0 ha0
  obtain ⟨⟨o, s, dp, ct, ep, sk, qt, cl⟩, ao1, cap1⟩ := x
  obtain ⟨XN, HXN⟩ : ∃ m, Hid (dp.length = m) := ⟨_, hid rfl⟩
  simp only [EvM.val, EvM.cells] at HW ⊢
  rw [HXN.out] at HW ⊢
  go_enter Tryz.func20, Tryz.ntmps20
  go_wp2
  rw [← HW.out, ← HPP.out]
  clear HW HXN
  go_loopw [5, 6] (fun v m wr => ∃ (b : Bool) (ys : List EvM) (X : EvM) (gk : Lg), m = .bool b ∧ Hid ((b = true → GoesOn w p me mw pb W.heap.size g e0 a0 v ys X gk wr) ∧ (b = false → Ended w p me mw W.heap.size g e0 a0 v ys gk wr))) (fun v _ _ => 70000 - lenV v)
  case atStart => exact ⟨true, [], _, g, rfl, fun _ => HST.out, fun h => by cases h⟩
  case round =>
    obtain ⟨b, ys, X, gk, rfl, HI⟩ := hrel
    cases b with
    | false =>
      have HE := hid (HI.out.2 rfl)
      clear HI
      go_wp2
      go_ret
      exact ⟨_, ys, gk, rfl, ⟨own_mono HE.out.row.row HB.out.size, HE.out.row.keep⟩, HE.out.first, HE.out.ran, HE.out.stuck, ⟨HE.out.log, HE.out.turn⟩, HE.out.away, HE.out.fresh⟩
    | true =>
      have HG := hid (HI.out.1 rfl)
      clear HI
      have HAP := hid (applyL_any HG.out.log X HG.out.keep HG.out.may HG.out.ready HG.out.gone HG.out.room)
      have HAG : Hid (∀ b, b < w.heap.size → AwayL w p g b → NotIn a0 e0.deps b → AwayL wr p gk b ∧ NotIn X.ao X.e.deps b) := HG.out.away
      have HPL : Hid (p < w.heap.size) := HPW.out p (.inl rfl)
      have HRN := hid (HG.out.head.apply HG.out.log HG.out.may HG.out.ready)
      have HLN : Hid (ys.length < 65536) := by
        have h1 := HG.out.head.ne
        have h2 := HG.out.room
        rw [List.length_map] at h1
        show _ < _
        omega
      have HPF : Hid (¬ FootL p me mw pb) := fun hf => by have := HPW.out pb hf; have := HPP.out; omega
      have HVF : Hid (∀ i, u5.ownBlock = some i → ¬ FootL p me mw i ∧ i ≠ pb) := fun i hi => by
        have h1 := (HG.out.row.row.lt i hi).1
        have h2 := HBB.out
        exact ⟨fun hf => by have := HPW.out i hf; have := HPP.out; omega, by omega⟩
      obtain ⟨⟨o, s, dp, ct, ep, sk, qt, cl⟩, ao1, cap1⟩ := X
      obtain ⟨XN, HXN⟩ : ∃ m, Hid (dp.length = m) := ⟨_, hid rfl⟩
      simp only [EvM.val] at HAP
      rw [HXN.out] at HAP
      have HBX := hid HG.out.box
      simp only [EvM.cells] at HBX
      rw [HXN.out] at HBX
      have t0 := HBX.out.cell (i := 0) rfl
      have t1 := HBX.out.cell (i := 1) rfl
      have t2 := HBX.out.cell (i := 2) rfl
      have t3 := HBX.out.cell (i := 3) rfl
      have t4 := HBX.out.cell (i := 4) rfl
      have t5 := HBX.out.cell (i := 5) rfl
      have t6 := HBX.out.cell (i := 6) rfl
      have t7 := HBX.out.cell (i := 7) rfl
      go_wp2_with fail
      refine HAP.out.mono ?_
      rintro e w1 ⟨rfl, ⟨hl1, ht1⟩, haw1⟩
      have HAW1 : Hid (∀ b, b < w.heap.size → AwayL w p g b → NotIn a0 e0.deps b → AwayL w1 p (applyG gk ⟨⟨o, s, dp, ct, ep, sk, qt, cl⟩, ao1, cap1⟩) b) := fun b hb h1 h2 => haw1 b (Nat.lt_of_lt_of_le hb HG.out.turn.size) (HAG.out b hb h1 h2).1 (HAG.out b hb h1 h2).2
      have HL1 := hid hl1
      have HT1 := hid ht1
      have hb1 := ht1.blk HBX.out HPF.out
      have HKX1 := hid (HG.out.keep.noInt HG.out.log.noInt ht1)
      have HRW1 := hid (HG.out.row.noInt HG.out.log.noInt ht1 (fun i hi => (HVF.out i hi).1))
      have HBX1 := hid hb1
      clear t0 t1 t2 t3 t4 t5 t6 t7 hl1 ht1 HAP HBX haw1
      have HTD := hid (toldL_any w1 ⟨⟨o, s, dp, ct, ep, sk, qt, cl⟩, ao1, cap1⟩ HKX1.out.ok)
      simp only [EvM.val] at HTD
      rw [HXN.out] at HTD
      have t0 := hb1.cell (i := 0) rfl
      have t1 := hb1.cell (i := 1) rfl
      have t2 := hb1.cell (i := 2) rfl
      have t3 := hb1.cell (i := 3) rfl
      have t4 := hb1.cell (i := 4) rfl
      have t5 := hb1.cell (i := 5) rfl
      have t6 := hb1.cell (i := 6) rfl
      have t7 := hb1.cell (i := 7) rfl
      clear hb1
      go_wp2_with fail
      refine HTD.out.mono ?_
      rintro e w2 ⟨⟨ye, bo, cp⟩, rfl, hye, hyk, hbo2, hb2⟩
      have HFR : Hid (∀ y ∈ ys ++ [(⟨⟨o, s, dp, ct, ep, sk, qt, cl⟩, bo, cp⟩ : EvM)], ∀ b, b < w.heap.size → NotIn y.ao y.e.deps b) := fun y hy b hb => by
        rcases List.mem_append.1 hy with hy | hy
        · exact HG.out.fresh y hy b hb
        · rw [List.mem_singleton.1 hy]
          intro _ off e
          have h1 := hbo2 b off e
          have h2 := HT1.out.size
          have h3 := HG.out.turn.size
          omega
      obtain rfl : ye = ⟨o, s, dp, ct, ep, sk, qt, cl⟩ := hye
      have HYK := hid hyk
      have HL2 := hid (HL1.out.below hb2)
      have HRW2 := hid (HRW1.out.below hb2)
      have HBX2 := hid (HBX1.out.below hb2 HBX1.out.lt)
      have HPC2 : Hid (w2.cell? ⟨p, 0, none⟩ = w1.cell? ⟨p, 0, none⟩) := hb2.cell (p := ⟨p, 0, none⟩) (HL1.out.lt p (.inl rfl))
      have HS2 : Hid (W.heap.size ≤ w2.heap.size) := Nat.le_trans HG.out.size (Nat.le_trans HT1.out.size hb2.size)
      have HT2 : Hid (Turns (FootL p me mw) w w2) := (HG.out.turn.trans HT1.out (fun i hi => .inl hi)).trans (Turns.of_below (F := fun _ => False) hb2 (Nat.le_refl _)) (fun _ h => h.elim)
      have HXC : Hid (∀ V : World, V.alloc (.cells #[.int .i64 o, .int .i64 s, .slice bo XN cp, .string ct, .int .i64 ep, .string sk, .int .i64 qt, .bool cl] 33) = V.alloc (.cells (EvM.cells ⟨⟨o, s, dp, ct, ep, sk, qt, cl⟩, bo, cp⟩).toArray 33)) := fun V => by
        simp only [EvM.cells]
        rw [HXN.out]
      have HSM : Hid (ys.length < 1466015503701) := by have := HLN.out; show _ < _; omega
      clear t0 t1 t2 t3 t4 t5 t6 t7 hyk hb2 hbo2 HTD
      simp only [EvM.val]
      rw [HXN.out]
      go_wp2_with (at_builtin; refine wpList_append_evL w2 _ ⟨⟨o, s, dp, ct, ep, sk, qt, cl⟩, bo, cp⟩ (HXC.out _) rfl _ _ rfl W.heap.size u5 ys rfl _ rfl rfl HRW2.out.row HS2.out HSM.out ?_; intro v' w3 hown3 hb3 hg3; have HO3 := hid hown3; have HB3 := hid hb3; have HG3 := hid hg3; clear hown3 hb3 hg3)
      have hba : Below w2.heap.size w2 (w2.alloc (.cells #[.int .i64 o, .int .i64 s, .slice bo XN cp, .string ct, .int .i64 ep, .string sk, .int .i64 qt, .bool cl] 33)) := (Below.refl _ _).alloc (Nat.le_refl _) _
      have hra := HRW2.out.below hba
      have HL3 := hid ((HL2.out.below hba).grown hra.row HG3.out)
      have HRW3 : Hid (RowE W.heap.size w3 v' (ys ++ [⟨⟨o, s, dp, ct, ep, sk, qt, cl⟩, bo, cp⟩])) := ⟨HO3.out, fun y hy => by
        rcases List.mem_append.1 hy with hy | hy
        · exact (hra.keep y hy).grown hra.row HG3.out
        · rw [List.mem_singleton.1 hy]
          exact (HYK.out.below hba).grown hra.row HG3.out⟩
      have HBX3 := hid (HBX2.out.below HB3.out HBB.out)
      have HT3 : Hid (Turns (FootL p me mw) w w3) := HT2.out.trans ((Turns.refl (fun i => W.heap.size ≤ i) w2).trans (⟨HB3.out.os, HB3.out.tape, HB3.out.output, HB3.out.size, fun k hk hn => HB3.out.block k (by omega)⟩ : Turns (fun i => W.heap.size ≤ i) w2 w3) (fun i hi => .inl hi)) (fun i hi => .inr (Nat.le_trans HB.out.size hi))
      have HPC3 : Hid (w3.cell? ⟨p, 0, none⟩ = w1.cell? ⟨p, 0, none⟩) := (HB3.out.cell (p := ⟨p, 0, none⟩) (Nat.lt_of_lt_of_le HPL.out HB.out.size)).trans HPC2.out
      have HS3 : Hid (W.heap.size ≤ w3.heap.size) := Nat.le_trans HS2.out HB3.out.size
      clear hba hra
      have HTR := hid (takeReady_any HL3.out)
      refine HTR.out.mono ?_
      have HLU : Hid (lenV u5 = ys.length) := by
        obtain ⟨o5, c5, hu5⟩ := own_slice' HG.out.row.row
        rw [hu5]
        rfl
      have HLV : Hid (lenV v' = ys.length + 1) := by
        obtain ⟨o5, c5, hu5⟩ := own_slice' HO3.out
        rw [hu5, List.length_append]
        rfl
      have HMP : Hid ((ys ++ [(⟨⟨o, s, dp, ct, ep, sk, qt, cl⟩, bo, cp⟩ : EvM)]).map (·.e) = ys.map (·.e) ++ [⟨o, s, dp, ct, ep, sk, qt, cl⟩]) := by
        show _ = _
        rw [List.map_append]
        rfl
      have HVB : Hid (∀ i, v'.ownBlock = some i → ¬ FootL p me mw i ∧ i ≠ pb) := fun i hi => by
        have h1 := (HO3.out.lt i hi).1
        have h2 := HBB.out
        exact ⟨fun hf => by have := HPW.out i hf; have := HPP.out; omega, by omega⟩
      rintro e w4 (⟨rfl, hst, hb4⟩ | ⟨x', rfl, ⟨hne, hls⟩, hnw, hWx, hrdy, hkx, ⟨hl4, ht4⟩, haw4⟩)
      · have HSTU := hid hst
        have hk4 := HBX3.out.below hb4 HBX3.out.lt
        have HL4 := hid (HL3.out.below hb4)
        have HRW4 := hid (HRW3.out.below hb4)
        have HT4 : Hid (Turns (FootL p me mw) w w4) := HT3.out.trans (Turns.of_below (F := fun _ => False) hb4 (Nat.le_refl _)) (fun _ h => h.elim)
        obtain ⟨W5, hW5⟩ : ∃ V, V = st8 w4 pb (.int .i64 0) (.int .i64 0) (.slice none 0 0) (.string ⟨#[]⟩) (.int .i64 0) (.string ⟨#[]⟩) (.int .i64 0) (.bool false) := ⟨_, rfl⟩
        have hT5 : Turns (fun i => i = pb) w4 W5 := by rw [hW5]; exact st8_turns _ _ _ _ _ _ _ _ _ _
        have HEN : Hid (Ended w p me mw W.heap.size g e0 a0 v' (ys ++ [⟨⟨o, s, dp, ct, ep, sk, qt, cl⟩, bo, cp⟩]) (applyG gk ⟨⟨o, s, dp, ct, ep, sk, qt, cl⟩, ao1, cap1⟩) W5) :=
          ⟨HL4.out.onEvs hk4 hT5, HRW4.out.onEvs hk4 hT5 (fun i hi => (HVB.out i hi).2), HT4.out.trans hT5 (fun i hi => .inr (by rw [hi, HPP.out]; exact Nat.le_refl _)), by rw [HMP.out]; exact HRN.out, by rw [HMP.out]; exact HG.out.first, HSTU.out, fun b hb h1 h2 => ((HAW1.out b hb h1 h2).of_cell (((hb4.cell (p := ⟨p, 0, none⟩) (HL3.out.lt p (.inl rfl))).trans HPC3.out))).of_cell (cell_block (hT5.block p (HL4.out.lt p (.inl rfl)) (fun e => HPF.out (by rw [← e]; exact .inl rfl)))), HFR.out⟩
        have t0 := hk4.cell (i := 0) rfl
        have t1 := hk4.cell (i := 1) rfl
        have t2 := hk4.cell (i := 2) rfl
        have t3 := hk4.cell (i := 3) rfl
        have t4 := hk4.cell (i := 4) rfl
        have t5 := hk4.cell (i := 5) rfl
        have t6 := hk4.cell (i := 6) rfl
        have t7 := hk4.cell (i := 7) rfl
        have f0 := hk4.frozen 0
        have f1 := hk4.frozen 1
        have f2 := hk4.frozen 2
        have f3 := hk4.frozen 3
        have f4 := hk4.frozen 4
        have f5 := hk4.frozen 5
        have f6 := hk4.frozen 6
        have f7 := hk4.frozen 7
        unfold st8 at hW5
        unfold zeroV
        clear hst hb4 hk4 hT5 HTR
        go_wp2
        rw [← hW5]
        go_roundw
        case rel => exact ⟨false, _, zeroEM, _, rfl, fun h => (by cases h), fun _ => HEN.out⟩
        case measure =>
          have h1 := HLU.out
          have h2 := HLV.out
          have h3 := HLN.out
          simp [h1, h2]
          omega
      · have hk4 := ht4.blk HBX3.out HPF.out
        have HRW4 := hid (HRW3.out.noInt HL3.out.noInt ht4 (fun i hi => (HVB.out i hi).1))
        have HT4 : Hid (Turns (FootL p me mw) w w4) := HT3.out.trans ht4 (fun i hi => .inl hi)
        have HS4 : Hid (W.heap.size ≤ w4.heap.size) := Nat.le_trans HS3.out ht4.size
        have HMY := hid (HL3.out.wait _ _ _ hWx).1
        have HHD := hid (HRN.out.take (by simp) hWx hnw hls)
        have HKX4 := hid hkx
        have HL4 := hid hl4
        have HAW4 := hid haw4
        have HRD4 := hid hrdy
        have HNE4 := hid hne
        clear hkx hl4 hrdy hne hnw hWx ht4 hls haw4
        obtain ⟨⟨o2, s2, dp2, ct2, ep2, sk2, qt2, cl2⟩, ao2, cap2⟩ := x'
        obtain ⟨XM, HXM⟩ : ∃ m, Hid (dp2.length = m) := ⟨_, hid rfl⟩
        obtain ⟨W5, hW5⟩ : ∃ V, V = st8 w4 pb (.int .i64 o2) (.int .i64 s2) (.slice ao2 XM cap2) (.string ct2) (.int .i64 ep2) (.string sk2) (.int .i64 qt2) (.bool cl2) := ⟨_, rfl⟩
        have hT5 : Turns (fun i => i = pb) w4 W5 := by rw [hW5]; exact st8_turns _ _ _ _ _ _ _ _ _ _
        have hk5 : Blk W5 pb 33 (EvM.cells ⟨⟨o2, s2, dp2, ct2, ep2, sk2, qt2, cl2⟩, ao2, cap2⟩) := by
          rw [hW5]
          simp only [EvM.cells]
          rw [HXM.out]
          exact st8_blk hk4 _ _ _ _ _ _ _ _
        have HGN : Hid (GoesOn w p me mw pb W.heap.size g e0 a0 v' (ys ++ [⟨⟨o, s, dp, ct, ep, sk, qt, cl⟩, bo, cp⟩]) ⟨⟨o2, s2, dp2, ct2, ep2, sk2, qt2, cl2⟩, ao2, cap2⟩ (lessW (applyG gk ⟨⟨o, s, dp, ct, ep, sk, qt, cl⟩, ao1, cap1⟩) o2 s2) W5) :=
          ⟨HL4.out.onEvs hk4 hT5, HRW4.out.onEvs hk4 hT5 (fun i hi => (HVB.out i hi).2), hk5, HT4.out.trans hT5 (fun i hi => .inr (by rw [hi, HPP.out]; exact Nat.le_refl _)), Nat.le_trans HS4.out hT5.size, by rw [HMP.out]; exact HHD.out, by rw [HMP.out]; exact snoc_first HG.out.first _, HKX4.out.onEvs hk4 hT5, HMY.out, HRD4.out, updD_same _ _ _ _, HNE4.out, fun b hb h1 h2 => by
            have h3 := HAW4.out b (Nat.lt_of_lt_of_le hb (Nat.le_trans HB.out.size HS3.out)) ((HAW1.out b hb h1 h2).of_cell HPC3.out)
            exact ⟨h3.1.of_cell (cell_block (hT5.block p (HL4.out.lt p (.inl rfl)) (fun e => HPF.out (by rw [← e]; exact .inl rfl)))), h3.2⟩, HFR.out⟩
        have t0 := hk4.cell (i := 0) rfl
        have t1 := hk4.cell (i := 1) rfl
        have t2 := hk4.cell (i := 2) rfl
        have t3 := hk4.cell (i := 3) rfl
        have t4 := hk4.cell (i := 4) rfl
        have t5 := hk4.cell (i := 5) rfl
        have t6 := hk4.cell (i := 6) rfl
        have t7 := hk4.cell (i := 7) rfl
        have f0 := hk4.frozen 0
        have f1 := hk4.frozen 1
        have f2 := hk4.frozen 2
        have f3 := hk4.frozen 3
        have f4 := hk4.frozen 4
        have f5 := hk4.frozen 5
        have f6 := hk4.frozen 6
        have f7 := hk4.frozen 7
        unfold st8 at hW5
        simp only [EvM.val]
        rw [HXM.out]
        clear hk4 hT5 hk5 HTR
        go_wp2
        rw [← hW5]
        go_roundw
        case rel => exact ⟨true, _, _, _, rfl, fun _ => HGN.out, fun h => by cases h⟩
        case measure =>
          have h1 := HLU.out
          have h2 := HLV.out
          have h3 := HLN.out
          simp [h1, h2]
          omega
end Go.Proofs.YtjlompnjhmbhhaaGreat
