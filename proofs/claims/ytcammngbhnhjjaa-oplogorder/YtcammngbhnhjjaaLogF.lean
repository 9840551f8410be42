/-
  Package oplog: takeReady.
-/
import Derived.Test.YtcammngbhnhjjaaLogE
namespace Go.Proofs.Ytcammngbhnhjjaa
open Go.RowKit Go.Maps

/-- The log without what waited at a dot. -/
def lessW (g : Lg) (o s : Int) : Lg := ⟨g.A, g.E, updD g.W o s none, g.ne, g.nw - 1⟩
/-- Nothing that waits is ready. -/
def StuckG (g : Lg) : Prop := 65536 ≤ g.ne ∨ ∀ o s x, g.W o s = some x → ¬ ReadyE g.A x.e
/-- What takeReady leaves. -/
def TakenP (w : World) (p me mw : Nat) (g : Lg) (e : Ending) (w' : World) : Prop :=
  (e = .returned (.tuple #[zeroV, .bool false]) ∧ StuckG g ∧ Below w.heap.size w w') ∨
  ∃ x : EvM, e = .returned (.tuple #[x.val, .bool true]) ∧ g.ne < 65536 ∧ 1 ≤ g.nw ∧ g.W x.e.o x.e.s = some x ∧ ReadyE g.A x.e ∧ EvKeep w' x ∧ AtG w p me mw (lessW g x.e.o x.e.s) w'
theorem less_at {W w6 : World} {p me mw : Nat} {g : Lg} {o s : Int} (h : LogAt W p me mw g) {D2 : DataW Value} (wm : EvMap w6 mw (updD g.W o s none) (g.nw - 1) D2) (ht : Turns (fun i => i = mw) W w6) : LogAt w6 p me mw (lessW g o s) := by
  obtain ⟨ao, cap, h1, h2, h2'⟩ := h.blk
  obtain ⟨De, h3⟩ := h.em
  obtain ⟨Dw, h4⟩ := h.wm
  have hni := noInt_map h4.map
  refine ⟨⟨ao, cap, ht.blk h1 h.pne.2, h2.noInt hni ht, h2'.stay h2.held ht (noInt_off h2.held hni)⟩, h.apart, h.may, ⟨De, h3.turned ht h.apart hni⟩, ⟨D2, wm⟩, h.has, h.evs, fun o' s' y hy => ?_, h.fewE, ?_⟩
  · have hy' : updD g.W o s none o' s' = some y := hy
    by_cases e : o' = o ∧ s' = s
    · obtain ⟨rfl, rfl⟩ := e
      rw [updD_same] at hy'
      cases hy'
    · rw [updD_other _ _ e] at hy'
      exact h.wait o' s' y hy'
  · have := h.fewW
    show g.nw - 1 ≤ 4096
    omega
theorem less_end {w w6 W3 : World} {p me mw r : Nat} {g : Lg} {o s : Int} (h : LogAt w p me mw g) {D : DataW Value} (wm : EvMap w6 mw (updD g.W o s none) (g.nw - 1) D) (T6 : Turns (fun i => i = mw) w w6) (T3 : Turns (fun i => i = r) w6 W3) (hr : w.heap.size ≤ r) : AtG w p me mw (lessW g o s) W3 := by
  have T : Turns (fun i => i = mw) w W3 := T6.trans T3 (fun i hi => .inr (by rw [hi]; exact hr))
  have hmw := h.lt mw (.inr (.inr rfl))
  obtain ⟨Dw, h4⟩ := h.wm
  have hni := noInt_map h4.map
  refine ⟨less_at h (D2 := D) ⟨T3.map wm.map (fun e => by omega), wm.key, fun o' s' y hy => ?_, wm.cnt⟩ T, T.mono (fun i hi => .inr (.inr hi))⟩
  have hy' := hy
  by_cases e : o' = o ∧ s' = s
  · obtain ⟨rfl, rfl⟩ := e
    rw [updD_same] at hy'
    cases hy'
  · rw [updD_other _ _ e] at hy'
    have := h4.ok o' s' y hy'
    exact ⟨this.1.noInt hni T, this.2⟩
theorem ready_of {g : Lg} {w : World} {p me mw : Nat} (h : LogAt w p me mw g) (hs : ∀ o : Nat, o < 7 → ∀ x, g.W (o : Int) (ofV g.A o + 1) = some x → ¬ BelowV x.e.deps g.A) : StuckG g := by
  refine .inr fun o s x hx hr => ?_
  obtain ⟨Dw, hw⟩ := h.wm
  obtain ⟨_, ho, hs'⟩ := hw.ok o s x hx
  have hf := rightEv_iff (h.wait o s x hx).1.1
  have h0 := hf.o
  have e1 : ((o.toNat : Nat) : Int) = o := by omega
  refine hs o.toNat (by omega) x ?_ hr.2
  rw [e1]
  have := hr.1
  rw [ho, hs'] at this
  rw [← this]
  exact hx
set_option maxRecDepth 200000 in
set_option maxHeartbeats 4000000 in
theorem takeReady_any {w : World} {p me mw : Nat} {g : Lg} (h : LogAt w p me mw g) : Calls Try.prog 38 #[.pointer (some ⟨p, 0, none⟩)] w (TakenP w p me mw g) := by
  obtain ⟨W, hW⟩ : ∃ W, W = w.alloc (.cells #[.int .i64 0, .int .i64 0, .slice none 0 0, .string ⟨#[]⟩, .int .i64 0, .string ⟨#[]⟩, .int .i64 0, .bool false] 33) := ⟨_, rfl⟩
  have HB : Hid (Below w.heap.size w W) := by rw [hW]; exact (Below.refl _ _).alloc (Nat.le_refl _) _
  have HK : Hid (Blk W w.heap.size 33 [.int .i64 0, .int .i64 0, .slice none 0 0, .string ⟨#[]⟩, .int .i64 0, .string ⟨#[]⟩, .int .i64 0, .bool false]) := by rw [hW]; exact Blk.new w _ _
  have HL := hid (h.below HB.out)
  have HW := hid hW
  have HPW : Hid (∀ i, FootL p me mw i → i < w.heap.size) := h.lt
  have HH := hid h
  have HFU := hid (fullL_any HL.out)
  obtain ⟨r, hr⟩ : ∃ r, r = w.heap.size := ⟨_, rfl⟩
  have HRR := hid hr
  rw [← hr] at HK
  have k0 := HK.out.cell (i := 0) rfl
  have k1 := HK.out.cell (i := 1) rfl
  have k2 := HK.out.cell (i := 2) rfl
  have k3 := HK.out.cell (i := 3) rfl
  have k4 := HK.out.cell (i := 4) rfl
  have k5 := HK.out.cell (i := 5) rfl
  have k6 := HK.out.cell (i := 6) rfl
  have k7 := HK.out.cell (i := 7) rfl
  have f0 := HK.out.frozen 0
  have f1 := HK.out.frozen 1
  have f2 := HK.out.frozen 2
  have f3 := HK.out.frozen 3
  have f4 := HK.out.frozen 4
  have f5 := HK.out.frozen 5
  have f6 := HK.out.frozen 6
  have f7 := HK.out.frozen 7
  clear hW h hr
  by_cases hfull : 65536 ≤ g.ne
  · rw [decide_eq_true hfull] at HFU
    have HST : Hid (StuckG g) := .inl hfull
    obtain ⟨W3, hW3⟩ : ∃ V, V = st8 W r (.int .i64 0) (.int .i64 0) (.slice none 0 0) (.string ⟨#[]⟩) (.int .i64 0) (.string ⟨#[]⟩) (.int .i64 0) (.bool false) := ⟨_, rfl⟩
    have hk9 : Blk W3 r 33 [.int .i64 0, .int .i64 0, .slice none 0 0, .string ⟨#[]⟩, .int .i64 0, .string ⟨#[]⟩, .int .i64 0, .bool false] := by rw [hW3]; exact st8_blk HK.out _ _ _ _ _ _ _ _
    have HBF : Hid (Below w.heap.size w W3) := by rw [hW3]; exact HB.out.trans ((st8_turns _ _ _ _ _ _ _ _ _ _).below (fun i hi => by rw [hi, HRR.out]; exact Nat.le_refl _) HB.out.size)
    have q0 := hk9.cell (i := 0) rfl
    have q1 := hk9.cell (i := 1) rfl
    have q2 := hk9.cell (i := 2) rfl
    have q3 := hk9.cell (i := 3) rfl
    have q4 := hk9.cell (i := 4) rfl
    have q5 := hk9.cell (i := 5) rfl
    have q6 := hk9.cell (i := 6) rfl
    have q7 := hk9.cell (i := 7) rfl
    unfold st8 at hW3
    clear hfull hk9
    go_enter Try.func38, Try.ntmps38
    go_wp2_with fail
    rw [← HW.out, ← HRR.out]
    refine HFU.out.mono ?_
    rintro e w' ⟨rfl, rfl⟩
    go_wp2
    rw [← hW3]
    (try simp only [Exit.inBlock, Exit.then])
    refine bodyPost_ret (v := .tuple #[zeroV, .bool false]) ?_ rfl (.inl ⟨rfl, HST.out, HBF.out⟩)
    rw [results_cell_tmp rfl]
    unfold zeroV
    go_simp
  rw [decide_eq_false hfull] at HFU
  have HNF : Hid (g.ne < 65536) := by show _ < _; omega
  clear hfull
  go_enter Try.func38, Try.ntmps38
  go_wp2_with fail
  rw [← HW.out, ← HRR.out]
  refine HFU.out.mono ?_
  rintro e w' ⟨rfl, rfl⟩
  clear k0 k1 k2 k3 k4 k5 k6 k7 f0 f1 f2 f3 f4 f5 f6 f7
  go_wp2
  go_loopw [4, 5, 6, 7, 11] (fun _ _ _ _ i wr => ∃ k : Nat, k ≤ 7 ∧ i = .int .i64 k ∧ Hid ((∀ o : Nat, o < k → ∀ x, g.W (o : Int) (ofV g.A o + 1) = some x → ¬ BelowV x.e.deps g.A) ∧ Below w'.heap.size w' wr)) (fun _ _ _ _ i _ => 7 - (intOf i).toNat)
  case atStart => exact ⟨0, by omega, rfl, fun o ho => absurd ho (Nat.not_lt_zero _), Below.refl _ _⟩
  case round =>
    obtain ⟨k, hk, rfl, HR⟩ := hrel
    by_cases hlt : k < 7
    · have hlt' : (k : Int) < 7 := by omega
      have HLr := hid (HL.out.below HR.out.2)
      have HNX := hid (nextL_any HLr.out (k : Int))
      have HKM : Hid (k + 1 ≤ 7) := (by omega : k + 1 ≤ 7)
      have hz := ofV_may HL.out.may (k : Int)
      obtain ⟨z, HZ⟩ : ∃ z, Hid (ofV g.A (k : Int) = z) := ⟨_, hid rfl⟩
      rw [HZ.out] at HNX hz
      have HI1 : Hid (I64 (k : Int) ∧ I64 (z + 1)) := by constructor <;> (unfold I64; omega)
      clear hz
      go_wp2_with fail
      refine HNX.out.mono ?_
      rintro e w2 ⟨rfl, hb2⟩
      have HB2 : Hid (Below w'.heap.size w' w2) := bt HR.out.2 hb2
      clear hb2 HNX
      obtain ⟨V, hV⟩ : ∃ V, V = w2.alloc (.cells #[.int .i64 (k : Int), .int .i64 (z + 1)] 31) := ⟨_, rfl⟩
      have HBV : Hid (Below w'.heap.size w' V) := by rw [hV]; exact HB2.out.alloc HB2.out.size _
      have HKV : Hid (Blk V w2.heap.size 31 [.int .i64 (k : Int), .int .i64 (z + 1)]) := by rw [hV]; exact Blk.new w2 _ _
      have HLV := hid (HL.out.below HBV.out)
      obtain ⟨ao, cap, hv, _, _, c2⟩ := HLV.out.cells
      obtain ⟨D, hD⟩ := HLV.out.wm
      have HLK : Hid (∀ U, Sc V U → (Instr.lookup 50 (.map (some mw)) (.agg #[.int .i64 (k : Int), .int .i64 (z + 1)]) true).run Try.prog U = .ok (.tuple #[((g.W (k : Int) (z + 1)).map EvM.val).getD zeroV, .bool (g.W (k : Int) (z + 1)).isSome]) U) := fun U hU => (hD.below hU.out).look HI1.out.1 HI1.out.2
      have HPL := hid (HLV.out.lt p (.inl rfl))
      have HC2 := hid c2
      obtain ⟨pb, hpb⟩ : ∃ z, z = w2.heap.size := ⟨_, rfl⟩
      have HVW := hid hV
      have hpb' := hid hpb
      rw [← hpb] at HKV
      clear hV hv hD c2
      cases hWk : g.W (k : Int) (z + 1) with
      | none =>
        rw [hWk] at HLK
        have HNO : Hid (∀ o : Nat, o < k + 1 → ∀ x, g.W (o : Int) (ofV g.A o + 1) = some x → ¬ BelowV x.e.deps g.A) := fun o ho x hx => by
          by_cases e : o = k
          · subst e
            rw [HZ.out, hWk] at hx
            cases hx
          · exact HR.out.1 o (by omega) x hx
        simp only [Option.map_none, Option.getD_none, zeroV, Option.isSome_none] at HLK
        clear hWk
        have HSA : Hid (∀ U, Sc V U → (Sc V U ∧ U.cell? ⟨pb, 0, none⟩ = some (.int .i64 (k : Int)) ∧ U.cell? ⟨pb, 1, none⟩ = some (.int .i64 (z + 1)) ∧ U.cell? ⟨p, 2, none⟩ = some (.map (some mw)) ∧ (Instr.lookup 50 (.map (some mw)) (.agg #[.int .i64 (k : Int), .int .i64 (z + 1)]) true).run Try.prog U = .ok (.tuple #[.agg #[.int .i64 0, .int .i64 0, .slice none 0 0, .string ⟨#[]⟩, .int .i64 0, .string ⟨#[]⟩, .int .i64 0, .bool false], .bool false]) U)) := fun U hU => by
          have hb := HKV.out.below hU.out HKV.out.lt
          exact ⟨hU, hb.cell rfl, hb.cell rfl, (hU.out.cell (p := ⟨p, 2, none⟩) HPL.out).trans HC2.out, HLK.out U hU⟩
        go_wp2
        rw [← HVW.out, ← hpb]
        clear hpb
        go_region_held3 (fun U => Sc V U ∧ U.cell? ⟨pb, 0, none⟩ = some (.int .i64 (k : Int)) ∧ U.cell? ⟨pb, 1, none⟩ = some (.int .i64 (z + 1)) ∧ U.cell? ⟨p, 2, none⟩ = some (.map (some mw)) ∧ (Instr.lookup 50 (.map (some mw)) (.agg #[.int .i64 (k : Int), .int .i64 (z + 1)]) true).run Try.prog U = .ok (.tuple #[.agg #[.int .i64 0, .int .i64 0, .slice none 0 0, .string ⟨#[]⟩, .int .i64 0, .string ⟨#[]⟩, .int .i64 0, .bool false], .bool false]) U)
          (first | (refine ⟨?_, ?_, ?_, ?_, ?_⟩ <;> assumption) | (refine HSA.out _ ?_; (repeat (first | assumption | exact Sc.start _ | apply Sc.dr | apply Sc.alloc | refine Sc.setCell ?_ (by first | exact Nat.le_refl _ | (simp; done) | (simp; omega)) _)))) (fail)
        all_goals
          rename_i hHeld
          have HSC := hid (bt HBV.out hHeld.1.out)
          clear hHeld
          go_wp2
          go_roundw
          case rel => exact ⟨k + 1, HKM.out, by go_num, HNO.out, HSC.out⟩
          case measure => simp [intOf]; have := HKM.out; omega
      | some x =>
        rw [hWk] at HLK
        have HWK := hid hWk
        obtain ⟨Dw, hDw⟩ := HLV.out.wm
        obtain ⟨hxo, hx1, hx2⟩ := hDw.ok _ _ _ hWk
        have HXO := hid hxo
        have HX12 : Hid (x.e.o = (k : Int) ∧ x.e.s = z + 1) := ⟨hx1, hx2⟩
        clear hWk hDw hxo hx1 hx2
        have HRD := hid (fun U (hU : Sc V U) => readyL_any (HLV.out.below hU.out) x (HXO.out.below hU.out).ok)
        have HRE : Hid (ReadyE g.A x.e ↔ BelowV x.e.deps g.A) := ⟨fun h => h.2, fun h => ⟨by rw [HX12.out.1, HX12.out.2, HZ.out], h⟩⟩
        have HDEL := hid (fun U (hU : Sc V U) => (by
          obtain ⟨Dw, hDw⟩ := HLV.out.wm
          obtain ⟨w6, h1, ⟨D6, h2⟩, h3, h4⟩ := (hDw.below hU.out).del HI1.out.1 HI1.out.2 HWK.out 0
          exact ⟨w6, h1, ⟨⟨D6, h2⟩, h3⟩, h4⟩ : ∃ w6, (Builtin.delete_ #[50, 31] 0 #[.map (some mw), .agg #[.int .i64 (k : Int), .int .i64 (z + 1)]]).run Try.prog U = .ok (.tuple #[]) w6 ∧ Hid ((∃ D6, EvMap w6 mw (updD g.W (k : Int) (z + 1) none) (g.nw - 1) D6) ∧ 1 ≤ g.nw) ∧ Turns (fun i => i = mw) U w6))
        obtain ⟨⟨o, s, dp, ct, ep, sk, qt, cl⟩, ao1, cap1⟩ := x
        obtain ⟨XN, HXN⟩ : ∃ m, Hid (dp.length = m) := ⟨_, hid rfl⟩
        simp only [Option.map_some, Option.getD_some, EvM.val, Option.isSome_some] at HLK HRD
        rw [HXN.out] at HLK HRD
        have HNO : Hid (¬ BelowV dp g.A → ∀ o : Nat, o < k + 1 → ∀ x, g.W (o : Int) (ofV g.A o + 1) = some x → ¬ BelowV x.e.deps g.A) := fun hn o ho x hx => by
          by_cases e : o = k
          · subst e
            rw [HZ.out, HWK.out] at hx
            cases hx
            exact hn
          · exact HR.out.1 o (by omega) x hx
        have HSA : Hid (∀ U, Sc V U → (Sc V U ∧ U.cell? ⟨pb, 0, none⟩ = some (.int .i64 (k : Int)) ∧ U.cell? ⟨pb, 1, none⟩ = some (.int .i64 (z + 1)) ∧ U.cell? ⟨p, 2, none⟩ = some (.map (some mw)) ∧ (Instr.lookup 50 (.map (some mw)) (.agg #[.int .i64 (k : Int), .int .i64 (z + 1)]) true).run Try.prog U = .ok (.tuple #[.agg #[.int .i64 o, .int .i64 s, .slice ao1 XN cap1, .string ct, .int .i64 ep, .string sk, .int .i64 qt, .bool cl], .bool true]) U)) := fun U hU => by
          have hb := HKV.out.below hU.out HKV.out.lt
          exact ⟨hU, hb.cell rfl, hb.cell rfl, (hU.out.cell (p := ⟨p, 2, none⟩) HPL.out).trans HC2.out, HLK.out U hU⟩
        go_wp2
        rw [← HVW.out, ← hpb]
        clear hpb
        go_region_held3 (fun U => Sc V U ∧ U.cell? ⟨pb, 0, none⟩ = some (.int .i64 (k : Int)) ∧ U.cell? ⟨pb, 1, none⟩ = some (.int .i64 (z + 1)) ∧ U.cell? ⟨p, 2, none⟩ = some (.map (some mw)) ∧ (Instr.lookup 50 (.map (some mw)) (.agg #[.int .i64 (k : Int), .int .i64 (z + 1)]) true).run Try.prog U = .ok (.tuple #[.agg #[.int .i64 o, .int .i64 s, .slice ao1 XN cap1, .string ct, .int .i64 ep, .string sk, .int .i64 qt, .bool cl], .bool true]) U)
          (first | (refine ⟨?_, ?_, ?_, ?_, ?_⟩ <;> assumption) | (refine HSA.out _ ?_; (repeat (first | assumption | exact Sc.start _ | apply Sc.dr | apply Sc.alloc | refine Sc.setCell ?_ (by first | exact Nat.le_refl _ | (simp; done) | (simp; omega)) _)))) (fail)
        all_goals
          rename_i hHeld
          obtain ⟨hsc, e0, e1, e2, _⟩ := hHeld
          obtain ⟨U, hU⟩ : ∃ U, U = (V.alloc (.cells #[.int .i64 o, .int .i64 s, .slice ao1 XN cap1, .string ct, .int .i64 ep, .string sk, .int .i64 qt, .bool cl] 33)).drew := ⟨_, rfl⟩
          have hkU : Blk U V.heap.size 33 [.int .i64 o, .int .i64 s, .slice ao1 XN cap1, .string ct, .int .i64 ep, .string sk, .int .i64 qt, .bool cl] := by rw [hU]; exact (Blk.new V _ _).drew
          rw [← hU] at hsc e0 e1 e2 ⊢
          have HSC := hid hsc
          have HKU := hid hkU
          have t0 := hkU.cell (i := 0) rfl
          have t1 := hkU.cell (i := 1) rfl
          have t2 := hkU.cell (i := 2) rfl
          have t3 := hkU.cell (i := 3) rfl
          have t4 := hkU.cell (i := 4) rfl
          have t5 := hkU.cell (i := 5) rfl
          have t6 := hkU.cell (i := 6) rfl
          have t7 := hkU.cell (i := 7) rfl
          obtain ⟨pe, hpe⟩ : ∃ z, z = V.heap.size := ⟨_, rfl⟩
          rw [← hpe] at HKU t0 t1 t2 t3 t4 t5 t6 t7 ⊢
          have HPE := hid hpe
          have HE2 := hid e2
          have HE0 := hid e0
          have HE1 := hid e1
          clear hU hkU hsc hpe e0 e1 e2
          go_wp2_with fail
          refine (HRD.out _ HSC.out).mono ?_
          rintro e w5 ⟨rfl, hb5⟩
          have HS5 := hid (HSC.out.go hb5)
          have HB5 := hid hb5
          clear hb5 t0 t1 t2 t3 t4 t5 t6 t7
          by_cases hbl : BelowV dp g.A
          rotate_left 1
          · rw [decide_eq_false (fun h => hbl (HRE.out.1 h))]
            have HNN := hid (HNO.out hbl)
            clear hbl
            go_wp2
            go_roundw
            case rel => exact ⟨k + 1, HKM.out, by go_num, HNN.out, bt HBV.out HS5.out.out⟩
            case measure => simp [intOf]; have := HKM.out; omega
          rw [decide_eq_true (HRE.out.2 hbl)]
          have HRY := hid (HRE.out.2 hbl)
          clear hbl
          have c2 : w5.cell? ⟨p, 2, none⟩ = some (.map (some mw)) := (HB5.out.cell (p := ⟨p, 2, none⟩) (World.block_lt_of_cell? U _ HE2.out)).trans HE2.out
          have d0 : w5.cell? ⟨pb, 0, none⟩ = some (.int .i64 (k : Int)) := (HB5.out.cell (p := ⟨pb, 0, none⟩) (World.block_lt_of_cell? U _ HE0.out)).trans HE0.out
          have d1 : w5.cell? ⟨pb, 1, none⟩ = some (.int .i64 (z + 1)) := (HB5.out.cell (p := ⟨pb, 1, none⟩) (World.block_lt_of_cell? U _ HE1.out)).trans HE1.out
          obtain ⟨w6, hrun, HF6, ht6⟩ := HDEL.out w5.drew HS5.out.dr
          have hpm : p ≠ mw := HLV.out.pne.2
          have hmlt : mw < w'.heap.size := HL.out.lt mw (.inr (.inr rfl))
          have hbm : pb ≠ mw := fun e => by have := HB2.out.size; have := hpb'.out; omega
          have hsV := HBV.out.size
          have hem : pe ≠ mw := fun e => by have := HPE.out; omega
          have hrm : r ≠ mw := fun e => by have := HPW.out mw (.inr (.inr rfl)); have := HRR.out; omega
          have hp6 : w6.cell? ⟨p, 2, none⟩ = some (.map (some mw)) := by
            obtain ⟨_, _, hbb, _, _⟩ := (HLV.out.below HS5.out.dr.out).blk
            exact (ht6.blk hbb hpm).cell (i := 2) rfl
          have hkb6 := ht6.blk (show Blk w5.drew pb 31 _ from (HKV.out.below HS5.out.dr.out HKV.out.lt)) hbm
          have g0 := hkb6.cell (i := 0) rfl
          have g1 := hkb6.cell (i := 1) rfl
          have hke6 := ht6.blk (show Blk w5.drew pe 33 _ from (HKU.out.below (below_dr HB5.out) HKU.out.lt)) hem
          have hkr6 := ht6.blk (show Blk w5.drew r 33 _ from (HK.out.below (bt HBV.out HS5.out.dr.out) HK.out.lt)) hrm
          have HT6' := hid ht6
          have hkr6' := hkr6
          have HT6 : Hid (Turns (fun i => i = mw) w w6) := ((Turns.of_below (F := fun i => i = mw) (bt HB.out (bt HBV.out HS5.out.out)) (Nat.le_refl _)).drew).trans ht6 (fun i hi => .inl hi)
          have t0 := hke6.cell (i := 0) rfl
          have t1 := hke6.cell (i := 1) rfl
          have t2 := hke6.cell (i := 2) rfl
          have t3 := hke6.cell (i := 3) rfl
          have t4 := hke6.cell (i := 4) rfl
          have t5 := hke6.cell (i := 5) rfl
          have t6 := hke6.cell (i := 6) rfl
          have t7 := hke6.cell (i := 7) rfl
          have k0 := hkr6.cell (i := 0) rfl
          have k1 := hkr6.cell (i := 1) rfl
          have k2 := hkr6.cell (i := 2) rfl
          have k3 := hkr6.cell (i := 3) rfl
          have k4 := hkr6.cell (i := 4) rfl
          have k5 := hkr6.cell (i := 5) rfl
          have k6 := hkr6.cell (i := 6) rfl
          have k7 := hkr6.cell (i := 7) rfl
          have f0 := hkr6.frozen 0
          have f1 := hkr6.frozen 1
          have f2 := hkr6.frozen 2
          have f3 := hkr6.frozen 3
          have f4 := hkr6.frozen 4
          have f5 := hkr6.frozen 5
          have f6 := hkr6.frozen 6
          have f7 := hkr6.frozen 7
          obtain ⟨W3, hW3⟩ : ∃ V, V = st8 w6 r (.int .i64 o) (.int .i64 s) (.slice ao1 XN cap1) (.string ct) (.int .i64 ep) (.string sk) (.int .i64 qt) (.bool cl) := ⟨_, rfl⟩
          have hk9 : Blk W3 r 33 [.int .i64 o, .int .i64 s, .slice ao1 XN cap1, .string ct, .int .i64 ep, .string sk, .int .i64 qt, .bool cl] := by rw [hW3]; exact st8_blk hkr6 _ _ _ _ _ _ _ _
          have HAT : Hid (AtG w p me mw (lessW g (k : Int) (z + 1)) W3) := by
            obtain ⟨D6, hD6⟩ := HF6.out.1
            exact less_end HH.out hD6 HT6.out (by rw [hW3]; exact st8_turns _ _ _ _ _ _ _ _ _ _) (by rw [HRR.out]; exact Nat.le_refl _)
          have HKX : Hid (EvKeep W3 ⟨⟨o, s, dp, ct, ep, sk, qt, cl⟩, ao1, cap1⟩) := by
            obtain ⟨Dw, h4⟩ := HLV.out.wm
            have h5 := ((HXO.out.below HS5.out.dr.out).noInt (noInt_map ((h4.below HS5.out.dr.out).map)) HT6'.out).onEvs hkr6' (show Turns (fun i => i = r) w6 W3 by rw [hW3]; exact st8_turns _ _ _ _ _ _ _ _ _ _)
            exact h5
          have q0 := hk9.cell (i := 0) rfl
          have q1 := hk9.cell (i := 1) rfl
          have q2 := hk9.cell (i := 2) rfl
          have q3 := hk9.cell (i := 3) rfl
          have q4 := hk9.cell (i := 4) rfl
          have q5 := hk9.cell (i := 5) rfl
          have q6 := hk9.cell (i := 6) rfl
          have q7 := hk9.cell (i := 7) rfl
          unfold st8 at hW3
          clear ht6 hpm hmlt hbm hsV hem hrm hkb6 hke6 hkr6 hkr6' hk9
          go_wp2
          go_region_held3 (fun V => V.cell? ⟨p, 2, none⟩ = some (.map (some mw)) ∧ V.cell? ⟨pb, 0, none⟩ = some (.int .i64 (k : Int)) ∧ V.cell? ⟨pb, 1, none⟩ = some (.int .i64 (z + 1))) (first | (refine ⟨?_, ?_, ?_⟩ <;> assumption) | go_keep) (fail)
          clear hrun c2 d0 d1
          go_wp2
          rw [← hW3]
          (try simp only [Exit.inBlock, Exit.then])
          obtain ⟨ho, hs⟩ := HX12.out
          refine bodyPost_ret (v := .tuple #[.agg #[.int .i64 o, .int .i64 s, .slice ao1 XN cap1, .string ct, .int .i64 ep, .string sk, .int .i64 qt, .bool cl], .bool true]) ?_ rfl (.inr ⟨⟨⟨o, s, dp, ct, ep, sk, qt, cl⟩, ao1, cap1⟩, ?_, HNF.out, HF6.out.2, ?_, HRY.out, HKX.out, ?_⟩)
          · rw [results_cell_tmp rfl]
            go_simp
          · simp only [EvM.val]
            rw [HXN.out]
          · have h1 := HWK.out
            rw [← hs, ← ho] at h1
            exact h1
          · rw [ho, hs]
            exact HAT.out
    · have hlt' : ¬ (k : Int) < 7 := by omega
      have HST : Hid (StuckG g) := ready_of HL.out (fun o ho => HR.out.1 o (by omega))
      have hk3 := HK.out.below HR.out.2 HK.out.lt
      have k0 := hk3.cell (i := 0) rfl
      have k1 := hk3.cell (i := 1) rfl
      have k2 := hk3.cell (i := 2) rfl
      have k3 := hk3.cell (i := 3) rfl
      have k4 := hk3.cell (i := 4) rfl
      have k5 := hk3.cell (i := 5) rfl
      have k6 := hk3.cell (i := 6) rfl
      have k7 := hk3.cell (i := 7) rfl
      have f0 := hk3.frozen 0
      have f1 := hk3.frozen 1
      have f2 := hk3.frozen 2
      have f3 := hk3.frozen 3
      have f4 := hk3.frozen 4
      have f5 := hk3.frozen 5
      have f6 := hk3.frozen 6
      have f7 := hk3.frozen 7
      obtain ⟨W3, hW3⟩ : ∃ V, V = st8 wr r (.int .i64 0) (.int .i64 0) (.slice none 0 0) (.string ⟨#[]⟩) (.int .i64 0) (.string ⟨#[]⟩) (.int .i64 0) (.bool false) := ⟨_, rfl⟩
      have hk9 : Blk W3 r 33 [.int .i64 0, .int .i64 0, .slice none 0 0, .string ⟨#[]⟩, .int .i64 0, .string ⟨#[]⟩, .int .i64 0, .bool false] := by rw [hW3]; exact st8_blk hk3 _ _ _ _ _ _ _ _
      have hbr := bt HB.out HR.out.2
      have HBF : Hid (Below w.heap.size w W3) := by rw [hW3]; exact hbr.trans ((st8_turns _ _ _ _ _ _ _ _ _ _).below (fun i hi => by rw [hi, HRR.out]; exact Nat.le_refl _) hbr.size)
      have q0 := hk9.cell (i := 0) rfl
      have q1 := hk9.cell (i := 1) rfl
      have q2 := hk9.cell (i := 2) rfl
      have q3 := hk9.cell (i := 3) rfl
      have q4 := hk9.cell (i := 4) rfl
      have q5 := hk9.cell (i := 5) rfl
      have q6 := hk9.cell (i := 6) rfl
      have q7 := hk9.cell (i := 7) rfl
      unfold st8 at hW3
      clear hk9 hk3 hbr
      go_wp2
      rw [← hW3]
      (try simp only [Exit.inBlock, Exit.then])
      refine bodyPost_ret (v := .tuple #[zeroV, .bool false]) ?_ rfl (.inl ⟨rfl, HST.out, HBF.out⟩)
      rw [results_cell_tmp rfl]
      unfold zeroV
      go_simp
end Go.Proofs.Ytcammngbhnhjjaa
