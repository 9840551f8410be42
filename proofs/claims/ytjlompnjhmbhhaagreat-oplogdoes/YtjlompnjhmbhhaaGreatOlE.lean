/-
  Package oplog: Put.
-/
import Derived.Test.YtjlompnjhmbhhaaGreatLogH
namespace Go.Proofs.YtjlompnjhmbhhaaGreat
open Go.RowKit Go.Maps

/-- The log with one more that waits. -/
def waitG (g : Lg) (x : EvM) : Lg := ⟨g.A, g.E, updD g.W x.e.o x.e.s (some x), g.ne, g.nw + 1⟩
/-- What Put leaves: ErrEvent, ErrTwice, ErrFull change nothing; else the event is applied, with what waited for it, or it waits. -/
inductive PutP (w : World) (p me mw : Nat) (g : Lg) (x : Ev) : Ending → World → Prop
  | wrong {w'} : ¬ MayE x → Below w.heap.size w w' → PutP w p me mw g x (.returned (.tuple #[.slice none 0 0, .int .i64 100])) w'
  | twice {w'} : MayE x → ((g.W x.o x.s).isSome = true ∨ HasV g.A x.o x.s) → Below w.heap.size w w' → PutP w p me mw g x (.returned (.tuple #[.slice none 0 0, .int .i64 5])) w'
  | full {w'} : MayE x → g.W x.o x.s = none → ¬ HasV g.A x.o x.s → (65536 ≤ g.ne ∨ (¬ ReadyE g.A x ∧ 4096 ≤ g.nw)) → Below w.heap.size w w' → PutP w p me mw g x (.returned (.tuple #[.slice none 0 0, .int .i64 2])) w'
  | goes {w' v ys g'} : MayE x → g.W x.o x.s = none → ¬ HasV g.A x.o x.s → g.ne < 65536 → ReadyE g.A x → RowE w.heap.size w' v ys → (∃ r, ys.map (·.e) = x :: r) → RanG g (ys.map (·.e)) g' → StuckG g' → AtG w p me mw g' w' → PutP w p me mw g x (.returned (.tuple #[v, .int .i64 0])) w'
  | waits {w' y} : MayE x → g.W x.o x.s = none → ¬ HasV g.A x.o x.s → g.ne < 65536 → ¬ ReadyE g.A x → g.nw < 4096 → y.e = x → AtG w p me mw (waitG g y) w' → PutP w p me mw g x (.returned (.tuple #[.slice none 0 0, .int .i64 0])) w'
/-- .. and what the log keeps lies in new blocks or where it lay. -/
inductive PutP2 (w : World) (p me mw : Nat) (g : Lg) (x : Ev) : Ending → World → Prop
  | wrong {w'} : ¬ MayE x → Below w.heap.size w w' → PutP2 w p me mw g x (.returned (.tuple #[.slice none 0 0, .int .i64 100])) w'
  | twice {w'} : MayE x → ((g.W x.o x.s).isSome = true ∨ HasV g.A x.o x.s) → Below w.heap.size w w' → PutP2 w p me mw g x (.returned (.tuple #[.slice none 0 0, .int .i64 5])) w'
  | full {w'} : MayE x → g.W x.o x.s = none → ¬ HasV g.A x.o x.s → (65536 ≤ g.ne ∨ (¬ ReadyE g.A x ∧ 4096 ≤ g.nw)) → Below w.heap.size w w' → PutP2 w p me mw g x (.returned (.tuple #[.slice none 0 0, .int .i64 2])) w'
  | goes {w' v ys g'} : MayE x → g.W x.o x.s = none → ¬ HasV g.A x.o x.s → g.ne < 65536 → ReadyE g.A x → RowE w.heap.size w' v ys → (∃ r, ys.map (·.e) = x :: r) → RanG g (ys.map (·.e)) g' → StuckG g' → AtG w p me mw g' w' → (∀ b, b < w.heap.size → AwayL w p g b → AwayL w' p g' b) → (∀ y ∈ ys, ∀ b, b < w.heap.size → NotIn y.ao y.e.deps b) → PutP2 w p me mw g x (.returned (.tuple #[v, .int .i64 0])) w'
  | waits {w' y} : MayE x → g.W x.o x.s = none → ¬ HasV g.A x.o x.s → g.ne < 65536 → ¬ ReadyE g.A x → g.nw < 4096 → y.e = x → AtG w p me mw (waitG g y) w' → (∀ b, b < w.heap.size → AwayL w p g b → AwayL w' p (waitG g y) b) → PutP2 w p me mw g x (.returned (.tuple #[.slice none 0 0, .int .i64 0])) w'
theorem PutP2.toP {w w' : World} {p me mw : Nat} {g : Lg} {x : Ev} {e : Ending} (h : PutP2 w p me mw g x e w') : PutP w p me mw g x e w' := by
  cases h with
  | wrong a b => exact .wrong a b
  | twice a b c => exact .twice a b c
  | full a b c d e => exact .full a b c d e
  | goes a b c d e f g h i j _ _ => exact .goes a b c d e f g h i j
  | waits a b c d e f g h _ => exact .waits a b c d e f g h
theorem put_nil (w : World) (x : EvM) : Calls Tryz.prog 6 #[.pointer none, x.val] w fun e w' => e = .returned (.tuple #[.slice none 0 0, .int .i64 6]) ∧ Below w.heap.size w w' := by
  obtain ⟨⟨o, s, dp, ct, ep, sk, qt, cl⟩, ao1, cap1⟩ := x
  obtain ⟨XN, HXN⟩ : ∃ m, Hid (dp.length = m) := ⟨_, hid rfl⟩
  simp only [EvM.val]
  rw [HXN.out]
  have HB : Hid (Below w.heap.size w (w.alloc (.cells #[.int .i64 o, .int .i64 s, .slice ao1 XN cap1, .string ct, .int .i64 ep, .string sk, .int .i64 qt, .bool cl] 33))) := (Below.refl _ _).alloc (Nat.le_refl _) _
  go_enter Tryz.func6, Tryz.ntmps6
  go_wp2_with fail
  refine (closedL_nil _).mono ?_
  rintro e w' ⟨rfl, rfl⟩
  go_wp2
  go_ret2
  exact ⟨rfl, HB.out⟩
theorem wait_at {W w6 : World} {p me mw : Nat} {g : Lg} {x : EvM} (h : LogAt W p me mw g) (hm : MayE x.e) (hh : ¬ HasV g.A x.e.o x.e.s) (hn : g.nw < 4096) {D2 : DataW Value} (wm : EvMap w6 mw (updD g.W x.e.o x.e.s (some x)) (g.nw + 1) D2) (ht : Turns (fun i => i = mw) W w6) : LogAt w6 p me mw (waitG g x) := by
  obtain ⟨ao, cap, h1, h2, h2'⟩ := h.blk
  obtain ⟨De, h3⟩ := h.em
  obtain ⟨Dw, h4⟩ := h.wm
  have hni := noInt_map h4.map
  refine ⟨⟨ao, cap, ht.blk h1 h.pne.2, h2.noInt hni ht, h2'.stay h2.held ht (noInt_off h2.held hni)⟩, h.apart, h.may, ⟨De, h3.turned ht h.apart hni⟩, ⟨D2, wm⟩, h.has, h.evs, fun o' s' y hy => ?_, h.fewE, hn⟩
  have hy' : updD g.W x.e.o x.e.s (some x) o' s' = some y := hy
  by_cases e : o' = x.e.o ∧ s' = x.e.s
  · obtain ⟨rfl, rfl⟩ := e
    rw [updD_same] at hy'
    cases hy'
    exact ⟨hm, hh⟩
  · rw [updD_other _ _ e] at hy'
    exact h.wait o' s' y hy'
set_option maxRecDepth 200000 in
set_option maxHeartbeats 4000000 in
theorem put_any2 {w : World} {p me mw : Nat} {g : Lg} (h : LogAt w p me mw g) (x : EvM) (hx : EvOk w x) : Calls Tryz.prog 6 #[.pointer (some ⟨p, 0, none⟩), x.val] w (PutP2 w p me mw g x.e) := by
  obtain ⟨W, hW⟩ : ∃ W, W = w.alloc (.cells x.cells.toArray 33) := ⟨_, rfl⟩
  have HB : Hid (Below w.heap.size w W) := by rw [hW]; exact (Below.refl _ _).alloc (Nat.le_refl _) _
  have HK : Hid (Blk W w.heap.size 33 x.cells) := by rw [hW]; exact Blk.new w _ _
  obtain ⟨pb, hpb⟩ : ∃ q, q = w.heap.size := ⟨_, rfl⟩
  rw [← hpb] at HK
  have HPP := hid hpb
  have HPW : Hid (∀ i, FootL p me mw i → i < w.heap.size) := h.lt
  have HH := hid h
  have HL := hid (h.below HB.out)
  have HOX := hid (hx.below HB.out)
  have HIO : Hid (I64 x.e.o ∧ I64 x.e.s) := ⟨hx.io, hx.is⟩
  have HCL := hid (closedL_no HL.out)
  have HMY := hid (mayL_any W x HOX.out)
  have HKN := hid (fun V (hV : Below W.heap.size W V) => knowsL_any (HL.out.below hV) x.e.o x.e.s HIO.out.1 HIO.out.2)
  have HFU := hid (fun V (hV : Below W.heap.size W V) => fullL_any (HL.out.below hV))
  have HRD := hid (fun V (hV : Below W.heap.size W V) => readyL_any (HL.out.below hV) x (HOX.out.below hV))
  have HW := hid hW
  obtain ⟨e0, he0⟩ : ∃ e, e = x.e := ⟨_, rfl⟩
  have HE0 := hid he0
  rw [← he0] at HMY HRD ⊢
  clear hW hx h hpb he0
  obtain ⟨⟨o, s, dp, ct, ep, sk, qt, cl⟩, ao1, cap1⟩ := x
  obtain ⟨XN, HXN⟩ : ∃ m, Hid (dp.length = m) := ⟨_, hid rfl⟩
  have HOWN := hid (fun V (hV : Below W.heap.size W V) (hc : ct.size ≤ 140737488355328) (hk : sk.size ≤ 140737488355328) => ownL_any V ⟨⟨o, s, dp, ct, ep, sk, qt, cl⟩, ao1, cap1⟩ (HOX.out.below hV) hc hk)
  simp only [EvM.val, EvM.cells] at HW HK HMY HKN HRD HOWN ⊢
  rw [HXN.out] at HW HK HMY HRD HOWN ⊢
  have HBX : Hid (∀ V, Below W.heap.size W V → Blk V pb 33 [.int .i64 o, .int .i64 s, .slice ao1 XN cap1, .string ct, .int .i64 ep, .string sk, .int .i64 qt, .bool cl]) := fun V hV => HK.out.below hV HK.out.lt
  go_enter Tryz.func6, Tryz.ntmps6
  go_wp2_with fail
  rw [← HW.out, ← HPP.out]
  refine HCL.out.mono ?_
  rintro e w' ⟨rfl, rfl⟩
  have t0 := HK.out.cell (i := 0) rfl
  have t1 := HK.out.cell (i := 1) rfl
  have t2 := HK.out.cell (i := 2) rfl
  have t3 := HK.out.cell (i := 3) rfl
  have t4 := HK.out.cell (i := 4) rfl
  have t5 := HK.out.cell (i := 5) rfl
  have t6 := HK.out.cell (i := 6) rfl
  have t7 := HK.out.cell (i := 7) rfl
  go_wp2_with fail
  refine HMY.out.mono ?_
  rintro e w1 ⟨rfl, hb1⟩
  have HB1 := hid hb1
  clear t0 t1 t2 t3 t4 t5 t6 t7 hb1
  by_cases hm : MayE e0
  rotate_left 1
  · rw [decide_eq_false hm]
    have HM := hid hm
    clear hm
    go_wp2
    go_ret2
    exact PutP2.wrong HM.out (bt HB.out HB1.out)
  rw [decide_eq_true hm]
  have HM := hid hm
  clear hm
  have HSZ : Hid (ct.size ≤ 140737488355328 ∧ sk.size ≤ 140737488355328) := by
    have hf := rightEv_iff HM.out.1
    rw [HE0.out] at hf
    have h1 := nameS_size hf.cart
    have h2 := nameS_size hf.sku
    dsimp only at h1 h2
    exact ⟨by omega, by omega⟩
  have t0 := (HBX.out _ HB1.out).cell (i := 0) rfl
  have t1 := (HBX.out _ HB1.out).cell (i := 1) rfl
  go_wp2_with fail
  refine (HKN.out _ HB1.out).mono ?_
  rintro e w2 ⟨rfl, hb2⟩
  have HB2 := hid (bt HB1.out hb2)
  clear t0 t1 hb2
  have HEQ : Hid (e0.o = o ∧ e0.s = s) := by rw [HE0.out]; exact ⟨rfl, rfl⟩
  cases hq : ((g.W o s).isSome || decide (HasV g.A o s)) with
  | true =>
    have HQ : Hid ((g.W e0.o e0.s).isSome = true ∨ HasV g.A e0.o e0.s) := by
      have h1 : (g.W o s).isSome = true ∨ HasV g.A o s := by simpa using hq
      rw [HEQ.out.1, HEQ.out.2]
      exact h1
    clear hq
    go_wp2
    go_ret2
    exact PutP2.twice HM.out HQ.out (bt HB.out HB2.out)
  | false =>
    have HQ : Hid (g.W e0.o e0.s = none ∧ ¬ HasV g.A e0.o e0.s) := by
      have h1 : g.W o s = none ∧ ¬ HasV g.A o s := by simpa using hq
      rw [HEQ.out.1, HEQ.out.2]
      exact h1
    clear hq
    go_wp2_with fail
    refine (HFU.out _ HB2.out).mono ?_
    rintro e w9 ⟨rfl, rfl⟩
    by_cases hf : 65536 ≤ g.ne
    · rw [decide_eq_true hf]
      have HF := hid hf
      clear hf
      go_wp2
      go_ret2
      exact PutP2.full HM.out HQ.out.1 HQ.out.2 (.inl HF.out) (bt HB.out HB2.out)
    rw [decide_eq_false hf]
    have HF : Hid (g.ne < 65536) := by show _ < _; omega
    clear hf
    have t0 := (HBX.out _ HB2.out).cell (i := 0) rfl
    have t1 := (HBX.out _ HB2.out).cell (i := 1) rfl
    have t2 := (HBX.out _ HB2.out).cell (i := 2) rfl
    have t3 := (HBX.out _ HB2.out).cell (i := 3) rfl
    have t4 := (HBX.out _ HB2.out).cell (i := 4) rfl
    have t5 := (HBX.out _ HB2.out).cell (i := 5) rfl
    have t6 := (HBX.out _ HB2.out).cell (i := 6) rfl
    have t7 := (HBX.out _ HB2.out).cell (i := 7) rfl
    go_wp2_with fail
    refine (HRD.out _ HB2.out).mono ?_
    rintro e w3 ⟨rfl, hb3⟩
    have HB3 := hid (bt HB2.out hb3)
    clear t0 t1 t2 t3 t4 t5 t6 t7 hb3
    by_cases hr : ReadyE g.A e0
    · rw [decide_eq_true hr]
      have HR := hid hr
      clear hr
      have t0 := (HBX.out _ HB3.out).cell (i := 0) rfl
      have t1 := (HBX.out _ HB3.out).cell (i := 1) rfl
      have t2 := (HBX.out _ HB3.out).cell (i := 2) rfl
      have t3 := (HBX.out _ HB3.out).cell (i := 3) rfl
      have t4 := (HBX.out _ HB3.out).cell (i := 4) rfl
      have t5 := (HBX.out _ HB3.out).cell (i := 5) rfl
      have t6 := (HBX.out _ HB3.out).cell (i := 6) rfl
      have t7 := (HBX.out _ HB3.out).cell (i := 7) rfl
      go_wp2_with fail
      refine (HOWN.out _ HB3.out HSZ.out.1 HSZ.out.2).mono ?_
      rintro e w4 ⟨⟨ye, bo, cp⟩, rfl, hye, hyk, hbo4, hb4⟩
      have HBO4 : Hid (∀ b, b < w.heap.size → NotIn bo dp b) := fun b hb _ off e => by have := hbo4 b off e; have := HB3.out.size; have := HB.out.size; omega
      have HB4 := hid (bt HB3.out hb4)
      obtain rfl : ye = ⟨o, s, dp, ct, ep, sk, qt, cl⟩ := hye
      have HYE : Hid ((⟨o, s, dp, ct, ep, sk, qt, cl⟩ : Ev) = e0) := HE0.out.symm
      have HAL := hid (applyAll_any (HL.out.below HB4.out) ⟨⟨o, s, dp, ct, ep, sk, qt, cl⟩, bo, cp⟩ hyk (by rw [HYE.out]; exact HM.out) (by rw [HYE.out]; exact HR.out) (by rw [HYE.out]; exact HQ.out.1) HF.out)
      simp only [EvM.val] at HAL ⊢
      rw [HXN.out] at HAL ⊢
      clear t0 t1 t2 t3 t4 t5 t6 t7 hyk hb4 hbo4
      go_wp2_with fail
      refine HAL.out.mono ?_
      rintro e w5 ⟨v, ys, g', rfl, hrow, hfirst, hran, hst, ⟨hlog, ht⟩, haw, hfr⟩
      have HBA := hid (bt HB.out HB4.out)
      have HROW : Hid (RowE w.heap.size w5 v ys) := ⟨own_mono hrow.row HBA.out.size, hrow.keep⟩
      have HFI : Hid (∃ r, ys.map (·.e) = e0 :: r) := by rw [← HYE.out]; exact hfirst
      have HRN := hid hran
      have HST := hid hst
      have HFR : Hid (∀ y ∈ ys, ∀ b, b < w.heap.size → NotIn y.ao y.e.deps b) := fun y hy b hb => hfr y hy b (Nat.lt_of_lt_of_le hb HBA.out.size)
      have HAW : Hid (∀ b, b < w.heap.size → AwayL w p g b → AwayL w5 p g' b) := fun b hb ha => haw b (Nat.lt_of_lt_of_le hb HBA.out.size) (ha.below (HPW.out p (.inl rfl)) HBA.out) (HBO4.out b hb)
      have HAT : Hid (AtG w p me mw g' w5) := ⟨hlog, (Turns.of_below (F := FootL p me mw) HBA.out (Nat.le_refl _)).trans ht (fun i hi => .inl hi)⟩
      clear hrow hfirst hran hst hlog ht haw hfr HAL
      go_wp2
      go_ret2
      exact PutP2.goes HM.out HQ.out.1 HQ.out.2 HF.out HR.out HROW.out HFI.out HRN.out HST.out HAT.out HAW.out HFR.out
    · rw [decide_eq_false hr]
      have HR := hid hr
      clear hr
      have HL3 := hid (HL.out.below HB3.out)
      obtain ⟨ao, cap, _, _, _, c2⟩ := HL3.out.cells
      obtain ⟨D, hD⟩ := HL3.out.wm
      have hlen := fun ty => hD.map.len Tryz.underlying41 ty
      rw [hD.cnt] at hlen
      have hfew := HL.out.fewW
      obtain ⟨N, HN⟩ : ∃ N, Hid (g.nw = N) := ⟨_, hid rfl⟩
      rw [HN.out] at hlen hfew
      by_cases h4 : 4096 ≤ N
      · have h4' : (4096 : Int) ≤ (N : Int) := by omega
        have H4 : Hid (4096 ≤ g.nw) := by rw [HN.out]; exact h4
        clear h4 hD
        go_wp2
        go_ret2
        exact PutP2.full HM.out HQ.out.1 HQ.out.2 (.inr ⟨HR.out, H4.out⟩) (bt HB.out HB3.out)
      have h4' : ¬ (4096 : Int) ≤ (N : Int) := by omega
      have H4 : Hid (g.nw < 4096) := by rw [HN.out]; show _ < _; omega
      have HC2 := hid c2
      have HPL := hid (HL3.out.lt p (.inl rfl))
      have HNI : Hid (NoInt w3 (fun i => i = mw)) := noInt_map hD.map
      have HPM : Hid (p ≠ mw ∧ pb ≠ mw) := ⟨HL.out.pne.2, fun e => by have := HPW.out mw (.inr (.inr rfl)); have := HPP.out; omega⟩
      have HOW2 : Hid (∀ U, Sc w3 U → Calls Tryz.prog 21 #[.agg #[.int .i64 o, .int .i64 s, .slice ao1 XN cap1, .string ct, .int .i64 ep, .string sk, .int .i64 qt, .bool cl]] U fun e w' => ∃ bo cp, e = .returned (.agg #[.int .i64 o, .int .i64 s, .slice bo XN cp, .string ct, .int .i64 ep, .string sk, .int .i64 qt, .bool cl]) ∧ Hid (EvKeep w' ⟨⟨o, s, dp, ct, ep, sk, qt, cl⟩, bo, cp⟩) ∧ Hid (∀ b, b < w.heap.size → NotIn bo dp b) ∧ Sc w3 w') := fun U hU => by
        refine (HOWN.out U (bt HB3.out hU.out) HSZ.out.1 HSZ.out.2).mono ?_
        rintro e w' ⟨⟨ye, bo, cp⟩, rfl, hye, hyk, hbo4, hb⟩
        obtain rfl : ye = ⟨o, s, dp, ct, ep, sk, qt, cl⟩ := hye
        refine ⟨bo, cp, ?_, hyk, (fun b hb _ off e => by have := hbo4 b off e; have := HB3.out.size; have := HB.out.size; have := hU.size; omega), hU.go hb⟩
        simp only [EvM.val]
        rw [HXN.out]
      have HPUT : Hid (∀ U bo cp, Hid (EvKeep U ⟨⟨o, s, dp, ct, ep, sk, qt, cl⟩, bo, cp⟩) → Sc w3 U → ∃ w6, (Instr.mapUpdate 41 (.map (some mw)) (.agg #[.int .i64 o, .int .i64 s]) (.agg #[.int .i64 o, .int .i64 s, .slice bo XN cp, .string ct, .int .i64 ep, .string sk, .int .i64 qt, .bool cl])).run Tryz.prog U = .ok () w6 ∧ Hid (LogAt w6 p me mw (waitG g ⟨⟨o, s, dp, ct, ep, sk, qt, cl⟩, bo, cp⟩)) ∧ Turns (fun i => i = mw) w3 w6) := fun U bo cp hk hU => by
        obtain ⟨Dw, h4⟩ := (HL3.out.below hU.out).wm
        obtain ⟨w6, h1, ⟨D6, h2⟩, h3⟩ := h4.put (by have := H4.out; unfold maxLen; omega) ⟨⟨o, s, dp, ct, ep, sk, qt, cl⟩, bo, cp⟩ hk.out (by have := HQ.out.1; rw [HEQ.out.1, HEQ.out.2] at this; exact this)
        simp only [EvM.val] at h1
        rw [HXN.out] at h1
        refine ⟨w6, h1, wait_at (HL3.out.below hU.out) (by have := HM.out; rw [HE0.out] at this; exact this) (by have := HQ.out.2; rw [HEQ.out.1, HEQ.out.2] at this; exact this) H4.out h2 h3, (Turns.of_below (F := fun i => i = mw) hU.out (Nat.le_refl _)).trans h3 (fun i hi => .inl hi)⟩
      have HTS : Hid (∀ U, Sc w3 U → Turns (fun i => i = mw) w3 U) := fun U hU => Turns.of_below hU.out (Nat.le_refl _)
      have HT0 : Hid (Turns (fun i => i = mw) w3 w3) := Turns.refl _ _
      have HSA : Hid (∀ U, Turns (fun i => i = mw) w3 U → (Turns (fun i => i = mw) w3 U ∧ U.cell? ⟨p, 2, none⟩ = some (.map (some mw)) ∧ U.cell? ⟨pb, 0, none⟩ = some (.int .i64 o) ∧ U.cell? ⟨pb, 1, none⟩ = some (.int .i64 s) ∧ U.cell? ⟨pb, 2, none⟩ = some (.slice ao1 XN cap1) ∧ U.cell? ⟨pb, 3, none⟩ = some (.string ct) ∧ U.cell? ⟨pb, 4, none⟩ = some (.int .i64 ep) ∧ U.cell? ⟨pb, 5, none⟩ = some (.string sk) ∧ U.cell? ⟨pb, 6, none⟩ = some (.int .i64 qt) ∧ U.cell? ⟨pb, 7, none⟩ = some (.bool cl))) := fun U hU => by
        have hb := hU.blk (HBX.out _ HB3.out) HPM.out.2
        obtain ⟨_, _, hbp, _, _⟩ := HL3.out.blk
        have hp := hU.blk hbp HPM.out.1
        exact ⟨hU, hp.cell rfl, hb.cell rfl, hb.cell rfl, hb.cell rfl, hb.cell rfl, hb.cell rfl, hb.cell rfl, hb.cell rfl, hb.cell rfl⟩
      clear h4 hD
      go_wp2
      clear hlen c2
      go_region_held3 (fun U => Turns (fun i => i = mw) w3 U ∧ U.cell? ⟨p, 2, none⟩ = some (.map (some mw)) ∧ U.cell? ⟨pb, 0, none⟩ = some (.int .i64 o) ∧ U.cell? ⟨pb, 1, none⟩ = some (.int .i64 s) ∧ U.cell? ⟨pb, 2, none⟩ = some (.slice ao1 XN cap1) ∧ U.cell? ⟨pb, 3, none⟩ = some (.string ct) ∧ U.cell? ⟨pb, 4, none⟩ = some (.int .i64 ep) ∧ U.cell? ⟨pb, 5, none⟩ = some (.string sk) ∧ U.cell? ⟨pb, 6, none⟩ = some (.int .i64 qt) ∧ U.cell? ⟨pb, 7, none⟩ = some (.bool cl))
        (first | (refine ⟨?_, ?_, ?_, ?_, ?_, ?_, ?_, ?_, ?_, ?_⟩ <;> assumption) | (refine HSA.out _ ?_; (repeat (first | assumption | exact HT0.out | apply Turns.drew))))
        (first
          | (go_at_call 21; with_reducible refine (HOW2.out _ (by (repeat (first | assumption | exact Sc.start _ | apply Sc.dr)))).mono ?_; rintro e w5 ⟨bo, cp, rfl, HKY, HBO5, hs5⟩; have hT5 := HTS.out _ hs5; obtain ⟨w6, hrun, HF6, hT6⟩ := HPUT.out w5 bo cp HKY hs5))
      all_goals
        have HAT : Hid (AtG w p me mw (waitG g ⟨⟨o, s, dp, ct, ep, sk, qt, cl⟩, bo, cp⟩) w6) := ⟨HF6.out, (Turns.of_below (F := FootL p me mw) (bt HB.out HB3.out) (Nat.le_refl _)).trans hT6 (fun i hi => .inl (.inr (.inr hi)))⟩
        have HAW : Hid (∀ b, b < w.heap.size → AwayL w p g b → AwayL w6 p (waitG g ⟨⟨o, s, dp, ct, ep, sk, qt, cl⟩, bo, cp⟩) b) := fun b hb ha => by
          have hpl := HPW.out p (.inl rfl)
          have hc : w6.cell? ⟨p, 0, none⟩ = w.cell? ⟨p, 0, none⟩ := (cell_block (hT6.block p (Nat.lt_of_lt_of_le hpl (bt HB.out HB3.out).size) HPM.out.1)).trans ((bt HB.out HB3.out).cell (p := ⟨p, 0, none⟩) hpl)
          refine ⟨(ha.of_cell hc).vec, ha.E, fun o' s' y hy => ?_⟩
          have hy' : updD g.W o s (some ⟨⟨o, s, dp, ct, ep, sk, qt, cl⟩, bo, cp⟩) o' s' = some y := hy
          by_cases e : o' = o ∧ s' = s
          · rw [e.1, e.2, updD_same] at hy'
            cases hy'
            exact HBO5.out b hb
          · rw [updD_other _ _ e] at hy'
            exact ha.W o' s' y hy'
        clear hrun
        go_wp2
        go_ret2
        exact PutP2.waits (y := ⟨⟨o, s, dp, ct, ep, sk, qt, cl⟩, bo, cp⟩) HM.out HQ.out.1 HQ.out.2 HF.out HR.out H4.out HE0.out.symm HAT.out HAW.out
theorem put_any {w : World} {p me mw : Nat} {g : Lg} (h : LogAt w p me mw g) (x : EvM) (hx : EvOk w x) : Calls Tryz.prog 6 #[.pointer (some ⟨p, 0, none⟩), x.val] w (PutP w p me mw g x.e) := (put_any2 h x hx).mono fun _ _ h => h.toP
end Go.Proofs.YtjlompnjhmbhhaaGreat
/-
  The document's log of events (pannierref10), with no memory in it: events as they came, those that wait; what it has applied, counted.
-/
namespace Go.Proofs.YtjlompnjhmbhhaaGreat
open Go.RowKit Go.Maps

/-- The document's log. -/
structure Dl where
  L : List Ev
  W : List Ev
/-- How many of an origin. -/
def cntO (L : List Ev) (o : Int) : Nat := (L.filter (fun e => decide (e.o = o))).length
/-- Of each origin how many. -/
def vecL (L : List Ev) : List Int := (List.range 7).map (fun i : Nat => ((cntO L (i : Int) : Nat) : Int))
theorem vecL_getD (L : List Ev) (i : Nat) : (vecL L).getD i 0 = if i < 7 then ((cntO L (i : Int) : Nat) : Int) else 0 := by
  unfold vecL
  by_cases h : i < 7
  · rw [if_pos h]
    simp [List.getD, h]
  · rw [if_neg h]
    simp [List.getD, h]
theorem cntO_snoc (L : List Ev) (e : Ev) (o : Int) : cntO (L ++ [e]) o = if e.o = o then cntO L o + 1 else cntO L o := by
  unfold cntO
  rw [List.filter_append, List.length_append]
  by_cases h : e.o = o
  · simp [h]
  · simp [h]
/-- The program's vector reads as the document's counts. -/
def ReadsL (A : List Int) (L : List Ev) : Prop := ∀ i : Nat, A.getD i 0 = (vecL L).getD i 0
theorem ReadsL.of {A : List Int} {L : List Ev} (h : ReadsL A L) {o : Int} (h0 : 0 ≤ o) (h6 : o ≤ 6) : ofV A o = ((cntO L o : Nat) : Int) := by
  obtain ⟨k, rfl⟩ := Int.eq_ofNat_of_zero_le h0
  rw [ofV_nat, h k, vecL_getD, if_pos (by omega)]
theorem ReadsL.start : ReadsL [] [] := fun i => by
  rw [vecL_getD]
  simp [cntO]
theorem ReadsL.put {A : List Int} {L : List Ev} {e : Ev} (h : ReadsL A L) (h0 : 0 ≤ e.o) (h6 : e.o ≤ 6) (hr : e.s = ofV A e.o + 1) : ReadsL (addA A e) (L ++ [e]) := fun i => by
  rw [addA_getD, vecL_getD, cntO_snoc]
  have h1 := h.of h0 h6
  by_cases hi : i = e.o.toNat
  · have h2 : ((i : Nat) : Int) = e.o := by omega
    rw [if_pos hi, if_pos (by omega), h2, if_pos rfl, hr, h1]
    omega
  · have h2 : ¬ e.o = ((i : Nat) : Int) := by omega
    rw [if_neg hi, if_neg h2, h i, vecL_getD]
theorem ReadsL.below {A : List Int} {L : List Ev} (h : ReadsL A L) (v : List Int) : BelowV v A ↔ BelowV v (vecL L) := by
  rw [belowV_iff, belowV_iff]
  exact ⟨fun k i => by rw [← h i]; exact k i, fun k i => by rw [h i]; exact k i⟩
/-- A whole row of events, each ready in its turn. -/
theorem ReadsL.row : ∀ {l : List Ev} {A : List Int} {L : List Ev}, ReadsL A L → (∀ e ∈ l, 0 ≤ e.o ∧ e.o ≤ 6) → ReadyL A l → ReadsL (addL A l) (L ++ l)
  | [], A, L, h, _, _ => by simpa [addL] using h
  | e :: r, A, L, h, hb, hr => by
    have h1 := hb e (by simp)
    have h2 := (h.put h1.1 h1.2 hr.1.1).row (fun x hx => hb x (by simp [hx])) hr.2
    rw [List.append_assoc] at h2
    exact h2
/-- By rising dots, no dot twice. -/
def RiseO (W : List Ev) : Prop := W.Pairwise (fun a b => a.o < b.o ∨ (a.o = b.o ∧ a.s < b.s))
/-- The first one that is ready. -/
def firstD (A : List Int) (W : List Ev) : Option Ev := W.find? (fun e => decide (ReadyE A e))
/-- Of an origin one alone can be ready: so the ready one of the least origin is the first that is ready. -/
theorem first_ready {A : List Int} {W : List Ev} {t : Ev} (hs : RiseO W) (ht : t ∈ W) (hr : ReadyE A t) (hl : ∀ y ∈ W, y.o < t.o → ¬ ReadyE A y) : firstD A W = some t := by
  unfold firstD
  rw [List.find?_eq_some_iff_getElem]
  obtain ⟨i, hi, rfl⟩ := List.getElem_of_mem ht
  refine ⟨by simpa using hr, i, hi, rfl, fun j hj => ?_⟩
  have hp := List.pairwise_iff_getElem.1 hs j i (by omega) hi hj
  simp only [Bool.not_eq_true', decide_eq_false_iff_not]
  rcases hp with h | ⟨h1, h2⟩
  · exact hl _ (List.getElem_mem _) h
  · intro hj'
    have e1 := hj'.1
    have e2 := hr.1
    rw [h1] at e1
    omega
theorem first_none {A : List Int} {W : List Ev} (h : ∀ y ∈ W, ¬ ReadyE A y) : firstD A W = none := by
  unfold firstD
  rw [List.find?_eq_none]
  intro y hy
  simpa using h y hy
/-- W without one dot. -/
def lessD (W : List Ev) (t : Ev) : List Ev := W.filter (fun e => !decide (e.o = t.o ∧ e.s = t.s))
theorem RiseO.less {W : List Ev} (h : RiseO W) (t : Ev) : RiseO (lessD W t) := List.Pairwise.filter _ h
theorem mem_lessD {W : List Ev} {t y : Ev} : y ∈ lessD W t ↔ y ∈ W ∧ ¬ (y.o = t.o ∧ y.s = t.s) := by
  unfold lessD
  rw [List.mem_filter, Bool.not_eq_true', decide_eq_false_iff_not]
/-- What comes behind an event that was put: n steps at most. -/
def drainD : Nat → List Int → Nat → List Ev → List Ev
  | 0, _, _, _ => []
  | n + 1, A, ne, W => if 65536 ≤ ne then [] else match firstD A W with
    | none => []
    | some t => t :: drainD n (addA A t) (ne + 1) (lessD W t)
end Go.Proofs.YtjlompnjhmbhhaaGreat
/-
  Which events Put applies, and in which order: the document's (drainD).
-/
namespace Go.Proofs.YtjlompnjhmbhhaaGreat
open Go.RowKit Go.Maps

theorem readyL_at : ∀ {pre : List Ev} {A : List Int} {t : Ev} {post : List Ev}, ReadyL A (pre ++ t :: post) → ReadyE (addL A pre) t
  | [], _, _, _, h => h.1
  | x :: r, A, _, _, h => readyL_at (pre := r) (A := addA A x) h.2
theorem inL_has : ∀ {l : List Ev} {A : List Int} {o s : Int}, ReadyL A l → (∀ e ∈ l, MayE e) → (HasV A o s ∨ InL l o s → HasV (addL A l) o s)
  | [], A, o, s, _, _, h => by
    rcases h with h | ⟨e, he, _⟩
    · exact h
    · cases he
  | x :: r, A, o, s, hr, hm, h => by
    refine inL_has (l := r) (A := addA A x) hr.2 (fun e he => hm e (by simp [he])) ?_
    have hx := addA_has (hm x (by simp)) hr.1 o s
    rcases h with h | ⟨e, he, h1, h2⟩
    · exact .inl (hx.2 (.inl h))
    · rcases List.mem_cons.1 he with rfl | he'
      · exact .inl (hx.2 (.inr ⟨h1.symm, h2.symm⟩))
      · exact .inr ⟨e, he', h1, h2⟩
theorem readyL_pre : ∀ {pre : List Ev} {A : List Int} {post : List Ev}, ReadyL A (pre ++ post) → ReadyL A pre
  | [], _, _, _ => trivial
  | _ :: r, _, _, h => ⟨h.1, readyL_pre (pre := r) h.2⟩
/-- W without the dots of pre. -/
def lessL (W : List Ev) (pre : List Ev) : List Ev := pre.foldl lessD W
theorem lessL_snoc (W pre : List Ev) (t : Ev) : lessL W (pre ++ [t]) = lessD (lessL W pre) t := by simp [lessL]
theorem lessL_rise : ∀ {pre W : List Ev}, RiseO W → RiseO (lessL W pre)
  | [], _, h => h
  | t :: r, _, h => lessL_rise (pre := r) (h.less t)
theorem mem_lessL : ∀ {pre W : List Ev} {y : Ev}, y ∈ lessL W pre ↔ y ∈ W ∧ ¬ InL pre y.o y.s
  | [], W, y => ⟨fun h => ⟨h, fun ⟨_, he, _⟩ => by cases he⟩, fun h => h.1⟩
  | t :: r, W, y => by
    show y ∈ lessL (lessD W t) r ↔ _
    rw [mem_lessL (pre := r), mem_lessD]
    constructor
    · rintro ⟨⟨h1, h2⟩, h3⟩
      refine ⟨h1, ?_⟩
      rintro ⟨e, he, e1, e2⟩
      rcases List.mem_cons.1 he with rfl | he'
      · exact h2 ⟨e1.symm, e2.symm⟩
      · exact h3 ⟨e, he', e1, e2⟩
    · rintro ⟨h1, h2⟩
      exact ⟨⟨h1, fun h => h2 ⟨t, by simp, h.1.symm, h.2.symm⟩⟩, fun ⟨e, he, e1, e2⟩ => h2 ⟨e, by simp [he], e1, e2⟩⟩
theorem drain_of {g g' : Lg} {l W : List Ev} (h : RanG g l g') (hst : StuckG g') (hf : g'.ne ≤ 65536) (hs : RiseO W) (hW : ∀ e, e ∈ W ↔ ∃ y, g.W e.o e.s = some y ∧ y.e = e) (h0 : ∀ e ∈ W, 0 ≤ e.o) :
    ∀ (rest pre : List Ev) (n : Nat), l = pre ++ rest → pre ≠ [] → rest.length < n → rest = drainD n (addL g.A pre) (g.ne + pre.length) (lessL W pre)
  | [], pre, n + 1, hl, _, _ => by
    have hl' : l = pre := by rw [hl, List.append_nil]
    subst hl'
    unfold drainD
    rcases hst with hst | hst
    · rw [if_pos (by rw [← h.ne]; exact hst)]
    · split
      · rfl
      · rw [first_none (fun y hy => ?_)]
        obtain ⟨hy1, hy2⟩ := mem_lessL.1 hy
        obtain ⟨x, hx, hxe⟩ := (hW y).1 hy1
        have h1 := hst y.o y.s x (by rw [h.W, if_neg hy2]; exact hx)
        rw [hxe, h.A] at h1
        exact h1
  | t :: r, pre, n + 1, hl, hp, hn => by
    have hr : ReadyE (addL g.A pre) t := readyL_at (post := r) (by rw [← hl]; exact h.ready)
    have hrp : ReadyL g.A pre ∧ ∀ e ∈ pre, MayE e := by
      refine ⟨?_, fun e he => h.may e (by rw [hl]; simp [he])⟩
      have h1 := h.ready
      rw [hl] at h1
      exact readyL_pre h1
    have hni : ¬ InL pre t.o t.s := fun hi => by
      have h1 := (inL_has hrp.1 hrp.2 (.inr hi)).2
      have h2 := hr.1
      omega
    have htw : t ∈ W := by
      obtain ⟨x, hx, hxe⟩ := h.waited t (by
        rw [hl]
        cases pre with
        | nil => exact absurd rfl hp
        | cons a b => simp)
      exact (hW t).2 ⟨x, hx, hxe⟩
    have hroom : ¬ 65536 ≤ g.ne + pre.length := by
      have h1 := h.ne
      rw [hl] at h1
      simp at h1
      omega
    have hfd : firstD (addL g.A pre) (lessL W pre) = some t := first_ready (lessL_rise hs) (mem_lessL.2 ⟨htw, hni⟩) hr (fun y hy hlt hry => by
      obtain ⟨hy1, hy2⟩ := mem_lessL.1 hy
      obtain ⟨x, hx, hxe⟩ := (hW y).1 hy1
      have h9 := h0 y hy1
      obtain ⟨k, hk⟩ := Int.eq_ofNat_of_zero_le h9
      have h1 := h.least pre t r hl hp k (by omega) x
      rw [← hk, ← hry.1] at h1
      have h2 := h1 hy2 hx
      rw [hxe] at h2
      exact h2 hry.2)
    unfold drainD
    rw [if_neg hroom, hfd]
    have ih := drain_of h hst hf hs hW h0 r (pre ++ [t]) n (by rw [hl]; simp) (by simp) (by simp at hn; omega)
    rw [addL_snoc, lessL_snoc, List.length_append] at ih
    show t :: r = t :: _
    rw [← Nat.add_assoc] at ih
    exact congrArg _ ih
end Go.Proofs.YtjlompnjhmbhhaaGreat
/-
  The program's log, the document's: the same; an event that was applied, with what waited for it, keeps it so.
-/
namespace Go.Proofs.YtjlompnjhmbhhaaGreat
open Go.RowKit Go.Maps

structure SameO (g : Lg) (d : Dl) : Prop where
  A : ReadsL g.A d.L
  E : ∀ e, e ∈ d.L ↔ ∃ y, g.E e.o e.s = some y ∧ y.e = e
  W : ∀ e, e ∈ d.W ↔ ∃ y, g.W e.o e.s = some y ∧ y.e = e
  ne : g.ne = d.L.length
  nw : g.nw = d.W.length
  rise : RiseO d.W
theorem SameO.start : SameO emptyLg ⟨[], []⟩ :=
  ⟨ReadsL.start, fun e => ⟨fun h => (by cases h), fun ⟨_, h, _⟩ => (by cases h)⟩, fun e => ⟨fun h => (by cases h), fun ⟨_, h, _⟩ => (by cases h)⟩, rfl, rfl, .nil⟩
theorem hasV_ready_no : ∀ {l : List Ev} {A : List Int} {o s : Int}, ReadyL A l → (∀ e ∈ l, MayE e) → HasV A o s → ¬ InL l o s
  | [], _, _, _, _, _, _, ⟨_, he, _⟩ => by cases he
  | x :: r, A, o, s, hr, hm, hh, ⟨e, he, h1, h2⟩ => by
    rcases List.mem_cons.1 he with rfl | he'
    · have h3 := hr.1.1
      have h4 := hh.2
      rw [h1, h2] at h3
      omega
    · exact hasV_ready_no (l := r) (A := addA A x) hr.2 (fun e he => hm e (by simp [he])) ((addA_has (hm x (by simp)) hr.1 o s).2 (.inl hh)) ⟨e, he', h1, h2⟩
theorem lessD_len {W : List Ev} {t : Ev} (hs : RiseO W) (ht : t ∈ W) : (lessD W t).length + 1 = W.length := by
  induction W with
  | nil => cases ht
  | cons x r ih =>
    obtain ⟨h1, h2⟩ := List.pairwise_cons.1 hs
    by_cases e : x.o = t.o ∧ x.s = t.s
    · have hr : ∀ y ∈ r, ¬ (y.o = t.o ∧ y.s = t.s) := fun y hy hyt => by
        have := h1 y hy
        omega
      have e1 : lessD (x :: r) t = r := by
        unfold lessD
        rw [List.filter_cons, if_neg (by simp [e]), List.filter_eq_self.2 (fun y hy => by
          rw [Bool.not_eq_true', decide_eq_false_iff_not]
          exact hr y hy)]
      rw [e1]
      rfl
    · have htr : t ∈ r := by
        rcases List.mem_cons.1 ht with h | h
        · exact absurd (by rw [h]; exact ⟨rfl, rfl⟩) e
        · exact h
      have e1 : lessD (x :: r) t = x :: lessD r t := by
        unfold lessD
        rw [List.filter_cons, if_pos (by rw [Bool.not_eq_true', decide_eq_false_iff_not]; exact e)]
      rw [e1]
      have := ih h2 htr
      simp only [List.length_cons]
      omega
theorem lessL_len : ∀ {l W : List Ev} {A : List Int}, RiseO W → (∀ e ∈ l, e ∈ W) → ReadyL A l → (∀ e ∈ l, MayE e) → (lessL W l).length + l.length = W.length
  | [], W, _, _, _, _, _ => by simp [lessL]
  | t :: r, W, A, hs, hw, hr, hm => by
    have h1 := lessD_len hs (hw t (by simp))
    have h2 := lessL_len (l := r) (W := lessD W t) (A := addA A t) (hs.less t) (fun e he => mem_lessD.2 ⟨hw e (by simp [he]), fun hd => by
      have h3 := hasV_ready_no (l := r) (A := addA A t) (o := t.o) (s := t.s) hr.2 (fun e he => hm e (by simp [he])) ((addA_has (hm t (by simp)) hr.1 t.o t.s).2 (.inr ⟨rfl, rfl⟩))
      exact h3 ⟨e, he, hd.1, hd.2⟩⟩) hr.2 (fun e he => hm e (by simp [he]))
    show (lessL (lessD W t) r).length + (r.length + 1) = _
    omega
theorem SameO.goes {w : World} {p me mw : Nat} {g g' : Lg} {d : Dl} {x : Ev} {tail : List Ev} (h : SameO g d) (hL : LogAt w p me mw g) (hr : RanG g (x :: tail) g') (hx : g.W x.o x.s = none) (ho : ∀ e, MayE e → 0 ≤ e.o ∧ e.o ≤ 6) :
    SameO g' ⟨d.L ++ x :: tail, lessL d.W (x :: tail)⟩ := by
  have hxw : ∀ y ∈ d.W, ¬ (y.o = x.o ∧ y.s = x.s) := fun y hy hd => by
    obtain ⟨z, hz, _⟩ := (h.W y).1 hy
    rw [hd.1, hd.2, hx] at hz
    cases hz
  have hl0 : lessD d.W x = d.W := by
    unfold lessD
    exact List.filter_eq_self.2 (fun y hy => by
      rw [Bool.not_eq_true', decide_eq_false_iff_not]
      exact hxw y hy)
  refine ⟨?_, fun e => ?_, fun e => ?_, ?_, ?_, lessL_rise h.rise⟩
  · rw [hr.A]
    exact h.A.row (fun e he => ho e (hr.may e he)) hr.ready
  · show e ∈ d.L ++ x :: tail ↔ _
    rw [List.mem_append]
    constructor
    · rintro (he | he)
      · obtain ⟨y, hy, hye⟩ := (h.E e).1 he
        have hn := hasV_ready_no hr.ready hr.may ((hL.has e.o e.s).1 (by rw [hy]; rfl))
        exact ⟨y, by rw [hr.E.1 _ _ hn]; exact hy, hye⟩
      · exact hr.E.2 e he
    · rintro ⟨y, hy, hye⟩
      by_cases hi : InL (x :: tail) e.o e.s
      · obtain ⟨e', he', h1, h2⟩ := hi
        obtain ⟨z, hz, hze⟩ := hr.E.2 e' he'
        rw [h1, h2, hy] at hz
        cases hz
        rw [← hye, hze]
        exact .inr he'
      · rw [hr.E.1 _ _ hi] at hy
        exact .inl ((h.E e).2 ⟨y, hy, hye⟩)
  · show e ∈ lessL d.W (x :: tail) ↔ _
    rw [mem_lessL, h.W e, hr.W]
    by_cases hi : InL (x :: tail) e.o e.s
    · rw [if_pos hi]
      exact ⟨fun k => absurd hi k.2, fun ⟨_, k, _⟩ => (by cases k)⟩
    · rw [if_neg hi]
      exact ⟨fun k => k.1, fun k => ⟨k, hi⟩⟩
  · rw [hr.ne, h.ne]
    show _ = (d.L ++ x :: tail).length
    rw [List.length_append]
  · have h1 := hr.nw
    have h2 : (lessL d.W tail).length + tail.length = d.W.length := lessL_len (A := addA g.A x) h.rise (fun e he => by
      obtain ⟨y, hy, hye⟩ := hr.waited e he
      exact (h.W e).2 ⟨y, hy, hye⟩) hr.ready.2 (fun e he => hr.may e (by simp [he]))
    have h3 := h.nw
    show g'.nw = (lessL (lessD d.W x) tail).length
    rw [hl0]
    simp only [List.length_cons] at h1
    omega
/-- The list that Put tells is the document's. -/
theorem SameO.told {g g' : Lg} {d : Dl} {x : Ev} {tail : List Ev} (h : SameO g d) (hr : RanG g (x :: tail) g') (hst : StuckG g') (hf : g'.ne ≤ 65536) (ho : ∀ e ∈ d.W, 0 ≤ e.o) (n : Nat) (hn : tail.length < n) : tail = drainD n (addA g.A x) (g.ne + 1) (lessD d.W x) :=
  drain_of hr hst hf h.rise h.W ho tail [x] n rfl (by simp) hn
end Go.Proofs.YtjlompnjhmbhhaaGreat
/-
  An event that has to wait; which answer Put gives: both logs.
-/
namespace Go.Proofs.YtjlompnjhmbhhaaGreat
open Go.RowKit Go.Maps

def lessO (y e : Ev) : Bool := decide (y.o < e.o ∨ (y.o = e.o ∧ y.s < e.s))
/-- Where it has its place. -/
def posO (W : List Ev) (e : Ev) : Nat := W.findIdx (fun y => !lessO y e)
def insO (W : List Ev) (e : Ev) : List Ev := W.take (posO W e) ++ [e] ++ W.drop (posO W e)
theorem insO_mem {W : List Ev} {e y : Ev} : y ∈ insO W e ↔ y = e ∨ y ∈ W := by
  unfold insO
  have h : y ∈ W ↔ y ∈ W.take (posO W e) ∨ y ∈ W.drop (posO W e) := by
    conv => lhs; rw [← List.take_append_drop (posO W e) W]
    exact List.mem_append
  rw [List.mem_append, List.mem_append, List.mem_singleton, h]
  constructor
  · rintro ((h1 | h1) | h1)
    · exact .inr (.inl h1)
    · exact .inl h1
    · exact .inr (.inr h1)
  · rintro (h1 | h1 | h1)
    · exact .inl (.inr h1)
    · exact .inl (.inl h1)
    · exact .inr h1
theorem insO_len (W : List Ev) (e : Ev) : (insO W e).length = W.length + 1 := by
  unfold insO
  have : posO W e ≤ W.length := List.findIdx_le_length
  simp only [List.length_append, List.length_take, List.length_drop, List.length_singleton]
  omega
theorem insO_rise {W : List Ev} {e : Ev} (h : RiseO W) (hn : ∀ y ∈ W, ¬ (y.o = e.o ∧ y.s = e.s)) : RiseO (insO W e) := by
  unfold insO RiseO
  have hsp : ∀ a ∈ W.take (posO W e), a.o < e.o ∨ (a.o = e.o ∧ a.s < e.s) := by
    intro a ha
    obtain ⟨j, hj, rfl⟩ := List.getElem_of_mem ha
    rw [List.getElem_take]
    have hj2 : j < posO W e := by simp at hj; omega
    have := List.not_of_lt_findIdx (p := fun q : Ev => !lessO q e) hj2
    have hjl : j < W.length := by simp at hj; omega
    have h2 : lessO (W[j]'hjl) e = true := by simpa using this
    exact of_decide_eq_true h2
  have hsd : ∀ a ∈ W.drop (posO W e), e.o < a.o ∨ (e.o = a.o ∧ e.s < a.s) := by
    intro a ha
    have hp : (W.drop (posO W e)).Pairwise (fun a b => a.o < b.o ∨ (a.o = b.o ∧ a.s < b.s)) := List.Pairwise.sublist (List.drop_sublist _ _) h
    by_cases hlt : posO W e < W.length
    · have h0 : lessO W[posO W e] e = false := by
        have := List.findIdx_getElem (p := fun q : Ev => !lessO q e) (w := hlt)
        simp only [Bool.not_eq_eq_eq_not, Bool.not_true] at this
        exact this
      have h1 := of_decide_eq_false h0
      have h2 := hn _ (List.getElem_mem hlt)
      rw [← List.getElem_cons_drop (h := hlt)] at ha hp
      rcases List.mem_cons.1 ha with e1 | ha'
      · rw [e1]
        omega
      · have h3 := (List.pairwise_cons.1 hp).1 a ha'
        omega
    · rw [List.drop_eq_nil_of_le (by omega)] at ha
      cases ha
  rw [List.append_assoc, List.pairwise_append]
  refine ⟨List.Pairwise.sublist (List.take_sublist _ _) h, ?_, ?_⟩
  · rw [List.singleton_append, List.pairwise_cons]
    exact ⟨hsd, List.Pairwise.sublist (List.drop_sublist _ _) h⟩
  · intro a ha b hb
    rcases List.mem_append.1 hb with hb' | hb'
    · have : b = e := by simpa using hb'
      rw [this]
      exact hsp a ha
    · have h1 := hsp a ha
      have h2 := hsd b hb'
      omega
theorem SameO.waits {g : Lg} {d : Dl} {y : EvM} (h : SameO g d) (hy : g.W y.e.o y.e.s = none) : SameO (waitG g y) ⟨d.L, insO d.W y.e⟩ := by
  have hn : ∀ z ∈ d.W, ¬ (z.o = y.e.o ∧ z.s = y.e.s) := fun z hz hd => by
    obtain ⟨q, hq, _⟩ := (h.W z).1 hz
    rw [hd.1, hd.2, hy] at hq
    cases hq
  refine ⟨h.A, h.E, fun e => ?_, h.ne, ?_, insO_rise h.rise hn⟩
  · show e ∈ insO d.W y.e ↔ ∃ z, updD g.W y.e.o y.e.s (some y) e.o e.s = some z ∧ z.e = e
    rw [insO_mem]
    constructor
    · rintro (rfl | he)
      · exact ⟨y, updD_same _ _ _ _, rfl⟩
      · obtain ⟨z, hz, hze⟩ := (h.W e).1 he
        exact ⟨z, by rw [updD_other _ _ (fun k => hn e he k)]; exact hz, hze⟩
    · rintro ⟨z, hz, hze⟩
      by_cases k : e.o = y.e.o ∧ e.s = y.e.s
      · rw [k.1, k.2, updD_same] at hz
        cases hz
        exact .inl hze.symm
      · rw [updD_other _ _ k] at hz
        exact .inr ((h.W e).2 ⟨z, hz, hze⟩)
  · show g.nw + 1 = (insO d.W y.e).length
    rw [insO_len, h.nw]
/-- The same are ready. -/
theorem SameO.ready {g : Lg} {d : Dl} (h : SameO g d) (e : Ev) (h0 : 0 ≤ e.o) (h6 : e.o ≤ 6) : ReadyE g.A e ↔ (e.s = ((cntO d.L e.o : Nat) : Int) + 1 ∧ BelowV e.deps (vecL d.L)) := by
  unfold ReadyE
  rw [h.A.of h0 h6, h.A.below]
/-- The same has come already. -/
theorem SameO.has {g : Lg} {d : Dl} (h : SameO g d) (o s : Int) (h0 : 0 ≤ o) (h6 : o ≤ 6) : HasV g.A o s ↔ (1 ≤ s ∧ s ≤ ((cntO d.L o : Nat) : Int)) := by
  unfold HasV
  rw [h.A.of h0 h6]
/-- It waits already. -/
theorem SameO.known {g : Lg} {d : Dl} (h : SameO g d) (o s : Int) (hok : ∀ o s y, g.W o s = some y → y.e.o = o ∧ y.e.s = s) : (g.W o s).isSome = true ↔ ∃ e ∈ d.W, e.o = o ∧ e.s = s := by
  constructor
  · intro hs
    obtain ⟨y, hy⟩ := Option.isSome_iff_exists.1 hs
    obtain ⟨h1, h2⟩ := hok o s y hy
    exact ⟨y.e, (h.W y.e).2 ⟨y, by rw [h1, h2]; exact hy, rfl⟩, h1, h2⟩
  · rintro ⟨e, he, rfl, rfl⟩
    obtain ⟨y, hy, _⟩ := (h.W e).1 he
    rw [hy]
    rfl
end Go.Proofs.YtjlompnjhmbhhaaGreat
/-
  What comes behind an event that was put, by the document's list alone.
-/
namespace Go.Proofs.YtjlompnjhmbhhaaGreat
open Go.RowKit Go.Maps

def drainL : Nat → List Ev → List Ev → List Ev
  | 0, _, _ => []
  | n + 1, L, W => if 65536 ≤ L.length then [] else match firstD (vecL L) W with
    | none => []
    | some t => t :: drainL n (L ++ [t]) (lessD W t)
theorem ReadsL.vec (L : List Ev) : ReadsL (vecL L) L := fun _ => rfl
theorem ReadsL.ready {A : List Int} {L : List Ev} (h : ReadsL A L) {e : Ev} (h0 : 0 ≤ e.o ∧ e.o ≤ 6) : ReadyE A e ↔ ReadyE (vecL L) e := by
  unfold ReadyE
  rw [h.of h0.1 h0.2, (ReadsL.vec L).of h0.1 h0.2, h.below]
theorem firstD_eq {A : List Int} {L : List Ev} (h : ReadsL A L) : ∀ {W : List Ev}, (∀ e ∈ W, 0 ≤ e.o ∧ e.o ≤ 6) → firstD A W = firstD (vecL L) W
  | [], _ => rfl
  | e :: r, hw => by
    have ih := firstD_eq h (W := r) (fun x hx => hw x (by simp [hx]))
    have he := h.ready (hw e (by simp))
    unfold firstD at ih ⊢
    rw [List.find?_cons, List.find?_cons, ih]
    by_cases hr : ReadyE A e
    · rw [decide_eq_true hr, decide_eq_true (he.1 hr)]
    · rw [decide_eq_false hr, decide_eq_false (fun k => hr (he.2 k))]
theorem drain_eq : ∀ (n : Nat) {A : List Int} {L W : List Ev}, ReadsL A L → (∀ e ∈ W, 0 ≤ e.o ∧ e.o ≤ 6) → drainD n A L.length W = drainL n L W
  | 0, _, _, _, _, _ => rfl
  | n + 1, A, L, W, h, hw => by
    unfold drainD drainL
    rw [← firstD_eq h hw]
    by_cases hf : 65536 ≤ L.length
    · rw [if_pos hf, if_pos hf]
    · rw [if_neg hf, if_neg hf]
      cases ht : firstD A W with
      | none => rfl
      | some t =>
        have htw : t ∈ W := List.mem_of_find?_eq_some ht
        have htr : ReadyE A t := by
          have := List.find?_some ht
          exact of_decide_eq_true this
        have hb := hw t htw
        have ih := drain_eq n (h.put hb.1 hb.2 htr.1) (W := lessD W t) (fun e he => hw e (mem_lessD.1 he).1)
        rw [List.length_append] at ih
        exact congrArg _ ih
/-- The list that Put tells: the event, then what had waited for it. -/
theorem SameO.list {g g' : Lg} {d : Dl} {x : Ev} {tail : List Ev} (h : SameO g d) (hr : RanG g (x :: tail) g') (hst : StuckG g') (hf : g'.ne ≤ 65536) (hw : ∀ e ∈ d.W, 0 ≤ e.o ∧ e.o ≤ 6) (hx : 0 ≤ x.o ∧ x.o ≤ 6) (hxw : ∀ y ∈ d.W, ¬ (y.o = x.o ∧ y.s = x.s)) (n : Nat) (hn : tail.length < n) : tail = drainL n (d.L ++ [x]) d.W := by
  have h1 := h.told hr hst hf (fun e he => (hw e he).1) n hn
  have hl0 : lessD d.W x = d.W := by
    unfold lessD
    exact List.filter_eq_self.2 (fun y hy => by
      rw [Bool.not_eq_true', decide_eq_false_iff_not]
      exact hxw y hy)
  have h2 := drain_eq n (h.A.put hx.1 hx.2 hr.ready.1.1) hw
  rw [List.length_append, ← h.ne] at h2
  rw [hl0] at h1
  exact h1.trans h2
end Go.Proofs.YtjlompnjhmbhhaaGreat
