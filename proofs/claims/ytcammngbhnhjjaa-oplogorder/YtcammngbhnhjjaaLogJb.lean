/-
  Package oplog: Put.
-/
import Derived.Test.YtcammngbhnhjjaaLogH
import Derived.Test.YtcammngbhnhjjaaApps
namespace Go.Proofs.Ytcammngbhnhjjaa
open Go.RowKit Go.Maps

/-- The log with one more that waits. -/
def waitG (g : Lg) (x : EvM) : Lg := ⟨g.A, g.E, updD g.W x.e.o x.e.s (some x), g.ne, g.nw + 1⟩
/-- What Put leaves: ErrEvent, ErrTwice, ErrFull change nothing; else the event is applied, with what waited for it, or it waits. -/
inductive PutP (w : World) (p me mw : Nat) (g : Lg) (x : Ev) : Ending → World → Prop
  | wrong {w'} : ¬ MayE x → Below w.heap.size w w' → PutP w p me mw g x (.returned (.tuple #[.slice none 0 0, .int .i64 100])) w'
  | twice {w'} : MayE x → ((g.W x.o x.s).isSome = true ∨ HasV g.A x.o x.s) → Below w.heap.size w w' → PutP w p me mw g x (.returned (.tuple #[.slice none 0 0, .int .i64 5])) w'
  | full {w'} : MayE x → g.W x.o x.s = none → ¬ HasV g.A x.o x.s → (65536 ≤ g.ne ∨ (¬ ReadyE g.A x ∧ 4096 ≤ g.nw)) → Below w.heap.size w w' → PutP w p me mw g x (.returned (.tuple #[.slice none 0 0, .int .i64 2])) w'
  | goes {w' v ys g'} : MayE x → g.W x.o x.s = none → ¬ HasV g.A x.o x.s → g.ne < 65536 → ReadyE g.A x → RowE w.heap.size w' v ys → (∃ r, ys.map (·.e) = x :: r) → RanG g (ys.map (·.e)) g' → StuckG g' → AtG w p me mw g' w' → PutP w p me mw g x (.returned (.tuple #[v, .int .i64 0])) w'
  | waits {w' y} : MayE x → g.W x.o x.s = none → ¬ HasV g.A x.o x.s → g.ne < 65536 → ¬ ReadyE g.A x → g.nw < 4096 → y.e = x → AtG w p me mw (waitG g y) w' → PutP w p me mw g x (.returned (.tuple #[.slice none 0 0, .int .i64 0])) w'
theorem put_nil (w : World) (x : EvM) : Calls Try.prog 8 #[.pointer none, x.val] w fun e w' => e = .returned (.tuple #[.slice none 0 0, .int .i64 6]) ∧ Below w.heap.size w w' := by
  obtain ⟨⟨o, s, dp, ct, ep, sk, qt, cl⟩, ao1, cap1⟩ := x
  obtain ⟨XN, HXN⟩ : ∃ m, Hid (dp.length = m) := ⟨_, hid rfl⟩
  simp only [EvM.val]
  rw [HXN.out]
  have HB : Hid (Below w.heap.size w (w.alloc (.cells #[.int .i64 o, .int .i64 s, .slice ao1 XN cap1, .string ct, .int .i64 ep, .string sk, .int .i64 qt, .bool cl] 33))) := (Below.refl _ _).alloc (Nat.le_refl _) _
  go_enter Try.func8, Try.ntmps8
  go_wp2_with fail
  refine (closedL_nil _).mono ?_
  rintro e w' ⟨rfl, rfl⟩
  go_wp2
  go_ret2
  exact ⟨rfl, HB.out⟩
theorem wait_at {W w6 : World} {p me mw : Nat} {g : Lg} {x : EvM} (h : LogAt W p me mw g) (hm : MayE x.e) (hh : ¬ HasV g.A x.e.o x.e.s) (hn : g.nw < 4096) {D2 : DataW Value} (wm : EvMap w6 mw (updD g.W x.e.o x.e.s (some x)) (g.nw + 1) D2) (ht : Turns (fun i => i = mw) W w6) : LogAt w6 p me mw (waitG g x) := by
  obtain ⟨ao, cap, h1, h2, h2'⟩ := h.blk
  obtain ⟨De, h3⟩ := h.em
  obtain ⟨Dw, h4⟩ := h.wm
  have hni := noInt_map h4.map
  refine ⟨⟨ao, cap, ht.blk h1 h.pne.2, h2.noInt hni ht, h2'.stay h2.held ht (noInt_off h2.held hni)⟩, h.apart, h.may, ⟨De, h3.turned ht h.apart hni⟩, ⟨D2, wm⟩, h.has, h.evs, fun o' s' y hy => ?_, h.fewE, hn⟩
  have hy' : updD g.W x.e.o x.e.s (some x) o' s' = some y := hy
  by_cases e : o' = x.e.o ∧ s' = x.e.s
  · obtain ⟨rfl, rfl⟩ := e
    rw [updD_same] at hy'
    cases hy'
    exact ⟨hm, hh⟩
  · rw [updD_other _ _ e] at hy'
    exact h.wait o' s' y hy'
set_option maxRecDepth 200000 in
set_option maxHeartbeats 4000000 in
theorem put_any {w : World} {p me mw : Nat} {g : Lg} (h : LogAt w p me mw g) (x : EvM) (hx : EvOk w x) : Calls Try.prog 8 #[.pointer (some ⟨p, 0, none⟩), x.val] w (PutP w p me mw g x.e) := by
  obtain ⟨W, hW⟩ : ∃ W, W = w.alloc (.cells x.cells.toArray 33) := ⟨_, rfl⟩
  have HB : Hid (Below w.heap.size w W) := by rw [hW]; exact (Below.refl _ _).alloc (Nat.le_refl _) _
  have HK : Hid (Blk W w.heap.size 33 x.cells) := by rw [hW]; exact Blk.new w _ _
  obtain ⟨pb, hpb⟩ : ∃ q, q = w.heap.size := ⟨_, rfl⟩
  rw [← hpb] at HK
  have HPP := hid hpb
  have HPW : Hid (∀ i, FootL p me mw i → i < w.heap.size) := h.lt
  have HH := hid h
  have HL := hid (h.below HB.out)
  have HOX := hid (hx.below HB.out)
  have HIO : Hid (I64 x.e.o ∧ I64 x.e.s) := ⟨hx.io, hx.is⟩
  have HCL := hid (closedL_no HL.out)
  have HMY := hid (mayL_any W x HOX.out)
  have HKN := hid (fun V (hV : Below W.heap.size W V) => knowsL_any (HL.out.below hV) x.e.o x.e.s HIO.out.1 HIO.out.2)
  have HFU := hid (fun V (hV : Below W.heap.size W V) => fullL_any (HL.out.below hV))
  have HRD := hid (fun V (hV : Below W.heap.size W V) => readyL_any (HL.out.below hV) x (HOX.out.below hV))
  have HW := hid hW
  obtain ⟨e0, he0⟩ : ∃ e, e = x.e := ⟨_, rfl⟩
  have HE0 := hid he0
  rw [← he0] at HMY HRD ⊢
  clear hW hx h hpb he0
  obtain ⟨⟨o, s, dp, ct, ep, sk, qt, cl⟩, ao1, cap1⟩ := x
  obtain ⟨XN, HXN⟩ : ∃ m, Hid (dp.length = m) := ⟨_, hid rfl⟩
  have HOWN := hid (fun V (hV : Below W.heap.size W V) (hc : ct.size ≤ 140737488355328) (hk : sk.size ≤ 140737488355328) => ownL_any V ⟨⟨o, s, dp, ct, ep, sk, qt, cl⟩, ao1, cap1⟩ (HOX.out.below hV) hc hk)
  simp only [EvM.val, EvM.cells] at HW HK HMY HKN HRD HOWN ⊢
  rw [HXN.out] at HW HK HMY HRD HOWN ⊢
  have HBX : Hid (∀ V, Below W.heap.size W V → Blk V pb 33 [.int .i64 o, .int .i64 s, .slice ao1 XN cap1, .string ct, .int .i64 ep, .string sk, .int .i64 qt, .bool cl]) := fun V hV => HK.out.below hV HK.out.lt
  go_enter Try.func8, Try.ntmps8
  go_wp2_with fail
  rw [← HW.out, ← HPP.out]
  refine HCL.out.mono ?_
  rintro e w' ⟨rfl, rfl⟩
  have t0 := HK.out.cell (i := 0) rfl
  have t1 := HK.out.cell (i := 1) rfl
  have t2 := HK.out.cell (i := 2) rfl
  have t3 := HK.out.cell (i := 3) rfl
  have t4 := HK.out.cell (i := 4) rfl
  have t5 := HK.out.cell (i := 5) rfl
  have t6 := HK.out.cell (i := 6) rfl
  have t7 := HK.out.cell (i := 7) rfl
  go_wp2_with fail
  refine HMY.out.mono ?_
  rintro e w1 ⟨rfl, hb1⟩
  have HB1 := hid hb1
  clear t0 t1 t2 t3 t4 t5 t6 t7 hb1
  by_cases hm : MayE e0
  rotate_left 1
  · rw [decide_eq_false hm]
    have HM := hid hm
    clear hm
    go_wp2
    go_ret2
    exact PutP.wrong HM.out (bt HB.out HB1.out)
  rw [decide_eq_true hm]
  have HM := hid hm
  clear hm
  have HSZ : Hid (ct.size ≤ 140737488355328 ∧ sk.size ≤ 140737488355328) := by
    have hf := rightEv_iff HM.out.1
    rw [HE0.out] at hf
    have h1 := nameS_size hf.cart
    have h2 := nameS_size hf.sku
    dsimp only at h1 h2
    exact ⟨by omega, by omega⟩
  have t0 := (HBX.out _ HB1.out).cell (i := 0) rfl
  have t1 := (HBX.out _ HB1.out).cell (i := 1) rfl
  go_wp2_with fail
  refine (HKN.out _ HB1.out).mono ?_
  rintro e w2 ⟨rfl, hb2⟩
  have HB2 := hid (bt HB1.out hb2)
  clear t0 t1 hb2
  have HEQ : Hid (e0.o = o ∧ e0.s = s) := by rw [HE0.out]; exact ⟨rfl, rfl⟩
  cases hq : ((g.W o s).isSome || decide (HasV g.A o s)) with
  | true =>
    have HQ : Hid ((g.W e0.o e0.s).isSome = true ∨ HasV g.A e0.o e0.s) := by
      have h1 : (g.W o s).isSome = true ∨ HasV g.A o s := by simpa using hq
      rw [HEQ.out.1, HEQ.out.2]
      exact h1
    clear hq
    go_wp2
    go_ret2
    exact PutP.twice HM.out HQ.out (bt HB.out HB2.out)
  | false =>
    have HQ : Hid (g.W e0.o e0.s = none ∧ ¬ HasV g.A e0.o e0.s) := by
      have h1 : g.W o s = none ∧ ¬ HasV g.A o s := by simpa using hq
      rw [HEQ.out.1, HEQ.out.2]
      exact h1
    clear hq
    go_wp2_with fail
    refine (HFU.out _ HB2.out).mono ?_
    rintro e w9 ⟨rfl, rfl⟩
    by_cases hf : 65536 ≤ g.ne
    · rw [decide_eq_true hf]
      have HF := hid hf
      clear hf
      go_wp2
      go_ret2
      exact PutP.full HM.out HQ.out.1 HQ.out.2 (.inl HF.out) (bt HB.out HB2.out)
    rw [decide_eq_false hf]
    have HF : Hid (g.ne < 65536) := by show _ < _; omega
    clear hf
    have t0 := (HBX.out _ HB2.out).cell (i := 0) rfl
    have t1 := (HBX.out _ HB2.out).cell (i := 1) rfl
    have t2 := (HBX.out _ HB2.out).cell (i := 2) rfl
    have t3 := (HBX.out _ HB2.out).cell (i := 3) rfl
    have t4 := (HBX.out _ HB2.out).cell (i := 4) rfl
    have t5 := (HBX.out _ HB2.out).cell (i := 5) rfl
    have t6 := (HBX.out _ HB2.out).cell (i := 6) rfl
    have t7 := (HBX.out _ HB2.out).cell (i := 7) rfl
    go_wp2_with fail
    refine (HRD.out _ HB2.out).mono ?_
    rintro e w3 ⟨rfl, hb3⟩
    have HB3 := hid (bt HB2.out hb3)
    clear t0 t1 t2 t3 t4 t5 t6 t7 hb3
    by_cases hr : ReadyE g.A e0
    · rw [decide_eq_true hr]
      have HR := hid hr
      clear hr
      have t0 := (HBX.out _ HB3.out).cell (i := 0) rfl
      have t1 := (HBX.out _ HB3.out).cell (i := 1) rfl
      have t2 := (HBX.out _ HB3.out).cell (i := 2) rfl
      have t3 := (HBX.out _ HB3.out).cell (i := 3) rfl
      have t4 := (HBX.out _ HB3.out).cell (i := 4) rfl
      have t5 := (HBX.out _ HB3.out).cell (i := 5) rfl
      have t6 := (HBX.out _ HB3.out).cell (i := 6) rfl
      have t7 := (HBX.out _ HB3.out).cell (i := 7) rfl
      go_wp2_with fail
      refine (HOWN.out _ HB3.out HSZ.out.1 HSZ.out.2).mono ?_
      rintro e w4 ⟨⟨ye, bo, cp⟩, rfl, hye, hyk, _, hb4⟩
      have HB4 := hid (bt HB3.out hb4)
      obtain rfl : ye = ⟨o, s, dp, ct, ep, sk, qt, cl⟩ := hye
      have HYE : Hid ((⟨o, s, dp, ct, ep, sk, qt, cl⟩ : Ev) = e0) := HE0.out.symm
      have HAL := hid (applyAll_any (HL.out.below HB4.out) ⟨⟨o, s, dp, ct, ep, sk, qt, cl⟩, bo, cp⟩ hyk (by rw [HYE.out]; exact HM.out) (by rw [HYE.out]; exact HR.out) (by rw [HYE.out]; exact HQ.out.1) HF.out)
      simp only [EvM.val] at HAL ⊢
      rw [HXN.out] at HAL ⊢
      clear t0 t1 t2 t3 t4 t5 t6 t7 hyk hb4
      go_wp2_with fail
      refine HAL.out.mono ?_
      rintro e w5 ⟨v, ys, g', rfl, hrow, hfirst, hran, hst, hlog, ht⟩
      have HBA := hid (bt HB.out HB4.out)
      have HROW : Hid (RowE w.heap.size w5 v ys) := ⟨own_mono hrow.row HBA.out.size, hrow.keep⟩
      have HFI : Hid (∃ r, ys.map (·.e) = e0 :: r) := by rw [← HYE.out]; exact hfirst
      have HRN := hid hran
      have HST := hid hst
      have HAT : Hid (AtG w p me mw g' w5) := ⟨hlog, (Turns.of_below (F := FootL p me mw) HBA.out (Nat.le_refl _)).trans ht (fun i hi => .inl hi)⟩
      clear hrow hfirst hran hst hlog ht HAL
      go_wp2
      go_ret2
      exact PutP.goes HM.out HQ.out.1 HQ.out.2 HF.out HR.out HROW.out HFI.out HRN.out HST.out HAT.out
    · rw [decide_eq_false hr]
      have HR := hid hr
      clear hr
      have HL3 := hid (HL.out.below HB3.out)
      obtain ⟨ao, cap, _, _, _, c2⟩ := HL3.out.cells
      obtain ⟨D, hD⟩ := HL3.out.wm
      have hlen := fun ty => hD.map.len Try.underlying50 ty
      rw [hD.cnt] at hlen
      have hfew := HL.out.fewW
      obtain ⟨N, HN⟩ : ∃ N, Hid (g.nw = N) := ⟨_, hid rfl⟩
      rw [HN.out] at hlen hfew
      by_cases h4 : 4096 ≤ N
      · have h4' : (4096 : Int) ≤ (N : Int) := by omega
        have H4 : Hid (4096 ≤ g.nw) := by rw [HN.out]; exact h4
        clear h4 hD
        go_wp2
        go_ret2
        exact PutP.full HM.out HQ.out.1 HQ.out.2 (.inr ⟨HR.out, H4.out⟩) (bt HB.out HB3.out)
      have h4' : ¬ (4096 : Int) ≤ (N : Int) := by omega
      have H4 : Hid (g.nw < 4096) := by rw [HN.out]; show _ < _; omega
      have HC2 := hid c2
      have HPL := hid (HL3.out.lt p (.inl rfl))
      have HNI : Hid (NoInt w3 (fun i => i = mw)) := noInt_map hD.map
      have HPM : Hid (p ≠ mw ∧ pb ≠ mw) := ⟨HL.out.pne.2, fun e => by have := HPW.out mw (.inr (.inr rfl)); have := HPP.out; omega⟩
      have HOW2 : Hid (∀ U, Sc w3 U → Calls Try.prog 26 #[.agg #[.int .i64 o, .int .i64 s, .slice ao1 XN cap1, .string ct, .int .i64 ep, .string sk, .int .i64 qt, .bool cl]] U fun e w' => ∃ bo cp, e = .returned (.agg #[.int .i64 o, .int .i64 s, .slice bo XN cp, .string ct, .int .i64 ep, .string sk, .int .i64 qt, .bool cl]) ∧ Hid (EvKeep w' ⟨⟨o, s, dp, ct, ep, sk, qt, cl⟩, bo, cp⟩) ∧ Sc w3 w') := fun U hU => by
        refine (HOWN.out U (bt HB3.out hU.out) HSZ.out.1 HSZ.out.2).mono ?_
        rintro e w' ⟨⟨ye, bo, cp⟩, rfl, hye, hyk, _, hb⟩
        obtain rfl : ye = ⟨o, s, dp, ct, ep, sk, qt, cl⟩ := hye
        refine ⟨bo, cp, ?_, hyk, hU.go hb⟩
        simp only [EvM.val]
        rw [HXN.out]
      have HPUT : Hid (∀ U bo cp, Hid (EvKeep U ⟨⟨o, s, dp, ct, ep, sk, qt, cl⟩, bo, cp⟩) → Sc w3 U → ∃ w6, (Instr.mapUpdate 50 (.map (some mw)) (.agg #[.int .i64 o, .int .i64 s]) (.agg #[.int .i64 o, .int .i64 s, .slice bo XN cp, .string ct, .int .i64 ep, .string sk, .int .i64 qt, .bool cl])).run Try.prog U = .ok () w6 ∧ Hid (LogAt w6 p me mw (waitG g ⟨⟨o, s, dp, ct, ep, sk, qt, cl⟩, bo, cp⟩)) ∧ Turns (fun i => i = mw) w3 w6) := fun U bo cp hk hU => by
        obtain ⟨Dw, h4⟩ := (HL3.out.below hU.out).wm
        obtain ⟨w6, h1, ⟨D6, h2⟩, h3⟩ := h4.put (by have := H4.out; unfold maxLen; omega) ⟨⟨o, s, dp, ct, ep, sk, qt, cl⟩, bo, cp⟩ hk.out (by have := HQ.out.1; rw [HEQ.out.1, HEQ.out.2] at this; exact this)
        simp only [EvM.val] at h1
        rw [HXN.out] at h1
        refine ⟨w6, h1, wait_at (HL3.out.below hU.out) (by have := HM.out; rw [HE0.out] at this; exact this) (by have := HQ.out.2; rw [HEQ.out.1, HEQ.out.2] at this; exact this) H4.out h2 h3, (Turns.of_below (F := fun i => i = mw) hU.out (Nat.le_refl _)).trans h3 (fun i hi => .inl hi)⟩
      have HTS : Hid (∀ U, Sc w3 U → Turns (fun i => i = mw) w3 U) := fun U hU => Turns.of_below hU.out (Nat.le_refl _)
      have HT0 : Hid (Turns (fun i => i = mw) w3 w3) := Turns.refl _ _
      have HSA : Hid (∀ U, Turns (fun i => i = mw) w3 U → (Turns (fun i => i = mw) w3 U ∧ U.cell? ⟨p, 2, none⟩ = some (.map (some mw)) ∧ U.cell? ⟨pb, 0, none⟩ = some (.int .i64 o) ∧ U.cell? ⟨pb, 1, none⟩ = some (.int .i64 s) ∧ U.cell? ⟨pb, 2, none⟩ = some (.slice ao1 XN cap1) ∧ U.cell? ⟨pb, 3, none⟩ = some (.string ct) ∧ U.cell? ⟨pb, 4, none⟩ = some (.int .i64 ep) ∧ U.cell? ⟨pb, 5, none⟩ = some (.string sk) ∧ U.cell? ⟨pb, 6, none⟩ = some (.int .i64 qt) ∧ U.cell? ⟨pb, 7, none⟩ = some (.bool cl))) := fun U hU => by
        have hb := hU.blk (HBX.out _ HB3.out) HPM.out.2
        obtain ⟨_, _, hbp, _, _⟩ := HL3.out.blk
        have hp := hU.blk hbp HPM.out.1
        exact ⟨hU, hp.cell rfl, hb.cell rfl, hb.cell rfl, hb.cell rfl, hb.cell rfl, hb.cell rfl, hb.cell rfl, hb.cell rfl, hb.cell rfl⟩
      clear h4 hD
      go_wp2
      clear hlen c2
      go_region_held3 (fun U => Turns (fun i => i = mw) w3 U ∧ U.cell? ⟨p, 2, none⟩ = some (.map (some mw)) ∧ U.cell? ⟨pb, 0, none⟩ = some (.int .i64 o) ∧ U.cell? ⟨pb, 1, none⟩ = some (.int .i64 s) ∧ U.cell? ⟨pb, 2, none⟩ = some (.slice ao1 XN cap1) ∧ U.cell? ⟨pb, 3, none⟩ = some (.string ct) ∧ U.cell? ⟨pb, 4, none⟩ = some (.int .i64 ep) ∧ U.cell? ⟨pb, 5, none⟩ = some (.string sk) ∧ U.cell? ⟨pb, 6, none⟩ = some (.int .i64 qt) ∧ U.cell? ⟨pb, 7, none⟩ = some (.bool cl))
        (first | (refine ⟨?_, ?_, ?_, ?_, ?_, ?_, ?_, ?_, ?_, ?_⟩ <;> assumption) | (refine HSA.out _ ?_; (repeat (first | assumption | exact HT0.out | apply Turns.drew))))
        (first
          | (go_at_call 26; with_reducible refine (HOW2.out _ (by (repeat (first | assumption | exact Sc.start _ | apply Sc.dr)))).mono ?_; rintro e w5 ⟨bo, cp, rfl, HKY, hs5⟩; have hT5 := HTS.out _ hs5; obtain ⟨w6, hrun, HF6, hT6⟩ := HPUT.out w5 bo cp HKY hs5))
      all_goals
        have HAT : Hid (AtG w p me mw (waitG g ⟨⟨o, s, dp, ct, ep, sk, qt, cl⟩, bo, cp⟩) w6) := ⟨HF6.out, (Turns.of_below (F := FootL p me mw) (bt HB.out HB3.out) (Nat.le_refl _)).trans hT6 (fun i hi => .inl (.inr (.inr hi)))⟩
        clear hrun
        go_wp2
        go_ret2
        exact PutP.waits (y := ⟨⟨o, s, dp, ct, ep, sk, qt, cl⟩, bo, cp⟩) HM.out HQ.out.1 HQ.out.2 HF.out HR.out H4.out HE0.out.symm HAT.out
end Go.Proofs.Ytcammngbhnhjjaa
/-
  The dots of the events that wait, in order: maps.Keys, slices.Collect, slices.SortedFunc.
-/
namespace Go.Proofs.Ytcammngbhnhjjaa
open Go.RowKit Go.Shelf Go.Maps
attribute [local go_sem] Oper.semAt_some

set_option maxRecDepth 100000 in
set_option maxHeartbeats 1000000 in
theorem keysLog_seq (n : Nat) (hn : 1 ≤ n) (Bm b nn : Nat) (D0 : DataW Value) (V : World) (hm : V.cell? ⟨Bm, 0, none⟩ = some (.map (some b))) (hown : V.ownsMap Try.prog 31 valR b nn D0) :
    SeqStopsK Fence.wide n Try.prog 47 #[.pointer (some ⟨Bm, 0, none⟩)] (fun x : Int × Int => #[dotV x]) KeepsWalks (fun ss => KeysOf' D0 ss ∧ ss.length ≤ Maps.size D0) (fun _ => True) (Maps.size D0) V := by
  intro l J Jx W hW hJ hJx hY h0
  have hm' : W.cell? ⟨Bm, 0, none⟩ = some (.map (some b)) := (hW.cell (World.block_lt_of_cell? V _ hm)).trans hm
  have hown' : W.ownsMap Try.prog 31 valR b nn D0 := (Turns.of_below (F := fun _ => False) hW (Nat.le_refl _)).map hown (fun h => h)
  have HAH := hid (allHeld_of hown)
  have HJ := hid hJ
  have HY := hid hY
  clear hm hown hW hJ hJx hY
  change CallsIn Fence.wide n Try.prog 47 #[.func (.yield l) #[] #[], .pointer (some ⟨Bm, 0, none⟩)] W _
  refine callsIn_of_wp Try.func47 rfl trivial ?_ rfl
  simp only [Try.ntmps47, List.size_toArray, List.length_cons, List.length_nil, Nat.reduceAdd, Nat.reduceSub, Array.replicate_succ, Array.replicate_zero, List.push_toArray, List.append_toArray, List.nil_append, List.cons_append]
  gi_wp2_with (first
    | (gi_at_range; refine wpListIn_range_own _ rfl _ 50 rfl 31 33 Try.keyedDot Try.underlying50 _ b nn _ rfl hown' ?_; intro w0 hrg0 hg0 hs0)
    | gi_in)
  gi_loopw [3] (fun _ wr => Hid (∃ (left : Lit → Bool) (cnt : Nat) (ss : List (Int × Int)), wr.ranges Try.prog 31 valR b W.heap.size nn D0 left cnt ∧ CollD D0 left ss ∧ J ss wr ∧ ss.length + cnt ≤ Maps.size D0 ∧ W.heap.size ≤ wr.heap.size))
    (fun _ wr => wr.rangeLeft b W.heap.size)
  case atStart =>
    exact ⟨_, _, [], hrg0, CollD.start D0, HJ.out [] W w0 none h0 hg0 (fun r e => by cases e), by simp, hg0.size⟩
  case round =>
    obtain ⟨left, cnt, ss, hrg, hC, hJs, hcnt, hsz⟩ := hrel.out
    clear hrel
    gi_wp2_with (first
      | (gi_at_next; refine wpListIn_next_ranges _ rfl _ rfl 31 Try.keyedDot valR (fun x : Int × Int => dotV x) (fun v : Value => v) (fun key kl hk => by obtain ⟨o, s, hx, _⟩ := dk_inv hk; exact ⟨(o, s), hx⟩) (fun v y _ => ⟨v, rfl⟩) b W.heap.size nn _ _ _ rfl hrg ?_ ?_)
      | gi_in)
    · intro hc0 hl0
      gi_wp2
      refine bodyPost_end (results_none rfl _ _ _) rfl ?_
      exact ⟨⟨_, rfl⟩, .inl ⟨ss, ⟨hC.done HAH.out hl0, by omega⟩, hJs⟩⟩
    · intro o s v kl yd yp w2 cnt2 hkey hlk hv hat hrg2 hlt hg2 hs2 hen
      obtain ⟨o', s', he, rfl, ho, hs⟩ := dk_inv hkey
      have hee : o = o' ∧ s = s' := by simpa [dotV, dotVal] using he
      obtain ⟨rfl, rfl⟩ := hee
      have hyd : yd = .held v := by
        unfold valR at hv
        cases hv
        rfl
      subst hyd
      have HH : Hid (Maps.has D0 (dk o s) = true) := by
        show _ = _
        rw [has_look HAH.out, look_at hat]
        rfl
      have hJ2 : J ss w2 := HJ.out ss wr w2 (some W.heap.size) hJs hg2 (fun r e => by cases e; exact ⟨Nat.le_refl _, hrg.iter_walk⟩)
      have hJ3 : J ss (w2.alloc (.cells #[.int .i64 o, .int .i64 s] 31)) := HJ.out ss w2 _ none hJ2 (World.grownBy_alloc w2 _ none) (fun r e => by cases e)
      obtain ⟨fn, tmps, assign, body, hy, hR⟩ := HY.out ss (o, s) _ hJ3 (by omega)
      have HR := hid hR
      have HRG := hid (hrg2.alloc (.cells #[.int .i64 o, .int .i64 s] 31))
      have HC2 := hid (hC.step ho hs hlk HH.out)
      have HCN : Hid ((ss ++ [(o, s)]).length + cnt2 ≤ Maps.size D0) := (by simp; omega : (ss ++ [(o, s)]).length + cnt2 ≤ Maps.size D0)
      have HLT : Hid (∀ w9 : World, w9.ranges Try.prog 31 valR b W.heap.size nn D0 (fun z => left z && !z.sameKey (dk o s)) cnt2 → w9.rangeLeft b W.heap.size < wr.rangeLeft b W.heap.size) := fun w9 h9 => by rw [h9.left_eq, hrg.left_eq]; exact hlt
      have HSZ : Hid (W.heap.size ≤ w2.heap.size) := Nat.le_trans hsz hg2.size
      clear hR hs2 hJ2 hJ3 hrg2 hat hlk hkey hv hg2 hcnt hlt
      dsimp only [dotV] at hy hen ⊢
      gi_wp2
      refine HR.out.mono ?_
      rintro e W3 (⟨rfl, hJ4, hk4⟩ | ⟨rfl, hJx4⟩)
      · have HJ4 := hid hJ4
        have HRG4 := hid (HRG.out.of_walks hk4)
        have HS4 : Hid (W.heap.size ≤ W3.heap.size) := Nat.le_trans (Nat.le_trans HSZ.out (by simp)) hk4.size
        clear hJ4 hk4 HR hy
        gi_wp2
        go_roundw
        case rel => exact ⟨_, cnt2, ss ++ [(o, s)], HRG4.out, HC2.out, HJ4.out, HCN.out, HS4.out⟩
        case measure => exact HLT.out _ HRG4.out
      · have HJ4 := hid hJx4
        clear hJx4 HR hy
        gi_wp2
        refine bodyPost_ret (results_none rfl _ _ _) rfl ?_
        exact ⟨⟨_, rfl⟩, .inr ⟨_, trivial, HJ4.out⟩⟩
theorem keysLog_any (w : World) (mb : Option Nat) : Calls Try.prog 33 #[.map mb] w fun e w' => e = .returned (.func (.func 47) #[] #[.pointer (some ⟨w.heap.size, 0, none⟩)]) ∧ w' = w.alloc (.cells #[.map mb] 50) := by
  go_enter Try.func33, Try.ntmps33
  go_wp2
  go_ret
  exact ⟨rfl, rfl⟩
set_option maxRecDepth 100000 in
set_option maxHeartbeats 1000000 in
theorem appendSeqLog (w : World) (Bm b nn : Nat) (D0 : DataW Value) (hm : w.cell? ⟨Bm, 0, none⟩ = some (.map (some b))) (hown : w.ownsMap Try.prog 31 valR b nn D0) (hsz : Maps.size D0 ≤ 65536) :
    Calls Try.prog 56 #[.slice none 0 0, .func (.func 47) #[] #[.pointer (some ⟨Bm, 0, none⟩)]] w (AnsK w D0) := by
  refine (callsIn_wide (n := 5)).1 ?_
  obtain ⟨W0, hW0⟩ : ∃ W0, W0 = w.alloc (.cells #[.slice none 0 0] 45) := ⟨_, rfl⟩
  have HB0 : Hid (Below w.heap.size w W0) := by rw [hW0]; exact (Below.refl _ w).alloc (Nat.le_refl _) _
  have HBX : Hid (Boxed W0 w.heap.size 45 (.slice none 0 0)) := by rw [hW0]; exact Boxed.new w 45 _
  have HS0 : Hid (W0.heap.size = w.heap.size + 1) := by rw [hW0]; exact World.size_alloc w _
  have HSQ := hid (keysLog_seq 4 (by omega) Bm b nn D0 W0 ((HB0.out.cell (World.block_lt_of_cell? w _ hm)).trans hm) ((Turns.of_below (F := fun _ => False) HB0.out (Nat.le_refl _)).map hown (fun h => h)))
  clear hm hown
  refine callsIn_of_wp_marks Try.func56 rfl trivial ?_ rfl
  simp only [Try.ntmps56, List.size_toArray, List.length_cons, List.length_nil, Nat.reduceAdd, Nat.reduceSub, Array.replicate_succ, Array.replicate_zero, List.push_toArray, List.append_toArray, List.nil_append, List.cons_append]
  gi_wp2
  rw [← hW0]
  clear hW0
  have hseq := HSQ.out
  have hs0 := HS0.out
  apply wpIn_rangeFunc_boxA (encs := fun x : Int × Int => #[dotV x]) (Kp := KeepsWalks) rfl (by omega) (gf := 47) (lb := #[.pointer (some ⟨Bm, 0, none⟩)]) rfl trivial (enters_of Try.func47 (by kernel_rfl) rfl)
    hseq (fun a b => walksK_t a b) (fun W l o o' hl ho hc hw => walksK_b (w := W0) W l o o' hl ho hc hw) (Below.refl _ _) (fun _ => rfl) (Coll w w.heap.size) (coll_own w w.heap.size W0.heap.size (by omega) (Nat.le_refl _))
    ⟨none, 0, HBX.out, ⟨rfl, .inl ⟨rfl, rfl⟩⟩, HB0.out⟩ (Bx := fun x => [.int .i64 x.1, .int .i64 x.2]) (t := 31) (B := w.heap.size + 1)
  case hassign =>
    intro l pre x W K hIp hK
    dsimp only [dotV]
    have hsW : w.heap.size + 1 ≤ W.heap.size := by
      obtain ⟨_, _, hb, _, _⟩ := hIp
      exact hb.lt
    gi_wp2
    obtain ⟨g, hg⟩ : ∃ g, g = W.heap.size := ⟨_, rfl⟩
    have hbk : Blk (W.alloc (.cells #[.int .i64 x.1, .int .i64 x.2] 31)) g 31 [.int .i64 x.1, .int .i64 x.2] := by rw [hg]; exact Blk.new W 31 [.int .i64 x.1, .int .i64 x.2]
    rw [← hg]
    exact hK g (W.alloc (.cells #[.int .i64 x.1, .int .i64 x.2] 31)) ((KeepsOthers.alloc W _).from _) (KeepsOthers.alloc W _).walks ((coll_own w w.heap.size W0.heap.size (by omega) (Nat.le_refl _)).alloc _ hIp) hbk (by omega)
  case hbody =>
    rintro l pre ⟨x1, x2⟩ g W ⟨eo, cap, hbx, hrow, hbl⟩ hbk hgl hlt
    have hcb := hbx.cell
    have hfb := hbx.frozen
    have c0 := hbk.cell (i := 0) rfl
    have c1 := hbk.cell (i := 1) rfl
    have HROW := hid hrow
    have HBOX := hid hbx
    have HBL := hid hbl
    have hlt2 := hbx.lt
    have HPL : Hid (pre.length ≤ 1000000) := (by omega : pre.length ≤ 1000000)
    have HSW : Hid (w.heap.size ≤ W.heap.size) := hbl.size
    clear hrow hbx hbl hbk hlt
    gi_wp2_with (gi_at_builtin; refine wpListIn_append_dot W _ (x1, x2) rfl rfl _ _ rfl w.heap.size _ pre rfl rfl HROW.out HSW.out HPL.out ?_)
    intro v' w' hown' hb' hgrow
    have hk1 : KeepsOthers W w' := (KeepsOthers.alloc W _).trans (keeps_row (HROW.out.alloc _) hgrow)
    have hbx' : Boxed w' w.heap.size 45 (.slice eo pre.length cap) := (HBOX.out.alloc _).kept hgrow (fun e => by
      have := (show Blk W w.heap.size 45 [.slice eo pre.length cap] from HBOX.out).not_row (by decide) HROW.out
      exact this e)
    have hcb2 := hbx'.cell
    have hfb2 := hbx'.frozen
    have hl1 : (pre ++ [(x1, x2)]).length = pre.length + 1 := by simp
    obtain ⟨eo2, cap2, rfl⟩ := own_slice hown'
    have HL1 := hid hl1
    have HK1 := hid hk1
    have HBX' := hid hbx'
    have HOWN' := hid hown'
    have HBL' : Hid (Below w.heap.size w w') := HBL.out.trans hb'
    clear hk1 hbx' hown' hb' hgrow hl1
    gi_wp2
    refine ⟨(HK1.out.trans (KeepsOthers.setCell _ _ _)).from _, (HK1.out.trans (KeepsOthers.setCell _ _ _)).walks, eo2, cap2, by rw [HL1.out]; exact HBX'.out.set _, ?_, HBL'.out.setCell (p := ⟨w.heap.size, 0, none⟩) (Nat.le_refl _) _⟩
    rw [HL1.out]
    have hnr := (show Blk w' w.heap.size 45 [.slice eo pre.length cap] from HBX'.out).not_row (by decide) HOWN'.out
    exact ((Turns.refl (fun i => i = w.heap.size) w').setCell (p := ⟨w.heap.size, 0, none⟩) (.inl rfl) _).row HOWN'.out (fun g hg e => hnr (by rw [hg, e]))
  case hafter =>
    rintro D xs W hD ⟨hkeys, hlen⟩ ⟨eo, cap, hbx, hrow, hbl⟩ hDef
    have hcb := hbx.cell
    have HROW := hid hrow
    have HBL := hid hbl
    have HK := hid hkeys
    have HL := hid hlen
    have HDef := hid hDef
    clear hrow hbl hkeys hlen hDef
    gi_wp2
    refine ⟨by simp, .inl ⟨_, _, rfl, run_takeDeferred HDef.out, ?_⟩⟩
    refine ⟨_, results_tmp rfl _ _ _, _, xs, rfl, HK.out, HL.out, ?_, HBL.out.trans (belowK_b (w := w) (Nat.le_refl _) _ D _ _ (by omega) HDef.out rfl rfl)⟩
    refine (Turns.of_grown (F := fun i => i = D) (grownBy_putObj' W D (.deferred none)) (fun k e => by cases e; rfl)).row HROW.out (fun g hg e => ?_)
    subst e
    rcases HROW.out.2 with ⟨h0, _⟩ | ⟨g', c', cur, h0, _, hb, _⟩
    · rw [h0] at hg
      simp [Value.ownBlock] at hg
    · rw [h0] at hg
      have : g' = g := by simpa [Value.ownBlock] using hg
      subst this
      rw [HDef.out] at hb
      cases hb
theorem collectLog (w : World) (Bm b nn : Nat) (D0 : DataW Value) (hm : w.cell? ⟨Bm, 0, none⟩ = some (.map (some b))) (hown : w.ownsMap Try.prog 31 valR b nn D0) (hsz : Maps.size D0 ≤ 65536) :
    Calls Try.prog 45 #[.func (.func 47) #[] #[.pointer (some ⟨Bm, 0, none⟩)]] w (AnsK w D0) := by
  have H := hid (appendSeqLog w Bm b nn D0 hm hown hsz)
  clear hm hown hsz
  go_enter Try.func45, Try.ntmps45
  go_wp2_with fail
  refine H.out.mono ?_
  rintro e w' ⟨v, ss, rfl, h1, h2, h3, h4⟩
  have H1 := hid h1
  have H2 := hid h2
  have H3 := hid h3
  have H4 := hid h4
  clear h1 h2 h3 h4
  go_wp2
  go_ret
  exact ⟨v, ss, rfl, H1.out, H2.out, H3.out, H4.out⟩
theorem sortedLog (w : World) (Bm b nn : Nat) (D0 : DataW Value) (hm : w.cell? ⟨Bm, 0, none⟩ = some (.map (some b))) (hown : w.ownsMap Try.prog 31 valR b nn D0) (hsz : Maps.size D0 ≤ 65536) :
    Calls Try.prog 32 #[.func (.func 47) #[] #[.pointer (some ⟨Bm, 0, none⟩)], .func (.func 34) #[] #[]] w (AnsX w D0) := by
  have H := hid (collectLog w Bm b nn D0 hm hown hsz)
  clear hm hown
  go_enter Try.func32, Try.ntmps32
  go_wp2_with fail
  refine H.out.mono ?_
  rintro e w1 ⟨v, ss, rfl, h1, h2, h3, h4⟩
  have H1 := hid h1
  have H2 := hid h2
  have H3 := hid h3
  have H4 := hid h4
  rcases h3.2 with ⟨rfl, h0⟩ | ⟨g, cap, cur, rfl, hbg, _⟩
  · have hss : ss = [] := List.eq_nil_of_length_eq_zero h0
    subst hss
    clear h1 h2 h3 h4
    go_wp2_with fail
    refine (sortD_nil w1 34).mono ?_
    rintro e w2 ⟨rfl, rfl⟩
    go_wp2
    go_ret
    exact ⟨_, [], rfl, ⟨H1.out, .nil⟩, H2.out, H3.out, H4.out⟩
  · have HS := hid (sortLog_some h3 (by omega))
    have HBG := hid hbg
    clear h1 h2 h3 h4 hbg
    obtain ⟨L, HL⟩ : ∃ L, Hid (ss.length = L) := ⟨_, hid rfl⟩
    rw [HL.out] at HS ⊢
    go_wp2_with fail
    refine HS.out.mono ?_
    rintro e w2 ⟨rfl, hs, hp, hw, ho, hg⟩
    have HP := hid hp
    have HW := hid hw
    have HO := hid ho
    have HG := hid hg
    clear hp hw ho hg
    go_wp2
    go_ret
    have hl : hs.length = L := by rw [← HL.out]; exact HP.out.length_eq
    refine ⟨_, hs, rfl, sorted_keys H1.out HP.out (HW.out.imp (fun {a b} h => by omega)), by rw [HP.out.length_eq]; exact H2.out, by rw [hl]; exact HO.out, H4.out.grown HG.out H4.out.size (fun k e => by cases e; exact HBG.out)⟩
end Go.Proofs.Ytcammngbhnhjjaa
