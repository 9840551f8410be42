/-
  Package oplog: apply.
-/
import Derived.Test.YtcammngbhnhjjaaLogC
namespace Go.Proofs.Ytcammngbhnhjjaa
open Go.RowKit Go.Maps

def updD (S : Dots) (o s : Int) (v : Option EvM) : Dots := fun o' s' => if o' = o ∧ s' = s then v else S o' s'
theorem updD_same (S : Dots) (o s : Int) (v : Option EvM) : updD S o s v o s = v := by simp [updD]
theorem updD_other (S : Dots) {o s o' s' : Int} (v : Option EvM) (h : ¬ (o' = o ∧ s' = s)) : updD S o s v o' s' = S o' s' := by simp [updD, h]
section
variable {w : World} {m n : Nat} {S : Dots} {D : DataW Value}
theorem EvMap.put (h : EvMap w m S n D) (hn : n < maxLen) (x : EvM) (hk : EvKeep w x) (hS : S x.e.o x.e.s = none) :
    ∃ w2, (Instr.mapUpdate 50 (.map (some m)) (.agg #[.int .i64 x.e.o, .int .i64 x.e.s]) x.val).run Try.prog w = .ok () w2 ∧ (∃ D', EvMap w2 m (updD S x.e.o x.e.s (some x)) (n + 1) D') ∧ Turns (fun i => i = m) w w2 := by
  have hx := hk.ok
  obtain ⟨w2, hrun, hown, hturn⟩ := h.map.store Try.keyedDot Try.underlying50 hn (key_dot hx.io hx.is) (show valR x.val = some (.held x.val, []) from rfl)
  have ht : Turns (fun i => i = m) w w2 := Turns.of_grown (F := fun i => i = m) hturn.grown (fun k hk => by cases hk; rfl)
  have hni := noInt_map h.map
  refine ⟨w2, hrun, ⟨_, hown, fun o s ho hs => ?_, fun o s y hy => ?_, ?_⟩, ht⟩
  · by_cases e : o = x.e.o ∧ s = x.e.s
    · obtain ⟨rfl, rfl⟩ := e
      rw [look_put_same h.map.isMap (Try.keyedDot.key (key_dot ho hs)), updD_same]
      rfl
    · rw [look_put_other (fun k => e (dk_inj ho hs hx.io hx.is k)), updD_other S _ e]
      exact h.key o s ho hs
  · by_cases e : o = x.e.o ∧ s = x.e.s
    · obtain ⟨rfl, rfl⟩ := e
      rw [updD_same] at hy
      cases hy
      exact ⟨hk.noInt hni ht, rfl, rfl⟩
    · rw [updD_other S _ e] at hy
      exact ⟨(h.ok o s y hy).1.noInt hni ht, (h.ok o s y hy).2⟩
  · have h1 := size_put (k := dk x.e.o x.e.s) (size_tidy h.map) (.held x.val)
    rw [has_look (allHeld_of h.map), h.key _ _ hx.io hx.is, hS] at h1
    have := h.cnt
    simp at h1
    omega
theorem EvMap.del (h : EvMap w m S n D) {o s : Int} (ho : I64 o) (hs : I64 s) {x : EvM} (hS : S o s = some x) (ty : TypeId) :
    ∃ w2, (Builtin.delete_ #[50, 31] ty #[.map (some m), .agg #[.int .i64 o, .int .i64 s]]).run Try.prog w = .ok (.tuple #[]) w2 ∧ (∃ D', EvMap w2 m (updD S o s none) (n - 1) D') ∧ 1 ≤ n ∧ Turns (fun i => i = m) w w2 := by
  obtain ⟨w2, hrun, hown, hturn⟩ := h.map.drop Try.keyedDot Try.underlying50 (key_dot ho hs) ty
  have ht : Turns (fun i => i = m) w w2 := Turns.of_grown (F := fun i => i = m) hturn.grown (fun k hk => by cases hk; rfl)
  have hni := noInt_map h.map
  have h1 := size_del (k := dk o s) (size_tidy h.map)
  rw [has_look (allHeld_of h.map), h.key _ _ ho hs, hS] at h1
  have h2 := h.cnt
  simp at h1
  have hcnt : Maps.size (D.del (dk o s)) = n - 1 := by omega
  have hown' := own_tight hown
  rw [hcnt] at hown'
  refine ⟨w2, hrun, ⟨_, hown', fun o' s' ho' hs' => ?_, fun o' s' y hy => ?_, hcnt⟩, by omega, ht⟩
  · by_cases e : o' = o ∧ s' = s
    · obtain ⟨rfl, rfl⟩ := e
      rw [look_del_same, updD_same]
      rfl
    · rw [look_del_other (fun k => e (dk_inj ho' hs' ho hs k)), updD_other S _ e]
      exact h.key o' s' ho' hs'
  · by_cases e : o' = o ∧ s' = s
    · obtain ⟨rfl, rfl⟩ := e
      rw [updD_same] at hy
      cases hy
    · rw [updD_other S _ e] at hy
      exact ⟨(h.ok o' s' y hy).1.noInt hni ht, (h.ok o' s' y hy).2⟩
end
/-- The vector with one more of an origin. -/
def addA (A : List Int) (e : Ev) : List Int := plainOf (withOf A e.o.toNat e.s)
/-- The log with x applied. -/
def applyG (g : Lg) (x : EvM) : Lg := ⟨addA g.A x.e, updD g.E x.e.o x.e.s (some x), g.W, g.ne + 1, g.nw⟩
theorem addA_getD (A : List Int) (e : Ev) (i : Nat) : (addA A e).getD i 0 = if i = e.o.toNat then e.s else A.getD i 0 := by
  unfold addA
  rw [plain_getD, with_getD]
theorem addA_of (A : List Int) (e : Ev) (h0 : 0 ≤ e.o) (o : Int) : ofV (addA A e) o = if o = e.o then e.s else ofV A o := by
  by_cases hn : o < 0
  · have h1 : ∀ B, ofV B o = 0 := fun B => by unfold ofV; rw [if_pos (.inl hn)]
    rw [h1, h1, if_neg (by omega)]
  · obtain ⟨k, rfl⟩ := Int.eq_ofNat_of_zero_le (show 0 ≤ o by omega)
    rw [ofV_nat, ofV_nat, addA_getD]
    by_cases e1 : (k : Int) = e.o
    · rw [if_pos (by omega), if_pos e1]
    · rw [if_neg (by omega), if_neg e1]
theorem addA_may {A : List Int} {e : Ev} (h : MayV A) (hf : EvFacts e) : MayV (addA A e) := by
  have hl : (withOf A e.o.toNat e.s).length ≤ 7 := by rw [with_len]; have := hf.o; have := h.1; omega
  refine ⟨?_, fun x hx => ?_⟩
  · have h1 := endOf_le (withOf A e.o.toNat e.s)
    unfold addA
    rw [plain_len]
    omega
  · obtain ⟨i, hi, rfl⟩ := List.mem_iff_getElem.1 hx
    have h1 := addA_getD A e i
    have h2 : (addA A e).getD i 0 = (addA A e)[i] := by simp [List.getD, List.getElem?_eq_getElem hi]
    rw [← h2, h1]
    split
    · exact hf.s
    · by_cases hk : i < A.length
      · exact h.2 _ (getD_mem hk)
      · rw [getD_far (by omega)]
        omega
theorem addA_has {A : List Int} {e : Ev} (hm : MayE e) (hr : ReadyE A e) (o s : Int) : HasV (addA A e) o s ↔ HasV A o s ∨ (o = e.o ∧ s = e.s) := by
  have hf := rightEv_iff hm.1
  unfold HasV
  rw [addA_of A e hf.o.1]
  have h1 := hr.1
  have h2 := hm.2.1
  by_cases e1 : o = e.o
  · subst e1
    rw [if_pos rfl]
    constructor
    · intro h
      by_cases e2 : s = e.s
      · exact .inr ⟨rfl, e2⟩
      · left; omega
    · rintro (h | ⟨_, h⟩) <;> omega
  · rw [if_neg e1]
    constructor
    · intro h
      exact .inl h
    · rintro (h | ⟨h, _⟩)
      · exact h
      · exact absurd h e1
theorem below_has {a b : List Int} : BelowV a b → (∀ i : Nat, a.getD i 0 ≤ b.getD i 0) := fun h i => belowV_iff.1 h i
theorem addA_above {A : List Int} {e : Ev} (hm : MayE e) (hr : ReadyE A e) {v : List Int} (h : BelowV v A) : BelowV v (addA A e) := by
  have hf := rightEv_iff hm.1
  refine belowV_iff.2 fun i => ?_
  have h1 := belowV_iff.1 h i
  rw [addA_getD]
  split
  · next e1 =>
    have h2 := hr.1
    have h3 : ofV A e.o = A.getD i 0 := by
      have := ofV_nat A e.o.toNat
      rw [show ((e.o.toNat : Nat) : Int) = e.o by have := hf.o; omega] at this
      rw [this, e1]
    omega
  · exact h1
end Go.Proofs.Ytcammngbhnhjjaa
/-
  Package oplog: apply in memory.
-/
namespace Go.Proofs.Ytcammngbhnhjjaa
open Go.RowKit Go.Maps

/-- What a call on the log leaves. -/
def AtG (w : World) (p me mw : Nat) (g : Lg) (w' : World) : Prop := LogAt w' p me mw g ∧ Turns (FootL p me mw) w w'
theorem applied_at {W w6 : World} {p me mw : Nat} {g : Lg} {x : EvM} (h : LogAt W p me mw g) (hm : MayE x.e) (hr : ReadyE g.A x.e) (hw : g.W x.e.o x.e.s = none) (hn : g.ne < 65536) {bo : Option Addr} {cp : Nat}
    (blk : Blk w6 p 52 [.slice bo (addA g.A x.e).length cp, .map (some me), .map (some mw)]) (hv : HV w6 bo cp (addA g.A x.e)) (hne : NEv w6 bo (addA g.A x.e)) {D1 D2 : DataW Value} (em : EvMap w6 me (updD g.E x.e.o x.e.s (some x)) (g.ne + 1) D1) (wm : EvMap w6 mw g.W g.nw D2) : LogAt w6 p me mw (applyG g x) := by
  refine ⟨⟨bo, cp, blk, hv, hne⟩, h.apart, addA_may h.may (rightEv_iff hm.1), ⟨D1, em⟩, ⟨D2, wm⟩, fun o s => ?_, fun o s y hy => ?_, fun o s y hy => ?_, hn, h.fewW⟩
  · show (updD g.E x.e.o x.e.s (some x) o s).isSome = true ↔ HasV (addA g.A x.e) o s
    rw [addA_has hm hr]
    by_cases e : o = x.e.o ∧ s = x.e.s
    · obtain ⟨rfl, rfl⟩ := e
      rw [updD_same]
      exact ⟨fun _ => .inr ⟨rfl, rfl⟩, fun _ => rfl⟩
    · rw [updD_other _ _ e, h.has]
      exact ⟨.inl, fun k => k.elim id (fun k => absurd k e)⟩
  · have hy' : updD g.E x.e.o x.e.s (some x) o s = some y := hy
    by_cases e : o = x.e.o ∧ s = x.e.s
    · obtain ⟨rfl, rfl⟩ := e
      rw [updD_same] at hy'
      cases hy'
      exact ⟨hm, addA_above hm hr hr.2⟩
    · rw [updD_other _ _ e] at hy'
      have := h.evs o s y hy'
      exact ⟨this.1, addA_above hm hr this.2⟩
  · have := h.wait o s y hy
    refine ⟨this.1, fun hh => ?_⟩
    rcases (addA_has hm hr o s).1 hh with h1 | ⟨rfl, rfl⟩
    · exact this.2 h1
    · have hy' : g.W x.e.o x.e.s = some y := hy
      rw [hw] at hy'
      cases hy'
set_option maxRecDepth 100000 in
set_option maxHeartbeats 2000000 in
theorem applyL_any {w : World} {p me mw : Nat} {g : Lg} (h : LogAt w p me mw g) (x : EvM) (hx : EvKeep w x) (hm : MayE x.e) (hr : ReadyE g.A x.e) (hw : g.W x.e.o x.e.s = none) (hn : g.ne < 65536) :
    Calls Try.prog 39 #[.pointer (some ⟨p, 0, none⟩), x.val] w fun e w' => e = .returned (.tuple #[]) ∧ AtG w p me mw (applyG g x) w' := by
  obtain ⟨W, hW⟩ : ∃ W, W = w.alloc (.cells x.cells.toArray 33) := ⟨_, rfl⟩
  have HB : Hid (Below w.heap.size w W) := by rw [hW]; exact (Below.refl _ _).alloc (Nat.le_refl _) _
  have HK : Hid (Blk W w.heap.size 33 x.cells) := by rw [hW]; exact Blk.new w _ _
  have HL := hid (h.below HB.out)
  have HOX := hid (hx.below HB.out)
  have HW := hid hW
  have HMM := hid hm
  have HRR := hid hr
  have HWW := hid hw
  have HNN := hid hn
  have HF := hid (rightEv_iff hm.1)
  have HPW : Hid (∀ i, FootL p me mw i → i < w.heap.size) := h.lt
  clear hW hx h hm hr hw hn
  obtain ⟨ao, cap, hb, hv, _⟩ := HL.out.blk
  have HBp := hid hb
  have HNI : Hid (NoInt W (fun i => i = p)) := fun i hi => HL.out.noInt i (.inl hi)
  have HWT : Hid (∀ V, Sc W V → Calls Try.prog 11 #[.slice ao g.A.length cap, .int .i64 x.e.o, .int .i64 x.e.s] V fun e w' => ∃ bo cp, e = .returned (.tuple #[.slice bo (addA g.A x.e).length cp, .int .i64 0]) ∧ Hid (HV w' bo cp (addA g.A x.e) ∧ NEv w' bo (addA g.A x.e)) ∧ Sc W w') := fun V hV => by
    have := with_new V ao cap g.A g.A.length rfl (hv.below hV.out) x.e.o.toNat (by have := HF.out.o; omega) x.e.s HF.out.s
    rw [show ((x.e.o.toNat : Nat) : Int) = x.e.o by have := HF.out.o; omega] at this
    refine this.mono ?_
    rintro e w' ⟨cp, rfl, h1, h3, h2⟩
    exact ⟨_, cp, rfl, ⟨h1, nev_int h3⟩, hV.go h2⟩
  obtain ⟨L, HLn⟩ : ∃ z, Hid (g.A.length = z) := ⟨_, hid rfl⟩
  obtain ⟨M, HMn⟩ : ∃ z, Hid ((addA g.A x.e).length = z) := ⟨_, hid rfl⟩
  rw [HLn.out, HMn.out] at HWT
  rw [HLn.out] at HBp
  have HPB : Hid (w.heap.size ≠ p) := fun e => by have := HPW.out p (.inl rfl); omega
  clear hb hv
  obtain ⟨⟨o, s, dp, ct, ep, sk, qt, cl⟩, ao1, cap1⟩ := x
  obtain ⟨XN, HXN⟩ : ∃ m, Hid (dp.length = m) := ⟨_, hid rfl⟩
  simp only [EvM.val, EvM.cells] at HW HK ⊢
  rw [HXN.out] at HW HK ⊢
  dsimp only at HWT
  have HSA : Hid (∀ V, Turns (fun i => i = p) W V → (Turns (fun i => i = p) W V ∧ V.cell? ⟨w.heap.size, 0, none⟩ = some (.int .i64 o) ∧ V.cell? ⟨w.heap.size, 1, none⟩ = some (.int .i64 s))) := fun V hV => by
    have hb := hV.blk HK.out HPB.out
    exact ⟨hV, hb.cell rfl, hb.cell rfl⟩
  have HT0 : Hid (Turns (fun i => i = p) W W) := Turns.refl _ _
  have c0 : W.drew.cell? ⟨p, 0, none⟩ = some (.slice ao L cap) := HBp.out.cell (i := 0) rfl
  have c0' : W.cell? ⟨p, 0, none⟩ = some (.slice ao L cap) := HBp.out.cell (i := 0) rfl
  go_enter Try.func39, Try.ntmps39
  go_wp2
  rw [← HW.out]
  obtain ⟨pb, hpb⟩ : ∃ z, z = w.heap.size := ⟨_, rfl⟩
  rw [← hpb] at HSA HPB HK ⊢
  have HPP := hid hpb
  clear hpb
  have b0 : W.drew.cell? ⟨pb, 0, none⟩ = some (.int .i64 o) := HK.out.cell (i := 0) rfl
  have b1 : W.drew.cell? ⟨pb, 1, none⟩ = some (.int .i64 s) := HK.out.cell (i := 1) rfl
  go_region_with (go_at_call 11; refine (HWT.out _ (Sc.dr0 W)).mono ?_; rintro e w5 ⟨bo, cp, rfl, HV5, hs5⟩; have hb5 := HBp.out.below hs5.out HBp.out.lt; have d0 := hb5.cell (i := 0) rfl; have f0 := hb5.frozen 0)
  all_goals
    have hbV := hb5.set 0 (.slice bo M cp)
    have hni : NoInt w5 (fun i => i = p) := noInt_blk hb5 (by simp)
    have htV : Turns (fun i => i = p) w5 (w5.setCell ⟨p, 0, none⟩ (.slice bo M cp)) := (Turns.refl (fun i => i = p) w5).setCell (p := ⟨p, 0, none⟩) (.inl rfl) _
    have hkV := htV.blk (HK.out.below hs5.out HK.out.lt) HPB.out
    have hvV := HV5.out.1.noInt hni htV
    have hneV := HV5.out.2.stay HV5.out.1.held htV (noInt_off HV5.out.1.held hni)
    have hxV := (HOX.out.below hs5.out).noInt hni htV
    obtain ⟨De, hem⟩ := HL.out.em
    obtain ⟨Dw, hwm⟩ := HL.out.wm
    have hemV := (hem.below hs5.out).turned htV (fun e => HL.out.pne.1 e.symm) hni
    have hwmV := (hwm.below hs5.out).turned htV (fun e => HL.out.pne.2 e.symm) hni
    have HT1 : Hid (Turns (FootL p me mw) W (w5.setCell ⟨p, 0, none⟩ (.slice bo M cp))) := (Turns.of_below (F := FootL p me mw) hs5.out (Nat.le_refl _)).trans htV (fun i hi => .inl (.inl hi))
    have HEN : Hid (g.E o s = none) := by
      cases hE : g.E o s with
      | none => rfl
      | some y =>
        have h1 := (HL.out.has o s).1 (by rw [hE]; rfl)
        have h2 := h1.2
        have h3 : s = ofV g.A o + 1 := HRR.out.1
        omega
    obtain ⟨V, hV⟩ : ∃ V, V = w5.setCell ⟨p, 0, none⟩ (.slice bo M cp) := ⟨_, rfl⟩
    rw [← hV] at hbV hkV hvV hneV hxV hemV hwmV HT1 ⊢
    obtain ⟨w6, hrun, ⟨D6, hem6⟩, ht6⟩ := EvMap.put (w := V.drew) (hemV.below (below_dr (Below.refl _ _))) (by have := HNN.out; unfold maxLen; omega) ⟨⟨o, s, dp, ct, ep, sk, qt, cl⟩, ao1, cap1⟩ (hxV.below (below_dr (Below.refl _ _))) HEN.out
    simp only [EvM.val] at hrun
    rw [HXN.out] at hrun
    have hpm : p ≠ me := HL.out.pne.1
    have hbm : pb ≠ me := fun e => by have := HPW.out me (.inr (.inl rfl)); rw [← HPP.out] at this; omega
    have hb6 := ht6.blk (show Blk V.drew p 52 _ from hbV) hpm
    have hk6 := ht6.blk (show Blk V.drew pb 33 _ from hkV) hbm
    have hni6 : NoInt V.drew (fun i => i = me) := noInt_map (show V.drew.ownsMap _ _ _ _ _ _ from hemV.map)
    have HV6 : Hid (HV w6 bo cp (addA g.A ⟨o, s, dp, ct, ep, sk, qt, cl⟩)) := (show HV V.drew bo cp _ from hvV.below (below_dr (Below.refl _ _))).noInt hni6 ht6
    have HN6 : Hid (NEv w6 bo (addA g.A ⟨o, s, dp, ct, ep, sk, qt, cl⟩)) := NEv.stay (w := V.drew) hneV (hvV.below (below_dr (Below.refl _ _))).held ht6 (noInt_off (hvV.below (below_dr (Below.refl _ _))).held hni6)
    have HW6 := hid ((hwmV.below (below_dr (Below.refl _ _))).turned ht6 (fun e => HL.out.apart e.symm) hni6)
    have HE6 := hid hem6
    have HB6 := hid hb6
    have HT6 : Hid (Turns (FootL p me mw) w w6) := (Turns.of_below (F := FootL p me mw) HB.out (Nat.le_refl _)).trans ((HT1.out.drew).trans ht6 (fun i hi => .inl (.inr (.inl hi)))) (fun i hi => .inl hi)
    have a1 := hbV.cell (i := 1) rfl
    have k0 := hkV.cell (i := 0) rfl
    have k1 := hkV.cell (i := 1) rfl
    have k2 := hkV.cell (i := 2) rfl
    have k3 := hkV.cell (i := 3) rfl
    have k4 := hkV.cell (i := 4) rfl
    have k5 := hkV.cell (i := 5) rfl
    have k6 := hkV.cell (i := 6) rfl
    have k7 := hkV.cell (i := 7) rfl
    have a1' := hb6.cell (i := 1) rfl
    have k0' := hk6.cell (i := 0) rfl
    have k1' := hk6.cell (i := 1) rfl
    have k2' := hk6.cell (i := 2) rfl
    have k3' := hk6.cell (i := 3) rfl
    have k4' := hk6.cell (i := 4) rfl
    have k5' := hk6.cell (i := 5) rfl
    have k6' := hk6.cell (i := 6) rfl
    have k7' := hk6.cell (i := 7) rfl
    clear hV hbV hni htV hkV hvV hneV hxV hem hwm hemV hwmV hb5 hs5 HV5 hb6 hk6 hni6 hem6 ht6 hpm hbm d0 f0 b0 b1 c0 c0' HSA HT0 HWT HT1
    go_wp2
    go_region_held3 (fun V => V.cell? ⟨p, 1, none⟩ = some (.map (some me)) ∧ V.cell? ⟨pb, 0, none⟩ = some (.int .i64 o) ∧ V.cell? ⟨pb, 1, none⟩ = some (.int .i64 s) ∧ V.cell? ⟨pb, 2, none⟩ = some (.slice ao1 XN cap1) ∧ V.cell? ⟨pb, 3, none⟩ = some (.string ct) ∧ V.cell? ⟨pb, 4, none⟩ = some (.int .i64 ep) ∧ V.cell? ⟨pb, 5, none⟩ = some (.string sk) ∧ V.cell? ⟨pb, 6, none⟩ = some (.int .i64 qt) ∧ V.cell? ⟨pb, 7, none⟩ = some (.bool cl)) (first | (refine ⟨?_, ?_, ?_, ?_, ?_, ?_, ?_, ?_, ?_⟩ <;> assumption) | go_keep) (fail)
    go_wp2
    (try simp only [Exit.inBlock, Exit.then])
    refine bodyPost_end (results_none rfl _ _ _) rfl ?_
    refine ⟨rfl, applied_at HL.out HMM.out HRR.out HWW.out HNN.out (by rw [HMn.out]; exact HB6.out) HV6.out HN6.out HE6.out HW6.out, HT6.out⟩
end Go.Proofs.Ytcammngbhnhjjaa
