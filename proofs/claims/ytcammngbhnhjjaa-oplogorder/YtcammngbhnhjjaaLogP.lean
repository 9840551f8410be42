/-
  Package oplog: Between's copies lie in blocks of numbers; what a round over a log's events keeps ('Ke').
-/
import Derived.Test.YtcammngbhnhjjaaSeqG
import Derived.Test.YtcammngbhnhjjaaVvP
namespace Go.Proofs.Ytcammngbhnhjjaa
open Go.RowKit Go.Shelf Go.Maps

theorem own_nev {B n : Nat} {w : World} {bo : Option Addr} {l cp : Nat} {us : List Value} {xs : List Int} (h : w.ownsRow B 3 1 (.slice bo l cp) n us) : NEv w bo xs := by
  intro b off e _ cs hb
  subst e
  rcases h.2 with ⟨h1, _⟩ | ⟨g, c, cur, h1, _, hblk, _⟩
  · cases h1
  · cases h1
    have h2 : w.heap[b]? = some (.cells cs.toArray 33) := hb
    rw [hblk] at h2
    injection h2 with h2
    injection h2 with _ h2
    exact absurd h2 (by decide)
def AnsV3 (w : World) (xs : List Int) (e : Ending) (w' : World) : Prop := ∃ bo cp, e = .returned (.slice bo xs.length cp) ∧ HV w' bo cp xs ∧ Below w.heap.size w w' ∧ OldAt w.heap.size bo xs ∧ NEv w' bo xs
def AnsIt3 (w : World) (a b : List Int) (e : Ending) (w' : World) : Prop := ∃ ao bo ca cb, e = .returned (.func (.func 55) #[] #[.pointer (some ⟨w.heap.size + 1, 0, none⟩), .pointer (some ⟨w.heap.size, 0, none⟩)]) ∧ ItAt w' w.heap.size (w.heap.size + 1) a b ao bo ca cb ∧ Below w.heap.size w w' ∧ OldAt w.heap.size ao a ∧ OldAt w.heap.size bo b ∧ NEv w' ao a ∧ NEv w' bo b
theorem clone3_any (w : World) (ao : Option Addr) (cap : Nat) (xs : List Int) (n : Nat) (hn : xs.length = n) (h : HV w ao cap xs) :
    Calls Try.prog 42 #[.slice ao n cap] w (AnsV3 w xs) := by
  cases ao with
  | none =>
    have he := fun W => eqlI_none W n cap
    have hx := h.held.of_none
    clear h
    go_enter Try.func42, Try.ntmps42
    go_wp2
    go_ret
    subst hx
    exact ⟨_, _, rfl, hv_nil _, Below.refl _ _, fun _ _ _ h => absurd rfl h, fun _ _ _ h => absurd rfl h⟩
  | some ad =>
    have he := fun W => eqlI_some W ad n cap
    have H := hid h
    have HN := hid hn
    clear h hn
    go_enter Try.func42, Try.ntmps42
    go_wp2_with (at_builtin; refine wpList_append_copy w rfl _ _ rfl rfl _ _ xs n HN.out rfl H.out.held H.out.few ?_; intro bo cp w' hown hv hb)
    have HO := hid hown
    have HV' := hid hv
    have HB := hid hb
    clear hv hb hown
    go_wp2
    go_ret
    refine ⟨bo, cp, by rw [HN.out]; rfl, HV'.out, HB.out, fun b off e _ => own_lt HO.out b ?_, own_nev HO.out⟩
    subst e
    rcases HO.out.2 with ⟨h1, _⟩ | ⟨g, c, cur, h1, _⟩
    · cases h1
    · cases h1
      rfl

set_option maxRecDepth 100000 in
set_option maxHeartbeats 1000000 in
theorem between3_any (w : World) (ao bo : Option Addr) (ca cb : Nat) (a b : List Int) (m n : Nat) (hm : a.length = m) (hn : b.length = n) (ha : HV w ao ca a) (hb : HV w bo cb b) :
    Calls Try.prog 44 #[.slice ao m ca, .slice bo n cb] w (AnsIt3 w a b) := by
  have HA := hid ha
  have HB := hid hb
  have HM := hid hm
  have HN := hid hn
  clear ha hb hm hn
  obtain ⟨W, hW⟩ : ∃ W, W = (w.alloc (.cells #[.slice ao m ca] 26)).alloc (.cells #[.slice bo n cb] 26) := ⟨_, rfl⟩
  have HBW : Hid (Below w.heap.size w W ∧ W.heap.size = w.heap.size + 2) := ⟨by rw [hW]; exact ((Below.refl _ _).alloc (Nat.le_refl _) _).alloc (by simp) _, by rw [hW]; simp⟩
  have hb2 : Blk W w.heap.size 26 [.slice ao m ca] := by rw [hW]; exact (Blk.new w 26 [.slice ao m ca]).alloc _
  have hb3 : Blk W (w.heap.size + 1) 26 [.slice bo n cb] := by
    have := Blk.new (w.alloc (.cells #[.slice ao m ca] 26)) 26 [.slice bo n cb]
    rw [World.size_alloc] at this
    rw [hW]
    exact this
  have c2 := hb2.cell (i := 0) rfl
  have c3 := hb3.cell (i := 0) rfl
  have HB2 := hid hb2
  have HB3 := hid hb3
  have HC1 : Hid (∀ V, Below W.heap.size W V → Calls Try.prog 42 #[.slice ao m ca] V (AnsV3 V a)) := fun V hV => clone3_any V ao ca a m HM.out ((HA.out.below HBW.out.1).below hV)
  have HC2 : Hid (∀ V, Below W.heap.size W V → Calls Try.prog 42 #[.slice bo n cb] V (AnsV3 V b)) := fun V hV => clone3_any V bo cb b n HN.out ((HB.out.below HBW.out.1).below hV)
  clear hb2 hb3
  go_enter Try.func44, Try.ntmps44
  go_wp2
  rw [← hW]
  clear hW
  obtain ⟨p, hp⟩ : ∃ p, p = w.heap.size := ⟨_, rfl⟩
  rw [← hp] at c2 c3 HB2 HB3 ⊢
  have HPP := hid hp
  clear hp
  go_region_with (first
    | (go_at_call 42; refine (HC1.out _ ?_).mono ?_; (first | exact Below.refl _ _ | exact below_dn (Below.refl _ _) 1 | exact below_dn (Below.refl _ _) 2 | exact below_dn (Below.refl _ _) 3); rintro e w4 ⟨co, cc, rfl, hv4, hb4, ho4, hn4⟩; have HNE4 := hid hn4; have HO4 : Hid (OldAt W.heap.size co a) := OldAt.mono ho4 (Nat.le_refl _); have HV4 := hid hv4; have HB4 : Hid (Below W.heap.size W w4) := ⟨hb4.os, hb4.tape, hb4.output, hb4.size, hb4.block⟩; have k2 := (HB2.out.below HB4.out HB2.out.lt).cell (i := 0) rfl; have k3 := (HB3.out.below HB4.out HB3.out.lt).cell (i := 0) rfl; clear hv4 hb4 ho4 hn4)
    | (go_at_call 42; refine (HC2.out _ ?_).mono ?_; (first | exact HB4.out | exact below_dn HB4.out 1 | exact below_dn HB4.out 2); rintro e w5 ⟨eo, ec, rfl, hv5, hb5, ho5, hn5⟩; have HNE5 := hid hn5; have HO5 : Hid (OldAt W.heap.size eo b) := OldAt.mono ho5 HB4.out.size; have HV5 := hid hv5; have HB5' : Hid (Below w4.heap.size w4 w5) := ⟨hb5.os, hb5.tape, hb5.output, hb5.size, hb5.block⟩; have HB5 : Hid (Below W.heap.size W w5) := HB4.out.trans (HB5'.out.mono HB4.out.size); have j2 := (HB2.out.below HB5.out HB2.out.lt).cell (i := 0) rfl; have j3 := (HB3.out.below HB5.out HB3.out.lt).cell (i := 0) rfl; have f2 := (HB2.out.below HB5.out HB2.out.lt).frozen 0; have f3 := (HB3.out.below HB5.out HB3.out.lt).frozen 0; clear hv5 hb5 ho5 hn5))
  all_goals
    go_wp2
    go_ret
    have hB2 := HB2.out.below HB5.out HB2.out.lt
    have hB3 := HB3.out.below HB5.out HB3.out.lt
    have hv4 := HV4.out.below HB5'.out
    have hT : Turns (fun i => i = p ∨ i = p + 1) w5 ((w5.setCell ⟨p, 0, none⟩ (.slice co a.length cc)).setCell ⟨p + 1, 0, none⟩ (.slice eo b.length ec)) :=
      ((Turns.refl _ _).setCell (p := ⟨p, 0, none⟩) (.inl (.inl rfl)) _).setCell (p := ⟨p + 1, 0, none⟩) (.inl (.inr rfl)) _
    have hap : ∀ {xo : Option Addr} {xs : List Int}, HeldInt w5 xo xs → ∀ b' off, xo = some ⟨b', off, none⟩ → xs ≠ [] → ¬ (b' = p ∨ b' = p + 1) := by
      rintro xo xs hh b' off he hne (rfl | rfl)
      · exact hh.apart hB2 he hne rfl
      · exact hh.apart hB3 he hne rfl
    refine ⟨co, eo, cc, ec, ?_, ⟨?_, ?_, ⟨hv4.held.turned hT (hap hv4.held), hv4.room, hv4.few⟩, ⟨HV5.out.held.turned hT (hap HV5.out.held), HV5.out.room, HV5.out.few⟩⟩, ?_, HO4.out.mono (by have := HBW.out.2; omega), HO5.out.mono (by have := HBW.out.2; omega), ((HNE4.out.stay (F := fun _ => False) HV4.out.held (Turns.of_below HB5'.out (Nat.le_refl _)) (fun _ _ _ _ h => h)).stay hv4.held hT (hap hv4.held)), HNE5.out.stay HV5.out.held hT (hap HV5.out.held)⟩
    · rw [← HPP.out]
      rfl
    · rw [← HPP.out]
      exact (hB2.set 0 _).other (by omega) _ _
    · rw [← HPP.out]
      exact (hB3.other (by omega) _ _).set 0 _
    · have h1 := HBW.out.1.trans (HB5.out.mono (by have := HBW.out.2; omega))
      have h2 := hT.below (B := w.heap.size) (fun i hi => by have := HPP.out; omega) (h1.size)
      exact h1.trans h2

/-- A block of events. -/
def EvTyped (V : World) (k : Nat) : Prop := ∃ cs, Blk V k 33 cs
/-- What a round over a log's events keeps: all but Fo, and blocks of events. -/
def Ke (Fo : Nat → Prop) (V V' : World) : Prop := Turns (fun k => Fo k ∨ EvTyped V k) V V'
section
variable {Fo Fi : Nat → Prop} {A B C w w' : World}
theorem Ke.refl (Fo : Nat → Prop) (A : World) : Ke Fo A A := Turns.refl _ _
theorem Ke.trans (h : Ke Fo A B) (k : Ke Fo B C) : Ke Fo A C :=
  ⟨k.os.trans h.os, k.tape.trans h.tape, k.output.trans h.output, Nat.le_trans h.size k.size, fun i hi hn => by
    have e := h.block i hi hn
    refine (k.block i (Nat.lt_of_lt_of_le hi h.size) (fun hc => hn ?_)).trans e
    rcases hc with hc | ⟨cs, hc⟩
    · exact .inl hc
    · exact .inr ⟨cs, e.symm.trans hc⟩⟩
theorem Ke.below (h : Below A.heap.size A B) : Ke Fo A B := Turns.of_below h (Nat.le_refl _)
theorem Ke.mono (h : Ke Fo A B) (hF : ∀ i, Fo i → Fi i) : Ke Fi A B := Turns.mono h (fun i hi => hi.elim (fun h => .inl (hF i h)) .inr)
theorem Ke.blk (h : Ke Fo A B) {k : Nat} {t : TypeId} {cs : List Value} (hb : Blk A k t cs) (hn : ¬ Fo k) (ht : t ≠ 33) : Blk B k t cs := by
  refine Turns.blk h hb ?_
  rintro (hc | ⟨cs', hc⟩)
  · exact hn hc
  · have h1 : A.heap[k]? = some (.cells cs.toArray t) := hb
    have h2 : A.heap[k]? = some (.cells cs'.toArray 33) := hc
    rw [h1] at h2
    injection h2 with h2
    injection h2 with _ h2
    exact ht h2
/-- A vector in a block that is none of events, and none of Fo. -/
theorem Ke.held (h : Ke Fo w w') {ao : Option Addr} {xs : List Int} (hh : HeldInt w ao xs) (hne : NEv w ao xs) (hF : ∀ b off, ao = some ⟨b, off, none⟩ → xs ≠ [] → ¬ Fo b) : HeldInt w' ao xs ∧ NEv w' ao xs := by
  have h1 : ∀ b off, ao = some ⟨b, off, none⟩ → xs ≠ [] → ¬ (Fo b ∨ EvTyped w b) := fun b off e hx hc => hc.elim (hF b off e hx) (fun ⟨cs, hb⟩ => hne b off e hx cs hb)
  exact ⟨hh.turned h h1, hne.stay hh h h1⟩
theorem Ke.hv (h : Ke Fo w w') {ao : Option Addr} {c : Nat} {xs : List Int} (hh : HV w ao c xs) (hne : NEv w ao xs) (hF : ∀ b off, ao = some ⟨b, off, none⟩ → xs ≠ [] → ¬ Fo b) : HV w' ao c xs := ⟨(h.held hh.held hne hF).1, hh.room, hh.few⟩
theorem noInt_fo (hF : NoInt w (fun i => Fo i ∧ i < w.heap.size)) {ao : Option Addr} {xs : List Int} (hh : HeldInt w ao xs) : ∀ b off, ao = some ⟨b, off, none⟩ → xs ≠ [] → ¬ Fo b := by
  intro b off e hne hf
  have hlt : b < w.heap.size := by
    rcases hh.2 with h0 | ⟨b', off', e', hl, _⟩
    · exact absurd h0 hne
    · rw [e] at e'
      cases e'
      exact hl
  exact noInt_off hh hF b off e hne ⟨hf, hlt⟩
theorem Ke.keep (h : Ke Fo w w') {x : EvM} (hx : EvKeep w x) (hF : ∀ b off, x.ao = some ⟨b, off, none⟩ → x.e.deps ≠ [] → ¬ Fo b) : EvKeep w' x :=
  ⟨⟨h.hv hx.ok.deps hx.ne hF, hx.ok.io, hx.ok.is, hx.ok.ie, hx.ok.iq, hx.ok.hc, hx.ok.hs⟩, (h.held hx.ok.deps.held hx.ne hF).2⟩
theorem Ke.evmap (h : Ke Fo w w') {m n : Nat} {S : Dots} {D : DataW Value} (hm : EvMap w m S n D) (hn : ¬ Fo m) (hF : NoInt w (fun i => Fo i ∧ i < w.heap.size)) : EvMap w' m S n D :=
  ⟨Turns.map h hm.map (fun hc => hc.elim hn (fun ⟨_, hb⟩ => hb.not_map hm.map rfl)), hm.key, fun o s x hx => ⟨h.keep (hm.ok o s x hx).1 (noInt_fo hF (hm.ok o s x hx).1.ok.deps.held), (hm.ok o s x hx).2⟩, hm.cnt⟩
/-- A log stays through a round. -/
theorem Ke.log (h : Ke Fo w w') {p me mw : Nat} {g : Lg} (hL : LogAt w p me mw g) (hd : ∀ i, FootL p me mw i → ¬ Fo i) (hF : NoInt w (fun i => Fo i ∧ i < w.heap.size)) : LogAt w' p me mw g := by
  obtain ⟨ao, cap, h1, h2, h2'⟩ := hL.blk
  obtain ⟨De, h3⟩ := hL.em
  obtain ⟨Dw, h4⟩ := hL.wm
  have h5 := h.held h2.held h2' (noInt_fo hF h2.held)
  exact ⟨⟨ao, cap, h.blk h1 (hd p (.inl rfl)) (by decide), ⟨h5.1, h2.room, h2.few⟩, h5.2⟩, hL.apart, hL.may, ⟨De, h.evmap h3 (hd me (.inr (.inl rfl))) hF⟩, ⟨Dw, h.evmap h4 (hd mw (.inr (.inr rfl))) hF⟩, hL.has, hL.evs, hL.wait, hL.fewE, hL.fewW⟩
end
/-- The event at a dot. -/
def evAt (g : Lg) (d : Int × Int) : Ev := ((g.E d.1 d.2).map (·.e)).getD zeroEv
/-- The applied events that v has not, in order. -/
def evL (v : List Int) (g : Lg) : List Ev := (dotsAll v g.A).map (evAt g)
end Go.Proofs.Ytcammngbhnhjjaa
