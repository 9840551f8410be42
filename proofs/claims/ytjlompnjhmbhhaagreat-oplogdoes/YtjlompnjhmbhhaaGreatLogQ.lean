/-
  Package oplog: Between's copies lie in blocks of numbers; what a round over a log's events keeps ('Ke').
-/
import Derived.Test.YtjlompnjhmbhhaaGreatSeqG
import Derived.Test.YtjlompnjhmbhhaaGreatVvP
namespace Go.Proofs.YtjlompnjhmbhhaaGreat
open Go.RowKit Go.Shelf Go.Maps

theorem own_nev {B n : Nat} {w : World} {bo : Option Addr} {l cp : Nat} {us : List Value} {xs : List Int} (h : w.ownsRow B 3 1 (.slice bo l cp) n us) : NEv w bo xs := by
  intro b off e _ cs hb
  subst e
  rcases h.2 with ⟨h1, _⟩ | ⟨g, c, cur, h1, _, hblk, _⟩
  · cases h1
  · cases h1
    have h2 : w.heap[b]? = some (.cells cs.toArray 33) := hb
    rw [hblk] at h2
    injection h2 with h2
    injection h2 with _ h2
    exact absurd h2 (by decide)
def AnsV3 (w : World) (xs : List Int) (e : Ending) (w' : World) : Prop := ∃ bo cp, e = .returned (.slice bo xs.length cp) ∧ HV w' bo cp xs ∧ Below w.heap.size w w' ∧ OldAt w.heap.size bo xs ∧ NEv w' bo xs
def AnsIt3 (w : World) (a b : List Int) (e : Ending) (w' : World) : Prop := ∃ ao bo ca cb, e = .returned (.func (.func 80) #[] #[.pointer (some ⟨w.heap.size + 1, 0, none⟩), .pointer (some ⟨w.heap.size, 0, none⟩)]) ∧ ItAt w' w.heap.size (w.heap.size + 1) a b ao bo ca cb ∧ Below w.heap.size w w' ∧ OldAt w.heap.size ao a ∧ OldAt w.heap.size bo b ∧ NEv w' ao a ∧ NEv w' bo b
theorem clone3_any (w : World) (ao : Option Addr) (cap : Nat) (xs : List Int) (n : Nat) (hn : xs.length = n) (h : HV w ao cap xs) :
    Calls Tryz.prog 31 #[.slice ao n cap] w (AnsV3 w xs) := by
  cases ao with
  | none =>
    have he := fun W => eqlI_none W n cap
    have hx := h.held.of_none
    clear h
    go_enter Tryz.func31, Tryz.ntmps31
    go_wp2
    go_ret
    subst hx
    exact ⟨_, _, rfl, hv_nil _, Below.refl _ _, fun _ _ _ h => absurd rfl h, fun _ _ _ h => absurd rfl h⟩
  | some ad =>
    have he := fun W => eqlI_some W ad n cap
    have H := hid h
    have HN := hid hn
    clear h hn
    go_enter Tryz.func31, Tryz.ntmps31
    go_wp2_with (at_builtin; refine wpList_append_copy w rfl _ _ rfl rfl _ _ xs n HN.out rfl H.out.held H.out.few ?_; intro bo cp w' hown hv hb)
    have HO := hid hown
    have HV' := hid hv
    have HB := hid hb
    clear hv hb hown
    go_wp2
    go_ret
    refine ⟨bo, cp, by rw [HN.out]; rfl, HV'.out, HB.out, fun b off e _ => own_lt HO.out b ?_, own_nev HO.out⟩
    subst e
    rcases HO.out.2 with ⟨h1, _⟩ | ⟨g, c, cur, h1, _⟩
    · cases h1
    · cases h1
      rfl

set_option maxRecDepth 100000 in
set_option maxHeartbeats 1000000 in
theorem between3_any (w : World) (ao bo : Option Addr) (ca cb : Nat) (a b : List Int) (m n : Nat) (hm : a.length = m) (hn : b.length = n) (ha : HV w ao ca a) (hb : HV w bo cb b) :
    Calls Tryz.prog 62 #[.slice ao m ca, .slice bo n cb] w (AnsIt3 w a b) := by
  have HA := hid ha
  have HB := hid hb
  have HM := hid hm
  have HN := hid hn
  clear ha hb hm hn
  obtain ⟨W, hW⟩ : ∃ W, W = (w.alloc (.cells #[.slice ao m ca] 23)).alloc (.cells #[.slice bo n cb] 23) := ⟨_, rfl⟩
  have HBW : Hid (Below w.heap.size w W ∧ W.heap.size = w.heap.size + 2) := ⟨by rw [hW]; exact ((Below.refl _ _).alloc (Nat.le_refl _) _).alloc (by simp) _, by rw [hW]; simp⟩
  have hb2 : Blk W w.heap.size 23 [.slice ao m ca] := by rw [hW]; exact (Blk.new w 23 [.slice ao m ca]).alloc _
  have hb3 : Blk W (w.heap.size + 1) 23 [.slice bo n cb] := by
    have := Blk.new (w.alloc (.cells #[.slice ao m ca] 23)) 23 [.slice bo n cb]
    rw [World.size_alloc] at this
    rw [hW]
    exact this
  have c2 := hb2.cell (i := 0) rfl
  have c3 := hb3.cell (i := 0) rfl
  have HB2 := hid hb2
  have HB3 := hid hb3
  have HC1 : Hid (∀ V, Below W.heap.size W V → Calls Tryz.prog 31 #[.slice ao m ca] V (AnsV3 V a)) := fun V hV => clone3_any V ao ca a m HM.out ((HA.out.below HBW.out.1).below hV)
  have HC2 : Hid (∀ V, Below W.heap.size W V → Calls Tryz.prog 31 #[.slice bo n cb] V (AnsV3 V b)) := fun V hV => clone3_any V bo cb b n HN.out ((HB.out.below HBW.out.1).below hV)
  clear hb2 hb3
  go_enter Tryz.func62, Tryz.ntmps62
  go_wp2
  rw [← hW]
  clear hW
  obtain ⟨p, hp⟩ : ∃ p, p = w.heap.size := ⟨_, rfl⟩
  rw [← hp] at c2 c3 HB2 HB3 ⊢
  have HPP := hid hp
  clear hp
  go_region_with (first
    | (go_at_call 31; refine (HC1.out _ ?_).mono ?_; (first | exact Below.refl _ _ | exact below_dn (Below.refl _ _) 1 | exact below_dn (Below.refl _ _) 2 | exact below_dn (Below.refl _ _) 3); rintro e w4 ⟨co, cc, rfl, hv4, hb4, ho4, hn4⟩; have HNE4 := hid hn4; have HO4 : Hid (OldAt W.heap.size co a) := OldAt.mono ho4 (Nat.le_refl _); have HV4 := hid hv4; have HB4 : Hid (Below W.heap.size W w4) := ⟨hb4.os, hb4.tape, hb4.output, hb4.size, hb4.block⟩; have k2 := (HB2.out.below HB4.out HB2.out.lt).cell (i := 0) rfl; have k3 := (HB3.out.below HB4.out HB3.out.lt).cell (i := 0) rfl; clear hv4 hb4 ho4 hn4)
    | (go_at_call 31; refine (HC2.out _ ?_).mono ?_; (first | exact HB4.out | exact below_dn HB4.out 1 | exact below_dn HB4.out 2); rintro e w5 ⟨eo, ec, rfl, hv5, hb5, ho5, hn5⟩; have HNE5 := hid hn5; have HO5 : Hid (OldAt W.heap.size eo b) := OldAt.mono ho5 HB4.out.size; have HV5 := hid hv5; have HB5' : Hid (Below w4.heap.size w4 w5) := ⟨hb5.os, hb5.tape, hb5.output, hb5.size, hb5.block⟩; have HB5 : Hid (Below W.heap.size W w5) := HB4.out.trans (HB5'.out.mono HB4.out.size); have j2 := (HB2.out.below HB5.out HB2.out.lt).cell (i := 0) rfl; have j3 := (HB3.out.below HB5.out HB3.out.lt).cell (i := 0) rfl; have f2 := (HB2.out.below HB5.out HB2.out.lt).frozen 0; have f3 := (HB3.out.below HB5.out HB3.out.lt).frozen 0; clear hv5 hb5 ho5 hn5))
  all_goals
    go_wp2
    go_ret
    have hB2 := HB2.out.below HB5.out HB2.out.lt
    have hB3 := HB3.out.below HB5.out HB3.out.lt
    have hv4 := HV4.out.below HB5'.out
    have hT : Turns (fun i => i = p ∨ i = p + 1) w5 ((w5.setCell ⟨p, 0, none⟩ (.slice co a.length cc)).setCell ⟨p + 1, 0, none⟩ (.slice eo b.length ec)) :=
      ((Turns.refl _ _).setCell (p := ⟨p, 0, none⟩) (.inl (.inl rfl)) _).setCell (p := ⟨p + 1, 0, none⟩) (.inl (.inr rfl)) _
    have hap : ∀ {xo : Option Addr} {xs : List Int}, HeldInt w5 xo xs → ∀ b' off, xo = some ⟨b', off, none⟩ → xs ≠ [] → ¬ (b' = p ∨ b' = p + 1) := by
      rintro xo xs hh b' off he hne (rfl | rfl)
      · exact hh.apart hB2 he hne rfl
      · exact hh.apart hB3 he hne rfl
    refine ⟨co, eo, cc, ec, ?_, ⟨?_, ?_, ⟨hv4.held.turned hT (hap hv4.held), hv4.room, hv4.few⟩, ⟨HV5.out.held.turned hT (hap HV5.out.held), HV5.out.room, HV5.out.few⟩⟩, ?_, HO4.out.mono (by have := HBW.out.2; omega), HO5.out.mono (by have := HBW.out.2; omega), ((HNE4.out.stay (F := fun _ => False) HV4.out.held (Turns.of_below HB5'.out (Nat.le_refl _)) (fun _ _ _ _ h => h)).stay hv4.held hT (hap hv4.held)), HNE5.out.stay HV5.out.held hT (hap HV5.out.held)⟩
    · rw [← HPP.out]
      rfl
    · rw [← HPP.out]
      exact (hB2.set 0 _).other (by omega) _ _
    · rw [← HPP.out]
      exact (hB3.other (by omega) _ _).set 0 _
    · have h1 := HBW.out.1.trans (HB5.out.mono (by have := HBW.out.2; omega))
      have h2 := hT.below (B := w.heap.size) (fun i hi => by have := HPP.out; omega) (h1.size)
      exact h1.trans h2

/-- A block of events. -/
def EvTyped (V : World) (k : Nat) : Prop := ∃ cs, Blk V k 33 cs
/-- What a round over a log's events keeps: all but Fo, and blocks of events. -/
def Ke (Fo : Nat → Prop) (V V' : World) : Prop := Turns (fun k => Fo k ∨ EvTyped V k) V V'
section
variable {Fo Fi : Nat → Prop} {A B C w w' : World}
theorem Ke.refl (Fo : Nat → Prop) (A : World) : Ke Fo A A := Turns.refl _ _
theorem Ke.trans (h : Ke Fo A B) (k : Ke Fo B C) : Ke Fo A C :=
  ⟨k.os.trans h.os, k.tape.trans h.tape, k.output.trans h.output, Nat.le_trans h.size k.size, fun i hi hn => by
    have e := h.block i hi hn
    refine (k.block i (Nat.lt_of_lt_of_le hi h.size) (fun hc => hn ?_)).trans e
    rcases hc with hc | ⟨cs, hc⟩
    · exact .inl hc
    · exact .inr ⟨cs, e.symm.trans hc⟩⟩
theorem Ke.below (h : Below A.heap.size A B) : Ke Fo A B := Turns.of_below h (Nat.le_refl _)
theorem Ke.mono (h : Ke Fo A B) (hF : ∀ i, Fo i → Fi i) : Ke Fi A B := Turns.mono h (fun i hi => hi.elim (fun h => .inl (hF i h)) .inr)
theorem Ke.blk (h : Ke Fo A B) {k : Nat} {t : TypeId} {cs : List Value} (hb : Blk A k t cs) (hn : ¬ Fo k) (ht : t ≠ 33) : Blk B k t cs := by
  refine Turns.blk h hb ?_
  rintro (hc | ⟨cs', hc⟩)
  · exact hn hc
  · have h1 : A.heap[k]? = some (.cells cs.toArray t) := hb
    have h2 : A.heap[k]? = some (.cells cs'.toArray 33) := hc
    rw [h1] at h2
    injection h2 with h2
    injection h2 with _ h2
    exact ht h2
/-- A vector in a block that is none of events, and none of Fo. -/
theorem Ke.held (h : Ke Fo w w') {ao : Option Addr} {xs : List Int} (hh : HeldInt w ao xs) (hne : NEv w ao xs) (hF : ∀ b off, ao = some ⟨b, off, none⟩ → xs ≠ [] → ¬ Fo b) : HeldInt w' ao xs ∧ NEv w' ao xs := by
  have h1 : ∀ b off, ao = some ⟨b, off, none⟩ → xs ≠ [] → ¬ (Fo b ∨ EvTyped w b) := fun b off e hx hc => hc.elim (hF b off e hx) (fun ⟨cs, hb⟩ => hne b off e hx cs hb)
  exact ⟨hh.turned h h1, hne.stay hh h h1⟩
theorem Ke.hv (h : Ke Fo w w') {ao : Option Addr} {c : Nat} {xs : List Int} (hh : HV w ao c xs) (hne : NEv w ao xs) (hF : ∀ b off, ao = some ⟨b, off, none⟩ → xs ≠ [] → ¬ Fo b) : HV w' ao c xs := ⟨(h.held hh.held hne hF).1, hh.room, hh.few⟩
theorem noInt_fo (hF : NoInt w (fun i => Fo i ∧ i < w.heap.size)) {ao : Option Addr} {xs : List Int} (hh : HeldInt w ao xs) : ∀ b off, ao = some ⟨b, off, none⟩ → xs ≠ [] → ¬ Fo b := by
  intro b off e hne hf
  have hlt : b < w.heap.size := by
    rcases hh.2 with h0 | ⟨b', off', e', hl, _⟩
    · exact absurd h0 hne
    · rw [e] at e'
      cases e'
      exact hl
  exact noInt_off hh hF b off e hne ⟨hf, hlt⟩
theorem Ke.keep (h : Ke Fo w w') {x : EvM} (hx : EvKeep w x) (hF : ∀ b off, x.ao = some ⟨b, off, none⟩ → x.e.deps ≠ [] → ¬ Fo b) : EvKeep w' x :=
  ⟨⟨h.hv hx.ok.deps hx.ne hF, hx.ok.io, hx.ok.is, hx.ok.ie, hx.ok.iq, hx.ok.hc, hx.ok.hs⟩, (h.held hx.ok.deps.held hx.ne hF).2⟩
theorem Ke.evmap (h : Ke Fo w w') {m n : Nat} {S : Dots} {D : DataW Value} (hm : EvMap w m S n D) (hn : ¬ Fo m) (hF : NoInt w (fun i => Fo i ∧ i < w.heap.size)) : EvMap w' m S n D :=
  ⟨Turns.map h hm.map (fun hc => hc.elim hn (fun ⟨_, hb⟩ => hb.not_map hm.map rfl)), hm.key, fun o s x hx => ⟨h.keep (hm.ok o s x hx).1 (noInt_fo hF (hm.ok o s x hx).1.ok.deps.held), (hm.ok o s x hx).2⟩, hm.cnt⟩
/-- A log stays through a round. -/
theorem Ke.log (h : Ke Fo w w') {p me mw : Nat} {g : Lg} (hL : LogAt w p me mw g) (hd : ∀ i, FootL p me mw i → ¬ Fo i) (hF : NoInt w (fun i => Fo i ∧ i < w.heap.size)) : LogAt w' p me mw g := by
  obtain ⟨ao, cap, h1, h2, h2'⟩ := hL.blk
  obtain ⟨De, h3⟩ := hL.em
  obtain ⟨Dw, h4⟩ := hL.wm
  have h5 := h.held h2.held h2' (noInt_fo hF h2.held)
  exact ⟨⟨ao, cap, h.blk h1 (hd p (.inl rfl)) (by decide), ⟨h5.1, h2.room, h2.few⟩, h5.2⟩, hL.apart, hL.may, ⟨De, h.evmap h3 (hd me (.inr (.inl rfl))) hF⟩, ⟨Dw, h.evmap h4 (hd mw (.inr (.inr rfl))) hF⟩, hL.has, hL.evs, hL.wait, hL.fewE, hL.fewW⟩
end
/-- The event at a dot. -/
def evAt (g : Lg) (d : Int × Int) : Ev := ((g.E d.1 d.2).map (·.e)).getD zeroEv
/-- The applied events that v has not, in order. -/
def evL (v : List Int) (g : Lg) : List Ev := (dotsAll v g.A).map (evAt g)
end Go.Proofs.YtjlompnjhmbhhaaGreat
/-
  Package oplog: the iterator over a log's events (since), each item with a word about it.
-/
namespace Go.Proofs.YtjlompnjhmbhhaaGreat
open Go.RowKit Go.Shelf Go.Maps
attribute [local go_sem] Oper.semAt_some

/-- A range whose variable lies in a box of its own. -/
theorem wpIn_rangeFunc_Gb {F : Fence} {n : Nat} {P : Program} {α : Type} {g : Operand} {ps : Array Tmp} {assign body : Code} {Q : Exit → Act → World → Prop} {a : Act} {w : World}
    (hro : F.round = none) (h1 : 1 ≤ n) {gf : Nat} {lb : Array Value} (hg : a.eval g = .func (.func gf) #[] lb) (hFg : F.fn gf) (eg : ∀ args w, (callFunc gf args).run P w = .ok (.enter gf args) w)
    {encs : α → Array Value} {Kp : World → World → Prop} {G : List α → α → World → Prop} {S Sp : List α → Prop} (hseq : ∀ r, SeqAt F (n - 1) P (w.heap.size + 1) gf lb encs Kp G S Sp ((w.alloc (.deferred (some []))).alloc (.loop r)))
    (hKt : ∀ {A B C : World}, Kp A B → Kp B C → Kp A C) (hKb : ∀ (V : World) (r r' : Loop), V.heap[w.heap.size + 1]? = some (.loop r) → Kp V (V.putObj (w.heap.size + 1) (.loop r'))) (hps : ∀ x, (encs x).size = ps.size)
    (I : List α → World → Prop) (Ix : Code → List α → World → Prop) (hI : OwnFrom w.heap.size I) (hIx : ∀ c, OwnFrom w.heap.size (Ix c)) (h0 : I [] w) (X : List α → α → World → Prop) (hX : ∀ pre x, OwnFrom w.heap.size (fun (_ : Unit) V => X pre x V)) (Bx : α → List Value) (t : TypeId) (A : α → Nat → Act)
    (hassign : ∀ (l : Nat) (pre : List α) (x : α) (V : World) (K : Act → World → Prop), w.heap.size + 1 < V.heap.size → I pre V → G pre x V → (∀ gg V', KeptAs w.heap.size V V' → Kp V V' → I pre V' → X pre x V' → Blk V' gg t (Bx x) → w.heap.size ≤ gg → K (A x gg) V') →
      assign.wpIn (F.inRound l) (n - 1 - 1) P (Exit.then K (fun _ _ _ => False)) { tmps := (ps.zip (encs x)).foldl (fun t (p, v) => t.setIfInBounds p v) a.tmps, defers := [] } V)
    (hbody : ∀ (l : Nat) (pre : List α) (x : α) (gg : Nat) (V : World), (∃ r, Kept w.heap.size r V) → I pre V → X pre x V → Blk V gg t (Bx x) → w.heap.size ≤ gg → body.wpIn (F.inRound l) (n - 1 - 1) P (roundG w.heap.size Kp I Ix (pre ++ [x]) V) (A x gg) V)
    (hdone : ∀ (D : Nat) (xs : List α) (V : World), w.heap.size ≤ D → S xs → I xs V → V.heap[D]? = some (.deferred (some [])) → Q .normal { a with defers := { target := .collected D, args := #[] } :: a.defers } V)
    (hstop : ∀ (D : Nat) (c : Code) (pre : List α) (V : World), w.heap.size ≤ D → Sp pre → Ix c pre V → V.heap[D]? = some (.deferred (some [])) → c.wpIn F n P Q { a with defers := { target := .collected D, args := #[] } :: a.defers } V) :
    (Code.rangeFunc g ps assign body).wpIn F n P Q a w :=
  wpIn_rangeFunc_G hro h1 hg hFg eg hseq (fun h k => hKt h k) hKb hps I Ix hI hIx h0 (fun pre x a' V => ∃ gg, a' = A x gg ∧ X pre x V ∧ Blk V gg t (Bx x) ∧ w.heap.size ≤ gg)
    (fun pre x a' _ V V' row ⟨gg, e, hx, hb, hl⟩ hg hr => ⟨gg, e, hX pre x () V V' row hx hg hr, blk_own2 () V V' row hb hg hr, hl⟩)
    (fun l pre x V K hlt hi hG hK => hassign l pre x V K hlt hi hG (fun gg V' h1 h2 h3 h4 h5 h6 => hK _ V' h1 h2 h3 ⟨gg, rfl, h4, h5, h6⟩))
    (fun l pre x a' V _ hr hi ⟨gg, e, hx, hb, hl⟩ => by subst e; exact hbody l pre x gg V hr hi hx hb hl) hdone hstop
theorem has_dots {a b : List Int} {d : Int × Int} (h : d ∈ dotsAll a b) : HasV b d.1 d.2 := by
  unfold dotsAll rowsFrom at h
  obtain ⟨o, _, hd⟩ := List.mem_flatMap.1 h
  unfold rowOf at hd
  obtain ⟨i, hi, rfl⟩ := List.mem_map.1 hd
  have hi' := List.mem_range.1 hi
  unfold HasV
  simp only
  rw [ofV_nat]
  unfold moreOf hadOf at *
  constructor <;> omega
/-- What lies at a dot. -/
theorem EvMap.look1 {w : World} {m n : Nat} {S : Dots} {D : DataW Value} (h : EvMap w m S n D) {o s : Int} (ho : I64 o) (hs : I64 s) : (Instr.lookup 41 (.map (some m)) (.agg #[.int .i64 o, .int .i64 s]) false).run Tryz.prog w = .ok (((S o s).map EvM.val).getD zeroV) w := by
  have := run_look h.map Tryz.keyedDot Tryz.underlying41 (Tryz.zeroEvt w) (key_dot ho hs)
  rw [h.key o s ho hs] at this
  unfold dotVal at this
  simpa using this
theorem round_depth {m m' : Nat} {P : Program} {l : Nat} {f : FuncId} {tmps : Array Value} {assign body : Code} {w : World} {R : Ending → World → Prop} (r : Nat) (h : RoundIn Fence.wide m P l f tmps assign body w R) : RoundIn (Fence.wide.inRound r) m' P l f tmps assign body w R :=
  ⟨h.1, fun c cs _ => h.2 c cs (by simp [Fence.room, Fence.wide])⟩
/-- Between's iterator, its copies behind w. -/
structure ItG (w : World) (k : Nat) (a b : List Int) (co eo : Option Addr) (cc ec : Nat) (w' : World) : Prop where
  it : ItAt w' k (k + 1) a b co eo cc ec
  sc : Sc w w'
  le : w.heap.size ≤ k
  olda : OldAt w.heap.size co a
  oldb : OldAt w.heap.size eo b
  na : NEv w' co a
  nb : NEv w' eo b
set_option maxRecDepth 100000 in
set_option maxHeartbeats 4000000 in
theorem since_at (n : Nat) (hn : 3 ≤ n) (l : Nat) {V0 W : World} {p me mw : Nat} {g : Lg} (hL : LogAt V0 p me mw g) (hV : Below V0.heap.size V0 W) (q0 q1 : Nat) (b0 : Boxed W q0 26 (.pointer (some ⟨p, 0, none⟩))) (vo : Option Addr) (vc : Nat) (v : List Int) (b1 : Boxed W q1 23 (.slice vo v.length vc)) (hv : HV W vo vc v)
    (Fo : Nat → Prop) (hFW : ∀ k, Fo k → k < W.heap.size) (hd : ∀ i, FootL p me mw i → ¬ Fo i) (hNI : NoInt V0 (fun i => Fo i ∧ i < V0.heap.size)) (hq0 : ¬ Fo q0) :
    SeqAt Fence.wide n Tryz.prog l 61 #[.pointer (some ⟨q0, 0, none⟩), .pointer (some ⟨q1, 0, none⟩)] (fun x : EvM => #[x.val]) (Ke Fo)
      (fun pre x V => pre.map (·.e) ++ [x.e] <+: evL v g ∧ EvKeep V x) (fun xs => xs.map (·.e) = evL v g) (fun pre => pre.map (·.e) <+: evL v g) W := by
  intro J Jx hJ hJx hY hj
  obtain ⟨yb, hyb⟩ : ∃ k, k = W.heap.size := ⟨_, rfl⟩
  obtain ⟨W1, hW1⟩ : ∃ V, V = W.alloc (.cells #[.func (.yield l) #[] #[]] 38) := ⟨_, rfl⟩
  have hB1 : Below W.heap.size W W1 := by rw [hW1]; exact (Below.refl _ _).alloc (Nat.le_refl _) _
  have HYB : Hid (Boxed W1 yb 38 (.func (.yield l) #[] #[])) := by rw [hW1, hyb]; exact Boxed.new W _ _
  have HL1 := hid ((hL.below hV).below hB1)
  have HB0 : Hid (Boxed W1 q0 26 (.pointer (some ⟨p, 0, none⟩))) := (hB1.block _ b0.lt).trans b0
  have HB1 : Hid (Boxed W1 q1 23 (.slice vo v.length vc)) := (hB1.block _ b1.lt).trans b1
  obtain ⟨ao, cap, hav, ca0, _, _⟩ := HL1.out.cells
  have HBT := hid (fun V (hV : Below W1.heap.size W1 V) => between3_any V vo ao vc cap v g.A v.length g.A.length rfl rfl ((hv.below hB1).below hV) (hav.below hV))
  obtain ⟨vl, HVL⟩ : ∃ k, Hid (v.length = k) := ⟨_, hid rfl⟩
  obtain ⟨al, HAL⟩ : ∃ k, Hid (g.A.length = k) := ⟨_, hid rfl⟩
  rw [HVL.out, HAL.out] at HBT
  rw [HAL.out] at ca0
  rw [HVL.out] at HB1
  have cq0 := HB0.out.cell
  have cq1 := HB1.out.cell
  have HJW : Hid (J [] W1) := by rw [hW1]; exact hJ.alloc _ hj
  have HW := hid hW1
  have HYW := hid hyb
  have HVV := hid hV
  have HLL := hid hL
  clear hW1 hB1 hyb hav b0 b1 hv hj hV hL
  change CallsIn Fence.wide n Tryz.prog 61 #[.func (.yield l) #[] #[], .pointer (some ⟨q0, 0, none⟩), .pointer (some ⟨q1, 0, none⟩)] W _
  refine callsIn_of_wp_marks Tryz.func61 rfl trivial ?_ rfl
  simp only [Tryz.ntmps61, List.size_toArray, List.length_cons, List.length_nil, Nat.reduceAdd, Nat.reduceSub, Array.replicate_succ, Array.replicate_zero, List.push_toArray, List.append_toArray, List.nil_append, List.cons_append]
  refine wpIn_wide.2 ?_
  have cqx := cq0
  rw [HW.out] at cqx
  go_wp2_with fail
  rw [← HW.out, ← HYW.out]
  clear cqx
  refine (closedL_no HL1.out).mono ?_
  rintro e w2 ⟨rfl, rfl⟩
  go_wp2
  have HBS : Hid (∀ V, Sc w2 V → Calls Tryz.prog 62 #[.slice vo vl vc, .slice ao al cap] V fun e w' => ∃ k co eo cc ec, e = .returned (.func (.func 80) #[] #[.pointer (some ⟨k + 1, 0, none⟩), .pointer (some ⟨k, 0, none⟩)]) ∧ ItG w2 k v g.A co eo cc ec w' ∧ Sc w2 w') := fun V hV => by
    refine (HBT.out V hV.out).mono ?_
    rintro e w' ⟨co, eo, cc, ec, rfl, hit, hb, h1, h2, h3, h4⟩
    exact ⟨_, co, eo, cc, ec, rfl, ⟨hit, hV.go hb, hV.out.size, h1.mono hV.out.size, h2.mono hV.out.size, h3, h4⟩, hV.go hb⟩
  have HSA : Hid (∀ V, Sc w2 V → (Sc w2 V ∧ V.cell? ⟨q0, 0, none⟩ = some (.pointer (some ⟨p, 0, none⟩)) ∧ V.cell? ⟨q1, 0, none⟩ = some (.slice vo vl vc) ∧ V.cell? ⟨p, 0, none⟩ = some (.slice ao al cap))) := fun V hV =>
    ⟨hV, (hV.out.cell (p := ⟨q0, 0, none⟩) HB0.out.lt).trans HB0.out.cell, (hV.out.cell (p := ⟨q1, 0, none⟩) HB1.out.lt).trans HB1.out.cell, (hV.out.cell (p := ⟨p, 0, none⟩) (HL1.out.lt p (.inl rfl))).trans ca0⟩
  clear HBT cq0 cq1 ca0
  go_region_held3 (fun V => Sc w2 V ∧ V.cell? ⟨q0, 0, none⟩ = some (.pointer (some ⟨p, 0, none⟩)) ∧ V.cell? ⟨q1, 0, none⟩ = some (.slice vo vl vc) ∧ V.cell? ⟨p, 0, none⟩ = some (.slice ao al cap))
    (first | (refine ⟨?_, ?_, ?_, ?_⟩ <;> assumption) | (refine HSA.out _ ?_; (repeat (first | assumption | exact Sc.start _ | apply Sc.dr))))
    (first
      | (go_at_call 62; with_reducible refine (HBS.out _ (by (repeat (first | assumption | exact Sc.start _ | apply Sc.dr)))).mono ?_; rintro e w4 ⟨k, co, eo, cc, ec, rfl, hit, hs4⟩))
  rename_i hHeld
  clear hHeld HSA HBS
  have HIT := hid hit
  have HS4 := hid hs4
  have HB4 : Hid (Below w2.heap.size w2 w4) := hs4.out
  clear hit hs4
  obtain ⟨Fi, hFi⟩ : ∃ Fi : Nat → Prop, Fi = fun k => Fo k ∨ k = w4.heap.size + 1 := ⟨_, rfl⟩
  have hsz : W.heap.size ≤ w2.heap.size := by rw [HW.out]; simp
  have HSZ := hid hsz
  have HKW : Hid (Below V0.heap.size V0 w4) := by
    have h1 : Below W.heap.size W w2 := by rw [HW.out]; exact (Below.refl _ _).alloc (Nat.le_refl _) _
    exact bt (bt HVV.out h1) HB4.out
  go_wp2
  refine (wpIn_wide (n := n)).1 ?_
  apply wpIn_rangeFunc_Gb (encs := fun x : Int × Int => #[dotV x]) (Kp := Ke Fi) (G := fun pre x _ => pre ++ [x] <+: dotsAll v g.A) (S := fun ys => ys = dotsAll v g.A) (Sp := fun pre => pre <+: dotsAll v g.A) rfl (by omega) (gf := 80) (lb := #[.pointer (some ⟨k + 1, 0, none⟩), .pointer (some ⟨k, 0, none⟩)]) rfl trivial (enters_of Tryz.func80 (by kernel_rfl) rfl)
    (I := fun pre V => ∃ qs : List EvM, qs.map (·.e) = pre.map (evAt g) ∧ pre <+: dotsAll v g.A ∧ J qs V ∧ Ke Fi w4 V) (Ix := fun c _ V => c = .ret ∧ ∃ qs : List EvM, qs.map (·.e) <+: evL v g ∧ Jx qs V)
    (X := fun pre x _ => pre ++ [x] <+: dotsAll v g.A) (Bx := fun x => [.int .i64 x.1, .int .i64 x.2]) (t := 25)
  case hseq =>
    intro r J' Jx' _ _ hY' hj'
    have hbr : Below w4.heap.size w4 ((w4.alloc (.deferred (some []))).alloc (.loop r)) := ((Below.refl _ _).alloc (Nat.le_refl _) _).alloc (by simp) _
    have hfk : ∀ j, w2.heap.size ≤ j → j < w4.heap.size → ¬ Fi j := by
      intro j h1 h2 h3
      rw [hFi] at h3
      have := HSZ.out
      rcases h3 with h3 | h3
      · have := hFW j h3
        omega
      · omega
    have hlt : ∀ {xo : Option Addr} {xs : List Int}, HeldInt w4 xo xs → ∀ b off, xo = some ⟨b, off, none⟩ → xs ≠ [] → b < w4.heap.size := by
      intro xo xs hh b off he hne
      rcases hh.2 with h0 | ⟨b', off', e, hl, _⟩
      · exact absurd h0 hne
      · rw [he] at e
        cases e
        exact hl
    refine betw1_inG (n - 1) (by omega) _ k (k + 1) (Ke Fi) (Ke.refl Fi) (fun h k => Ke.trans h k) co eo cc ec v g.A J' Jx' _ (fun pre x W1 hj hp => (hY' pre x W1 hj hp).mono (fun e V' h => h.elim (fun h => .inl h) (fun h => .inr ⟨h.1, h.2.1⟩))) ?_ hj'
    intro W' hk'
    have hk2 : Ke Fi w4 W' := Ke.trans (Ke.below hbr) hk'
    have h := HIT.out
    exact ⟨hk2.blk h.it.bp (hfk k h.le h.it.bp.lt) (by decide), hk2.blk h.it.bq (hfk (k + 1) (Nat.le_succ_of_le h.le) h.it.bq.lt) (by decide),
      hk2.hv h.it.ha h.na (fun b off e hne => hfk b (h.olda b off e hne) (hlt h.it.ha.held b off e hne)), hk2.hv h.it.hb h.nb (fun b off e hne => hfk b (h.oldb b off e hne) (hlt h.it.hb.held b off e hne))⟩
  case hKt => exact fun h k => Ke.trans h k
  case hKb =>
    intro V r r' _
    exact Turns.of_grown (grownBy_putObj' V _ _) (fun j e => by cases e; exact .inl (by rw [hFi]; exact .inr rfl))
  case hps => exact fun _ => rfl
  case hI =>
    rintro pre V V' row ⟨qs, h1, h2, h3, h4⟩ hg hr
    exact ⟨qs, h1, h2, hJ qs V V' row h3 hg (fun r e => ⟨by have := (hr r e).1; have := HSZ.out; have := HB4.out.size; omega, (hr r e).2⟩), Turns.grown h4 hg (fun j e => .inr (hr j e).1)⟩
  case hIx =>
    rintro c pre V V' row ⟨hc, qs, h1, h2⟩ hg hr
    exact ⟨hc, qs, h1, hJx qs V V' row h2 hg (fun r e => ⟨by have := (hr r e).1; have := HSZ.out; have := HB4.out.size; omega, (hr r e).2⟩)⟩
  case h0 => exact ⟨[], rfl, List.nil_prefix, hJ [] w2 w4 none HJW.out ⟨HB4.out.os, HB4.out.tape, HB4.out.output, HB4.out.size, fun j hj _ => HB4.out.block j hj⟩ (fun r e => by cases e), Ke.refl Fi w4⟩
  case hX => exact fun _ _ _ _ _ _ h _ _ => h
  case hassign =>
    rintro l' pre x V K hlt ⟨qs, h1, h2, h3, h4⟩ hG hK
    dsimp only [dotV]
    gi_wp2
    obtain ⟨gg, hgg⟩ : ∃ z, z = V.heap.size := ⟨_, rfl⟩
    have hbk : Blk (V.alloc (.cells #[.int .i64 x.1, .int .i64 x.2] 25)) gg 25 [.int .i64 x.1, .int .i64 x.2] := by rw [hgg]; exact Blk.new V 25 [.int .i64 x.1, .int .i64 x.2]
    have hba : Below V.heap.size V (V.alloc (.cells #[.int .i64 x.1, .int .i64 x.2] 25)) := (Below.refl _ _).alloc (Nat.le_refl _) _
    rw [← hgg]
    exact hK gg (V.alloc (.cells #[.int .i64 x.1, .int .i64 x.2] 25)) ⟨hba.block _ hlt, hba.block _ (by omega)⟩ (Ke.below hba) ⟨qs, h1, h2, hJ.alloc _ h3, Ke.trans h4 (Ke.below hba)⟩ hG hbk (by have := h4.size; omega)
  case hbody =>
    rintro l' pre ⟨x1, x2⟩ gg V ⟨rc, hkp⟩ ⟨qs, hq1, hq2, hq3, hq4⟩ hX hbk hgl
    have hFV : ∀ i, FootL p me mw i → ¬ Fi i := by
      intro i hi h
      rw [hFi] at h
      rcases h with h | h
      · exact hd i hi h
      · have := HLL.out.lt i hi
        have := HKW.out.size
        omega
    have hNI' : NoInt V0 (fun i => Fi i ∧ i < V0.heap.size) := by
      rintro i ⟨h, h2⟩
      rw [hFi] at h
      rcases h with h | h
      · exact hNI i ⟨h, h2⟩
      · have := HKW.out.size
        omega
    have hkV : Ke Fi V0 V := Ke.trans (Ke.below HKW.out) hq4
    have hLV := hkV.log HLL.out hFV hNI'
    have hmem : (x1, x2) ∈ dotsAll v g.A := hX.subset (by simp)
    have hsome := (hLV.has x1 x2).2 (has_dots hmem)
    obtain ⟨Y, hY1⟩ := Option.isSome_iff_exists.1 hsome
    obtain ⟨De, hDe⟩ := hLV.em
    obtain ⟨hYk, hYo, hYs⟩ := hDe.ok x1 x2 Y hY1
    have hi1 : I64 x1 := hYo ▸ hYk.ok.io
    have hi2 : I64 x2 := hYs ▸ hYk.ok.is
    have HLK := hid (fun V' (hb : Below V.heap.size V V') => (hDe.below hb).look1 hi1 hi2)
    rw [hY1] at HLK
    simp only [Option.map_some, Option.getD_some] at HLK
    have hnfo : ∀ j, w2.heap.size ≤ j + 1 → j < w4.heap.size → ¬ Fo j → ¬ Fi j := by
      intro j _ h2 h3 h
      rw [hFi] at h
      rcases h with h | h
      · exact h3 h
      · omega
    have hyl : yb < w2.heap.size := HYB.out.lt
    have hyV : Boxed V yb 38 (.func (.yield l) #[] #[]) := by
      have h1 : Blk w4 yb 38 [.func (.yield l) #[] #[]] := (HB4.out.block yb hyl).trans HYB.out
      refine hq4.blk h1 ?_ (by decide)
      intro h
      rw [hFi] at h
      have := HB4.out.size
      rcases h with h | h
      · have := hFW _ h
        have := HYW.out
        omega
      · omega
    have h0V : Boxed V q0 26 (.pointer (some ⟨p, 0, none⟩)) := by
      have h1 : Blk w4 q0 26 [.pointer (some ⟨p, 0, none⟩)] := (HB4.out.block q0 HB0.out.lt).trans HB0.out
      refine hq4.blk h1 ?_ (by decide)
      intro h
      rw [hFi] at h
      have := HB4.out.size
      have := HB0.out.lt
      rcases h with h | h
      · exact hq0 h
      · omega
    have HTL : Hid (Calls Tryz.prog 49 #[Y.val] V.drew fun e w5 => ∃ y : EvM, e = .returned y.val ∧ y.e = Y.e ∧ Below V.heap.size V w5 ∧ w5.cell? ⟨yb, 0, none⟩ = some (.func (.yield l) #[] #[]) ∧ YieldAt Fence.wide (n - 1) Tryz.prog l #[y.val] w5 fun e V' => ∃ b, e = .returned (.bool b) ∧ Ke Fo w5 V' ∧ ((b = true ∧ J (qs ++ [y]) V') ∨ (b = false ∧ Jx (qs ++ [y]) V'))) := by
      refine (toldL_any V.drew Y (hYk.ok.below (below_dn (Below.refl _ _) 1))).mono ?_
      rintro e w5 ⟨y, rfl, he, hk, _, hb⟩
      have hb5 : Below V.heap.size V w5 := bt (below_dn (Below.refl _ _) 1) hb
      refine ⟨y, rfl, he, hb5, (hb5.cell (p := ⟨yb, 0, none⟩) hyV.lt).trans hyV.cell, (hY qs y w5 (hJ qs V w5 none hq3 ⟨hb5.os, hb5.tape, hb5.output, hb5.size, fun j hj _ => hb5.block j hj⟩ (fun r e => by cases e)) ⟨?_, hk⟩).mono (fun e V' h => h.elim (fun h => ⟨true, h.1, h.2.2, .inl ⟨rfl, h.2.1⟩⟩) (fun h => ⟨false, h.1, h.2.2, .inr ⟨rfl, h.2.1⟩⟩))⟩
      have h1 := hX.map (evAt g)
      have h2 : evAt g (x1, x2) = y.e := by
        rw [he]
        unfold evAt
        simp only
        rw [hY1]
        rfl
      rw [List.map_append, List.map_cons, List.map_nil, h2, ← hq1] at h1
      exact h1
    have HEND : Hid (∀ (y : EvM) (w5 w6 : World), y.e = Y.e → Below V.heap.size V w5 → Ke Fo w5 w6 → KeptAs w4.heap.size V w6 ∧ Ke Fi V w6 ∧ ((qs ++ [y]).map (·.e) = (pre ++ [(x1, x2)]).map (evAt g)) ∧ Ke Fi w4 w6) := by
      intro y w5 w6 he hb5 hk6
      have hk7 : Ke Fi V w6 := Ke.trans (Ke.below hb5) (hk6.mono (fun i hi => by rw [hFi]; exact .inl hi))
      have h5 := hkp.lt
      have hno : ∀ j, W.heap.size ≤ j → ¬ Fo j := fun j h1 h2 => by have := hFW j h2; omega
      have hs : W.heap.size ≤ w4.heap.size := Nat.le_trans HSZ.out HB4.out.size
      refine ⟨⟨?_, ?_⟩, hk7, ?_, Ke.trans hq4 hk7⟩
      · refine (hk6.block _ (Nat.lt_of_lt_of_le h5 hb5.size) ?_).trans (hb5.block _ h5)
        rintro (hc | ⟨cs, hc⟩)
        · exact hno _ (by omega) hc
        · have h6 : w5.heap[w4.heap.size + 1]? = some (.cells cs.toArray 33) := hc
          rw [hb5.block _ h5, hkp.loop] at h6
          cases h6
      · refine (hk6.block _ (Nat.lt_of_lt_of_le (by omega) hb5.size) ?_).trans (hb5.block _ (by omega))
        rintro (hc | ⟨cs, hc⟩)
        · exact hno _ hs hc
        · have h6 : w5.heap[w4.heap.size]? = some (.cells cs.toArray 33) := hc
          rw [hb5.block _ (by omega), hkp.calls] at h6
          cases h6
      · have h2 : evAt g (x1, x2) = y.e := by
          rw [he]
          unfold evAt
          simp only
          rw [hY1]
          rfl
        rw [List.map_append, List.map_append, hq1, List.map_cons, List.map_nil, List.map_cons, List.map_nil, h2]
    have HEVP : Hid (∀ (y : EvM), (qs ++ [y]).map (·.e) = (pre ++ [(x1, x2)]).map (evAt g) → (qs ++ [y]).map (·.e) <+: evL v g) := by
      intro y h
      rw [h]
      exact hX.map (evAt g)
    obtain ⟨⟨o, s, dp, ct, ep, sk, qt, cl⟩, ao1, cap1⟩ := Y
    obtain ⟨dl, HDL⟩ : ∃ z, Hid (dp.length = z) := ⟨_, hid rfl⟩
    simp only [EvM.val] at HLK HTL
    rw [HDL.out] at HLK HTL
    obtain ⟨_, _, _, _, cp1, _⟩ := hLV.cells
    have cy := hyV.cell
    have c0 := h0V.cell
    have cd0 := hbk.cell (i := 0) rfl
    have cd1 := hbk.cell (i := 1) rfl
    have lk0 := HLK.out V (Below.refl _ _)
    have lk1 : (Instr.lookup 41 (.map (some me)) (.agg #[.int .i64 x1, .int .i64 x2]) false).run Tryz.prog V.drew = .ok _ V.drew := HLK.out V.drew (below_dn (Below.refl _ _) 1)
    have hmix : Tryz.prog.follows .mixedOrders = true := by kernel_rfl
    have HQ3 := hid hq3
    have HQ4 := hid hq4
    have HQ1 := hid hq1
    have HQ2 := hid hq2
    have HX := hid hX
    clear hq1 hq2 hq3 hq4 hX hLV hkV hDe hsome hmem hNI' hFV hY1 hYk hYo hYs hnfo hyV h0V hbk hkp hFi
    gi_wp2
    gi_region_with_o (first
      | (refine ⟨trivial, fun h => absurd h (by decide), (CallsIn.inRound l' (callsIn_wide.2 HTL.out)).mono ?_⟩; rintro e w5 ⟨y, rfl, he5, hb5, cy5, fn5, tm5, as5, bo5, hy5, hR5⟩; have HE5 := hid he5; have HB5 := hid hb5; have HR5 := hid hR5; clear he5 hb5 hR5)
      | (refine ⟨fun h => absurd h (by decide), (round_depth l' HR5.out).mono ?_⟩; rintro e w6 ⟨b6, rfl, hk6, ho6⟩; have HO6 := hid ho6; have HK6 := hid hk6; clear ho6 hk6))
    all_goals
      have HF := hid (HEND.out y w5 w6 HE5.out HB5.out HK6.out)
      rcases HO6.out with ⟨rfl, hj6⟩ | ⟨rfl, hj6⟩
      · gi_wp2
        exact ⟨HF.out.1, HF.out.2.1, qs ++ [y], HF.out.2.2.1, HX.out, hj6, HF.out.2.2.2⟩
      · gi_wp2
        exact ⟨HF.out.1, HF.out.2.1, rfl, qs ++ [y], HEVP.out y HF.out.2.2.1, hj6⟩
  case hdone =>
    rintro D xs V hD rfl ⟨qs, h1, h2, h3, h4⟩ hDef
    have HJD := hid (hJ.putObj (.deferred none) h3 (by have := HSZ.out; have := HB4.out.size; omega) hDef rfl)
    have HDef := hid hDef
    have HQ : Hid (qs.map (·.e) = evL v g) := h1
    clear h1 h2 h3 h4 hDef
    gi_wp2
    refine ⟨by simp, .inl ⟨_, _, rfl, run_takeDeferred HDef.out, ?_⟩⟩
    exact ⟨_, results_none rfl _ _ _, ⟨_, rfl⟩, .inl ⟨qs, HQ.out, HJD.out⟩⟩
  case hstop =>
    rintro D c pre V hD hSp ⟨rfl, qs, h1, h2⟩ hDef
    have HJD := hid (hJx.putObj (.deferred none) h2 (by have := HSZ.out; have := HB4.out.size; omega) hDef rfl)
    have HDef := hid hDef
    have HQ : Hid (qs.map (·.e) <+: evL v g) := h1
    clear h1 h2 hDef hSp
    gi_wp2
    refine ⟨by simp, .inl ⟨_, _, rfl, run_takeDeferred HDef.out, ?_⟩⟩
    exact ⟨_, results_none rfl _ _ _, ⟨_, rfl⟩, .inr ⟨qs, HQ.out, HJD.out⟩⟩
end Go.Proofs.YtjlompnjhmbhhaaGreat
