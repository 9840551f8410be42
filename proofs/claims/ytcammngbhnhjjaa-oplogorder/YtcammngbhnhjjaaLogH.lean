/-
  Package oplog: what a row of events makes of a log (mathematics of applyAll).
-/
import Derived.Test.YtcammngbhnhjjaaLogF
namespace Go.Proofs.Ytcammngbhnhjjaa
open Go.RowKit Go.Maps

/-- Each was ready in its turn. -/
def ReadyL (A : List Int) : List Ev → Prop
  | [] => True
  | x :: r => ReadyE A x ∧ ReadyL (addA A x) r
def addL (A : List Int) (l : List Ev) : List Int := l.foldl addA A
theorem readyL_snoc {A : List Int} {l : List Ev} {x : Ev} (h : ReadyL A l) (hx : ReadyE (addL A l) x) : ReadyL A (l ++ [x]) := by
  induction l generalizing A with
  | nil => exact ⟨hx, trivial⟩
  | cons y r ih => exact ⟨h.1, ih h.2 hx⟩
theorem addL_snoc (A : List Int) (l : List Ev) (x : Ev) : addL A (l ++ [x]) = addA (addL A l) x := by simp [addL]
/-- Is the dot that of one of them? -/
def InL (l : List Ev) (o s : Int) : Prop := ∃ e ∈ l, e.o = o ∧ e.s = s
instance (l : List Ev) (o s : Int) : Decidable (InL l o s) := by unfold InL; infer_instance
theorem inL_snoc {l : List Ev} {x : Ev} {o s : Int} : InL (l ++ [x]) o s ↔ InL l o s ∨ (x.o = o ∧ x.s = s) := by
  unfold InL
  constructor
  · rintro ⟨e, he, h⟩
    rcases List.mem_append.1 he with he | he
    · exact .inl ⟨e, he, h⟩
    · rw [List.mem_singleton.1 he] at h
      exact .inr h
  · rintro (⟨e, he, h⟩ | h)
    · exact ⟨e, List.mem_append_left _ he, h⟩
    · exact ⟨x, by simp, h⟩
/-- E with a row. -/
def MoreE (E E' : Dots) (l : List Ev) : Prop := (∀ o s, ¬ InL l o s → E' o s = E o s) ∧ ∀ e ∈ l, ∃ x, E' e.o e.s = some x ∧ x.e = e
/-- What is left of g, when l was applied to it. -/
structure RanG (g : Lg) (l : List Ev) (g' : Lg) : Prop where
  A : g'.A = addL g.A l
  ready : ReadyL g.A l
  may : ∀ e ∈ l, MayE e
  W : ∀ o s, g'.W o s = if InL l o s then none else g.W o s
  E : MoreE g.E g'.E l
  ne : g'.ne = g.ne + l.length
  nw : g'.nw + l.length = g.nw + 1
  waited : ∀ e ∈ l.tail, ∃ x, g.W e.o e.s = some x ∧ x.e = e
/-- .. and x is to come next; it waits no more. -/
structure HeadG (g : Lg) (l : List Ev) (x : Ev) (g' : Lg) : Prop where
  A : g'.A = addL g.A l
  ready : ReadyL g.A l
  may : ∀ e ∈ l, MayE e
  W : ∀ o s, g'.W o s = if InL (l ++ [x]) o s then none else g.W o s
  E : MoreE g.E g'.E l
  ne : g'.ne = g.ne + l.length
  nw : g'.nw + l.length = g.nw
  waited : ∀ e ∈ (l ++ [x]).tail, ∃ x, g.W e.o e.s = some x ∧ x.e = e
theorem HeadG.start {g : Lg} {x : Ev} (h : g.W x.o x.s = none) : HeadG g [] x g := by
  refine ⟨rfl, trivial, fun e he => (by cases he), fun o s => ?_, ⟨fun _ _ _ => rfl, fun e he => by cases he⟩, rfl, rfl, fun e he => by cases he⟩
  split
  · next hc =>
    obtain ⟨e, he, rfl, rfl⟩ := hc
    simp at he
    subst he
    exact h
  · rfl
theorem HeadG.apply {g gk : Lg} {l : List Ev} {X : EvM} {w : World} {p me mw : Nat} (h : HeadG g l X.e gk) (hL : LogAt w p me mw gk) (hm : MayE X.e) (hr : ReadyE gk.A X.e) : RanG g (l ++ [X.e]) (applyG gk X) := by
  have hno : ∀ e ∈ l, ¬ (e.o = X.e.o ∧ e.s = X.e.s) := by
    rintro e he ⟨h1, h2⟩
    obtain ⟨y, hy, _⟩ := h.E.2 e he
    have h3 := (hL.has e.o e.s).1 (by rw [hy]; rfl)
    have h4 := h3.2
    have h5 := hr.1
    rw [h1, h2] at h4
    omega
  refine ⟨?_, readyL_snoc h.ready (by rw [← h.A]; exact hr), fun e he => ?_, h.W, ⟨fun o s hn => ?_, fun e he => ?_⟩, ?_, ?_, h.waited⟩
  · show addA gk.A X.e = _
    rw [addL_snoc, h.A]
  · rcases List.mem_append.1 he with he | he
    · exact h.may e he
    · rw [List.mem_singleton.1 he]
      exact hm
  · rw [inL_snoc] at hn
    show updD gk.E X.e.o X.e.s (some X) o s = _
    rw [updD_other _ _ (fun k => hn (.inr ⟨k.1.symm, k.2.symm⟩))]
    exact h.E.1 o s (fun k => hn (.inl k))
  · show ∃ x, updD gk.E X.e.o X.e.s (some X) e.o e.s = some x ∧ x.e = e
    rcases List.mem_append.1 he with he | he
    · rw [updD_other _ _ (hno e he)]
      exact h.E.2 e he
    · rw [List.mem_singleton.1 he, updD_same]
      exact ⟨X, rfl, rfl⟩
  · show gk.ne + 1 = _
    rw [h.ne, List.length_append]
    rfl
  · show gk.nw + _ = _
    have := h.nw
    rw [List.length_append]
    show gk.nw + (l.length + 1) = _
    omega
theorem RanG.take {g g2 : Lg} {l : List Ev} {X : EvM} (h : RanG g l g2) (hl : l ≠ []) (hX : g2.W X.e.o X.e.s = some X) (hn : 1 ≤ g2.nw) : HeadG g l X.e (lessW g2 X.e.o X.e.s) := by
  have hg : g.W X.e.o X.e.s = some X := by
    have := h.W X.e.o X.e.s
    rw [hX] at this
    split at this
    · cases this
    · exact this.symm
  refine ⟨h.A, h.ready, h.may, fun o s => ?_, h.E, h.ne, ?_, fun e he => ?_⟩
  · show updD g2.W X.e.o X.e.s none o s = _
    by_cases e : o = X.e.o ∧ s = X.e.s
    · obtain ⟨rfl, rfl⟩ := e
      rw [updD_same, if_pos (inL_snoc.2 (.inr ⟨rfl, rfl⟩))]
    · rw [updD_other _ _ e, h.W]
      by_cases hc : InL l o s
      · rw [if_pos hc, if_pos (inL_snoc.2 (.inl hc))]
      · rw [if_neg hc, if_neg (fun k => (inL_snoc.1 k).elim hc (fun k => e ⟨k.1.symm, k.2.symm⟩))]
  · show g2.nw - 1 + _ = _
    have := h.nw
    omega
  · cases l with
    | nil => exact absurd rfl hl
    | cons y r =>
      have he' : e ∈ r ++ [X.e] := he
      rcases List.mem_append.1 he' with he' | he'
      · exact h.waited e he'
      · rw [List.mem_singleton.1 he']
        exact ⟨X, hg, rfl⟩
/-- A row of events in memory of its own, each kept. -/
structure RowE (B : Nat) (w : World) (v : Value) (ys : List EvM) : Prop where
  row : w.ownsRow B 33 8 v ys.length (flatE ys)
  keep : ∀ y ∈ ys, EvKeep w y
theorem RowE.below {B : Nat} {w w' : World} {v : Value} {ys : List EvM} (h : RowE B w v ys) (hb : Below w.heap.size w w') : RowE B w' v ys :=
  ⟨(Turns.of_below (F := fun _ => False) hb (Nat.le_refl _)).row h.row (fun _ _ h => h), fun y hy => (h.keep y hy).below hb⟩
theorem RowE.noInt {F : Nat → Prop} {B : Nat} {w w' : World} {v : Value} {ys : List EvM} (h : RowE B w v ys) (hF : NoInt w F) (ht : Turns F w w') (hv : ∀ g, v.ownBlock = some g → ¬ F g) : RowE B w' v ys :=
  ⟨ht.row h.row hv, fun y hy => (h.keep y hy).noInt hF ht⟩
theorem RowE.onEvs {B b : Nat} {w w' : World} {v : Value} {ys : List EvM} {cs : List Value} (h : RowE B w v ys) (hb : Blk w b 33 cs) (ht : Turns (fun i => i = b) w w') (hv : ∀ g, v.ownBlock = some g → g ≠ b) : RowE B w' v ys :=
  ⟨ht.row h.row hv, fun y hy => (h.keep y hy).onEvs hb ht⟩
theorem row_blk {B n : Nat} {w : World} {v : Value} {xs : List Value} (h : w.ownsRow B 33 8 v n xs) {g : Nat} (hg : v.ownBlock = some g) : ∃ cs, Blk w g 33 cs := by
  rcases h.2 with ⟨rfl, _⟩ | ⟨g', cap, cur, rfl, _, hb, _⟩
  · cases hg
  · have e : g' = g := by simpa [Value.ownBlock] using hg
    subst e
    exact ⟨cur.toList, hb⟩
theorem LogAt.grown {w w' : World} {p me mw : Nat} {g : Lg} {B n : Nat} {v : Value} {xs : List Value} (h : LogAt w p me mw g) (hr : w.ownsRow B 33 8 v n xs) (hg : w.grownBy w' v.ownBlock) : LogAt w' p me mw g := by
  cases hv : v.ownBlock with
  | none =>
    rw [hv] at hg
    exact h.turned (F := fun _ => False) (Turns.of_grown hg (fun _ e => by cases e)) (fun _ _ h => h) (noInt_none w)
  | some b =>
    rw [hv] at hg
    obtain ⟨cs, hb⟩ := row_blk hr hv
    exact h.onEvs hb (Turns.of_grown hg (fun k e => by cases e; rfl))
theorem EvKeep.grown {w w' : World} {x : EvM} {B n : Nat} {v : Value} {xs : List Value} (h : EvKeep w x) (hr : w.ownsRow B 33 8 v n xs) (hg : w.grownBy w' v.ownBlock) : EvKeep w' x := by
  cases hv : v.ownBlock with
  | none =>
    rw [hv] at hg
    exact h.noInt (F := fun _ => False) (noInt_none w) (Turns.of_grown hg (fun _ e => by cases e))
  | some b =>
    rw [hv] at hg
    obtain ⟨cs, hb⟩ := row_blk hr hv
    exact h.onEvs hb (Turns.of_grown hg (fun k e => by cases e; rfl))
end Go.Proofs.Ytcammngbhnhjjaa
/-
  Package oplog: applyAll.
-/
namespace Go.Proofs.Ytcammngbhnhjjaa
open Go.RowKit Go.Maps

/-- append(out, e), and where it lies then. -/
theorem wpList_append_evL {ops : Array Oper} {rest : List Oper} {o : Oper} {a : Act} {Q : Exit → Act → World → Prop} (W0 W : World) (x : EvM) (hW : W = W0.alloc (.cells x.cells.toArray 33)) (hgd : o.guard = none) (s xx : Operand)
    (ho : o.op = .call { callee := .builtin .append, args := #[s, xx], argTypes := #[22, 22] }) (B : Nat) (v : Value) (ds : List EvM) (hs : a.eval s = v) (g : Nat) (hx : a.eval xx = .slice (some ⟨g, 0, none⟩) 1 1) (hg : g = W0.heap.size) (hown : W0.ownsRow B 33 8 v ds.length (flatE ds)) (hB : B ≤ W0.heap.size) (hl : ds.length < 1466015503701)
    (h : ∀ v' w', w'.ownsRow B 33 8 v' (ds ++ [x]).length (flatE (ds ++ [x])) → Below B W0 w' → W.grownBy w' v.ownBlock → wpList Try.prog ops Q rest (a.put o.dst v') w') :
    wpList Try.prog ops Q (o :: rest) a W := by
  subst hW
  subst hg
  obtain ⟨iI, hj, hy0, hy1, hy2⟩ := info_parts Try.infoEv
  have hnb := Blk.new W0 33 x.cells
  refine wpList_append_own_at _ hgd s xx 22 ho B 33 iI _ 8 96 Try.underlying22 hj hy0 hy1 hy2 rfl (by decide) v ds.length (flatE ds) hs (hown.alloc _) ⟨W0.heap.size, 0, none⟩ 1 1 x.cells hx rfl (fun j u hu => ?_) (ev_one x) (by unfold maxLen; omega) (by omega) (by simp; omega) ?_
  · rw [Addr.add_lit, Nat.zero_add]
    exact hnb.cell hu
  · intro v' w' hown' hgrow _ _
    refine h v' w' ?_ (((Below.refl _ _).alloc hB _).grown hgrow (by simp; omega) (fun k hk => (hown.lt k hk).1)) hgrow
    rw [flatE_snoc, List.length_append]
    exact hown'
/-- What applyAll leaves. -/
def AllP (w : World) (p me mw : Nat) (g : Lg) (e0 : Ev) (e : Ending) (w' : World) : Prop :=
  ∃ v ys g', e = .returned v ∧ RowE w.heap.size w' v ys ∧ (∃ r, ys.map (·.e) = e0 :: r) ∧ RanG g (ys.map (·.e)) g' ∧ StuckG g' ∧ AtG w p me mw g' w'
structure InG (w : World) (p me mw pb B : Nat) (g : Lg) (e0 : Ev) (v : Value) (ys : List EvM) (gk : Lg) (wr : World) : Prop where
  log : LogAt wr p me mw gk
  row : RowE B wr v ys
  box : ∃ X : EvM, Blk wr pb 33 X.cells
  turn : Turns (FootL p me mw) w wr
  size : B ≤ wr.heap.size
/-- One more is to be applied. -/
structure GoesOn (w : World) (p me mw pb B : Nat) (g : Lg) (e0 : Ev) (v : Value) (ys : List EvM) (X : EvM) (gk : Lg) (wr : World) : Prop where
  log : LogAt wr p me mw gk
  row : RowE B wr v ys
  box : Blk wr pb 33 X.cells
  turn : Turns (FootL p me mw) w wr
  size : B ≤ wr.heap.size
  head : HeadG g (ys.map (·.e)) X.e gk
  first : ∃ r, ys.map (·.e) ++ [X.e] = e0 :: r
  keep : EvKeep wr X
  may : MayE X.e
  ready : ReadyE gk.A X.e
  gone : gk.W X.e.o X.e.s = none
  room : gk.ne < 65536
structure Ended (w : World) (p me mw B : Nat) (g : Lg) (e0 : Ev) (v : Value) (ys : List EvM) (gk : Lg) (wr : World) : Prop where
  log : LogAt wr p me mw gk
  row : RowE B wr v ys
  turn : Turns (FootL p me mw) w wr
  ran : RanG g (ys.map (·.e)) gk
  first : ∃ r, ys.map (·.e) = e0 :: r
  stuck : StuckG gk
theorem snoc_first {l : List Ev} {x e0 : Ev} (h : ∃ r, l ++ [x] = e0 :: r) (y : Ev) : ∃ r, l ++ [x] ++ [y] = e0 :: r := by
  obtain ⟨r, h⟩ := h
  exact ⟨r ++ [y], by rw [h]; rfl⟩
set_option maxRecDepth 200000 in
set_option maxHeartbeats 4000000 in
theorem applyAll_any {w : World} {p me mw : Nat} {g : Lg} (h : LogAt w p me mw g) (x : EvM) (hx : EvKeep w x) (hm : MayE x.e) (hr : ReadyE g.A x.e) (hw : g.W x.e.o x.e.s = none) (hn : g.ne < 65536) :
    Calls Try.prog 25 #[.pointer (some ⟨p, 0, none⟩), x.val] w (AllP w p me mw g x.e) := by
  obtain ⟨W, hW⟩ : ∃ W, W = w.alloc (.cells x.cells.toArray 33) := ⟨_, rfl⟩
  have HB : Hid (Below w.heap.size w W) := by rw [hW]; exact (Below.refl _ _).alloc (Nat.le_refl _) _
  have HK : Hid (Blk W w.heap.size 33 x.cells) := by rw [hW]; exact Blk.new w _ _
  obtain ⟨pb, hpb⟩ : ∃ q, q = w.heap.size := ⟨_, rfl⟩
  rw [← hpb] at HK
  have HPP := hid hpb
  have HPW : Hid (∀ i, FootL p me mw i → i < w.heap.size) := h.lt
  have HBB : Hid (pb < W.heap.size) := HK.out.lt
  have HST : Hid (GoesOn w p me mw pb W.heap.size g x.e (.slice none 0 0) [] x g W) := ⟨h.below HB.out, ⟨World.ownsRow_nil _ _ _ _, fun y hy => by cases hy⟩, HK.out, Turns.of_below HB.out (Nat.le_refl _), Nat.le_refl _, HeadG.start hw, ⟨[], rfl⟩, hx.below HB.out, hm, hr, hw, hn⟩
  obtain ⟨e0, he0⟩ : ∃ e, e = x.e := ⟨_, rfl⟩
  rw [← he0] at HST ⊢
  have HW := hid hW
  clear hW hx h hm hr hw hn hpb he0
  obtain ⟨⟨o, s, dp, ct, ep, sk, qt, cl⟩, ao1, cap1⟩ := x
  obtain ⟨XN, HXN⟩ : ∃ m, Hid (dp.length = m) := ⟨_, hid rfl⟩
  simp only [EvM.val, EvM.cells] at HW ⊢
  rw [HXN.out] at HW ⊢
  go_enter Try.func25, Try.ntmps25
  go_wp2
  rw [← HW.out, ← HPP.out]
  clear HW HXN
  go_loopw [5, 6] (fun v m wr => ∃ (b : Bool) (ys : List EvM) (X : EvM) (gk : Lg), m = .bool b ∧ Hid ((b = true → GoesOn w p me mw pb W.heap.size g e0 v ys X gk wr) ∧ (b = false → Ended w p me mw W.heap.size g e0 v ys gk wr))) (fun v _ _ => 70000 - lenV v)
  case atStart => exact ⟨true, [], _, g, rfl, fun _ => HST.out, fun h => by cases h⟩
  case round =>
    obtain ⟨b, ys, X, gk, rfl, HI⟩ := hrel
    cases b with
    | false =>
      have HE := hid (HI.out.2 rfl)
      clear HI
      go_wp2
      go_ret
      exact ⟨_, ys, gk, rfl, ⟨own_mono HE.out.row.row HB.out.size, HE.out.row.keep⟩, HE.out.first, HE.out.ran, HE.out.stuck, HE.out.log, HE.out.turn⟩
    | true =>
      have HG := hid (HI.out.1 rfl)
      clear HI
      have HAP := hid (applyL_any HG.out.log X HG.out.keep HG.out.may HG.out.ready HG.out.gone HG.out.room)
      have HRN := hid (HG.out.head.apply HG.out.log HG.out.may HG.out.ready)
      have HLN : Hid (ys.length < 65536) := by
        have h1 := HG.out.head.ne
        have h2 := HG.out.room
        rw [List.length_map] at h1
        show _ < _
        omega
      have HPF : Hid (¬ FootL p me mw pb) := fun hf => by have := HPW.out pb hf; have := HPP.out; omega
      have HVF : Hid (∀ i, u5.ownBlock = some i → ¬ FootL p me mw i ∧ i ≠ pb) := fun i hi => by
        have h1 := (HG.out.row.row.lt i hi).1
        have h2 := HBB.out
        exact ⟨fun hf => by have := HPW.out i hf; have := HPP.out; omega, by omega⟩
      obtain ⟨⟨o, s, dp, ct, ep, sk, qt, cl⟩, ao1, cap1⟩ := X
      obtain ⟨XN, HXN⟩ : ∃ m, Hid (dp.length = m) := ⟨_, hid rfl⟩
      simp only [EvM.val] at HAP
      rw [HXN.out] at HAP
      have HBX := hid HG.out.box
      simp only [EvM.cells] at HBX
      rw [HXN.out] at HBX
      have t0 := HBX.out.cell (i := 0) rfl
      have t1 := HBX.out.cell (i := 1) rfl
      have t2 := HBX.out.cell (i := 2) rfl
      have t3 := HBX.out.cell (i := 3) rfl
      have t4 := HBX.out.cell (i := 4) rfl
      have t5 := HBX.out.cell (i := 5) rfl
      have t6 := HBX.out.cell (i := 6) rfl
      have t7 := HBX.out.cell (i := 7) rfl
      go_wp2_with fail
      refine HAP.out.mono ?_
      rintro e w1 ⟨rfl, hl1, ht1⟩
      have HL1 := hid hl1
      have HT1 := hid ht1
      have hb1 := ht1.blk HBX.out HPF.out
      have HKX1 := hid (HG.out.keep.noInt HG.out.log.noInt ht1)
      have HRW1 := hid (HG.out.row.noInt HG.out.log.noInt ht1 (fun i hi => (HVF.out i hi).1))
      have HBX1 := hid hb1
      clear t0 t1 t2 t3 t4 t5 t6 t7 hl1 ht1 HAP HBX
      have HTD := hid (toldL_any w1 ⟨⟨o, s, dp, ct, ep, sk, qt, cl⟩, ao1, cap1⟩ HKX1.out.ok)
      simp only [EvM.val] at HTD
      rw [HXN.out] at HTD
      have t0 := hb1.cell (i := 0) rfl
      have t1 := hb1.cell (i := 1) rfl
      have t2 := hb1.cell (i := 2) rfl
      have t3 := hb1.cell (i := 3) rfl
      have t4 := hb1.cell (i := 4) rfl
      have t5 := hb1.cell (i := 5) rfl
      have t6 := hb1.cell (i := 6) rfl
      have t7 := hb1.cell (i := 7) rfl
      clear hb1
      go_wp2_with fail
      refine HTD.out.mono ?_
      rintro e w2 ⟨⟨ye, bo, cp⟩, rfl, hye, hyk, _, hb2⟩
      obtain rfl : ye = ⟨o, s, dp, ct, ep, sk, qt, cl⟩ := hye
      have HYK := hid hyk
      have HL2 := hid (HL1.out.below hb2)
      have HRW2 := hid (HRW1.out.below hb2)
      have HBX2 := hid (HBX1.out.below hb2 HBX1.out.lt)
      have HS2 : Hid (W.heap.size ≤ w2.heap.size) := Nat.le_trans HG.out.size (Nat.le_trans HT1.out.size hb2.size)
      have HT2 : Hid (Turns (FootL p me mw) w w2) := (HG.out.turn.trans HT1.out (fun i hi => .inl hi)).trans (Turns.of_below (F := fun _ => False) hb2 (Nat.le_refl _)) (fun _ h => h.elim)
      have HXC : Hid (∀ V : World, V.alloc (.cells #[.int .i64 o, .int .i64 s, .slice bo XN cp, .string ct, .int .i64 ep, .string sk, .int .i64 qt, .bool cl] 33) = V.alloc (.cells (EvM.cells ⟨⟨o, s, dp, ct, ep, sk, qt, cl⟩, bo, cp⟩).toArray 33)) := fun V => by
        simp only [EvM.cells]
        rw [HXN.out]
      have HSM : Hid (ys.length < 1466015503701) := by have := HLN.out; show _ < _; omega
      clear t0 t1 t2 t3 t4 t5 t6 t7 hyk hb2 HTD
      simp only [EvM.val]
      rw [HXN.out]
      go_wp2_with (at_builtin; refine wpList_append_evL w2 _ ⟨⟨o, s, dp, ct, ep, sk, qt, cl⟩, bo, cp⟩ (HXC.out _) rfl _ _ rfl W.heap.size u5 ys rfl _ rfl rfl HRW2.out.row HS2.out HSM.out ?_; intro v' w3 hown3 hb3 hg3; have HO3 := hid hown3; have HB3 := hid hb3; have HG3 := hid hg3; clear hown3 hb3 hg3)
      have hba : Below w2.heap.size w2 (w2.alloc (.cells #[.int .i64 o, .int .i64 s, .slice bo XN cp, .string ct, .int .i64 ep, .string sk, .int .i64 qt, .bool cl] 33)) := (Below.refl _ _).alloc (Nat.le_refl _) _
      have hra := HRW2.out.below hba
      have HL3 := hid ((HL2.out.below hba).grown hra.row HG3.out)
      have HRW3 : Hid (RowE W.heap.size w3 v' (ys ++ [⟨⟨o, s, dp, ct, ep, sk, qt, cl⟩, bo, cp⟩])) := ⟨HO3.out, fun y hy => by
        rcases List.mem_append.1 hy with hy | hy
        · exact (hra.keep y hy).grown hra.row HG3.out
        · rw [List.mem_singleton.1 hy]
          exact (HYK.out.below hba).grown hra.row HG3.out⟩
      have HBX3 := hid (HBX2.out.below HB3.out HBB.out)
      have HT3 : Hid (Turns (FootL p me mw) w w3) := HT2.out.trans ((Turns.refl (fun i => W.heap.size ≤ i) w2).trans (⟨HB3.out.os, HB3.out.tape, HB3.out.output, HB3.out.size, fun k hk hn => HB3.out.block k (by omega)⟩ : Turns (fun i => W.heap.size ≤ i) w2 w3) (fun i hi => .inl hi)) (fun i hi => .inr (Nat.le_trans HB.out.size hi))
      have HS3 : Hid (W.heap.size ≤ w3.heap.size) := Nat.le_trans HS2.out HB3.out.size
      clear hba hra
      have HTR := hid (takeReady_any HL3.out)
      refine HTR.out.mono ?_
      have HLU : Hid (lenV u5 = ys.length) := by
        obtain ⟨o5, c5, hu5⟩ := own_slice' HG.out.row.row
        rw [hu5]
        rfl
      have HLV : Hid (lenV v' = ys.length + 1) := by
        obtain ⟨o5, c5, hu5⟩ := own_slice' HO3.out
        rw [hu5, List.length_append]
        rfl
      have HMP : Hid ((ys ++ [(⟨⟨o, s, dp, ct, ep, sk, qt, cl⟩, bo, cp⟩ : EvM)]).map (·.e) = ys.map (·.e) ++ [⟨o, s, dp, ct, ep, sk, qt, cl⟩]) := by
        show _ = _
        rw [List.map_append]
        rfl
      have HVB : Hid (∀ i, v'.ownBlock = some i → ¬ FootL p me mw i ∧ i ≠ pb) := fun i hi => by
        have h1 := (HO3.out.lt i hi).1
        have h2 := HBB.out
        exact ⟨fun hf => by have := HPW.out i hf; have := HPP.out; omega, by omega⟩
      rintro e w4 (⟨rfl, hst, hb4⟩ | ⟨x', rfl, hne, hnw, hWx, hrdy, hkx, hl4, ht4⟩)
      · have HSTU := hid hst
        have hk4 := HBX3.out.below hb4 HBX3.out.lt
        have HL4 := hid (HL3.out.below hb4)
        have HRW4 := hid (HRW3.out.below hb4)
        have HT4 : Hid (Turns (FootL p me mw) w w4) := HT3.out.trans (Turns.of_below (F := fun _ => False) hb4 (Nat.le_refl _)) (fun _ h => h.elim)
        obtain ⟨W5, hW5⟩ : ∃ V, V = st8 w4 pb (.int .i64 0) (.int .i64 0) (.slice none 0 0) (.string ⟨#[]⟩) (.int .i64 0) (.string ⟨#[]⟩) (.int .i64 0) (.bool false) := ⟨_, rfl⟩
        have hT5 : Turns (fun i => i = pb) w4 W5 := by rw [hW5]; exact st8_turns _ _ _ _ _ _ _ _ _ _
        have HEN : Hid (Ended w p me mw W.heap.size g e0 v' (ys ++ [⟨⟨o, s, dp, ct, ep, sk, qt, cl⟩, bo, cp⟩]) (applyG gk ⟨⟨o, s, dp, ct, ep, sk, qt, cl⟩, ao1, cap1⟩) W5) :=
          ⟨HL4.out.onEvs hk4 hT5, HRW4.out.onEvs hk4 hT5 (fun i hi => (HVB.out i hi).2), HT4.out.trans hT5 (fun i hi => .inr (by rw [hi, HPP.out]; exact Nat.le_refl _)), by rw [HMP.out]; exact HRN.out, by rw [HMP.out]; exact HG.out.first, HSTU.out⟩
        have t0 := hk4.cell (i := 0) rfl
        have t1 := hk4.cell (i := 1) rfl
        have t2 := hk4.cell (i := 2) rfl
        have t3 := hk4.cell (i := 3) rfl
        have t4 := hk4.cell (i := 4) rfl
        have t5 := hk4.cell (i := 5) rfl
        have t6 := hk4.cell (i := 6) rfl
        have t7 := hk4.cell (i := 7) rfl
        have f0 := hk4.frozen 0
        have f1 := hk4.frozen 1
        have f2 := hk4.frozen 2
        have f3 := hk4.frozen 3
        have f4 := hk4.frozen 4
        have f5 := hk4.frozen 5
        have f6 := hk4.frozen 6
        have f7 := hk4.frozen 7
        unfold st8 at hW5
        unfold zeroV
        clear hst hb4 hk4 hT5 HTR
        go_wp2
        rw [← hW5]
        go_roundw
        case rel => exact ⟨false, _, zeroEM, _, rfl, fun h => (by cases h), fun _ => HEN.out⟩
        case measure =>
          have h1 := HLU.out
          have h2 := HLV.out
          have h3 := HLN.out
          simp [h1, h2]
          omega
      · have hk4 := ht4.blk HBX3.out HPF.out
        have HRW4 := hid (HRW3.out.noInt HL3.out.noInt ht4 (fun i hi => (HVB.out i hi).1))
        have HT4 : Hid (Turns (FootL p me mw) w w4) := HT3.out.trans ht4 (fun i hi => .inl hi)
        have HS4 : Hid (W.heap.size ≤ w4.heap.size) := Nat.le_trans HS3.out ht4.size
        have HMY := hid (HL3.out.wait _ _ _ hWx).1
        have HHD := hid (HRN.out.take (by simp) hWx hnw)
        have HKX4 := hid hkx
        have HL4 := hid hl4
        have HRD4 := hid hrdy
        have HNE4 := hid hne
        clear hkx hl4 hrdy hne hnw hWx ht4
        obtain ⟨⟨o2, s2, dp2, ct2, ep2, sk2, qt2, cl2⟩, ao2, cap2⟩ := x'
        obtain ⟨XM, HXM⟩ : ∃ m, Hid (dp2.length = m) := ⟨_, hid rfl⟩
        obtain ⟨W5, hW5⟩ : ∃ V, V = st8 w4 pb (.int .i64 o2) (.int .i64 s2) (.slice ao2 XM cap2) (.string ct2) (.int .i64 ep2) (.string sk2) (.int .i64 qt2) (.bool cl2) := ⟨_, rfl⟩
        have hT5 : Turns (fun i => i = pb) w4 W5 := by rw [hW5]; exact st8_turns _ _ _ _ _ _ _ _ _ _
        have hk5 : Blk W5 pb 33 (EvM.cells ⟨⟨o2, s2, dp2, ct2, ep2, sk2, qt2, cl2⟩, ao2, cap2⟩) := by
          rw [hW5]
          simp only [EvM.cells]
          rw [HXM.out]
          exact st8_blk hk4 _ _ _ _ _ _ _ _
        have HGN : Hid (GoesOn w p me mw pb W.heap.size g e0 v' (ys ++ [⟨⟨o, s, dp, ct, ep, sk, qt, cl⟩, bo, cp⟩]) ⟨⟨o2, s2, dp2, ct2, ep2, sk2, qt2, cl2⟩, ao2, cap2⟩ (lessW (applyG gk ⟨⟨o, s, dp, ct, ep, sk, qt, cl⟩, ao1, cap1⟩) o2 s2) W5) :=
          ⟨HL4.out.onEvs hk4 hT5, HRW4.out.onEvs hk4 hT5 (fun i hi => (HVB.out i hi).2), hk5, HT4.out.trans hT5 (fun i hi => .inr (by rw [hi, HPP.out]; exact Nat.le_refl _)), Nat.le_trans HS4.out hT5.size, by rw [HMP.out]; exact HHD.out, by rw [HMP.out]; exact snoc_first HG.out.first _, HKX4.out.onEvs hk4 hT5, HMY.out, HRD4.out, updD_same _ _ _ _, HNE4.out⟩
        have t0 := hk4.cell (i := 0) rfl
        have t1 := hk4.cell (i := 1) rfl
        have t2 := hk4.cell (i := 2) rfl
        have t3 := hk4.cell (i := 3) rfl
        have t4 := hk4.cell (i := 4) rfl
        have t5 := hk4.cell (i := 5) rfl
        have t6 := hk4.cell (i := 6) rfl
        have t7 := hk4.cell (i := 7) rfl
        have f0 := hk4.frozen 0
        have f1 := hk4.frozen 1
        have f2 := hk4.frozen 2
        have f3 := hk4.frozen 3
        have f4 := hk4.frozen 4
        have f5 := hk4.frozen 5
        have f6 := hk4.frozen 6
        have f7 := hk4.frozen 7
        unfold st8 at hW5
        simp only [EvM.val]
        rw [HXM.out]
        clear hk4 hT5 hk5 HTR
        go_wp2
        rw [← hW5]
        go_roundw
        case rel => exact ⟨true, _, _, _, rfl, fun _ => HGN.out, fun h => by cases h⟩
        case measure =>
          have h1 := HLU.out
          have h2 := HLV.out
          have h3 := HLN.out
          simp [h1, h2]
          omega
end Go.Proofs.Ytcammngbhnhjjaa
