/-
  Package oplog: what a row of events makes of a log (mathematics of applyAll).
-/
import Derived.Test.YtfeoolknpcffcaaLogF
namespace Go.Proofs.Ytfeoolknpcffcaa
open Go.RowKit Go.Maps

/-- Each was ready in its turn. -/
def ReadyL (A : List Int) : List Ev → Prop
  | [] => True
  | x :: r => ReadyE A x ∧ ReadyL (addA A x) r
def addL (A : List Int) (l : List Ev) : List Int := l.foldl addA A
theorem readyL_snoc {A : List Int} {l : List Ev} {x : Ev} (h : ReadyL A l) (hx : ReadyE (addL A l) x) : ReadyL A (l ++ [x]) := by
  induction l generalizing A with
  | nil => exact ⟨hx, trivial⟩
  | cons y r ih => exact ⟨h.1, ih h.2 hx⟩
theorem addL_snoc (A : List Int) (l : List Ev) (x : Ev) : addL A (l ++ [x]) = addA (addL A l) x := by simp [addL]
/-- Is the dot that of one of them? -/
def InL (l : List Ev) (o s : Int) : Prop := ∃ e ∈ l, e.o = o ∧ e.s = s
instance (l : List Ev) (o s : Int) : Decidable (InL l o s) := by unfold InL; infer_instance
theorem inL_snoc {l : List Ev} {x : Ev} {o s : Int} : InL (l ++ [x]) o s ↔ InL l o s ∨ (x.o = o ∧ x.s = s) := by
  unfold InL
  constructor
  · rintro ⟨e, he, h⟩
    rcases List.mem_append.1 he with he | he
    · exact .inl ⟨e, he, h⟩
    · rw [List.mem_singleton.1 he] at h
      exact .inr h
  · rintro (⟨e, he, h⟩ | h)
    · exact ⟨e, List.mem_append_left _ he, h⟩
    · exact ⟨x, by simp, h⟩
/-- E with a row. -/
def MoreE (E E' : Dots) (l : List Ev) : Prop := (∀ o s, ¬ InL l o s → E' o s = E o s) ∧ ∀ e ∈ l, ∃ x, E' e.o e.s = some x ∧ x.e = e
/-- What is left of g, when l was applied to it. -/
structure RanG (g : Lg) (l : List Ev) (g' : Lg) : Prop where
  A : g'.A = addL g.A l
  ready : ReadyL g.A l
  may : ∀ e ∈ l, MayE e
  W : ∀ o s, g'.W o s = if InL l o s then none else g.W o s
  E : MoreE g.E g'.E l
  ne : g'.ne = g.ne + l.length
  nw : g'.nw + l.length = g.nw + 1
  waited : ∀ e ∈ l.tail, ∃ x, g.W e.o e.s = some x ∧ x.e = e
/-- .. and x is to come next; it waits no more. -/
structure HeadG (g : Lg) (l : List Ev) (x : Ev) (g' : Lg) : Prop where
  A : g'.A = addL g.A l
  ready : ReadyL g.A l
  may : ∀ e ∈ l, MayE e
  W : ∀ o s, g'.W o s = if InL (l ++ [x]) o s then none else g.W o s
  E : MoreE g.E g'.E l
  ne : g'.ne = g.ne + l.length
  nw : g'.nw + l.length = g.nw
  waited : ∀ e ∈ (l ++ [x]).tail, ∃ x, g.W e.o e.s = some x ∧ x.e = e
theorem HeadG.start {g : Lg} {x : Ev} (h : g.W x.o x.s = none) : HeadG g [] x g := by
  refine ⟨rfl, trivial, fun e he => (by cases he), fun o s => ?_, ⟨fun _ _ _ => rfl, fun e he => by cases he⟩, rfl, rfl, fun e he => by cases he⟩
  split
  · next hc =>
    obtain ⟨e, he, rfl, rfl⟩ := hc
    simp at he
    subst he
    exact h
  · rfl
theorem HeadG.apply {g gk : Lg} {l : List Ev} {X : EvM} {w : World} {p me mw : Nat} (h : HeadG g l X.e gk) (hL : LogAt w p me mw gk) (hm : MayE X.e) (hr : ReadyE gk.A X.e) : RanG g (l ++ [X.e]) (applyG gk X) := by
  have hno : ∀ e ∈ l, ¬ (e.o = X.e.o ∧ e.s = X.e.s) := by
    rintro e he ⟨h1, h2⟩
    obtain ⟨y, hy, _⟩ := h.E.2 e he
    have h3 := (hL.has e.o e.s).1 (by rw [hy]; rfl)
    have h4 := h3.2
    have h5 := hr.1
    rw [h1, h2] at h4
    omega
  refine ⟨?_, readyL_snoc h.ready (by rw [← h.A]; exact hr), fun e he => ?_, h.W, ⟨fun o s hn => ?_, fun e he => ?_⟩, ?_, ?_, h.waited⟩
  · show addA gk.A X.e = _
    rw [addL_snoc, h.A]
  · rcases List.mem_append.1 he with he | he
    · exact h.may e he
    · rw [List.mem_singleton.1 he]
      exact hm
  · rw [inL_snoc] at hn
    show updD gk.E X.e.o X.e.s (some X) o s = _
    rw [updD_other _ _ (fun k => hn (.inr ⟨k.1.symm, k.2.symm⟩))]
    exact h.E.1 o s (fun k => hn (.inl k))
  · show ∃ x, updD gk.E X.e.o X.e.s (some X) e.o e.s = some x ∧ x.e = e
    rcases List.mem_append.1 he with he | he
    · rw [updD_other _ _ (hno e he)]
      exact h.E.2 e he
    · rw [List.mem_singleton.1 he, updD_same]
      exact ⟨X, rfl, rfl⟩
  · show gk.ne + 1 = _
    rw [h.ne, List.length_append]
    rfl
  · show gk.nw + _ = _
    have := h.nw
    rw [List.length_append]
    show gk.nw + (l.length + 1) = _
    omega
theorem RanG.take {g g2 : Lg} {l : List Ev} {X : EvM} (h : RanG g l g2) (hl : l ≠ []) (hX : g2.W X.e.o X.e.s = some X) (hn : 1 ≤ g2.nw) : HeadG g l X.e (lessW g2 X.e.o X.e.s) := by
  have hg : g.W X.e.o X.e.s = some X := by
    have := h.W X.e.o X.e.s
    rw [hX] at this
    split at this
    · cases this
    · exact this.symm
  refine ⟨h.A, h.ready, h.may, fun o s => ?_, h.E, h.ne, ?_, fun e he => ?_⟩
  · show updD g2.W X.e.o X.e.s none o s = _
    by_cases e : o = X.e.o ∧ s = X.e.s
    · obtain ⟨rfl, rfl⟩ := e
      rw [updD_same, if_pos (inL_snoc.2 (.inr ⟨rfl, rfl⟩))]
    · rw [updD_other _ _ e, h.W]
      by_cases hc : InL l o s
      · rw [if_pos hc, if_pos (inL_snoc.2 (.inl hc))]
      · rw [if_neg hc, if_neg (fun k => (inL_snoc.1 k).elim hc (fun k => e ⟨k.1.symm, k.2.symm⟩))]
  · show g2.nw - 1 + _ = _
    have := h.nw
    omega
  · cases l with
    | nil => exact absurd rfl hl
    | cons y r =>
      have he' : e ∈ r ++ [X.e] := he
      rcases List.mem_append.1 he' with he' | he'
      · exact h.waited e he'
      · rw [List.mem_singleton.1 he']
        exact ⟨X, hg, rfl⟩
/-- A row of events in memory of its own, each kept. -/
structure RowE (B : Nat) (w : World) (v : Value) (ys : List EvM) : Prop where
  row : w.ownsRow B 33 8 v ys.length (flatE ys)
  keep : ∀ y ∈ ys, EvKeep w y
theorem RowE.below {B : Nat} {w w' : World} {v : Value} {ys : List EvM} (h : RowE B w v ys) (hb : Below w.heap.size w w') : RowE B w' v ys :=
  ⟨(Turns.of_below (F := fun _ => False) hb (Nat.le_refl _)).row h.row (fun _ _ h => h), fun y hy => (h.keep y hy).below hb⟩
theorem RowE.noInt {F : Nat → Prop} {B : Nat} {w w' : World} {v : Value} {ys : List EvM} (h : RowE B w v ys) (hF : NoInt w F) (ht : Turns F w w') (hv : ∀ g, v.ownBlock = some g → ¬ F g) : RowE B w' v ys :=
  ⟨ht.row h.row hv, fun y hy => (h.keep y hy).noInt hF ht⟩
theorem RowE.onEvs {B b : Nat} {w w' : World} {v : Value} {ys : List EvM} {cs : List Value} (h : RowE B w v ys) (hb : Blk w b 33 cs) (ht : Turns (fun i => i = b) w w') (hv : ∀ g, v.ownBlock = some g → g ≠ b) : RowE B w' v ys :=
  ⟨ht.row h.row hv, fun y hy => (h.keep y hy).onEvs hb ht⟩
theorem row_blk {B n : Nat} {w : World} {v : Value} {xs : List Value} (h : w.ownsRow B 33 8 v n xs) {g : Nat} (hg : v.ownBlock = some g) : ∃ cs, Blk w g 33 cs := by
  rcases h.2 with ⟨rfl, _⟩ | ⟨g', cap, cur, rfl, _, hb, _⟩
  · cases hg
  · have e : g' = g := by simpa [Value.ownBlock] using hg
    subst e
    exact ⟨cur.toList, hb⟩
theorem LogAt.grown {w w' : World} {p me mw : Nat} {g : Lg} {B n : Nat} {v : Value} {xs : List Value} (h : LogAt w p me mw g) (hr : w.ownsRow B 33 8 v n xs) (hg : w.grownBy w' v.ownBlock) : LogAt w' p me mw g := by
  cases hv : v.ownBlock with
  | none =>
    rw [hv] at hg
    exact h.turned (F := fun _ => False) (Turns.of_grown hg (fun _ e => by cases e)) (fun _ _ h => h) (noInt_none w)
  | some b =>
    rw [hv] at hg
    obtain ⟨cs, hb⟩ := row_blk hr hv
    exact h.onEvs hb (Turns.of_grown hg (fun k e => by cases e; rfl))
theorem EvKeep.grown {w w' : World} {x : EvM} {B n : Nat} {v : Value} {xs : List Value} (h : EvKeep w x) (hr : w.ownsRow B 33 8 v n xs) (hg : w.grownBy w' v.ownBlock) : EvKeep w' x := by
  cases hv : v.ownBlock with
  | none =>
    rw [hv] at hg
    exact h.noInt (F := fun _ => False) (noInt_none w) (Turns.of_grown hg (fun _ e => by cases e))
  | some b =>
    rw [hv] at hg
    obtain ⟨cs, hb⟩ := row_blk hr hv
    exact h.onEvs hb (Turns.of_grown hg (fun k e => by cases e; rfl))
end Go.Proofs.Ytfeoolknpcffcaa
