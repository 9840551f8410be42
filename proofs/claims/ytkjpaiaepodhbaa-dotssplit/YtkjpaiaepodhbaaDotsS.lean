/-
  What the walk of DotsSplit wants: a range that is never rightly broken off, what stays all along, the end.
-/
import Derived.Test.YtkjpaiaepodhbaaDotsSplitM
import Derived.Test.YtkjpaiaepodhbaaDotsFillW
namespace Go.Proofs.Ytkjpaiaepodhbaa
open Go.RowKit Go.Shelf Go.Maps
attribute [local go_sem] Oper.semAt_some

/-- A range whose rounds never rightly break it off. -/
theorem wpIn_rangeFunc_boxN {F : Fence} {n : Nat} {P : Program} {α : Type} {g : Operand} {ps : Array Tmp} {assign body : Code} {Q : Exit → Act → World → Prop} {a : Act} {w : World}
    (hro : F.round = none) (h1 : 1 ≤ n) {gf : Nat} {lb : Array Value} (hg : a.eval g = .func (.func gf) #[] lb) (hFg : F.fn gf) (eg : ∀ args w, (callFunc gf args).run P w = .ok (.enter gf args) w)
    {encs : α → Array Value} {Kp : World → World → Prop} {S Sp : List α → Prop} {N : Nat} {w0 : World} (hseq : SeqStopsK F (n - 1) P gf lb encs Kp S Sp N w0)
    (hKt : ∀ {A B C : World}, Kp A B → Kp B C → Kp A C) (hKb : ∀ (W : World) (l : Nat) (o o' : Obj), w.heap.size ≤ l → W.heap[l]? = some o → o.isCells = false → o.isWalk = false → Kp W (W.putObj l o')) (hb0 : Below w0.heap.size w0 w) (hps : ∀ x, (encs x).size = ps.size)
    (I : List α → World → Prop) (Bad : List α → Prop) (hI : OwnFrom w.heap.size I) (h0 : I [] w) (Bx : α → List Value) (t : TypeId) (B : Nat) (A : α → Nat → Act)
    (hno : ∀ pre, Sp pre → ¬ Bad pre)
    (hassign : ∀ (l : Nat) (pre : List α) (x : α) (W : World) (K : Act → World → Prop), I pre W → (∀ gg W', KeepsFrom w.heap.size W W' → Kp W W' → I pre W' → Blk W' gg t (Bx x) → B ≤ gg → K (A x gg) W') →
      assign.wpIn (F.inRound l) (n - 1 - 1) P (Exit.then K (fun _ _ _ => False)) { tmps := (ps.zip (encs x)).foldl (fun t (p, v) => t.setIfInBounds p v) a.tmps, defers := [] } W)
    (hbody : ∀ (l : Nat) (pre : List α) (x : α) (gg : Nat) (W : World), I pre W → Blk W gg t (Bx x) → B ≤ gg → pre.length < N → body.wpIn (F.inRound l) (n - 1 - 1) P (ownPostG w.heap.size Kp I (fun _ pre _ => Bad pre) (pre ++ [x]) W) (A x gg) W)
    (hafter : ∀ (D : Nat) (xs : List α) (W : World), w.heap.size ≤ D → S xs → I xs W → W.heap[D]? = some (.deferred (some [])) → Q .normal { a with defers := { target := .collected D, args := #[] } :: a.defers } W) :
    (Code.rangeFunc g ps assign body).wpIn F n P Q a w :=
  wpIn_rangeFunc_ownH hro h1 hg hFg eg hseq (fun h k => hKt h k) hKb hb0 hps I (fun _ pre _ => Bad pre) hI (fun _ _ _ _ _ h _ _ => h) h0 (fun x a' W => ∃ gg, a' = A x gg ∧ Blk W gg t (Bx x) ∧ B ≤ gg)
    (fun x a' _ W W' row ⟨gg, e, hb, hl⟩ hg hr => ⟨gg, e, blk_own2 () W W' row hb hg hr, hl⟩)
    (fun l pre x W K hi hK => hassign l pre x W K hi (fun gg W' h1 h2 h3 h4 h5 => hK _ W' h1 h2 h3 ⟨gg, rfl, h4, h5⟩))
    (fun l pre x a' W _ _ hi ⟨gg, e, hb, hl⟩ hlt => by subst e; exact hbody l pre x gg W hi hb hl hlt)
    (fun D xs W hD hs hi hd => hafter D xs W hD hs hi hd)
    (fun _ _ pre _ _ hs hb _ => absurd hb (hno pre hs))
theorem Closed.boxed {w0 wr : World} {p m N : Nat} {rs0 : Nat → Value} {S : Int → Int → Option Value} (h : Closed w0 p m rs0 S N wr) {q : Nat} {t : TypeId} {u : Value} (hb : Boxed w0 q t u) (hq : ¬ FootD p m rs0 q) : Boxed wr q t u := by
  obtain ⟨_, _, _, _, hT, _⟩ := h
  exact (hT.block q hb.lt hq).trans hb
theorem Boxed.under {w w' : World} {q : Nat} {t : TypeId} {u : Value} (hb : Below w.heap.size w w') (h : Boxed w q t u) : Boxed w' q t u := (hb.block _ h.lt).trans h
theorem Boxed.under' {w w' : World} {q B : Nat} {t : TypeId} {u : Value} (hb : Below B w w') (h : Boxed w q t u) (hq : q < B) : Boxed w' q t u := (hb.block _ hq).trans h
theorem Boxed.aside {w : World} {q r : Nat} {t : TypeId} {x : Value} (h : Boxed w q t x) (hne : q ≠ r) (u : Value) : (w.setCell ⟨r, 0, none⟩ u).drew.cell? ⟨q, 0, none⟩ = some x :=
  Boxed.cell (show Boxed (w.setCell ⟨r, 0, none⟩ u).drew q t x from (Below.heap_setCell _ _ _ _ hne).trans h)
/-- The end: the answer is stored, the two marks are taken. -/
theorem split_end {w wr : World} {D9 D10 : Nat} (hb : Below w.heap.size w wr) (hR : Boxed wr (w.heap.size + 1) 4 (.bool false)) (h9 : wr.heap[D9]? = some (.deferred (some []))) (h10 : wr.heap[D10]? = some (.deferred (some []))) (hne : D9 ≠ D10) (n9 : w.heap.size + 1 < D9) (n10 : w.heap.size + 1 < D10) :
    (wr.setCell ⟨w.heap.size + 1, 0, none⟩ (.bool true)).drew.heap[D10]? = some (.deferred (some [])) ∧
    ((wr.setCell ⟨w.heap.size + 1, 0, none⟩ (.bool true)).drew.putObj D10 (.deferred none)).heap[D9]? = some (.deferred (some [])) ∧
    Boxed (((wr.setCell ⟨w.heap.size + 1, 0, none⟩ (.bool true)).drew.putObj D10 (.deferred none)).putObj D9 (.deferred none)) (w.heap.size + 1) 4 (.bool true) ∧
    Below w.heap.size w (((wr.setCell ⟨w.heap.size + 1, 0, none⟩ (.bool true)).drew.putObj D10 (.deferred none)).putObj D9 (.deferred none)) := by
  have k10 : (wr.setCell ⟨w.heap.size + 1, 0, none⟩ (.bool true)).drew.heap[D10]? = some (.deferred (some [])) := by
    show (wr.setCell ⟨w.heap.size + 1, 0, none⟩ (.bool true)).heap[D10]? = _
    rw [Below.heap_setCell _ _ _ _ (by simp; omega)]
    exact h10
  have k9 : ((wr.setCell ⟨w.heap.size + 1, 0, none⟩ (.bool true)).drew.putObj D10 (.deferred none)).heap[D9]? = some (.deferred (some [])) := by
    rw [World.putObj_heap_other (by omega)]
    show (wr.setCell ⟨w.heap.size + 1, 0, none⟩ (.bool true)).heap[D9]? = _
    rw [Below.heap_setCell _ _ _ _ (by simp; omega)]
    exact h9
  refine ⟨k10, k9, ?_, ?_⟩
  · unfold Boxed
    rw [World.putObj_heap_other (by omega), World.putObj_heap_other (by omega)]
    exact hR.set (.bool true)
  · exact ((below_dn (hb.setCell (p := ⟨w.heap.size + 1, 0, none⟩) (by simp) (.bool true)) 1).trans (belowK_b (w := w) (Nat.le_refl _) _ D10 _ _ (by omega) k10 rfl rfl)).trans (belowK_b (w := w) (Nat.le_refl _) _ D9 _ _ (by omega) k9 rfl rfl)
/-- The end: the answer is stored, the two marks are taken. -/
theorem split_end0 {w wr : World} {D9 D10 : Nat} (hb : Below w.heap.size w wr) (hR : Boxed wr (w.heap.size + 1) 4 (.bool false)) (h9 : wr.heap[D9]? = some (.deferred (some []))) (h10 : wr.heap[D10]? = some (.deferred (some []))) (hne : D9 ≠ D10) (n9 : w.heap.size + 1 < D9) (n10 : w.heap.size + 1 < D10) :
    (wr.setCell ⟨w.heap.size + 1, 0, none⟩ (.bool true)).heap[D10]? = some (.deferred (some [])) ∧
    ((wr.setCell ⟨w.heap.size + 1, 0, none⟩ (.bool true)).putObj D10 (.deferred none)).heap[D9]? = some (.deferred (some [])) ∧
    Boxed (((wr.setCell ⟨w.heap.size + 1, 0, none⟩ (.bool true)).putObj D10 (.deferred none)).putObj D9 (.deferred none)) (w.heap.size + 1) 4 (.bool true) ∧
    Below w.heap.size w (((wr.setCell ⟨w.heap.size + 1, 0, none⟩ (.bool true)).putObj D10 (.deferred none)).putObj D9 (.deferred none)) := by
  have k10 : (wr.setCell ⟨w.heap.size + 1, 0, none⟩ (.bool true)).heap[D10]? = some (.deferred (some [])) := by
    rw [Below.heap_setCell _ _ _ _ (by simp; omega)]
    exact h10
  have k9 : ((wr.setCell ⟨w.heap.size + 1, 0, none⟩ (.bool true)).putObj D10 (.deferred none)).heap[D9]? = some (.deferred (some [])) := by
    rw [World.putObj_heap_other (by omega)]
    rw [Below.heap_setCell _ _ _ _ (by simp; omega)]
    exact h9
  refine ⟨k10, k9, ?_, ?_⟩
  · unfold Boxed
    rw [World.putObj_heap_other (by omega), World.putObj_heap_other (by omega)]
    exact hR.set (.bool true)
  · exact ((hb.setCell (p := ⟨w.heap.size + 1, 0, none⟩) (by simp) (.bool true)).trans (belowK_b (w := w) (Nat.le_refl _) _ D10 _ _ (by omega) k10 rfl rfl)).trans (belowK_b (w := w) (Nat.le_refl _) _ D9 _ _ (by omega) k9 rfl rfl)
/-- Between two rounds: the box ib counts. -/
def Cnt (Rw : World) (ib : Nat) (c : List It → Nat) (pre : List It) (W : World) : Prop := Boxed W ib 3 (.int .i64 (c pre : Int)) ∧ Below ib Rw W ∧ Rw.heap.size ≤ W.heap.size
theorem cnt_own (Rw : World) (ib : Nat) (hB : ib ≤ Rw.heap.size) (c : List It → Nat) : OwnFrom Rw.heap.size (Cnt Rw ib c) := fun _ _ _ _ ⟨h1, h2, h3⟩ hg hr =>
  ⟨box_own h1 hg (fun r e => (hr r e).2), h2.grown hg (Nat.le_trans hB h2.size) (fun k e => Nat.le_trans hB (hr k e).1), Nat.le_trans h3 hg.size⟩
theorem Cnt.below {Rw W W' : World} {ib : Nat} {c : List It → Nat} {pre : List It} (h : Cnt Rw ib c pre W) (hb : Below W.heap.size W W') (hB : ib ≤ Rw.heap.size) : Cnt Rw ib c pre W' :=
  ⟨Boxed.under hb h.1, h.2.1.trans (hb.mono (Nat.le_trans hB h.2.2)), Nat.le_trans h.2.2 hb.size⟩
theorem Cnt.set {Rw W : World} {ib : Nat} {c : List It → Nat} {pre pre' : List It} (h : Cnt Rw ib c pre W) (u : Int) (hu : u = (c pre' : Int)) : Cnt Rw ib c pre' (W.setCell ⟨ib, 0, none⟩ (.int .i64 u)) := by
  subst hu
  exact ⟨h.1.set _, h.2.1.setCell (p := ⟨ib, 0, none⟩) (Nat.le_refl _) _, by simpa using h.2.2⟩
/-- What stays all along. -/
structure Stg (w : World) (vo : Option Addr) (vc : Nat) (v : List Int) (vn pb p m : Nat) (rs : Nat → Value) (R : Nat → List Value) (D : DataW Value) (S : Int → Int → Option Value) (N : Nat) (W : World) : Prop where
  bel : Below w.heap.size w W
  bO : Boxed W w.heap.size 23 (.slice vo vn vc)
  bR : Boxed W (w.heap.size + 1) 4 (.bool false)
  bS : Boxed W pb 26 (.pointer (some ⟨p, 0, none⟩))
  pre : DotsPre W p rs R m D S N
  hv : HV W vo vc v
theorem Stg.under {w W W' : World} {vo : Option Addr} {vc vn pb p m N : Nat} {v : List Int} {rs : Nat → Value} {R : Nat → List Value} {D : DataW Value} {S : Int → Int → Option Value} (h : Stg w vo vc v vn pb p m rs R D S N W) (hb : Below W.heap.size W W') : Stg w vo vc v vn pb p m rs R D S N W' :=
  ⟨bt h.bel hb, Boxed.under hb h.bO, Boxed.under hb h.bR, Boxed.under hb h.bS, h.pre.below hb, h.hv.below hb⟩
/-- What comes is no item that the set has and the vector. -/
def BadI (S : Int → Int → Option Value) (v : List Int) (pre : List It) : Prop := ∃ x ∈ pre, ¬ (S x.1.1 x.1.2 = some (.string x.2) ∧ HasV v x.1.1 x.1.2)
theorem BadI.last {S : Int → Int → Option Value} {v : List Int} {pre : List It} {x : It} (h : ¬ (S x.1.1 x.1.2 = some (.string x.2) ∧ HasV v x.1.1 x.1.2)) : BadI S v (pre ++ [x]) := ⟨x, by simp, h⟩
theorem its_good {S : Int → Int → Option Value} {v : List Int} {its pre : List It} (h : ItsOf S (fun o s => decide (HasV v o s)) its) (hp : pre <+: its) : ¬ BadI S v pre := by
  rintro ⟨⟨⟨o, s⟩, t⟩, hx, hn⟩
  obtain ⟨h1, h2⟩ := (h.2 o s t).1 (hp.subset hx)
  exact hn ⟨h1, of_decide_eq_true h2⟩
end Go.Proofs.Ytkjpaiaepodhbaa
