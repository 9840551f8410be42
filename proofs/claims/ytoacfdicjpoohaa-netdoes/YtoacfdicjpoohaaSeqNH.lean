/-
  A range over an iterator that yields what it has just made, its variable in a box (as in LogQ; here with no log about it).
-/
import Derived.Test.YtoacfdicjpoohaaSeqN
namespace Go.Proofs.Ytoacfdicjpoohaa
open Go.RowKit Go.Shelf Go.Maps
attribute [local go_sem] Oper.semAt_some

theorem blk_own2 {β : Type} {B g : Nat} {t : TypeId} {cs : List Value} : OwnFrom B (fun (_ : β) W => Blk W g t cs) := fun _ W W' row hs hg hr => hs.kept hg (fun e => by
  obtain ⟨_, o, ho, hc⟩ := hr g e.symm
  have h' : W.heap[g]? = some (.cells cs.toArray t (0, 0)) := hs
  rw [h'] at ho
  cases ho
  cases hc)
/-- A range whose variable lies in a box of its own. -/
theorem wpIn_rangeFunc_Gc {F : Fence} {n : Nat} {P : Program} {α : Type} {g : Operand} {ps : Array Tmp} {assign body : Code} {Q : Exit → Act → World → Prop} {a : Act} {w : World}
    (hro : F.round = none) (h1 : 1 ≤ n) {gf : Nat} {lb : Array Value} (hg : a.eval g = .func (.func gf) #[] lb) (hFg : F.fn gf) (eg : ∀ args w, (callFunc gf args).run P w = .ok (.enter gf args) w)
    {encs : α → Array Value} {Kp : World → World → Prop} {G : List α → α → World → Prop} {S Sp : List α → Prop} (hseq : ∀ r, SeqAt F (n - 1) P (w.heap.size + 1) gf lb encs Kp G S Sp ((w.alloc (.deferred (some []))).alloc (.loop r)))
    (hKt : ∀ {A B C : World}, Kp A B → Kp B C → Kp A C) (hKb : ∀ (V : World) (r r' : Loop), V.heap[w.heap.size + 1]? = some (.loop r) → Kp V (V.putObj (w.heap.size + 1) (.loop r'))) (hps : ∀ x, (encs x).size = ps.size)
    (I : List α → World → Prop) (Ix : Code → List α → World → Prop) (hI : OwnFrom w.heap.size I) (hIx : ∀ c, OwnFrom w.heap.size (Ix c)) (h0 : I [] w) (X : List α → α → World → Prop) (hX : ∀ pre x, OwnFrom w.heap.size (fun (_ : Unit) V => X pre x V)) (Bx : α → List Value) (t : TypeId) (A : α → Nat → Act)
    (hassign : ∀ (l : Nat) (pre : List α) (x : α) (V : World) (K : Act → World → Prop), w.heap.size + 1 < V.heap.size → I pre V → G pre x V → (∀ gg V', KeptAs w.heap.size V V' → Kp V V' → I pre V' → X pre x V' → Blk V' gg t (Bx x) → w.heap.size ≤ gg → K (A x gg) V') →
      assign.wpIn (F.inRound l) (n - 1 - 1) P (Exit.then K (fun _ _ _ => False)) { tmps := (ps.zip (encs x)).foldl (fun t (p, v) => t.setIfInBounds p v) a.tmps, defers := [] } V)
    (hbody : ∀ (l : Nat) (pre : List α) (x : α) (gg : Nat) (V : World), (∃ r, Kept w.heap.size r V) → I pre V → X pre x V → Blk V gg t (Bx x) → w.heap.size ≤ gg → body.wpIn (F.inRound l) (n - 1 - 1) P (roundG w.heap.size Kp I Ix (pre ++ [x]) V) (A x gg) V)
    (hdone : ∀ (D : Nat) (xs : List α) (V : World), w.heap.size ≤ D → S xs → I xs V → V.heap[D]? = some (.deferred (some [])) → Q .normal { a with defers := { target := .collected D, args := #[] } :: a.defers } V)
    (hstop : ∀ (D : Nat) (c : Code) (pre : List α) (V : World), w.heap.size ≤ D → Sp pre → Ix c pre V → V.heap[D]? = some (.deferred (some [])) → c.wpIn F n P Q { a with defers := { target := .collected D, args := #[] } :: a.defers } V) :
    (Code.rangeFunc g ps assign body).wpIn F n P Q a w :=
  wpIn_rangeFunc_G hro h1 hg hFg eg hseq (fun h k => hKt h k) hKb hps I Ix hI hIx h0 (fun pre x a' V => ∃ gg, a' = A x gg ∧ X pre x V ∧ Blk V gg t (Bx x) ∧ w.heap.size ≤ gg)
    (fun pre x a' _ V V' row ⟨gg, e, hx, hb, hl⟩ hg hr => ⟨gg, e, hX pre x () V V' row hx hg hr, blk_own2 () V V' row hb hg hr, hl⟩)
    (fun l pre x V K hlt hi hG hK => hassign l pre x V K hlt hi hG (fun gg V' h1 h2 h3 h4 h5 h6 => hK _ V' h1 h2 h3 ⟨gg, rfl, h4, h5, h6⟩))
    (fun l pre x a' V _ hr hi ⟨gg, e, hx, hb, hl⟩ => by subst e; exact hbody l pre x gg V hr hi hx hb hl) hdone hstop
end Go.Proofs.Ytoacfdicjpoohaa
