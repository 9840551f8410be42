/-
  A range over an iterator that yields what it has just made: a round is told, in the world where it begins, what is known of the item ('G').
-/
import Derived.Test.YtplecopphddjhaaBlk
import Derived.RangeFuncBox
import Derived.RangeFuncFrom
import Derived.Shelf.Lay
import Derived.RangeFuncNested
namespace Go.Proofs.Ytplecopphddjhaa
open Go.RowKit Go.Shelf Go.Maps

/-- The iterator's contract at the world where it is called: each item comes with a word about it ('G'); what a round keeps is Kp. Ahead of the first round, and between two, the iterator lays blocks and turns such of its own as hold no cells (a walk, the record of a loop of its own). -/
def SeqAt {α : Type} (F : Fence) (n : Nat) (P : Program) (l g : Nat) (lb : Array Value) (encs : α → Array Value) (Kp : World → World → Prop) (G : List α → α → World → Prop) (S Sp : List α → Prop) (W : World) : Prop :=
  ∀ (J Jx : List α → World → Prop), OwnFrom W.heap.size J → OwnFrom W.heap.size Jx →
    (∀ pre x V, J pre V → G pre x V → YieldAt F (n - 1) P l (encs x) V fun e V' =>
      (e = .returned (.bool true) ∧ J (pre ++ [x]) V' ∧ Kp V V') ∨ (e = .returned (.bool false) ∧ Jx (pre ++ [x]) V' ∧ Kp V V')) →
    J [] W →
    CallsIn F n P g (#[.func (.yield l) #[] #[]] ++ lb) W fun e V' => (∃ v, e = .returned v) ∧ ((∃ xs, S xs ∧ J xs V') ∨ (∃ pre, Sp pre ∧ Jx pre V'))

variable {F : Fence} {n : Nat} {P : Program} {α : Type}

/-- How a loop's record and its block for deferred calls lie. -/
structure Kept (B : Nat) (r : Loop) (V : World) : Prop where
  loop : V.heap[B + 1]? = some (.loop r)
  calls : V.heap[B]? = some (.deferred (some []))
theorem Kept.lt {B : Nat} {r : Loop} {V : World} (h : Kept B r V) : B + 1 < V.heap.size := (Array.getElem?_eq_some_iff.1 h.loop).1
theorem Kept.grown {B : Nat} {r : Loop} {V V' : World} {row : Option Nat} (h : Kept B r V) (hg : V.grownBy V' row) (hr : ∀ k, row = some k → B + 2 ≤ k) : Kept B r V' :=
  ⟨(hg.block _ h.lt (fun e => by have := hr _ e.symm; omega)).trans h.loop, (hg.block _ (by have := h.lt; omega) (fun e => by have := hr _ e.symm; omega)).trans h.calls⟩
/-- The loop's two blocks stay. -/
def KeptAs (B : Nat) (V V' : World) : Prop := V'.heap[B + 1]? = V.heap[B + 1]? ∧ V'.heap[B]? = V.heap[B]?
theorem KeptAs.refl (B : Nat) (V : World) : KeptAs B V V := ⟨rfl, rfl⟩
theorem KeptAs.trans {B : Nat} {V V' V'' : World} (h : KeptAs B V V') (k : KeptAs B V' V'') : KeptAs B V V'' := ⟨k.1.trans h.1, k.2.trans h.2⟩
theorem KeptAs.turns {F' : Nat → Prop} {B : Nat} {V V' : World} (h : Turns F' V V') (hB : B + 1 < V.heap.size) (h0 : ¬ F' B) (h1 : ¬ F' (B + 1)) : KeptAs B V V' := ⟨h.block _ hB h1, h.block _ (by omega) h0⟩
theorem Kept.from {B : Nat} {r : Loop} {V V' : World} (h : Kept B r V) (hk : KeptAs B V V') : Kept B r V' := ⟨hk.1.trans h.loop, hk.2.trans h.calls⟩
/-- What a round leaves, by its ways out. -/
def roundG {α : Type} (B : Nat) (Kp : World → World → Prop) (I : List α → World → Prop) (Ix : Code → List α → World → Prop) (xs : List α) (V : World) : Exit → Act → World → Prop
  | .normal, _, V' => KeptAs B V V' ∧ Kp V V' ∧ I xs V'
  | .ret, _, V' => KeptAs B V V' ∧ Kp V V' ∧ Ix .ret xs V'
  | .exit id, _, V' => KeptAs B V V' ∧ Kp V V' ∧ Ix (.exit id) xs V'
  | .goto t, _, V' => KeptAs B V V' ∧ Kp V V' ∧ Ix (.goto t) xs V'
  | .panic _, _, _ => False
  | .outgrown, _, _ => False
theorem Kept.turn {B : Nat} {r : Loop} {V : World} (h : Kept B r V) (r' : Loop) : Kept B r' (V.putObj (B + 1) (.loop r')) :=
  ⟨World.putObj_heap_same h.lt, (World.putObj_heap_other (by omega)).trans h.calls⟩

theorem wpIn_rangeFunc_G {g : Operand} {ps : Array Tmp} {assign body : Code} {Q : Exit → Act → World → Prop} {a : Act} {w : World}
    (hro : F.round = none) (h1 : 1 ≤ n) {gf : Nat} {lb : Array Value} (hg : a.eval g = .func (.func gf) #[] lb) (hFg : F.fn gf) (eg : ∀ args w, (callFunc gf args).run P w = .ok (.enter gf args) w)
    {encs : α → Array Value} {Kp : World → World → Prop} {G : List α → α → World → Prop} {S Sp : List α → Prop} (hseq : ∀ r, SeqAt F (n - 1) P (w.heap.size + 1) gf lb encs Kp G S Sp ((w.alloc (.deferred (some []))).alloc (.loop r)))
    (hKt : ∀ {A B C : World}, Kp A B → Kp B C → Kp A C) (hKb : ∀ (V : World) (r r' : Loop), V.heap[w.heap.size + 1]? = some (.loop r) → Kp V (V.putObj (w.heap.size + 1) (.loop r'))) (hps : ∀ x, (encs x).size = ps.size)
    (I : List α → World → Prop) (Ix : Code → List α → World → Prop) (hI : OwnFrom w.heap.size I) (hIx : ∀ c, OwnFrom w.heap.size (Ix c)) (h0 : I [] w) (Ax : List α → α → Act → World → Prop) (hAx : ∀ pre x a', OwnFrom w.heap.size (fun (_ : Unit) V => Ax pre x a' V))
    (hassign : ∀ (l : Nat) (pre : List α) (x : α) (V : World) (K : Act → World → Prop), w.heap.size + 1 < V.heap.size → I pre V → G pre x V → (∀ a' V', KeptAs w.heap.size V V' → Kp V V' → I pre V' → Ax pre x a' V' → K a' V') →
      assign.wpIn (F.inRound l) (n - 1 - 1) P (Exit.then K (fun _ _ _ => False)) { tmps := (ps.zip (encs x)).foldl (fun t (p, v) => t.setIfInBounds p v) a.tmps, defers := [] } V)
    (hbody : ∀ (l : Nat) (pre : List α) (x : α) (a' : Act) (V : World), l = w.heap.size + 1 → (∃ r, Kept w.heap.size r V) → I pre V → Ax pre x a' V → body.wpIn (F.inRound l) (n - 1 - 1) P (roundG w.heap.size Kp I Ix (pre ++ [x]) V) a' V)
    (hdone : ∀ (D : Nat) (xs : List α) (V : World), w.heap.size ≤ D → S xs → I xs V → V.heap[D]? = some (.deferred (some [])) → Q .normal { a with defers := { target := .collected D, args := #[] } :: a.defers } V)
    (hstop : ∀ (D : Nat) (c : Code) (pre : List α) (V : World), w.heap.size ≤ D → Sp pre → Ix c pre V → V.heap[D]? = some (.deferred (some [])) → c.wpIn F n P Q { a with defers := { target := .collected D, args := #[] } :: a.defers } V) :
    (Code.rangeFunc g ps assign body).wpIn F n P Q a w := by
  refine wpIn_rangeFunc fun fn hfn => ?_
  rw [hro]
  obtain ⟨B, hB⟩ : ∃ B, B = w.heap.size := ⟨_, rfl⟩
  obtain ⟨R, hR⟩ : ∃ R : LoopState → Option Code → Loop, R = fun st pe => { state := st, pending := pe, fn, tmps := a.tmps, params := ps, assign, body, defers := B } := ⟨_, rfl⟩
  obtain ⟨W1, hW1⟩ : ∃ W1, W1 = (w.alloc (.deferred (some []))).alloc (.loop (R .ready none)) := ⟨_, rfl⟩
  have hk1 : Kept B (R .ready none) W1 := by
    subst hB hW1
    refine ⟨?_, (Below.heap_alloc _ _ _ (by simp)).trans (World.alloc_heap_new w _)⟩
    have := World.alloc_heap_new (w.alloc (.deferred (some []))) (.loop (R .ready none))
    rwa [World.size_alloc] at this
  have hI1 : I [] W1 := by rw [hW1]; exact hI.alloc _ (hI.alloc _ h0)
  have hs1 : W1.heap.size = B + 2 := by rw [hW1, hB]; simp
  refine ⟨B + 1, [{ target := .collected B, args := #[] }], W1, { target := .fn (.func gf) lb, args := #[.func (.yield (B + 1)) #[] #[]] }, W1, gf, #[.func (.yield (B + 1)) #[] #[]] ++ lb, W1, ?_, ?_, ?_, ?_, fun _ => h1, ?_⟩
  · rw [hW1, hR, hB]; exact run_enterLoop_outer _ _ _ _ _
  · simp only [resolve, hg]
    simp [go_sem]
  · intro f' hf'
    simp [Target.leads] at hf'
    subst hf'
    exact hFg
  · simp [invoke, go_sem, eg]
  rw [← hB] at hI hIx hAx hassign hbody hdone hstop hKb hseq
  have hseq1 : SeqAt F (n - 1) P (B + 1) gf lb encs Kp G S Sp W1 := by rw [hW1]; exact hseq _
  refine (hseq1 (fun pre V => I pre V ∧ Kept B (R .ready none) V) (fun pre V => ∃ c, Ix c pre V ∧ Kept B (R .done (some c)) V) ?_ ?_ ?_ ⟨hI1, hk1⟩).mono ?_
  · rintro s V V' row ⟨hi, hk⟩ hg' hr
    exact ⟨hI s V V' row hi hg' (fun r e => ⟨by have := (hr r e).1; omega, (hr r e).2⟩), hk.grown hg' (fun r e => by have := (hr r e).1; omega)⟩
  · rintro s V V' row ⟨c, hi, hk⟩ hg' hr
    exact ⟨c, hIx c s V V' row hi hg' (fun r e => ⟨by have := (hr r e).1; omega, (hr r e).2⟩), hk.grown hg' (fun r e => by have := (hr r e).1; omega)⟩
  · rintro pre x V ⟨hi, hk⟩ hG
    have hy := run_yield (P := P) (args := encs x) hk.loop (by rw [hR]; exact hps x)
    rw [hR] at hy
    refine ⟨fn, _, assign, body, hy, roundIn_of_wpIn hfn (hassign _ pre x V _ hk.lt hi hG ?_)⟩
    clear hy
    intro a' Va hka hkp hia hax
    have hk2 := hk.from hka
    refine ⟨_, run_beginRound hk2.loop (by rw [hR]), ?_⟩
    obtain ⟨U, hU⟩ : ∃ U, U = Va.putObj (B + 1) (.loop { R .ready none with state := .busy }) := ⟨_, rfl⟩
    have hk3 : Kept B { R .ready none with state := .busy } U := by rw [hU]; exact hk2.turn _
    have hkU : Kp V U := hKt hkp (by rw [hU]; exact hKb _ _ _ hk2.loop)
    rw [← hU]
    refine wpIn_mono (hbody _ pre x a' U rfl ⟨_, hk3⟩ (by rw [hU]; exact hI.putObj _ hia (by omega) hk2.loop rfl) (by rw [hU]; exact (hAx pre x a').putObj (s := ()) _ hax (by omega) hk2.loop rfl)) ?_
    have fin : ∀ (jump : Option Code) (V3 : World), KeptAs B U V3 → (Instr.endRound (B + 1) jump).run P V3 = .ok (.bool jump.isNone) (V3.putObj (B + 1) (.loop (R (if jump.isNone then .ready else .done) jump))) ∧ Kept B { R .ready none with state := .busy } V3 := fun jump V3 h3 => by
      have h4 := hk3.from h3
      have h5 := run_endRound (P := P) jump h4.loop
      rw [hR] at h5 h4 ⊢
      exact ⟨h5, h4⟩
    intro e a3 V3 hp
    cases e with
    | normal =>
      obtain ⟨h3, hkp3, hi3⟩ := hp
      obtain ⟨hr, h4⟩ := fin none V3 h3
      exact ⟨_, _, hr, .inl ⟨rfl, ⟨hI.putObj _ hi3 (by omega) h4.loop rfl, h4.turn _⟩, hKt (hKt hkU hkp3) (hKb _ _ _ h4.loop)⟩⟩
    | ret =>
      obtain ⟨h3, hkp3, hi3⟩ := hp
      obtain ⟨hr, h4⟩ := fin (some .ret) V3 h3
      exact ⟨_, _, hr, .inr ⟨rfl, ⟨.ret, (hIx _).putObj _ hi3 (by omega) h4.loop rfl, h4.turn _⟩, hKt (hKt hkU hkp3) (hKb _ _ _ h4.loop)⟩⟩
    | exit id =>
      obtain ⟨h3, hkp3, hi3⟩ := hp
      obtain ⟨hr, h4⟩ := fin (some (.exit id)) V3 h3
      exact ⟨_, _, hr, .inr ⟨rfl, ⟨.exit id, (hIx _).putObj _ hi3 (by omega) h4.loop rfl, h4.turn _⟩, hKt (hKt hkU hkp3) (hKb _ _ _ h4.loop)⟩⟩
    | goto t =>
      obtain ⟨h3, hkp3, hi3⟩ := hp
      obtain ⟨hr, h4⟩ := fin (some (.goto t)) V3 h3
      exact ⟨_, _, hr, .inr ⟨rfl, ⟨.goto t, (hIx _).putObj _ hi3 (by omega) h4.loop rfl, h4.turn _⟩, hKt (hKt hkU hkp3) (hKb _ _ _ h4.loop)⟩⟩
    | panic ch => exact hp.elim
    | outgrown => exact hp.elim
  · rintro e V2 ⟨⟨v, rfl⟩, (⟨xs, hS, hi, hk⟩ | ⟨pre, hSp, c, hi, hk⟩)⟩
    · have hr := run_endLoop (P := P) hk.loop (by rw [hR]; simp)
      rw [hR] at hr
      exact ⟨none, _, hr, hdone _ xs _ (Nat.le_refl _) hS (hI.putObj _ hi (by omega) hk.loop rfl) ((World.putObj_heap_other (by omega)).trans hk.calls)⟩
    · have hr := run_endLoop (P := P) hk.loop (by rw [hR]; simp)
      rw [hR] at hr
      exact ⟨some c, _, hr, hstop _ c pre _ (Nat.le_refl _) hSp ((hIx c).putObj _ hi (by omega) hk.loop rfl) ((World.putObj_heap_other (by omega)).trans hk.calls)⟩
end Go.Proofs.Ytplecopphddjhaa
