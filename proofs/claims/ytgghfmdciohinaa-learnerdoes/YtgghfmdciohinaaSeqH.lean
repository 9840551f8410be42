/-
  A range over an iterator that yields what it has just made: a round is told, in the world where it begins, what is known of the item ('G').
-/
import Derived.Test.YtgghfmdciohinaaVvO
import Derived.RangeFuncNested
import Derived.Test.YtgghfmdciohinaaLrO
namespace Go.Proofs.Ytgghfmdciohinaa
open Go.RowKit Go.Shelf Go.Maps

/-- The iterator's contract at the world where it is called: each item comes with a word about it ('G'); what a round keeps is Kp. Ahead of the first round, and between two, the iterator lays blocks and turns such of its own as hold no cells (a walk, the record of a loop of its own). -/
def SeqAt {α : Type} (F : Fence) (n : Nat) (P : Program) (l g : Nat) (lb : Array Value) (encs : α → Array Value) (Kp : World → World → Prop) (G : List α → α → World → Prop) (S Sp : List α → Prop) (W : World) : Prop :=
  ∀ (J Jx : List α → World → Prop), OwnFrom W.heap.size J → OwnFrom W.heap.size Jx →
    (∀ pre x V, J pre V → G pre x V → YieldAt F (n - 1) P l (encs x) V fun e V' =>
      (e = .returned (.bool true) ∧ J (pre ++ [x]) V' ∧ Kp V V') ∨ (e = .returned (.bool false) ∧ Jx (pre ++ [x]) V' ∧ Kp V V')) →
    J [] W →
    CallsIn F n P g (#[.func (.yield l) #[] #[]] ++ lb) W fun e V' => (∃ v, e = .returned v) ∧ ((∃ xs, S xs ∧ J xs V') ∨ (∃ pre, Sp pre ∧ Jx pre V'))

variable {F : Fence} {n : Nat} {P : Program} {α : Type}

/-- How a loop's record and its block for deferred calls lie. -/
structure Kept (B : Nat) (r : Loop) (V : World) : Prop where
  loop : V.heap[B + 1]? = some (.loop r)
  calls : V.heap[B]? = some (.deferred (some []))
theorem Kept.lt {B : Nat} {r : Loop} {V : World} (h : Kept B r V) : B + 1 < V.heap.size := (Array.getElem?_eq_some_iff.1 h.loop).1
theorem Kept.grown {B : Nat} {r : Loop} {V V' : World} {row : Option Nat} (h : Kept B r V) (hg : V.grownBy V' row) (hr : ∀ k, row = some k → B + 2 ≤ k) : Kept B r V' :=
  ⟨(hg.block _ h.lt (fun e => by have := hr _ e.symm; omega)).trans h.loop, (hg.block _ (by have := h.lt; omega) (fun e => by have := hr _ e.symm; omega)).trans h.calls⟩
/-- The loop's two blocks stay. -/
def KeptAs (B : Nat) (V V' : World) : Prop := V'.heap[B + 1]? = V.heap[B + 1]? ∧ V'.heap[B]? = V.heap[B]?
theorem KeptAs.refl (B : Nat) (V : World) : KeptAs B V V := ⟨rfl, rfl⟩
theorem KeptAs.trans {B : Nat} {V V' V'' : World} (h : KeptAs B V V') (k : KeptAs B V' V'') : KeptAs B V V'' := ⟨k.1.trans h.1, k.2.trans h.2⟩
theorem KeptAs.turns {F' : Nat → Prop} {B : Nat} {V V' : World} (h : Turns F' V V') (hB : B + 1 < V.heap.size) (h0 : ¬ F' B) (h1 : ¬ F' (B + 1)) : KeptAs B V V' := ⟨h.block _ hB h1, h.block _ (by omega) h0⟩
theorem Kept.from {B : Nat} {r : Loop} {V V' : World} (h : Kept B r V) (hk : KeptAs B V V') : Kept B r V' := ⟨hk.1.trans h.loop, hk.2.trans h.calls⟩
/-- What a round leaves, by its ways out. -/
def roundG {α : Type} (B : Nat) (Kp : World → World → Prop) (I : List α → World → Prop) (Ix : Code → List α → World → Prop) (xs : List α) (V : World) : Exit → Act → World → Prop
  | .normal, _, V' => KeptAs B V V' ∧ Kp V V' ∧ I xs V'
  | .ret, _, V' => KeptAs B V V' ∧ Kp V V' ∧ Ix .ret xs V'
  | .exit id, _, V' => KeptAs B V V' ∧ Kp V V' ∧ Ix (.exit id) xs V'
  | .goto t, _, V' => KeptAs B V V' ∧ Kp V V' ∧ Ix (.goto t) xs V'
  | .panic _, _, _ => False
  | .outgrown, _, _ => False
theorem Kept.turn {B : Nat} {r : Loop} {V : World} (h : Kept B r V) (r' : Loop) : Kept B r' (V.putObj (B + 1) (.loop r')) :=
  ⟨World.putObj_heap_same h.lt, (World.putObj_heap_other (by omega)).trans h.calls⟩

theorem wpIn_rangeFunc_G {g : Operand} {ps : Array Tmp} {assign body : Code} {Q : Exit → Act → World → Prop} {a : Act} {w : World}
    (hro : F.round = none) (h1 : 1 ≤ n) {gf : Nat} {lb : Array Value} (hg : a.eval g = .func (.func gf) #[] lb) (hFg : F.fn gf) (eg : ∀ args w, (callFunc gf args).run P w = .ok (.enter gf args) w)
    {encs : α → Array Value} {Kp : World → World → Prop} {G : List α → α → World → Prop} {S Sp : List α → Prop} (hseq : ∀ r, SeqAt F (n - 1) P (w.heap.size + 1) gf lb encs Kp G S Sp ((w.alloc (.deferred (some []))).alloc (.loop r)))
    (hKt : ∀ {A B C : World}, Kp A B → Kp B C → Kp A C) (hKb : ∀ (V : World) (r r' : Loop), V.heap[w.heap.size + 1]? = some (.loop r) → Kp V (V.putObj (w.heap.size + 1) (.loop r'))) (hps : ∀ x, (encs x).size = ps.size)
    (I : List α → World → Prop) (Ix : Code → List α → World → Prop) (hI : OwnFrom w.heap.size I) (hIx : ∀ c, OwnFrom w.heap.size (Ix c)) (h0 : I [] w) (Ax : List α → α → Act → World → Prop) (hAx : ∀ pre x a', OwnFrom w.heap.size (fun (_ : Unit) V => Ax pre x a' V))
    (hassign : ∀ (l : Nat) (pre : List α) (x : α) (V : World) (K : Act → World → Prop), w.heap.size + 1 < V.heap.size → I pre V → G pre x V → (∀ a' V', KeptAs w.heap.size V V' → Kp V V' → I pre V' → Ax pre x a' V' → K a' V') →
      assign.wpIn (F.inRound l) (n - 1 - 1) P (Exit.then K (fun _ _ _ => False)) { tmps := (ps.zip (encs x)).foldl (fun t (p, v) => t.setIfInBounds p v) a.tmps, defers := [] } V)
    (hbody : ∀ (l : Nat) (pre : List α) (x : α) (a' : Act) (V : World), l = w.heap.size + 1 → (∃ r, Kept w.heap.size r V) → I pre V → Ax pre x a' V → body.wpIn (F.inRound l) (n - 1 - 1) P (roundG w.heap.size Kp I Ix (pre ++ [x]) V) a' V)
    (hdone : ∀ (D : Nat) (xs : List α) (V : World), w.heap.size ≤ D → S xs → I xs V → V.heap[D]? = some (.deferred (some [])) → Q .normal { a with defers := { target := .collected D, args := #[] } :: a.defers } V)
    (hstop : ∀ (D : Nat) (c : Code) (pre : List α) (V : World), w.heap.size ≤ D → Sp pre → Ix c pre V → V.heap[D]? = some (.deferred (some [])) → c.wpIn F n P Q { a with defers := { target := .collected D, args := #[] } :: a.defers } V) :
    (Code.rangeFunc g ps assign body).wpIn F n P Q a w := by
  refine wpIn_rangeFunc fun fn hfn => ?_
  rw [hro]
  obtain ⟨B, hB⟩ : ∃ B, B = w.heap.size := ⟨_, rfl⟩
  obtain ⟨R, hR⟩ : ∃ R : LoopState → Option Code → Loop, R = fun st pe => { state := st, pending := pe, fn, tmps := a.tmps, params := ps, assign, body, defers := B } := ⟨_, rfl⟩
  obtain ⟨W1, hW1⟩ : ∃ W1, W1 = (w.alloc (.deferred (some []))).alloc (.loop (R .ready none)) := ⟨_, rfl⟩
  have hk1 : Kept B (R .ready none) W1 := by
    subst hB hW1
    refine ⟨?_, (Below.heap_alloc _ _ _ (by simp)).trans (World.alloc_heap_new w _)⟩
    have := World.alloc_heap_new (w.alloc (.deferred (some []))) (.loop (R .ready none))
    rwa [World.size_alloc] at this
  have hI1 : I [] W1 := by rw [hW1]; exact hI.alloc _ (hI.alloc _ h0)
  have hs1 : W1.heap.size = B + 2 := by rw [hW1, hB]; simp
  refine ⟨B + 1, [{ target := .collected B, args := #[] }], W1, { target := .fn (.func gf) lb, args := #[.func (.yield (B + 1)) #[] #[]] }, W1, gf, #[.func (.yield (B + 1)) #[] #[]] ++ lb, W1, ?_, ?_, ?_, ?_, fun _ => h1, ?_⟩
  · rw [hW1, hR, hB]; exact run_enterLoop_outer _ _ _ _ _
  · simp only [resolve, hg]
    simp [go_sem]
  · intro f' hf'
    simp [Target.leads] at hf'
    subst hf'
    exact hFg
  · simp [invoke, go_sem, eg]
  rw [← hB] at hI hIx hAx hassign hbody hdone hstop hKb hseq
  have hseq1 : SeqAt F (n - 1) P (B + 1) gf lb encs Kp G S Sp W1 := by rw [hW1]; exact hseq _
  refine (hseq1 (fun pre V => I pre V ∧ Kept B (R .ready none) V) (fun pre V => ∃ c, Ix c pre V ∧ Kept B (R .done (some c)) V) ?_ ?_ ?_ ⟨hI1, hk1⟩).mono ?_
  · rintro s V V' row ⟨hi, hk⟩ hg' hr
    exact ⟨hI s V V' row hi hg' (fun r e => ⟨by have := (hr r e).1; omega, (hr r e).2⟩), hk.grown hg' (fun r e => by have := (hr r e).1; omega)⟩
  · rintro s V V' row ⟨c, hi, hk⟩ hg' hr
    exact ⟨c, hIx c s V V' row hi hg' (fun r e => ⟨by have := (hr r e).1; omega, (hr r e).2⟩), hk.grown hg' (fun r e => by have := (hr r e).1; omega)⟩
  · rintro pre x V ⟨hi, hk⟩ hG
    have hy := run_yield (P := P) (args := encs x) hk.loop (by rw [hR]; exact hps x)
    rw [hR] at hy
    refine ⟨fn, _, assign, body, hy, roundIn_of_wpIn hfn (hassign _ pre x V _ hk.lt hi hG ?_)⟩
    clear hy
    intro a' Va hka hkp hia hax
    have hk2 := hk.from hka
    refine ⟨_, run_beginRound hk2.loop (by rw [hR]), ?_⟩
    obtain ⟨U, hU⟩ : ∃ U, U = Va.putObj (B + 1) (.loop { R .ready none with state := .busy }) := ⟨_, rfl⟩
    have hk3 : Kept B { R .ready none with state := .busy } U := by rw [hU]; exact hk2.turn _
    have hkU : Kp V U := hKt hkp (by rw [hU]; exact hKb _ _ _ hk2.loop)
    rw [← hU]
    refine wpIn_mono (hbody _ pre x a' U rfl ⟨_, hk3⟩ (by rw [hU]; exact hI.putObj _ hia (by omega) hk2.loop rfl) (by rw [hU]; exact (hAx pre x a').putObj (s := ()) _ hax (by omega) hk2.loop rfl)) ?_
    have fin : ∀ (jump : Option Code) (V3 : World), KeptAs B U V3 → (Instr.endRound (B + 1) jump).run P V3 = .ok (.bool jump.isNone) (V3.putObj (B + 1) (.loop (R (if jump.isNone then .ready else .done) jump))) ∧ Kept B { R .ready none with state := .busy } V3 := fun jump V3 h3 => by
      have h4 := hk3.from h3
      have h5 := run_endRound (P := P) jump h4.loop
      rw [hR] at h5 h4 ⊢
      exact ⟨h5, h4⟩
    intro e a3 V3 hp
    cases e with
    | normal =>
      obtain ⟨h3, hkp3, hi3⟩ := hp
      obtain ⟨hr, h4⟩ := fin none V3 h3
      exact ⟨_, _, hr, .inl ⟨rfl, ⟨hI.putObj _ hi3 (by omega) h4.loop rfl, h4.turn _⟩, hKt (hKt hkU hkp3) (hKb _ _ _ h4.loop)⟩⟩
    | ret =>
      obtain ⟨h3, hkp3, hi3⟩ := hp
      obtain ⟨hr, h4⟩ := fin (some .ret) V3 h3
      exact ⟨_, _, hr, .inr ⟨rfl, ⟨.ret, (hIx _).putObj _ hi3 (by omega) h4.loop rfl, h4.turn _⟩, hKt (hKt hkU hkp3) (hKb _ _ _ h4.loop)⟩⟩
    | exit id =>
      obtain ⟨h3, hkp3, hi3⟩ := hp
      obtain ⟨hr, h4⟩ := fin (some (.exit id)) V3 h3
      exact ⟨_, _, hr, .inr ⟨rfl, ⟨.exit id, (hIx _).putObj _ hi3 (by omega) h4.loop rfl, h4.turn _⟩, hKt (hKt hkU hkp3) (hKb _ _ _ h4.loop)⟩⟩
    | goto t =>
      obtain ⟨h3, hkp3, hi3⟩ := hp
      obtain ⟨hr, h4⟩ := fin (some (.goto t)) V3 h3
      exact ⟨_, _, hr, .inr ⟨rfl, ⟨.goto t, (hIx _).putObj _ hi3 (by omega) h4.loop rfl, h4.turn _⟩, hKt (hKt hkU hkp3) (hKb _ _ _ h4.loop)⟩⟩
    | panic ch => exact hp.elim
    | outgrown => exact hp.elim
  · rintro e V2 ⟨⟨v, rfl⟩, (⟨xs, hS, hi, hk⟩ | ⟨pre, hSp, c, hi, hk⟩)⟩
    · have hr := run_endLoop (P := P) hk.loop (by rw [hR]; simp)
      rw [hR] at hr
      exact ⟨none, _, hr, hdone _ xs _ (Nat.le_refl _) hS (hI.putObj _ hi (by omega) hk.loop rfl) ((World.putObj_heap_other (by omega)).trans hk.calls)⟩
    · have hr := run_endLoop (P := P) hk.loop (by rw [hR]; simp)
      rw [hR] at hr
      exact ⟨some c, _, hr, hstop _ c pre _ (Nat.le_refl _) hSp ((hIx c).putObj _ hi (by omega) hk.loop rfl) ((World.putObj_heap_other (by omega)).trans hk.calls)⟩
end Go.Proofs.Ytgghfmdciohinaa
/-
  Package learner: the iterator From answers, each item with a word about it.
-/
namespace Go.Proofs.Ytgghfmdciohinaa
open Go.RowKit Go.Shelf Go.Maps
attribute [local go_sem] Oper.semAt_some

/-- Slots from a on, with their entries. -/
def FromTo (g : Lr) (a : Nat) (ys : List (Int × EnM)) : Prop := ∀ i (h : i < ys.length), ys[i].1 = ((a + i : Nat) : Int) ∧ g.f ys[i].1 = some ys[i].2.e
theorem FromTo.nil (g : Lr) (a : Nat) : FromTo g a [] := fun i h => (by cases h)
theorem FromTo.snoc {g : Lr} {a : Nat} {ys : List (Int × EnM)} (h : FromTo g a ys) {x : Int × EnM} (h1 : x.1 = ((a + ys.length : Nat) : Int)) (h2 : g.f x.1 = some x.2.e) : FromTo g a (ys ++ [x]) := fun i hi => by
  by_cases e : i < ys.length
  · rw [List.getElem_append_left e]
    exact h i e
  · have e' : i = ys.length := by simp at hi; omega
    subst e'
    simp
    exact ⟨h1, h2⟩
/-- What is known of an item. -/
structure FromG (B : Nat) (g : Lr) (a pre : Nat) (pr : List (Int × EnM)) (x : Int × EnM) (V : World) : Prop where
  at_ : x.1 = ((a + pr.length : Nat) : Int)
  lt : x.1 < (pre : Int)
  en : g.f x.1 = some x.2.e
  keep : EnKeep V x.2
  all : FromTo g a pr
  new : ∀ b off, x.2.ao = some ⟨b, off, none⟩ → B ≤ b
/-- What the iterator finds, in each world that a round leaves. -/
structure FrAt (W : World) (q0 q1 p m pre z : Nat) (g : Lr) (s : Int) : Prop where
  b0 : Boxed W q0 23 (.pointer (some ⟨p, 0, none⟩))
  b1 : Boxed W q1 3 (.int .i64 s)
  lr : LrAt W p m pre z g
set_option maxRecDepth 100000 in
set_option maxHeartbeats 2000000 in
theorem from_inG (n : Nat) (hn : 1 ≤ n) (l q0 q1 : Nat) (Kp : World → World → Prop) (hKr : ∀ W, Kp W W) (hKt : ∀ {A B C : World}, Kp A B → Kp B C → Kp A C) (hKb : ∀ {A B : World}, Below A.heap.size A B → Kp A B) (hKs : ∀ {A B : World}, Kp A B → A.heap.size ≤ B.heap.size) {p m pre z a : Nat} {g : Lr} {s : Int} (ha : max s 0 = (a : Int)) {W : World} (J Jx : List (Int × EnM) → World → Prop) (hJ : OwnFrom W.heap.size J)
    (hY : ∀ pr x V, J pr V → FromG W.heap.size g a pre pr x V → YieldAt Fence.wide (n - 1) Try.prog l #[.int .i64 x.1, x.2.val] V fun e V' =>
      (e = .returned (.bool true) ∧ J (pr ++ [x]) V' ∧ Kp V V') ∨ (e = .returned (.bool false) ∧ Jx (pr ++ [x]) V'))
    (hH : ∀ W', Kp W W' → FrAt W' q0 q1 p m pre z g s) (h0 : J [] W) :
    CallsIn Fence.wide n Try.prog 31 #[.func (.yield l) #[] #[], .pointer (some ⟨q0, 0, none⟩), .pointer (some ⟨q1, 0, none⟩)] W fun e W' => (∃ v, e = .returned v) ∧
      ((∃ ys, (FromTo g a ys ∧ a + ys.length = max pre a) ∧ J ys W') ∨ (∃ pr, FromTo g a pr ∧ Jx pr W')) := by
  have HF := hid (hH W (hKr W))
  have HH := hid hH
  have HJ := hid hJ
  have HY := hid hY
  have HT : Hid (∀ A B C : World, Kp A B → Kp B C → Kp A C) := fun A B C h k => hKt h k
  have HKS : Hid (∀ A B : World, Kp A B → A.heap.size ≤ B.heap.size) := fun A B h => hKs h
  have HKB : Hid (∀ A B : World, Below A.heap.size A B → Kp A B) := fun A B h => hKb h
  have c0 := HF.out.b0.cell
  have c1 := HF.out.b1.cell
  have HP := hid HF.out.lr.toLrMid.prefix
  have HKR := hid (hKr W)
  have H0 := hid h0
  have hpl : pre ≤ 65536 := Nat.le_trans HF.out.lr.pre_le HF.out.lr.ok.few
  have HAL : Hid (max s 0 = (a : Int)) := ha
  clear hH hJ hY hKt hKb hKs hKr h0
  refine callsIn_of_wp Try.func31 rfl trivial ?_ rfl
  simp only [Try.ntmps31, List.size_toArray, List.length_cons, List.length_nil, Nat.reduceAdd, Nat.reduceSub, Array.replicate_succ, Array.replicate_zero, List.push_toArray, List.append_toArray, List.nil_append, List.cons_append]
  gi_wp2_with fail
  refine ⟨trivial, (callsIn_wide.2 HP.out).mono ?_⟩
  rintro e w2 ⟨rfl, hw2⟩
  rw [hw2]
  clear hw2 w2
  gi_wp2
  clear ha
  gi_loopw [5] (fun i wr => ∃ (c : Nat) (pr : List (Int × EnM)), i = .int .i64 (c : Int) ∧ Hid (a + pr.length = c ∧ (pr = [] ∨ c ≤ pre) ∧ FromTo g a pr ∧ J pr wr ∧ Kp W wr)) (fun i _ => pre - (intOf i).toNat)
  case atStart => exact ⟨a, [], rfl, rfl, .inl rfl, FromTo.nil g a, H0.out, HKR.out⟩
  case round =>
    obtain ⟨c, pr, rfl, HR⟩ := hrel
    by_cases hlt : c < pre
    · have hlt' : (c : Int) < (pre : Int) := by omega
      have HLT : Hid (c < pre) := hlt
      have HC6 : Hid (c ≤ 65536) := (by omega : c ≤ 65536)
      have hwc : wrap64 ((c : Int) + 1) = (c : Int) + 1 := wrapS (by omega) (by omega)
      have hfr := HH.out wr HR.out.2.2.2.2
      have d0 := hfr.b0.cell
      have d1 := hfr.lr.blk.cell (i := 0) rfl
      obtain ⟨S, D, hem, hS⟩ := hfr.lr.map
      have hmem := hfr.lr.all (c : Int) (by omega) (by omega)
      obtain ⟨e0, he0⟩ := Option.isSome_iff_exists.1 ((hfr.lr.ok.has (c : Int)).1 hmem)
      obtain ⟨y, hy0⟩ : ∃ y, S (c : Int) = some y := by
        cases hc : S (c : Int) with
        | none =>
          have := hS (c : Int)
          rw [hc, he0] at this
          cases this
        | some y => exact ⟨y, rfl⟩
      have HYE : Hid (g.f (c : Int) = some y.e) := by
        have := hS (c : Int)
        rw [hy0] at this
        exact this.symm
      have HYK := hid (hem.ok _ _ hy0)
      have hlk := hem.look1 (s := (c : Int)) ⟨by omega, by omega⟩
      rw [hy0] at hlk
      simp only [Option.map_some, Option.getD_some] at hlk
      have HTD := hid (toldLr wr y HYK.out.ok)
      have HYI : Hid (I64 y.e.ep ∧ y.e.tok.size ≤ maxLen ∧ y.e.cart.size ≤ maxLen) := ⟨HYK.out.ok.ie, HYK.out.ok.ht, HYK.out.ok.hc⟩
      obtain ⟨⟨np, tk, ct, ep, dp⟩, yo, yc⟩ := y
      obtain ⟨XN, HXN⟩ : ∃ n, Hid (dp.length = n) := ⟨_, hid rfl⟩
      simp only [EnM.val] at hlk
      rw [HXN.out] at hlk
      have HTD2 : Hid (Calls Try.prog 32 #[.agg #[.bool np, .string tk, .string ct, .int .i64 ep, .slice yo XN yc]] wr fun e w' => ∃ bo cp, e = .returned (.agg #[.bool np, .string tk, .string ct, .int .i64 ep, .slice bo XN cp]) ∧ HV w' bo cp dp ∧ (∀ b off, bo = some ⟨b, off, none⟩ → wr.heap.size ≤ b ∧ ∃ cs, Blk w' b 3 cs) ∧ Below wr.heap.size wr w') := by
        have h1 := HTD.out
        simp only [EnM.val] at h1
        rw [HXN.out] at h1
        refine h1.mono ?_
        rintro e w' ⟨bo, cp, he, h2, h3, h4⟩
        refine ⟨bo, cp, ?_, h2, h3, h4⟩
        rw [he]
        simp only [EnM.val]
        rw [HXN.out]
      clear HTD
      simp only at HYE HYI
      clear hfr hem hS hmem he0 hy0 hlt HYK S D e0
      gi_wp2_with fail
      refine ⟨trivial, (callsIn_wide.2 HTD2.out).mono ?_⟩
      rintro e w3 ⟨bo, cp, rfl, hv3, hn3, hb3⟩
      have HRL := hid HR.out.1
      have hj3 : J pr w3 := HJ.out pr wr w3 none HR.out.2.2.2.1 ⟨hb3.os, hb3.tape, hb3.output, hb3.size, fun k hk _ => hb3.block k hk⟩ (fun r e => by cases e)
      obtain ⟨fn, tmps, assign, body, hy, hRR⟩ := HY.out pr ((c : Int), ⟨⟨np, tk, ct, ep, dp⟩, bo, cp⟩) w3 hj3 ⟨by rw [HRL.out], by have := HLT.out; show (c : Int) < _; omega, HYE.out, ⟨⟨hv3, HYI.out.1, HYI.out.2.1, HYI.out.2.2⟩, fun b off e _ => (hn3 b off e).2⟩, HR.out.2.2.1, fun b off e => Nat.le_trans (HKS.out _ _ HR.out.2.2.2.2) (hn3 b off e).1⟩
      have HRR := hid hRR
      have HK3 : Hid (Kp W w3) := HT.out _ _ _ HR.out.2.2.2.2 (HKB.out _ _ hb3)
      have HFT : Hid (FromTo g a (pr ++ [((c : Int), (⟨⟨np, tk, ct, ep, dp⟩, bo, cp⟩ : EnM))])) := HR.out.2.2.1.snoc (by rw [HRL.out]) HYE.out
      simp only [EnM.val] at hy
      rw [HXN.out] at hy
      clear hRR hj3 hv3 hn3 hb3 HTD2 hlk d0 d1 HR
      gi_wp2
      refine HRR.out.mono ?_
      rintro e W3 (⟨rfl, hJ3, hk3⟩ | ⟨rfl, hJx3⟩)
      · have HJ3 := hid hJ3
        have HK4 := hid (HT.out _ _ _ HK3.out hk3)
        clear hJ3 hk3 HRR hy
        gi_wp2
        go_roundw
        case rel => exact ⟨c + 1, _, by go_num, by simp; have := HRL.out; omega, .inr (by have := HLT.out; omega), HFT.out, HJ3.out, HK4.out⟩
        case measure => simp [intOf]; have := HLT.out; omega
      · have HJ3 := hid hJx3
        clear hJx3 HRR hy
        gi_wp2
        refine bodyPost_ret (results_none rfl _ _ _) rfl ?_
        exact ⟨⟨_, rfl⟩, .inr ⟨_, HFT.out, HJ3.out⟩⟩
    · have hlt' : ¬ (c : Int) < (pre : Int) := by omega
      have HE : Hid (a + pr.length = max pre a) := by
        rcases HR.out.2.1 with h | h
        · subst h
          have h1 : a + 0 = c := HR.out.1
          show a + 0 = max pre a
          omega
        · have := HR.out.1
          show _ = _
          omega
      gi_wp2
      refine bodyPost_end (results_none rfl _ _ _) rfl ?_
      exact ⟨⟨_, rfl⟩, .inl ⟨pr, ⟨HR.out.2.2.1, HE.out⟩, HR.out.2.2.2.1⟩⟩
end Go.Proofs.Ytgghfmdciohinaa
/-
  A range over an iterator that yields what it has just made, its variable in a box (as in LogQ; here with no log about it).
-/
namespace Go.Proofs.Ytgghfmdciohinaa
open Go.RowKit Go.Shelf Go.Maps
attribute [local go_sem] Oper.semAt_some

/-- A range whose variable lies in a box of its own. -/
theorem wpIn_rangeFunc_Gc {F : Fence} {n : Nat} {P : Program} {α : Type} {g : Operand} {ps : Array Tmp} {assign body : Code} {Q : Exit → Act → World → Prop} {a : Act} {w : World}
    (hro : F.round = none) (h1 : 1 ≤ n) {gf : Nat} {lb : Array Value} (hg : a.eval g = .func (.func gf) #[] lb) (hFg : F.fn gf) (eg : ∀ args w, (callFunc gf args).run P w = .ok (.enter gf args) w)
    {encs : α → Array Value} {Kp : World → World → Prop} {G : List α → α → World → Prop} {S Sp : List α → Prop} (hseq : ∀ r, SeqAt F (n - 1) P (w.heap.size + 1) gf lb encs Kp G S Sp ((w.alloc (.deferred (some []))).alloc (.loop r)))
    (hKt : ∀ {A B C : World}, Kp A B → Kp B C → Kp A C) (hKb : ∀ (V : World) (r r' : Loop), V.heap[w.heap.size + 1]? = some (.loop r) → Kp V (V.putObj (w.heap.size + 1) (.loop r'))) (hps : ∀ x, (encs x).size = ps.size)
    (I : List α → World → Prop) (Ix : Code → List α → World → Prop) (hI : OwnFrom w.heap.size I) (hIx : ∀ c, OwnFrom w.heap.size (Ix c)) (h0 : I [] w) (X : List α → α → World → Prop) (hX : ∀ pre x, OwnFrom w.heap.size (fun (_ : Unit) V => X pre x V)) (Bx : α → List Value) (t : TypeId) (A : α → Nat → Act)
    (hassign : ∀ (l : Nat) (pre : List α) (x : α) (V : World) (K : Act → World → Prop), w.heap.size + 1 < V.heap.size → I pre V → G pre x V → (∀ gg V', KeptAs w.heap.size V V' → Kp V V' → I pre V' → X pre x V' → Blk V' gg t (Bx x) → w.heap.size ≤ gg → K (A x gg) V') →
      assign.wpIn (F.inRound l) (n - 1 - 1) P (Exit.then K (fun _ _ _ => False)) { tmps := (ps.zip (encs x)).foldl (fun t (p, v) => t.setIfInBounds p v) a.tmps, defers := [] } V)
    (hbody : ∀ (l : Nat) (pre : List α) (x : α) (gg : Nat) (V : World), (∃ r, Kept w.heap.size r V) → I pre V → X pre x V → Blk V gg t (Bx x) → w.heap.size ≤ gg → body.wpIn (F.inRound l) (n - 1 - 1) P (roundG w.heap.size Kp I Ix (pre ++ [x]) V) (A x gg) V)
    (hdone : ∀ (D : Nat) (xs : List α) (V : World), w.heap.size ≤ D → S xs → I xs V → V.heap[D]? = some (.deferred (some [])) → Q .normal { a with defers := { target := .collected D, args := #[] } :: a.defers } V)
    (hstop : ∀ (D : Nat) (c : Code) (pre : List α) (V : World), w.heap.size ≤ D → Sp pre → Ix c pre V → V.heap[D]? = some (.deferred (some [])) → c.wpIn F n P Q { a with defers := { target := .collected D, args := #[] } :: a.defers } V) :
    (Code.rangeFunc g ps assign body).wpIn F n P Q a w :=
  wpIn_rangeFunc_G hro h1 hg hFg eg hseq (fun h k => hKt h k) hKb hps I Ix hI hIx h0 (fun pre x a' V => ∃ gg, a' = A x gg ∧ X pre x V ∧ Blk V gg t (Bx x) ∧ w.heap.size ≤ gg)
    (fun pre x a' _ V V' row ⟨gg, e, hx, hb, hl⟩ hg hr => ⟨gg, e, hX pre x () V V' row hx hg hr, blk_own2 () V V' row hb hg hr, hl⟩)
    (fun l pre x V K hlt hi hG hK => hassign l pre x V K hlt hi hG (fun gg V' h1 h2 h3 h4 h5 h6 => hK _ V' h1 h2 h3 ⟨gg, rfl, h4, h5, h6⟩))
    (fun l pre x a' V _ hr hi ⟨gg, e, hx, hb, hl⟩ => by subst e; exact hbody l pre x gg V hr hi hx hb hl) hdone hstop
end Go.Proofs.Ytgghfmdciohinaa
