/-
  A range over an iterator that may be broken off: both ways out go on alike; the round's variable lies in a box of its own. What VvDots wants besides.
-/
import Derived.Test.YtjlompnjhmbhhaaGreatVvN
import Derived.Test.YtjlompnjhmbhhaaGreatRoundQuiet
import Derived.Sort.CutIn
namespace Go.Proofs.YtjlompnjhmbhhaaGreat
open Go.RowKit Go.Shelf Go.Maps
attribute [local go_sem] Oper.semAt_some

theorem blk_own2 {β : Type} {B g : Nat} {t : TypeId} {cs : List Value} : OwnFrom B (fun (_ : β) W => Blk W g t cs) := fun _ W W' row hs hg hr => hs.kept hg (fun e => by
  obtain ⟨_, o, ho, hc⟩ := hr g e.symm
  have h' : W.heap[g]? = some (.cells cs.toArray t (0, 0)) := hs
  rw [h'] at ho
  cases ho
  cases hc)
theorem wpIn_rangeFunc_boxB {F : Fence} {n : Nat} {P : Program} {α : Type} {g : Operand} {ps : Array Tmp} {assign body : Code} {Q : Exit → Act → World → Prop} {a : Act} {w : World}
    (hro : F.round = none) (h1 : 1 ≤ n) {gf : Nat} {lb : Array Value} (hg : a.eval g = .func (.func gf) #[] lb) (hFg : F.fn gf) (eg : ∀ args w, (callFunc gf args).run P w = .ok (.enter gf args) w)
    {encs : α → Array Value} {Kp : World → World → Prop} {S Sp : List α → Prop} {N : Nat} {w0 : World} (hseq : SeqStopsK F (n - 1) P gf lb encs Kp S Sp N w0)
    (hKt : ∀ {A B C : World}, Kp A B → Kp B C → Kp A C) (hKb : ∀ (W : World) (l : Nat) (o o' : Obj), w.heap.size ≤ l → W.heap[l]? = some o → o.isCells = false → o.isWalk = false → Kp W (W.putObj l o')) (hb0 : Below w0.heap.size w0 w) (hps : ∀ x, (encs x).size = ps.size)
    (I : List α → World → Prop) (Ix : Code → List α → World → Prop) (hI : OwnFrom w.heap.size I) (hIx : ∀ c, OwnFrom w.heap.size (Ix c)) (h0 : I [] w) (Bx : α → List Value) (t : TypeId) (B : Nat) (A : α → Nat → Act) (kb : Nat) (J : World → Prop)
    (hS : ∀ xs W, S xs → I xs W → J W) (hSp : ∀ c pre W, Sp pre → Ix c pre W → c = .exit kb ∧ J W) (hex : ∀ a W, Q .normal a W → Q (.exit kb) a W)
    (hassign : ∀ (l : Nat) (pre : List α) (x : α) (W : World) (K : Act → World → Prop), I pre W → (∀ gg W', KeepsFrom w.heap.size W W' → Kp W W' → I pre W' → Blk W' gg t (Bx x) → B ≤ gg → K (A x gg) W') →
      assign.wpIn (F.inRound l) (n - 1 - 1) P (Exit.then K (fun _ _ _ => False)) { tmps := (ps.zip (encs x)).foldl (fun t (p, v) => t.setIfInBounds p v) a.tmps, defers := [] } W)
    (hbody : ∀ (l : Nat) (pre : List α) (x : α) (gg : Nat) (W : World), I pre W → Blk W gg t (Bx x) → B ≤ gg → pre.length < N → body.wpIn (F.inRound l) (n - 1 - 1) P (ownPostG w.heap.size Kp I Ix (pre ++ [x]) W) (A x gg) W)
    (hafter : ∀ (D : Nat) (W : World), w.heap.size ≤ D → J W → W.heap[D]? = some (.deferred (some [])) → Q .normal { a with defers := { target := .collected D, args := #[] } :: a.defers } W) :
    (Code.rangeFunc g ps assign body).wpIn F n P Q a w :=
  wpIn_rangeFunc_ownH hro h1 hg hFg eg hseq (fun h k => hKt h k) hKb hb0 hps I Ix hI hIx h0 (fun x a' W => ∃ gg, a' = A x gg ∧ Blk W gg t (Bx x) ∧ B ≤ gg)
    (fun x a' _ W W' row ⟨gg, e, hb, hl⟩ hg hr => ⟨gg, e, blk_own2 () W W' row hb hg hr, hl⟩)
    (fun l pre x W K hi hK => hassign l pre x W K hi (fun gg W' h1 h2 h3 h4 h5 => hK _ W' h1 h2 h3 ⟨gg, rfl, h4, h5⟩))
    (fun l pre x a' W _ _ hi ⟨gg, e, hb, hl⟩ hlt => by subst e; exact hbody l pre x gg W hi hb hl hlt)
    (fun D xs W hD hs hi hd => hafter D W hD (hS xs W hs hi) hd)
    (fun D c pre W hD hs hi hd => by
      obtain ⟨rfl, hj⟩ := hSp c pre W hs hi
      exact wpIn_exit (hex _ _ (hafter D W hD hj hd)))
/-- .. that is never broken off. -/
theorem wpIn_rangeFunc_boxA {F : Fence} {n : Nat} {P : Program} {α : Type} {g : Operand} {ps : Array Tmp} {assign body : Code} {Q : Exit → Act → World → Prop} {a : Act} {w : World}
    (hro : F.round = none) (h1 : 1 ≤ n) {gf : Nat} {lb : Array Value} (hg : a.eval g = .func (.func gf) #[] lb) (hFg : F.fn gf) (eg : ∀ args w, (callFunc gf args).run P w = .ok (.enter gf args) w)
    {encs : α → Array Value} {Kp : World → World → Prop} {S Sp : List α → Prop} {N : Nat} {w0 : World} (hseq : SeqStopsK F (n - 1) P gf lb encs Kp S Sp N w0)
    (hKt : ∀ {A B C : World}, Kp A B → Kp B C → Kp A C) (hKb : ∀ (W : World) (l : Nat) (o o' : Obj), w.heap.size ≤ l → W.heap[l]? = some o → o.isCells = false → o.isWalk = false → Kp W (W.putObj l o')) (hb0 : Below w0.heap.size w0 w) (hps : ∀ x, (encs x).size = ps.size)
    (I : List α → World → Prop) (hI : OwnFrom w.heap.size I) (h0 : I [] w) (Bx : α → List Value) (t : TypeId) (B : Nat) (A : α → Nat → Act)
    (hassign : ∀ (l : Nat) (pre : List α) (x : α) (W : World) (K : Act → World → Prop), I pre W → (∀ gg W', KeepsFrom w.heap.size W W' → Kp W W' → I pre W' → Blk W' gg t (Bx x) → B ≤ gg → K (A x gg) W') →
      assign.wpIn (F.inRound l) (n - 1 - 1) P (Exit.then K (fun _ _ _ => False)) { tmps := (ps.zip (encs x)).foldl (fun t (p, v) => t.setIfInBounds p v) a.tmps, defers := [] } W)
    (hbody : ∀ (l : Nat) (pre : List α) (x : α) (gg : Nat) (W : World), I pre W → Blk W gg t (Bx x) → B ≤ gg → pre.length < N → body.wpIn (F.inRound l) (n - 1 - 1) P (ownPostG w.heap.size Kp I (fun _ _ _ => False) (pre ++ [x]) W) (A x gg) W)
    (hafter : ∀ (D : Nat) (xs : List α) (W : World), w.heap.size ≤ D → S xs → I xs W → W.heap[D]? = some (.deferred (some [])) → Q .normal { a with defers := { target := .collected D, args := #[] } :: a.defers } W) :
    (Code.rangeFunc g ps assign body).wpIn F n P Q a w :=
  wpIn_rangeFunc_ownH hro h1 hg hFg eg hseq (fun h k => hKt h k) hKb hb0 hps I (fun _ _ _ => False) hI (fun _ _ _ _ _ h _ _ => h) h0 (fun x a' W => ∃ gg, a' = A x gg ∧ Blk W gg t (Bx x) ∧ B ≤ gg)
    (fun x a' _ W W' row ⟨gg, e, hb, hl⟩ hg hr => ⟨gg, e, blk_own2 () W W' row hb hg hr, hl⟩)
    (fun l pre x W K hi hK => hassign l pre x W K hi (fun gg W' h1 h2 h3 h4 h5 => hK _ W' h1 h2 h3 ⟨gg, rfl, h4, h5⟩))
    (fun l pre x a' W _ _ hi ⟨gg, e, hb, hl⟩ hlt => by subst e; exact hbody l pre x gg W hi hb hl hlt)
    (fun D xs W hD hs hi hd => hafter D xs W hD hs hi hd)
    (fun _ _ _ _ _ _ h _ => h.elim)
theorem ownFrom_sizeB {β : Type} {B c : Nat} : OwnFrom B (fun (_ : β) W => c ≤ W.heap.size) := fun _ _ _ _ hs hg _ => Nat.le_trans hs hg.size
/-- The blocks from lo on below hi are U's. -/
def Like (U : World) (lo hi : Nat) (W : World) : Prop := ∀ k, lo ≤ k → k < hi → W.heap[k]? = U.heap[k]?
theorem Like.refl (U : World) (lo hi : Nat) : Like U lo hi U := fun _ _ _ => rfl
theorem ownFrom_like {β : Type} {U : World} {lo B : Nat} (hB : B ≤ U.heap.size) : OwnFrom B (fun (_ : β) W => Like U lo B W) := fun _ W W' row hs hg hr k h1 h2 => by
  have h3 : W.heap[k]? = U.heap[k]? := hs k h1 h2
  have h4 : k < W.heap.size := by
    rw [Array.getElem?_eq_getElem (by omega : k < U.heap.size)] at h3
    exact (Array.getElem?_eq_some_iff.1 h3).1
  exact (hg.block k h4 (fun e => by have := (hr k e.symm).1; omega)).trans h3
theorem Like.set {U W : World} {lo hi g : Nat} (h : Like U lo hi W) (hg : g < lo) (u : Value) : Like U lo hi (W.setCell ⟨g, 0, none⟩ u) := fun k h1 h2 =>
  (Below.heap_setCell _ _ _ _ (by intro e; have : k = g := e; omega)).trans (h k h1 h2)
theorem Like.boxed {U W : World} {lo hi g : Nat} {t : TypeId} {v : Value} (h : Like U lo hi W) (hb : Boxed U g t v) (h1 : lo ≤ g) (h2 : g < hi) : Boxed W g t v := (h g h1 h2).trans hb
theorem Like.cell {U W : World} {lo hi g off : Nat} (h : Like U lo hi W) (h1 : lo ≤ g) (h2 : g < hi) : W.cell? ⟨g, off, none⟩ = U.cell? ⟨g, off, none⟩ := by
  simp only [World.cell?]
  rw [h g h1 h2]
theorem keepsB {W W' : World} (h : Below W.heap.size W W') : KeepsOthers W W' := ⟨h.size, fun k _ hk _ => (h.block k (Array.getElem?_eq_some_iff.1 hk).1).trans hk⟩
theorem keepsD (W : World) (q : Nat) : KeepsOthers W (W.drewN q) := ⟨Nat.le_refl _, fun _ _ h _ => h⟩
/-- What a row of dots holds. -/
theorem dots_cells {w : World} {B n cap : Nat} {eo : Option Addr} {ds : List (Int × Int)} (h : w.ownsRow B 25 2 (.slice eo n cap) ds.length (flatD ds)) (hpos : 0 < ds.length) :
    ∃ g, eo = some ⟨g, 0, none⟩ ∧ B ≤ g ∧ g < w.heap.size ∧ ∀ i, i < ds.length → w.cell? ⟨g, i * 2, none⟩ = some (.int .i64 (ds.getD i (0, 0)).1) ∧ w.cell? ⟨g, i * 2 + 1, none⟩ = some (.int .i64 (ds.getD i (0, 0)).2) := by
  rcases h.2 with ⟨_, h0⟩ | ⟨g, c, cur, e, hbg, hg, _⟩
  · omega
  · cases e
    refine ⟨g, rfl, hbg, (Array.getElem?_eq_some_iff.1 hg).1, fun i hi => ?_⟩
    have key : ∀ (ds : List (Int × Int)) i, i < ds.length → (flatD ds)[i * 2]? = some (.int .i64 (ds.getD i (0, 0)).1) ∧ (flatD ds)[i * 2 + 1]? = some (.int .i64 (ds.getD i (0, 0)).2) := by
      intro ds
      induction ds with
      | nil => intro i hi; simp at hi
      | cons x r ih =>
        intro i hi
        cases i with
        | zero => simp [flatD]
        | succ k =>
          have := ih k (by simpa using hi)
          simp only [flatD, List.flatMap_cons] at this ⊢
          rw [show (k + 1) * 2 = k * 2 + 2 by omega, show k * 2 + 2 + 1 = k * 2 + 1 + 2 by omega]
          simpa using this
    have h1 := h.cells (g := g) rfl (i * 2) _ (key ds i hi).1
    have h2 := h.cells (g := g) rfl (i * 2 + 1) _ (key ds i hi).2
    rw [Addr.add_lit, Nat.zero_add] at h1 h2
    exact ⟨h1, h2⟩
theorem dots_has {b : List Int} {x y : Int} {M : Nat} (h : (x, y) ∈ (dotsAll [] b).take M) : HasV b x y := by
  have h1 := List.mem_of_mem_take h
  unfold dotsAll rowsFrom at h1
  obtain ⟨k, hk, h2⟩ := List.mem_flatMap.1 h1
  unfold rowOf at h2
  obtain ⟨i, hi, e⟩ := List.mem_map.1 h2
  have h3 := List.mem_range.1 hi
  have e0 : hadOf [] k = 0 := by simp [hadOf]
  unfold moreOf at h3
  rw [e0] at h3 e
  simp only [Prod.mk.injEq] at e
  obtain ⟨rfl, rfl⟩ := e
  unfold HasV
  rw [ofV_nat]
  omega
theorem getD_memD {ds : List (Int × Int)} {k : Nat} (hk : k < ds.length) : ds.getD k (0, 0) ∈ ds := by
  simp [List.getD, List.getElem?_eq_getElem hk]
theorem take_at {α : Type} {all pre : List α} {x z : α} {M : Nat} (h : pre ++ [x] <+: all) (hM : pre.length < M) : x = (all.take M).getD pre.length z := by
  obtain ⟨r, rfl⟩ := h
  have : (pre ++ [x] ++ r)[pre.length]? = some x := by simp
  rw [List.getD_eq_getElem?_getD, List.getElem?_take_of_lt hM, this]
  rfl
theorem neg_mod {r : Int} (h : -1000 < r ∧ r < 1000) : wrap64 (-r) = -r := wrapS (by omega) (by omega)
theorem mod_rng (m : Int) : -1000 < m.tmod 1000 ∧ m.tmod 1000 < 1000 := by
  have h := Int.tmod_lt_of_pos m (show (0 : Int) < 1000 by decide)
  have h2 := Int.tmod_lt_of_pos (-m) (show (0 : Int) < 1000 by decide)
  rw [Int.neg_tmod] at h2
  omega
end Go.Proofs.YtjlompnjhmbhhaaGreat
