/-
  The state of ClockBounds' first loop.
-/
import Derived.Test.YtpbhboecpgdgaaaClkI
import Derived.Test.YtpbhboecpgdgaaaApps
namespace Go.Proofs.Ytpbhboecpgdgaaa
open Go.RowKit Go.Maps

theorem own_form {w : World} {B e n : Nat} {v : Value} {xs : List Value} (h : w.ownsRow B e 1 v n xs) :
    ∃ eo cap, v = .slice eo n cap ∧ n ≤ cap ∧ (0 < n → ∃ g, eo = some ⟨g, 0, none⟩ ∧ B ≤ g ∧ g < w.heap.size ∧ ∀ j u, xs[j]? = some u → w.cell? ⟨g, j, none⟩ = some u) := by
  rcases h.2 with ⟨rfl, rfl⟩ | ⟨g, cap, cur, rfl, hbg, hg, hnc, _⟩
  · exact ⟨none, 0, rfl, Nat.le_refl _, fun h0 => by omega⟩
  · refine ⟨some ⟨g, 0, none⟩, cap, rfl, hnc, fun _ => ⟨g, rfl, hbg, (Array.getElem?_eq_some_iff.1 hg).1, fun j u hu => ?_⟩⟩
    have := h.cells (g := g) rfl j u hu
    simpa [Addr.add_lit] using this

theorem Chain.tick {r T C t a : Int} {ts cs : List Int} (h : Chain r ts cs T C) (ht : 0 ≤ t) (ha : 0 ≤ a) (hk : Keeps1 t a r) : Chain r ts cs (T + t) (C + a) := by
  refine ⟨h.len, fun k hk' => ?_, h.two⟩
  obtain ⟨⟨n1, n2⟩, n3⟩ := h.now k hk'
  refine ⟨⟨by omega, by omega⟩, ?_⟩
  have := n3.add hk
  rwa [show T - ts.getD k 0 + t = T + t - ts.getD k 0 by omega, show C - cs.getD k 0 + a = C + a - cs.getD k 0 by omega] at this
theorem Chain.push {r T C : Int} {ts cs : List Int} (h : Chain r ts cs T C) : Chain r (ts ++ [T]) (cs ++ [C]) T C := by
  have := h.snoc (t := 0) (a := 0) (Int.le_refl _) (Int.le_refl _) (Keeps1.zero r)
  simpa using this
def Fits (xs : List Int) : Prop := ∀ x ∈ xs, 0 ≤ x ∧ x ≤ 1152921504606846976
theorem Fits.snoc {xs : List Int} (h : Fits xs) {x : Int} (hx : 0 ≤ x ∧ x ≤ 1152921504606846976) : Fits (xs ++ [x]) := by
  intro y hy
  rcases List.mem_append.1 hy with h1 | h1
  · exact h y h1
  · simp at h1
    subst h1
    exact hx
theorem ClkAt.grown {w w' : World} {p g cap : Nat} {now : List Int} {time need : Int} {row : Option Nat} (h : ClkAt w p g cap now time need) (hg : w.grownBy w' row) (hne : ∀ k, row = some k → k ≠ p ∧ k ≠ g) : ClkAt w' p g cap now time need :=
  h.turned (F := fun i => row = some i) (Turns.of_grown hg (fun _ h => h)) (fun i hi e => by
    have := hne i e
    rcases hi with h | h <;> omega)

/-- The state: the clocks, the moments so far (times ts, clocks cs) in two rows of their own. -/
structure BS (r : Int) (p g B0 : Nat) (w wr : World) (v9 v10 : Value) (ts cs : List Int) (cap : Nat) (n0 n1 T need : Int) : Prop where
  clk : ClkAt wr p g cap [n0, n1] T need
  bel : Below w.heap.size w wr
  r9 : wr.ownsRow B0 3 1 v9 ts.length (ints ts)
  r10 : wr.ownsRow B0 3 1 v10 cs.length (ints cs)
  apart : ∀ i, v9.ownBlock = some i → v10.ownBlock ≠ some i
  chain : Chain r ts cs T n1
  need_le : need ≤ r
  f9 : Fits ts
  f10 : Fits cs
section
variable {r : Int} {p g B0 : Nat} {w wr : World} {v9 v10 : Value} {ts cs : List Int} {cap : Nat} {n0 n1 T need : Int}
theorem BS.drewN (h : BS r p g B0 w wr v9 v10 ts cs cap n0 n1 T need) (q : Nat) : BS r p g B0 w (wr.drewN q) v9 v10 ts cs cap n0 n1 T need :=
  ⟨h.clk.drewN q, below_dn h.bel q, h.r9, h.r10, h.apart, h.chain, h.need_le, h.f9, h.f10⟩
theorem BS.tick (h : BS r p g B0 w wr v9 v10 ts cs cap n0 n1 T need) (hp : (w.heap.size ≤ p ∧ w.heap.size ≤ g) ∧ p < B0 ∧ g < B0) {t : Int} {on : List Int} (hk : KeepsAll t on r) (ao : Option Addr) (c : Nat) (ho : HeldInt wr ao on) (hl : on.length ≤ 140737488355328) (hap : ∀ b off, ao = some ⟨b, off, none⟩ → on ≠ [] → b < w.heap.size) :
    Calls Try.prog 12 #[.pointer (some ⟨p, 0, none⟩), .int .i64 t, .slice ao on.length c] wr fun e w' => ∃ z m0 m1 T' need' : Int, e = .returned (.int .i64 z) ∧ BS r p g B0 w w' v9 v10 ts cs cap m0 m1 T' need' ∧ wr.heap.size ≤ w'.heap.size := by
  refine (tick_two h.clk t ao c on ho hl (fun b off e he hf => ?_)).mono ?_
  · have := hap b off e he
    rcases hf with h | h <;> omega
  rintro e w' ⟨z, m0, m1, time', need', rfl, hc', ht, hor⟩
  have hrow : ∀ {v : Value} {n : Nat} {xs : List Value}, wr.ownsRow B0 3 1 v n xs → ∀ i, v.ownBlock = some i → ¬ CFoot p g i := fun hr i hi hf => by
    have := own_lt hr i hi
    rcases hf with h | h <;> omega
  refine ⟨z, m0, m1, time', need', rfl, ⟨hc', h.bel.trans (ht.below (fun i hi => by rcases hi with h | h <;> omega) h.bel.size), ht.row h.r9 (hrow h.r9), ht.row h.r10 (hrow h.r10), h.apart, ?_, ?_, h.f9, h.f10⟩, ht.size⟩
  · rcases hor with ⟨_, rfl, rfl, rfl, _⟩ | ⟨_, hr, hx, a0, a1, rfl, rfl, rfl, rfl, _⟩
    · exact h.chain
    · obtain ⟨_, _, _, hka⟩ := keepsAll_iff.1 hk
      exact h.chain.tick hr.1 (hx a1 (by simp)).1 (hka a1 (by simp))
  · have := h.need_le
    rcases hor with ⟨_, rfl, rfl, rfl, rfl⟩ | ⟨_, _, _, a0, a1, _, _, _, _, rfl⟩
    · exact this
    · have := hk.2.2.2
      omega
/-- Behind the first append. -/
theorem BS.push1 (h : BS r p g B0 w wr v9 v10 ts cs cap n0 n1 T need) (hp : p < B0 ∧ g < B0) (o : Obj) {v' : Value} {w4 : World} (hown : w4.ownsRow B0 3 1 v' (ts.length + 1) (ints ts ++ [.int .i64 T])) (hgrow : (wr.alloc o).grownBy w4 v9.ownBlock) (hat : v'.ownBlock = v9.ownBlock ∨ v'.ownBlock = some (wr.alloc o).heap.size) (hB : B0 ≤ wr.heap.size) (hw : w.heap.size ≤ B0) :
    ClkAt w4 p g cap [n0, n1] T need ∧ Below w.heap.size w w4 ∧ w4.ownsRow B0 3 1 v' (ts ++ [T]).length (ints (ts ++ [T])) ∧ w4.ownsRow B0 3 1 v10 cs.length (ints cs) ∧ ∀ i, v'.ownBlock = some i → v10.ownBlock ≠ some i := by
  have h10 : (wr.alloc o).ownsRow B0 3 1 v10 cs.length (ints cs) := h.r10.alloc o
  refine ⟨(h.clk.grown (World.grownBy_alloc wr o none) (fun _ e => by cases e)).grown hgrow (fun k e => ?_), (h.bel.alloc (by omega) o).grown hgrow (by simp; omega) (fun k e => ?_), ?_, (Turns.of_grown (F := fun i => v9.ownBlock = some i) hgrow (fun _ h => h)).row h10 (fun i hi e => h.apart i e hi), fun i hi e => ?_⟩
  · have := own_lt h.r9 k e
    omega
  · have := own_lt h.r9 k e
    omega
  · simpa [ints] using hown
  · rcases hat with h1 | h1
    · exact h.apart i (h1 ▸ hi) e
    · rw [h1] at hi
      cases hi
      have h2 := ownsRow_lt h.r10 e
      simp at h2
      omega
/-- Behind both. -/
theorem BS.push2 (h : BS r p g B0 w wr v9 v10 ts cs cap n0 n1 T need) (hp : p < B0 ∧ g < B0) {v' : Value} {w4 : World} (h4 : ClkAt w4 p g cap [n0, n1] T need ∧ Below w.heap.size w w4 ∧ w4.ownsRow B0 3 1 v' (ts ++ [T]).length (ints (ts ++ [T])) ∧ w4.ownsRow B0 3 1 v10 cs.length (ints cs) ∧ ∀ i, v'.ownBlock = some i → v10.ownBlock ≠ some i)
    (o : Obj) {v'' : Value} {w6 : World} (hown : w6.ownsRow B0 3 1 v'' (cs.length + 1) (ints cs ++ [.int .i64 n1])) (hgrow : (w4.alloc o).grownBy w6 v10.ownBlock) (hat : v''.ownBlock = v10.ownBlock ∨ v''.ownBlock = some (w4.alloc o).heap.size) (hB : B0 ≤ w4.heap.size) (hw : w.heap.size ≤ B0) :
    BS r p g B0 w w6 v' v'' (ts ++ [T]) (cs ++ [n1]) cap n0 n1 T need := by
  obtain ⟨hc, hb, h9, h10, hap⟩ := h4
  have h9' : (w4.alloc o).ownsRow B0 3 1 v' (ts ++ [T]).length (ints (ts ++ [T])) := h9.alloc o
  refine ⟨(hc.grown (World.grownBy_alloc w4 o none) (fun _ e => by cases e)).grown hgrow (fun k e => ?_), (hb.alloc (by omega) o).grown hgrow (by simp; omega) (fun k e => ?_), (Turns.of_grown (F := fun i => v10.ownBlock = some i) hgrow (fun _ h => h)).row h9' (fun i hi e => hap i hi e), ?_, fun i hi e => ?_, h.chain.push, h.need_le, h.f9.snoc h.clk.tim, h.f10.snoc (h.clk.rng n1 (by simp))⟩
  · have := own_lt h10 k e
    omega
  · have := own_lt h10 k e
    omega
  · simpa [ints] using hown
  · rcases hat with h1 | h1
    · exact hap i hi (h1 ▸ e)
    · rw [h1] at e
      cases e
      have h2 := ownsRow_lt h9 hi
      simp at h2
      omega
end
end Go.Proofs.Ytpbhboecpgdgaaa
