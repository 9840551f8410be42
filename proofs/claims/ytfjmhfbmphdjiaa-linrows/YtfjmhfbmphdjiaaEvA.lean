/-
  Events in memory: what a slice of api.Event holds ('HeldE'), what append makes of one. No function of the program is named here.
-/
import Derived.Test.YtfjmhfbmphdjiaaIntsA
import Derived.Test.YtfjmhfbmphdjiaaCartMath
import Derived.Test.YtfjmhfbmphdjiaaDotKey
namespace Go.Proofs.Ytfjmhfbmphdjiaa
open Go.RowKit Go.ChangeShapes Go.WideShapes Go.Deep Go.Maps

/-- An event with the place of its vector. -/
structure EvM where
  e : Ev
  ao : Option Addr
  cap : Nat
def zeroEM : EvM := ⟨zeroEv, none, 0⟩
instance : Inhabited EvM := ⟨zeroEM⟩
def EvM.cells (x : EvM) : List Value := [.int .i64 x.e.o, .int .i64 x.e.s, .slice x.ao x.e.deps.length x.cap, .string x.e.cart, .int .i64 x.e.epoch, .string x.e.sku, .int .i64 x.e.qty, .bool x.e.clears]
abbrev EvM.val (x : EvM) : Value := .agg #[.int .i64 x.e.o, .int .i64 x.e.s, .slice x.ao x.e.deps.length x.cap, .string x.e.cart, .int .i64 x.e.epoch, .string x.e.sku, .int .i64 x.e.qty, .bool x.e.clears]
structure EvOk (w : World) (x : EvM) : Prop where
  deps : HV w x.ao x.cap x.e.deps
  io : I64 x.e.o
  is : I64 x.e.s
  ie : I64 x.e.epoch
  iq : I64 x.e.qty
  hc : x.e.cart.size ≤ maxLen
  hs : x.e.sku.size ≤ maxLen
theorem EvOk.below {w w' : World} {x : EvM} (h : EvOk w x) (hb : Below w.heap.size w w') : EvOk w' x := ⟨h.deps.below hb, h.io, h.is, h.ie, h.iq, h.hc, h.hs⟩
theorem hv_none (w : World) (c : Nat) : HV w none c [] := ⟨⟨fun x hx => (by cases hx), .inl rfl⟩, Nat.zero_le _, Nat.zero_le _⟩
theorem EvOk.zero (w : World) : EvOk w zeroEM := ⟨hv_none w 0, by unfold I64; decide, by unfold I64; decide, by unfold I64; decide, by unfold I64; decide, Nat.zero_le _, Nat.zero_le _⟩
def AllOk (w : World) (xs : List EvM) : Prop := ∀ x ∈ xs, EvOk w x
theorem AllOk.below {w w' : World} {xs : List EvM} (h : AllOk w xs) (hb : Below w.heap.size w w') : AllOk w' xs := fun x hx => (h x hx).below hb
/-- A slice of events holds xs. -/
def HeldE (w : World) (ao : Option Addr) (xs : List EvM) : Prop :=
  AllOk w xs ∧ (xs = [] ∨ ∃ b off, ao = some ⟨b, off, none⟩ ∧ b < w.heap.size ∧ ∀ j (hj : j < xs.length) c u, xs[j].cells[c]? = some u → w.cell? ⟨b, off + j * 8 + c, none⟩ = some u)
theorem HeldE.below {w w' : World} {ao : Option Addr} {xs : List EvM} (h : HeldE w ao xs) (hb : Below w.heap.size w w') : HeldE w' ao xs := by
  refine ⟨h.1.below hb, ?_⟩
  rcases h.2 with h0 | ⟨b, off, h1, h2, h3⟩
  · exact .inl h0
  · exact .inr ⟨b, off, h1, Nat.lt_of_lt_of_le h2 hb.size, fun j hj c u hu => (hb.cell (p := ⟨b, off + j * 8 + c, none⟩) h2).trans (h3 j hj c u hu)⟩
theorem HeldE.at {w : World} {ao : Option Addr} {xs : List EvM} (h : HeldE w ao xs) {j : Nat} (hj : j < xs.length) : ∃ b off, ao = some ⟨b, off, none⟩ ∧ b < w.heap.size ∧ w.cell? ⟨b, off + j * 8, none⟩ = some (.int .i64 xs[j].e.o) ∧ w.cell? ⟨b, off + j * 8 + 1, none⟩ = some (.int .i64 xs[j].e.s) ∧
    w.cell? ⟨b, off + j * 8 + 2, none⟩ = some (.slice xs[j].ao xs[j].e.deps.length xs[j].cap) ∧ w.cell? ⟨b, off + j * 8 + 3, none⟩ = some (.string xs[j].e.cart) ∧ w.cell? ⟨b, off + j * 8 + 4, none⟩ = some (.int .i64 xs[j].e.epoch) ∧
    w.cell? ⟨b, off + j * 8 + 5, none⟩ = some (.string xs[j].e.sku) ∧ w.cell? ⟨b, off + j * 8 + 6, none⟩ = some (.int .i64 xs[j].e.qty) ∧ w.cell? ⟨b, off + j * 8 + 7, none⟩ = some (.bool xs[j].e.clears) := by
  rcases h.2 with h0 | ⟨b, off, h1, h2, h3⟩
  · subst h0
    cases hj
  · exact ⟨b, off, h1, h2, h3 j hj 0 _ rfl, h3 j hj 1 _ rfl, h3 j hj 2 _ rfl, h3 j hj 3 _ rfl, h3 j hj 4 _ rfl, h3 j hj 5 _ rfl, h3 j hj 6 _ rfl, h3 j hj 7 _ rfl⟩
def flatE (xs : List EvM) : List Value := xs.flatMap EvM.cells
theorem flatE_snoc (xs : List EvM) (x : EvM) : flatE (xs ++ [x]) = flatE xs ++ x.cells := by simp [flatE]
theorem flatE_len : ∀ xs : List EvM, (flatE xs).length = xs.length * 8
  | [] => rfl
  | x :: r => by
    have := flatE_len r
    unfold flatE at this ⊢
    rw [List.flatMap_cons, List.length_append, this, List.length_cons]
    show 8 + _ = _
    omega
theorem flatE_get : ∀ (xs : List EvM) (j : Nat) (hj : j < xs.length) (c : Nat) (u : Value), xs[j].cells[c]? = some u → (flatE xs)[j * 8 + c]? = some u
  | [], j, hj, _, _, _ => by cases hj
  | x :: r, 0, _, c, u, h => by
    simp only [List.getElem_cons_zero] at h
    have hc : c < 8 := (List.getElem?_eq_some_iff.1 h).1
    unfold flatE
    rw [List.flatMap_cons, Nat.zero_mul, Nat.zero_add, List.getElem?_append_left (show c < 8 from hc)]
    exact h
  | x :: r, j + 1, hj, c, u, h => by
    simp only [List.getElem_cons_succ] at h
    have := flatE_get r j (by simpa using hj) c u h
    unfold flatE at this ⊢
    rw [List.flatMap_cons, List.getElem?_append_right (show x.cells.length ≤ _ by show 8 ≤ _; omega)]
    rw [show (j + 1) * 8 + c - x.cells.length = j * 8 + c by show _ - 8 = _; omega]
    exact this
theorem own_form8 {w : World} {B e n : Nat} {v : Value} {xs : List Value} {k : Nat} (h : w.ownsRow B e k v n xs) :
    ∃ eo cap, v = .slice eo n cap ∧ n ≤ cap ∧ (0 < n → ∃ g, eo = some ⟨g, 0, none⟩ ∧ B ≤ g ∧ g < w.heap.size ∧ ∀ j u, xs[j]? = some u → w.cell? ⟨g, j, none⟩ = some u) := by
  rcases h.2 with ⟨rfl, rfl⟩ | ⟨g, cap, cur, rfl, hbg, hg, hnc, _⟩
  · exact ⟨none, 0, rfl, Nat.le_refl _, fun h0 => by omega⟩
  · refine ⟨some ⟨g, 0, none⟩, cap, rfl, hnc, fun _ => ⟨g, rfl, hbg, (Array.getElem?_eq_some_iff.1 hg).1, fun j u hu => ?_⟩⟩
    have := h.cells (g := g) rfl j u hu
    simpa [Addr.add_lit] using this
theorem ev_one (x : EvM) : ∀ u ∈ x.cells, u.oneCell' = true := by
  intro u hu
  simp [EvM.cells] at hu
  rcases hu with rfl | rfl | rfl | rfl | rfl | rfl | rfl | rfl <;> rfl
theorem bt' {a b c : World} (h : Below a.heap.size a b) (k : Below b.heap.size b c) : Below a.heap.size a c := h.trans (k.mono h.size)
end Go.Proofs.Ytfjmhfbmphdjiaa
