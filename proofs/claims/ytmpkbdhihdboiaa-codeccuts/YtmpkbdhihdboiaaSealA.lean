/-
  Seals in memory: what a slice of api.Seal holds ('HeldSl'), what append makes of one. No function of the program is named here.
-/
import Derived.Test.YtmpkbdhihdboiaaVoA
namespace Go.Proofs.Ytmpkbdhihdboiaa
open Go.RowKit Go.ChangeShapes Go.WideShapes Go.Deep Go.Maps

structure Sl where
  tok : ByteArray
  cart : ByteArray
  ep : Int
  cut : List Int
  deriving DecidableEq
def zeroSl : Sl := ⟨⟨#[]⟩, ⟨#[]⟩, 0, []⟩
/-- A seal with the place of its cut. -/
structure SlM where
  e : Sl
  ao : Option Addr
  cap : Nat
def zeroSM : SlM := ⟨zeroSl, none, 0⟩
instance : Inhabited SlM := ⟨zeroSM⟩
def SlM.cells (x : SlM) : List Value := [.string x.e.tok, .string x.e.cart, .int .i64 x.e.ep, .slice x.ao x.e.cut.length x.cap]
abbrev SlM.val (x : SlM) : Value := .agg #[.string x.e.tok, .string x.e.cart, .int .i64 x.e.ep, .slice x.ao x.e.cut.length x.cap]
structure SlOk (w : World) (x : SlM) : Prop where
  cut : HV w x.ao x.cap x.e.cut
  ie : I64 x.e.ep
  ht : x.e.tok.size ≤ maxLen
  hc : x.e.cart.size ≤ maxLen
theorem SlOk.below {w w' : World} {x : SlM} (h : SlOk w x) (hb : Below w.heap.size w w') : SlOk w' x := ⟨h.cut.below hb, h.ie, h.ht, h.hc⟩
def AllS (w : World) (xs : List SlM) : Prop := ∀ x ∈ xs, SlOk w x
theorem AllS.below {w w' : World} {xs : List SlM} (h : AllS w xs) (hb : Below w.heap.size w w') : AllS w' xs := fun x hx => (h x hx).below hb
/-- A slice of seals holds xs. -/
def HeldSl (w : World) (ao : Option Addr) (xs : List SlM) : Prop :=
  AllS w xs ∧ (xs = [] ∨ ∃ b off, ao = some ⟨b, off, none⟩ ∧ b < w.heap.size ∧ ∀ j (hj : j < xs.length) c u, xs[j].cells[c]? = some u → w.cell? ⟨b, off + j * 4 + c, none⟩ = some u)
theorem HeldSl.below {w w' : World} {ao : Option Addr} {xs : List SlM} (h : HeldSl w ao xs) (hb : Below w.heap.size w w') : HeldSl w' ao xs := by
  refine ⟨h.1.below hb, ?_⟩
  rcases h.2 with h0 | ⟨b, off, h1, h2, h3⟩
  · exact .inl h0
  · exact .inr ⟨b, off, h1, Nat.lt_of_lt_of_le h2 hb.size, fun j hj c u hu => (hb.cell (p := ⟨b, off + j * 4 + c, none⟩) h2).trans (h3 j hj c u hu)⟩
theorem HeldSl.at {w : World} {ao : Option Addr} {xs : List SlM} (h : HeldSl w ao xs) {j : Nat} (hj : j < xs.length) : ∃ b off, ao = some ⟨b, off, none⟩ ∧ b < w.heap.size ∧ w.cell? ⟨b, off + j * 4, none⟩ = some (.string xs[j].e.tok) ∧ w.cell? ⟨b, off + j * 4 + 1, none⟩ = some (.string xs[j].e.cart) ∧
    w.cell? ⟨b, off + j * 4 + 2, none⟩ = some (.int .i64 xs[j].e.ep) ∧ w.cell? ⟨b, off + j * 4 + 3, none⟩ = some (.slice xs[j].ao xs[j].e.cut.length xs[j].cap) := by
  rcases h.2 with h0 | ⟨b, off, h1, h2, h3⟩
  · subst h0
    cases hj
  · exact ⟨b, off, h1, h2, h3 j hj 0 _ rfl, h3 j hj 1 _ rfl, h3 j hj 2 _ rfl, h3 j hj 3 _ rfl⟩
def flatS (xs : List SlM) : List Value := xs.flatMap SlM.cells
theorem flatS_snoc (xs : List SlM) (x : SlM) : flatS (xs ++ [x]) = flatS xs ++ x.cells := by simp [flatS]
theorem flatS_len : ∀ xs : List SlM, (flatS xs).length = xs.length * 4
  | [] => rfl
  | x :: r => by
    have := flatS_len r
    unfold flatS at this ⊢
    rw [List.flatMap_cons, List.length_append, this, List.length_cons]
    show 4 + _ = _
    omega
theorem flatS_get : ∀ (xs : List SlM) (j : Nat) (hj : j < xs.length) (c : Nat) (u : Value), xs[j].cells[c]? = some u → (flatS xs)[j * 4 + c]? = some u
  | [], j, hj, _, _, _ => by cases hj
  | x :: r, 0, _, c, u, h => by
    simp only [List.getElem_cons_zero] at h
    have hc : c < 4 := (List.getElem?_eq_some_iff.1 h).1
    unfold flatS
    rw [List.flatMap_cons, Nat.zero_mul, Nat.zero_add, List.getElem?_append_left (show c < 4 from hc)]
    exact h
  | x :: r, j + 1, hj, c, u, h => by
    simp only [List.getElem_cons_succ] at h
    have := flatS_get r j (by simpa using hj) c u h
    unfold flatS at this ⊢
    rw [List.flatMap_cons, List.getElem?_append_right (show x.cells.length ≤ _ by show 4 ≤ _; omega)]
    rw [show (j + 1) * 4 + c - x.cells.length = j * 4 + c by show _ - 4 = _; omega]
    exact this
/-- What an owned row of seals holds. -/
theorem heldSl_of_own {w : World} {B : Nat} {v : Value} {xs : List SlM} {n : Nat} (hn : xs.length = n) (h : w.ownsRow B 26 4 v n (flatS xs)) (hx : AllS w xs) : ∃ ao cap, v = .slice ao n cap ∧ n ≤ cap ∧ HeldSl w ao xs := by
  subst hn
  obtain ⟨eo, cap, rfl, hnc, hc⟩ := own_form8 h
  refine ⟨eo, cap, rfl, hnc, hx, ?_⟩
  by_cases h0 : xs = []
  · exact .inl h0
  · obtain ⟨g, rfl, _, hg, hcell⟩ := hc (List.length_pos_iff.2 h0)
    refine .inr ⟨g, 0, rfl, hg, fun j hj c u hu => ?_⟩
    rw [Nat.zero_add]
    exact hcell _ _ (flatS_get xs j hj c u hu)
theorem Try.infoSl : (Try.prog.info? 26).map (fun i => (i.zero, i.size, i.bytes)) = some (some (.agg #[.string ⟨#[]⟩, .string ⟨#[]⟩, .int .i64 0, .slice none 0 0]), 4, 64) := by kernel_rfl
theorem sl_one (x : SlM) : ∀ u ∈ x.cells, u.oneCell' = true := by
  intro u hu
  simp [SlM.cells] at hu
  rcases hu with rfl | rfl | rfl | rfl <;> rfl
end Go.Proofs.Ytmpkbdhihdboiaa
