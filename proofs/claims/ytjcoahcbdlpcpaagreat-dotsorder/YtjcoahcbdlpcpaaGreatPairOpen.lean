/-
  How an argument of type api.Dot is read.
-/
import Derived.Test.YtjcoahcbdlpcpaaGreatRows
import Derived.Test.YtjcoahcbdlpcpaaGreatDotKey
import Derived.Lib.SmallJoins
namespace Go.Proofs.YtjcoahcbdlpcpaaGreat
open Go.RowKit Go.ChangeShapes Go.WideShapes Go.Deep

/-- Whole numbers of 64 bits. -/
def In64 (x : Int) : Prop := -9223372036854775808 ≤ x ∧ x ≤ 9223372036854775807
theorem in64_wf {x : Int} (h : (Lit.int .i64 x).wf = true) : In64 x := by
  simp [Lit.wf, IntKind.min, IntKind.max, IntKind.signed, IntKind.bits] at h
  exact ⟨by omega, by omega⟩
theorem array2 {α : Type} {cs : List α} (h : cs.length = 2) : ∃ c0 c1, cs = [c0, c1] := by
  match cs, h with
  | [c0, c1], _ => exact ⟨c0, c1, rfl⟩
theorem Tryz.cellsDot : Tryz.prog.cellsOf 31 = 2 := by kernel_rfl

set_option maxRecDepth 100000 in
theorem dot_of_trod {H : Type} {enc : TypeId × Value → H} {w : World} {base : Nat} {spare : Nat → Bool} {held : Bool} {fuel : Nat} {cs : List Value} {x : DataW H × List MemPlace} (h : DataW.trod enc Tryz.prog w base spare held fuel 31 cs = some x) :
    ∃ o s : Int, cs = [.int .i64 o, .int .i64 s] ∧ In64 o ∧ In64 s := by
  obtain ⟨xs, n, _, _, hl, hlen, hf⟩ := DataW.trod_struct Tryz.underlying31 h
  rw [Tryz.cellsDot] at hl
  obtain ⟨c0, c1, rfl⟩ := array2 hl
  obtain ⟨y0, y1, rfl⟩ := array2 hlen
  have g : ∀ (i : Nat) (f : Field), (#[_, _] : Array Field)[i]? = some f → _ := hf
  have h0 := g 0 _ rfl
  have h1 := g 1 _ rfl
  have k3 : Tryz.prog.cellsOf 3 = 1 := by kernel_rfl
  simp [k3] at h0 h1
  obtain ⟨a0, e0, _, w0⟩ := DataW.trod_int Tryz.underlying3 h0
  obtain ⟨a1, e1, _, w1⟩ := DataW.trod_int Tryz.underlying3 h1
  simp at e0 e1
  subst e0 e1
  exact ⟨a0, a1, rfl, in64_wf w0, in64_wf w1⟩
set_option maxRecDepth 100000 in
theorem open_dot {H : Type} {enc : TypeId × Value → H} {w : World} {base b0 : Nat} {r : Reach} {spare : Nat → Bool} {held : Bool} {v : Value} {d : DataW H} {p : List MemPlace} (hv : Value.okWide Tryz.prog w r b0 31 v) (h : DataW.Trod enc Tryz.prog w base spare held 31 v d p) :
    ∃ o s : Int, v = .agg #[.int .i64 o, .int .i64 s] ∧ In64 o ∧ In64 s := by
  obtain ⟨cs, rfl, _⟩ := okWide_struct Tryz.underlying31 hv
  obtain ⟨fuel, hf⟩ := h
  obtain ⟨o, s, ho, h1, h2⟩ := dot_of_trod hf
  refine ⟨o, s, ?_, h1, h2⟩
  simp [Value.cells] at ho
  rw [show cs = #[.int .i64 o, .int .i64 s] from Array.ext' ho]
end Go.Proofs.YtjcoahcbdlpcpaaGreat
/-
  How an argument of type []pannierref09.Pair is read.
-/
namespace Go.Proofs.YtjcoahcbdlpcpaaGreat
open Go.RowKit Go.ChangeShapes Go.WideShapes Go.Deep

theorem array3 {α : Type} {cs : List α} (h : cs.length = 3) : ∃ c0 c1 c2, cs = [c0, c1, c2] := by
  match cs, h with
  | [c0, c1, c2], _ => exact ⟨c0, c1, c2, rfl⟩
/-- One Pair. -/
structure PairV where
  o : Int
  s : Int
  t : ByteArray
def PairV.cells (x : PairV) : List Value := [.int .i64 x.o, .int .i64 x.s, .string x.t]
def PairV.Ok (x : PairV) : Prop := In64 x.o ∧ In64 x.s ∧ x.t.size ≤ maxLen
instance : Inhabited PairV := ⟨⟨0, 0, ByteArray.empty⟩⟩
theorem Tryz.cellsPair : Tryz.prog.cellsOf 33 = 3 := by kernel_rfl
set_option maxRecDepth 100000 in
theorem pair_of_trod {H : Type} {enc : TypeId × Value → H} {w : World} {base : Nat} {spare : Nat → Bool} {held : Bool} {fuel : Nat} {cs : List Value} {x : DataW H × List MemPlace} (h : DataW.trod enc Tryz.prog w base spare held fuel 33 cs = some x) :
    ∃ o : PairV, cs = o.cells ∧ o.Ok := by
  obtain ⟨xs, n, _, _, hl, hlen, hf⟩ := DataW.trod_struct Tryz.underlying33 h
  rw [Tryz.cellsPair] at hl
  obtain ⟨c0, c1, c2, rfl⟩ := array3 hl
  obtain ⟨y0, y1, rfl⟩ := array2 hlen
  have g : ∀ (i : Nat) (f : Field), (#[_, _] : Array Field)[i]? = some f → _ := hf
  have h0 := g 0 _ rfl
  have h1 := g 1 _ rfl
  have k2 : Tryz.prog.cellsOf 31 = 2 := by kernel_rfl
  have k9 : Tryz.prog.cellsOf 9 = 1 := by kernel_rfl
  simp [k2, k9] at h0 h1
  obtain ⟨a0, a1, e0, w0, w1⟩ := dot_of_trod h0
  obtain ⟨s, e4, _, w4⟩ := DataW.trod_string Tryz.underlying9 h1
  simp at e0 e4
  obtain ⟨rfl, rfl⟩ := e0
  subst e4
  exact ⟨⟨a0, a1, s⟩, rfl, w0, w1, w4⟩
/-- A slice of Pairs holds os. -/
def HeldPr (w : World) (ao : Option Addr) (os : List PairV) : Prop :=
  (∀ o ∈ os, o.Ok) ∧ (os = [] ∨ ∃ b off, ao = some ⟨b, off, none⟩ ∧ b < w.heap.size ∧ ∀ j (hj : j < os.length) c u, os[j].cells[c]? = some u → w.cell? ⟨b, off + j * 3 + c, none⟩ = some u)
theorem HeldPr.below {w w' : World} {ao : Option Addr} {os : List PairV} (h : HeldPr w ao os) (hb : Below w.heap.size w w') : HeldPr w' ao os := by
  refine ⟨h.1, ?_⟩
  rcases h.2 with h0 | ⟨b, off, h1, h2, h3⟩
  · exact .inl h0
  · exact .inr ⟨b, off, h1, Nat.lt_of_lt_of_le h2 hb.size, fun j hj c u hu => (hb.cell (p := ⟨b, off + j * 3 + c, none⟩) h2).trans (h3 j hj c u hu)⟩
theorem HeldPr.at {w : World} {ao : Option Addr} {os : List PairV} (h : HeldPr w ao os) {j : Nat} (hj : j < os.length) : ∃ b off, ao = some ⟨b, off, none⟩ ∧ w.cell? ⟨b, off + j * 3, none⟩ = some (.int .i64 os[j].o) ∧ w.cell? ⟨b, off + j * 3 + 1, none⟩ = some (.int .i64 os[j].s) ∧ w.cell? ⟨b, off + j * 3 + 2, none⟩ = some (.string os[j].t) := by
  rcases h.2 with h0 | ⟨b, off, h1, h2, h3⟩
  · subst h0
    cases hj
  · exact ⟨b, off, h1, h3 j hj 0 _ rfl, h3 j hj 1 _ rfl, h3 j hj 2 _ rfl⟩
set_option maxRecDepth 100000 in
theorem open_pairs {H : Type} {enc : TypeId × Value → H} {w : World} {base : Nat} {spare : Nat → Bool} {held : Bool} {ao : Option Addr} {len cap : Nat} {d : DataW H} {p : List MemPlace} (h : DataW.Trod enc Tryz.prog w base spare held 22 (.slice ao len cap) d p) :
    ∃ os, os.length = len ∧ HeldPr w ao os ∧ (len = 0 ∨ ∃ es sp, d = .slice es sp ∧ es.length = len) := by
  obtain ⟨fuel, hf⟩ := h
  rcases open_slice Tryz.underlying22 hf with ⟨hcs, hx⟩ | ⟨a, l, c, m, n, Dd, Pl, hcs, _, hl, hm, hmm, hx, hall⟩
  · simp [Value.cells] at hcs
    obtain ⟨rfl, rfl, rfl⟩ := hcs
    exact ⟨[], rfl, ⟨fun o ho => (by cases ho), .inl rfl⟩, .inl rfl⟩
  · simp [Value.cells] at hcs
    obtain ⟨rfl, rfl, rfl⟩ := hcs
    rw [Tryz.cellsPair] at hall
    have hlm : len ≤ m := by rw [hmm]; split <;> omega
    obtain ⟨O, hO⟩ := choose_lt (α := PairV) (n := len) (p := fun i o => o.Ok ∧ w.cells? base (a.add (i * 3)) 3 = some o.cells) (fun i hi => by
      obtain ⟨cs', h1, h2⟩ := hall i (by omega)
      obtain ⟨o, rfl, hok⟩ := pair_of_trod h2
      exact ⟨o, hok, h1⟩)
    refine ⟨(List.range len).map O, by simp, ⟨fun o ho => ?_, ?_⟩, .inr ?_⟩
    · obtain ⟨i, hi, rfl⟩ := List.mem_map.1 ho
      exact (hO i (List.mem_range.1 hi)).1
    · by_cases h0 : len = 0
      · left
        simp [h0]
      · right
        have hc0 : ∀ i, i < len → ∀ c u, (O i).cells[c]? = some u → w.cell? (a.add (i * 3 + c)) = some u := by
          intro i hi c u hu
          have hc := (World.cells?_some (hO i hi).2).2.2 c (by have := (List.getElem?_eq_some_iff.1 hu).1; simpa [PairV.cells] using this)
          rw [add_add] at hc
          rw [hc, hu]
        obtain ⟨b, off, spot⟩ := a
        have hz := hc0 0 (by omega) 0 _ rfl
        have hspot : spot = none := by simpa [Addr.add] using World.cell?_spot hz
        subst hspot
        have hlt := World.block_lt_of_cell? w _ hz
        refine ⟨b, off, rfl, by simpa [Addr.add] using hlt, fun j hj c u hu => ?_⟩
        have hj' : j < len := by simpa using hj
        have := hc0 j hj' c u (by simpa using hu)
        rwa [Addr.add_lit, ← Nat.add_assoc] at this
    · simp only [Prod.mk.injEq] at hx
      exact ⟨_, _, hx.1, by simp⟩
end Go.Proofs.YtjcoahcbdlpcpaaGreat
