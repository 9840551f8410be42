/-
  How an argument of type pannierlaw03.Op is read.
-/
import Derived.Test.YtjfohnkfcfifeaaRows
import Derived.Test.YtjfohnkfcfifeaaBlk
import Derived.Lib.SmallJoins
namespace Go.Proofs.Ytjfohnkfcfifeaa
open Go.RowKit Go.ChangeShapes Go.WideShapes Go.Deep

/-- Whole numbers of 64 bits. -/
def In64 (x : Int) : Prop := -9223372036854775808 ≤ x ∧ x ≤ 9223372036854775807
theorem in64_wf {x : Int} (h : (Lit.int .i64 x).wf = true) : In64 x := by
  simp [Lit.wf, IntKind.min, IntKind.max, IntKind.signed, IntKind.bits] at h
  exact ⟨by omega, by omega⟩
theorem array6 {α : Type} {cs : List α} (h : cs.length = 6) : ∃ c0 c1 c2 c3 c4 c5, cs = [c0, c1, c2, c3, c4, c5] := by
  match cs, h with
  | [c0, c1, c2, c3, c4, c5], _ => exact ⟨c0, c1, c2, c3, c4, c5, rfl⟩

/-- One Op: its kind, name, other name, where its bytes lie, its number, where what it keeps lies. -/
structure OpV where
  kind : Int
  name : ByteArray
  to : ByteArray
  ba : Option Addr
  bl : Nat
  bc : Nat
  n : Int
  ka : Option Addr
  kl : Nat
  kc : Nat
def OpV.cells (o : OpV) : List Value := [.int .i64 o.kind, .string o.name, .string o.to, .slice o.ba o.bl o.bc, .int .i64 o.n, .slice o.ka o.kl o.kc]
def OpV.Ok (o : OpV) : Prop := In64 o.kind ∧ In64 o.n ∧ o.name.size ≤ maxLen ∧ o.to.size ≤ maxLen

theorem Try.cellsOp : Try.prog.cellsOf 34 = 6 := by kernel_rfl

theorem slice_of_trod {H : Type} {enc : TypeId × Value → H} {w : World} {base : Nat} {spare : Nat → Bool} {held : Bool} {fuel : Nat} {v : Value} {x : DataW H × List MemPlace} {t e : TypeId} (ht : Try.prog.underlying t = some (.slice e)) (h : DataW.trod enc Try.prog w base spare held fuel t [v] = some x) : ∃ a l c, v = .slice a l c := by
  rcases open_slice ht h with ⟨hcs, _⟩ | ⟨a, l, c, m, n, Dd, Pl, hcs, _⟩
  · simp at hcs
    exact ⟨_, _, _, hcs⟩
  · simp at hcs
    exact ⟨_, _, _, hcs⟩

set_option maxRecDepth 100000 in
theorem op_of_trod {H : Type} {enc : TypeId × Value → H} {w : World} {base : Nat} {spare : Nat → Bool} {held : Bool} {fuel : Nat} {cs : List Value} {x : DataW H × List MemPlace} (h : DataW.trod enc Try.prog w base spare held fuel 34 cs = some x) :
    ∃ o : OpV, cs = o.cells ∧ o.Ok := by
  obtain ⟨xs, n, _, _, hl, hlen, hf⟩ := DataW.trod_struct Try.underlying34 h
  rw [Try.cellsOp] at hl
  obtain ⟨c0, c1, c2, c3, c4, c5, rfl⟩ := array6 hl
  obtain ⟨y0, y1, y2, y3, y4, y5, rfl⟩ := array6 hlen
  have g : ∀ (i : Nat) (f : Field), (#[_, _, _, _, _, _] : Array Field)[i]? = some f → _ := hf
  have h0 := g 0 _ rfl
  have h1 := g 1 _ rfl
  have h2 := g 2 _ rfl
  have h3 := g 3 _ rfl
  have h4 := g 4 _ rfl
  have h5 := g 5 _ rfl
  have k3 : Try.prog.cellsOf 3 = 1 := by kernel_rfl
  have k9 : Try.prog.cellsOf 9 = 1 := by kernel_rfl
  have k31 : Try.prog.cellsOf 31 = 1 := by kernel_rfl
  have k32 : Try.prog.cellsOf 32 = 1 := by kernel_rfl
  simp [k3, k9, k31, k32] at h0 h1 h2 h3 h4 h5
  obtain ⟨a0, e0, _, w0⟩ := DataW.trod_int Try.underlying3 h0
  obtain ⟨s1, e1, _, w1⟩ := DataW.trod_string Try.underlying9 h1
  obtain ⟨s2, e2, _, w2⟩ := DataW.trod_string Try.underlying9 h2
  obtain ⟨a3, l3, d3, rfl⟩ := slice_of_trod Try.underlying31 h3
  obtain ⟨a4, e4, _, w4⟩ := DataW.trod_int Try.underlying3 h4
  obtain ⟨a5, l5, d5, rfl⟩ := slice_of_trod Try.underlying32 h5
  simp at e0 e1 e2 e4
  subst e0 e1 e2 e4
  exact ⟨⟨a0, s1, s2, a3, l3, d3, a4, a5, l5, d5⟩, rfl, in64_wf w0, in64_wf w4, w1, w2⟩

set_option maxRecDepth 100000 in
theorem open_op {H : Type} {enc : TypeId × Value → H} {w : World} {base b0 : Nat} {r : Reach} {spare : Nat → Bool} {held : Bool} {v : Value} {d : DataW H} {p : List MemPlace} (hv : Value.okWide Try.prog w r b0 34 v) (h : DataW.Trod enc Try.prog w base spare held 34 v d p) :
    ∃ o : OpV, v = .agg o.cells.toArray ∧ o.Ok := by
  obtain ⟨cs, rfl, _⟩ := okWide_struct Try.underlying34 hv
  obtain ⟨fuel, hf⟩ := h
  obtain ⟨o, ho, hok⟩ := op_of_trod hf
  refine ⟨o, ?_, hok⟩
  simp [Value.cells] at ho
  rw [← ho]
end Go.Proofs.Ytjfohnkfcfifeaa
