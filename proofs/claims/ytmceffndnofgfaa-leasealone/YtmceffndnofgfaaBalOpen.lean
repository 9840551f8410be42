/-
  How an argument of type api.Ballot is read.
-/
import Derived.Test.YtmceffndnofgfaaRows
import Derived.Test.YtmceffndnofgfaaBlk
import Derived.Lib.SmallJoins
namespace Go.Proofs.Ytmceffndnofgfaa
open Go.RowKit Go.ChangeShapes Go.WideShapes Go.Deep

/-- Whole numbers of 64 bits. -/
def In64B (x : Int) : Prop := -9223372036854775808 ≤ x ∧ x ≤ 9223372036854775807
theorem in64B_wf {x : Int} (h : (Lit.int .i64 x).wf = true) : In64B x := by
  simp [Lit.wf, IntKind.min, IntKind.max, IntKind.signed, IntKind.bits] at h
  exact ⟨by omega, by omega⟩
theorem arr2B {α : Type} {cs : List α} (h : cs.length = 2) : ∃ c0 c1, cs = [c0, c1] := by
  match cs, h with
  | [c0, c1], _ => exact ⟨c0, c1, rfl⟩
theorem Try.cellsBal : Try.prog.cellsOf 38 = 2 := by kernel_rfl

set_option maxRecDepth 100000 in
theorem bal_of_trod {H : Type} {enc : TypeId × Value → H} {w : World} {base : Nat} {spare : Nat → Bool} {held : Bool} {fuel : Nat} {cs : List Value} {x : DataW H × List MemPlace} (h : DataW.trod enc Try.prog w base spare held fuel 38 cs = some x) :
    ∃ o s : Int, cs = [.int .i64 o, .int .i64 s] ∧ In64B o ∧ In64B s := by
  obtain ⟨xs, n, _, _, hl, hlen, hf⟩ := DataW.trod_struct Try.underlying38 h
  rw [Try.cellsBal] at hl
  obtain ⟨c0, c1, rfl⟩ := arr2B hl
  obtain ⟨y0, y1, rfl⟩ := arr2B hlen
  have g : ∀ (i : Nat) (f : Field), (#[_, _] : Array Field)[i]? = some f → _ := hf
  have h0 := g 0 _ rfl
  have h1 := g 1 _ rfl
  have k3 : Try.prog.cellsOf 3 = 1 := by kernel_rfl
  simp [k3] at h0 h1
  obtain ⟨a0, e0, _, w0⟩ := DataW.trod_int Try.underlying3 h0
  obtain ⟨a1, e1, _, w1⟩ := DataW.trod_int Try.underlying3 h1
  simp at e0 e1
  subst e0 e1
  exact ⟨a0, a1, rfl, in64B_wf w0, in64B_wf w1⟩
set_option maxRecDepth 100000 in
theorem open_bal {H : Type} {enc : TypeId × Value → H} {w : World} {base b0 : Nat} {r : Reach} {spare : Nat → Bool} {held : Bool} {v : Value} {d : DataW H} {p : List MemPlace} (hv : Value.okWide Try.prog w r b0 38 v) (h : DataW.Trod enc Try.prog w base spare held 38 v d p) :
    ∃ o s : Int, v = .agg #[.int .i64 o, .int .i64 s] ∧ In64B o ∧ In64B s := by
  obtain ⟨cs, rfl, _⟩ := okWide_struct Try.underlying38 hv
  obtain ⟨fuel, hf⟩ := h
  obtain ⟨o, s, ho, h1, h2⟩ := bal_of_trod hf
  refine ⟨o, s, ?_, h1, h2⟩
  simp [Value.cells] at ho
  rw [show cs = #[.int .i64 o, .int .i64 s] from Array.ext' ho]
end Go.Proofs.Ytmceffndnofgfaa
