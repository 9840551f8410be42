/-
  How an argument of type api.Call is read.
-/
import Derived.Test.YtppllbdoihfcbaaDoorRoD
import Derived.Lib.SmallJoins
namespace Go.Proofs.YtppllbdoihfcbaaDoor
open Go.RowKit Go.ChangeShapes Go.WideShapes Go.Deep

theorem i6_wf {x : Int} (h : (Lit.int .i64 x).wf = true) : I6R x := by
  simp [Lit.wf, IntKind.min, IntKind.max, IntKind.signed, IntKind.bits] at h
  exact ⟨by omega, by omega⟩
theorem arr7 {α : Type} {cs : List α} (h : cs.length = 7) : ∃ c0 c1 c2 c3 c4 c5 c6, cs = [c0, c1, c2, c3, c4, c5, c6] := by
  match cs, h with
  | [c0, c1, c2, c3, c4, c5, c6], _ => exact ⟨c0, c1, c2, c3, c4, c5, c6, rfl⟩
theorem Tryd.cellsCall : Tryd.prog.cellsOf 23 = 7 := by kernel_rfl

set_option maxRecDepth 100000 in
theorem call_of_trod {H : Type} {enc : TypeId × Value → H} {w : World} {base : Nat} {spare : Nat → Bool} {held : Bool} {fuel : Nat} {cs : List Value} {x : DataW H × List MemPlace} (h : DataW.trod enc Tryd.prog w base spare held fuel 23 cs = some x) :
    ∃ o : Cl, cs = o.cells ∧ o.Ok := by
  obtain ⟨xs, n, _, _, hl, hlen, hf⟩ := DataW.trod_struct Tryd.underlying23 h
  rw [Tryd.cellsCall] at hl
  obtain ⟨c0, c1, c2, c3, c4, c5, c6, rfl⟩ := arr7 hl
  obtain ⟨y0, y1, y2, y3, y4, y5, y6, rfl⟩ := arr7 hlen
  have g : ∀ (i : Nat) (f : Field), (#[_, _, _, _, _, _, _] : Array Field)[i]? = some f → _ := hf
  have h0 := g 0 _ rfl
  have h1 := g 1 _ rfl
  have h2 := g 2 _ rfl
  have h3 := g 3 _ rfl
  have h4 := g 4 _ rfl
  have h5 := g 5 _ rfl
  have h6 := g 6 _ rfl
  have k3 : Tryd.prog.cellsOf 3 = 1 := by kernel_rfl
  have k9 : Tryd.prog.cellsOf 9 = 1 := by kernel_rfl
  have k4 : Tryd.prog.cellsOf 4 = 1 := by kernel_rfl
  simp [k3, k9, k4] at h0 h1 h2 h3 h4 h5 h6
  obtain ⟨a0, e0, _, w0⟩ := DataW.trod_int Tryd.underlying3 h0
  obtain ⟨a1, e1, _, w1⟩ := DataW.trod_int Tryd.underlying3 h1
  obtain ⟨s2, e2, _, w2⟩ := DataW.trod_string Tryd.underlying9 h2
  obtain ⟨s3, e3, _, w3⟩ := DataW.trod_string Tryd.underlying9 h3
  obtain ⟨a4, e4, _, w4⟩ := DataW.trod_int Tryd.underlying3 h4
  obtain ⟨b5, e5, _⟩ := DataW.trod_bool Tryd.underlying4 h5
  obtain ⟨s6, e6, _, w6⟩ := DataW.trod_string Tryd.underlying9 h6
  simp at e0 e1 e2 e3 e4 e5 e6
  subst e0 e1 e2 e3 e4 e5 e6
  exact ⟨⟨a0, a1, s2, s3, a4, b5, s6⟩, rfl, i6_wf w1, i6_wf w4, w2, w3, w6⟩

set_option maxRecDepth 100000 in
theorem open_call {H : Type} {enc : TypeId × Value → H} {w : World} {base b0 : Nat} {r : Reach} {spare : Nat → Bool} {held : Bool} {v : Value} {d : DataW H} {p : List MemPlace} (hv : Value.okWide Tryd.prog w r b0 23 v) (h : DataW.Trod enc Tryd.prog w base spare held 23 v d p) :
    ∃ o : Cl, v = .agg o.cells.toArray ∧ o.Ok := by
  obtain ⟨cs, rfl, _⟩ := okWide_struct Tryd.underlying23 hv
  obtain ⟨fuel, hf⟩ := h
  obtain ⟨o, ho, hok⟩ := call_of_trod hf
  refine ⟨o, ?_, hok⟩
  simp [Value.cells] at ho
  rw [← ho]
end Go.Proofs.YtppllbdoihfcbaaDoor
