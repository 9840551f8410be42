/-
  How an argument of type api.Event is read.
-/
import Derived.Test.YtmpkbdhihdboiaaEvMay
import Derived.Test.YtmpkbdhihdboiaaVoOpen
import Derived.Test.YtmpkbdhihdboiaaCuO
namespace Go.Proofs.Ytmpkbdhihdboiaa
open Go.RowKit Go.Maps Go.ChangeShapes Go.WideShapes Go.Deep

set_option maxRecDepth 100000 in
theorem open_evk {H : Type} {enc : TypeId × Value → H} {w : World} {base b0 : Nat} {r : Reach} {held : Bool} {v : Value} {d : DataW H} {p : List MemPlace} (hv : Value.okWide Try.prog w r b0 36 v) (h : DataW.Trod enc Try.prog w base (fun _ => true) held 36 v d p) (hw : ∀ n ∈ d.weights Try.prog 36, n ≤ reachBytes) :
    ∃ o : EvM, v = o.val ∧ EvOk w o := by
  obtain ⟨cs, rfl, _⟩ := okWide_struct Try.underlying36 hv
  obtain ⟨fuel, hf⟩ := h
  obtain ⟨o, ho, hok⟩ := ev_sized hf hw
  refine ⟨o, ?_, hok⟩
  simp [Value.cells] at ho
  have e : cs = o.cells.toArray := Array.ext' ho
  rw [e]
  rfl
end Go.Proofs.Ytmpkbdhihdboiaa
