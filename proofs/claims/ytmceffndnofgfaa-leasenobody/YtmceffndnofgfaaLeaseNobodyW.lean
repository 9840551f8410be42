/-
  pannierlaw21.LeaseNobody answers true at every input.
-/
import Derived.Test.YtmceffndnofgfaaLeD
import Derived.Test.YtmceffndnofgfaaLeOpen
namespace Go.Proofs.Ytmceffndnofgfaa
open Go.RowKit Go.Maps
theorem leaseNobody_op (o : OpV) (w : World) (_ : o.Ok) : Calls Try.prog 5 #[.agg o.cells.toArray] w fun e w' => e = .returned (.bool true) ∧ Below w.heap.size w w' := leaseNobody_walk o.kind o.node o.n o.b1 o.b2 w
end Go.Proofs.Ytmceffndnofgfaa
