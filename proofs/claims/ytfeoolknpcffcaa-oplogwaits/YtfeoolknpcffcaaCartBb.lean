/-
  Package cart: two.with of an event of another origin.
-/
import Derived.Test.YtfeoolknpcffcaaCartB
namespace Go.Proofs.Ytfeoolknpcffcaa
open Go.RowKit Go.Maps

end Go.Proofs.Ytfeoolknpcffcaa
