/-
  Package cart: two.with of an event of that origin.
-/
import Derived.Test.YtfeoolknpcffcaaCartB
namespace Go.Proofs.Ytfeoolknpcffcaa
open Go.RowKit Go.Maps

end Go.Proofs.Ytfeoolknpcffcaa
