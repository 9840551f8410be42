/-
  Package cart: two.with of an event of that origin.
-/
import Derived.Test.YtcammngbhnhjjaaCartB
namespace Go.Proofs.Ytcammngbhnhjjaa
open Go.RowKit Go.Maps

end Go.Proofs.Ytcammngbhnhjjaa
