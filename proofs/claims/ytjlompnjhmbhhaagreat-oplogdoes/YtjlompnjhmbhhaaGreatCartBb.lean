/-
  Package cart: two.with of an event of another origin.
-/
import Derived.Test.YtjlompnjhmbhhaaGreatCartB
namespace Go.Proofs.YtjlompnjhmbhhaaGreat
open Go.RowKit Go.Maps

end Go.Proofs.YtjlompnjhmbhhaaGreat
