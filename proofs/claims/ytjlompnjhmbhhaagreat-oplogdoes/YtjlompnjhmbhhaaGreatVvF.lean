/-
  The document's Merge and Meet; With, the document's With.
-/
import Derived.Test.YtjlompnjhmbhhaaGreatVvE
namespace Go.Proofs.YtjlompnjhmbhhaaGreat
open Go.RowKit Go.Maps

theorem join_snoc {f : Int → Int → Int} {a b : List Int} {k : Nat} (hk : k < max a.length b.length) : (joinOf f a b).take (k + 1) = (joinOf f a b).take k ++ [f (a.getD k 0) (b.getD k 0)] := by
  have hl : k < (joinOf f a b).length := by rw [join_len]; exact hk
  rw [List.take_succ_eq_append_getElem hl]
  simp [joinOf]

end Go.Proofs.YtjlompnjhmbhhaaGreat
