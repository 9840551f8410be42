/-
  pannierlaw08.lives is true of this program.
-/
import Derived.Test.YtjlompnjhmbhhaaGreatVvG
namespace Go.Proofs.YtjlompnjhmbhhaaGreat
open Go.RowKit Go.Maps

theorem hv_new (w : World) (xs : List Int) (hx : ∀ x ∈ xs, -9223372036854775808 ≤ x ∧ x ≤ 9223372036854775807) (hl : xs.length ≤ 17592186044416) : HV (w.alloc (.cells (ints xs).toArray 3)) (some ⟨w.heap.size, 0, none⟩) xs.length xs := ⟨HeldInt.new w xs hx, Nat.le_refl _, hl⟩
theorem lv_merge : mergeOf [1, 0, 2] [0, 3] = [1, 3, 2] := by decide
theorem lv_cmp : cmpOf [1, 0, 2] [0, 3] = 2 := by decide
theorem lv_has1 : decide (HasV [1, 3, 2] 1 3) = true := by decide
theorem lv_has2 : decide (HasV [1, 3, 2] 1 4) = false := by decide

end Go.Proofs.YtjlompnjhmbhhaaGreat
