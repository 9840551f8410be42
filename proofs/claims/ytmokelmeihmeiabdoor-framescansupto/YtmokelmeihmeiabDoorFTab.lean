/-
  What the rows' list gives: the table of remainders lies in block 0 as 'Tab' says; and a world for the witness in which it does.
-/
import Derived.Test.YtmokelmeihmeiabDoorCards
import Derived.Test.YtmokelmeihmeiabDoorTie
import Derived.Test.YtmokelmeihmeiabDoorFSum
import Derived.WalkKit
import Derived.ProofKit
import Derived.OpenShut
import Derived.Lib.LaidTab
namespace Go.Proofs.YtmokelmeihmeiabDoor
open Go.ChangeShapes Go.WideShapes Go.ChangeAt Go.RowKit

theorem gTab : Tryd.prog.globalNamed "pannier/frame.remainders" = some 0 := by kernel_rfl
theorem gTabType : (Tryd.prog.globals[0]?).map (·.type) = some 48 := by kernel_rfl
theorem cellsTab : Tryd.prog.cellsOf 48 = 16 := by kernel_rfl
theorem cellsU32 : Tryd.prog.cellsOf 27 = 1 := by kernel_rfl

theorem table {W : World} (h : laidMetH Tryd.prog [("pannier/frame.remainders", Rows.laid_pannier_frame_remainders)] W) :
    Lib.TabIs Tryd.prog W "pannier/frame.remainders" .u32 [0, 274646895, 549293790, 820201905, 1098587580, 1361435347, 1640403810, 1905808397, 2197175160, 2460548119, 2722870694, 2987750089, 3280807620, 3553878443, 3811616794, 4084100981] :=
  Lib.tabIs_of_head (rest := []) gTab gTabType Tryd.underlying48 Tryd.underlying27 cellsU32 cellsTab h

theorem tab_of_laid {W : World} (h : laidMetH Tryd.prog [("pannier/frame.remainders", Rows.laid_pannier_frame_remainders)] W) : Tab W := by
  have hT := table h
  have hc : ∀ i, i < 16 → W.cell? ⟨0, i, none⟩ = some (.int .u32 (tab i)) := by
    intro i hi
    have := hT.cell gTab i hi
    rw [this]
    have e : ∀ i, i < 16 → List.getD ([0, 274646895, 549293790, 820201905, 1098587580, 1361435347, 1640403810, 1905808397, 2197175160, 2460548119, 2722870694, 2987750089, 3280807620, 3553878443, 3811616794, 4084100981] : List Int) i 0 = (tab i : Int) := by decide
    rw [e i hi]
  exact ⟨World.block_lt_of_cell? W _ (hc 0 (by decide)), hc⟩

/-- A world for the witness. -/
noncomputable def laidWorld (os : Os) : World :=
  { World.holding Tryd.prog os ⟨#[], #[], []⟩ with heap := (World.holding Tryd.prog os ⟨#[], #[], []⟩).heap.modify 0 fun
      | .cells _ t frozen => .cells #[.int .u32 0, .int .u32 274646895, .int .u32 549293790, .int .u32 820201905, .int .u32 1098587580, .int .u32 1361435347, .int .u32 1640403810, .int .u32 1905808397, .int .u32 2197175160, .int .u32 2460548119, .int .u32 2722870694, .int .u32 2987750089, .int .u32 3280807620, .int .u32 3553878443, .int .u32 3811616794, .int .u32 4084100981] t frozen
      | o => o }
end Go.Proofs.YtmokelmeihmeiabDoor
