/-
  Slices of strings that were read: how such an argument is opened, and what the second form's bound gives of their frames. Over any data.
-/
import Derived.Test.YtmokelmeihmeiabDoorBulk
import Derived.Test.YtmokelmeihmeiabDoorFJoin
import Derived.SliceStrings
namespace Go.Proofs.YtmokelmeihmeiabDoor
open Go.RowKit Go.ChangeShapes

theorem heldS_row {w : World} {x : Addr} {len cap : Nat} {ss : List ByteArray} (hl : len ≤ cap) (hm : cap ≤ maxLen) (hz : ss.length = cap) (hcell : ∀ i, i < ss.length → w.cell? (x.add i) = some (.string (ss.getD i ByteArray.empty))) : HeldS w (some x) len cap (ss.take len) := by
  refine ⟨by simp; omega, hl, hm, fun ad ha j hj => ?_, fun _ => ⟨_, rfl⟩⟩
  obtain rfl := Option.some.inj ha
  rw [hcell j (by omega)]
  simp [List.getD, List.getElem?_take_of_lt hj]
theorem heldS_nil (w : World) : HeldS w none 0 0 [] := ⟨rfl, Nat.le_refl _, Nat.zero_le _, fun ad h => (by cases h), fun h => (by omega)⟩
theorem HeldS.take {w : World} {ao : Option Addr} {len cap n : Nat} {ls : List ByteArray} (h : HeldS w ao len cap ls) (hn : n ≤ len) : HeldS w ao n cap (ls.take n) := by
  refine ⟨by simp [h.hlen]; omega, Nat.le_trans hn h.hcap, h.hmax, fun ad ha j hj => ?_, fun hp => h.hsome (by omega)⟩
  rw [h.cell ad ha j (by omega)]
  simp [List.getD, List.getElem?_take_of_lt hj]

theorem frames_bulk {H : Type} : ∀ ls : List ByteArray, (framesOf ls).length ≤ 10 * Rows.uptoBulkAll (strs (H := H) ls)
  | [] => by simp [framesOf]
  | s :: r => by
    have e : Rows.uptoBulkAll (strs (H := H) (s :: r)) = s.size + 1 + Rows.uptoBulkAll (strs (H := H) r) := by
      simp [strs, Rows.uptoBulkAll, Rows.uptoBulk]
    rw [e, framesOf_cons]
    have ih := frames_bulk (H := H) r
    simp only [List.length_append, frameOf_len, strNums_len]
    omega
theorem bulk_strs {H : Type} {ls rest : List ByteArray} {l : List (DataW H)} (hk : Rows.uptoBulkAll l ≤ 1048576) (h : DataW.slice (strs ls) (strs rest) ∈ l) : (framesOf ls).length ≤ 100000000 ∧ ls.length ≤ 1048576 := by
  have h1 := bulk_mem h
  simp only [Rows.uptoBulk] at h1
  have h2 := frames_bulk (H := H) ls
  have h3 := bulk_len (strs (H := H) ls)
  simp only [strs, List.length_map] at h3
  simp only [strs] at h1 h2
  exact ⟨by omega, by omega⟩
end Go.Proofs.YtmokelmeihmeiabDoor
