/-
  What the second form's bound gives of a slice of strings that was read, and how such an argument is opened. Over any data.
-/
import Derived.Test.YtmokelmeihmeiaaBulk
import Derived.Test.YtmokelmeihmeiaaListsA
import Derived.SliceStrings
namespace Go.Proofs.Ytmokelmeihmeiaa
open Go.RowKit Go.ChangeShapes

theorem heldS_row {w : World} {x : Addr} {len cap : Nat} {ss : List ByteArray} (hl : len ≤ cap) (hm : cap ≤ maxLen) (hz : ss.length = cap) (hcell : ∀ i, i < ss.length → w.cell? (x.add i) = some (.string (ss.getD i ByteArray.empty))) : HeldS w (some x) len cap (ss.take len) := by
  refine ⟨by simp; omega, hl, hm, fun ad ha j hj => ?_, fun _ => ⟨_, rfl⟩⟩
  obtain rfl := Option.some.inj ha
  rw [hcell j (by omega)]
  simp [List.getD, List.getElem?_take_of_lt hj]
theorem heldS_nil (w : World) : HeldS w none 0 0 [] := ⟨rfl, Nat.le_refl _, Nat.zero_le _, fun ad h => (by cases h), fun h => (by omega)⟩

theorem encAll_bulk {H : Type} : ∀ ls : List ByteArray, Rows.uptoBulkAll (strs (H := H) ls) ≤ 1048576 → (encAll ls).length ≤ 10 * Rows.uptoBulkAll (strs (H := H) ls)
  | [], _ => by simp [encAll]
  | s :: r, h => by
    have e : Rows.uptoBulkAll (strs (H := H) (s :: r)) = s.size + 1 + Rows.uptoBulkAll (strs (H := H) r) := by
      simp [strs, Rows.uptoBulkAll, Rows.uptoBulk]
    rw [e] at h ⊢
    have ih := encAll_bulk (H := H) r (by omega)
    have h10 := enc_le10 (x := s.size) (by omega)
    have hl := encText_len s
    show (encText s ++ encAll r).length ≤ _
    rw [List.length_append]
    omega
theorem bulk_strs {H : Type} {ls rest : List ByteArray} {l : List (DataW H)} (hk : Rows.uptoBulkAll l ≤ 1048576) (h : DataW.slice (strs ls) (strs rest) ∈ l) : (encAll ls).length ≤ 100000000 ∧ ls.length ≤ 1048576 := by
  have h1 := bulk_mem h
  simp only [Rows.uptoBulk] at h1
  have h2 := encAll_bulk (H := H) ls (by omega)
  have h3 := bulk_len (strs (H := H) ls)
  simp only [strs, List.length_map] at h3
  simp only [strs] at h1 h2
  exact ⟨by omega, by omega⟩
end Go.Proofs.Ytmokelmeihmeiaa
