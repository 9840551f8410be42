/-
  Package ballot: Slots.
-/
import Derived.Test.YtdceenejijigdaaBalF
import Derived.Test.YtdceenejijigdaaSetM
import Derived.Shelf.Sort.Plain
import Derived.Shelf.Slices.CompactI
import Derived.Sort.OwnSortedInts
import Derived.Shelf.Lay
import Derived.Ground.NamesProg
import Derived.Ground.Names2Prog
namespace Go.Proofs
open Go.Shelf Go.RowKit Go.Lib Go.Sort
shelf_lay Lays.n189 Nm 189 at Try as Ytdceenejijigdaa.sortInts
shelf_lay Lays2.n20 Nm2 20 at Try as Ytdceenejijigdaa.compactInts
end Go.Proofs
namespace Go.Proofs.Ytdceenejijigdaa
open Go.Shelf Go.RowKit Go.Lib Go.Sort

theorem turns_putRow {α : Type} [Inhabited α] (enc : α → Value) (w : World) (q g off : Nat) (d : Array α) : Turns (fun i => i = g) w (putRow enc (Sort.ahead w q) g off d) := by
  refine ⟨rfl, rfl, rfl, by simp [Sort.ahead], fun k _ hne => ?_⟩
  have : g ≠ k := fun e => hne e.symm
  simp [putRow, mapBlock, Sort.ahead, Array.getElem?_modify, this]
theorem sortI_row {w : World} {B g cap : Nat} {zs : List Int} (hown : w.ownsRow B 3 1 (.slice (some ⟨g, 0, none⟩) zs.length cap) zs.length (ints zs)) (hl : zs.length ≤ 17592186044416) :
    Calls Try.prog 32 #[.slice (some ⟨g, 0, none⟩) zs.length cap] w fun e w' => e = .returned (.tuple #[]) ∧ w'.ownsRow B 3 1 (.slice (some ⟨g, 0, none⟩) zs.length cap) zs.length (ints (zs.mergeSort fun x y => decide (x ≤ y))) ∧ Turns (fun i => i = g) w w' := by
  rcases hown.2 with ⟨h0, _⟩ | ⟨g', cap', cur, he, hB, hg, hn, hm, hsz, htk⟩
  · cases h0
  · cases he
    have hH : Holds (Value.int .i64) w g 0 zs.toArray := holds_of_blockI hg (by rw [Nat.mul_one] at htk; exact htk)
    have hcon := Any.slices_Sort_int sortInts g 0 cap zs w hH (Array.getElem?_eq_some_iff.1 hg).1 (by omega)
    change Calls Try.prog 32 _ _ _ at hcon
    refine hcon.mono ?_
    rintro e w' ⟨rfl, n, os, rfl⟩
    have hlen : (zs.mergeSort fun x y => decide (x ≤ y)).length = zs.length := List.length_mergeSort _
    exact ⟨rfl, ownsRow_sortedI hlen hB hg hn hm hsz, Turns.of_grown (grownBy_sortedI _) (fun k hk => by cases hk; rfl)⟩
theorem compactI_row {w : World} {B g cap : Nat} {zs : List Int} (hown : w.ownsRow B 3 1 (.slice (some ⟨g, 0, none⟩) zs.length cap) zs.length (ints zs)) (hl : zs.length ≤ 17592186044416) (hz : ∀ x ∈ zs, -9223372036854775808 ≤ x ∧ x ≤ 9223372036854775807) :
    Calls Try.prog 33 #[.slice (some ⟨g, 0, none⟩) zs.length cap] w fun e w' => e = .returned (.slice (some ⟨g, 0, none⟩) (Lib.compact zs).length cap) ∧ HeldInt w' (some ⟨g, 0, none⟩) (Lib.compact zs) ∧ Turns (fun i => i = g) w w' := by
  rcases hown.2 with ⟨h0, _⟩ | ⟨g', cap', cur, he, hB, hg, hn, hm, hsz, htk⟩
  · cases h0
  · cases he
    have hH : Holds (Value.int .i64) w g 0 zs.toArray := holds_of_blockI hg (by rw [Nat.mul_one] at htk; exact htk)
    have hcon := Any.slices_Compact_int compactInts g 0 cap zs w hH (by omega) hn
    change Calls Try.prog 33 _ _ _ at hcon
    refine hcon.mono ?_
    rintro e w' ⟨rfl, q, rfl⟩
    have hle : (Lib.compact zs).length ≤ zs.length := by
      unfold Lib.compact Lib.compactUpTo
      rw [List.length_map]
      exact Nat.le_trans (List.length_filter_le _ _) (by simp)
    have hsub : ∀ x ∈ Lib.compact zs, x ∈ zs := by
      intro x hx
      unfold Lib.compact Lib.compactUpTo at hx
      obtain ⟨j, hj, rfl⟩ := List.mem_map.1 hx
      have hj' : j < zs.length := by simpa using (List.mem_filter.1 hj).1
      rw [getElem!_pos zs.toArray j (by simpa using hj')]
      simp
    refine ⟨rfl, ⟨fun x hx => hz x (hsub x hx), ?_⟩, turns_putRow _ _ _ _ _ _⟩
    refine .inr ⟨g, 0, rfl, ?_, fun j hj => ?_⟩
    · simp [Sort.ahead]
      exact (Array.getElem?_eq_some_iff.1 hg).1
    · have h0 : Holds (Value.int .i64) (Sort.ahead w q) g 0 zs.toArray := hH
      have := cell?_putRow (Value.int .i64) (Sort.ahead w q) g 0 zs.toArray (Lib.compact zs ++ List.replicate (zs.length - (Lib.compact zs).length) 0).toArray h0 (by simp; omega) j (by simp; omega)
      rw [this, getElem!_pos _ j (by simp; omega)]
      simp [List.getElem_append_left hj, List.getD, List.getElem?_eq_getElem hj]
end Go.Proofs.Ytdceenejijigdaa
