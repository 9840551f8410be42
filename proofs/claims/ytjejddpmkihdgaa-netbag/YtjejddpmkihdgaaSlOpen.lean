/-
  How arguments of type []string and []int are read.
-/
import Derived.Test.YtjejddpmkihdgaaRows
import Derived.Test.YtjejddpmkihdgaaBlk
import Derived.SliceStrings
import Derived.ChangeSlices
namespace Go.Proofs.Ytjejddpmkihdgaa
open Go.RowKit Go.ChangeShapes Go.WideShapes

/-- A slice of strings holds ls. -/
def HeldStr (w : World) (ao : Option Addr) (ls : List ByteArray) : Prop :=
  (∀ s ∈ ls, s.size ≤ maxLen) ∧ (ls = [] ∨ ∃ b off, ao = some ⟨b, off, none⟩ ∧ b < w.heap.size ∧ ∀ j, j < ls.length → w.cell? ⟨b, off + j, none⟩ = some (.string (ls.getD j ByteArray.empty)))
/-- A slice of ints holds xs. -/
def HeldInt (w : World) (ao : Option Addr) (xs : List Int) : Prop :=
  (∀ x ∈ xs, -9223372036854775808 ≤ x ∧ x ≤ 9223372036854775807) ∧ (xs = [] ∨ ∃ b off, ao = some ⟨b, off, none⟩ ∧ b < w.heap.size ∧ ∀ j, j < xs.length → w.cell? ⟨b, off + j, none⟩ = some (.int .i64 (xs.getD j 0)))

theorem plain_addr {w : World} {a : Addr} {v : Value} (h : w.cell? (a.add 0) = some v) : ∃ b off, a = ⟨b, off, none⟩ ∧ b < w.heap.size := by
  obtain ⟨b, off, spot⟩ := a
  have hspot : spot = none := by simpa [Addr.add] using World.cell?_spot h
  subst hspot
  have hlt := World.block_lt_of_cell? w _ h
  exact ⟨b, off, rfl, by simpa [Addr.add] using hlt⟩

theorem open_strs {H : Type} {enc : TypeId × Value → H} {w : World} {base : Nat} {held : Bool} {ao : Option Addr} {len cap : Nat} {d : DataW H} {p : List MemPlace} (h : DataW.Trod enc Try.prog w base (fun _ => true) held 77 (.slice ao len cap) d p) :
    ∃ ls, ls.length = len ∧ HeldStr w ao ls ∧ (len = 0 ∨ ∃ es sp, d = .slice es sp ∧ es.length = len) := by
  obtain ⟨fuel, hf⟩ := h
  rcases open_strings Try.underlying77 Try.underlying9 (by kernel_rfl) hf with ⟨hcs, _⟩ | ⟨x, l, c, zs, hcs, _, hl, hm, hz, hx, hcell, hwz⟩
  · simp [Value.cells] at hcs
    obtain ⟨rfl, rfl, rfl⟩ := hcs
    exact ⟨[], rfl, ⟨fun s hs => (by cases hs), .inl rfl⟩, .inl rfl⟩
  · simp [Value.cells] at hcs
    obtain ⟨rfl, rfl, rfl⟩ := hcs
    have hz' : zs.length = cap := by simpa using hz
    refine ⟨zs.take len, by simp; omega, ⟨fun s hs => hwz s (List.mem_of_mem_take hs), ?_⟩, ?_⟩
    · by_cases h0 : len = 0
      · left
        simp [h0]
      · right
        obtain ⟨b, off, rfl, hb⟩ := plain_addr (hcell 0 (by omega))
        refine ⟨b, off, rfl, hb, fun j hj => ?_⟩
        simp at hj
        have := hcell j (by omega)
        rw [Addr.add_lit] at this
        rw [this]
        simp [List.getD, List.getElem?_take_of_lt (show j < len by omega)]
    · simp only [Prod.mk.injEq] at hx
      right
      exact ⟨_, _, hx.1, by simp [strs]; omega⟩

theorem open_nums {H : Type} {enc : TypeId × Value → H} {w : World} {base : Nat} {held : Bool} {ao : Option Addr} {len cap : Nat} {d : DataW H} {p : List MemPlace} (h : DataW.Trod enc Try.prog w base (fun _ => true) held 78 (.slice ao len cap) d p) :
    ∃ xs, xs.length = len ∧ HeldInt w ao xs ∧ (len = 0 ∨ ∃ es sp, d = .slice es sp ∧ es.length = len) := by
  obtain ⟨fuel, hf⟩ := h
  rcases open_ints Try.underlying78 Try.underlying3 (by kernel_rfl) hf with ⟨hcs, _⟩ | ⟨x, l, c, zs, hcs, _, hl, hm, hz, hx, hcell, hwz⟩
  · simp [Value.cells] at hcs
    obtain ⟨rfl, rfl, rfl⟩ := hcs
    exact ⟨[], rfl, ⟨fun s hs => (by cases hs), .inl rfl⟩, .inl rfl⟩
  · simp [Value.cells] at hcs
    obtain ⟨rfl, rfl, rfl⟩ := hcs
    have hz' : zs.length = cap := by simpa using hz
    refine ⟨zs.take len, by simp; omega, ⟨fun s hs => ?_, ?_⟩, ?_⟩
    · have := hwz s (List.mem_of_mem_take hs)
      simp [Lit.wf, IntKind.min, IntKind.max, IntKind.signed, IntKind.bits] at this
      omega
    · by_cases h0 : len = 0
      · left
        simp [h0]
      · right
        obtain ⟨b, off, rfl, hb⟩ := plain_addr (hcell 0 (by omega))
        refine ⟨b, off, rfl, hb, fun j hj => ?_⟩
        simp at hj
        have := hcell j (by omega)
        rw [Addr.add_lit] at this
        rw [this]
        simp [List.getD, List.getElem?_take_of_lt (show j < len by omega)]
    · simp only [Prod.mk.injEq] at hx
      right
      exact ⟨_, _, hx.1, by simp [lits]; omega⟩
end Go.Proofs.Ytjejddpmkihdgaa
