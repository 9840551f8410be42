/-
  The law's SameEvent and right: has each dot one event, with a Qty that may be?
-/
import Derived.Test.YtkgfpnmifgifpaaCartA
import Derived.Deep.RegionHeld3
import Derived.Deep.QuietTactic
import Derived.BigQuiet
namespace Go.Proofs.Ytkgfpnmifgifpaa
open Go.RowKit Go.Maps

/-- Has each dot one event, with a Qty that may be? -/
def RightL (l : List Ev) : Prop := (∀ e ∈ l, 0 ≤ e.qty ∧ e.qty ≤ 1000) ∧ OneEach l
def RightTo (xs : List EvM) (i : Nat) : Prop := ∀ a (ha : a < xs.length), a < i → (0 ≤ xs[a].e.qty ∧ xs[a].e.qty ≤ 1000) ∧ ∀ b (hb : b < xs.length), b < a → xs[b].e.o = xs[a].e.o → xs[b].e.s = xs[a].e.s → xs[b].e = xs[a].e
theorem right_all {xs : List EvM} {n : Nat} (hn : xs.length ≤ n) (h : RightTo xs n) : RightL (xs.map (·.e)) := by
  refine ⟨fun e he => ?_, fun e he f hf h1 h2 => ?_⟩
  · obtain ⟨x, hx, rfl⟩ := List.mem_map.1 he
    obtain ⟨a, ha, rfl⟩ := List.mem_iff_getElem.1 hx
    exact (h a ha (by omega)).1
  · obtain ⟨x, hx, rfl⟩ := List.mem_map.1 he
    obtain ⟨a, ha, rfl⟩ := List.mem_iff_getElem.1 hx
    obtain ⟨y, hy, rfl⟩ := List.mem_map.1 hf
    obtain ⟨b, hb, rfl⟩ := List.mem_iff_getElem.1 hy
    rcases Nat.lt_trichotomy a b with hlt | rfl | hlt
    · exact (h b hb (by omega)).2 a ha hlt h1 h2
    · rfl
    · exact ((h a ha (by omega)).2 b hb hlt h1.symm h2.symm).symm
theorem mem_e {xs : List EvM} {a : Nat} (ha : a < xs.length) : xs[a].e ∈ xs.map (·.e) := List.mem_map.2 ⟨_, List.getElem_mem ha, rfl⟩
/-- What right leaves. -/
def RightP (w : World) (l : List Ev) (e : Ending) (w' : World) : Prop := (∃ r, e = .returned (.bool r) ∧ (r = true ↔ RightL l)) ∧ Below w.heap.size w w'
end Go.Proofs.Ytkgfpnmifgifpaa
