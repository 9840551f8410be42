/-
  Rows of ints that a call owns: how they are read and what one more makes of them; where frames end. Over any program.
-/
import Derived.Test.YtmokelmeihmeiacDoorFApps
namespace Go.Proofs.YtmokelmeihmeiacDoor
open Go.RowKit

theorem Tryd.infoI : (Tryd.prog.info? 3).map (fun i => (i.zero, i.size, i.bytes)) = some (some (.int .i64 0), 1, 8) := by kernel_rfl

/-- Where the first k frames end, one by one. -/
def endsV (ls : List ByteArray) (k : Nat) : List Value := (List.range k).map fun j => Value.int .i64 ((framesOf (ls.take (j + 1))).length : Int)
/-- Where the first k frames begin. -/
def beginsV (ls : List ByteArray) (k : Nat) : List Value := (List.range k).map fun j => Value.int .i64 ((framesOf (ls.take j)).length : Int)
theorem endsV_succ (ls : List ByteArray) (k : Nat) : endsV ls (k + 1) = endsV ls k ++ [.int .i64 ((framesOf (ls.take (k + 1))).length : Int)] := by simp [endsV, List.range_succ]
theorem beginsV_succ (ls : List ByteArray) (k : Nat) : beginsV ls (k + 1) = beginsV ls k ++ [.int .i64 ((framesOf (ls.take k)).length : Int)] := by simp [beginsV, List.range_succ]
theorem endsV_get {ls : List ByteArray} {k j : Nat} (h : j < k) : (endsV ls k)[j]? = some (.int .i64 ((framesOf (ls.take (j + 1))).length : Int)) := by simp [endsV, h]
theorem beginsV_get {ls : List ByteArray} {k j : Nat} (h : j < k) : (beginsV ls k)[j]? = some (.int .i64 ((framesOf (ls.take j)).length : Int)) := by simp [beginsV, h]

theorem own_at {w : World} {B e n : Nat} {v : Value} {xs : List Value} (h : w.ownsRow B e 1 v n xs) (hp : 0 < n) :
    ∃ g cap, v = .slice (some ⟨g, 0, none⟩) n cap ∧ B ≤ g ∧ g < w.heap.size ∧ ∀ j u, xs[j]? = some u → w.cell? ⟨g, j, none⟩ = some u := by
  have h2 := h.2
  rcases h2 with ⟨_, h0⟩ | ⟨g, cap, cur, rfl, hbg, hg, _⟩
  · omega
  · refine ⟨g, cap, rfl, hbg, (Array.getElem?_eq_some_iff.1 hg).1, fun j u hu => ?_⟩
    have := h.cells (g := g) rfl j u hu
    simpa [Addr.add_lit] using this

theorem own_form {w : World} {B e n : Nat} {v : Value} {xs : List Value} (h : w.ownsRow B e 1 v n xs) :
    ∃ eo cap, v = .slice eo n cap ∧ n ≤ cap ∧ (0 < n → ∃ g, eo = some ⟨g, 0, none⟩ ∧ B ≤ g ∧ g < w.heap.size ∧ ∀ j u, xs[j]? = some u → w.cell? ⟨g, j, none⟩ = some u) := by
  rcases h.2 with ⟨rfl, rfl⟩ | ⟨g, cap, cur, rfl, hbg, hg, hnc, _⟩
  · exact ⟨none, 0, rfl, Nat.le_refl _, fun h0 => by omega⟩
  · refine ⟨some ⟨g, 0, none⟩, cap, rfl, hnc, fun _ => ⟨g, rfl, hbg, (Array.getElem?_eq_some_iff.1 hg).1, fun j u hu => ?_⟩⟩
    have := h.cells (g := g) rfl j u hu
    simpa [Addr.add_lit] using this

theorem Tryd.size9 : ∀ w, (Go.sizeOf 9).run Tryd.prog w = .ok 1 w := by
  intro w
  obtain ⟨i, hi, _, hs, _⟩ := info_parts Tryd.info9
  simp [Go.sizeOf, typeInfo, hi, hs]
end Go.Proofs.YtmokelmeihmeiacDoor
