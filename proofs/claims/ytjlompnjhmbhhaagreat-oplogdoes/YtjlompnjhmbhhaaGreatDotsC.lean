/-
  Package dots: what a set is in memory ('DotsAt'), and the contracts of closed, may, New, Len, Get, has.
-/
import Derived.Test.YtjlompnjhmbhhaaGreatSealA
import Derived.Test.YtjlompnjhmbhhaaGreatVvO
import Derived.Deep.QuietTactic
import Derived.BigQuiet
import Derived.Deep.RegionHeld3
import Derived.Deep.AppendLies
import Derived.Deep.RegionLaw
namespace Go.Proofs.YtjlompnjhmbhhaaGreat
open Go.RowKit Go.Maps

def MayD (o s : Int) : Prop := (0 ≤ o ∧ o < 7) ∧ (1 ≤ s ∧ s ≤ 2147483647)
instance (o s : Int) : Decidable (MayD o s) := by unfold MayD; infer_instance
theorem MayD.i64 {o s : Int} (h : MayD o s) : I64 o ∧ I64 s := by
  unfold MayD at h
  unfold I64
  omega
def zeroE : Value := .string ⟨#[]⟩
def IsE (v : Value) : Prop := ∃ t, v = .string t
/-- How many values the runs have. -/
def sumR (R : Nat → List Value) : Nat := (R 0).length + (R 1).length + (R 2).length + (R 3).length + (R 4).length + (R 5).length + (R 6).length
theorem sumR_le (R : Nat → List Value) {k : Nat} (hk : k < 7) : (R k).length ≤ sumR R := by
  unfold sumR
  match k, hk with
  | 0, _ | 1, _ | 2, _ | 3, _ | 4, _ | 5, _ | 6, _ => omega
def setCells (rs : Nat → Value) (m : Nat) : List Value := [rs 0, rs 1, rs 2, rs 3, rs 4, rs 5, rs 6, .map (some m)]
theorem setCells_run (rs : Nat → Value) (m : Nat) {k : Nat} (hk : k < 7) : (setCells rs m)[k]? = some (rs k) := by
  match k, hk with
  | 0, _ | 1, _ | 2, _ | 3, _ | 4, _ | 5, _ | 6, _ => rfl
def FootD (p m : Nat) (rs : Nat → Value) (i : Nat) : Prop := i = p ∨ i = m ∨ ∃ k, k < 7 ∧ (rs k).ownBlock = some i

section
variable {w w' : World} {p m N : Nat} {rs : Nat → Value} {R : Nat → List Value} {D : DataW Value} {S : Int → Int → Option Value}
end

section
variable {w w' : World} {p m N : Nat} {rs : Nat → Value} {R : Nat → List Value} {D : DataW Value} {S : Int → Int → Option Value}
end
end Go.Proofs.YtjlompnjhmbhhaaGreat
/-
  Package dots: Get and has.
-/
namespace Go.Proofs.YtjlompnjhmbhhaaGreat
open Go.RowKit Go.Maps

theorem Tryz.zeroEl (w : World) : (zeroValue 9).run Tryz.prog w = .ok zeroE w := by kernel_rfl
section
variable {w w' : World} {p m N : Nat} {rs : Nat → Value} {R : Nat → List Value} {D : DataW Value} {S : Int → Int → Option Value}
end
end Go.Proofs.YtjlompnjhmbhhaaGreat
/-
  Package dots: closeGap takes what stands without a gap to its origin's run.
-/
namespace Go.Proofs.YtjlompnjhmbhhaaGreat
open Go.RowKit Go.Maps

def upd {α : Type} (f : Nat → α) (k : Nat) (v : α) (i : Nat) : α := if i = k then v else f i
theorem upd_same {α : Type} (f : Nat → α) (k : Nat) (v : α) : upd f k v k = v := by simp [upd]
theorem upd_other {α : Type} (f : Nat → α) {k i : Nat} (v : α) (h : i ≠ k) : upd f k v i = f i := by simp [upd, h]
theorem setCells_upd (rs : Nat → Value) (m : Nat) {k : Nat} (hk : k < 7) (v : Value) : (setCells rs m).set k v = setCells (upd rs k v) m := by
  match k, hk with
  | 0, _ | 1, _ | 2, _ | 3, _ | 4, _ | 5, _ | 6, _ => rfl
theorem sumR_upd (R : Nat → List Value) {k : Nat} (hk : k < 7) (l : List Value) : sumR (upd R k l) + (R k).length = sumR R + l.length := by
  unfold sumR
  match k, hk with
  | 0, _ | 1, _ | 2, _ | 3, _ | 4, _ | 5, _ | 6, _ => simp [upd]; omega
theorem size_tidy {w : World} {m n : Nat} {D : DataW Value} (h : w.ownsMap Tryz.prog 25 valR m n D) : Tidy D := by
  obtain ⟨es, e, hp, _⟩ := h.entries Tryz.keyedDot
  exact ⟨es, e, hp⟩
section
variable {w w2 w3 : World} {p m N k : Nat} {rs : Nat → Value} {R : Nat → List Value} {D : DataW Value} {S : Int → Int → Option Value}
end
end Go.Proofs.YtjlompnjhmbhhaaGreat
