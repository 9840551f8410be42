/-
  Package cut: sealsOf, Epoch; to which seal an event belongs.
-/
import Derived.Test.YtjjgojjllbdpkaaSealA
import Derived.Test.YtjjgojjllbdpkaaVvD
import Derived.Test.YtjjgojjllbdpkaaEvSame
import Derived.Test.YtjjgojjllbdpkaaStrKey
import Derived.Test.YtjjgojjllbdpkaaSealF
namespace Go.Proofs.Ytjjgojjllbdpkaa
open Go.RowKit Go.Maps

/-- Does e belong to s? -/
def Bel (e : Ev) (s : Sl) : Prop := s.cart = e.cart ∧ e.epoch ≤ s.ep ∧ HasV s.cut e.o e.s
instance (e : Ev) (s : Sl) : Decidable (Bel e s) := by unfold Bel; infer_instance
def ownOf (name : ByteArray) (xs : List SlM) : List SlM := xs.filter fun x => decide (x.e.cart = name)
/-- A new row of seals. -/
def MadeS (w : World) (ys : List SlM) (e : Ending) (w' : World) : Prop :=
  ∃ v, e = .returned v ∧ w'.ownsRow w.heap.size 26 4 v ys.length (flatS ys) ∧ Below w.heap.size w w'
theorem own_take {name : ByteArray} {xs : List SlM} {k : Nat} (hk : k < xs.length) : ownOf name (xs.take (k + 1)) = ownOf name (xs.take k) ++ (if xs[k].e.cart = name then [xs[k]] else []) := by
  unfold ownOf
  rw [List.take_succ_eq_append_getElem hk, List.filter_append]
  by_cases h : xs[k].e.cart = name
  · rw [if_pos h]
    simp [h]
  · rw [if_neg h]
    simp [h]
theorem ownOf_len (name : ByteArray) (xs : List SlM) : (ownOf name xs).length ≤ xs.length := List.length_filter_le _ _
theorem ownOf_sub {name : ByteArray} {xs : List SlM} : ∀ x ∈ ownOf name xs, x ∈ xs := fun _ hx => (List.mem_filter.1 hx).1
end Go.Proofs.Ytjjgojjllbdpkaa
/-
  The document's RightSeal and Epoch.
-/
namespace Go.Proofs.Ytjjgojjllbdpkaa
open Go.RowKit Go.Maps

def InV (v : List Int) : Prop := ∀ x ∈ v, 0 ≤ x ∧ x ≤ 2147483647
instance (v : List Int) : Decidable (InV v) := by unfold InV; infer_instance
def rightV (v : List Int) : Bool := decide (InV v) && (decide (v.length ≤ 7) && (decide (v.length = 0) || decide (v.getD (v.length - 1) 0 ≠ 0)))
def RightSl (s : Sl) : Bool := nameS s.tok && (nameS s.cart && (decide (0 ≤ s.ep ∧ s.ep ≤ 2147483647) && rightV s.cut))
end Go.Proofs.Ytjjgojjllbdpkaa
