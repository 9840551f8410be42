/-
  Package vv: With; the document's With.
-/
import Derived.Test.YtplecopphddjhaaVvH
import Derived.Laws.CopyRow
import Derived.Laws.IdiomCopy
namespace Go.Proofs.Ytplecopphddjhaa
open Go.RowKit Go.Maps

/-- A vector with n as the origin's number. -/
def withOf (v : List Int) (k : Nat) (n : Int) : List Int := ((v ++ List.replicate (k + 1 - v.length) 0).set k n)
theorem with_len (v : List Int) (k : Nat) (n : Int) : (withOf v k n).length = max v.length (k + 1) := by
  simp [withOf]
  omega
theorem with_getD (v : List Int) (k : Nat) (n : Int) (i : Nat) : (withOf v k n).getD i 0 = if i = k then n else v.getD i 0 := by
  unfold withOf
  by_cases h : i = k
  · subst h
    have hl : i < (v ++ List.replicate (i + 1 - v.length) 0).length := by simp; omega
    rw [if_pos rfl]
    simp only [List.getD, List.getElem?_set, if_pos hl]
    simp
  · have h' : ¬ k = i := fun e => h e.symm
    simp only [List.getD, List.getElem?_set, if_neg h', if_neg h]
    by_cases h2 : i < v.length
    · rw [List.getElem?_append_left h2]
    · rw [List.getElem?_append_right (by omega), List.getElem?_eq_none (l := v) (by omega), List.getElem?_replicate]
      split <;> rfl
def WithOk (o n : Int) : Prop := 0 ≤ o ∧ o ≤ 6 ∧ 0 ≤ n ∧ n ≤ 2147483647
instance (o n : Int) : Decidable (WithOk o n) := by unfold WithOk; infer_instance
/-- What With answers. -/
def AnsW (w : World) (xs : List Int) (e : Ending) (w' : World) : Prop := ∃ bo cp, e = .returned (.tuple #[.slice bo xs.length cp, .int .i64 0]) ∧ HV w' bo cp xs ∧ Below w.heap.size w w'

/-- copy(w, v): the new block's beginning is v's numbers. -/
theorem run_copyI (W : World) (g L m ca : Nat) (ao : Option Addr) (v : List Int) (hm : v.length = m) (hL : m ≤ L) (hg : Blk W g 3 (ints (List.replicate L 0))) (hh : HeldInt W ao v) (ty : TypeId) :
    ∃ W', (Builtin.copy_ #[23, 23] ty #[.slice (some ⟨g, 0, none⟩) L L, .slice ao m ca]).run Try.prog W = .ok (goInt m) W' ∧ Blk W' g 3 (ints (v ++ List.replicate (L - m) 0)) ∧ Turns (fun i => i = g) W W' := by
  obtain ⟨iI, hj, hy0, hy1, hy2⟩ := info_parts Try.infoInt
  have hs1 : (Try.prog.info? 3).map (·.size) = some 1 := by rw [hj]; simp [hy1]
  by_cases h0 : m = 0
  · subst h0
    have hv : v = [] := List.eq_nil_of_length_eq_zero hm
    subst hv
    refine ⟨W, run_copy_none W _ _ ty 3 _ ao L L 0 ca Try.underlying23 hs1 (by simp), by simpa using hg, Turns.refl _ _⟩
  · have hne : v ≠ [] := fun e => h0 (by rw [← hm, e]; rfl)
    rcases hh.2 with h1 | ⟨b, off, rfl, hb, hc⟩
    · exact absurd h1 hne
    · have hrun := run_copy_row (P := Try.prog) W 23 23 ty 3 g 0 L L ⟨b, off, none⟩ m ca (ints (List.replicate L 0)).toArray 3 (ints v) Try.underlying23 hs1 hg (by rw [ints_len, hm]; exact (Nat.min_eq_left hL).symm) hh.news (by simp [ints_len, hm]; omega) (ints_one v)
      rw [ints_len, hm] at hrun
      refine ⟨_, hrun, ?_, ?_⟩
      · have e : ((ints (List.replicate L 0)).toArray.toList.take 0 ++ ints v ++ (ints (List.replicate L 0)).toArray.toList.drop (0 + m)) = ints (v ++ List.replicate (L - m) 0) := by
          simp [ints, List.drop_replicate]
        rw [e]
        exact setRow_heap W g _ _ _ _ hg
      · exact ⟨rfl, rfl, rfl, by simp, fun k _ hn => setRow_other W g k _ hn⟩
def lenV : Value → Nat
  | .slice _ n _ => n
  | _ => 0
theorem with_n {m j k N : Nat} (hj : j = k + 1 - m) (h : ¬ m + j ≤ k) (hN : N = m + j) : max m (k + 1) = N := by omega
theorem with_sub {m k : Nat} : max m (k + 1) - m = k + 1 - m := by omega
end Go.Proofs.Ytplecopphddjhaa
