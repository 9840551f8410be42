/-
  What is missing below a vector, and what comes of it when all of that comes (mathematics for DotsFill).
-/
import Derived.Test.YtplecopphddjhaaDotsN
namespace Go.Proofs.Ytplecopphddjhaa
open Go.RowKit Go.Maps

theorem mem_dotsAll {a b : List Int} {x y : Int} : (x, y) ∈ dotsAll a b ↔ ∃ k : Nat, k < b.length ∧ x = k ∧ hadOf a k < y ∧ y ≤ max (b.getD k 0) 0 := by
  unfold dotsAll rowsFrom rowOf moreOf
  simp only [List.mem_flatMap, List.mem_map, List.mem_range, List.mem_range'_1, Prod.mk.injEq]
  constructor
  · rintro ⟨k, hk, i, hi, h1, h2⟩
    exact ⟨k, by omega, h1.symm, by omega, by omega⟩
  · rintro ⟨k, hk, rfl, h1, h2⟩
    exact ⟨k, by omega, (y - hadOf a k - 1).toNat, by omega, rfl, by omega⟩
theorem nodup_row (a b : List Int) (k : Nat) : (rowOf a b k).Nodup := by
  unfold rowOf
  rw [List.nodup_iff_pairwise_ne, List.pairwise_map]
  refine (List.nodup_iff_pairwise_ne.1 List.nodup_range).imp ?_
  intro i j hij e
  simp only [Prod.mk.injEq] at e
  omega
theorem row_fst {a b : List Int} {k : Nat} {d : Int × Int} (h : d ∈ rowOf a b k) : d.1 = k := by
  unfold rowOf at h
  obtain ⟨i, _, rfl⟩ := List.mem_map.1 h
  rfl
theorem nodup_rows (a b : List Int) : ∀ (n k : Nat), ((List.range' k n).flatMap (rowOf a b)).Nodup ∧ ∀ d ∈ (List.range' k n).flatMap (rowOf a b), (k : Int) ≤ d.1
  | 0, k => by simp
  | n + 1, k => by
    obtain ⟨h1, h2⟩ := nodup_rows a b n (k + 1)
    rw [List.range'_succ, List.flatMap_cons]
    refine ⟨List.nodup_append.2 ⟨nodup_row a b k, h1, fun x hx y hy e => ?_⟩, fun d hd => ?_⟩
    · subst e
      have := row_fst hx
      have := h2 x hy
      omega
    · rcases List.mem_append.1 hd with hd | hd
      · have := row_fst hd
        omega
      · have := h2 d hd
        omega
theorem nodup_dotsAll (a b : List Int) : (dotsAll a b).Nodup := (nodup_rows a b _ _).1
theorem len_rows {a b : List Int} (hb : ∀ k, b.getD k 0 ≤ 500) : ∀ (n k : Nat), ((List.range' k n).flatMap (rowOf a b)).length ≤ n * 500
  | 0, k => by simp
  | n + 1, k => by
    have h1 := len_rows (a := a) hb n (k + 1)
    rw [List.range'_succ, List.flatMap_cons, List.length_append, row_len]
    have h2 := hb k
    have h3 : 0 ≤ hadOf a k := by unfold hadOf; omega
    unfold moreOf
    omega
theorem len_dotsAll {a b : List Int} (hl : b.length ≤ 7) (hb : ∀ k, b.getD k 0 ≤ 500) : (dotsAll a b).length ≤ 3500 := by
  have := len_rows (a := a) hb (b.length - 0) 0
  unfold dotsAll rowsFrom
  omega
theorem lens_getD (R : Nat → List Value) {k : Nat} (hk : k < 7) : (plainOf (lensOf R)).getD k 0 = ((R k).length : Int) := by
  rw [plain_getD]
  match k, hk with
  | 0, _ | 1, _ | 2, _ | 3, _ | 4, _ | 5, _ | 6, _ => rfl
theorem had_lens (R : Nat → List Value) {k : Nat} (hk : k < 7) : hadOf (plainOf (lensOf R)) k = ((R k).length : Int) := by
  unfold hadOf
  rw [lens_getD R hk]
  omega
/-- All dots of ds come, with the value x. -/
def more (S : Int → Int → Option Value) (ds : List (Int × Int)) (x : Value) (o s : Int) : Option Value := if (o, s) ∈ ds then some x else S o s
theorem more_nil (S : Int → Int → Option Value) (x : Value) : more S [] x = S := by
  funext o s
  simp [more]
theorem more_step (S : Int → Int → Option Value) {ds : List (Int × Int)} {j : Nat} (hj : j < ds.length) (x : Value) : updS (more S (ds.take j) x) (ds.getD j (0, 0)).1 (ds.getD j (0, 0)).2 x = more S (ds.take (j + 1)) x := by
  funext o s
  have e : ds.getD j (0, 0) = ds[j] := by simp [List.getD, List.getElem?_eq_getElem hj]
  have hm : (o, s) ∈ ds.take (j + 1) ↔ (o, s) ∈ ds.take j ∨ (o, s) = ds[j] := by
    rw [List.take_succ_eq_append_getElem hj]
    simp only [List.mem_append, List.mem_singleton]
  unfold updS more
  rw [e]
  by_cases h : o = (ds[j]).1 ∧ s = (ds[j]).2
  · rw [if_pos h, if_pos (hm.2 (.inr (by rw [h.1, h.2])))]
  · have h2 : (o, s) ≠ ds[j] := fun e2 => h ⟨by rw [← e2], by rw [← e2]⟩
    rw [if_neg h]
    by_cases ht : (o, s) ∈ ds.take j
    · rw [if_pos ht, if_pos (hm.2 (.inl ht))]
    · rw [if_neg ht, if_neg (fun hx => (hm.1 hx).elim ht h2)]
theorem miss_all {S : Int → Int → Option Value} {R : Nat → List Value} {v : List Int} (hl : v.length ≤ 7) (hb : ∀ k, v.getD k 0 ≤ 500) : missOf S R v = notIn S (dotsAll (plainOf (lensOf R)) v) := by
  unfold missOf
  refine List.take_of_length_le ?_
  have h1 := len_dotsAll (a := plainOf (lensOf R)) hl hb
  have h2 : (notIn S (dotsAll (plainOf (lensOf R)) v)).length ≤ (dotsAll (plainOf (lensOf R)) v).length := List.length_filter_le _ _
  omega
theorem miss_mem {S : Int → Int → Option Value} {R : Nat → List Value} {v : List Int} {d : Int × Int} (h : d ∈ missOf S R v) : S d.1 d.2 = none ∧ d ∈ dotsAll (plainOf (lensOf R)) v := by
  have h1 := List.mem_of_mem_take h
  unfold notIn at h1
  obtain ⟨h2, h3⟩ := List.mem_filter.1 h1
  refine ⟨?_, h2⟩
  cases hS : S d.1 d.2 with
  | none => rfl
  | some x => simp [hS] at h3
theorem miss_nodup (S : Int → Int → Option Value) (R : Nat → List Value) (v : List Int) : (missOf S R v).Nodup :=
  (List.take_sublist _ _).nodup ((List.filter_sublist).nodup (nodup_dotsAll _ _))
theorem miss_len {S : Int → Int → Option Value} {R : Nat → List Value} {v : List Int} (hl : v.length ≤ 7) (hb : ∀ k, v.getD k 0 ≤ 500) : (missOf S R v).length ≤ 3500 := by
  rw [miss_all hl hb]
  have h1 := len_dotsAll (a := plainOf (lensOf R)) hl hb
  have h2 : (notIn S (dotsAll (plainOf (lensOf R)) v)).length ≤ (dotsAll (plainOf (lensOf R)) v).length := List.length_filter_le _ _
  omega
theorem miss_may {S : Int → Int → Option Value} {R : Nat → List Value} {v : List Int} (hl : v.length ≤ 7) (hb : ∀ k, v.getD k 0 ≤ 500) {d : Int × Int} (h : d ∈ missOf S R v) : MayD d.1 d.2 := by
  obtain ⟨o, s⟩ := d
  obtain ⟨k, hk, h1, h2, h3⟩ := mem_dotsAll.1 (miss_mem h).2
  have h4 := hb k
  have h5 : 0 ≤ hadOf (plainOf (lensOf R)) k := by unfold hadOf; omega
  unfold MayD
  simp only
  omega
/-- Add of the j-th that is missing goes through. -/
theorem more_code {S : Int → Int → Option Value} {R : Nat → List Value} {v : List Int} (hl : v.length ≤ 7) (hb : ∀ k, v.getD k 0 ≤ 500) {N j : Nat} (hN : N ≤ 1000) (hj : j < (missOf S R v).length) (x : Value) :
    addCode (more S ((missOf S R v).take j) x) (N + j) ((missOf S R v).getD j (0, 0)).1 ((missOf S R v).getD j (0, 0)).2 = 0 := by
  have e : (missOf S R v).getD j (0, 0) = (missOf S R v)[j] := by simp [List.getD, List.getElem?_eq_getElem hj]
  have hm : (missOf S R v)[j] ∈ missOf S R v := List.getElem_mem hj
  have hlen := miss_len (S := S) (R := R) hl hb
  have hn : (missOf S R v)[j] ∉ (missOf S R v).take j := by
    intro hin
    obtain ⟨i, hi, he⟩ := List.mem_iff_getElem.1 hin
    have hi2 : i < j := by simp at hi; omega
    rw [List.getElem_take] at he
    exact absurd he (List.pairwise_iff_getElem.1 (List.nodup_iff_pairwise_ne.1 (miss_nodup S R v)) i j (by omega) hj hi2)
  unfold addCode
  rw [e, if_pos (miss_may hl hb hm)]
  have hS : more S ((missOf S R v).take j) x (missOf S R v)[j].1 (missOf S R v)[j].2 = none := by
    unfold more
    rw [if_neg hn]
    exact (miss_mem hm).1
  rw [hS, if_neg (by simp), if_neg (by omega)]
section
variable {w w2 : World} {p m N N2 : Nat} {rs rs2 : Nat → Value} {R R2 : Nat → List Value} {D D2 : DataW Value} {S : Int → Int → Option Value}
/-- Then the set has all that v has. -/
theorem fill_has (h : DotsAt w p rs R m D S N) {v : List Int} (hl : v.length ≤ 7) (hb : ∀ k, v.getD k 0 ≤ 500) (x : Value) {k : Nat} (hk : k < v.length) {y : Int} (h1 : 1 ≤ y) (h2 : y ≤ v.getD k 0) : (more S (missOf S R v) x (k : Int) y).isSome = true := by
  unfold more
  split
  · rfl
  · next hno =>
    by_cases hy : y ≤ ((R k).length : Int)
    · have := h.pre.runs k (by omega) (y - 1).toNat (by omega)
      rw [show (((y - 1).toNat : Nat) : Int) + 1 = y by omega] at this
      rw [this, List.getElem?_eq_getElem (by omega)]
      rfl
    · cases hS : S (k : Int) y with
      | some _ => rfl
      | none =>
        exfalso
        apply hno
        rw [miss_all hl hb]
        unfold notIn
        refine List.mem_filter.2 ⟨mem_dotsAll.2 ⟨k, hk, rfl, by rw [had_lens R (by omega)]; omega, by omega⟩, ?_⟩
        simp [hS]
theorem fill_vec (h : DotsAt w p rs R m D S N) {v : List Int} (hl : v.length ≤ 7) (hb : ∀ k, v.getD k 0 ≤ 500) (x : Value) (h2 : DotsAt w2 p rs2 R2 m D2 (more S (missOf S R v) x) N2) {k : Nat} (hk : k < v.length) (hp : 0 < v.getD k 0) : k < (plainOf (lensOf R2)).length ∧ v.getD k 0 ≤ (plainOf (lensOf R2)).getD k 0 := by
  have hle : v.getD k 0 ≤ ((R2 k).length : Int) := by
    apply Int.not_lt.1
    intro hlt
    have h3 := h2.gap k (by omega)
    have h4 := fill_has h hl hb x hk (y := ((R2 k).length : Int) + 1) (by omega) (by omega)
    rw [h3] at h4
    cases h4
  rw [lens_getD R2 (by omega)]
  refine ⟨?_, hle⟩
  apply Nat.lt_of_not_le
  intro hge
  have := lens_getD R2 (k := k) (by omega)
  rw [getD_far hge] at this
  omega
theorem fill_none (h : DotsAt w p rs R m D S N) {v : List Int} (hl : v.length ≤ 7) (hb : ∀ k, v.getD k 0 ≤ 500) (x : Value) : missOf (more S (missOf S R v) x) R2 v = [] := by
  cases hm : missOf (more S (missOf S R v) x) R2 v with
  | nil => rfl
  | cons d r =>
    exfalso
    have hd : d ∈ missOf (more S (missOf S R v) x) R2 v := by rw [hm]; simp
    obtain ⟨h1, h2⟩ := miss_mem hd
    obtain ⟨o, s⟩ := d
    obtain ⟨k, hk, rfl, h3, h4⟩ := mem_dotsAll.1 h2
    have h5 : 0 ≤ hadOf (plainOf (lensOf R2)) k := by unfold hadOf; omega
    have := fill_has h hl hb x hk (y := s) (by omega) (by omega)
    rw [h1] at this
    cases this
end
end Go.Proofs.Ytplecopphddjhaa
