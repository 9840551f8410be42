/-
  DotsSplit's mathematics: what a vector has of a set, what it has not, and what is missing.
-/
import Derived.Test.YtjcoahcbdlpcpaaGreatDotsR
import Derived.Test.YtjcoahcbdlpcpaaGreatDotsFillM
namespace Go.Proofs.YtjcoahcbdlpcpaaGreat
open Go.RowKit Go.Maps

theorem its_nodup {S : Int → Int → Option Value} {f : Int → Int → Bool} {its : List It} (h : ItsOf S f its) : its.Nodup := by
  rw [List.nodup_iff_pairwise_ne]
  refine h.1.imp ?_
  rintro x y hxy rfl
  rw [cmpD_lt] at hxy
  omega
theorem its_nodup1 {S : Int → Int → Option Value} {f : Int → Int → Bool} {its : List It} (h : ItsOf S f its) : (its.map (·.1)).Nodup := by
  rw [List.nodup_iff_pairwise_ne, List.pairwise_map]
  refine h.1.imp ?_
  intro x y hxy e
  rw [e] at hxy
  rw [cmpD_lt] at hxy
  omega
def notF (f : Int → Int → Bool) (x : It) : Bool := !f x.1.1 x.1.2
theorem split_len {S : Int → Int → Option Value} {f : Int → Int → Bool} {us al : List It} (hu : ItsOf S f us) (ha : ItsOf S (fun _ _ => true) al) : us.length + (al.filter (notF f)).length = al.length := by
  have h1 : us.length = (al.filter (fI f)).length := by
    refine Nat.le_antisymm (nodup_le (its_nodup hu) ?_) (nodup_le (List.filter_sublist.nodup (its_nodup ha)) ?_)
    · rintro ⟨⟨o, s⟩, t⟩ hm
      obtain ⟨h1, h2⟩ := (hu.2 o s t).1 hm
      exact List.mem_filter.2 ⟨(ha.2 o s t).2 ⟨h1, rfl⟩, h2⟩
    · rintro ⟨⟨o, s⟩, t⟩ hm
      obtain ⟨h1, h2⟩ := List.mem_filter.1 hm
      exact (hu.2 o s t).2 ⟨((ha.2 o s t).1 h1).1, h2⟩
  rw [h1]
  clear h1 hu ha
  induction al with
  | nil => rfl
  | cons x r ih =>
    cases hf : f x.1.1 x.1.2
    · rw [List.filter_cons_of_neg (by simp [fI, hf]), List.filter_cons_of_pos (by simp [notF, hf])]
      simp only [List.length_cons]
      omega
    · rw [List.filter_cons_of_pos (by simp [fI, hf]), List.filter_cons_of_neg (by simp [notF, hf])]
      simp only [List.length_cons]
      omega
theorem range_cnt (v : List Int) : ∀ k, k ≤ v.length → (((List.range k).flatMap (rowOf [] v)).length : Int) = cntV (v.take k)
  | 0, _ => by simp [cntV]
  | k + 1, h => by
    have ih := range_cnt v k (by omega)
    rw [List.range_succ, List.flatMap_append, List.length_append, cnt_take (by omega)]
    have e0 : hadOf [] k = 0 := by simp [hadOf]
    simp only [List.flatMap_cons, List.flatMap_nil, List.append_nil, row_len]
    unfold moreOf
    rw [e0]
    omega
theorem dotsAll_cnt (v : List Int) : ((dotsAll [] v).length : Int) = cntV v := by
  rw [← partD_all, partD_zero, range_cnt v _ (Nat.le_refl _), List.take_length]
theorem has_mem {v : List Int} {o : Nat} {s : Int} (h : HasV v (o : Int) s) : ((o : Int), s) ∈ dotsAll [] v := by
  unfold HasV at h
  rw [ofV_nat] at h
  have e0 : hadOf [] o = 0 := by simp [hadOf]
  refine mem_dotsAll.2 ⟨o, ?_, rfl, by rw [e0]; omega, by omega⟩
  rcases Nat.lt_or_ge o v.length with hl | hl
  · exact hl
  · rw [getD_far hl] at h
    omega
theorem mem_has {a v : List Int} {x y : Int} (h : (x, y) ∈ dotsAll a v) : HasV v x y := by
  obtain ⟨k, h1, rfl, h2, h3⟩ := mem_dotsAll.1 h
  unfold HasV
  rw [ofV_nat]
  unfold hadOf at h2
  omega
section
variable {w : World} {p m N : Nat} {rs : Nat → Value} {R : Nat → List Value} {D : DataW Value} {S : Int → Int → Option Value}
theorem miss_cnt (h : DotsPre w p rs R m D S N) {v : List Int} (hv : v.length ≤ 7) {us : List It} (hu : ItsOf S (fun o s => decide (HasV v o s)) us) : (missOf S R v).length = 4096 ∨ ((missOf S R v).length : Int) + (us.length : Int) = cntV v := by
  obtain ⟨Ms, hMs⟩ : ∃ M, notIn S (dotsAll (plainOf (lensOf R)) v) = M := ⟨_, rfl⟩
  have hmm : missOf S R v = Ms.take 4096 := by unfold missOf; rw [hMs]
  have hmem : ∀ x y, (x, y) ∈ Ms ↔ (x, y) ∈ dotsAll (plainOf (lensOf R)) v ∧ S x y = none := fun x y => by
    rw [← hMs]
    unfold notIn
    rw [List.mem_filter]
    simp
  rcases Nat.lt_or_ge Ms.length 4096 with hl | hl
  · right
    rw [hmm, List.take_of_length_le (by omega), ← dotsAll_cnt]
    have key : Ms.length + us.length = (dotsAll [] v).length := by
      have e : Ms.length + us.length = (Ms ++ us.map (·.1)).length := by simp
      rw [e]
      refine Nat.le_antisymm (nodup_le ?_ ?_) (nodup_le (nodup_dotsAll _ _) ?_)
      · refine List.nodup_append.2 ⟨by rw [← hMs]; exact List.filter_sublist.nodup (nodup_dotsAll _ _), its_nodup1 hu, ?_⟩
        rintro ⟨x, y⟩ h1 ⟨x', y'⟩ h2 e
        obtain ⟨⟨⟨o, s⟩, t⟩, h3, h4⟩ := List.mem_map.1 h2
        rw [← e] at h4
        simp only [Prod.mk.injEq] at h4
        obtain ⟨rfl, rfl⟩ := h4
        have h5 := ((hu.2 o s t).1 h3).1
        rw [((hmem o s).1 h1).2] at h5
        cases h5
      · rintro ⟨x, y⟩ hm
        rcases List.mem_append.1 hm with hm | hm
        · have := mem_has ((hmem x y).1 hm).1
          obtain ⟨k, h1, rfl, _, _⟩ := mem_dotsAll.1 ((hmem x y).1 hm).1
          exact has_mem this
        · obtain ⟨⟨⟨o, s⟩, t⟩, h3, h4⟩ := List.mem_map.1 hm
          simp only [Prod.mk.injEq] at h4
          obtain ⟨rfl, rfl⟩ := h4
          obtain ⟨h5, h6⟩ := (hu.2 o s t).1 h3
          have hM : MayD o s := by
            by_cases hM : MayD o s
            · exact hM
            · rw [h.out o s hM] at h5
              cases h5
          obtain ⟨k, rfl⟩ := Int.eq_ofNat_of_zero_le hM.1.1
          exact has_mem (of_decide_eq_true h6)
      · rintro ⟨x, y⟩ hm
        have hh := mem_has hm
        obtain ⟨k, h1, rfl, h2, h3⟩ := mem_dotsAll.1 hm
        have e0 : hadOf [] k = 0 := by simp [hadOf]
        rw [e0] at h2
        rw [List.mem_append]
        cases hS : S (k : Int) y with
        | none =>
          left
          refine (hmem _ _).2 ⟨mem_dotsAll.2 ⟨k, h1, rfl, ?_, h3⟩, hS⟩
          rw [had_lens R (by omega)]
          rcases Int.lt_or_le ((R k).length : Int) y with hlt | hge
          · exact hlt
          · have := h.runs k (by omega) (y - 1).toNat (by omega)
            rw [show (((y - 1).toNat : Nat) : Int) + 1 = y by omega, hS, List.getElem?_eq_getElem (by omega)] at this
            cases this
        | some u =>
          right
          obtain ⟨t, rfl⟩ := h.ones _ _ _ hS
          exact List.mem_map.2 ⟨(((k : Int), y), t), (hu.2 _ _ t).2 ⟨hS, decide_eq_true hh⟩, rfl⟩
    omega
  · left
    rw [hmm, List.length_take]
    omega
end
end Go.Proofs.YtjcoahcbdlpcpaaGreat
