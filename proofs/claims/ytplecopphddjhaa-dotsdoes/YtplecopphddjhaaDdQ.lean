/-
  DotsSplit's mathematics: what a vector has of a set, what it has not, and what is missing.
-/
import Derived.Test.YtplecopphddjhaaDotsR
import Derived.Test.YtplecopphddjhaaDotsFillM
import Derived.Test.YtplecopphddjhaaDdM
import Derived.Test.YtplecopphddjhaaRowSort
import Derived.Test.YtplecopphddjhaaDdP
import Derived.Test.YtplecopphddjhaaDotsJ
namespace Go.Proofs.Ytplecopphddjhaa
open Go.RowKit Go.Maps

theorem its_nodup {S : Int → Int → Option Value} {f : Int → Int → Bool} {its : List It} (h : ItsOf S f its) : its.Nodup := by
  rw [List.nodup_iff_pairwise_ne]
  refine h.1.imp ?_
  rintro x y hxy rfl
  rw [cmpD_lt] at hxy
  omega
theorem its_nodup1 {S : Int → Int → Option Value} {f : Int → Int → Bool} {its : List It} (h : ItsOf S f its) : (its.map (·.1)).Nodup := by
  rw [List.nodup_iff_pairwise_ne, List.pairwise_map]
  refine h.1.imp ?_
  intro x y hxy e
  rw [e] at hxy
  rw [cmpD_lt] at hxy
  omega
def notF (f : Int → Int → Bool) (x : It) : Bool := !f x.1.1 x.1.2
theorem split_len {S : Int → Int → Option Value} {f : Int → Int → Bool} {us al : List It} (hu : ItsOf S f us) (ha : ItsOf S (fun _ _ => true) al) : us.length + (al.filter (notF f)).length = al.length := by
  have h1 : us.length = (al.filter (fI f)).length := by
    refine Nat.le_antisymm (nodup_le (its_nodup hu) ?_) (nodup_le (List.filter_sublist.nodup (its_nodup ha)) ?_)
    · rintro ⟨⟨o, s⟩, t⟩ hm
      obtain ⟨h1, h2⟩ := (hu.2 o s t).1 hm
      exact List.mem_filter.2 ⟨(ha.2 o s t).2 ⟨h1, rfl⟩, h2⟩
    · rintro ⟨⟨o, s⟩, t⟩ hm
      obtain ⟨h1, h2⟩ := List.mem_filter.1 hm
      exact (hu.2 o s t).2 ⟨((ha.2 o s t).1 h1).1, h2⟩
  rw [h1]
  clear h1 hu ha
  induction al with
  | nil => rfl
  | cons x r ih =>
    cases hf : f x.1.1 x.1.2
    · rw [List.filter_cons_of_neg (by simp [fI, hf]), List.filter_cons_of_pos (by simp [notF, hf])]
      simp only [List.length_cons]
      omega
    · rw [List.filter_cons_of_pos (by simp [fI, hf]), List.filter_cons_of_neg (by simp [notF, hf])]
      simp only [List.length_cons]
      omega
theorem range_cnt (v : List Int) : ∀ k, k ≤ v.length → (((List.range k).flatMap (rowOf [] v)).length : Int) = cntV (v.take k)
  | 0, _ => by simp [cntV]
  | k + 1, h => by
    have ih := range_cnt v k (by omega)
    rw [List.range_succ, List.flatMap_append, List.length_append, cnt_take (by omega)]
    have e0 : hadOf [] k = 0 := by simp [hadOf]
    simp only [List.flatMap_cons, List.flatMap_nil, List.append_nil, row_len]
    unfold moreOf
    rw [e0]
    omega
theorem dotsAll_cnt (v : List Int) : ((dotsAll [] v).length : Int) = cntV v := by
  rw [← partD_all, partD_zero, range_cnt v _ (Nat.le_refl _), List.take_length]
theorem has_mem {v : List Int} {o : Nat} {s : Int} (h : HasV v (o : Int) s) : ((o : Int), s) ∈ dotsAll [] v := by
  unfold HasV at h
  rw [ofV_nat] at h
  have e0 : hadOf [] o = 0 := by simp [hadOf]
  refine mem_dotsAll.2 ⟨o, ?_, rfl, by rw [e0]; omega, by omega⟩
  rcases Nat.lt_or_ge o v.length with hl | hl
  · exact hl
  · rw [getD_far hl] at h
    omega
theorem mem_has {a v : List Int} {x y : Int} (h : (x, y) ∈ dotsAll a v) : HasV v x y := by
  obtain ⟨k, h1, rfl, h2, h3⟩ := mem_dotsAll.1 h
  unfold HasV
  rw [ofV_nat]
  unfold hadOf at h2
  omega
section
variable {w : World} {p m N : Nat} {rs : Nat → Value} {R : Nat → List Value} {D : DataW Value} {S : Int → Int → Option Value}
theorem miss_cnt (h : DotsPre w p rs R m D S N) {v : List Int} (hv : v.length ≤ 7) {us : List It} (hu : ItsOf S (fun o s => decide (HasV v o s)) us) : (missOf S R v).length = 4096 ∨ ((missOf S R v).length : Int) + (us.length : Int) = cntV v := by
  obtain ⟨Ms, hMs⟩ : ∃ M, notIn S (dotsAll (plainOf (lensOf R)) v) = M := ⟨_, rfl⟩
  have hmm : missOf S R v = Ms.take 4096 := by unfold missOf; rw [hMs]
  have hmem : ∀ x y, (x, y) ∈ Ms ↔ (x, y) ∈ dotsAll (plainOf (lensOf R)) v ∧ S x y = none := fun x y => by
    rw [← hMs]
    unfold notIn
    rw [List.mem_filter]
    simp
  rcases Nat.lt_or_ge Ms.length 4096 with hl | hl
  · right
    rw [hmm, List.take_of_length_le (by omega), ← dotsAll_cnt]
    have key : Ms.length + us.length = (dotsAll [] v).length := by
      have e : Ms.length + us.length = (Ms ++ us.map (·.1)).length := by simp
      rw [e]
      refine Nat.le_antisymm (nodup_le ?_ ?_) (nodup_le (nodup_dotsAll _ _) ?_)
      · refine List.nodup_append.2 ⟨by rw [← hMs]; exact List.filter_sublist.nodup (nodup_dotsAll _ _), its_nodup1 hu, ?_⟩
        rintro ⟨x, y⟩ h1 ⟨x', y'⟩ h2 e
        obtain ⟨⟨⟨o, s⟩, t⟩, h3, h4⟩ := List.mem_map.1 h2
        rw [← e] at h4
        simp only [Prod.mk.injEq] at h4
        obtain ⟨rfl, rfl⟩ := h4
        have h5 := ((hu.2 o s t).1 h3).1
        rw [((hmem o s).1 h1).2] at h5
        cases h5
      · rintro ⟨x, y⟩ hm
        rcases List.mem_append.1 hm with hm | hm
        · have := mem_has ((hmem x y).1 hm).1
          obtain ⟨k, h1, rfl, _, _⟩ := mem_dotsAll.1 ((hmem x y).1 hm).1
          exact has_mem this
        · obtain ⟨⟨⟨o, s⟩, t⟩, h3, h4⟩ := List.mem_map.1 hm
          simp only [Prod.mk.injEq] at h4
          obtain ⟨rfl, rfl⟩ := h4
          obtain ⟨h5, h6⟩ := (hu.2 o s t).1 h3
          have hM : MayD o s := by
            by_cases hM : MayD o s
            · exact hM
            · rw [h.out o s hM] at h5
              cases h5
          obtain ⟨k, rfl⟩ := Int.eq_ofNat_of_zero_le hM.1.1
          exact has_mem (of_decide_eq_true h6)
      · rintro ⟨x, y⟩ hm
        have hh := mem_has hm
        obtain ⟨k, h1, rfl, h2, h3⟩ := mem_dotsAll.1 hm
        have e0 : hadOf [] k = 0 := by simp [hadOf]
        rw [e0] at h2
        rw [List.mem_append]
        cases hS : S (k : Int) y with
        | none =>
          left
          refine (hmem _ _).2 ⟨mem_dotsAll.2 ⟨k, h1, rfl, ?_, h3⟩, hS⟩
          rw [had_lens R (by omega)]
          rcases Int.lt_or_le ((R k).length : Int) y with hlt | hge
          · exact hlt
          · have := h.runs k (by omega) (y - 1).toNat (by omega)
            rw [show (((y - 1).toNat : Nat) : Int) + 1 = y by omega, hS, List.getElem?_eq_getElem (by omega)] at this
            cases this
        | some u =>
          right
          obtain ⟨t, rfl⟩ := h.ones _ _ _ hS
          exact List.mem_map.2 ⟨(((k : Int), y), t), (hu.2 _ _ t).2 ⟨hS, decide_eq_true hh⟩, rfl⟩
    omega
  · left
    rw [hmm, List.length_take]
    omega
end
end Go.Proofs.Ytplecopphddjhaa
/-
  DotsDoes' mathematics: extras, items, and what is missing.
-/
namespace Go.Proofs.Ytplecopphddjhaa
open Go.RowKit Go.Maps

section
variable {w : World} {p m N : Nat} {rs : Nat → Value} {R : Nat → List Value} {D : DataW Value} {S : Int → Int → Option Value} {ps : List PairV}
theorem SameP.inS (h : SameP S N ps) (o s : Int) : (S o s).isSome = true ↔ ∃ t, (⟨o, s, t⟩ : PairV) ∈ ps := by
  constructor
  · intro hs
    obtain ⟨v, hv⟩ := Option.isSome_iff_exists.1 hs
    obtain ⟨t, rfl⟩ := h.ones _ _ _ hv
    exact ⟨t, (h.mem _ _ _).1 hv⟩
  · rintro ⟨t, ht⟩
    rw [(h.mem _ _ _).2 ht]
    rfl
theorem hasV_lens (R : Nat → List Value) {k : Nat} (hk : k < 7) (s : Int) : HasV (plainOf (lensOf R)) (k : Int) s ↔ 1 ≤ s ∧ s ≤ ((R k).length : Int) := by
  unfold HasV
  rw [ofV_nat, lens_getD R hk]
theorem SameP.extras (h : SameP S N ps) (hd : DotsAt w p rs R m D S N) {ss : List (Int × Int)} (hs : SortedK D ss) : ss = restP ps (plainOf (lensOf R)) := by
  refine rising_eq (fun x y : Int × Int => cmpD x y < 0) ?_ ss _ hs.2 ?_ ?_
  · intro x y h1 h2
    exact cmpD_asym x y h1 h2
  · unfold restP
    rw [List.pairwise_map]
    refine (h.srt.sublist List.filter_sublist).imp ?_
    intro x y hxy
    rw [cmpD_lt]
    exact hxy
  · rintro ⟨o, s⟩
    rw [hs.1.2 o s]
    have hr : (o, s) ∈ restP ps (plainOf (lensOf R)) ↔ (S o s).isSome = true ∧ ¬ HasV (plainOf (lensOf R)) o s := by
      rw [h.inS]
      unfold restP
      rw [List.mem_map]
      constructor
      · rintro ⟨⟨qo, qs, qt⟩, hq, he⟩
        simp only [Prod.mk.injEq] at he
        obtain ⟨rfl, rfl⟩ := he
        rw [List.mem_filter] at hq
        exact ⟨⟨qt, hq.1⟩, by simpa using hq.2⟩
      · rintro ⟨⟨t, ht⟩, hn⟩
        exact ⟨⟨o, s, t⟩, List.mem_filter.2 ⟨ht, by simpa using hn⟩, rfl⟩
    rw [hr]
    constructor
    · rintro ⟨h1, h2, h3⟩
      rw [hd.pre.keys o s h1 h2] at h3
      split at h3
      · next hc =>
        refine ⟨h3, ?_⟩
        obtain ⟨k, rfl⟩ := Int.eq_ofNat_of_zero_le hc.1.1.1
        have hk7 : k < 7 := by have := hc.1.1.2; omega
        rw [hasV_lens R hk7]
        have := hc.2
        simp only [Int.toNat_natCast] at this
        omega
      · cases h3
    · rintro ⟨h1, h2⟩
      obtain ⟨t, ht⟩ := (h.inS o s).1 h1
      have hm := h.may _ ht
      simp only at hm
      refine ⟨hm.i64.1, hm.i64.2, ?_⟩
      rw [hd.pre.keys o s hm.i64.1 hm.i64.2, if_pos]
      · exact h1
      · refine ⟨hm, ?_⟩
        obtain ⟨k, rfl⟩ := Int.eq_ofNat_of_zero_le hm.1.1
        have hk7 : k < 7 := by have := hm.1.2; omega
        rw [hasV_lens R hk7] at h2
        have := hm.2.1
        simp only [Int.toNat_natCast]
        omega
/-- The pairs as items. -/
def itOf (q : PairV) : It := ((q.o, q.s), q.t)
def itsP (ps : List PairV) (f : Int → Int → Bool) : List It := (ps.filter (fun q => f q.o q.s)).map itOf
theorem SameP.its (h : SameP S N ps) (f : Int → Int → Bool) : ItsOf S f (itsP ps f) := by
  refine ⟨?_, ?_⟩
  · unfold itsP
    rw [List.pairwise_map]
    refine (h.srt.sublist List.filter_sublist).imp ?_
    intro x y hxy
    show cmpD (x.o, x.s) (y.o, y.s) < 0
    rw [cmpD_lt]
    exact hxy
  · intro o s t
    rw [h.mem]
    unfold itsP itOf
    rw [List.mem_map]
    constructor
    · rintro ⟨⟨qo, qs, qt⟩, hq, he⟩
      simp only [Prod.mk.injEq] at he
      obtain ⟨⟨rfl, rfl⟩, rfl⟩ := he
      rw [List.mem_filter] at hq
      exact ⟨hq.1, hq.2⟩
    · rintro ⟨h1, h2⟩
      exact ⟨⟨o, s, t⟩, List.mem_filter.2 ⟨h1, h2⟩, rfl⟩
theorem itsP_all (ps : List PairV) : itsP ps (fun _ _ => true) = ps.map itOf := by
  unfold itsP
  rw [List.filter_eq_self.2 (fun _ _ => rfl)]
theorem itsP_upto (ps : List PairV) (v : List Int) : itsP ps (fun o s => decide (HasV v o s)) = (ps.filter (fun q => decide (HasV v q.o q.s))).map itOf := rfl
theorem hadOf_nil (k : Nat) : hadOf [] k = 0 := by simp [hadOf]
/-- What a set's own runs have is not missing. -/
theorem notIn_row (hd : DotsAt w p rs R m D S N) (v : List Int) {k : Nat} (hk : k < 7) : notIn S (rowOf (plainOf (lensOf R)) v k) = notIn S (rowOf [] v k) := by
  have h0 : rowOf [] v k = (List.range (max (v.getD k 0) 0).toNat).map fun i : Nat => ((k : Int), (i : Int) + 1) := by
    unfold rowOf moreOf
    rw [hadOf_nil]
    simp
  have hH := had_lens R hk
  obtain ⟨L, hL⟩ : ∃ L : Nat, (R k).length = L := ⟨_, rfl⟩
  rw [hL] at hH
  obtain ⟨M, hM⟩ : ∃ M : Nat, (max (v.getD k 0) 0).toNat = M := ⟨_, rfl⟩
  have hsome : ∀ i : Nat, i < L → (S (k : Int) ((i : Int) + 1)).isSome = true := fun i hi => hd.hasX k hk _ (by omega) (by omega)
  have hm : (moreOf (plainOf (lensOf R)) v k).toNat = M - L := by
    unfold moreOf
    rw [hH]
    omega
  rw [h0, hM]
  unfold rowOf
  rw [hm, hH]
  have hsplit : List.range M = List.range (min L M) ++ (List.range (M - L)).map (fun i => L + i) := by
    by_cases hle : L ≤ M
    · rw [Nat.min_eq_left hle]
      have := List.range_add (n := L) (m := M - L)
      rw [show L + (M - L) = M by omega] at this
      exact this
    · rw [Nat.min_eq_right (by omega), show M - L = 0 by omega]
      simp
  rw [hsplit, List.map_append]
  unfold notIn
  rw [List.filter_append]
  have he : ((List.range (min L M)).map fun i : Nat => ((k : Int), (i : Int) + 1)).filter (fun d : Int × Int => !(S d.1 d.2).isSome) = [] := by
    rw [List.filter_eq_nil_iff]
    intro d hd'
    obtain ⟨i, hi, rfl⟩ := List.mem_map.1 hd'
    rw [List.mem_range] at hi
    simp [hsome i (by omega)]
  rw [he, List.nil_append, List.map_map]
  congr 1
  try (apply List.map_congr_left; intro i _; simp)
theorem notIn_all (hd : DotsAt w p rs R m D S N) (v : List Int) (hout : ∀ k : Nat, 7 ≤ k → rowOf (plainOf (lensOf R)) v k = rowOf [] v k) : notIn S (dotsAll (plainOf (lensOf R)) v) = notIn S (dotsAll [] v) := by
  unfold dotsAll rowsFrom
  unfold notIn
  rw [List.filter_flatMap, List.filter_flatMap]
  have key : ∀ k, (List.filter (fun d : Int × Int => !(S d.1 d.2).isSome) ∘ rowOf (plainOf (lensOf R)) v) k = (List.filter (fun d : Int × Int => !(S d.1 d.2).isSome) ∘ rowOf [] v) k := fun k => by
    show notIn S (rowOf (plainOf (lensOf R)) v k) = notIn S (rowOf [] v k)
    by_cases hk : k < 7
    · exact notIn_row hd v hk
    · rw [hout k (by omega)]
  have : (List.filter (fun d : Int × Int => !(S d.1 d.2).isSome) ∘ rowOf (plainOf (lensOf R)) v) = (List.filter (fun d : Int × Int => !(S d.1 d.2).isSome) ∘ rowOf [] v) := funext key
  first
  | rw [this]
  | (show List.flatMap (fun x => List.filter (fun d : Int × Int => !(S d.1 d.2).isSome) (rowOf (plainOf (lensOf R)) v x)) _ = _
     have h2 : (fun x => List.filter (fun d : Int × Int => !(S d.1 d.2).isSome) (rowOf (plainOf (lensOf R)) v x)) = (fun x => List.filter (fun d : Int × Int => !(S d.1 d.2).isSome) (rowOf [] v x)) := funext key
     rw [h2])
theorem row_far (R : Nat → List Value) (v : List Int) (k : Nat) (hk : 7 ≤ k) : rowOf (plainOf (lensOf R)) v k = rowOf [] v k := by
  have h1 : hadOf (plainOf (lensOf R)) k = hadOf [] k := by
    unfold hadOf
    rw [plain_getD]
    have : (lensOf R).getD k 0 = 0 := getD_far (by show 7 ≤ k; exact hk)
    rw [this]
    simp
  unfold rowOf moreOf
  rw [h1]
theorem filter_cut {α : Type} (f : α → Bool) (l : List α) (n c : Nat) (h : (l.take (n + c)).countP (fun x => !f x) ≤ n) : (l.filter f).take c = ((l.take (n + c)).filter f).take c := by
  by_cases hl : l.length ≤ n + c
  · rw [List.take_of_length_le hl]
  · have h1 : ((l.take (n + c)).filter f).length + (l.take (n + c)).countP (fun x => !f x) = (l.take (n + c)).length := by
      rw [← List.countP_eq_length_filter]
      have := List.length_eq_countP_add_countP f (l := l.take (n + c))
      rw [this]
      congr 1
      apply List.countP_congr
      intro x _
      simp
    rw [List.length_take] at h1
    symm
    exact take_full ((List.take_prefix _ _).filter _) (by omega)
theorem SameP.missing (h : SameP S N ps) (hd : DotsAt w p rs R m D S N) (v : List Int) : missOf S R v = missP ps v := by
  unfold missOf missP
  rw [notIn_all hd v (row_far R v)]
  have hf : ∀ l, notIn S l = nopP ps l := fun l => by
    unfold notIn nopP
    congr 1
    funext d
    rw [h.isSome]
  rw [hf]
  unfold nopP
  refine filter_cut _ _ _ _ ?_
  have h1 : (((dotsAll [] v).take (ps.length + 4096)).filter (fun d => !!(pget ps d.1 d.2).isSome)).length ≤ (ps.map (fun q => (q.o, q.s))).length := by
    refine nodup_le ((List.filter_sublist).nodup ((List.take_sublist _ _).nodup (nodup_dotsAll _ _))) ?_
    rintro ⟨o, s⟩ hm
    rw [List.mem_filter] at hm
    have h2 : (pget ps o s).isSome = true := by simpa using hm.2
    rw [← h.isSome] at h2
    obtain ⟨t, ht⟩ := (h.inS o s).1 h2
    exact List.mem_map.2 ⟨_, ht, rfl⟩
  rw [List.length_map, ← List.countP_eq_length_filter] at h1
  exact h1
end
end Go.Proofs.Ytplecopphddjhaa
