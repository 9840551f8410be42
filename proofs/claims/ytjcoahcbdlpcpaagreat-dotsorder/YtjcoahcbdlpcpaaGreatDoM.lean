/-
  DotsOrder's mathematics: sets that have the same dots, in whatever order these came, have the same vector, the same extras and as many dots.
-/
import Derived.Test.YtjcoahcbdlpcpaaGreatDotsSplitM
import Derived.Test.YtjcoahcbdlpcpaaGreatDiR
namespace Go.Proofs.YtjcoahcbdlpcpaaGreat
open Go.RowKit Go.Maps

theorem cmpD_antiO {x y : Int × Int} (h : cmpD x y < 0) (k : cmpD y x < 0) : False := by
  rw [cmpD_lt] at h k
  omega
theorem dsorted_eqO : ∀ (l m : List (Int × Int)), l.Pairwise (fun x y => cmpD x y < 0) → m.Pairwise (fun x y => cmpD x y < 0) → (∀ x, x ∈ l ↔ x ∈ m) → l = m
  | [], m, _, _, h => by
    cases m with
    | nil => rfl
    | cons y r => exact absurd ((h y).2 (List.mem_cons_self ..)) (by simp)
  | x :: l, m, h1, h2, h => by
    cases m with
    | nil => exact absurd ((h x).1 (List.mem_cons_self ..)) (by simp)
    | cons y r =>
      rw [List.pairwise_cons] at h1 h2
      have hxy : x = y := by
        rcases List.mem_cons.1 ((h x).1 (List.mem_cons_self ..)) with e | e
        · exact e
        · rcases List.mem_cons.1 ((h y).2 (List.mem_cons_self ..)) with e' | e'
          · exact e'.symm
          · exact (cmpD_antiO (h1.1 y e') (h2.1 x e)).elim
      subst hxy
      refine congrArg _ (dsorted_eqO l r h1.2 h2.2 fun z => ⟨fun hz => ?_, fun hz => ?_⟩)
      · rcases List.mem_cons.1 ((h z).1 (List.mem_cons_of_mem _ hz)) with e | e
        · exact (cmpD_antiO (x := z) (y := z) (by have := h1.1 z hz; rw [← e] at this; exact this) (by have := h1.1 z hz; rw [← e] at this; exact this)).elim
        · exact e
      · rcases List.mem_cons.1 ((h z).2 (List.mem_cons_of_mem _ hz)) with e | e
        · exact (cmpD_antiO (x := z) (y := z) (by have := h2.1 z hz; rw [← e] at this; exact this) (by have := h2.1 z hz; rw [← e] at this; exact this)).elim
        · exact e
/-- The runs of a set that has the dots of S. -/
structure RunsOf (S : Int → Int → Option Value) (R : Nat → List Value) : Prop where
  has : ∀ o : Nat, o < 7 → ∀ s : Int, 1 ≤ s → s ≤ ((R o).length : Int) → (S (o : Int) s).isSome = true
  gap : ∀ o : Nat, o < 7 → S (o : Int) (((R o).length : Int) + 1) = none
/-- What lies beyond gaps. -/
def KeysOn (D : DataW Value) (S : Int → Int → Option Value) (R : Nat → List Value) : Prop := ∀ o s, I64 o → I64 s → look D (dk o s) = if MayD o s ∧ ((R o.toNat).length : Int) < s then S o s else none
theorem DotsAt.runsOf {w : World} {p m N : Nat} {rs : Nat → Value} {R : Nat → List Value} {D : DataW Value} {S : Int → Int → Option Value} (h : DotsAt w p rs R m D S N) : RunsOf S R := by
  refine ⟨fun o ho s h1 h2 => ?_, h.gap⟩
  have := h.pre.runs o ho (s - 1).toNat (by omega)
  rw [show (((s - 1).toNat : Nat) : Int) + 1 = s by omega, List.getElem?_eq_getElem (by omega)] at this
  rw [this]
  rfl
theorem In.DotsAt.runsOf {w : World} {p m N : Nat} {rs : Nat → Value} {R : Nat → List Value} {D : DataW Value} {S : Int → Int → Option Value} (h : In.DotsAt w p rs R m D S N) : RunsOf S R := by
  refine ⟨fun o ho s h1 h2 => ?_, h.gap⟩
  have := h.pre.runs o ho (s - 1).toNat (by omega)
  rw [show (((s - 1).toNat : Nat) : Int) + 1 = s by omega, List.getElem?_eq_getElem (by omega)] at this
  rw [this]
  rfl
/-- The same dots, whatever their values. -/
def SameS (S T : Int → Int → Option Value) : Prop := ∀ o s, (S o s).isSome = (T o s).isSome
theorem RunsOf.le {S T : Int → Int → Option Value} {R Q : Nat → List Value} (h : RunsOf S R) (k : RunsOf T Q) (hs : SameS S T) {o : Nat} (ho : o < 7) : (R o).length ≤ (Q o).length := by
  apply Classical.byContradiction
  intro hlt
  have h1 := h.has o ho (((Q o).length : Int) + 1) (by omega) (by omega)
  rw [hs, k.gap o ho] at h1
  cases h1
theorem SameS.symm {S T : Int → Int → Option Value} (h : SameS S T) : SameS T S := fun o s => (h o s).symm
theorem RunsOf.eq {S T : Int → Int → Option Value} {R Q : Nat → List Value} (h : RunsOf S R) (k : RunsOf T Q) (hs : SameS S T) {o : Nat} (ho : o < 7) : (R o).length = (Q o).length := Nat.le_antisymm (h.le k hs ho) (k.le h hs.symm ho)
theorem RunsOf.lens {S T : Int → Int → Option Value} {R Q : Nat → List Value} (h : RunsOf S R) (k : RunsOf T Q) (hs : SameS S T) : lensOf R = lensOf Q := by
  unfold lensOf
  rw [h.eq k hs (o := 0) (by decide), h.eq k hs (o := 1) (by decide), h.eq k hs (o := 2) (by decide), h.eq k hs (o := 3) (by decide), h.eq k hs (o := 4) (by decide), h.eq k hs (o := 5) (by decide), h.eq k hs (o := 6) (by decide)]
theorem RunsOf.sum {S T : Int → Int → Option Value} {R Q : Nat → List Value} (h : RunsOf S R) (k : RunsOf T Q) (hs : SameS S T) : sumR R = sumR Q := by
  unfold sumR
  rw [h.eq k hs (o := 0) (by decide), h.eq k hs (o := 1) (by decide), h.eq k hs (o := 2) (by decide), h.eq k hs (o := 3) (by decide), h.eq k hs (o := 4) (by decide), h.eq k hs (o := 5) (by decide), h.eq k hs (o := 6) (by decide)]
theorem KeysOn.mem {D : DataW Value} {S : Int → Int → Option Value} {R : Nat → List Value} (h : KeysOn D S R) {ss : List (Int × Int)} (hk : SortedK D ss) (o s : Int) : (o, s) ∈ ss ↔ MayD o s ∧ ((R o.toNat).length : Int) < s ∧ (S o s).isSome = true := by
  rw [hk.1.2 o s]
  constructor
  · rintro ⟨h1, h2, h3⟩
    rw [h o s h1 h2] at h3
    split at h3
    · next hc => exact ⟨hc.1, hc.2, h3⟩
    · cases h3
  · rintro ⟨h1, h2, h3⟩
    refine ⟨h1.i64.1, h1.i64.2, ?_⟩
    rw [h o s h1.i64.1 h1.i64.2, if_pos ⟨h1, h2⟩]
    exact h3
theorem extras_eq {D E : DataW Value} {S T : Int → Int → Option Value} {R Q : Nat → List Value} (hS : RunsOf S R) (hT : RunsOf T Q) (hs : SameS S T) (hD : KeysOn D S R) (hE : KeysOn E T Q) {ss tt : List (Int × Int)} (h1 : SortedK D ss) (h2 : SortedK E tt) : ss = tt := by
  refine dsorted_eqO ss tt h1.2 h2.2 ?_
  rintro ⟨o, s⟩
  rw [hD.mem h1, hE.mem h2]
  constructor
  · rintro ⟨a, b, c⟩
    refine ⟨a, ?_, by rw [← hs]; exact c⟩
    have := hS.eq hT hs (o := o.toNat) (by unfold MayD at a; omega)
    omega
  · rintro ⟨a, b, c⟩
    refine ⟨a, ?_, by rw [hs]; exact c⟩
    have := hS.eq hT hs (o := o.toNat) (by unfold MayD at a; omega)
    omega
/-- As many keys as there are. -/
theorem keysK_len {w : World} {m n : Nat} {D : DataW Value} (h : w.ownsMap Tryz.prog 31 valR m n D) {ss : List (Int × Int)} (hk : KeysOf' D ss) : Maps.size D ≤ ss.length := by
  have hh := allHeld_of h
  obtain ⟨es, e, hp, _⟩ := h.entries Tryz.keyedDot
  have hkey : ∀ p ∈ es, ∃ o s, I64 o ∧ I64 s ∧ p.1 = dk o s := by
    obtain ⟨es', clock, _, F, _, e2⟩ := h
    rw [e] at e2
    cases e2
    intro p hp'
    obtain ⟨x, hx, rfl⟩ := List.mem_map.1 (mem_sorted.1 hp')
    obtain ⟨y, hy⟩ := F.reads x hx
    rw [Go.WideElems.rg_of hy]
    obtain ⟨o, s, _, h1, h2, h3⟩ := dk_inv (Go.WideElems.rd_key hy)
    exact ⟨o, s, h2, h3, h1⟩
  have hd : (es.map (·.1)).Nodup := by
    rw [List.nodup_iff_pairwise_ne, List.pairwise_map]
    exact hp
  have hz : Maps.size D = (es.map (·.1)).length := by rw [e, Maps.size_eq, List.length_map]
  have hl : ss.length = (ss.map (fun x : Int × Int => dk x.1 x.2)).length := by simp
  rw [hz, hl]
  refine nodup_le hd (fun kl hkl => ?_)
  obtain ⟨p, hp', rfl⟩ := List.mem_map.1 hkl
  obtain ⟨o, s, h1, h2, h3⟩ := hkey p hp'
  have hhas : Maps.has D (dk o s) = true := by
    rw [e, Maps.has_eq, List.any_eq_true]
    exact ⟨p, hp', by rw [h3, same_dk h1 h2 h1 h2]; simp⟩
  rw [has_look hh] at hhas
  exact List.mem_map.2 ⟨(o, s), (hk.2 o s).2 ⟨h1, h2, hhas⟩, h3.symm⟩
theorem lens_le (R : Nat → List Value) : (plainOf (lensOf R)).length ≤ 7 := by
  rw [plain_len]
  exact endOf_le (lensOf R)
theorem sum_cnt (R : Nat → List Value) : cntV (plainOf (lensOf R)) = (sumR R : Int) := by
  have hl : (plainOf (lensOf R)).length ≤ 7 := lens_le R
  rw [cnt_all _ hl, cntF_ext 7 (g := fun i => ((R i).length : Int)) (fun i hi => lens_getD R hi)]
  simp only [cntF, sumR]
  omega
section
variable {w : World} {p m N : Nat} {rs : Nat → Value} {R : Nat → List Value} {D : DataW Value} {S : Int → Int → Option Value}
theorem In.its_nodup1 {f : Int → Int → Bool} {its : List In.It} (h : In.ItsOf S f its) : (its.map (·.1)).Nodup := by
  rw [List.nodup_iff_pairwise_ne, List.pairwise_map]
  refine h.1.imp ?_
  intro x y hxy e
  rw [e] at hxy
  rw [cmpD_lt] at hxy
  omega
/-- Of a set's own vector there are as many as its runs have. -/
theorem In.its_vec (h : In.DotsAt w p rs R m D S N) {us : List In.It} (hu : In.ItsOf S (fun o s => decide (HasV (plainOf (lensOf R)) o s)) us) : us.length = sumR R := by
  have hl : (plainOf (lensOf R)).length ≤ 7 := lens_le R
  have key : us.length = (dotsAll [] (plainOf (lensOf R))).length := by
    have e : us.length = (us.map (·.1)).length := by simp
    rw [e]
    refine Nat.le_antisymm (nodup_le (In.its_nodup1 hu) ?_) (nodup_le (nodup_dotsAll _ _) ?_)
    · rintro ⟨x, y⟩ hm
      obtain ⟨⟨⟨o, s⟩, t⟩, h3, h4⟩ := List.mem_map.1 hm
      simp only [Prod.mk.injEq] at h4
      obtain ⟨rfl, rfl⟩ := h4
      obtain ⟨h5, h6⟩ := (hu.2 o s t).1 h3
      have hM : MayD o s := by
        by_cases hM : MayD o s
        · exact hM
        · rw [h.pre.out o s hM] at h5
          cases h5
      obtain ⟨k, rfl⟩ := Int.eq_ofNat_of_zero_le hM.1.1
      exact has_mem (of_decide_eq_true h6)
    · rintro ⟨x, y⟩ hm
      have hh := mem_has hm
      obtain ⟨k, h1, rfl, h2, h3⟩ := mem_dotsAll.1 hm
      have e0 : hadOf [] k = 0 := by simp [hadOf]
      rw [e0] at h2
      rw [lens_getD R (by omega)] at h3
      have h4 := (In.DotsAt.runsOf h).has k (by omega) y (by omega) (by omega)
      obtain ⟨v, hv⟩ := Option.isSome_iff_exists.1 h4
      obtain ⟨t, rfl⟩ := h.pre.ones _ _ _ hv
      exact List.mem_map.2 ⟨(((k : Int), y), t), (hu.2 _ _ t).2 ⟨hv, decide_eq_true hh⟩, rfl⟩
  have h1 := dotsAll_cnt (plainOf (lensOf R))
  rw [sum_cnt] at h1
  omega
end
/-- A set has just the dots that may be and of which P is said. -/
def HasD (S : Int → Int → Option Value) (P : Int → Int → Prop) : Prop := ∀ o s, (S o s).isSome = true ↔ MayD o s ∧ P o s
theorem HasD.same {S T : Int → Int → Option Value} {P Q : Int → Int → Prop} (h : HasD S P) (k : HasD T Q) (hpq : ∀ o s, P o s ↔ Q o s) : SameS S T := fun o s => by
  have h1 := h o s
  have h2 := k o s
  have h3 := hpq o s
  cases e1 : (S o s).isSome <;> cases e2 : (T o s).isSome <;> simp_all
theorem HasD.keep {S : Int → Int → Option Value} {P Q : Int → Int → Prop} {N : Nat} {o s : Int} (h : HasD S P) (hc : addCode S N o s ≠ 0) (hN : N < 65536) (hQ : ∀ o' s', Q o' s' ↔ P o' s' ∨ (o' = o ∧ s' = s)) : HasD S Q := fun o' s' => by
  rw [h o' s', hQ o' s']
  constructor
  · rintro ⟨a, b⟩
    exact ⟨a, .inl b⟩
  · rintro ⟨a, b | ⟨rfl, rfl⟩⟩
    · exact ⟨a, b⟩
    · refine (h o' s').1 ?_
      unfold addCode at hc
      rw [if_pos a] at hc
      by_cases hS : (S o' s').isSome = true
      · exact hS
      · rw [if_neg hS, if_neg (by omega)] at hc
        exact absurd rfl hc
theorem HasD.put {S : Int → Int → Option Value} {P Q : Int → Int → Prop} {N : Nat} {o s : Int} {x : Value} (h : HasD S P) (hc : addCode S N o s = 0) (hQ : ∀ o' s', Q o' s' ↔ P o' s' ∨ (o' = o ∧ s' = s)) : HasD (updS S o s x) Q := fun o' s' => by
  have hm : MayD o s := by
    unfold addCode at hc
    by_cases hm : MayD o s
    · exact hm
    · rw [if_neg hm] at hc
      cases hc
  rw [hQ o' s']
  unfold updS
  by_cases e : o' = o ∧ s' = s
  · rw [if_pos e]
    obtain ⟨rfl, rfl⟩ := e
    simp [hm]
  · rw [if_neg e, h o' s']
    constructor
    · rintro ⟨a, b⟩
      exact ⟨a, .inl b⟩
    · rintro ⟨a, b | b⟩
      · exact ⟨a, b⟩
      · exact absurd b e
/-- The place that comes at i from behind, k further. -/
def backO (n k i : Nat) : Nat := n - 1 - (i + k) % n
theorem backO_lt {n k i : Nat} (h : i < n) : backO n k i < n := by
  unfold backO
  omega
theorem backO_onto {n k j : Nat} (hk : k < n) (hj : j < n) : ∃ i, i < n ∧ backO n k i = j := by
  refine ⟨(n - 1 - j + (n - k)) % n, Nat.mod_lt _ (by omega), ?_⟩
  unfold backO
  rw [Nat.mod_add_mod, show n - 1 - j + (n - k) + k = n - 1 - j + n by omega, Nat.add_mod_right, Nat.mod_eq_of_lt (by omega)]
  omega
end Go.Proofs.YtjcoahcbdlpcpaaGreat
