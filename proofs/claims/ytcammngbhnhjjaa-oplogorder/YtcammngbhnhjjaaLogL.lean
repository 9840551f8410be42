/-
  What is known of the events that were put: the first one of each dot waits or is applied.
-/
import Derived.Test.YtcammngbhnhjjaaLogJb
import Derived.Test.YtcammngbhnhjjaaSeqG
namespace Go.Proofs.Ytcammngbhnhjjaa
open Go.RowKit Go.Maps

theorem ofV_plainOf (A : List Int) (o : Int) : ofV (plainOf A) o = ofV A o := by
  by_cases h : o < 0
  · unfold ofV
    rw [if_pos (.inl h), if_pos (.inl h)]
  · obtain ⟨k, rfl⟩ := Int.eq_ofNat_of_zero_le (show 0 ≤ o by omega)
    rw [ofV_nat, ofV_nat, plain_getD]
theorem hasV_plainOf (A : List Int) (o s : Int) : HasV (plainOf A) o s ↔ HasV A o s := by
  unfold HasV
  rw [ofV_plainOf]
theorem belowV_plainOf (v A : List Int) : BelowV v (plainOf A) ↔ BelowV v A := by
  rw [belowV_iff, belowV_iff]
  exact ⟨fun h i => by have := h i; rw [plain_getD] at this; exact this, fun h i => by rw [plain_getD]; exact h i⟩
/-- The first event of a dot that may be. -/
def firstM (l : List Ev) (o s : Int) : Option Ev := l.find? fun e => decide ((e.o = o ∧ e.s = s) ∧ MayE e)
theorem firstM_snoc_some {l : List Ev} {x e : Ev} {o s : Int} (h : firstM l o s = some e) : firstM (l ++ [x]) o s = some e := by
  unfold firstM at *
  rw [List.find?_append, h]
  rfl
theorem firstM_none {l : List Ev} {o s : Int} (h : ∀ e ∈ l, ¬ ((e.o = o ∧ e.s = s) ∧ MayE e)) : firstM l o s = none := by
  unfold firstM
  rw [List.find?_eq_none]
  intro e he
  simpa using h e he
theorem firstM_snoc_new {l : List Ev} {x : Ev} (h : ∀ e ∈ l, ¬ ((e.o = x.o ∧ e.s = x.s) ∧ MayE e)) (hm : MayE x) : firstM (l ++ [x]) x.o x.s = some x := by
  have := firstM_none h
  unfold firstM at *
  rw [List.find?_append, this]
  simp [hm]
theorem firstM_at {l : List Ev} {o s : Int} {n : Nat} (hn : n < l.length) (h : ∀ m (hm : m < l.length), m < n → ¬ ((l[m].o = o ∧ l[m].s = s) ∧ MayE l[m])) (hx : (l[n].o = o ∧ l[n].s = s) ∧ MayE l[n]) : firstM l o s = some l[n] := by
  unfold firstM
  rw [List.find?_eq_some_iff_getElem]
  exact ⟨by simpa using hx, n, hn, rfl, fun j hj => by simp only [Bool.not_eq_true', decide_eq_false_iff_not]; exact h j (by omega) hj⟩
/-- Behind the events l. -/
structure KnownG (l : List Ev) (g : Lg) : Prop where
  first : ∀ o s y, g.W o s = some y → firstM l o s = some y.e
  known : ∀ e ∈ l, MayE e → HasV g.A e.o e.s ∨ (g.W e.o e.s).isSome = true
  few : g.ne + g.nw ≤ l.length
  stuck : StuckG g
theorem KnownG.start : KnownG [] emptyLg := ⟨fun o s y h => (by cases h), fun e he => (by cases he), Nat.le_refl _, .inr fun o s x h => by cases h⟩
theorem KnownG.same {l : List Ev} {g : Lg} {x : Ev} (h : KnownG l g) (hx : MayE x → HasV g.A x.o x.s ∨ (g.W x.o x.s).isSome = true) : KnownG (l ++ [x]) g := by
  refine ⟨fun o s y hy => firstM_snoc_some (h.first o s y hy), fun e he hm => ?_, by rw [List.length_append]; exact Nat.le_succ_of_le h.few, h.stuck⟩
  rcases List.mem_append.1 he with he | he
  · exact h.known e he hm
  · rw [List.mem_singleton.1 he] at hm ⊢
    exact hx hm
/-- One more was put. -/
theorem KnownG.put {w w' : World} {p me mw : Nat} {l : List Ev} {g : Lg} {x : Ev} {e : Ending} (h : KnownG l g) (hl : l.length < 4000) (hL : LogAt w p me mw g) (hp : PutP w p me mw g x e w') : ∃ v c g', e = .returned (.tuple #[v, .int .i64 c]) ∧ KnownG (l ++ [x]) g' ∧ AtG w p me mw g' w' := by
  have stay : ∀ {w'}, Below w.heap.size w w' → AtG w p me mw g w' := fun hb => ⟨hL.below hb, Turns.of_below hb (Nat.le_refl _)⟩
  cases hp with
  | wrong h1 h2 => exact ⟨_, _, g, rfl, h.same (fun hm => absurd hm h1), stay h2⟩
  | twice _ h1 h2 => exact ⟨_, _, g, rfl, h.same (fun _ => h1.symm), stay h2⟩
  | full _ _ _ h1 _ =>
    exfalso
    have := h.few
    rcases h1 with h1 | ⟨_, h1⟩ <;> omega
  | waits hm hw hh hn hr hnw hy hat =>
    rename_i y
    refine ⟨_, _, _, rfl, ⟨fun o s z hz => ?_, fun e he hme => ?_, ?_, ?_⟩, hat⟩
    · have hz' : updD g.W y.e.o y.e.s (some y) o s = some z := hz
      by_cases hc : o = y.e.o ∧ s = y.e.s
      · obtain ⟨rfl, rfl⟩ := hc
        rw [updD_same] at hz'
        cases hz'
        rw [hy]
        refine firstM_snoc_new (fun e he hc => ?_) hm
        rcases h.known e he hc.2 with h1 | h1
        · rw [hc.1.1, hc.1.2] at h1
          exact hh h1
        · rw [hc.1.1, hc.1.2, hw] at h1
          cases h1
      · rw [updD_other _ _ hc] at hz'
        exact firstM_snoc_some (h.first o s z hz')
    · show HasV g.A e.o e.s ∨ (updD g.W y.e.o y.e.s (some y) e.o e.s).isSome = true
      by_cases hc : e.o = y.e.o ∧ e.s = y.e.s
      · rw [hc.1, hc.2, updD_same]
        exact .inr rfl
      · rw [updD_other _ _ hc]
        rcases List.mem_append.1 he with he | he
        · exact h.known e he hme
        · rw [List.mem_singleton.1 he, hy] at hc
          exact absurd ⟨rfl, rfl⟩ hc
    · show g.ne + (g.nw + 1) ≤ _
      have := h.few
      rw [List.length_append]
      show _ ≤ l.length + 1
      omega
    · refine .inr fun o s z hz hrz => ?_
      have hz' : updD g.W y.e.o y.e.s (some y) o s = some z := hz
      by_cases hc : o = y.e.o ∧ s = y.e.s
      · obtain ⟨rfl, rfl⟩ := hc
        rw [updD_same] at hz'
        cases hz'
        rw [hy] at hrz
        exact hr hrz
      · rw [updD_other _ _ hc] at hz'
        rcases h.stuck with h1 | h1
        · exact absurd h1 (by omega)
        · exact h1 o s z hz' hrz
  | goes hm hw hh hn hr hrow hfirst hran hst hat =>
    rename_i v ys g'
    have hA : ∀ o s, HasV g.A o s ∨ InL (ys.map (·.e)) o s → HasV g'.A o s := fun o s hc => by
      rw [← hat.1.has]
      by_cases hi : InL (ys.map (·.e)) o s
      · obtain ⟨e, he, rfl, rfl⟩ := hi
        obtain ⟨z, hz, _⟩ := hran.E.2 e he
        rw [hz]
        rfl
      · rw [hran.E.1 o s hi, hL.has]
        exact hc.resolve_right hi
    refine ⟨_, _, g', rfl, ⟨fun o s z hz => ?_, fun e he hme => ?_, ?_, hst⟩, hat⟩
    · rw [hran.W] at hz
      split at hz
      · cases hz
      · exact firstM_snoc_some (h.first o s z hz)
    · rw [hran.W]
      by_cases hi : InL (ys.map (·.e)) e.o e.s
      · exact .inl (hA _ _ (.inr hi))
      · rw [if_neg hi]
        rcases List.mem_append.1 he with he | he
        · rcases h.known e he hme with h1 | h1
          · exact .inl (hA _ _ (.inl h1))
          · exact .inr h1
        · exfalso
          rw [List.mem_singleton.1 he] at hi
          obtain ⟨r, hr'⟩ := hfirst
          exact hi ⟨x, by rw [hr']; exact List.mem_cons_self .., rfl, rfl⟩
    · have h1 := hran.ne
      have h2 := hran.nw
      have h3 := h.few
      rw [List.length_append]
      show _ ≤ l.length + 1
      omega
end Go.Proofs.Ytcammngbhnhjjaa
/-
  The law's lives (oplog): what must come of every program.
-/
namespace Go.Proofs.Ytcammngbhnhjjaa
open Go.RowKit Go.Maps

def bC : ByteArray := { data := #[99] }
def bS : ByteArray := { data := #[115] }
def lvB : Ev := ⟨0, 2, [1], bC, 0, bS, 1, false⟩
def lvA : Ev := ⟨0, 1, [], bC, 0, bS, 1, false⟩
theorem mayB : MayE lvB := by decide +kernel
theorem mayA : MayE lvA := by decide +kernel
theorem putB {w w' : World} {p me mw : Nat} {e : Ending} (h : PutP w p me mw emptyLg lvB e w') : ∃ y : EvM, y.e = lvB ∧ e = .returned (.tuple #[.slice none 0 0, .int .i64 0]) ∧ AtG w p me mw (waitG emptyLg y) w' := by
  have hr : ¬ ReadyE emptyLg.A lvB := by decide +kernel
  have hh : ¬ HasV emptyLg.A lvB.o lvB.s := by decide +kernel
  cases h with
  | wrong h1 _ => exact absurd mayB h1
  | twice _ h1 _ =>
    rcases h1 with h1 | h1
    · cases h1
    · exact absurd h1 hh
  | full _ _ _ h1 _ =>
    rcases h1 with h1 | ⟨_, h1⟩
    · exact absurd h1 (by decide)
    · exact absurd h1 (by decide)
  | goes _ _ _ _ h1 => exact absurd h1 hr
  | waits _ _ _ _ _ _ h1 h2 => exact ⟨_, h1, rfl, h2⟩
/-- The log in which b waits. -/
theorem putA {w w' : World} {p me mw : Nat} {e : Ending} {y : EvM} (hy : y.e = lvB) (h : PutP w p me mw (waitG emptyLg y) lvA e w') : ∃ v ys g', e = .returned (.tuple #[v, .int .i64 0]) ∧ RowE w.heap.size w' v ys ∧ ys.map (·.e) = [lvA, lvB] ∧ g'.A = [2] ∧ AtG w p me mw g' w' := by
  have hW : ∀ o s, (waitG emptyLg y).W o s = if o = 0 ∧ s = 2 then some y else none := fun o s => by
    show updD _ y.e.o y.e.s (some y) o s = _
    rw [hy]
    rfl
  have hr : ReadyE (waitG emptyLg y).A lvA := (by decide +kernel : ReadyE [] lvA)
  have hh : ¬ HasV (waitG emptyLg y).A lvA.o lvA.s := (by decide +kernel : ¬ HasV [] 0 1)
  have hw : (waitG emptyLg y).W lvA.o lvA.s = none := by rw [hW, if_neg (by decide)]
  cases h with
  | wrong h1 _ => exact absurd mayA h1
  | twice _ h1 _ =>
    rcases h1 with h1 | h1
    · rw [hw] at h1
      cases h1
    · exact absurd h1 hh
  | full _ _ _ h1 _ =>
    rcases h1 with h1 | ⟨h1, _⟩
    · exact absurd h1 (by show ¬ 65536 ≤ 0; decide)
    · exact absurd hr h1
  | waits _ _ _ _ h1 => exact absurd hr h1
  | goes _ _ _ _ _ h1 h2 h3 h4 h5 =>
    obtain ⟨r, hr'⟩ := h2
    have hwt := h3.waited
    have hnw := h3.nw
    have hst := h4
    have hA := h3.A
    have hne := h3.ne
    have hWW := h3.W
    rw [hr'] at hwt hnw hA hne hWW
    have hrl : r.length ≤ 1 := by
      have h6 : (waitG emptyLg y).nw = 1 := rfl
      rw [h6, List.length_cons] at hnw
      omega
    have hall : ∀ e ∈ r, e = lvB := fun e he => by
      obtain ⟨x, hx, rfl⟩ := hwt e he
      rw [hW] at hx
      split at hx
      · cases hx
        exact hy
      · cases hx
    cases r with
    | nil =>
      exfalso
      rename_i g'
      have h6 : (waitG emptyLg y).ne = 0 := rfl
      rw [h6] at hne
      rcases hst with hst | hst
      · rw [hne] at hst
        exact absurd hst (by decide)
      · refine hst 0 2 y ?_ ?_
        · rw [hWW, if_neg (by decide +kernel), hW, if_pos ⟨rfl, rfl⟩]
        · rw [hA, hy]
          exact (by decide +kernel : ReadyE (addL [] [lvA]) lvB)
    | cons e r2 =>
      have he := hall e (List.mem_cons_self ..)
      cases r2 with
      | cons _ _ =>
        simp at hrl
      | nil =>
        subst he
        refine ⟨_, _, _, rfl, h1, hr', ?_, h5⟩
        rw [hA]
        exact (by decide +kernel : addL [] [lvA, lvB] = [2])
theorem putA2 {w w' : World} {p me mw : Nat} {e : Ending} {g : Lg} (hA : g.A = [2]) (h : PutP w p me mw g lvA e w') : e = .returned (.tuple #[.slice none 0 0, .int .i64 5]) ∧ Below w.heap.size w w' := by
  have hh : HasV g.A lvA.o lvA.s := by rw [hA]; decide +kernel
  cases h with
  | wrong h1 _ => exact absurd mayA h1
  | twice _ _ h1 => exact ⟨rfl, h1⟩
  | full _ _ h1 _ _ => exact absurd hh h1
  | goes _ _ h1 => exact absurd hh h1
  | waits _ _ h1 => exact absurd hh h1
theorem waitsB {y : EvM} (hy : y.e = lvB) {ss : List (Int × Int)} (h : WaitsOf (waitG emptyLg y) ss) : ss = [(0, 2)] := by
  have hW : ∀ o s, (waitG emptyLg y).W o s = if o = 0 ∧ s = 2 then some y else none := fun o s => by
    show updD _ y.e.o y.e.s (some y) o s = _
    rw [hy]
    rfl
  have hm : ∀ d, d ∈ ss ↔ d = (0, 2) := fun ⟨o, s⟩ => by
    rw [h.2.1, hW]
    simp only [Prod.mk.injEq]
    split
    · next hc => simp [hc]
    · next hc => simp; omega
  cases ss with
  | nil => exact absurd ((hm (0, 2)).2 rfl) (by simp)
  | cons d r =>
    have h1 := (hm d).1 (List.mem_cons_self ..)
    subst h1
    cases r with
    | nil => rfl
    | cons e r2 =>
      have h2 := (hm e).1 (by simp)
      have h3 := h.1
      rw [h2] at h3
      simp at h3
end Go.Proofs.Ytcammngbhnhjjaa
