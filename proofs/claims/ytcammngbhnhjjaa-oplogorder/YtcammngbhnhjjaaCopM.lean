/-
  Package oplog, mathematics: what a put makes of a log, with no memory in it; what is known behind a row of puts; a log that has all that another one applied is not below it.
-/
import Derived.Test.YtcammngbhnhjjaaClosM
namespace Go.Proofs.Ytcammngbhnhjjaa
open Go.RowKit Go.Maps

def HasG (g : Lg) : Prop := ∀ o s, (g.E o s).isSome = true ↔ HasV g.A o s
/-- What Put of x makes of g, and its answer. -/
inductive PutG (g : Lg) (x : Ev) : Int → Lg → Prop
  | wrong : ¬ MayE x → PutG g x 100 g
  | twice : MayE x → ((g.W x.o x.s).isSome = true ∨ HasV g.A x.o x.s) → PutG g x 5 g
  | full : MayE x → g.W x.o x.s = none → ¬ HasV g.A x.o x.s → (65536 ≤ g.ne ∨ (¬ ReadyE g.A x ∧ 4096 ≤ g.nw)) → PutG g x 2 g
  | goes {ys g'} : MayE x → g.W x.o x.s = none → ¬ HasV g.A x.o x.s → g.ne < 65536 → ReadyE g.A x → (∃ r, ys = x :: r) → RanG g ys g' → StuckG g' → PutG g x 0 g'
  | waits {y} : MayE x → g.W x.o x.s = none → ¬ HasV g.A x.o x.s → g.ne < 65536 → ¬ ReadyE g.A x → g.nw < 4096 → y.e = x → PutG g x 0 (waitG g y)
theorem PutP.toG {w w' : World} {p me mw : Nat} {g : Lg} {x : Ev} {e : Ending} (hL : LogAt w p me mw g) (hp : PutP w p me mw g x e w') : ∃ v c g', e = .returned (.tuple #[v, .int .i64 c]) ∧ PutG g x c g' ∧ AtG w p me mw g' w' := by
  have stay : ∀ {w'}, Below w.heap.size w w' → AtG w p me mw g w' := fun hb => ⟨hL.below hb, Turns.of_below hb (Nat.le_refl _)⟩
  cases hp with
  | wrong h1 h2 => exact ⟨_, _, g, rfl, .wrong h1, stay h2⟩
  | twice h0 h1 h2 => exact ⟨_, _, g, rfl, .twice h0 h1, stay h2⟩
  | full h0 h1 h2 h3 h4 => exact ⟨_, _, g, rfl, .full h0 h1 h2 h3, stay h4⟩
  | goes hm hw hh hn hr hrow hfirst hran hst hat => exact ⟨_, _, _, rfl, .goes hm hw hh hn hr hfirst hran hst, hat⟩
  | waits hm hw hh hn hr hnw hy hat => exact ⟨_, _, _, rfl, .waits hm hw hh hn hr hnw hy, hat⟩
theorem addL_append (A : List Int) (l r : List Ev) : addL A (l ++ r) = addL (addL A l) r := by simp [addL]
theorem readyL_append {l r : List Ev} : ∀ {A : List Int}, ReadyL A l → ReadyL (addL A l) r → ReadyL A (l ++ r) := by
  induction l with
  | nil => intro A _ h; exact h
  | cons y t ih => intro A h k; exact ⟨h.1, ih h.2 k⟩
/-- Behind the events l: the first of each dot that may be is there; what is applied came in some order, each one ready. -/
structure KnH (l : List Ev) (g : Lg) : Prop where
  has : HasG g
  first : ∀ o s y, g.W o s = some y → firstM l o s = some y.e
  firstE : ∀ o s y, g.E o s = some y → firstM l o s = some y.e
  known : ∀ e ∈ l, MayE e → HasV g.A e.o e.s ∨ (g.W e.o e.s).isSome = true
  few : g.ne + g.nw ≤ l.length
  stuck : StuckG g
  hist : ∃ L, ReadyL [] L ∧ g.A = addL [] L ∧ L.length = g.ne ∧ (∀ e ∈ L, ∃ y, g.E e.o e.s = some y ∧ y.e = e) ∧ ∀ e ∈ L, MayE e
theorem KnH.start : KnH [] emptyLg :=
  ⟨fun o s => ⟨fun h => (by cases h), fun h => (by have h1 := h.1; have h2 := h.2; unfold emptyLg ofV at h2; simp at h2; omega)⟩, fun o s y h => (by cases h), fun o s y h => (by cases h), fun e he => (by cases he), Nat.le_refl _, .inr (fun o s x h => by cases h), [], trivial, rfl, rfl, fun e he => (by cases he), fun e he => (by cases he)⟩
theorem KnH.same {l : List Ev} {g : Lg} {x : Ev} (h : KnH l g) (hx : MayE x → HasV g.A x.o x.s ∨ (g.W x.o x.s).isSome = true) : KnH (l ++ [x]) g := by
  refine ⟨h.has, fun o s y hy => firstM_snoc_some (h.first o s y hy), fun o s y hy => firstM_snoc_some (h.firstE o s y hy), fun e he hm => ?_, by rw [List.length_append]; exact Nat.le_succ_of_le h.few, h.stuck, h.hist⟩
  rcases List.mem_append.1 he with he | he
  · exact h.known e he hm
  · rw [List.mem_singleton.1 he] at hm ⊢
    exact hx hm
/-- One more was put. -/
theorem KnH.put {l : List Ev} {g g' : Lg} {x : Ev} {c : Int} (h : KnH l g) (hl : l.length < 4096) (hG : HasG g') (hp : PutG g x c g') : KnH (l ++ [x]) g' ∧ (MayE x → c = 0 ∨ c = 5) := by
  cases hp with
  | wrong h1 => exact ⟨h.same (fun hm => absurd hm h1), fun hm => absurd hm h1⟩
  | twice _ h1 => exact ⟨h.same (fun _ => h1.symm), fun _ => .inr rfl⟩
  | full _ _ _ h1 =>
    exfalso
    have := h.few
    rcases h1 with h1 | ⟨_, h1⟩ <;> omega
  | waits hm hw hh hn hr hnw hy =>
    rename_i y
    refine ⟨⟨hG, fun o s z hz => ?_, fun o s z hz => firstM_snoc_some (h.firstE o s z hz), fun e he hme => ?_, ?_, ?_, h.hist⟩, fun _ => .inl rfl⟩
    · have hz' : updD g.W y.e.o y.e.s (some y) o s = some z := hz
      by_cases hc : o = y.e.o ∧ s = y.e.s
      · obtain ⟨rfl, rfl⟩ := hc
        rw [updD_same] at hz'
        cases hz'
        rw [hy]
        refine firstM_snoc_new (fun e he hc => ?_) hm
        rcases h.known e he hc.2 with h1 | h1
        · rw [hc.1.1, hc.1.2] at h1
          exact hh h1
        · rw [hc.1.1, hc.1.2, hw] at h1
          cases h1
      · rw [updD_other _ _ hc] at hz'
        exact firstM_snoc_some (h.first o s z hz')
    · show HasV g.A e.o e.s ∨ (updD g.W y.e.o y.e.s (some y) e.o e.s).isSome = true
      by_cases hc : e.o = y.e.o ∧ e.s = y.e.s
      · rw [hc.1, hc.2, updD_same]
        exact .inr rfl
      · rw [updD_other _ _ hc]
        rcases List.mem_append.1 he with he | he
        · exact h.known e he hme
        · rw [List.mem_singleton.1 he, hy] at hc
          exact absurd ⟨rfl, rfl⟩ hc
    · show g.ne + (g.nw + 1) ≤ _
      have := h.few
      rw [List.length_append]
      show _ ≤ l.length + 1
      omega
    · refine .inr fun o s z hz hrz => ?_
      have hz' : updD g.W y.e.o y.e.s (some y) o s = some z := hz
      by_cases hc : o = y.e.o ∧ s = y.e.s
      · obtain ⟨rfl, rfl⟩ := hc
        rw [updD_same] at hz'
        cases hz'
        rw [hy] at hrz
        exact hr hrz
      · rw [updD_other _ _ hc] at hz'
        rcases h.stuck with h1 | h1
        · exact absurd h1 (by omega)
        · exact h1 o s z hz' hrz
  | goes hm hw hh hn hr hfirst hran hst =>
    rename_i ys
    have hA : ∀ o s, HasV g.A o s ∨ InL ys o s → HasV g'.A o s := fun o s hc => by
      rw [← hG]
      by_cases hi : InL ys o s
      · obtain ⟨e, he, rfl, rfl⟩ := hi
        obtain ⟨z, hz, _⟩ := hran.E.2 e he
        rw [hz]
        rfl
      · rw [hran.E.1 o s hi, h.has]
        exact hc.resolve_right hi
    obtain ⟨r, hys⟩ := hfirst
    have hE : ∀ o s y, g'.E o s = some y → firstM (l ++ [x]) o s = some y.e := fun o s y hy => by
      by_cases hi : InL ys o s
      · obtain ⟨e, he, rfl, rfl⟩ := hi
        obtain ⟨z, hz, hze⟩ := hran.E.2 e he
        rw [hz] at hy
        cases hy
        rw [hze]
        rw [hys] at he
        rcases List.mem_cons.1 he with rfl | he
        · refine firstM_snoc_new (fun e' he' hc => ?_) hm
          rcases h.known e' he' hc.2 with h1 | h1
          · rw [hc.1.1, hc.1.2] at h1
            exact hh h1
          · rw [hc.1.1, hc.1.2, hw] at h1
            cases h1
        · obtain ⟨X, hX, hXe⟩ := hran.waited e (by rw [hys]; exact he)
          have := h.first _ _ _ hX
          rw [hXe] at this
          exact firstM_snoc_some this
      · rw [hran.E.1 o s hi] at hy
        exact firstM_snoc_some (h.firstE o s y hy)
    refine ⟨⟨hG, fun o s z hz => ?_, hE, fun e he hme => ?_, ?_, hst, ?_⟩, fun _ => .inl rfl⟩
    · rw [hran.W] at hz
      split at hz
      · cases hz
      · exact firstM_snoc_some (h.first o s z hz)
    · rw [hran.W]
      by_cases hi : InL ys e.o e.s
      · exact .inl (hA _ _ (.inr hi))
      · rw [if_neg hi]
        rcases List.mem_append.1 he with he | he
        · rcases h.known e he hme with h1 | h1
          · exact .inl (hA _ _ (.inl h1))
          · exact .inr h1
        · exfalso
          rw [List.mem_singleton.1 he] at hi
          exact hi ⟨x, by rw [hys]; exact List.mem_cons_self .., rfl, rfl⟩
    · have h1 := hran.ne
      have h2 := hran.nw
      have h3 := h.few
      rw [List.length_append]
      show _ ≤ l.length + 1
      omega
    · obtain ⟨L, h1, h2, h3, h4, h5⟩ := h.hist
      refine ⟨L ++ ys, readyL_append h1 (by rw [← h2]; exact hran.ready), by rw [addL_append, ← h2]; exact hran.A, by rw [List.length_append, h3, hran.ne], fun e he => ?_, fun e he => ?_⟩
      · rcases List.mem_append.1 he with he | he
        · obtain ⟨y, hy, hye⟩ := h4 e he
          have hs : (g'.E e.o e.s).isSome = true := (hG _ _).2 (hA _ _ (.inl ((h.has _ _).1 (by rw [hy]; rfl))))
          obtain ⟨z, hz⟩ := Option.isSome_iff_exists.1 hs
          have k1 := hE _ _ _ hz
          have k2 := firstM_snoc_some (x := x) (h.firstE _ _ _ hy)
          rw [k1] at k2
          injection k2 with k2
          exact ⟨z, hz, k2.trans hye⟩
        · exact hran.E.2 e he
      · rcases List.mem_append.1 he with he | he
        · exact h5 e he
        · exact hran.may e he
/-- A log that knows all that another one applied has applied it. -/
theorem copies_below {la lb : List Ev} {a b : Lg} (ha : KnH la a) (hb : KnH lb b) (hbn : b.ne < 65536) (hbm : MayV b.A) (hk : ∀ e y, a.E e.o e.s = some y → y.e = e → HasV b.A e.o e.s ∨ ∃ z, b.W e.o e.s = some z ∧ z.e = e) : BelowV a.A b.A := by
  obtain ⟨L, h1, h2, _, h4, h5⟩ := ha.hist
  have hpos : ∀ i, 0 ≤ b.A.getD i 0 := fun i => by
    by_cases hi : i < b.A.length
    · have := (hbm.2 _ (List.getElem_mem hi)).1
      simpa [List.getD, List.getElem?_eq_getElem hi] using this
    · rw [getD_far (by omega)]
      exact Int.le_refl 0
  have key : ∀ k, k ≤ L.length → BelowV (addL [] (L.take k)) b.A := by
    intro k
    induction k with
    | zero =>
      intro _
      refine belowV_iff.2 fun i => ?_
      simpa [addL] using hpos i
    | succ k ih =>
      intro hk'
      have hlt : k < L.length := by omega
      have ih := ih (by omega)
      have hrd := readyL_at hlt h1
      obtain ⟨x, hx⟩ : ∃ x, x = L[k] := ⟨_, rfl⟩
      have hmem : x ∈ L := by rw [hx]; exact List.getElem_mem hlt
      rw [addL_take hlt, ← hx]
      rw [← hx] at hrd
      have hmx := h5 x hmem
      have hf := rightEv_iff hmx.1
      have ho : ((x.o.toNat : Nat) : Int) = x.o := by have := hf.o; omega
      have hle := belowV_iff.1 ih x.o.toNat
      have e1 : ∀ A : List Int, ofV A x.o = A.getD x.o.toNat 0 := fun A => by rw [← ofV_nat, ho]
      have hr1 := hrd.1
      rw [e1] at hr1
      have hhas : HasV b.A x.o x.s := by
        obtain ⟨y, hy, hye⟩ := h4 x hmem
        rcases hk x y hy hye with h | ⟨z, hz, hze⟩
        · exact h
        · by_cases hh : HasV b.A x.o x.s
          · exact hh
          · exfalso
            rcases hb.stuck with h6 | h6
            · omega
            · refine h6 _ _ z hz ?_
              rw [hze]
              refine ⟨?_, belowV_iff.2 fun i => Int.le_trans (belowV_iff.1 hrd.2 i) (belowV_iff.1 ih i)⟩
              rw [e1]
              unfold HasV at hh
              rw [e1] at hh
              have := hmx.2.1
              omega
      have h7 := hhas.2
      rw [e1] at h7
      refine belowV_iff.2 fun i => ?_
      rw [addA_getD]
      split
      · next hi => rw [hi]; exact h7
      · exact belowV_iff.1 ih i
  have := key L.length (Nat.le_refl _)
  rw [List.take_length, ← h2] at this
  exact this
theorem evL_none {a : Lg} {v : List Int} (h : BelowV a.A v) : evL v a = [] := by
  have hm : ∀ k, moreOf v a.A k ≤ 0 := fun k => by
    have := belowV_iff.1 h k
    unfold moreOf hadOf
    omega
  unfold evL dotsAll
  have : ∀ d k, a.A.length - k = d → rowsFrom v a.A k = [] := by
    intro d
    induction d with
    | zero => intro k hk; exact rowsFrom_end v a.A (by omega)
    | succ d ih =>
      intro k hk
      rw [rowsFrom_step v a.A (by omega), ih (k + 1) (by omega), List.append_nil]
      apply List.eq_nil_of_length_eq_zero
      have := row_len v a.A k
      have := hm k
      omega
  rw [this _ 0 rfl]
  rfl
theorem evL_len (v : List Int) (a : Lg) : (evL v a).length ≤ (evL [] a).length := by
  unfold evL dotsAll
  rw [List.length_map, List.length_map]
  have : ∀ d k, a.A.length - k = d → (rowsFrom v a.A k).length ≤ (rowsFrom [] a.A k).length := by
    intro d
    induction d with
    | zero => intro k hk; rw [rowsFrom_end v a.A (by omega)]; exact Nat.zero_le _
    | succ d ih =>
      intro k hk
      have h1 := ih (k + 1) (by omega)
      rw [rowsFrom_step v a.A (by omega), rowsFrom_step [] a.A (by omega), List.length_append, List.length_append]
      have h2 := row_len v a.A k
      have h3 := row_len [] a.A k
      have h4 : moreOf v a.A k ≤ moreOf [] a.A k := by
        unfold moreOf hadOf
        simp
        omega
      omega
  exact this _ 0 rfl
end Go.Proofs.Ytcammngbhnhjjaa
/-
  What OplogCopies wants: what the one log has behind the other, put there; two logs side by side in memory.
-/
namespace Go.Proofs.Ytcammngbhnhjjaa
open Go.RowKit Go.Shelf Go.Maps

theorem firstM_spec {l : List Ev} {o s : Int} {e : Ev} (h : firstM l o s = some e) : e ∈ l ∧ e.o = o ∧ e.s = s ∧ MayE e := by
  unfold firstM at h
  have h1 := List.mem_of_find?_eq_some h
  have h2 := List.find?_some h
  have h3 : (e.o = o ∧ e.s = s) ∧ MayE e := by simpa using h2
  exact ⟨h1, h3.1.1, h3.1.2, h3.2⟩
theorem firstM_append (a b : List Ev) (o s : Int) : firstM (a ++ b) o s = (firstM a o s).or (firstM b o s) := by
  unfold firstM
  rw [List.find?_append]
theorem mem_dots {a b : List Int} {o s : Int} (hb : HasV b o s) (ha : ¬ HasV a o s) : (o, s) ∈ dotsAll a b := by
  have h1 := hb.1
  have h2 := hb.2
  have h3 : ¬ (o < 0 ∨ (b.length : Int) ≤ o) := fun hc => by
    unfold ofV at h2
    rw [if_pos hc] at h2
    omega
  obtain ⟨k, rfl⟩ := Int.eq_ofNat_of_zero_le (show 0 ≤ o by omega)
  rw [ofV_nat] at h2
  have h4 : ¬ s ≤ a.getD k 0 := fun hc => ha ⟨h1, by rw [ofV_nat]; exact hc⟩
  unfold dotsAll rowsFrom
  refine List.mem_flatMap.2 ⟨k, List.mem_range'_1.2 ⟨by omega, by omega⟩, ?_⟩
  unfold rowOf
  refine List.mem_map.2 ⟨(s - hadOf a k - 1).toNat, List.mem_range.2 ?_, ?_⟩
  · unfold moreOf hadOf
    omega
  · have h5 : hadOf a k < s := by unfold hadOf; omega
    have : hadOf a k + ((s - hadOf a k - 1).toNat : Int) + 1 = s := by omega
    rw [this]
/-- What b knows, when it was given all that a has behind its vector. -/
theorem copies_known {l : List Ev} {k : Nat} {a b0 b : Lg} {v : List Int} (ka : KnH l a) (k0 : KnH (l.take k) b0) (hv : ∀ o s, HasV v o s ↔ HasV b0.A o s) (kb : KnH (l.take k ++ (evL v a).reverse) b) :
    ∀ e y, a.E e.o e.s = some y → y.e = e → HasV b.A e.o e.s ∨ ∃ z, b.W e.o e.s = some z ∧ z.e = e := by
  intro e y hy hye
  have hf := ka.firstE _ _ _ hy
  rw [hye] at hf
  have hsp := firstM_spec hf
  have hA : HasV a.A e.o e.s := (ka.has _ _).1 (by rw [hy]; rfl)
  have hpre : ∀ e', firstM (l.take k) e.o e.s = some e' → e' = e := fun e' h => by
    have h1 := firstM_append (l.take k) (l.drop k) e.o e.s
    rw [List.take_append_drop, hf, h] at h1
    injection h1 with h1
    exact h1.symm
  have fin : HasV b.A e.o e.s ∨ (b.W e.o e.s).isSome = true → HasV b.A e.o e.s ∨ ∃ z, b.W e.o e.s = some z ∧ z.e = e := by
    rintro (h | h)
    · exact .inl h
    · right
      obtain ⟨z, hz⟩ := Option.isSome_iff_exists.1 h
      refine ⟨z, hz, ?_⟩
      have h1 := kb.first _ _ _ hz
      rw [firstM_append] at h1
      cases h2 : firstM (l.take k) e.o e.s with
      | some e' =>
        rw [h2] at h1
        injection h1 with h1
        rw [← h1]
        exact hpre e' h2
      | none =>
        rw [h2] at h1
        have h3 := firstM_spec (show firstM (evL v a).reverse e.o e.s = some z.e from h1)
        have h4 := List.mem_reverse.1 h3.1
        unfold evL at h4
        obtain ⟨d, hd, hde⟩ := List.mem_map.1 h4
        obtain ⟨x, hx⟩ := Option.isSome_iff_exists.1 ((ka.has d.1 d.2).2 (has_dots hd))
        have h5 : evAt a d = x.e := by unfold evAt; rw [hx]; rfl
        have h6 := firstM_spec (ka.firstE _ _ _ hx)
        rw [h5] at hde
        rw [hde] at h6
        rw [← h6.2.1, ← h6.2.2.1, h3.2.1, h3.2.2.1, hy] at hx
        injection hx with hx
        rw [← hde, ← hx]
        exact hye
  by_cases hb0 : HasV b0.A e.o e.s
  · obtain ⟨y', hy'⟩ := Option.isSome_iff_exists.1 ((k0.has _ _).2 hb0)
    have h1 := k0.firstE _ _ _ hy'
    have h2 := firstM_spec h1
    have h3 := hpre _ h1
    rw [h3] at h2
    exact fin (kb.known e (List.mem_append_left _ h2.1) h2.2.2.2)
  · have hd := mem_dots hA (fun h => hb0 ((hv _ _).1 h))
    have he : e ∈ evL v a := by
      unfold evL
      refine List.mem_map.2 ⟨_, hd, ?_⟩
      unfold evAt
      rw [hy]
      exact hye
    exact fin (kb.known e (List.mem_append_right _ (List.mem_reverse.2 he)) hsp.2.2.2)
/-- A count by places. -/
def cntP (f : Nat → Int) : Nat → Int
  | 0 => 0
  | m + 1 => cntP f m + max (f m) 0
theorem cntP_ext {f g : Nat → Int} : ∀ m, (∀ i, i < m → f i = g i) → cntP f m = cntP g m
  | 0, _ => rfl
  | m + 1, h => by
    unfold cntP
    rw [cntP_ext m (fun i hi => h i (by omega)), h m (by omega)]
theorem cnt_cntP : ∀ (xs : List Int) (m : Nat), cntP (fun i => xs.getD i 0) m = cntV (xs.take m)
  | xs, 0 => by simp [cntP, cntV]
  | xs, m + 1 => by
    unfold cntP
    rw [cnt_cntP xs m]
    by_cases h : m < xs.length
    · rw [cnt_take h]
    · rw [List.take_of_length_le (by omega), List.take_of_length_le (by omega), getD_far (by omega)]
      simp
theorem cntP_all (xs : List Int) {m : Nat} (h : xs.length ≤ m) : cntV xs = cntP (fun i => xs.getD i 0) m := by
  rw [cnt_cntP, List.take_of_length_le h]
theorem cntP_one {f g : Nat → Int} {k : Nat} {n : Int} (hn : 1 ≤ n) (hk : f k = n - 1) (hg : ∀ i, g i = if i = k then n else f i) : ∀ m, k < m → cntP g m = cntP f m + 1
  | 0, h => by omega
  | m + 1, h => by
    unfold cntP
    by_cases e : m = k
    · subst e
      rw [cntP_ext m (f := g) (g := f) (fun i hi => by rw [hg, if_neg (by omega)]), hg, if_pos rfl, hk]
      omega
    · rw [cntP_one hn hk hg m (by omega), hg m, if_neg e]
      omega
theorem cnt_addA {A : List Int} {e : Ev} (hm : MayE e) (hr : ReadyE A e) : cntV (addA A e) = cntV A + 1 := by
  have hf := rightEv_iff hm.1
  have ho : ((e.o.toNat : Nat) : Int) = e.o := by have := hf.o; omega
  have h1 := hr.1
  rw [← ho, ofV_nat] at h1
  obtain ⟨m, hmx⟩ : ∃ m, m = max (max A.length (addA A e).length) (e.o.toNat + 1) := ⟨_, rfl⟩
  rw [cntP_all A (m := m) (by omega), cntP_all (addA A e) (m := m) (by omega)]
  exact cntP_one (k := e.o.toNat) hm.2.1 (by omega) (fun i => addA_getD A e i) m (by omega)
theorem cnt_addL : ∀ (L : List Ev) {A : List Int}, ReadyL A L → (∀ e ∈ L, MayE e) → cntV (addL A L) = cntV A + L.length
  | [], A, _, _ => by simp [addL]
  | x :: r, A, h, hm => by
    have h1 := cnt_addL r h.2 (fun e he => hm e (List.mem_cons_of_mem _ he))
    have h2 := cnt_addA (hm x (List.mem_cons_self ..)) h.1
    have h3 : addL A (x :: r) = addL (addA A x) r := rfl
    rw [h3, h1, h2, List.length_cons]
    omega
/-- No more events than were put. -/
theorem KnH.len {l : List Ev} {g : Lg} (h : KnH l g) (v : List Int) : (evL v g).length ≤ l.length := by
  obtain ⟨L, h1, h2, h3, _, h5⟩ := h.hist
  have k1 := cnt_addL L h1 h5
  have k2 := evL_cnt g
  have k3 := evL_len v g
  have k4 := h.few
  rw [h2, k1] at k2
  have k5 : cntV [] = 0 := rfl
  omega
/-- Two logs. -/
structure TS (w : World) (pa ea wa pb eb wb : Nat) (ga gb : Lg) (wr : World) : Prop where
  a : LogAt wr pa ea wa ga
  b : LogAt wr pb eb wb gb
  dis : ∀ i, FootL pa ea wa i → ¬ FootL pb eb wb i
  la : ∀ i, FootL pa ea wa i → w.heap.size ≤ i
  lb : ∀ i, FootL pb eb wb i → w.heap.size ≤ i
  bel : Below w.heap.size w wr
section
variable {w : World} {pa ea wa pb eb wb : Nat} {ga gb g' : Lg} {wr V : World}
theorem TS.below (h : TS w pa ea wa pb eb wb ga gb wr) (hb : Below wr.heap.size wr V) : TS w pa ea wa pb eb wb ga gb V :=
  ⟨h.a.below hb, h.b.below hb, h.dis, h.la, h.lb, bt h.bel hb⟩
theorem TS.putA (h : TS w pa ea wa pb eb wb ga gb wr) (hg : AtG wr pa ea wa g' V) : TS w pa ea wa pb eb wb g' gb V :=
  ⟨hg.1, h.b.turned hg.2 (fun i hi hc => h.dis i hc hi) h.a.noInt, h.dis, h.la, h.lb, h.bel.trans (hg.2.below h.la h.bel.size)⟩
theorem TS.putB (h : TS w pa ea wa pb eb wb ga gb wr) (hg : AtG wr pb eb wb g' V) : TS w pa ea wa pb eb wb ga g' V :=
  ⟨h.a.turned hg.2 (fun i hi hc => h.dis i hi hc) h.b.noInt, hg.1, h.dis, h.la, h.lb, h.bel.trans (hg.2.below h.lb h.bel.size)⟩
theorem RowE.putB {B : Nat} {v : Value} {ys : List EvM} (hr : RowE B wr v ys) (hb : LogAt wr pb eb wb gb) (hB : ∀ i, FootL pb eb wb i → i < B) (hg : AtG wr pb eb wb g' V) : RowE B V v ys :=
  hr.noInt hb.noInt hg.2 (fun g hv hc => by
    have h1 := hB g hc
    rcases hr.row.2 with ⟨h0, _⟩ | ⟨g', c', cur, h0, hBg, _⟩
    · rw [h0] at hv
      simp [Value.ownBlock] at hv
    · rw [h0] at hv
      have : g' = g := by simpa [Value.ownBlock] using hv
      omega)
end
/-- Behind the puts: both, with what is known. -/
structure TK (w : World) (pa ea wa pb eb wb : Nat) (la lb : List Ev) (wr : World) : Prop where
  all : ∃ ga gb, TS w pa ea wa pb eb wb ga gb wr ∧ KnH la ga ∧ KnH lb gb
end Go.Proofs.Ytcammngbhnhjjaa
