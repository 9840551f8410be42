/-
  What OplogOrder wants: the same events in another order, none of a dot twice, make the same log.
-/
import Derived.Test.YtcammngbhnhjjaaCopM
namespace Go.Proofs.Ytcammngbhnhjjaa
open Go.RowKit Go.Shelf Go.Maps

/-- No dot is that of two. -/
def OneDot (l : List Ev) : Prop := ∀ e ∈ l, ∀ e' ∈ l, e.o = e'.o → e.s = e'.s → e = e'
theorem order_below {la lb : List Ev} {a b : Lg} (ha : KnH la a) (hb : KnH lb b) (hbn : b.ne < 65536) (hbm : MayV b.A) (hmem : ∀ e ∈ la, e ∈ lb) (hu : OneDot lb) : BelowV a.A b.A :=
  copies_below ha hb hbn hbm fun e y hy hye => by
    have hf := ha.firstE _ _ _ hy
    rw [hye] at hf
    have hs := firstM_spec hf
    have hm := hmem e hs.1
    rcases hb.known e hm hs.2.2.2 with h | h
    · exact .inl h
    · right
      obtain ⟨z, hz⟩ := Option.isSome_iff_exists.1 h
      have h2 := firstM_spec (hb.first _ _ _ hz)
      exact ⟨z, hz, hu _ h2.1 _ hm h2.2.1 h2.2.2.1⟩
theorem KnH.plain {l : List Ev} {g : Lg} (h : KnH l g) : plainOf g.A = g.A := by
  obtain ⟨L, _, h2, _⟩ := h.hist
  rw [h2]
  exact addL_plain L rfl
/-- The same events. -/
structure Alike (a b : Lg) : Prop where
  A : a.A = b.A
  ev : evL [] a = evL [] b
  W : ∀ o s, (a.W o s).isSome = true ↔ (b.W o s).isSome = true
theorem order_W {la lb : List Ev} {a b : Lg} (ha : KnH la a) (hb : KnH lb b) (hmem : ∀ e ∈ la, e ∈ lb) (hA : a.A = b.A) (hwa : ∀ o s y, a.W o s = some y → ¬ HasV a.A o s) (o s : Int) (h : (a.W o s).isSome = true) : (b.W o s).isSome = true := by
  obtain ⟨y, hy⟩ := Option.isSome_iff_exists.1 h
  have h1 := firstM_spec (ha.first _ _ _ hy)
  rcases hb.known _ (hmem _ h1.1) h1.2.2.2 with h2 | h2
  · rw [h1.2.1, h1.2.2.1, ← hA] at h2
    exact absurd h2 (hwa _ _ _ hy)
  · rw [h1.2.1, h1.2.2.1] at h2
    exact h2
theorem order_alike {la lb : List Ev} {a b : Lg} (ha : KnH la a) (hb : KnH lb b) (han : a.ne < 65536) (hbn : b.ne < 65536) (ham : MayV a.A) (hbm : MayV b.A) (hab : ∀ e ∈ la, e ∈ lb) (hba : ∀ e ∈ lb, e ∈ la) (hu : OneDot la)
    (hwa : ∀ o s y, a.W o s = some y → ¬ HasV a.A o s) (hwb : ∀ o s y, b.W o s = some y → ¬ HasV b.A o s) : Alike a b := by
  have hu2 : OneDot lb := fun e he e' he' => hu e (hba e he) e' (hba e' he')
  have h1 := belowV_iff.1 (order_below ha hb hbn hbm hab hu2)
  have h2 := belowV_iff.1 (order_below hb ha han ham hba hu)
  have hA : a.A = b.A := (eq_iff_getD ha.plain hb.plain).2 fun i => Int.le_antisymm (h1 i) (h2 i)
  refine ⟨hA, ?_, fun o s => ⟨order_W ha hb hab hA hwa o s, order_W hb ha hba hA.symm hwb o s⟩⟩
  unfold evL
  rw [← hA]
  refine List.map_congr_left fun d hd => ?_
  have hh := has_dots hd
  obtain ⟨x, hx⟩ := Option.isSome_iff_exists.1 ((ha.has d.1 d.2).2 hh)
  obtain ⟨y, hy⟩ := Option.isSome_iff_exists.1 ((hb.has d.1 d.2).2 (hA ▸ hh))
  have k1 := firstM_spec (ha.firstE _ _ _ hx)
  have k2 := firstM_spec (hb.firstE _ _ _ hy)
  have e1 : evAt a d = x.e := by unfold evAt; rw [hx]; rfl
  have e2 : evAt b d = y.e := by unfold evAt; rw [hy]; rfl
  rw [e1, e2]
  exact hu _ k1.1 _ (hba _ k2.1) (k1.2.1.trans k2.2.1.symm) (k1.2.2.1.trans k2.2.2.1.symm)
theorem cmpD_anti {x y : Int × Int} (h : cmpD x y < 0) (k : cmpD y x < 0) : False := by
  unfold cmpD cmpI at h k
  split at h <;> split at k <;> (repeat' split at h) <;> (repeat' split at k) <;> omega
theorem psorted_eq : ∀ (l m : List (Int × Int)), l.Pairwise (fun x y => cmpD x y < 0) → m.Pairwise (fun x y => cmpD x y < 0) → (∀ x, x ∈ l ↔ x ∈ m) → l = m
  | [], m, _, _, h => by
    cases m with
    | nil => rfl
    | cons y r => exact absurd ((h y).2 (List.mem_cons_self ..)) (by simp)
  | x :: l, m, h1, h2, h => by
    cases m with
    | nil => exact absurd ((h x).1 (List.mem_cons_self ..)) (by simp)
    | cons y r =>
      rw [List.pairwise_cons] at h1 h2
      have hxy : x = y := by
        rcases List.mem_cons.1 ((h x).1 (List.mem_cons_self ..)) with e | e
        · exact e
        · rcases List.mem_cons.1 ((h y).2 (List.mem_cons_self ..)) with e' | e'
          · exact e'.symm
          · exact (cmpD_anti (h1.1 y e') (h2.1 x e)).elim
      subst hxy
      refine congrArg _ (psorted_eq l r h1.2 h2.2 fun z => ⟨fun hz => ?_, fun hz => ?_⟩)
      · rcases List.mem_cons.1 ((h z).1 (List.mem_cons_of_mem _ hz)) with e | e
        · exact (cmpD_anti (x := z) (y := z) (by have := h1.1 z hz; rw [← e] at this; exact this) (by have := h1.1 z hz; rw [← e] at this; exact this)).elim
        · exact e
      · rcases List.mem_cons.1 ((h z).2 (List.mem_cons_of_mem _ hz)) with e | e
        · exact (cmpD_anti (x := z) (y := z) (by have := h2.1 z hz; rw [← e] at this; exact this) (by have := h2.1 z hz; rw [← e] at this; exact this)).elim
        · exact e
theorem waits_eq {a b : Lg} {ss tt : List (Int × Int)} (ha : WaitsOf a ss) (hb : WaitsOf b tt) (h : Alike a b) : ss = tt :=
  psorted_eq ss tt ha.2.2 hb.2.2 fun ⟨o, s⟩ => by rw [ha.2.1, hb.2.1, h.W]
/-- The place that the second log takes its event from. -/
def idxB (n k j : Nat) : Nat := n - 1 - (j + k) % n
theorem idxB_lt {n k j : Nat} (hn : 0 < n) : idxB n k j < n := by unfold idxB; omega
theorem idxB_all {n k t : Nat} (hk : k < n) (ht : t < n) : ∃ j, j < n ∧ idxB n k j = t := by
  refine ⟨(n - 1 - t + (n - k)) % n, Nat.mod_lt _ (by omega), ?_⟩
  unfold idxB
  rw [Nat.mod_add_mod, show n - 1 - t + (n - k) + k = n - 1 - t + n by omega, Nat.add_mod_right, Nat.mod_eq_of_lt (by omega)]
  omega
/-- The first i of them. -/
def rowB (xs : List EvM) (n k i : Nat) : List Ev := (List.range i).filterMap fun j => (xs[idxB n k j]?).map (·.e)
theorem rowB_step {xs : List EvM} {n k i : Nat} (h : idxB n k i < xs.length) : rowB xs n k (i + 1) = rowB xs n k i ++ [(xs[idxB n k i]'h).e] := by
  unfold rowB
  rw [List.range_succ, List.filterMap_append]
  simp [List.getElem?_eq_getElem h]
theorem rowB_len (xs : List EvM) (n k i : Nat) : (rowB xs n k i).length ≤ i := by
  unfold rowB
  exact Nat.le_trans (List.length_filterMap_le _ _) (by simp)
theorem rowB_sub {xs : List EvM} {n k i : Nat} {e : Ev} (h : e ∈ rowB xs n k i) : e ∈ xs.map (·.e) := by
  unfold rowB at h
  obtain ⟨j, _, hj⟩ := List.mem_filterMap.1 h
  obtain ⟨x, hx, rfl⟩ := Option.map_eq_some_iff.1 hj
  exact List.mem_map_of_mem (List.mem_of_getElem? hx)
theorem rowB_all {xs : List EvM} {n k : Nat} (hn : xs.length = n) (hk : k < n) {e : Ev} (h : e ∈ xs.map (·.e)) : e ∈ rowB xs n k n := by
  obtain ⟨x, hx, rfl⟩ := List.mem_map.1 h
  obtain ⟨t, ht, rfl⟩ := List.getElem_of_mem hx
  obtain ⟨j, hj, hjt⟩ := idxB_all hk (by omega : t < n)
  unfold rowB
  refine List.mem_filterMap.2 ⟨j, List.mem_range.2 hj, ?_⟩
  rw [hjt, List.getElem?_eq_getElem ht]
  rfl
/-- A dot of a row of dots. -/
theorem row_dotO {B : Nat} {w : World} {v : Value} {ss : List (Int × Int)} (h : w.ownsRow B 31 2 v ss.length (flatD ss)) {k : Nat} (hk : k < ss.length) : ∃ g cap, v = .slice (some ⟨g, 0, none⟩) ss.length cap ∧ g < w.heap.size ∧ w.cell? ⟨g, k * 2, none⟩ = some (.int .i64 ss[k].1) ∧ w.cell? ⟨g, k * 2 + 1, none⟩ = some (.int .i64 ss[k].2) := by
  obtain ⟨eo, cap, rfl, _, hc⟩ := own_form8 h
  obtain ⟨g, rfl, _, hg, hcell⟩ := hc (by omega)
  have hf : ∀ (l : List (Int × Int)) (j : Nat) (hj : j < l.length), (flatD l)[j * 2]? = some (.int .i64 l[j].1) ∧ (flatD l)[j * 2 + 1]? = some (.int .i64 l[j].2) := by
    intro l
    induction l with
    | nil => intro j hj; cases hj
    | cons d r ih =>
      intro j hj
      cases j with
      | zero => exact ⟨rfl, rfl⟩
      | succ j =>
        have := ih j (by simpa using hj)
        unfold flatD at this ⊢
        rw [List.flatMap_cons, show (j + 1) * 2 = j * 2 + 1 + 1 by omega]
        exact this
  exact ⟨g, cap, rfl, hg, hcell _ _ (hf ss k hk).1, hcell _ _ (hf ss k hk).2⟩
/-- No two of the first k have a dot in common. -/
def Apart (xs : List EvM) (k : Nat) : Prop := ∀ i j (hi : i < xs.length) (hj : j < xs.length), j < i → i < k → ¬ (xs[i].e.o = xs[j].e.o ∧ xs[i].e.s = xs[j].e.s)
theorem apart_one {xs : List EvM} (h : Apart xs xs.length) : OneDot (xs.map (·.e)) := by
  intro e he e' he' ho hs
  obtain ⟨x, hx, rfl⟩ := List.mem_map.1 he
  obtain ⟨y, hy, rfl⟩ := List.mem_map.1 he'
  obtain ⟨i, hi, rfl⟩ := List.getElem_of_mem hx
  obtain ⟨j, hj, rfl⟩ := List.getElem_of_mem hy
  rcases Nat.lt_trichotomy i j with h1 | h1 | h1
  · exact absurd ⟨ho.symm, hs.symm⟩ (h j i hj hi h1 hj)
  · subst h1
    rfl
  · exact absurd ⟨ho, hs⟩ (h i j hi hj h1 hi)
end Go.Proofs.Ytcammngbhnhjjaa
/-
  SameEvents of lists that are the same.
-/
namespace Go.Proofs.Ytcammngbhnhjjaa
open Go.RowKit Go.Shelf Go.Maps
attribute [local go_sem] Oper.semAt_some

set_option maxRecDepth 1000000 in
set_option maxHeartbeats 4000000 in
theorem sameEvs_anyQ (w : World) (ao bo : Option Addr) (ca cb : Nat) (xs ys : List EvM) (n : Nat) (hn : xs.length = n) (hm : ys.length = n) (hx : HeldE w ao xs) (hy : HeldE w bo ys) (he : xs.map (·.e) = ys.map (·.e)) (hl : n ≤ 4194304) :
    Calls Try.prog 18 #[.slice ao n ca, .slice bo n cb] w fun e w' => e = .returned (.bool true) ∧ Below w.heap.size w w' := by
  have HN := hid hn
  have HM := hid hm
  have HX := hid hx
  have HY := hid hy
  have HE := hid he
  clear hn hm hx hy he
  go_enter Try.func18, Try.ntmps18
  go_wp2
  go_loopw [5] (fun x wr => ∃ i : Nat, i ≤ n ∧ x = .int .i64 i ∧ Hid (Below w.heap.size w wr)) (fun x _ => n - (intOf x).toNat)
  case atStart => exact ⟨0, Nat.zero_le _, rfl, Below.refl _ _⟩
  case round =>
    obtain ⟨i, hi, rfl, HB⟩ := hrel
    by_cases hlt : i < n
    · have hlt' : (i : Int) < (n : Int) := by omega
      have hix : Hid (i < xs.length) := (by rw [HN.out]; exact hlt : i < xs.length)
      have hiy : Hid (i < ys.length) := (by rw [HM.out]; exact hlt : i < ys.length)
      have HIM : Hid (i + 1 ≤ n) := (by omega : i + 1 ≤ n)
      obtain ⟨g1, f1, hao, hg1, e0, e1, e2, e3, e4, e5, e6, e7⟩ := (HX.out.below HB.out).at hix.out
      obtain ⟨g2, f2, hbo, hg2, r0, r1, r2, r3, r4, r5, r6, r7⟩ := (HY.out.below HB.out).at hiy.out
      subst hao hbo
      have HL1 := hid hg1
      have HL2 := hid hg2
      clear hg1 hg2
      have HOX := hid ((HX.out.1 _ (List.getElem_mem hix.out)).below HB.out)
      have HOY := hid ((HY.out.1 _ (List.getElem_mem hiy.out)).below HB.out)
      have HEE : Hid ((xs[i]'hix.out).e = (ys[i]'hiy.out).e) := by
        have h1 : (xs.map (·.e))[i]? = (ys.map (·.e))[i]? := by rw [HE.out]
        rw [List.getElem?_map, List.getElem?_map, List.getElem?_eq_getElem hix.out, List.getElem?_eq_getElem hiy.out] at h1
        exact Option.some.inj h1
      obtain ⟨X, HXX⟩ : ∃ X, Hid (xs[i]'hix.out = X) := ⟨_, hid rfl⟩
      obtain ⟨Y, HYY⟩ : ∃ Y, Hid (ys[i]'hiy.out = Y) := ⟨_, hid rfl⟩
      rw [HXX.out] at e0 e1 e2 e3 e4 e5 e6 e7 HOX
      rw [HYY.out] at r0 r1 r2 r3 r4 r5 r6 r7 HOY
      rw [HXX.out, HYY.out] at HEE
      have HSE : Hid (∀ V, Sc wr V → Calls Try.prog 35 #[X.val, Y.val] V fun e w' => e = .returned (.bool true) ∧ Sc wr w') := fun V hV => by
        have h1 := sameEv_any V X Y (HOX.out.below hV.out) (HOY.out.below hV.out)
        rw [decide_eq_true HEE.out] at h1
        exact h1.mono fun e w' ⟨h2, h3⟩ => ⟨h2, hV.go h3⟩
      clear HXX HYY HOX HOY HEE
      obtain ⟨⟨o1, s1, d1, c1, p1, k1, q1, b1⟩, ao1, cap1⟩ := X
      obtain ⟨⟨o2, s2, d2, c2, p2, k2, q2, b2⟩, ao2, cap2⟩ := Y
      simp only [EvM.val] at e0 e1 e2 e3 e4 e5 e6 e7 r0 r1 r2 r3 r4 r5 r6 r7 HSE
      obtain ⟨n1, HN1⟩ : ∃ n, Hid (d1.length = n) := ⟨_, hid rfl⟩
      obtain ⟨n2, HN2⟩ : ∃ n, Hid (d2.length = n) := ⟨_, hid rfl⟩
      rw [HN1.out] at e2
      rw [HN2.out] at r2
      rw [HN1.out, HN2.out] at HSE
      have HSA : Hid (∀ V, Sc wr V → (Sc wr V ∧ V.cell? ⟨g1, f1 + i * 8, none⟩ = some (.int .i64 o1) ∧ V.cell? ⟨g1, f1 + i * 8 + 1, none⟩ = some (.int .i64 s1) ∧ V.cell? ⟨g1, f1 + i * 8 + 2, none⟩ = some (.slice ao1 n1 cap1) ∧ V.cell? ⟨g1, f1 + i * 8 + 3, none⟩ = some (.string c1) ∧ V.cell? ⟨g1, f1 + i * 8 + 4, none⟩ = some (.int .i64 p1) ∧ V.cell? ⟨g1, f1 + i * 8 + 5, none⟩ = some (.string k1) ∧ V.cell? ⟨g1, f1 + i * 8 + 6, none⟩ = some (.int .i64 q1) ∧ V.cell? ⟨g1, f1 + i * 8 + 7, none⟩ = some (.bool b1) ∧ V.cell? ⟨g2, f2 + i * 8, none⟩ = some (.int .i64 o2) ∧ V.cell? ⟨g2, f2 + i * 8 + 1, none⟩ = some (.int .i64 s2) ∧ V.cell? ⟨g2, f2 + i * 8 + 2, none⟩ = some (.slice ao2 n2 cap2) ∧ V.cell? ⟨g2, f2 + i * 8 + 3, none⟩ = some (.string c2) ∧ V.cell? ⟨g2, f2 + i * 8 + 4, none⟩ = some (.int .i64 p2) ∧ V.cell? ⟨g2, f2 + i * 8 + 5, none⟩ = some (.string k2) ∧ V.cell? ⟨g2, f2 + i * 8 + 6, none⟩ = some (.int .i64 q2) ∧ V.cell? ⟨g2, f2 + i * 8 + 7, none⟩ = some (.bool b2))) := fun V hV => ⟨hV, (hV.out.cell (p := ⟨g1, f1 + i * 8, none⟩) HL1.out).trans e0, (hV.out.cell (p := ⟨g1, f1 + i * 8 + 1, none⟩) HL1.out).trans e1, (hV.out.cell (p := ⟨g1, f1 + i * 8 + 2, none⟩) HL1.out).trans e2, (hV.out.cell (p := ⟨g1, f1 + i * 8 + 3, none⟩) HL1.out).trans e3, (hV.out.cell (p := ⟨g1, f1 + i * 8 + 4, none⟩) HL1.out).trans e4, (hV.out.cell (p := ⟨g1, f1 + i * 8 + 5, none⟩) HL1.out).trans e5, (hV.out.cell (p := ⟨g1, f1 + i * 8 + 6, none⟩) HL1.out).trans e6, (hV.out.cell (p := ⟨g1, f1 + i * 8 + 7, none⟩) HL1.out).trans e7, (hV.out.cell (p := ⟨g2, f2 + i * 8, none⟩) HL2.out).trans r0, (hV.out.cell (p := ⟨g2, f2 + i * 8 + 1, none⟩) HL2.out).trans r1, (hV.out.cell (p := ⟨g2, f2 + i * 8 + 2, none⟩) HL2.out).trans r2, (hV.out.cell (p := ⟨g2, f2 + i * 8 + 3, none⟩) HL2.out).trans r3, (hV.out.cell (p := ⟨g2, f2 + i * 8 + 4, none⟩) HL2.out).trans r4, (hV.out.cell (p := ⟨g2, f2 + i * 8 + 5, none⟩) HL2.out).trans r5, (hV.out.cell (p := ⟨g2, f2 + i * 8 + 6, none⟩) HL2.out).trans r6, (hV.out.cell (p := ⟨g2, f2 + i * 8 + 7, none⟩) HL2.out).trans r7⟩
      have hsc0 := Sc.start wr
      go_wp2
      go_region_held3 (fun V => Sc wr V ∧ V.cell? ⟨g1, f1 + i * 8, none⟩ = some (.int .i64 o1) ∧ V.cell? ⟨g1, f1 + i * 8 + 1, none⟩ = some (.int .i64 s1) ∧ V.cell? ⟨g1, f1 + i * 8 + 2, none⟩ = some (.slice ao1 n1 cap1) ∧ V.cell? ⟨g1, f1 + i * 8 + 3, none⟩ = some (.string c1) ∧ V.cell? ⟨g1, f1 + i * 8 + 4, none⟩ = some (.int .i64 p1) ∧ V.cell? ⟨g1, f1 + i * 8 + 5, none⟩ = some (.string k1) ∧ V.cell? ⟨g1, f1 + i * 8 + 6, none⟩ = some (.int .i64 q1) ∧ V.cell? ⟨g1, f1 + i * 8 + 7, none⟩ = some (.bool b1) ∧ V.cell? ⟨g2, f2 + i * 8, none⟩ = some (.int .i64 o2) ∧ V.cell? ⟨g2, f2 + i * 8 + 1, none⟩ = some (.int .i64 s2) ∧ V.cell? ⟨g2, f2 + i * 8 + 2, none⟩ = some (.slice ao2 n2 cap2) ∧ V.cell? ⟨g2, f2 + i * 8 + 3, none⟩ = some (.string c2) ∧ V.cell? ⟨g2, f2 + i * 8 + 4, none⟩ = some (.int .i64 p2) ∧ V.cell? ⟨g2, f2 + i * 8 + 5, none⟩ = some (.string k2) ∧ V.cell? ⟨g2, f2 + i * 8 + 6, none⟩ = some (.int .i64 q2) ∧ V.cell? ⟨g2, f2 + i * 8 + 7, none⟩ = some (.bool b2)) (first | (refine ⟨?_, ?_, ?_, ?_, ?_, ?_, ?_, ?_, ?_, ?_, ?_, ?_, ?_, ?_, ?_, ?_, ?_⟩ <;> assumption) | (refine HSA.out _ ?_; (repeat (first | assumption | exact Sc.start _ | apply Sc.dr | apply Sc.alloc))))
        ((go_at_call 35; with_reducible refine (HSE.out _ (by (repeat (first | assumption | exact Sc.start _ | apply Sc.dr | apply Sc.alloc)))).mono ?_; rintro e w5 ⟨rfl, hs5⟩; have HS5 := hid hs5))
      all_goals
        go_wp2
        go_roundw
        case rel => exact ⟨i + 1, HIM.out, by go_num, bt HB.out HS5.out.out⟩
        case measure => simp [intOf]; have := HIM.out; omega
    · have hlt' : ¬ (i : Int) < (n : Int) := by omega
      go_wp2
      go_ret
      exact ⟨rfl, HB.out⟩

end Go.Proofs.Ytcammngbhnhjjaa
