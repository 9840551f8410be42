/-
  Appending seals outside drawn regions; what further seals leave as it was.
-/
import Derived.Test.YtkgfpnmifgifpaaSealL
import Derived.Test.YtkgfpnmifgifpaaSealN
namespace Go.Proofs.Ytkgfpnmifgifpaa
open Go.RowKit Go.Maps

theorem flatS_append (a b : List SlM) : flatS (a ++ b) = flatS a ++ flatS b := by simp [flatS]
theorem flatS_one (xs : List SlM) : ∀ u ∈ flatS xs, u.oneCell' = true := by
  intro u hu
  obtain ⟨x, _, hx⟩ := List.mem_flatMap.1 hu
  exact sl_one x u hx
theorem flatS_at {xs : List SlM} {i : Nat} {u : Value} (h : (flatS xs)[i]? = some u) : ∃ j, ∃ hj : j < xs.length, ∃ c, c < 4 ∧ i = j * 4 + c ∧ xs[j].cells[c]? = some u := by
  have hi : i < xs.length * 4 := by rw [← flatS_len]; exact (List.getElem?_eq_some_iff.1 h).1
  have hj : i / 4 < xs.length := by omega
  have hc : i % 4 < (xs[i / 4]).cells.length := by show _ < 4; omega
  refine ⟨i / 4, hj, i % 4, by omega, by omega, ?_⟩
  have h2 := flatS_get xs (i / 4) hj (i % 4) _ (List.getElem?_eq_getElem hc)
  rw [show i / 4 * 4 + i % 4 = i by omega, h] at h2
  rw [List.getElem?_eq_getElem hc, Option.some.inj h2]
theorem HeldSl.news {w : World} {ad : Addr} {xs : List SlM} (h : HeldSl w (some ad) xs) : ∀ j u, (flatS xs)[j]? = some u → w.cell? (ad.add j) = some u := by
  intro i u hu
  obtain ⟨j, hj, c, _, rfl, hc⟩ := flatS_at hu
  rcases h.2 with h0 | ⟨b, off, e, _, h3⟩
  · subst h0
    cases hj
  · cases e
    have := h3 j hj c u hc
    rw [Addr.add_lit, ← Nat.add_assoc]
    exact this
theorem ownS_made (w : World) (B : Nat) (hB : B ≤ w.heap.size) : (w.alloc (.cells #[] 50)).ownsRow B 50 4 (.slice (some ⟨w.heap.size, 0, none⟩) 0 0) 0 (flatS []) :=
  ⟨rfl, .inr ⟨w.heap.size, 0, #[], rfl, hB, World.alloc_heap_new w _, Nat.le_refl _, Nat.zero_le _, rfl, rfl⟩⟩
/-- append of seals to a row of the call's own. -/
theorem wpList_append_sls {ops : Array Oper} {rest : List Oper} {o : Oper} {a : Act} {w : World} {Q : Exit → Act → World → Prop} (hgd : o.guard = none) (s x : Operand)
    (ho : o.op = .call { callee := .builtin .append, args := #[s, x], argTypes := #[23, 23] })
    (base : Nat) (v : Value) (n : Nat) (ds : List SlM) (hn : ds.length = n) (hs : a.eval s = v) (hown : w.ownsRow base 50 4 v n (flatS ds))
    (ao : Option Addr) (m c : Nat) (xs : List SlM) (hm : xs.length = m) (hx : a.eval x = .slice ao m c) (hh : HeldSl w ao xs) (hsum : n + m ≤ 100000000) (hbase : base ≤ w.heap.size)
    (hok : ∀ V, Below base w V → AllS V (ds ++ xs))
    (h : ∀ bo cp w', w'.ownsRow base 50 4 (.slice bo (n + m) cp) (n + m) (flatS (ds ++ xs)) → HeldSl w' bo (ds ++ xs) → n + m ≤ cp → Below base w w' → wpList Try.prog ops Q rest (a.put o.dst (.slice bo (n + m) cp)) w') :
    wpList Try.prog ops Q (o :: rest) a w := by
  refine wpList_plain hgd fun K hK => ?_
  obtain ⟨iI, hj, hy0, hy1, hy2⟩ := info_parts Try.infoSl
  cases ao with
  | none =>
    have hx0 : xs = [] := by
      rcases hh.2 with h0 | ⟨b, off, e, _⟩
      · exact h0
      · cases e
    subst hx0
    obtain rfl : 0 = m := hm
    have hr := run_append_noneI (P := Try.prog) w base 23 o.type 50 iI 4 Try.underlying23 hj v n c _ hown
    rw [List.append_nil] at h hok
    simp only [Nat.add_zero] at h
    obtain ⟨eo, cap, hv, hnc, hhE⟩ := heldSl_of_own hn hown (hok w (Below.refl _ _))
    unfold Oper.wp execOp
    simp only [ho, resolve, invoke, builtin, Sem.run_bind, Sem.run_pure, Result.andThen_ok, List.map_toArray, List.map_cons, List.map_nil, hs, hx, hr]
    have := h eo cap w (by rw [← hv]; exact hown) hhE hnc (Below.refl _ _)
    rw [← hv] at this
    exact hK _ _ this
  | some ad =>
    obtain ⟨v', w', hr, hown', hgrow, _, _⟩ := run_append_own_at (P := Try.prog) w base 23 o.type 50 iI _ 4 64 Try.underlying23 hj hy0 hy1 hy2 rfl (by decide) v n (flatS ds) hown ad m c (flatS xs) (by rw [flatS_len, hm]) hh.news (flatS_one xs) (by unfold maxLen; omega) (by omega) hbase
    unfold Oper.wp execOp
    simp only [ho, resolve, invoke, builtin, Sem.run_bind, Sem.run_pure, Result.andThen_ok, List.map_toArray, List.map_cons, List.map_nil, hs, hx, hr]
    rw [← flatS_append] at hown'
    have hb : Below base w w' := (Below.refl _ _).grown hgrow hbase (fun k hk => (hown.lt k hk).1)
    obtain ⟨bo, cp, rfl, hnc, hhE⟩ := heldSl_of_own (by rw [List.length_append, hn, hm]) hown' (hok w' hb)
    exact hK _ _ (h bo cp w' hown' hhE hnc hb)
theorem own_more2 {name : ByteArray} {ss : List SlM} {a b : Nat} (ha : a < ss.length) (hab : a < b) (hc : ss[a].e.cart = name) : (ownOf name (ss.take a)).length + 1 ≤ (ownOf name (ss.take b)).length := by
  have h1 := own_take (name := name) ha
  rw [if_pos hc] at h1
  have h2 : (ownOf name (ss.take (a + 1))).length = (ownOf name (ss.take a)).length + 1 := by rw [h1, List.length_append]; rfl
  have h3 : ss.take (a + 1) = (ss.take b).take (a + 1) := by rw [List.take_take, Nat.min_eq_left (by omega)]
  rw [← h2, h3]
  exact ((List.take_sublist (a + 1) (ss.take b)).filter _).length_le
/-- Where an event belongs, with further seals behind. -/
theorem bel_more {e : Ev} {a b : List SlM} (h : belIs e a = true) : belIs e (a ++ b) = true ∧ belEp e (a ++ b) = belEp e a := by
  unfold belIs belEp at *
  have h1 : firstBel e (a ++ b) = firstBel e a := by
    unfold firstBel at *
    rw [List.find?_append]
    obtain ⟨x, hx⟩ := Option.isSome_iff_exists.1 h
    rw [hx]
    rfl
  rw [h1]
  exact ⟨h, rfl⟩
theorem bel_none {e : Ev} {a : List SlM} (h : belIs e a = false) : belEp e a = 0 := by
  unfold belIs at h
  unfold belEp
  cases hf : firstBel e a with
  | none => rfl
  | some x => rw [hf] at h; cases h
theorem bel_bounds {e : Ev} {ss : List SlM} (hF : FollowTo ss ss.length) (h : belIs e ss = true) : e.epoch ≤ belEp e ss ∧ belEp e ss < (ownOf e.cart ss).length := by
  unfold belIs at h
  obtain ⟨x, hx⟩ := Option.isSome_iff_exists.1 h
  have he : belEp e ss = x.e.ep := by unfold belEp; rw [hx]; rfl
  rw [he]
  have hb : Bel e x.e := by have := List.find?_some hx; simpa using this
  have hm : x ∈ ss := List.mem_of_find?_eq_some hx
  obtain ⟨a, ha, rfl⟩ := List.mem_iff_getElem.1 hm
  have h1 := (hF a ha ha).2
  have h2 := own_more2 ha ha hb.1
  rw [List.take_length] at h2
  rw [hb.1] at h1
  exact ⟨hb.2.1, by omega⟩
end Go.Proofs.Ytkgfpnmifgifpaa
