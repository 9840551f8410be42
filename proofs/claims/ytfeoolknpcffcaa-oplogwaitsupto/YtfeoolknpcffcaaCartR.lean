/-
  Appending events in a region that draws its order; what lines tell, said for a walk.
-/
import Derived.Test.YtfeoolknpcffcaaCartQ
import Derived.Deep.RegionHeld3
import Derived.Deep.RegionLaw
namespace Go.Proofs.Ytfeoolknpcffcaa
open Go.RowKit Go.Maps

/-- V lies behind W: what was there is as it was. -/
structure Sc (W V : World) : Prop where
  out : Below W.heap.size W V
theorem Sc.start (W : World) : Sc W W := ⟨Below.refl _ _⟩
theorem Sc.go {W V U : World} (h : Sc W V) (hb : Below V.heap.size V U) : Sc W U := ⟨bt h.out hb⟩
theorem Sc.dr {W V : World} (h : Sc W V) : Sc W V.drew := ⟨below_dr h.out⟩
theorem Sc.dr0 (W : World) : Sc W W.drew := ⟨below_dr (Below.refl _ _)⟩
theorem Sc.dn {W V : World} (h : Sc W V) (q : Nat) : Sc W (V.drewN q) := ⟨below_dn h.out q⟩
theorem Sc.alloc {W V : World} (h : Sc W V) (o : Obj) : Sc W (V.alloc o) := ⟨h.out.alloc h.out.size _⟩
theorem Sc.grown {W V U : World} (h : Sc W V) (hb : Below W.heap.size V U) : Sc W U := ⟨h.out.trans hb⟩
theorem Sc.size {W V : World} (h : Sc W V) : W.heap.size ≤ V.heap.size := h.out.size

theorem flatE_append (a b : List EvM) : flatE (a ++ b) = flatE a ++ flatE b := by simp [flatE]
theorem flatE_one (xs : List EvM) : ∀ u ∈ flatE xs, u.oneCell' = true := by
  intro u hu
  obtain ⟨x, _, hx⟩ := List.mem_flatMap.1 hu
  exact ev_one x u hx
theorem flatE_at {xs : List EvM} {i : Nat} {u : Value} (h : (flatE xs)[i]? = some u) : ∃ j, ∃ hj : j < xs.length, ∃ c, c < 8 ∧ i = j * 8 + c ∧ xs[j].cells[c]? = some u := by
  have hi : i < xs.length * 8 := by rw [← flatE_len]; exact (List.getElem?_eq_some_iff.1 h).1
  have hj : i / 8 < xs.length := by omega
  have hc : i % 8 < (xs[i / 8]).cells.length := by show _ < 8; omega
  refine ⟨i / 8, hj, i % 8, by omega, by omega, ?_⟩
  have h2 := flatE_get xs (i / 8) hj (i % 8) _ (List.getElem?_eq_getElem hc)
  rw [show i / 8 * 8 + i % 8 = i by omega, h] at h2
  rw [List.getElem?_eq_getElem hc, Option.some.inj h2]
theorem HeldE.news {w : World} {ad : Addr} {xs : List EvM} (h : HeldE w (some ad) xs) : ∀ j u, (flatE xs)[j]? = some u → w.cell? (ad.add j) = some u := by
  intro i u hu
  obtain ⟨j, hj, c, _, rfl, hc⟩ := flatE_at hu
  rcases h.2 with h0 | ⟨b, off, e, _, h3⟩
  · subst h0
    cases hj
  · cases e
    have := h3 j hj c u hc
    rw [Addr.add_lit, ← Nat.add_assoc]
    exact this
theorem ownE_made (w : World) (B : Nat) (hB : B ≤ w.heap.size) : (w.alloc (.cells #[] 33)).ownsRow B 33 8 (.slice (some ⟨w.heap.size, 0, none⟩) 0 0) 0 (flatE []) :=
  ⟨rfl, .inr ⟨w.heap.size, 0, #[], rfl, hB, World.alloc_heap_new w _, Nat.le_refl _, Nat.zero_le _, rfl, rfl⟩⟩
/-- append of events to a row of the call's own, in a region that draws its order. -/
theorem step_append_evs {ops : Array Oper} {o : Oper} {a : Act} {w : World} {K : Act → World → Prop} {Q : Exit → Act → World → Prop} {E : Prop} (hgd : o.guard = none) (s x : Operand)
    (ho : o.op = .call { callee := .builtin .append, args := #[s, x], argTypes := #[22, 22] })
    (base : Nat) (v : Value) (n : Nat) (ds : List EvM) (hn : ds.length = n) (hs : a.eval s = v) (hown : w.ownsRow base 33 8 v n (flatE ds))
    (ao : Option Addr) (m c : Nat) (xs : List EvM) (hm : xs.length = m) (hx : a.eval x = .slice ao m c) (hh : HeldE w ao xs) (hsum : n + m ≤ 100000000) (hbase : base ≤ w.heap.size)
    (hok : ∀ V, Below base w V → AllOk V (ds ++ xs))
    (h : ∀ bo cp w', w'.ownsRow base 33 8 (.slice bo (n + m) cp) (n + m) (flatE (ds ++ xs)) → HeldE w' bo (ds ++ xs) → Below base w w' → w.grownBy w' v.ownBlock → K (a.put o.dst (.slice bo (n + m) cp)) w') :
    if Region.wanted o (yielded ops a.tmps) = true then Oper.wp Try.prog o a w K Q else E := by
  have hw : Region.wanted o (yielded ops a.tmps) = true := by simp [Region.wanted, hgd]
  rw [if_pos hw]
  obtain ⟨iI, hj, hy0, hy1, hy2⟩ := info_parts Try.infoEv
  cases ao with
  | none =>
    have hx0 : xs = [] := by
      rcases hh.2 with h0 | ⟨b, off, e, _⟩
      · exact h0
      · cases e
    subst hx0
    obtain rfl : 0 = m := hm
    have hr := run_append_noneI (P := Try.prog) w base 22 o.type 33 iI 8 Try.underlying22 hj v n c _ hown
    rw [List.append_nil] at h hok
    simp only [Nat.add_zero] at h
    obtain ⟨eo, cap, hv, _, hhE⟩ := heldE_of_own hn hown (hok w (Below.refl _ _))
    unfold Oper.wp execOp
    simp only [ho, resolve, invoke, builtin, Sem.run_bind, Sem.run_pure, Result.andThen_ok, List.map_toArray, List.map_cons, List.map_nil, hs, hx, hr]
    have := h eo cap w (by rw [← hv]; exact hown) hhE (Below.refl _ _) (World.grownBy.refl _ _)
    rw [← hv] at this
    exact this
  | some ad =>
    obtain ⟨v', w', hr, hown', hgrow, _, _⟩ := run_append_own_at (P := Try.prog) w base 22 o.type 33 iI _ 8 96 Try.underlying22 hj hy0 hy1 hy2 rfl (by decide) v n (flatE ds) hown ad m c (flatE xs) (by rw [flatE_len, hm]) hh.news (flatE_one xs) (by unfold maxLen; omega) (by omega) hbase
    unfold Oper.wp execOp
    simp only [ho, resolve, invoke, builtin, Sem.run_bind, Sem.run_pure, Result.andThen_ok, List.map_toArray, List.map_cons, List.map_nil, hs, hx, hr]
    rw [← flatE_append] at hown'
    have hb : Below base w w' := (Below.refl _ _).grown hgrow hbase (fun k hk => (hown.lt k hk).1)
    obtain ⟨bo, cp, rfl, _, hhE⟩ := heldE_of_own (by rw [List.length_append, hn, hm]) hown' (hok w' hb)
    exact h bo cp w' hown' hhE hb hgrow
/-- append([]api.Event{}, x...) in a region that draws its order. -/
theorem step_copy_evs {ops : Array Oper} {o : Oper} {a : Act} {w : World} {K : Act → World → Prop} {Q : Exit → Act → World → Prop} {E : Prop} (hgd : o.guard = none) (s x : Operand)
    (ho : o.op = .call { callee := .builtin .append, args := #[s, x], argTypes := #[22, 22] })
    (base : Nat) (g : Nat) (hs : a.eval s = .slice (some ⟨g, 0, none⟩) 0 0) (hown : w.ownsRow base 33 8 (.slice (some ⟨g, 0, none⟩) 0 0) 0 (flatE []))
    (ao : Option Addr) (m c : Nat) (xs : List EvM) (hm : xs.length = m) (hx : a.eval x = .slice ao m c) (hh : HeldE w ao xs) (hsum : m ≤ 100000000) (hbase : base ≤ w.heap.size)
    (hok : ∀ V, Below base w V → AllOk V xs)
    (h : ∀ bo cp w', w'.ownsRow base 33 8 (.slice bo m cp) m (flatE xs) → HeldE w' bo xs → Below base w w' → w.grownBy w' (some g) → K (a.put o.dst (.slice bo m cp)) w') :
    if Region.wanted o (yielded ops a.tmps) = true then Oper.wp Try.prog o a w K Q else E := by
  refine step_append_evs hgd s x ho base _ 0 [] rfl hs hown ao m c xs hm hx hh (by omega) hbase hok ?_
  intro bo cp w' h1 h2 h3 h4
  rw [Nat.zero_add] at h1 ⊢
  exact h bo cp w' h1 h2 h3 h4
theorem ownE_made2 (w : World) (o : Obj) (B : Nat) (hB : B ≤ w.heap.size) : ((w.alloc o).alloc (.cells #[] 33)).ownsRow B 33 8 (.slice (some ⟨w.heap.size + 1, 0, none⟩) 0 0) 0 (flatE []) := by
  have := ownE_made (w.alloc o) B (by simp; omega)
  rw [World.size_alloc] at this
  exact this
theorem held_new2 {V : World} {xs : List EvM} (h : ∀ U, AllOk U xs) (o : Obj) : HeldE ((V.alloc o).alloc (.cells (flatE xs).toArray 33)) (some ⟨V.heap.size + 1, 0, none⟩) xs := by
  have := held_new (V := V.alloc o) (h _)
  rw [World.size_alloc] at this
  exact this
/-- One event without a vector, through a growing row. -/
theorem held_grown {w w' : World} {b : Nat} {X : EvM} (hX : ∀ V, EvOk V X) {row : Option Nat} (h : HeldE w (some ⟨b, 0, none⟩) [X]) (hg : w.grownBy w' row) (hne : some b ≠ row) : HeldE w' (some ⟨b, 0, none⟩) [X] := by
  refine ⟨fun x hx => by rw [List.mem_singleton.1 hx]; exact hX w', ?_⟩
  rcases h.2 with h0 | ⟨b', off, e, h2, h3⟩
  · cases h0
  · cases e
    refine .inr ⟨b, 0, rfl, Nat.lt_of_lt_of_le h2 hg.size, fun j hj c u hu => ?_⟩
    exact hg.cell (h3 j hj c u hu) (by simpa using hne)
/-- A slice of lines that f tells. -/
def LinesAt (f : ByteArray → Int) (V : World) (lo : Option Addr) (ln : Nat) : Prop := ∃ ls, LinesOf f ls ∧ ls.length = ln ∧ ln ≤ 4194304 ∧ HeldL V lo ls
theorem LinesAt.below {f : ByteArray → Int} {V U : World} {lo : Option Addr} {ln : Nat} (h : LinesAt f V lo ln) (hb : Below V.heap.size V U) : LinesAt f U lo ln := by
  obtain ⟨ls, h1, h2, h3, h4⟩ := h
  exact ⟨ls, h1, h2, h3, h4.below hb⟩
theorem wrapI {x : Int} (h0 : -9223372036854775808 ≤ x) (h1 : x ≤ 9223372036854775807) : IntKind.i64.wrap x = x := by
  rw [IntKind.wrap_i64]
  omega
end Go.Proofs.Ytfeoolknpcffcaa
