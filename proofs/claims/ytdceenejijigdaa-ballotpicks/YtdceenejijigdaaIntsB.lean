/-
  Slices of ints: appending in a region that draws its order; cutting. No function of the program is named here.
-/
import Derived.Test.YtdceenejijigdaaBalRow
import Derived.Test.YtdceenejijigdaaApps
import Derived.Deep.RegionLaw
namespace Go.Proofs.Ytdceenejijigdaa
open Go.RowKit Go.Maps

theorem ints_append (a b : List Int) : ints (a ++ b) = ints a ++ ints b := by simp [ints]
theorem HeldInt.news' {w : World} {ad : Addr} {xs : List Int} (h : HeldInt w (some ad) xs) : ∀ j u, (ints xs)[j]? = some u → w.cell? (ad.add j) = some u := by
  intro j u hu
  rcases h.2 with h0 | ⟨b, off, e, _⟩
  · subst h0
    simp [ints] at hu
  · cases e
    exact h.news j u hu
/-- append(v, x...) in a region that draws its order. -/
theorem step_append_ints {ops : Array Oper} {o : Oper} {a : Act} {w : World} {K : Act → World → Prop} {Q : Exit → Act → World → Prop} {E : Prop} (hgd : o.guard = none) (s x : Operand)
    (ho : o.op = .call { callee := .builtin .append, args := #[s, x], argTypes := #[32, 32] })
    (base : Nat) (v : Value) (n : Nat) (ds : List Int) (_hn : ds.length = n) (hs : a.eval s = v) (hown : w.ownsRow base 3 1 v n (ints ds))
    (ao : Option Addr) (m c : Nat) (xs : List Int) (hm : xs.length = m) (hx : a.eval x = .slice ao m c) (hh : HeldInt w ao xs) (hsum : n + m ≤ 4398046511104) (hbase : base ≤ w.heap.size)
    (h : ∀ bo cp w', w'.ownsRow base 3 1 (.slice bo (n + m) cp) (n + m) (ints (ds ++ xs)) → Below base w w' → w.grownBy w' v.ownBlock → K (a.put o.dst (.slice bo (n + m) cp)) w') :
    if Region.wanted o (yielded ops a.tmps) = true then Oper.wp Try.prog o a w K Q else E := by
  have hw : Region.wanted o (yielded ops a.tmps) = true := by simp [Region.wanted, hgd]
  rw [if_pos hw]
  obtain ⟨iI, hj, hy0, hy1, hy2⟩ := info_parts Try.infoInt
  cases ao with
  | none =>
    have hx0 : xs = [] := by
      rcases hh.2 with h0 | ⟨b, off, e, _⟩
      · exact h0
      · cases e
    subst hx0
    obtain rfl : 0 = m := hm
    have hr := run_append_noneI (P := Try.prog) w base 32 o.type 3 iI 1 Try.underlying32 hj v n c _ hown
    rw [List.append_nil] at h
    simp only [Nat.add_zero] at h
    obtain ⟨eo, cap, hv, _⟩ := own_form8 hown
    unfold Oper.wp execOp
    simp only [ho, resolve, invoke, builtin, Sem.run_bind, Sem.run_pure, Result.andThen_ok, List.map_toArray, List.map_cons, List.map_nil, hs, hx, hr]
    have := h eo cap w (by rw [← hv]; exact hown) (Below.refl _ _) (World.grownBy.refl _ _)
    rw [← hv] at this
    exact this
  | some ad =>
    obtain ⟨v', w', hr, hown', hgrow, _, _⟩ := run_append_own_at (P := Try.prog) w base 32 o.type 3 iI _ 1 8 Try.underlying32 hj hy0 hy1 hy2 rfl (by decide) v n (ints ds) hown ad m c (ints xs) (by rw [ints_len, hm, Nat.mul_one]) hh.news' (ints_one xs) (by unfold maxLen; omega) (by omega) hbase
    unfold Oper.wp execOp
    simp only [ho, resolve, invoke, builtin, Sem.run_bind, Sem.run_pure, Result.andThen_ok, List.map_toArray, List.map_cons, List.map_nil, hs, hx, hr]
    rw [← ints_append] at hown'
    have hb : Below base w w' := (Below.refl _ _).grown hgrow hbase (fun k hk => (hown.lt k hk).1)
    obtain ⟨bo, cp, rfl, _⟩ := own_form8 hown'
    exact h bo cp w' hown' hb hgrow
/-- append([]int{}, x...) in a region that draws its order. -/
theorem step_copy_ints {ops : Array Oper} {o : Oper} {a : Act} {w : World} {K : Act → World → Prop} {Q : Exit → Act → World → Prop} {E : Prop} (hgd : o.guard = none) (s x : Operand)
    (ho : o.op = .call { callee := .builtin .append, args := #[s, x], argTypes := #[32, 32] })
    (base : Nat) (g : Nat) (hs : a.eval s = .slice (some ⟨g, 0, none⟩) 0 0) (hown : w.ownsRow base 3 1 (.slice (some ⟨g, 0, none⟩) 0 0) 0 (ints []))
    (ao : Option Addr) (m c : Nat) (xs : List Int) (hm : xs.length = m) (hx : a.eval x = .slice ao m c) (hh : HeldInt w ao xs) (hsum : m ≤ 4398046511104) (hbase : base ≤ w.heap.size)
    (h : ∀ bo cp w', w'.ownsRow base 3 1 (.slice bo m cp) m (ints xs) → Below base w w' → w.grownBy w' (some g) → K (a.put o.dst (.slice bo m cp)) w') :
    if Region.wanted o (yielded ops a.tmps) = true then Oper.wp Try.prog o a w K Q else E := by
  refine step_append_ints hgd s x ho base _ 0 [] rfl hs hown ao m c xs hm hx hh (by omega) hbase ?_
  intro bo cp w' h1 h2 h3
  rw [Nat.zero_add] at h1 ⊢
  exact h bo cp w' h1 h2 h3
theorem ownI_made2 (w : World) (o : Obj) (B : Nat) (hB : B ≤ w.heap.size) : ((w.alloc o).alloc (.cells #[] 3)).ownsRow B 3 1 (.slice (some ⟨w.heap.size + 1, 0, none⟩) 0 0) 0 (ints []) := by
  have := ownI_made (w.alloc o) B (by simp; omega)
  rw [World.size_alloc] at this
  exact this
theorem HeldInt.drop {w : World} {ao : Option Addr} {cap : Nat} {xs : List Int} (h : HeldInt w ao xs) {k : Nat} (hc : xs.length ≤ cap) : HeldInt w (cutAt ao cap k) (xs.drop k) := by
  refine ⟨fun x hx => h.1 x (List.mem_of_mem_drop hx), ?_⟩
  by_cases hk : xs.drop k = []
  · exact .inl hk
  · have hlt : k < xs.length := by
      rcases Nat.lt_or_ge k xs.length with h | h
      · exact h
      · exact absurd (List.drop_eq_nil_of_le h) hk
    rcases h.2 with h0 | ⟨b, off, rfl, hb, hcl⟩
    · subst h0
      cases hlt
    · refine .inr ⟨b, off + k, ?_, hb, fun j hj => ?_⟩
      · unfold cutAt
        rw [if_neg (by omega)]
        simp [Addr.add_lit]
      · have hj' : k + j < xs.length := by simp at hj; omega
        have := hcl (k + j) hj'
        rw [← Nat.add_assoc] at this
        rw [this]
        simp [List.getD, List.getElem?_drop]
/-- One number in a block of its own, through a growing row. -/
theorem HeldInt.one_grown {w w' : World} {b : Nat} {x : Int} {row : Option Nat} (hx : -9223372036854775808 ≤ x ∧ x ≤ 9223372036854775807) (h : w.cell? ⟨b, 0, none⟩ = some (.int .i64 x)) (hb : b < w.heap.size) (hg : w.grownBy w' row) (hne : some b ≠ row) : HeldInt w' (some ⟨b, 0, none⟩) [x] :=
  ⟨fun y hy => by rw [List.mem_singleton.1 hy]; exact hx, .inr ⟨b, 0, rfl, Nat.lt_of_lt_of_le hb hg.size, fun j hj => by
    have : j = 0 := by simpa using hj
    subst this
    exact hg.cell h (by simpa using hne)⟩⟩
theorem HeldInt.one_new {V : World} {x : Int} (hx : -9223372036854775808 ≤ x ∧ x ≤ 9223372036854775807) : HeldInt (V.alloc (.cells #[.int .i64 x] 3)) (some ⟨V.heap.size, 0, none⟩) [x] := HeldInt.new V [x] (fun y hy => by rw [List.mem_singleton.1 hy]; exact hx)
end Go.Proofs.Ytdceenejijigdaa
