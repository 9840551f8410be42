/-
  Sights: appending a slice of them, cutting; what 'at % len' comes to.
-/
import Derived.Test.YtfjmhfbmphdjiaaLnL
import Derived.Test.YtfjmhfbmphdjiaaLnM
import Derived.Deep.RegionLaw
namespace Go.Proofs.Ytfjmhfbmphdjiaa
open Go.RowKit Go.Maps

def cutN (ao : Option Addr) (cap l : Nat) : Option Addr := if cap = l then ao else ao.map (·.add (l * 5))
theorem Try.sizeSn (w : World) : (Go.sizeOf 31).run Try.prog w = .ok 5 w := by
  obtain ⟨i, hi, _, hs, _⟩ := info_parts Try.infoSn
  simp [Go.sizeOf, typeInfo, hi, hs]
theorem run_cutNl (W : World) (ao : Option Addr) (len cap l : Nat) (L : Int) (hL : L = (l : Int)) (hl : l ≤ len) :
    (Instr.slice 22 (.slice ao len cap) (some (.int .i64 L)) none none).run Try.prog W = .ok (.slice (cutN ao cap l) (len - l) (cap - l)) W := by
  subst hL
  have ht' : Try.prog.underlying 22 = some (.slice (Try.prog.elem 22)) := by simp [Program.elem, Try.underlying22]
  have he : Try.prog.elem 22 = 31 := by simp [Program.elem, Try.underlying22]
  rw [run_slice_l W 22 _ _ _ ht' .i64 _ (by omega) (by omega), he, Try.sizeSn]
  simp [Result.andThen, sliced, cutN]
theorem run_cutNh (W : World) (a : Option Addr) (len cap n : Nat) (L : Int) (hL : L = (n : Int)) (hh : n ≤ cap) : (Instr.slice 22 (.slice a len cap) none (some (.int .i64 L)) none).run Try.prog W = .ok (.slice a n cap) W := by
  subst hL
  have ht' : Try.prog.underlying 22 = some (.slice (Try.prog.elem 22)) := by simp [Program.elem, Try.underlying22]
  have he : Try.prog.elem 22 = 31 := by simp [Program.elem, Try.underlying22]
  rw [run_slice_h W 22 _ _ _ ht' .i64 _ (by omega) (by omega), he, Try.sizeSn]
  have hadd : ∀ p : Addr, p.add 0 = p := by
    intro p
    obtain ⟨b, o, s⟩ := p
    cases s <;> simp [Addr.add]
  cases a <;> simp [Result.andThen, sliced, hadd]
theorem HeldSn.drop {w : World} {ao : Option Addr} {cap : Nat} {xs : List Sn} (h : HeldSn w ao xs) {k : Nat} (hc : xs.length ≤ cap) : HeldSn w (cutN ao cap k) (xs.drop k) := by
  refine ⟨fun x hx => h.1 x (List.mem_of_mem_drop hx), ?_⟩
  by_cases hk : xs.drop k = []
  · exact .inl hk
  · have hlt : k < xs.length := by
      rcases Nat.lt_or_ge k xs.length with h | h
      · exact h
      · exact absurd (List.drop_eq_nil_of_le h) hk
    rcases h.2 with h0 | ⟨b, off, rfl, hb, hcl⟩
    · subst h0
      cases hlt
    · refine .inr ⟨b, off + k * 5, ?_, hb, fun j hj c u hu => ?_⟩
      · unfold cutN
        rw [if_neg (by omega)]
        simp [Addr.add]
      · rw [List.length_drop] at hj
        rw [List.getElem_drop] at hu
        have := hcl (k + j) (by omega) c u hu
        rw [show off + k * 5 + j * 5 + c = off + (k + j) * 5 + c by omega]
        exact this
/-- append of sights to a row of the call's own, in a region that draws its order. -/
theorem step_append_sns {ops : Array Oper} {o : Oper} {a : Act} {w : World} {K : Act → World → Prop} {Q : Exit → Act → World → Prop} {E : Prop} (hgd : o.guard = none) (s x : Operand)
    (ho : o.op = .call { callee := .builtin .append, args := #[s, x], argTypes := #[22, 22] })
    (base : Nat) (v : Value) (n : Nat) (ds : List Sn) (hn : ds.length = n) (hd : AllSn ds) (hs : a.eval s = v) (hown : w.ownsRow base 31 5 v n (flatN ds))
    (ao : Option Addr) (m c : Nat) (xs : List Sn) (hm : xs.length = m) (hx : a.eval x = .slice ao m c) (hh : HeldSn w ao xs) (hsum : n + m ≤ 2932031007402) (hbase : base ≤ w.heap.size)
    (h : ∀ bo cp w', w'.ownsRow base 31 5 (.slice bo (n + m) cp) (n + m) (flatN (ds ++ xs)) → HeldSn w' bo (ds ++ xs) → Below base w w' → w.grownBy w' v.ownBlock → K (a.put o.dst (.slice bo (n + m) cp)) w') :
    if Region.wanted o (yielded ops a.tmps) = true then Oper.wp Try.prog o a w K Q else E := by
  have hw : Region.wanted o (yielded ops a.tmps) = true := by simp [Region.wanted, hgd]
  rw [if_pos hw]
  obtain ⟨iI, hj, hy0, hy1, hy2⟩ := info_parts Try.infoSn
  have hok : AllSn (ds ++ xs) := fun x hx => by
    rcases List.mem_append.1 hx with h | h
    · exact hd x h
    · exact hh.1 x h
  cases ao with
  | none =>
    have hx0 : xs = [] := by
      rcases hh.2 with h0 | ⟨b, off, e, _⟩
      · exact h0
      · cases e
    subst hx0
    obtain rfl : 0 = m := hm
    have hr := run_append_noneI (P := Try.prog) w base 22 o.type 31 iI 5 Try.underlying22 hj v n c _ hown
    rw [List.append_nil] at h hok
    simp only [Nat.add_zero] at h
    obtain ⟨eo, cap, hv, _, hhE⟩ := heldSn_of_own hn hown hok
    unfold Oper.wp execOp
    simp only [ho, resolve, invoke, builtin, Sem.run_bind, Sem.run_pure, Result.andThen_ok, List.map_toArray, List.map_cons, List.map_nil, hs, hx, hr]
    have := h eo cap w (by rw [← hv]; exact hown) hhE (Below.refl _ _) (World.grownBy.refl _ _)
    rw [← hv] at this
    exact this
  | some ad =>
    obtain ⟨v', w', hr, hown', hgrow, _, _⟩ := run_append_own_at (P := Try.prog) w base 22 o.type 31 iI _ 5 48 Try.underlying22 hj hy0 hy1 hy2 rfl (by decide) v n (flatN ds) hown ad m c (flatN xs) (by rw [flatN_len, hm]) hh.news (flatN_one xs) (by unfold maxLen; omega) (by omega) hbase
    unfold Oper.wp execOp
    simp only [ho, resolve, invoke, builtin, Sem.run_bind, Sem.run_pure, Result.andThen_ok, List.map_toArray, List.map_cons, List.map_nil, hs, hx, hr]
    rw [← flatN_append] at hown'
    have hb : Below base w w' := (Below.refl _ _).grown hgrow hbase (fun k hk => (hown.lt k hk).1)
    obtain ⟨bo, cp, rfl, _, hhE⟩ := heldSn_of_own (by rw [List.length_append, hn, hm]) hown' hok
    exact h bo cp w' hown' hhE hb hgrow
theorem ownN_made (w : World) (B : Nat) (hB : B ≤ w.heap.size) : (w.alloc (.cells #[] 31)).ownsRow B 31 5 (.slice (some ⟨w.heap.size, 0, none⟩) 0 0) 0 (flatN []) :=
  ⟨rfl, .inr ⟨w.heap.size, 0, #[], rfl, hB, World.alloc_heap_new w _, Nat.le_refl _, Nat.zero_le _, rfl, rfl⟩⟩
/-- append of sights to a row of the call's own. -/
theorem wpList_append_sns {ops : Array Oper} {rest : List Oper} {o : Oper} {a : Act} {w : World} {Q : Exit → Act → World → Prop} (hgd : o.guard = none) (s x : Operand)
    (ho : o.op = .call { callee := .builtin .append, args := #[s, x], argTypes := #[22, 22] })
    (base : Nat) (v : Value) (n : Nat) (ds : List Sn) (hn : ds.length = n) (hd : AllSn ds) (hs : a.eval s = v) (hown : w.ownsRow base 31 5 v n (flatN ds))
    (ao : Option Addr) (m c : Nat) (xs : List Sn) (hm : xs.length = m) (hx : a.eval x = .slice ao m c) (hh : HeldSn w ao xs) (hsum : n + m ≤ 2932031007402) (hbase : base ≤ w.heap.size)
    (h : ∀ bo cp w', w'.ownsRow base 31 5 (.slice bo (n + m) cp) (n + m) (flatN (ds ++ xs)) → HeldSn w' bo (ds ++ xs) → Below base w w' → wpList Try.prog ops Q rest (a.put o.dst (.slice bo (n + m) cp)) w') :
    wpList Try.prog ops Q (o :: rest) a w := by
  refine wpList_plain hgd fun K hK => ?_
  have := step_append_sns (ops := #[]) (K := K) (Q := Q) (E := False) hgd s x ho base v n ds hn hd hs hown ao m c xs hm hx hh hsum hbase (fun bo cp w' h1 h2 h3 _ => hK _ _ (h bo cp w' h1 h2 h3))
  rw [if_pos (by simp [Region.wanted, hgd])] at this
  exact this
/-- append([]api.Seen{}, x...) in a region that draws its order. -/
theorem step_copy_sns {ops : Array Oper} {o : Oper} {a : Act} {w : World} {K : Act → World → Prop} {Q : Exit → Act → World → Prop} {E : Prop} (hgd : o.guard = none) (s x : Operand)
    (ho : o.op = .call { callee := .builtin .append, args := #[s, x], argTypes := #[22, 22] })
    (base : Nat) (v : Value) (hs : a.eval s = v) (hown : w.ownsRow base 31 5 v 0 (flatN []))
    (ao : Option Addr) (m c : Nat) (xs : List Sn) (hm : xs.length = m) (hx : a.eval x = .slice ao m c) (hh : HeldSn w ao xs) (hsum : m ≤ 2932031007402) (hbase : base ≤ w.heap.size)
    (h : ∀ bo cp w', w'.ownsRow base 31 5 (.slice bo m cp) m (flatN xs) → HeldSn w' bo xs → Below base w w' → w.grownBy w' v.ownBlock → K (a.put o.dst (.slice bo m cp)) w') :
    if Region.wanted o (yielded ops a.tmps) = true then Oper.wp Try.prog o a w K Q else E := by
  refine step_append_sns hgd s x ho base _ 0 [] rfl (fun x hx => by cases hx) hs hown ao m c xs hm hx hh (by omega) hbase ?_
  intro bo cp w' h1 h2 h3 h4
  rw [Nat.zero_add] at h1 ⊢
  exact h bo cp w' h1 h2 h3 h4
/-- append([]api.Seen{}, x...). -/
theorem wpList_copy_sns {ops : Array Oper} {rest : List Oper} {o : Oper} {a : Act} {w : World} {Q : Exit → Act → World → Prop} (hgd : o.guard = none) (s x : Operand)
    (ho : o.op = .call { callee := .builtin .append, args := #[s, x], argTypes := #[22, 22] })
    (base : Nat) (v : Value) (hs : a.eval s = v) (hown : w.ownsRow base 31 5 v 0 (flatN []))
    (ao : Option Addr) (m c : Nat) (xs : List Sn) (hm : xs.length = m) (hx : a.eval x = .slice ao m c) (hh : HeldSn w ao xs) (hsum : m ≤ 2932031007402) (hbase : base ≤ w.heap.size)
    (h : ∀ bo cp w', w'.ownsRow base 31 5 (.slice bo m cp) m (flatN xs) → HeldSn w' bo xs → Below base w w' → wpList Try.prog ops Q rest (a.put o.dst (.slice bo m cp)) w') :
    wpList Try.prog ops Q (o :: rest) a w := by
  refine wpList_append_sns hgd s x ho base v 0 [] rfl (fun x hx => by cases hx) hs hown ao m c xs hm hx hh (by omega) hbase ?_
  intro bo cp w' h1 h2 h3
  rw [Nat.zero_add] at h1 ⊢
  exact h bo cp w' h1 h2 h3
/-- What 'at % n', and n added where that is below 0, comes to. -/
theorem rem_place (at_ : Int) {n : Nat} (hn : 0 < n) : ∃ (t : Int) (k : Nat), at_.tmod (n : Int) = t ∧ k < n ∧ ((t < 0 ∧ t + (n : Int) = (k : Int)) ∨ (¬ t < 0 ∧ t = (k : Int))) := by
  have h1 := Int.tmod_lt_of_pos at_ (show (0 : Int) < (n : Int) by omega)
  have h2 : -(n : Int) < at_.tmod (n : Int) := by
    have := Int.lt_tmod_of_pos at_ (show (0 : Int) < (n : Int) by omega)
    omega
  by_cases h : at_.tmod (n : Int) < 0
  · exact ⟨_, (at_.tmod (n : Int) + n).toNat, rfl, by omega, .inl ⟨h, by omega⟩⟩
  · exact ⟨_, (at_.tmod (n : Int)).toNat, rfl, by omega, .inr ⟨h, by omega⟩⟩
theorem split_at {xs : List Sn} {k : Nat} (hk : k < xs.length) : xs = xs.take k ++ xs[k] :: xs.drop (k + 1) := by
  conv => lhs; rw [← List.take_append_drop k xs]
  rw [List.drop_eq_getElem_cons hk]
end Go.Proofs.Ytfjmhfbmphdjiaa
