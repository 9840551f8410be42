/-
  Rows of numbers that rise strictly: two with the same numbers are the same; what is put at its place; what slices.Compact makes of a sorted row. No function of the program is named here.
-/
import Derived.Test.YthcpopigkbefhaaGreatIntsA
import Derived.Lib.SlicesCompact
import Derived.Test.YthcpopigkbefhaaGreatBase
import Derived.Test.YthcpopigkbefhaaGreatRows
namespace Go.Proofs.YthcpopigkbefhaaGreat
open Go.RowKit

def Rises (l : List Int) : Prop := l.Pairwise (· < ·)
theorem rises_unique : ∀ {a b : List Int}, Rises a → Rises b → (∀ x, x ∈ a ↔ x ∈ b) → a = b
  | [], [], _, _, _ => rfl
  | [], y :: b, _, _, h => absurd ((h y).2 (by simp)) (by simp)
  | x :: a, [], _, _, h => absurd ((h x).1 (by simp)) (by simp)
  | x :: a, y :: b, ha, hb, h => by
    unfold Rises at ha hb
    rw [List.pairwise_cons] at ha hb
    have hxy : x = y := by
      rcases List.mem_cons.1 ((h x).1 (by simp)) with e | e
      · exact e
      · rcases List.mem_cons.1 ((h y).2 (by simp)) with e2 | e2
        · exact e2.symm
        · have := hb.1 x e
          have := ha.1 y e2
          omega
    subst hxy
    congr 1
    refine rises_unique ha.2 hb.2 (fun z => ⟨fun hz => ?_, fun hz => ?_⟩)
    · rcases List.mem_cons.1 ((h z).1 (List.mem_cons_of_mem _ hz)) with e | e
      · subst e; have := ha.1 z hz; omega
      · exact e
    · rcases List.mem_cons.1 ((h z).2 (List.mem_cons_of_mem _ hz)) with e | e
      · subst e; have := hb.1 z hz; omega
      · exact e
/-- How many stand ahead of x's place. -/
def aheadOf (l : List Int) (x : Int) : Nat := (l.takeWhile (fun y => decide (y < x))).length
theorem aheadOf_le (l : List Int) (x : Int) : aheadOf l x ≤ l.length := (List.takeWhile_prefix _).length_le
theorem aheadOf_lt : ∀ (l : List Int) (x : Int) (j : Nat) (hj : j < l.length), j < aheadOf l x → l[j] < x
  | [], _, _, hj, _ => by cases hj
  | y :: l, x, 0, _, h => by
    unfold aheadOf at h
    rw [List.takeWhile_cons] at h
    split at h
    · next hy => simpa using hy
    · simp at h
  | y :: l, x, j + 1, hj, h => by
    unfold aheadOf at h
    rw [List.takeWhile_cons] at h
    split at h
    · simp only [List.length_cons] at h
      exact aheadOf_lt l x j (by simpa using hj) (by unfold aheadOf; omega)
    · simp at h
theorem aheadOf_at : ∀ (l : List Int) (x : Int) (h : aheadOf l x < l.length), x ≤ l[aheadOf l x]
  | [], _, h => by cases h
  | y :: l, x, h => by
    by_cases hy : y < x
    · have e : aheadOf (y :: l) x = aheadOf l x + 1 := by unfold aheadOf; rw [List.takeWhile_cons, if_pos (by simpa using hy)]; simp
      have h' : aheadOf l x < l.length := by rw [e] at h; simpa using h
      have := aheadOf_at l x h'
      simp only [e, List.getElem_cons_succ]
      exact this
    · have e : aheadOf (y :: l) x = 0 := by unfold aheadOf; rw [List.takeWhile_cons, if_neg (by simpa using hy)]; rfl
      simp only [e, List.getElem_cons_zero]
      omega
/-- The row's own search stops where x belongs. -/
theorem aheadOf_eq {l : List Int} {x : Int} {k : Nat} (h1 : ∀ j (hj : j < l.length), j < k → l[j] < x) (hk : k ≤ l.length) (h2 : k = l.length ∨ ∃ h : k < l.length, ¬ l[k] < x) : k = aheadOf l x := by
  rcases Nat.lt_trichotomy k (aheadOf l x) with h | h | h
  · have hl := aheadOf_le l x
    rcases h2 with h2 | ⟨h3, h4⟩
    · omega
    · exact absurd (aheadOf_lt l x k h3 h) h4
  · exact h
  · have h3 : aheadOf l x < l.length := by omega
    have := aheadOf_at l x h3
    have := h1 _ h3 h
    omega
/-- x at its place, where it is not there yet. -/
def putS (l : List Int) (x : Int) : List Int := if aheadOf l x = l.length ∨ l.getD (aheadOf l x) 0 ≠ x then l.take (aheadOf l x) ++ [x] ++ l.drop (aheadOf l x) else l
theorem putS_mem (l : List Int) (x y : Int) : y ∈ putS l x ↔ y ∈ l ∨ y = x := by
  unfold putS
  split
  · rw [List.mem_append, List.mem_append, List.mem_singleton]
    constructor
    · rintro ((h | h) | h)
      · exact .inl (List.mem_of_mem_take h)
      · exact .inr h
      · exact .inl (List.mem_of_mem_drop h)
    · rintro (h | h)
      · rw [← List.take_append_drop (aheadOf l x) l] at h
        rcases List.mem_append.1 h with h | h
        · exact .inl (.inl h)
        · exact .inr h
      · exact .inl (.inr h)
  · next h =>
    simp only [not_or, ne_eq, Decidable.not_not] at h
    refine ⟨.inl, fun hh => ?_⟩
    rcases hh with hh | rfl
    · exact hh
    · have hl : aheadOf l y < l.length := by have := aheadOf_le l y; omega
      have := h.2
      rw [show l.getD (aheadOf l y) 0 = l[aheadOf l y] by simp [List.getD, List.getElem?_eq_getElem hl]] at this
      rw [← this]
      exact List.getElem_mem hl
theorem putS_rises {l : List Int} (hl : Rises l) (x : Int) : Rises (putS l x) := by
  unfold putS
  split
  · next h =>
    have hup : ∀ y ∈ l.drop (aheadOf l x), x < y := by
      intro y hy
      obtain ⟨j, hj, rfl⟩ := List.getElem_of_mem hy
      have hj' : aheadOf l x + j < l.length := by simp at hj; omega
      have h0 : aheadOf l x < l.length := by omega
      have hx : x < l[aheadOf l x] := by
        have h1 := aheadOf_at l x h0
        rcases h with h | h
        · omega
        · rw [show l.getD (aheadOf l x) 0 = l[aheadOf l x] by simp [List.getD, List.getElem?_eq_getElem h0]] at h
          omega
      rw [List.getElem_drop]
      rcases Nat.eq_zero_or_pos j with rfl | hp
      · simpa using hx
      · have := List.pairwise_iff_getElem.1 hl (aheadOf l x) (aheadOf l x + j) h0 hj' (by omega)
        omega
    have hdn : ∀ y ∈ l.take (aheadOf l x), y < x := by
      intro y hy
      obtain ⟨j, hj, rfl⟩ := List.getElem_of_mem hy
      have hj' : j < aheadOf l x ∧ j < l.length := by simp at hj; omega
      rw [List.getElem_take]
      exact aheadOf_lt l x j hj'.2 hj'.1
    have e : l.take (aheadOf l x) ++ [x] ++ l.drop (aheadOf l x) = l.take (aheadOf l x) ++ x :: l.drop (aheadOf l x) := by simp
    rw [e]
    refine List.pairwise_append.2 ⟨hl.sublist (List.take_sublist _ _), List.pairwise_cons.2 ⟨hup, hl.sublist (List.drop_sublist _ _)⟩, fun a ha b hb => ?_⟩
    rcases List.mem_cons.1 hb with rfl | hb
    · exact hdn a ha
    · exact Int.lt_trans (hdn a ha) (hup b hb)
  · exact hl
theorem putS_len (l : List Int) (x : Int) : (putS l x).length ≤ l.length + 1 := by
  unfold putS
  split
  · have := aheadOf_le l x
    simp
    omega
  · omega
def putAll (l : List Int) : List Int := l.foldl putS []
theorem putAll_snoc (l : List Int) (x : Int) : putAll (l ++ [x]) = putS (putAll l) x := by simp [putAll]
theorem foldS : ∀ (l a : List Int), Rises a → Rises (l.foldl putS a) ∧ (∀ y, y ∈ l.foldl putS a ↔ y ∈ a ∨ y ∈ l) ∧ (l.foldl putS a).length ≤ a.length + l.length
  | [], a, ha => ⟨ha, fun y => by simp, by simp⟩
  | x :: l, a, ha => by
    obtain ⟨h1, h2, h3⟩ := foldS l (putS a x) (putS_rises ha x)
    refine ⟨h1, fun y => ?_, ?_⟩
    · show y ∈ l.foldl putS (putS a x) ↔ _
      rw [h2, putS_mem, List.mem_cons, or_assoc]
    · have := putS_len a x
      show (l.foldl putS (putS a x)).length ≤ _
      simp only [List.length_cons]
      omega
theorem putAll_rises (l : List Int) : Rises (putAll l) := (foldS l [] .nil).1
theorem putAll_mem (l : List Int) (y : Int) : y ∈ putAll l ↔ y ∈ l := by
  have := (foldS l [] .nil).2.1 y
  simpa [putAll] using this
theorem putAll_len (l : List Int) : (putAll l).length ≤ l.length := by
  have := (foldS l [] .nil).2.2
  simpa [putAll] using this
/-- slices.Compact of a sorted row. -/
theorem compact_sorted {d : Array Int} (hs : ∀ i j, i < j → j < d.size → d[i]! ≤ d[j]!) : ∀ m, m ≤ d.size → Rises (Lib.compactUpTo d m) ∧ (∀ y ∈ Lib.compactUpTo d m, ∃ j, j < m ∧ y = d[j]!) ∧ (∀ j, j < m → d[j]! ∈ Lib.compactUpTo d m)
  | 0, _ => ⟨.nil, fun y hy => by simp [Lib.compactUpTo] at hy, fun j hj => by omega⟩
  | m + 1, hm => by
    obtain ⟨h1, h2, h3⟩ := compact_sorted hs m (by omega)
    rw [Lib.compactUpTo_succ]
    by_cases hk : Lib.keeps d m = true
    · rw [if_pos hk]
      refine ⟨List.pairwise_append.2 ⟨h1, by simp, fun a ha b hb => ?_⟩, fun y hy => ?_, fun j hj => ?_⟩
      · simp only [List.mem_singleton] at hb
        subst hb
        obtain ⟨j, hj, rfl⟩ := h2 a ha
        have hne : d[m]! ≠ d[m - 1]! := by
          simp only [Lib.keeps, decide_eq_true_eq] at hk
          rcases hk with h | h
          · omega
          · exact h
        have a1 : d[j]! ≤ d[m - 1]! := by
          rcases Nat.lt_or_ge j (m - 1) with h | h
          · exact hs j (m - 1) h (by omega)
          · rw [show j = m - 1 by omega]; exact Int.le_refl _
        have a2 := hs (m - 1) m (by omega) (by omega)
        omega
      · rcases List.mem_append.1 hy with h | h
        · obtain ⟨j, hj, e⟩ := h2 y h
          exact ⟨j, by omega, e⟩
        · simp only [List.mem_singleton] at h
          exact ⟨m, by omega, h⟩
      · rcases Nat.lt_or_ge j m with h | h
        · exact List.mem_append.2 (.inl (h3 j h))
        · rw [show j = m by omega]; simp
    · rw [if_neg hk, List.append_nil]
      refine ⟨h1, fun y hy => ?_, fun j hj => ?_⟩
      · obtain ⟨j, hj, e⟩ := h2 y hy
        exact ⟨j, by omega, e⟩
      · rcases Nat.lt_or_ge j m with h | h
        · exact h3 j h
        · have hm0 : m ≠ 0 ∧ d[m]! = d[m - 1]! := by
            simp only [Lib.keeps, decide_eq_true_eq, not_or, ne_eq, Decidable.not_not] at hk
            exact hk
          rw [show j = m by omega, hm0.2]
          exact h3 (m - 1) (by omega)
theorem compact_putAll (l : List Int) : Lib.compact (l.mergeSort fun x y => decide (x ≤ y)) = putAll l := by
  have hp : (l.mergeSort fun x y => decide (x ≤ y)).Pairwise (fun a b => decide (a ≤ b) = true) := List.pairwise_mergeSort (fun a b c h1 h2 => by simp at *; omega) (fun a b => by simp; omega) l
  obtain ⟨s, hs⟩ : ∃ s, s = l.mergeSort fun x y => decide (x ≤ y) := ⟨_, rfl⟩
  rw [← hs] at hp ⊢
  have hmem : ∀ y, y ∈ s ↔ y ∈ l := fun y => by rw [hs]; exact List.mem_mergeSort
  have hso : ∀ i j, i < j → j < s.toArray.size → s.toArray[i]! ≤ s.toArray[j]! := by
    intro i j hij hj
    have hj' : j < s.length := by simpa using hj
    have := List.pairwise_iff_getElem.1 hp i j (by omega) hj' hij
    rw [getElem!_pos s.toArray i (by simp; omega), getElem!_pos s.toArray j hj]
    simpa using this
  obtain ⟨h1, h2, h3⟩ := compact_sorted hso s.length (by simp)
  refine rises_unique h1 (putAll_rises l) (fun y => ?_)
  rw [putAll_mem, ← hmem y]
  constructor
  · intro hy
    obtain ⟨j, hj, rfl⟩ := h2 y hy
    rw [getElem!_pos s.toArray j (by simpa using hj)]
    simp
  · intro hy
    obtain ⟨j, hj, rfl⟩ := List.getElem_of_mem hy
    have := h3 j hj
    rw [getElem!_pos s.toArray j (by simpa using hj)] at this
    show _ ∈ Lib.compactUpTo s.toArray s.length
    simpa using this
end Go.Proofs.YthcpopigkbefhaaGreat
/-
  Laws on append, cutting and opening for slices of bytes, over any program: what 'append(v, x...)' makes of an owned row v and a slice x that holds bytes; what 's[l:]', 's[l:h]' hold; how an argument of type []byte is read. No function of the program is named here.
-/
namespace Go.Proofs.YthcpopigkbefhaaGreat
open Go.RowKit

theorem wpList_append_held {P : Program} (w : World) {ops : Array Oper} {rest : List Oper} {o : Oper} {a : Act} {Q : Exit → Act → World → Prop} (hgd : o.guard = none) (s x : Operand) (t : TypeId)
    (ho : o.op = .call { callee := .builtin .append, args := #[s, x], argTypes := #[t, t] })
    (base : Nat) (e : TypeId) (i : TypeInfo) (ht : P.underlying t = some (.slice e)) (hi : P.info? e = some i) (hz : i.zero = some (.int .u8 0)) (hsize : i.size = 1) (hby : i.bytes = 1)
    (v : Value) (n : Nat) (bs : List Int) (hs : a.eval s = v) (hown : w.ownsRow base e 1 v n (nums bs)) (hbs : AllB bs)
    (ao : Option Addr) (m c : Nat) (cs : List Int) (hx : a.eval x = .slice ao m c) (hh : Held w ao m c cs) (hsum : n + m ≤ 140737488355328) (hbase : base ≤ w.heap.size)
    (h : ∀ bo cp w', w'.ownsRow base e 1 (.slice bo (n + m) cp) (n + m) (nums (bs ++ cs)) → Held w' bo (n + m) cp (bs ++ cs) → Below base w w' → Grew w w' v (.slice bo (n + m) cp) → wpList P ops Q rest (a.put o.dst (.slice bo (n + m) cp)) w') :
    wpList P ops Q (o :: rest) a w := by
  cases ao with
  | none =>
    have hc := hh.nil rfl
    have hm : m = 0 := by have := hh.hcap; omega
    subst hm hc
    have hcs : cs = [] := List.eq_nil_of_length_eq_zero hh.hlen
    subst hcs
    obtain ⟨bo, cp, rfl, hhv⟩ := held_of_own hown hbs
    refine wpList_plain hgd fun K hK => ?_
    have hr := run_append_owned_none (P := P) w base t o.type e i 1 ht hi _ n _ hown
    unfold Oper.wp execOp
    simp only [ho, resolve, invoke, builtin, Sem.run_bind, Sem.run_pure, Result.andThen_ok, List.map_toArray, List.map_cons, List.map_nil, hs, hx, hr]
    refine hK _ _ ?_
    have := h bo cp w (by simpa using hown) (by simpa using hhv) (Below.refl _ _) (Grew.refl _ _)
    simpa using this
  | some ad =>
    refine wpList_append_own_at w hgd s x t ho base e i (.int .u8 0) 1 1 ht hi hz hsize hby rfl (by decide) v n (nums bs) hs hown ad m c (nums cs) hx (by rw [nums_len, hh.hlen]; omega) (hh.news ad rfl) (nums_one cs) (by unfold maxLen; omega) (by omega) hbase ?_
    intro v' w' hown' hgrow _ hat
    rw [← nums_append] at hown'
    obtain ⟨bo, cp, rfl, hhv⟩ := held_of_own hown' (hbs.append hh.byte)
    exact h bo cp w' hown' hhv ((Below.refl _ _).grown hgrow hbase (own_lt hown)) (Grew.of hgrow hat)

theorem held_row {w : World} {x : Addr} {len cap : Nat} {zs : List Int} (hl : len ≤ cap) (hm : cap ≤ maxLen) (hz : zs.length = cap) (hcell : ∀ i, i < zs.length → w.cell? (x.add i) = some (.int .u8 (zs.getD i 0))) (hwz : ∀ n ∈ zs, (Lit.int .u8 n).wf = true) : Held w (some x) len cap (zs.take len) := by
  have hb : AllB zs := by
    intro c hc
    have := hwz c hc
    simpa [Lit.wf, IntKind.min, IntKind.max, IntKind.signed, IntKind.bits] using this
  refine ⟨by simp; omega, hl, hm, fun h => (by cases h), hb.take len, fun ad ha j hj => ?_, fun ad ha hp => ?_⟩
  · obtain rfl := Option.some.inj ha
    rw [hcell j (by omega)]
    simp [List.getD, List.getElem?_take_of_lt hj]
  · obtain rfl := Option.some.inj ha
    have := World.block_lt_of_cell? w _ (hcell 0 (by omega))
    simpa [Addr.add] using this

theorem held_nil (w : World) : Held w none 0 0 [] := ⟨rfl, Nat.le_refl _, Nat.zero_le _, fun _ => rfl, fun c hc => (by cases hc), fun ad h => (by cases h), fun ad h => (by cases h)⟩

/-- What 's[l:h]' holds. -/
def cutAt (ao : Option Addr) (cap l : Nat) : Option Addr := if cap = l then ao else ao.map (·.add l)
theorem addr_add (p : Addr) (i j : Nat) : (p.add i).add j = p.add (i + j) := by
  obtain ⟨b, o, s⟩ := p
  simp only [Addr.add]
  split <;> split <;> simp_all [Nat.add_assoc]

theorem run_cut_l {P : Program} (W : World) (t e : TypeId) (ht : P.underlying t = some (.slice e)) (hz : ∀ w, (Go.sizeOf e).run P w = .ok 1 w) (ao : Option Addr) (len cap l : Nat) (L : Int) (hL : L = (l : Int)) (hl : l ≤ len) :
    (Instr.slice t (.slice ao len cap) (some (.int .i64 L)) none none).run P W = .ok (.slice (cutAt ao cap l) (len - l) (cap - l)) W := by
  subst hL
  have ht' : P.underlying t = some (.slice (P.elem t)) := by simp [Program.elem, ht]
  have he : P.elem t = e := by simp [Program.elem, ht]
  rw [run_slice_l W t _ _ _ ht' .i64 _ (by omega) (by omega), he, hz]
  simp [Result.andThen, sliced, cutAt]

theorem run_cut_lh {P : Program} (W : World) (t e : TypeId) (ht : P.underlying t = some (.slice e)) (hz : ∀ w, (Go.sizeOf e).run P w = .ok 1 w) (ao : Option Addr) (len cap l h : Nat) (L U : Int) (hL : L = (l : Int)) (hU : U = (h : Int)) (hl : l ≤ h) (hh : h ≤ cap) :
    (Instr.slice t (.slice ao len cap) (some (.int .i64 L)) (some (.int .i64 U)) none).run P W = .ok (.slice (cutAt ao cap l) (h - l) (cap - l)) W := by
  subst hL hU
  have ht' : P.underlying t = some (.slice (P.elem t)) := by simp [Program.elem, ht]
  have he : P.elem t = e := by simp [Program.elem, ht]
  rw [run_slice_lh W t _ _ _ ht' .i64 .i64 _ _ (by omega) (by omega) (by omega), he, hz]
  simp [Result.andThen, sliced, cutAt]

theorem Held.cut {w : World} {ao : Option Addr} {len cap : Nat} {bs : List Int} (h : Held w ao len cap bs) {l u : Nat} (hl : l ≤ u) (hu : u ≤ len) : Held w (cutAt ao cap l) (u - l) (cap - l) ((bs.take u).drop l) := by
  have hlen := h.hlen
  have hcap := h.hcap
  refine ⟨by simp; omega, by omega, Nat.le_trans (Nat.sub_le _ _) h.hmax, fun hn => ?_, (h.byte.take u).drop l, fun ad ha j hj => ?_, fun ad ha hp => ?_⟩
  · unfold cutAt at hn
    split at hn
    · omega
    · have := h.nil (by simpa using hn)
      omega
  · unfold cutAt at ha
    rw [if_neg (by omega)] at ha
    obtain ⟨a0, rfl, rfl⟩ := Option.map_eq_some_iff.1 ha
    rw [addr_add, h.cell a0 rfl (l + j) (by omega)]
    simp [List.getD, List.getElem?_drop, List.getElem?_take_of_lt (show l + j < u by omega)]
  · unfold cutAt at ha
    rw [if_neg (by omega)] at ha
    obtain ⟨a0, rfl, rfl⟩ := Option.map_eq_some_iff.1 ha
    have := h.old a0 rfl (by omega)
    unfold Addr.add
    split <;> exact this
theorem Held.cutl {w : World} {ao : Option Addr} {len cap : Nat} {bs : List Int} (h : Held w ao len cap bs) {l : Nat} (hl : l ≤ len) : Held w (cutAt ao cap l) (len - l) (cap - l) (bs.drop l) := by
  have := h.cut hl (Nat.le_refl _)
  rwa [List.take_of_length_le (by rw [h.hlen]; exact Nat.le_refl _)] at this
end Go.Proofs.YthcpopigkbefhaaGreat
/-
  The writers of numbers: codec.ownCopy, codec.appendUint, codec.Uint and pannierref01.Uint write the one form 'enc' behind what was there, in memory of their own, for every uint64; conditions: the lengths stay below 2^47.
-/
namespace Go.Proofs.YthcpopigkbefhaaGreat
open Go.RowKit

theorem Tryz.info5 : (Tryz.prog.info? 5).map (fun i => (i.zero, i.size, i.bytes)) = some (some (.int .u8 0), 1, 1) := by kernel_rfl

theorem Tryz.size5 : ∀ w, (Go.sizeOf 5).run Tryz.prog w = .ok 1 w := by
  intro w
  obtain ⟨i0, hi, hz0, hz1, hz2⟩ := info_parts Tryz.info5
  simp [Go.sizeOf, typeInfo, hi, hz1]

theorem appendUint_any (v : Value) (n : Nat) (bs : List Int) (x B : Nat) (w : World) (hx : x < 18446744073709551616) (hown : w.ownsRow B 5 1 v n (nums bs)) (hB : B ≤ w.heap.size) (hn : n ≤ 140737488355000) :
    Calls Tryz.prog 98 #[v, .int .u64 x] w fun e w' => ∃ v', e = .returned v' ∧ w'.ownsRow B 5 1 v' (n + (enc x).length) (nums (bs ++ enc x)) ∧ Grew w w' v v' := by
  obtain ⟨i0, hi, hz0, hz1, hz2⟩ := info_parts Tryz.info5
  go_enter Tryz.func98, Tryz.ntmps98
  go_wp2
  go_loopw [0, 1] (fun b t wr => ∃ (y m : Nat) (cs : List Int), t = .int .u64 y ∧ y < 18446744073709551616 ∧ wr.ownsRow B 5 1 b m (nums cs) ∧ m ≤ n + 10 ∧ cs ++ enc y = bs ++ enc x ∧ Grew w wr v b) (fun _ t _ => (intOf t).toNat)
  case atStart => exact ⟨x, n, bs, rfl, hx, hown, by omega, rfl, Grew.refl _ _⟩
  case round =>
    obtain ⟨y, m, cs, rfl, hy, hownr, hm, hcs, hgr⟩ := hrel
    have hl := congrArg List.length hcs
    simp only [List.length_append] at hl
    have hcl : cs.length = m := by simpa [nums] using hownr.1
    have hbl : bs.length = n := by simpa [nums] using hown.1
    have h10 := enc_le10 hx
    have hyp := enc_pos y
    have hsz : w.heap.size ≤ wr.heap.size := hgr.1.size
    have HC : Hid (cs ++ enc y = bs ++ enc x) := hcs
    have HG : Hid (Grew w wr v u0) := hgr
    have hsum : m + (enc y).length ≤ n + 10 := by omega
    clear hcs hgr hcl hl
    by_cases hlt : 128 ≤ y
    · have hy1 : (127 : Int) < (y : Int) := by omega
      have ha := and127 hy
      have ho := or128 (c := (y : Int) % 128) (by omega) (by omega)
      go_wp2_with (at_builtin; refine wpList_append_own_at _ rfl _ _ 56 rfl B 5 i0 (.int .u8 0) 1 1 Tryz.underlying56 hi hz0 hz1 hz2 rfl (by decide) _ _ _ rfl (hownr.alloc _) ⟨wr.heap.size, 0, none⟩ 1 1 [.int .u8 ((y : Int) % 128 + 128)] rfl rfl (cell_one_new _ _ _) (one_int _ _) (by unfold maxLen; omega) (by omega) (by simp; omega) ?_)
      · intro v' w1 hown' hgrow _ hat
        have hg2 : Grew w w1 v v' := HG.out.trans ((Grew.alloc _ _ _).trans (Grew.of hgrow (by simpa using hat)))
        have HG2 : Hid (Grew w w1 v v') := hg2
        have HO : Hid (w1.ownsRow B 5 1 v' (m + 1) (nums (cs ++ [(y : Int) % 128 + 128]))) := by rw [nums_append]; exact hown'
        clear hown' hgrow hat hg2 HG hownr
        go_wp2
        go_roundw
        case rel => exact ⟨y / 128, m + 1, cs ++ [(y : Int) % 128 + 128], by go_num, by omega, HO.out, by omega, by rw [← HC.out, enc_ge hlt, List.append_assoc]; rfl, HG2.out⟩
        case measure => simp [intOf]; omega
    · have hy1 : ¬ (127 : Int) < (y : Int) := by omega
      go_wp2_with (at_builtin; refine wpList_append_own_at _ rfl _ _ 56 rfl B 5 i0 (.int .u8 0) 1 1 Tryz.underlying56 hi hz0 hz1 hz2 rfl (by decide) _ _ _ rfl (hownr.alloc _) ⟨wr.heap.size, 0, none⟩ 1 1 [.int .u8 (y : Int)] rfl rfl (cell_one_new _ _ _) (one_int _ _) (by unfold maxLen; omega) (by omega) (by simp; omega) ?_)
      · intro v' w1 hown' hgrow _ hat
        have hg2 : Grew w w1 v v' := HG.out.trans ((Grew.alloc _ _ _).trans (Grew.of hgrow (by simpa using hat)))
        have he : bs ++ enc x = cs ++ [(y : Int)] := by rw [← HC.out, enc_lt (by omega)]
        have hlen : n + (enc x).length = m + 1 := by
          have h2 := congrArg List.length he
          have h3 := hownr.1
          simp [nums] at h2 h3
          omega
        have HO : Hid (w1.ownsRow B 5 1 v' (n + (enc x).length) (nums (bs ++ enc x))) := by rw [he, nums_append, hlen]; exact hown'
        have HG2 : Hid (Grew w w1 v v') := hg2
        clear hown' hgrow hat hg2 HG hownr he hlen
        go_wp2
        go_ret
        exact ⟨v', rfl, HO.out, HG2.out⟩


/-- The same, in words that a caller wants who holds nothing from B on but this row. -/
theorem appendUint_own (v : Value) (n : Nat) (bs : List Int) (x : Int) (B : Nat) (w : World) (h0 : 0 ≤ x) (hx : x < 18446744073709551616) (hown : w.ownsRow B 5 1 v n (nums bs)) (hB : B ≤ w.heap.size) (hn : n ≤ 140737488355000) :
    Calls Tryz.prog 98 #[v, .int .u64 x] w fun e w' => ∃ v', e = .returned v' ∧ w'.ownsRow B 5 1 v' (n + (enc x.toNat).length) (nums (bs ++ enc x.toNat)) ∧ Below B w w' := by
  obtain ⟨y, rfl⟩ := Int.eq_ofNat_of_zero_le h0
  refine (appendUint_any v n bs y B w (by omega) hown hB hn).mono ?_
  rintro e w' ⟨v', rfl, h1, h2⟩
  exact ⟨v', rfl, by simpa using h1, h2.below (Below.refl _ _) hB (own_lt hown)⟩

end Go.Proofs.YthcpopigkbefhaaGreat
/-
  The writers of texts: codec.appendText, codec.Text and pannierref01.Text write how many bytes a text has, and these, behind what was there; conditions: the lengths stay below 2^47.
-/
namespace Go.Proofs.YthcpopigkbefhaaGreat
open Go.RowKit

/-- A text's bytes: how many, and these. -/
def encText (s : ByteArray) : List Int := enc s.size ++ strNums s
theorem encText_len (s : ByteArray) : (encText s).length = (enc s.size).length + s.size := by simp [encText, strNums_len]
theorem encText_byte (s : ByteArray) : AllB (encText s) := AllB.append (enc_byte _) (strNums_byte s)

theorem appendText_own (v : Value) (n : Nat) (bs : List Int) (s : ByteArray) (B : Nat) (w : World) (hown : w.ownsRow B 5 1 v n (nums bs)) (hB : B ≤ w.heap.size) (hn : n + s.size ≤ 140737488355000) :
    Calls Tryz.prog 102 #[v, .string s] w fun e w' => ∃ v', e = .returned v' ∧ w'.ownsRow B 5 1 v' (n + (encText s).length) (nums (bs ++ encText s)) ∧ Below B w w' := by
  obtain ⟨i0, hi, hz0, hz1, hz2⟩ := info_parts Tryz.info5
  have h10 := enc_le10 (x := s.size) (by omega)
  have HO : Hid (w.ownsRow B 5 1 v n (nums bs)) := hown
  clear hown
  go_enter Tryz.func102, Tryz.ntmps102
  go_wp2_with fail
  refine (appendUint_own v n bs s.size B w (by omega) (by omega) HO.out hB (by omega)).mono ?_
  rintro e w1 ⟨v1, rfl, hown1, hb1⟩
  rw [Int.toNat_natCast] at hown1
  have hs1 : w.heap.size ≤ w1.heap.size := hb1.size
  have HB : Hid (Below B w w1) := hb1
  have HL : Hid (∀ k, v1.ownBlock = some k → B ≤ k) := own_lt hown1
  clear hb1
  go_wp2_with (at_builtin; refine Lib.wpList_append_own_string _ rfl _ _ 56 9 rfl B 5 i0 Tryz.underlying56 Tryz.underlying9 hi hz0 hz1 hz2 _ _ _ rfl hown1 s rfl (by unfold maxLen; omega) (by omega) (by omega) ?_)
  intro v' w2 hown' hgrow _
  have HB2 : Hid (Below B w w2) := HB.out.grown hgrow (by omega) HL.out
  have HO2 : Hid (w2.ownsRow B 5 1 v' (n + (encText s).length) (nums (bs ++ encText s))) := by
    rw [encText_len, encText, ← List.append_assoc, nums_append, strNums_cells, ← Nat.add_assoc]
    exact hown'
  clear hown' hgrow hown1
  go_wp2
  go_ret
  exact ⟨v', rfl, HO2.out, HB2.out⟩

end Go.Proofs.YthcpopigkbefhaaGreat
