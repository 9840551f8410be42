/-
  Rows of numbers that rise strictly: two with the same numbers are the same; what is put at its place; what slices.Compact makes of a sorted row. No function of the program is named here.
-/
import Derived.Test.YtgghfmdciohinaaIntsA
import Derived.Lib.SlicesCompact
import Derived.Test.YtgghfmdciohinaaStrClone2
import Derived.Test.YtgghfmdciohinaaRows
import Derived.Test.YtgghfmdciohinaaBase
namespace Go.Proofs.Ytgghfmdciohinaa
open Go.RowKit

def Rises (l : List Int) : Prop := l.Pairwise (· < ·)
theorem rises_unique : ∀ {a b : List Int}, Rises a → Rises b → (∀ x, x ∈ a ↔ x ∈ b) → a = b
  | [], [], _, _, _ => rfl
  | [], y :: b, _, _, h => absurd ((h y).2 (by simp)) (by simp)
  | x :: a, [], _, _, h => absurd ((h x).1 (by simp)) (by simp)
  | x :: a, y :: b, ha, hb, h => by
    unfold Rises at ha hb
    rw [List.pairwise_cons] at ha hb
    have hxy : x = y := by
      rcases List.mem_cons.1 ((h x).1 (by simp)) with e | e
      · exact e
      · rcases List.mem_cons.1 ((h y).2 (by simp)) with e2 | e2
        · exact e2.symm
        · have := hb.1 x e
          have := ha.1 y e2
          omega
    subst hxy
    congr 1
    refine rises_unique ha.2 hb.2 (fun z => ⟨fun hz => ?_, fun hz => ?_⟩)
    · rcases List.mem_cons.1 ((h z).1 (List.mem_cons_of_mem _ hz)) with e | e
      · subst e; have := ha.1 z hz; omega
      · exact e
    · rcases List.mem_cons.1 ((h z).2 (List.mem_cons_of_mem _ hz)) with e | e
      · subst e; have := hb.1 z hz; omega
      · exact e
/-- How many stand ahead of x's place. -/
def aheadOf (l : List Int) (x : Int) : Nat := (l.takeWhile (fun y => decide (y < x))).length
theorem aheadOf_le (l : List Int) (x : Int) : aheadOf l x ≤ l.length := (List.takeWhile_prefix _).length_le
theorem aheadOf_lt : ∀ (l : List Int) (x : Int) (j : Nat) (hj : j < l.length), j < aheadOf l x → l[j] < x
  | [], _, _, hj, _ => by cases hj
  | y :: l, x, 0, _, h => by
    unfold aheadOf at h
    rw [List.takeWhile_cons] at h
    split at h
    · next hy => simpa using hy
    · simp at h
  | y :: l, x, j + 1, hj, h => by
    unfold aheadOf at h
    rw [List.takeWhile_cons] at h
    split at h
    · simp only [List.length_cons] at h
      exact aheadOf_lt l x j (by simpa using hj) (by unfold aheadOf; omega)
    · simp at h
theorem aheadOf_at : ∀ (l : List Int) (x : Int) (h : aheadOf l x < l.length), x ≤ l[aheadOf l x]
  | [], _, h => by cases h
  | y :: l, x, h => by
    by_cases hy : y < x
    · have e : aheadOf (y :: l) x = aheadOf l x + 1 := by unfold aheadOf; rw [List.takeWhile_cons, if_pos (by simpa using hy)]; simp
      have h' : aheadOf l x < l.length := by rw [e] at h; simpa using h
      have := aheadOf_at l x h'
      simp only [e, List.getElem_cons_succ]
      exact this
    · have e : aheadOf (y :: l) x = 0 := by unfold aheadOf; rw [List.takeWhile_cons, if_neg (by simpa using hy)]; rfl
      simp only [e, List.getElem_cons_zero]
      omega
/-- The row's own search stops where x belongs. -/
theorem aheadOf_eq {l : List Int} {x : Int} {k : Nat} (h1 : ∀ j (hj : j < l.length), j < k → l[j] < x) (hk : k ≤ l.length) (h2 : k = l.length ∨ ∃ h : k < l.length, ¬ l[k] < x) : k = aheadOf l x := by
  rcases Nat.lt_trichotomy k (aheadOf l x) with h | h | h
  · have hl := aheadOf_le l x
    rcases h2 with h2 | ⟨h3, h4⟩
    · omega
    · exact absurd (aheadOf_lt l x k h3 h) h4
  · exact h
  · have h3 : aheadOf l x < l.length := by omega
    have := aheadOf_at l x h3
    have := h1 _ h3 h
    omega
/-- x at its place, where it is not there yet. -/
def putS (l : List Int) (x : Int) : List Int := if aheadOf l x = l.length ∨ l.getD (aheadOf l x) 0 ≠ x then l.take (aheadOf l x) ++ [x] ++ l.drop (aheadOf l x) else l
theorem putS_mem (l : List Int) (x y : Int) : y ∈ putS l x ↔ y ∈ l ∨ y = x := by
  unfold putS
  split
  · rw [List.mem_append, List.mem_append, List.mem_singleton]
    constructor
    · rintro ((h | h) | h)
      · exact .inl (List.mem_of_mem_take h)
      · exact .inr h
      · exact .inl (List.mem_of_mem_drop h)
    · rintro (h | h)
      · rw [← List.take_append_drop (aheadOf l x) l] at h
        rcases List.mem_append.1 h with h | h
        · exact .inl (.inl h)
        · exact .inr h
      · exact .inl (.inr h)
  · next h =>
    simp only [not_or, ne_eq, Decidable.not_not] at h
    refine ⟨.inl, fun hh => ?_⟩
    rcases hh with hh | rfl
    · exact hh
    · have hl : aheadOf l y < l.length := by have := aheadOf_le l y; omega
      have := h.2
      rw [show l.getD (aheadOf l y) 0 = l[aheadOf l y] by simp [List.getD, List.getElem?_eq_getElem hl]] at this
      rw [← this]
      exact List.getElem_mem hl
theorem putS_rises {l : List Int} (hl : Rises l) (x : Int) : Rises (putS l x) := by
  unfold putS
  split
  · next h =>
    have hup : ∀ y ∈ l.drop (aheadOf l x), x < y := by
      intro y hy
      obtain ⟨j, hj, rfl⟩ := List.getElem_of_mem hy
      have hj' : aheadOf l x + j < l.length := by simp at hj; omega
      have h0 : aheadOf l x < l.length := by omega
      have hx : x < l[aheadOf l x] := by
        have h1 := aheadOf_at l x h0
        rcases h with h | h
        · omega
        · rw [show l.getD (aheadOf l x) 0 = l[aheadOf l x] by simp [List.getD, List.getElem?_eq_getElem h0]] at h
          omega
      rw [List.getElem_drop]
      rcases Nat.eq_zero_or_pos j with rfl | hp
      · simpa using hx
      · have := List.pairwise_iff_getElem.1 hl (aheadOf l x) (aheadOf l x + j) h0 hj' (by omega)
        omega
    have hdn : ∀ y ∈ l.take (aheadOf l x), y < x := by
      intro y hy
      obtain ⟨j, hj, rfl⟩ := List.getElem_of_mem hy
      have hj' : j < aheadOf l x ∧ j < l.length := by simp at hj; omega
      rw [List.getElem_take]
      exact aheadOf_lt l x j hj'.2 hj'.1
    have e : l.take (aheadOf l x) ++ [x] ++ l.drop (aheadOf l x) = l.take (aheadOf l x) ++ x :: l.drop (aheadOf l x) := by simp
    rw [e]
    refine List.pairwise_append.2 ⟨hl.sublist (List.take_sublist _ _), List.pairwise_cons.2 ⟨hup, hl.sublist (List.drop_sublist _ _)⟩, fun a ha b hb => ?_⟩
    rcases List.mem_cons.1 hb with rfl | hb
    · exact hdn a ha
    · exact Int.lt_trans (hdn a ha) (hup b hb)
  · exact hl
theorem putS_len (l : List Int) (x : Int) : (putS l x).length ≤ l.length + 1 := by
  unfold putS
  split
  · have := aheadOf_le l x
    simp
    omega
  · omega
def putAll (l : List Int) : List Int := l.foldl putS []
theorem putAll_snoc (l : List Int) (x : Int) : putAll (l ++ [x]) = putS (putAll l) x := by simp [putAll]
theorem foldS : ∀ (l a : List Int), Rises a → Rises (l.foldl putS a) ∧ (∀ y, y ∈ l.foldl putS a ↔ y ∈ a ∨ y ∈ l) ∧ (l.foldl putS a).length ≤ a.length + l.length
  | [], a, ha => ⟨ha, fun y => by simp, by simp⟩
  | x :: l, a, ha => by
    obtain ⟨h1, h2, h3⟩ := foldS l (putS a x) (putS_rises ha x)
    refine ⟨h1, fun y => ?_, ?_⟩
    · show y ∈ l.foldl putS (putS a x) ↔ _
      rw [h2, putS_mem, List.mem_cons, or_assoc]
    · have := putS_len a x
      show (l.foldl putS (putS a x)).length ≤ _
      simp only [List.length_cons]
      omega
theorem putAll_rises (l : List Int) : Rises (putAll l) := (foldS l [] .nil).1
theorem putAll_mem (l : List Int) (y : Int) : y ∈ putAll l ↔ y ∈ l := by
  have := (foldS l [] .nil).2.1 y
  simpa [putAll] using this
theorem putAll_len (l : List Int) : (putAll l).length ≤ l.length := by
  have := (foldS l [] .nil).2.2
  simpa [putAll] using this
/-- slices.Compact of a sorted row. -/
theorem compact_sorted {d : Array Int} (hs : ∀ i j, i < j → j < d.size → d[i]! ≤ d[j]!) : ∀ m, m ≤ d.size → Rises (Lib.compactUpTo d m) ∧ (∀ y ∈ Lib.compactUpTo d m, ∃ j, j < m ∧ y = d[j]!) ∧ (∀ j, j < m → d[j]! ∈ Lib.compactUpTo d m)
  | 0, _ => ⟨.nil, fun y hy => by simp [Lib.compactUpTo] at hy, fun j hj => by omega⟩
  | m + 1, hm => by
    obtain ⟨h1, h2, h3⟩ := compact_sorted hs m (by omega)
    rw [Lib.compactUpTo_succ]
    by_cases hk : Lib.keeps d m = true
    · rw [if_pos hk]
      refine ⟨List.pairwise_append.2 ⟨h1, by simp, fun a ha b hb => ?_⟩, fun y hy => ?_, fun j hj => ?_⟩
      · simp only [List.mem_singleton] at hb
        subst hb
        obtain ⟨j, hj, rfl⟩ := h2 a ha
        have hne : d[m]! ≠ d[m - 1]! := by
          simp only [Lib.keeps, decide_eq_true_eq] at hk
          rcases hk with h | h
          · omega
          · exact h
        have a1 : d[j]! ≤ d[m - 1]! := by
          rcases Nat.lt_or_ge j (m - 1) with h | h
          · exact hs j (m - 1) h (by omega)
          · rw [show j = m - 1 by omega]; exact Int.le_refl _
        have a2 := hs (m - 1) m (by omega) (by omega)
        omega
      · rcases List.mem_append.1 hy with h | h
        · obtain ⟨j, hj, e⟩ := h2 y h
          exact ⟨j, by omega, e⟩
        · simp only [List.mem_singleton] at h
          exact ⟨m, by omega, h⟩
      · rcases Nat.lt_or_ge j m with h | h
        · exact List.mem_append.2 (.inl (h3 j h))
        · rw [show j = m by omega]; simp
    · rw [if_neg hk, List.append_nil]
      refine ⟨h1, fun y hy => ?_, fun j hj => ?_⟩
      · obtain ⟨j, hj, e⟩ := h2 y hy
        exact ⟨j, by omega, e⟩
      · rcases Nat.lt_or_ge j m with h | h
        · exact h3 j h
        · have hm0 : m ≠ 0 ∧ d[m]! = d[m - 1]! := by
            simp only [Lib.keeps, decide_eq_true_eq, not_or, ne_eq, Decidable.not_not] at hk
            exact hk
          rw [show j = m by omega, hm0.2]
          exact h3 (m - 1) (by omega)
theorem compact_putAll (l : List Int) : Lib.compact (l.mergeSort fun x y => decide (x ≤ y)) = putAll l := by
  have hp : (l.mergeSort fun x y => decide (x ≤ y)).Pairwise (fun a b => decide (a ≤ b) = true) := List.pairwise_mergeSort (fun a b c h1 h2 => by simp at *; omega) (fun a b => by simp; omega) l
  obtain ⟨s, hs⟩ : ∃ s, s = l.mergeSort fun x y => decide (x ≤ y) := ⟨_, rfl⟩
  rw [← hs] at hp ⊢
  have hmem : ∀ y, y ∈ s ↔ y ∈ l := fun y => by rw [hs]; exact List.mem_mergeSort
  have hso : ∀ i j, i < j → j < s.toArray.size → s.toArray[i]! ≤ s.toArray[j]! := by
    intro i j hij hj
    have hj' : j < s.length := by simpa using hj
    have := List.pairwise_iff_getElem.1 hp i j (by omega) hj' hij
    rw [getElem!_pos s.toArray i (by simp; omega), getElem!_pos s.toArray j hj]
    simpa using this
  obtain ⟨h1, h2, h3⟩ := compact_sorted hso s.length (by simp)
  refine rises_unique h1 (putAll_rises l) (fun y => ?_)
  rw [putAll_mem, ← hmem y]
  constructor
  · intro hy
    obtain ⟨j, hj, rfl⟩ := h2 y hy
    rw [getElem!_pos s.toArray j (by simpa using hj)]
    simp
  · intro hy
    obtain ⟨j, hj, rfl⟩ := List.getElem_of_mem hy
    have := h3 j hj
    rw [getElem!_pos s.toArray j (by simpa using hj)] at this
    show _ ∈ Lib.compactUpTo s.toArray s.length
    simpa using this
end Go.Proofs.Ytgghfmdciohinaa
/-
  The writers of texts: codec.appendText, codec.Text and pannierref01.Text write how many bytes a text has, and these, behind what was there; conditions: the lengths stay below 2^47.
-/
namespace Go.Proofs.Ytgghfmdciohinaa
open Go.RowKit

/-- A text's bytes: how many, and these. -/
def encText (s : ByteArray) : List Int := enc s.size ++ strNums s
theorem encText_len (s : ByteArray) : (encText s).length = (enc s.size).length + s.size := by simp [encText, strNums_len]
theorem encText_byte (s : ByteArray) : AllB (encText s) := AllB.append (enc_byte _) (strNums_byte s)

theorem appendText_own (v : Value) (n : Nat) (bs : List Int) (s : ByteArray) (B : Nat) (w : World) (hown : w.ownsRow B 5 1 v n (nums bs)) (hB : B ≤ w.heap.size) (hn : n + s.size ≤ 140737488355000) :
    Calls Try.prog 96 #[v, .string s] w fun e w' => ∃ v', e = .returned v' ∧ w'.ownsRow B 5 1 v' (n + (encText s).length) (nums (bs ++ encText s)) ∧ Below B w w' := by
  obtain ⟨i0, hi, hz0, hz1, hz2⟩ := info_parts Try.info5
  have h10 := enc_le10 (x := s.size) (by omega)
  have HO : Hid (w.ownsRow B 5 1 v n (nums bs)) := hown
  clear hown
  go_enter Try.func96, Try.ntmps96
  go_wp2_with fail
  refine (appendUint_own v n bs s.size B w (by omega) (by omega) HO.out hB (by omega)).mono ?_
  rintro e w1 ⟨v1, rfl, hown1, hb1⟩
  rw [Int.toNat_natCast] at hown1
  have hs1 : w.heap.size ≤ w1.heap.size := hb1.size
  have HB : Hid (Below B w w1) := hb1
  have HL : Hid (∀ k, v1.ownBlock = some k → B ≤ k) := own_lt hown1
  clear hb1
  go_wp2_with (at_builtin; refine Lib.wpList_append_own_string _ rfl _ _ 62 9 rfl B 5 i0 Try.underlying62 Try.underlying9 hi hz0 hz1 hz2 _ _ _ rfl hown1 s rfl (by unfold maxLen; omega) (by omega) (by omega) ?_)
  intro v' w2 hown' hgrow _
  have HB2 : Hid (Below B w w2) := HB.out.grown hgrow (by omega) HL.out
  have HO2 : Hid (w2.ownsRow B 5 1 v' (n + (encText s).length) (nums (bs ++ encText s))) := by
    rw [encText_len, encText, ← List.append_assoc, nums_append, strNums_cells, ← Nat.add_assoc]
    exact hown'
  clear hown' hgrow hown1
  go_wp2
  go_ret
  exact ⟨v', rfl, HO2.out, HB2.out⟩

end Go.Proofs.Ytgghfmdciohinaa
/-
  codec.Name and pannierref01.Name: both tell of any string whether it may be a name ('nameS': 1 to 32 bytes, each a letter from a to z, a digit or the sign 45), and write nothing.
-/
namespace Go.Proofs.Ytgghfmdciohinaa
open Go.RowKit

/-- May c be a name's byte? -/
def nameB (c : Int) : Bool := (decide (97 ≤ c) && decide (c ≤ 122)) || (decide (48 ≤ c) && decide (c ≤ 57)) || c == 45
/-- May s be a name? -/
def nameS (s : ByteArray) : Bool := decide (1 ≤ s.size) && decide (s.size ≤ 32) && (strNums s).all nameB

theorem nameB_cases (c : Int) : (c < 45 ∧ nameB c = false) ∨ (c = 45 ∧ nameB c = true) ∨ ((45 < c ∧ c < 48) ∧ nameB c = false) ∨ ((48 ≤ c ∧ c ≤ 57) ∧ nameB c = true) ∨ ((57 < c ∧ c < 97) ∧ nameB c = false) ∨ ((97 ≤ c ∧ c ≤ 122) ∧ nameB c = true) ∨ (122 < c ∧ nameB c = false) := by
  have h45 : ∀ b : Bool, c ≠ 45 → (b || c == 45) = b := by
    intro b h
    rw [beq_eq_false_iff_ne.2 h, Bool.or_false]
  by_cases h1 : c < 45
  · refine .inl ⟨h1, ?_⟩
    unfold nameB
    rw [h45 _ (by omega), decide_eq_false (p := 97 ≤ c) (by omega), decide_eq_false (p := 48 ≤ c) (by omega)]
    rfl
  by_cases h2 : c = 45
  · subst h2
    exact .inr (.inl ⟨rfl, rfl⟩)
  by_cases h3 : c < 48
  · refine .inr (.inr (.inl ⟨⟨by omega, h3⟩, ?_⟩))
    unfold nameB
    rw [h45 _ (by omega), decide_eq_false (p := 97 ≤ c) (by omega), decide_eq_false (p := 48 ≤ c) (by omega)]
    rfl
  by_cases h4 : c ≤ 57
  · refine .inr (.inr (.inr (.inl ⟨⟨by omega, h4⟩, ?_⟩)))
    unfold nameB
    rw [h45 _ (by omega), decide_eq_true (p := 48 ≤ c) (by omega), decide_eq_true (p := c ≤ 57) h4]
    simp
  by_cases h5 : c < 97
  · refine .inr (.inr (.inr (.inr (.inl ⟨⟨by omega, h5⟩, ?_⟩))))
    unfold nameB
    rw [h45 _ (by omega), decide_eq_false (p := 97 ≤ c) (by omega), decide_eq_false (p := c ≤ 57) h4]
    simp
  by_cases h6 : c ≤ 122
  · refine .inr (.inr (.inr (.inr (.inr (.inl ⟨⟨by omega, h6⟩, ?_⟩)))))
    unfold nameB
    rw [h45 _ (by omega), decide_eq_true (p := 97 ≤ c) (by omega), decide_eq_true (p := c ≤ 122) h6]
    simp
  · refine .inr (.inr (.inr (.inr (.inr (.inr ⟨by omega, ?_⟩)))))
    unfold nameB
    rw [h45 _ (by omega), decide_eq_false (p := c ≤ 122) h6, decide_eq_false (p := c ≤ 57) h4]
    simp

theorem nameByte_any (c : Int) (w : World) : Calls Try.prog 99 #[.int .u8 c] w fun e w' => e = .returned (.bool (nameB c)) ∧ w' = w := by
  rcases nameB_cases c with ⟨h, e⟩ | ⟨h, e⟩ | ⟨⟨h, h'⟩, e⟩ | ⟨⟨h, h'⟩, e⟩ | ⟨⟨h, h'⟩, e⟩ | ⟨⟨h, h'⟩, e⟩ | ⟨h, e⟩
  all_goals
    rw [e]
    clear e
    go_enter Try.func99, Try.ntmps99
    go_wp2
    go_ret
    exact ⟨ret_bool (by first | rfl | (simp; done) | (simp; omega)), rfl⟩

theorem strNums_at {s : ByteArray} {k : Nat} (h : k < s.size) : (strNums s)[k]? = some ((s[k].toNat : Nat) : Int) := by
  have h2 : k < s.data.size := h
  simp [strNums, List.getElem?_map]
  rw [Array.getElem?_eq_getElem h2]
  exact ⟨_, rfl, rfl⟩

theorem all_snoc {s : ByteArray} {k : Nat} (h : k < s.size) : ((strNums s).take (k + 1)).all nameB = (((strNums s).take k).all nameB && nameB ((s[k].toNat : Nat) : Int)) := by
  have h2 : k < (strNums s).length := by rw [strNums_len]; exact h
  have h3 := strNums_at h
  rw [List.getElem?_eq_getElem h2] at h3
  rw [List.take_succ_eq_append_getElem h2, List.all_append, Option.some.inj h3]
  simp

theorem all_no {s : ByteArray} {k : Nat} (h : k < s.size) (hn : nameB ((s[k].toNat : Nat) : Int) = false) : (strNums s).all nameB = false := by
  rw [← List.take_append_drop (k + 1) (strNums s), List.all_append, all_snoc h, hn]
  simp

theorem codecName_any (s : ByteArray) (w : World) (hs : s.size ≤ maxLen) : Calls Try.prog 91 #[.string s] w fun e w' => e = .returned (.bool (nameS s)) ∧ w' = w := by
  unfold maxLen at hs
  by_cases h1 : s.size < 1
  · have e : nameS s = false := by simp [nameS]; omega
    rw [e]
    have h1' : (s.size : Int) < 1 := by omega
    go_enter Try.func91, Try.ntmps91
    go_wp2
    go_ret
    exact ⟨rfl, rfl⟩
  · have h1' : ¬ (s.size : Int) < 1 := by omega
    by_cases h2 : 32 < s.size
    · have e : nameS s = false := by simp [nameS]; omega
      rw [e]
      have h2' : (32 : Int) < (s.size : Int) := by omega
      go_enter Try.func91, Try.ntmps91
      go_wp2
      go_ret
      exact ⟨rfl, rfl⟩
    · have e : nameS s = (strNums s).all nameB := by
        unfold nameS
        rw [decide_eq_true (p := 1 ≤ s.size) (by omega), decide_eq_true (p := s.size ≤ 32) (by omega)]
        simp
      rw [e]
      have h2' : ¬ (32 : Int) < (s.size : Int) := by omega
      clear e
      go_enter Try.func91, Try.ntmps91
      go_wp2
      go_loop [14] (fun i => ∃ k : Nat, k ≤ s.size ∧ i = .int .i64 k ∧ ((strNums s).take k).all nameB = true) (fun i => s.size - (intOf i).toNat)
      case atStart => exact ⟨0, by omega, rfl, rfl⟩
      case round =>
        obtain ⟨k, hk, rfl, hall⟩ := hrel
        by_cases hlt : k < s.size
        · by_cases hn : nameB ((s[k].toNat : Nat) : Int) = true
          · have HA : Hid (((strNums s).take (k + 1)).all nameB = true) := by show _ = _; rw [all_snoc hlt, hall, hn]; rfl
            have hcl := nameByte_any ((s[k].toNat : Nat) : Int) w
            rw [hn] at hcl
            have HCL := hid hcl
            clear hall hn hcl
            go_wp2_with fail
            refine HCL.out.mono ?_
            rintro e w' ⟨rfl, rfl⟩
            go_wp2
            go_round
            case rel => exact ⟨k + 1, by omega, by go_num, HA.out⟩
            case measure => simp [intOf]; omega
          · have hn' := Bool.eq_false_iff.2 hn
            have HA : Hid ((strNums s).all nameB = false) := all_no hlt hn'
            have hcl := nameByte_any ((s[k].toNat : Nat) : Int) w
            rw [hn'] at hcl
            have HCL := hid hcl
            clear hall hn hn' hcl
            go_wp2_with fail
            refine HCL.out.mono ?_
            rintro e w' ⟨rfl, rfl⟩
            go_wp2
            go_ret
            exact ⟨ret_bool HA.out.symm, rfl⟩
        · have HA : Hid ((strNums s).all nameB = true) := by
            show _ = _
            rw [List.take_of_length_le (by rw [strNums_len]; omega)] at hall
            exact hall
          clear hall
          go_wp2
          go_ret
          exact ⟨ret_bool HA.out.symm, rfl⟩

theorem refName_any (s : ByteArray) (w : World) (hs : s.size ≤ maxLen) : Calls Try.prog 48 #[.string s] w fun e w' => e = .returned (.bool (nameS s)) ∧ w' = w := by
  unfold maxLen at hs
  go_enter Try.func48, Try.ntmps48
  go_wp2
  go_loop [3] (fun i => ∃ k : Nat, k ≤ s.size ∧ i = .int .i64 k ∧ ((strNums s).take k).all nameB = true) (fun i => s.size - (intOf i).toNat)
  case atStart => exact ⟨0, by omega, rfl, rfl⟩
  case round =>
    obtain ⟨k, hk, rfl, hall⟩ := hrel
    by_cases hlt : k < s.size
    · have HY : nameB ((s[k].toNat : Nat) : Int) = true → Hid (((strNums s).take (k + 1)).all nameB = true) := by intro hn; show _ = _; rw [all_snoc hlt, hall, hn]; rfl
      have HN : nameB ((s[k].toNat : Nat) : Int) = false → Hid (nameS s = false) := by intro hn; show _ = _; unfold nameS; rw [all_no hlt hn]; simp
      rcases nameB_cases ((s[k].toNat : Nat) : Int) with ⟨h, e⟩ | ⟨h, e⟩ | ⟨⟨h, h'⟩, e⟩ | ⟨⟨h, h'⟩, e⟩ | ⟨⟨h, h'⟩, e⟩ | ⟨⟨h, h'⟩, e⟩ | ⟨h, e⟩
      · have HF := HN e
        clear HY HN e hall
        have hne : ((s[k].toNat : Int) != 45) = true := by simp; omega
        go_wp2
        go_ret
        exact ⟨ret_bool HF.out.symm, rfl⟩
      · have HF := HY e
        clear HY HN e hall
        go_wp2
        go_round
        case rel => exact ⟨k + 1, by omega, by go_num, HF.out⟩
        case measure => simp [intOf]; omega
      · have HF := HN e
        clear HY HN e hall
        have hne : ((s[k].toNat : Int) != 45) = true := by simp; omega
        go_wp2
        go_ret
        exact ⟨ret_bool HF.out.symm, rfl⟩
      · have HF := HY e
        clear HY HN e hall
        go_wp2
        go_round
        case rel => exact ⟨k + 1, by omega, by go_num, HF.out⟩
        case measure => simp [intOf]; omega
      · have HF := HN e
        clear HY HN e hall
        have hne : ((s[k].toNat : Int) != 45) = true := by simp; omega
        go_wp2
        go_ret
        exact ⟨ret_bool HF.out.symm, rfl⟩
      · have HF := HY e
        clear HY HN e hall
        go_wp2
        go_round
        case rel => exact ⟨k + 1, by omega, by go_num, HF.out⟩
        case measure => simp [intOf]; omega
      · have HF := HN e
        clear HY HN e hall
        have hne : ((s[k].toNat : Int) != 45) = true := by simp; omega
        go_wp2
        go_ret
        exact ⟨ret_bool HF.out.symm, rfl⟩
    · have hall' : (strNums s).all nameB = true := by
        rw [List.take_of_length_le (by rw [strNums_len]; omega)] at hall
        exact hall
      have e0 : nameS s = (decide (1 ≤ s.size) && decide (s.size ≤ 32)) := by unfold nameS; rw [hall']; simp
      clear hall hall'
      by_cases h1 : 1 ≤ s.size
      · have h1' : (1 : Int) ≤ (s.size : Int) := by omega
        by_cases h2 : s.size ≤ 32
        · have h2' : (s.size : Int) ≤ 32 := by omega
          have HE : Hid (nameS s = true) := by show _ = _; rw [e0, decide_eq_true h1, decide_eq_true h2]; rfl
          clear e0
          go_wp2
          go_ret
          exact ⟨ret_bool HE.out.symm, rfl⟩
        · have h2' : ¬ (s.size : Int) ≤ 32 := by omega
          have HE : Hid (nameS s = false) := by show _ = _; rw [e0, decide_eq_false h2]; simp
          clear e0
          go_wp2
          go_ret
          exact ⟨ret_bool HE.out.symm, rfl⟩
      · have h1' : ¬ (1 : Int) ≤ (s.size : Int) := by omega
        have HE : Hid (nameS s = false) := by show _ = _; rw [e0, decide_eq_false h1]; rfl
        clear e0
        go_wp2
        go_ret
        exact ⟨ret_bool HE.out.symm, rfl⟩
end Go.Proofs.Ytgghfmdciohinaa
