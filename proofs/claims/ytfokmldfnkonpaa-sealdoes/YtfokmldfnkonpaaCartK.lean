/-
  The order of strings that strings.Compare tells is a strict order. No function of the program is named here.
-/
import Derived.Lib.Bytealg
import Derived.Sort.Statements
import Derived.Test.YtfokmldfnkonpaaStrKey
namespace Go.Proofs.Ytfokmldfnkonpaa

theorem cb_anti : ∀ a b : List UInt8, Lib.compareBytes a b = - Lib.compareBytes b a
  | [], [] => rfl
  | [], _ :: _ => rfl
  | _ :: _, [] => rfl
  | x :: a, y :: b => by
    have ih := cb_anti a b
    simp only [Lib.compareBytes]
    by_cases h1 : x < y
    · have h2 : ¬ y < x := fun h => by rw [UInt8.lt_iff_toNat_lt] at h1 h; omega
      rw [if_pos h1, if_neg h2, if_pos h1]
    · by_cases h2 : y < x
      · rw [if_neg h1, if_pos h2, if_pos h2]
        rfl
      · rw [if_neg h1, if_neg h2, if_neg h2, if_neg h1]
        exact ih
theorem cb_refl (a : List UInt8) : Lib.compareBytes a a = 0 := by
  have := cb_anti a a
  omega
theorem u8_eq {x y : UInt8} (h1 : ¬ x < y) (h2 : ¬ y < x) : x = y := by
  rw [UInt8.lt_iff_toNat_lt] at h1 h2
  exact UInt8.toNat_inj.1 (by omega)
theorem cb_eq : ∀ a b : List UInt8, Lib.compareBytes a b = 0 → a = b
  | [], [], _ => rfl
  | [], _ :: _, h => by simp [Lib.compareBytes] at h
  | _ :: _, [], h => by simp [Lib.compareBytes] at h
  | x :: a, y :: b, h => by
    simp only [Lib.compareBytes] at h
    by_cases h1 : x < y
    · rw [if_pos h1] at h
      cases h
    · by_cases h2 : y < x
      · rw [if_neg h1, if_pos h2] at h
        cases h
      · rw [if_neg h1, if_neg h2] at h
        rw [u8_eq h1 h2, cb_eq a b h]
theorem cb_trans : ∀ a b c : List UInt8, Lib.compareBytes a b < 0 → Lib.compareBytes b c < 0 → Lib.compareBytes a c < 0
  | [], [], _, h, _ => by simp [Lib.compareBytes] at h
  | [], _ :: _, [], _, h => by simp [Lib.compareBytes] at h
  | [], _ :: _, _ :: _, _, _ => by simp [Lib.compareBytes]
  | _ :: _, [], _, h, _ => by simp [Lib.compareBytes] at h
  | _ :: _, _ :: _, [], _, h => by simp [Lib.compareBytes] at h
  | x :: a, y :: b, z :: c, h1, h2 => by
    simp only [Lib.compareBytes] at h1 h2 ⊢
    by_cases e1 : x < y
    · by_cases e2 : y < z
      · have e3 : x < z := by rw [UInt8.lt_iff_toNat_lt] at e1 e2 ⊢; omega
        rw [if_pos e3]
        decide
      · rw [if_neg e2] at h2
        by_cases e4 : z < y
        · rw [if_pos e4] at h2
          cases h2
        · rw [← u8_eq e2 e4, if_pos e1]
          decide
    · rw [if_neg e1] at h1
      by_cases e4 : y < x
      · rw [if_pos e4] at h1
        cases h1
      · rw [if_neg e4] at h1
        rw [u8_eq e1 e4]
        by_cases e2 : y < z
        · rw [if_pos e2]
          decide
        · rw [if_neg e2] at h2 ⊢
          by_cases e5 : z < y
          · rw [if_pos e5] at h2
            cases h2
          · rw [if_neg e5] at h2 ⊢
            exact cb_trans a b c h1 h2
theorem cb_ntrans (a b c : List UInt8) (h1 : ¬ Lib.compareBytes a b < 0) (h2 : ¬ Lib.compareBytes b c < 0) : ¬ Lib.compareBytes a c < 0 := by
  intro h
  have a1 := cb_anti a b
  have a2 := cb_anti b c
  by_cases e1 : Lib.compareBytes a b = 0
  · rw [cb_eq _ _ e1] at h
    exact h2 h
  · have h3 : Lib.compareBytes b a < 0 := by omega
    exact h2 (cb_trans _ _ _ h3 h)
/-- The order of elements by a name. -/
theorem cb_swo {α : Type} (f : α → List UInt8) : Sort.SWO (fun x y : α => decide (Lib.compareBytes (f x) (f y) < 0)) where
  irrefl x := by simp [cb_refl]
  trans x y z h1 h2 := by
    simp at h1 h2 ⊢
    exact cb_trans _ _ _ h1 h2
  ntrans x y z h1 h2 := by
    have := cb_ntrans (f x) (f y) (f z) (by simpa using h1) (by simpa using h2)
    simpa using this
end Go.Proofs.Ytfokmldfnkonpaa
/-
  Lines as lists: by rising articles, those of which there are more than 0; sums of events in a map.
-/
namespace Go.Proofs.Ytfokmldfnkonpaa
open Go.RowKit Go.Maps

/-- A line. -/
abbrev Ln := ByteArray × Int
def lineCells (x : Ln) : List Value := [.string x.1, .int .i64 x.2]
def flatL (xs : List Ln) : List Value := xs.flatMap lineCells
theorem flatL_snoc (xs : List Ln) (x : Ln) : flatL (xs ++ [x]) = flatL xs ++ lineCells x := by simp [flatL]
def cmpS (x y : ByteArray) : Int := Lib.compareBytes x.data.toList y.data.toList
def cmpL (x y : Ln) : Int := cmpS x.1 y.1
theorem cmpS_anti (x y : ByteArray) : cmpS x y = - cmpS y x := cb_anti _ _
theorem cmpS_eq {x y : ByteArray} (h : cmpS x y = 0) : x = y := ByteArray.ext (Array.toList_inj.1 (cb_eq _ _ h))
theorem cmpS_refl (x : ByteArray) : cmpS x x = 0 := cb_refl _
theorem cmpS_trans {x y z : ByteArray} (h : cmpS x y < 0) (k : cmpS y z < 0) : cmpS x z < 0 := cb_trans _ _ _ h k
/-- The lines that f tells. -/
def LinesOf (f : ByteArray → Int) (ls : List Ln) : Prop := ls.Pairwise (fun x y => cmpS x.1 y.1 < 0) ∧ ∀ s q, (s, q) ∈ ls ↔ (0 < q ∧ q = f s)
theorem sorted_eq : ∀ {a b : List Ln}, a.Pairwise (fun x y => cmpS x.1 y.1 < 0) → b.Pairwise (fun x y => cmpS x.1 y.1 < 0) → (∀ x, x ∈ a ↔ x ∈ b) → a = b
  | [], [], _, _, _ => rfl
  | [], y :: b, _, _, h => by have := (h y).2 (List.mem_cons_self ..); cases this
  | x :: a, [], _, _, h => by have := (h x).1 (List.mem_cons_self ..); cases this
  | x :: a, y :: b, ha, hb, h => by
    obtain ⟨ha1, ha2⟩ := List.pairwise_cons.1 ha
    obtain ⟨hb1, hb2⟩ := List.pairwise_cons.1 hb
    have hxy : x = y := by
      rcases List.mem_cons.1 ((h x).1 (List.mem_cons_self ..)) with e | e
      · exact e
      · rcases List.mem_cons.1 ((h y).2 (List.mem_cons_self ..)) with e' | e'
        · exact e'.symm
        · have h1 := hb1 x e
          have h2 := ha1 y e'
          have h3 := cmpS_anti x.1 y.1
          omega
    subst hxy
    congr 1
    refine sorted_eq ha2 hb2 (fun z => ⟨fun hz => ?_, fun hz => ?_⟩)
    · rcases List.mem_cons.1 ((h z).1 (List.mem_cons_of_mem _ hz)) with e | e
      · subst e
        have h1 := ha1 z hz
        rw [cmpS_refl] at h1
        omega
      · exact e
    · rcases List.mem_cons.1 ((h z).2 (List.mem_cons_of_mem _ hz)) with e | e
      · subst e
        have h1 := hb1 z hz
        rw [cmpS_refl] at h1
        omega
      · exact e
theorem linesOf_unique {f g : ByteArray → Int} {a b : List Ln} (ha : LinesOf f a) (hb : LinesOf g b) (h : ∀ s, f s = g s) : a = b :=
  sorted_eq ha.1 hb.1 (fun x => by rw [show x = (x.1, x.2) from rfl, ha.2, hb.2, h])
/-- Sorted, with each article once: strictly rising. -/
theorem rising {ls ss : List Ln} (hp : ls.Perm ss) (hn : (ss.map (·.1)).Nodup) (hw : ls.Pairwise (fun x y => ¬ cmpL y x < 0)) : ls.Pairwise (fun x y => cmpS x.1 y.1 < 0) := by
  have h1 : (ls.map (·.1)).Nodup := (hp.map _).nodup_iff.2 hn
  rw [List.nodup_iff_pairwise_ne, List.pairwise_map] at h1
  refine (hw.and h1).imp ?_
  rintro x y ⟨h2, h3⟩
  have h4 := cmpS_anti x.1 y.1
  have h5 : cmpS x.1 y.1 ≠ 0 := fun e => h3 (cmpS_eq e)
  have h6 : ¬ cmpS y.1 x.1 < 0 := h2
  omega
def posL (x : Ln) : Bool := decide (0 < x.2)
theorem nodup_pos {ss : List Ln} (h : (ss.map (·.1)).Nodup) : ((ss.filter posL).map (·.1)).Nodup := (List.filter_sublist.map _).nodup h

/-- Sums of events in memory. -/
def SumsAt (w : World) (m N : Nat) (D : DataW Value) (l : List Ev) : Prop :=
  w.ownsMap Try.prog 9 valR m N D ∧ ∀ s, s.size ≤ maxLen → look D (key s) = if ∃ e ∈ l, e.sku = s then some (.int .i64 (qtyOf s l)) else none
theorem qtyOf_none {s : ByteArray} : ∀ {l : List Ev}, (¬ ∃ e ∈ l, e.sku = s) → qtyOf s l = 0
  | [], _ => rfl
  | x :: r, h => by
    unfold qtyOf
    rw [if_neg (fun e => h ⟨x, List.mem_cons_self .., e⟩), qtyOf_none (fun ⟨e, he, h1⟩ => h ⟨e, List.mem_cons_of_mem _ he, h1⟩)]
    rfl
theorem qtyOf_some {s : ByteArray} {l : List Ev} (h : qtyOf s l ≠ 0) : ∃ e ∈ l, e.sku = s := Classical.byContradiction fun hn => h (qtyOf_none hn)
section
variable {w w' : World} {m N : Nat} {D : DataW Value} {l : List Ev}
theorem SumsAt.turned {F : Nat → Prop} (h : SumsAt w m N D l) (ht : Turns F w w') (hF : ¬ F m) : SumsAt w' m N D l := ⟨ht.map h.1 hF, h.2⟩
theorem SumsAt.below (h : SumsAt w m N D l) (hb : Below w.heap.size w w') : SumsAt w' m N D l := h.turned (F := fun _ => False) (Turns.of_below hb (Nat.le_refl _)) (fun h => h)
theorem SumsAt.new (w : World) : SumsAt (w.alloc (.map #[] 0)) w.heap.size 0 (.map []) [] := ⟨World.ownsMap_made w _ _ _, fun s _ => by rw [look_empty]; simp⟩
theorem Try.zeroInt' (w : World) : (zeroValue 3).run Try.prog w = .ok (.int .i64 0) w := by kernel_rfl
theorem SumsAt.lookup (h : SumsAt w m N D l) {s : ByteArray} (hs : s.size ≤ maxLen) : (Instr.lookup 58 (.map (some m)) (.string s) false).run Try.prog w = .ok (.int .i64 (qtyOf s l)) w := by
  have := run_look h.1 Try.keyedStr Try.underlying58 (Try.zeroInt' w) (Try.keyStr hs)
  rw [h.2 s hs] at this
  by_cases he : ∃ e ∈ l, e.sku = s
  · rw [if_pos he] at this
    exact this
  · rw [if_neg he] at this
    rw [qtyOf_none he]
    exact this
theorem SumsAt.put (h : SumsAt w m N D l) (hN : N < maxLen) (x : Ev) (hs : x.sku.size ≤ maxLen) :
    ∃ w', (Instr.mapUpdate 58 (.map (some m)) (.string x.sku) (.int .i64 (qtyOf x.sku l + x.qty))).run Try.prog w = .ok () w' ∧ (∃ D', SumsAt w' m (N + 1) D' (l ++ [x])) ∧ Turns (fun i => i = m) w w' := by
  obtain ⟨w', hrun, hown, hturn⟩ := h.1.store Try.keyedStr Try.underlying58 hN (Try.keyStr hs) (show valR (.int .i64 (qtyOf x.sku l + x.qty)) = some (.held (.int .i64 (qtyOf x.sku l + x.qty)), []) from rfl)
  refine ⟨w', hrun, ⟨_, hown, fun s hs' => ?_⟩, Turns.of_grown (F := fun i => i = m) hturn.grown (fun k hk => by cases hk; rfl)⟩
  by_cases e : s = x.sku
  · subst e
    rw [look_put_same h.1.isMap (Try.keyedStr.key (Try.keyStr hs)), if_pos ⟨x, by simp, rfl⟩, qtyOf_append]
    simp [qtyOf]
  · rw [look_put_other (fun k => e (key_inj k)), h.2 s hs', qtyOf_append]
    have e1 : (∃ e ∈ l ++ [x], e.sku = s) ↔ ∃ e ∈ l, e.sku = s := by
      constructor
      · rintro ⟨y, hy, h1⟩
        rcases List.mem_append.1 hy with hy | hy
        · exact ⟨y, hy, h1⟩
        · simp at hy
          subst hy
          exact absurd h1.symm e
      · rintro ⟨y, hy, h1⟩
        exact ⟨y, List.mem_append_left _ hy, h1⟩
    have e2 : qtyOf s [x] = 0 := by simp [qtyOf, Ne.symm e]
    rw [e2, Int.add_zero]
    simp only [e1]
/-- What a range over the sums yields are the lines. -/
theorem sums_lines (h : SumsAt w m N D l) (hl : ∀ e ∈ l, e.sku.size ≤ maxLen) {ss ls : List Ln} (hc : ∀ s q, (s, q) ∈ ss ↔ s.size ≤ maxLen ∧ look D (key s) = some (.int .i64 q)) (hn : (ss.map (·.1)).Nodup) (hp : ls.Perm (ss.filter posL)) (hw : ls.Pairwise (fun x y => ¬ cmpL y x < 0)) : LinesOf (fun s => qtyOf s l) ls := by
  refine ⟨rising hp (nodup_pos hn) hw, fun s q => ?_⟩
  rw [hp.mem_iff, List.mem_filter, hc]
  unfold posL
  simp only [decide_eq_true_eq]
  constructor
  · rintro ⟨⟨h0, h1⟩, h2⟩
    have h3 := h.2 s h0
    rw [h1] at h3
    split at h3
    · cases h3
      exact ⟨h2, rfl⟩
    · cases h3
  · rintro ⟨h1, rfl⟩
    obtain ⟨e, he, rfl⟩ := qtyOf_some (s := s) (l := l) (by omega)
    rw [h.2 _ (hl e he), if_pos ⟨e, he, rfl⟩]
    exact ⟨⟨hl e he, rfl⟩, h1⟩
end
end Go.Proofs.Ytfokmldfnkonpaa
