/-
  Lines as lists: by rising articles, those of which there are more than 0; sums of events in a map.
-/
import Derived.Test.YtkgfpnmifgifpaaStrKey
import Derived.Test.YtkgfpnmifgifpaaCmpBytes
import Derived.Shelf.SlSortCmp.InsertionK
import Derived.Laws.AppendOwn
namespace Go.Proofs.Ytkgfpnmifgifpaa
open Go.RowKit Go.Maps

/-- A line. -/
abbrev Ln := ByteArray × Int
def lineCells (x : Ln) : List Value := [.string x.1, .int .i64 x.2]
def flatL (xs : List Ln) : List Value := xs.flatMap lineCells
theorem flatL_snoc (xs : List Ln) (x : Ln) : flatL (xs ++ [x]) = flatL xs ++ lineCells x := by simp [flatL]
def cmpS (x y : ByteArray) : Int := Lib.compareBytes x.data.toList y.data.toList
def cmpL (x y : Ln) : Int := cmpS x.1 y.1
theorem cmpS_anti (x y : ByteArray) : cmpS x y = - cmpS y x := cb_anti _ _
theorem cmpS_eq {x y : ByteArray} (h : cmpS x y = 0) : x = y := ByteArray.ext (Array.toList_inj.1 (cb_eq _ _ h))
theorem cmpS_refl (x : ByteArray) : cmpS x x = 0 := cb_refl _
theorem cmpS_trans {x y z : ByteArray} (h : cmpS x y < 0) (k : cmpS y z < 0) : cmpS x z < 0 := cb_trans _ _ _ h k
/-- The lines that f tells. -/
def LinesOf (f : ByteArray → Int) (ls : List Ln) : Prop := ls.Pairwise (fun x y => cmpS x.1 y.1 < 0) ∧ ∀ s q, (s, q) ∈ ls ↔ (0 < q ∧ q = f s)
theorem sorted_eq : ∀ {a b : List Ln}, a.Pairwise (fun x y => cmpS x.1 y.1 < 0) → b.Pairwise (fun x y => cmpS x.1 y.1 < 0) → (∀ x, x ∈ a ↔ x ∈ b) → a = b
  | [], [], _, _, _ => rfl
  | [], y :: b, _, _, h => by have := (h y).2 (List.mem_cons_self ..); cases this
  | x :: a, [], _, _, h => by have := (h x).1 (List.mem_cons_self ..); cases this
  | x :: a, y :: b, ha, hb, h => by
    obtain ⟨ha1, ha2⟩ := List.pairwise_cons.1 ha
    obtain ⟨hb1, hb2⟩ := List.pairwise_cons.1 hb
    have hxy : x = y := by
      rcases List.mem_cons.1 ((h x).1 (List.mem_cons_self ..)) with e | e
      · exact e
      · rcases List.mem_cons.1 ((h y).2 (List.mem_cons_self ..)) with e' | e'
        · exact e'.symm
        · have h1 := hb1 x e
          have h2 := ha1 y e'
          have h3 := cmpS_anti x.1 y.1
          omega
    subst hxy
    congr 1
    refine sorted_eq ha2 hb2 (fun z => ⟨fun hz => ?_, fun hz => ?_⟩)
    · rcases List.mem_cons.1 ((h z).1 (List.mem_cons_of_mem _ hz)) with e | e
      · subst e
        have h1 := ha1 z hz
        rw [cmpS_refl] at h1
        omega
      · exact e
    · rcases List.mem_cons.1 ((h z).2 (List.mem_cons_of_mem _ hz)) with e | e
      · subst e
        have h1 := hb1 z hz
        rw [cmpS_refl] at h1
        omega
      · exact e
theorem linesOf_unique {f g : ByteArray → Int} {a b : List Ln} (ha : LinesOf f a) (hb : LinesOf g b) (h : ∀ s, f s = g s) : a = b :=
  sorted_eq ha.1 hb.1 (fun x => by rw [show x = (x.1, x.2) from rfl, ha.2, hb.2, h])
/-- Sorted, with each article once: strictly rising. -/
theorem rising {ls ss : List Ln} (hp : ls.Perm ss) (hn : (ss.map (·.1)).Nodup) (hw : ls.Pairwise (fun x y => ¬ cmpL y x < 0)) : ls.Pairwise (fun x y => cmpS x.1 y.1 < 0) := by
  have h1 : (ls.map (·.1)).Nodup := (hp.map _).nodup_iff.2 hn
  rw [List.nodup_iff_pairwise_ne, List.pairwise_map] at h1
  refine (hw.and h1).imp ?_
  rintro x y ⟨h2, h3⟩
  have h4 := cmpS_anti x.1 y.1
  have h5 : cmpS x.1 y.1 ≠ 0 := fun e => h3 (cmpS_eq e)
  have h6 : ¬ cmpS y.1 x.1 < 0 := h2
  omega
def posL (x : Ln) : Bool := decide (0 < x.2)
theorem nodup_pos {ss : List Ln} (h : (ss.map (·.1)).Nodup) : ((ss.filter posL).map (·.1)).Nodup := (List.filter_sublist.map _).nodup h

/-- Sums of events in memory. -/
def SumsAt (w : World) (m N : Nat) (D : DataW Value) (l : List Ev) : Prop :=
  w.ownsMap Try.prog 9 valR m N D ∧ ∀ s, s.size ≤ maxLen → look D (key s) = if ∃ e ∈ l, e.sku = s then some (.int .i64 (qtyOf s l)) else none
theorem qtyOf_none {s : ByteArray} : ∀ {l : List Ev}, (¬ ∃ e ∈ l, e.sku = s) → qtyOf s l = 0
  | [], _ => rfl
  | x :: r, h => by
    unfold qtyOf
    rw [if_neg (fun e => h ⟨x, List.mem_cons_self .., e⟩), qtyOf_none (fun ⟨e, he, h1⟩ => h ⟨e, List.mem_cons_of_mem _ he, h1⟩)]
    rfl
theorem qtyOf_some {s : ByteArray} {l : List Ev} (h : qtyOf s l ≠ 0) : ∃ e ∈ l, e.sku = s := Classical.byContradiction fun hn => h (qtyOf_none hn)
section
variable {w w' : World} {m N : Nat} {D : DataW Value} {l : List Ev}
theorem SumsAt.turned {F : Nat → Prop} (h : SumsAt w m N D l) (ht : Turns F w w') (hF : ¬ F m) : SumsAt w' m N D l := ⟨ht.map h.1 hF, h.2⟩
theorem SumsAt.below (h : SumsAt w m N D l) (hb : Below w.heap.size w w') : SumsAt w' m N D l := h.turned (F := fun _ => False) (Turns.of_below hb (Nat.le_refl _)) (fun h => h)
theorem SumsAt.new (w : World) : SumsAt (w.alloc (.map #[] 0)) w.heap.size 0 (.map []) [] := ⟨World.ownsMap_made w _ _ _, fun s _ => by rw [look_empty]; simp⟩
theorem Try.zeroInt' (w : World) : (zeroValue 3).run Try.prog w = .ok (.int .i64 0) w := by kernel_rfl
theorem SumsAt.lookup (h : SumsAt w m N D l) {s : ByteArray} (hs : s.size ≤ maxLen) : (Instr.lookup 59 (.map (some m)) (.string s) false).run Try.prog w = .ok (.int .i64 (qtyOf s l)) w := by
  have := run_look h.1 Try.keyedStr Try.underlying59 (Try.zeroInt' w) (Try.keyStr hs)
  rw [h.2 s hs] at this
  by_cases he : ∃ e ∈ l, e.sku = s
  · rw [if_pos he] at this
    exact this
  · rw [if_neg he] at this
    rw [qtyOf_none he]
    exact this
theorem SumsAt.put (h : SumsAt w m N D l) (hN : N < maxLen) (x : Ev) (hs : x.sku.size ≤ maxLen) :
    ∃ w', (Instr.mapUpdate 59 (.map (some m)) (.string x.sku) (.int .i64 (qtyOf x.sku l + x.qty))).run Try.prog w = .ok () w' ∧ (∃ D', SumsAt w' m (N + 1) D' (l ++ [x])) ∧ Turns (fun i => i = m) w w' := by
  obtain ⟨w', hrun, hown, hturn⟩ := h.1.store Try.keyedStr Try.underlying59 hN (Try.keyStr hs) (show valR (.int .i64 (qtyOf x.sku l + x.qty)) = some (.held (.int .i64 (qtyOf x.sku l + x.qty)), []) from rfl)
  refine ⟨w', hrun, ⟨_, hown, fun s hs' => ?_⟩, Turns.of_grown (F := fun i => i = m) hturn.grown (fun k hk => by cases hk; rfl)⟩
  by_cases e : s = x.sku
  · subst e
    rw [look_put_same h.1.isMap (Try.keyedStr.key (Try.keyStr hs)), if_pos ⟨x, by simp, rfl⟩, qtyOf_append]
    simp [qtyOf]
  · rw [look_put_other (fun k => e (key_inj k)), h.2 s hs', qtyOf_append]
    have e1 : (∃ e ∈ l ++ [x], e.sku = s) ↔ ∃ e ∈ l, e.sku = s := by
      constructor
      · rintro ⟨y, hy, h1⟩
        rcases List.mem_append.1 hy with hy | hy
        · exact ⟨y, hy, h1⟩
        · simp at hy
          subst hy
          exact absurd h1.symm e
      · rintro ⟨y, hy, h1⟩
        exact ⟨y, List.mem_append_left _ hy, h1⟩
    have e2 : qtyOf s [x] = 0 := by simp [qtyOf, Ne.symm e]
    rw [e2, Int.add_zero]
    simp only [e1]
/-- What a range over the sums yields are the lines. -/
theorem sums_lines (h : SumsAt w m N D l) (hl : ∀ e ∈ l, e.sku.size ≤ maxLen) {ss ls : List Ln} (hc : ∀ s q, (s, q) ∈ ss ↔ s.size ≤ maxLen ∧ look D (key s) = some (.int .i64 q)) (hn : (ss.map (·.1)).Nodup) (hp : ls.Perm (ss.filter posL)) (hw : ls.Pairwise (fun x y => ¬ cmpL y x < 0)) : LinesOf (fun s => qtyOf s l) ls := by
  refine ⟨rising hp (nodup_pos hn) hw, fun s q => ?_⟩
  rw [hp.mem_iff, List.mem_filter, hc]
  unfold posL
  simp only [decide_eq_true_eq]
  constructor
  · rintro ⟨⟨h0, h1⟩, h2⟩
    have h3 := h.2 s h0
    rw [h1] at h3
    split at h3
    · cases h3
      exact ⟨h2, rfl⟩
    · cases h3
  · rintro ⟨h1, rfl⟩
    obtain ⟨e, he, rfl⟩ := qtyOf_some (s := s) (l := l) (by omega)
    rw [h.2 _ (hl e he), if_pos ⟨e, he, rfl⟩]
    exact ⟨⟨hl e he, rfl⟩, h1⟩
end
end Go.Proofs.Ytkgfpnmifgifpaa
/-
  A row of elements of k cells, and the world that slices.SortFunc leaves ('sortWorldK'). No function of the program is named here.
-/
namespace Go.Proofs.Ytkgfpnmifgifpaa
open Go.RowKit Go.Sort

section
variable {α : Type} [Inhabited α] {enc : α → List Value} {k : Nat}

omit [Inhabited α] in
theorem rflat_len (hk : ∀ x, (enc x).length = k) : ∀ gs : List α, (gs.flatMap enc).length = gs.length * k
  | [] => by simp
  | x :: r => by
    rw [List.flatMap_cons, List.length_append, hk, rflat_len hk r, List.length_cons, Nat.succ_mul]
    omega
theorem rflat_get (hk : ∀ x, (enc x).length = k) (h0 : 0 < k) : ∀ (gs : List α) (j : Nat), j < gs.length * k → (gs.flatMap enc)[j]? = some (enc gs[j / k]!)[j % k]!
  | [], j, h => by simp at h
  | x :: r, j, h => by
    rw [List.flatMap_cons]
    by_cases hj : j < k
    · rw [List.getElem?_append_left (by rw [hk]; exact hj), Nat.div_eq_of_lt hj, Nat.mod_eq_of_lt hj]
      have hl : j < (enc x).length := by rw [hk]; exact hj
      simp [List.getElem?_eq_getElem hl, getElem!_pos (enc x) j hl]
    · obtain ⟨i, rfl⟩ : ∃ i, j = i + k := ⟨j - k, by omega⟩
      have hi : i < r.length * k := by rw [List.length_cons, Nat.succ_mul] at h; omega
      rw [List.getElem?_append_right (by rw [hk]; omega), hk, Nat.add_sub_cancel, rflat_get hk h0 r i hi, Nat.add_div_right _ h0, Nat.add_mod_right]
      simp

theorem flatK_list (hk : ∀ x, (enc x).length = k) (h0 : 0 < k) (gs : List α) (j : Nat) (hj : j < gs.length * k) : (gs.flatMap enc)[j]? = some (flatK enc k gs.toArray)[j]! := by
  rw [rflat_get hk h0 gs j hj, get_flatK enc k gs.toArray j (by simpa using hj)]
  simp

variable {w : World} {B e g cap : Nat} {gs : List α}
theorem holdsK_of_row (hk : ∀ x, (enc x).length = k) (h0 : 0 < k) (hown : w.ownsRow B e k (.slice (some ⟨g, 0, none⟩) gs.length cap) gs.length (gs.flatMap enc)) : HoldsK enc k w g 0 gs.toArray ∧ g < w.heap.size := by
  rcases hown.2 with ⟨h, _⟩ | ⟨g', cap', cur, he, _, hg, hn, _, hsz, htk⟩
  · cases h
  · cases he
    refine ⟨fun j hj => ?_, (Array.getElem?_eq_some_iff.1 hg).1⟩
    have hj' : j < gs.length * k := by simpa using hj
    have h1 : cur.toList[j]? = (gs.flatMap enc)[j]? := by rw [← htk, List.getElem?_take_of_lt hj']
    rw [flatK_list hk h0 gs j hj'] at h1
    constructor
    · simp only [World.cell?, hg, Nat.zero_add]
      simpa using h1
    · simp [World.frozen?, hg]

theorem row_of_sort (hk : ∀ x, (enc x).length = k) (h0 : 0 < k) (hown : w.ownsRow B e k (.slice (some ⟨g, 0, none⟩) gs.length cap) gs.length (gs.flatMap enc)) (hs : List α) (hl : hs.length = gs.length) (n : Nat) (os : Array Obj) :
    (sortWorldK enc k w g 0 n hs.toArray os).ownsRow B e k (.slice (some ⟨g, 0, none⟩) gs.length cap) gs.length (hs.flatMap enc) ∧ w.grownBy (sortWorldK enc k w g 0 n hs.toArray os) (some g) := by
  have hsize : ∀ i, i < w.heap.size → i < (putRowK enc k (Sort.ahead w n) g 0 hs.toArray).heap.size := fun i hi => by
    simpa [putRowK, putRow, mapBlock, Sort.ahead] using hi
  constructor
  · rcases hown.2 with ⟨h, _⟩ | ⟨g', cap', cur, he, hB, hg, hn, hm, hsz, htk⟩
    · cases h
    · cases he
      have hgl := (Array.getElem?_eq_some_iff.1 hg).1
      refine ⟨by rw [rflat_len hk, hl], .inr ⟨g, cap, putCells id 0 (flatK enc k hs.toArray) cur, rfl, hB, ?_, hn, hm, by simpa [putCells] using hsz, ?_⟩⟩
      · unfold sortWorldK
        rw [heap_grow_old _ _ (hsize g hgl)]
        show ((Sort.ahead w n).heap.modify g _)[g]? = _
        rw [Array.getElem?_modify]
        have hg' : (Sort.ahead w n).heap[g]? = some (.cells cur e (0, 0)) := hg
        rw [if_pos rfl, hg']
        rfl
      · apply List.ext_getElem?
        intro j
        by_cases hj : j < gs.length * k
        · rw [List.getElem?_take_of_lt hj, flatK_list hk h0 hs j (by rw [hl]; exact hj)]
          have hc : j < cur.size := by rw [hsz]; exact Nat.lt_of_lt_of_le hj (Nat.mul_le_mul_right k hn)
          have hf : j < (flatK enc k hs.toArray).size := by simpa [hl] using hj
          simp only [putCells, Array.getElem?_toList, Array.getElem?_mapIdx, Nat.zero_le, true_and, Nat.zero_add, Nat.sub_zero, id, hf, if_true]
          rw [Array.getElem?_eq_getElem hc]
          rfl
        · rw [List.getElem?_eq_none (by rw [List.length_take]; omega), List.getElem?_eq_none (by rw [rflat_len hk, hl]; omega)]
  · refine ⟨rfl, rfl, rfl, ?_, fun i hi hne => ?_⟩
    · have : (putRowK enc k (Sort.ahead w n) g 0 hs.toArray).heap.size = w.heap.size := by simp [putRowK, putRow, mapBlock, Sort.ahead]
      unfold sortWorldK grow
      simp [this]
    · unfold sortWorldK
      rw [heap_grow_old _ _ (hsize i hi)]
      show ((Sort.ahead w n).heap.modify g _)[i]? = _
      rw [Array.getElem?_modify, if_neg (fun e => hne (by rw [e]))]
      rfl
end
end Go.Proofs.Ytkgfpnmifgifpaa
