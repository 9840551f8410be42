/-
  Package cart: the order of lines; slices.SortFunc of lines.
-/
import Derived.Test.YtfeoolknpcffcaaCartK
import Derived.Test.YtfeoolknpcffcaaDotsG
import Derived.Laws.Cover1
import Derived.Shelf.SlSortCmp.WholeK
import Derived.Shelf.Lay
import Derived.Ground.SlsfProg
namespace Go.Proofs
open Go.Shelf Go.RowKit Go.Lib Go.Sort
end Go.Proofs
namespace Go.Proofs.Ytfeoolknpcffcaa
open Go.Shelf Go.RowKit Go.Lib Go.Sort Go.Maps

theorem bl_cb : ∀ a b : List UInt8, Op.bytesLess a b = decide (Lib.compareBytes a b < 0)
  | [], [] => by simp [Op.bytesLess, Lib.compareBytes]
  | [], _ :: _ => by simp [Op.bytesLess, Lib.compareBytes]
  | _ :: _, [] => by simp [Op.bytesLess, Lib.compareBytes]
  | x :: a, y :: b => by
    simp only [Op.bytesLess, Lib.compareBytes, bl_cb a b]
    by_cases h1 : x < y
    · simp [h1]
    · by_cases h2 : y < x
      · have h3 : ¬ x = y := fun e => by subst e; exact h1 h2
        simp [h1, h2, h3]
      · have h3 : x = y := u8_eq h1 h2
        simp [h3]
theorem cb_vals : ∀ a b : List UInt8, Lib.compareBytes a b = -1 ∨ Lib.compareBytes a b = 0 ∨ Lib.compareBytes a b = 1
  | [], [] => .inr (.inl rfl)
  | [], _ :: _ => .inl rfl
  | _ :: _, [] => .inr (.inr rfl)
  | x :: a, y :: b => by
    simp only [Lib.compareBytes]
    split
    · exact .inl rfl
    · split
      · exact .inr (.inr rfl)
      · exact cb_vals a b
theorem cmpL_swo : Sort.SWO (ltOf cmpL) := cb_swo (fun x : Ln => x.1.data.toList)
end Go.Proofs.Ytfeoolknpcffcaa
/-
  Package cart: Lines.
-/
namespace Go.Proofs.Ytfeoolknpcffcaa
open Go.RowKit Go.Maps

/-- The events of a cart that count, in memory. -/
def mineM (name : ByteArray) (xs : List EvM) : List EvM := xs.filter fun x => decide (x.e.cart = name)
def countM (name : ByteArray) (xs : List EvM) : List EvM := firstsM (standM (mineM name xs))
theorem countM_e (name : ByteArray) (xs : List EvM) : (countM name xs).map (·.e) = countOf name (xs.map (·.e)) := by
  unfold countM countOf ofCart
  rw [firstsM_e, standM_e]
  have := filter_map_e (fun e => decide (e.cart = name)) xs
  unfold mineM
  rw [this]
theorem firstsM_sub (xs : List EvM) : ∀ x ∈ firstsM xs, x ∈ xs := selTo_sub _ xs xs.length (Nat.le_refl _)
theorem firstsM_len (xs : List EvM) : (firstsM xs).length ≤ xs.length := selTo_len _ _ _
theorem standM_sub (xs : List EvM) : ∀ x ∈ standM xs, x ∈ xs := fun _ hx => (List.mem_filter.1 hx).1
theorem standM_len (xs : List EvM) : (standM xs).length ≤ xs.length := List.length_filter_le _ _
theorem mineM_sub (name : ByteArray) (xs : List EvM) : ∀ x ∈ mineM name xs, x ∈ xs := fun _ hx => (List.mem_filter.1 hx).1
theorem mineM_len (name : ByteArray) (xs : List EvM) : (mineM name xs).length ≤ xs.length := List.length_filter_le _ _
theorem countM_sub (name : ByteArray) (xs : List EvM) : ∀ x ∈ countM name xs, x ∈ xs := fun x hx => mineM_sub name xs x (standM_sub _ x (firstsM_sub _ x hx))
theorem countM_len (name : ByteArray) (xs : List EvM) : (countM name xs).length ≤ xs.length := Nat.le_trans (firstsM_len _) (Nat.le_trans (standM_len _) (mineM_len _ _))
/-- While the sums are made. -/
def Summing (w : World) (m : Nat) (v : Value) (c : Nat) (ys : List EvM) (k : Nat) (wr : World) : Prop :=
  (∃ D, SumsAt wr m k D ((ys.take k).map (·.e))) ∧ wr.ownsRow w.heap.size 33 8 v c (flatE ys) ∧ Below w.heap.size w wr
end Go.Proofs.Ytfeoolknpcffcaa
/-
  Package cart: Same, Total, told, Stand; how lines lie in memory.
-/
namespace Go.Proofs.Ytfeoolknpcffcaa
open Go.RowKit Go.Maps

/-- A slice of lines holds ls. -/
def HeldL (w : World) (ao : Option Addr) (ls : List Ln) : Prop :=
  ls = [] ∨ ∃ b off, ao = some ⟨b, off, none⟩ ∧ b < w.heap.size ∧ ∀ j (hj : j < ls.length), w.cell? ⟨b, off + j * 2, none⟩ = some (.string ls[j].1) ∧ w.cell? ⟨b, off + j * 2 + 1, none⟩ = some (.int .i64 ls[j].2)
theorem HeldL.below {w w' : World} {ao : Option Addr} {ls : List Ln} (h : HeldL w ao ls) (hb : Below w.heap.size w w') : HeldL w' ao ls := by
  rcases h with h0 | ⟨b, off, h1, h2, h3⟩
  · exact .inl h0
  · exact .inr ⟨b, off, h1, Nat.lt_of_lt_of_le h2 hb.size, fun j hj => ⟨(hb.cell (p := ⟨b, off + j * 2, none⟩) h2).trans (h3 j hj).1, (hb.cell (p := ⟨b, off + j * 2 + 1, none⟩) h2).trans (h3 j hj).2⟩⟩
theorem HeldL.at {w : World} {ao : Option Addr} {ls : List Ln} (h : HeldL w ao ls) {j : Nat} (hj : j < ls.length) : ∃ b off, ao = some ⟨b, off, none⟩ ∧ w.cell? ⟨b, off + j * 2, none⟩ = some (.string ls[j].1) ∧ w.cell? ⟨b, off + j * 2 + 1, none⟩ = some (.int .i64 ls[j].2) := by
  rcases h with h0 | ⟨b, off, h1, h2, h3⟩
  · subst h0
    cases hj
  · exact ⟨b, off, h1, (h3 j hj).1, (h3 j hj).2⟩
theorem flatL_get : ∀ (xs : List Ln) (j : Nat) (hj : j < xs.length), (flatL xs)[j * 2]? = some (.string xs[j].1) ∧ (flatL xs)[j * 2 + 1]? = some (.int .i64 xs[j].2)
  | [], j, hj => by cases hj
  | x :: r, 0, _ => ⟨rfl, rfl⟩
  | x :: r, j + 1, hj => by
    have := flatL_get r j (by simpa using hj)
    simp only [List.getElem_cons_succ]
    rw [show (j + 1) * 2 = j * 2 + 2 by omega, show j * 2 + 2 + 1 = (j * 2 + 1) + 2 by omega]
    exact this
theorem ext_lines {a b : List Ln} (hl : a.length = b.length) {k : Nat} (hk : ¬ k < a.length) (h : ∀ j (h1 : j < a.length) (h2 : j < b.length), j < k → a[j] = b[j]) : a = b :=
  List.ext_getElem hl fun i h1 h2 => h i h1 h2 (by omega)
end Go.Proofs.Ytfeoolknpcffcaa
/-
  Package cart: Same, Total, told, Stand; the law's of.
-/
namespace Go.Proofs.Ytfeoolknpcffcaa
open Go.RowKit Go.Maps

/-- The sum of all lines. -/
def totalL : List Ln → Int
  | [] => 0
  | x :: r => x.2 + totalL r
theorem totalL_append (a b : List Ln) : totalL (a ++ b) = totalL a + totalL b := by
  induction a with
  | nil => simp [totalL]
  | cons x r ih => simp only [List.cons_append, totalL, ih]; omega
theorem totalL_bd : ∀ {l : List Ln}, (∀ x ∈ l, 0 ≤ x.2 ∧ x.2 ≤ 4194304000) → 0 ≤ totalL l ∧ totalL l ≤ 4194304000 * (l.length : Int)
  | [], _ => by simp [totalL]
  | x :: r, h => by
    have h1 := h x (List.mem_cons_self ..)
    have h2 := totalL_bd (l := r) fun e he => h e (List.mem_cons_of_mem _ he)
    unfold totalL
    rw [List.length_cons]
    omega
/-- How many of an article lines have. -/
def ofL (s : ByteArray) : List Ln → Int
  | [] => 0
  | x :: r => if x.1 = s then x.2 else ofL s r
theorem ofL_skip {s : ByteArray} : ∀ {a : List Ln} (b : List Ln), (∀ x ∈ a, x.1 ≠ s) → ofL s (a ++ b) = ofL s b
  | [], _, _ => rfl
  | x :: r, b, h => by
    rw [List.cons_append, ofL, if_neg (h x (List.mem_cons_self ..)), ofL_skip b (fun y hy => h y (List.mem_cons_of_mem _ hy))]
theorem ofL_mem {s : ByteArray} : ∀ {a : List Ln}, ofL s a ≠ 0 → (s, ofL s a) ∈ a
  | [], h => absurd rfl h
  | x :: r, h => by
    unfold ofL at h ⊢
    split
    · next e => rw [if_pos e] at h; rw [← e]; exact List.mem_cons_self ..
    · next e => rw [if_neg e] at h; exact List.mem_cons_of_mem _ (ofL_mem h)
theorem ofL_zero {s : ByteArray} : ∀ {a : List Ln}, ofL s a = 0 → (∀ x ∈ a, 0 < x.2) → ∀ x ∈ a, x.1 ≠ s
  | [], _, _, x, hx => by cases hx
  | y :: r, h, hp, x, hx => by
    unfold ofL at h
    split at h
    · have := hp y (List.mem_cons_self ..)
      omega
    · next e =>
      rcases List.mem_cons.1 hx with rfl | hx
      · exact e
      · exact ofL_zero h (fun z hz => hp z (List.mem_cons_of_mem _ hz)) x hx
/-- Lines tell what f tells. -/
theorem ofL_lines {f : ByteArray → Int} {ls : List Ln} (h : LinesOf f ls) (hf : ∀ s, 0 ≤ f s) (s : ByteArray) : ofL s ls = f s := by
  by_cases h0 : ofL s ls = 0
  · rw [h0]
    apply Classical.byContradiction
    intro hn
    have h1 := hf s
    exact ofL_zero h0 (fun x hx => ((h.2 x.1 x.2).1 hx).1) (s, f s) ((h.2 s (f s)).2 ⟨by omega, rfl⟩) rfl
  · exact ((h.2 s (ofL s ls)).1 (ofL_mem h0)).2
end Go.Proofs.Ytfeoolknpcffcaa
