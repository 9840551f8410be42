/-
  Package cart: the order of lines; slices.SortFunc of lines.
-/
import Derived.Test.YtcammngbhnhjjaaCartK
import Derived.Test.YtcammngbhnhjjaaDotsG
import Derived.Laws.Cover1
import Derived.Shelf.SlSortCmp.WholeK
import Derived.Shelf.Lay
import Derived.Ground.SlsfProg
import Derived.Test.YtcammngbhnhjjaaRows
import Derived.Test.YtcammngbhnhjjaaCartMath
import Derived.Test.YtcammngbhnhjjaaBase
import Derived.Lib.BufferWrite
import Derived.Lib.UnsafeStr
import Derived.Laws.MakeOwn
namespace Go.Proofs
open Go.Shelf Go.RowKit Go.Lib Go.Sort
end Go.Proofs
namespace Go.Proofs.Ytcammngbhnhjjaa
open Go.Shelf Go.RowKit Go.Lib Go.Sort Go.Maps

theorem bl_cb : ∀ a b : List UInt8, Op.bytesLess a b = decide (Lib.compareBytes a b < 0)
  | [], [] => by simp [Op.bytesLess, Lib.compareBytes]
  | [], _ :: _ => by simp [Op.bytesLess, Lib.compareBytes]
  | _ :: _, [] => by simp [Op.bytesLess, Lib.compareBytes]
  | x :: a, y :: b => by
    simp only [Op.bytesLess, Lib.compareBytes, bl_cb a b]
    by_cases h1 : x < y
    · simp [h1]
    · by_cases h2 : y < x
      · have h3 : ¬ x = y := fun e => by subst e; exact h1 h2
        simp [h1, h2, h3]
      · have h3 : x = y := u8_eq h1 h2
        simp [h3]
theorem cb_vals : ∀ a b : List UInt8, Lib.compareBytes a b = -1 ∨ Lib.compareBytes a b = 0 ∨ Lib.compareBytes a b = 1
  | [], [] => .inr (.inl rfl)
  | [], _ :: _ => .inl rfl
  | _ :: _, [] => .inr (.inr rfl)
  | x :: a, y :: b => by
    simp only [Lib.compareBytes]
    split
    · exact .inl rfl
    · split
      · exact .inr (.inr rfl)
      · exact cb_vals a b
theorem cmpL_swo : Sort.SWO (ltOf cmpL) := cb_swo (fun x : Ln => x.1.data.toList)
end Go.Proofs.Ytcammngbhnhjjaa
/-
  Package cart: Lines.
-/
namespace Go.Proofs.Ytcammngbhnhjjaa
open Go.RowKit Go.Maps

/-- The events of a cart that count, in memory. -/
def mineM (name : ByteArray) (xs : List EvM) : List EvM := xs.filter fun x => decide (x.e.cart = name)
def countM (name : ByteArray) (xs : List EvM) : List EvM := firstsM (standM (mineM name xs))
theorem countM_e (name : ByteArray) (xs : List EvM) : (countM name xs).map (·.e) = countOf name (xs.map (·.e)) := by
  unfold countM countOf ofCart
  rw [firstsM_e, standM_e]
  have := filter_map_e (fun e => decide (e.cart = name)) xs
  unfold mineM
  rw [this]
theorem firstsM_sub (xs : List EvM) : ∀ x ∈ firstsM xs, x ∈ xs := selTo_sub _ xs xs.length (Nat.le_refl _)
theorem firstsM_len (xs : List EvM) : (firstsM xs).length ≤ xs.length := selTo_len _ _ _
theorem standM_sub (xs : List EvM) : ∀ x ∈ standM xs, x ∈ xs := fun _ hx => (List.mem_filter.1 hx).1
theorem standM_len (xs : List EvM) : (standM xs).length ≤ xs.length := List.length_filter_le _ _
theorem mineM_sub (name : ByteArray) (xs : List EvM) : ∀ x ∈ mineM name xs, x ∈ xs := fun _ hx => (List.mem_filter.1 hx).1
theorem mineM_len (name : ByteArray) (xs : List EvM) : (mineM name xs).length ≤ xs.length := List.length_filter_le _ _
theorem countM_sub (name : ByteArray) (xs : List EvM) : ∀ x ∈ countM name xs, x ∈ xs := fun x hx => mineM_sub name xs x (standM_sub _ x (firstsM_sub _ x hx))
theorem countM_len (name : ByteArray) (xs : List EvM) : (countM name xs).length ≤ xs.length := Nat.le_trans (firstsM_len _) (Nat.le_trans (standM_len _) (mineM_len _ _))
/-- While the sums are made. -/
def Summing (w : World) (m : Nat) (v : Value) (c : Nat) (ys : List EvM) (k : Nat) (wr : World) : Prop :=
  (∃ D, SumsAt wr m k D ((ys.take k).map (·.e))) ∧ wr.ownsRow w.heap.size 33 8 v c (flatE ys) ∧ Below w.heap.size w wr
end Go.Proofs.Ytcammngbhnhjjaa
/-
  Package cart: Same, Total, told, Stand; how lines lie in memory.
-/
namespace Go.Proofs.Ytcammngbhnhjjaa
open Go.RowKit Go.Maps

/-- A slice of lines holds ls. -/
def HeldL (w : World) (ao : Option Addr) (ls : List Ln) : Prop :=
  ls = [] ∨ ∃ b off, ao = some ⟨b, off, none⟩ ∧ b < w.heap.size ∧ ∀ j (hj : j < ls.length), w.cell? ⟨b, off + j * 2, none⟩ = some (.string ls[j].1) ∧ w.cell? ⟨b, off + j * 2 + 1, none⟩ = some (.int .i64 ls[j].2)
theorem HeldL.below {w w' : World} {ao : Option Addr} {ls : List Ln} (h : HeldL w ao ls) (hb : Below w.heap.size w w') : HeldL w' ao ls := by
  rcases h with h0 | ⟨b, off, h1, h2, h3⟩
  · exact .inl h0
  · exact .inr ⟨b, off, h1, Nat.lt_of_lt_of_le h2 hb.size, fun j hj => ⟨(hb.cell (p := ⟨b, off + j * 2, none⟩) h2).trans (h3 j hj).1, (hb.cell (p := ⟨b, off + j * 2 + 1, none⟩) h2).trans (h3 j hj).2⟩⟩
theorem HeldL.at {w : World} {ao : Option Addr} {ls : List Ln} (h : HeldL w ao ls) {j : Nat} (hj : j < ls.length) : ∃ b off, ao = some ⟨b, off, none⟩ ∧ w.cell? ⟨b, off + j * 2, none⟩ = some (.string ls[j].1) ∧ w.cell? ⟨b, off + j * 2 + 1, none⟩ = some (.int .i64 ls[j].2) := by
  rcases h with h0 | ⟨b, off, h1, h2, h3⟩
  · subst h0
    cases hj
  · exact ⟨b, off, h1, (h3 j hj).1, (h3 j hj).2⟩
theorem flatL_get : ∀ (xs : List Ln) (j : Nat) (hj : j < xs.length), (flatL xs)[j * 2]? = some (.string xs[j].1) ∧ (flatL xs)[j * 2 + 1]? = some (.int .i64 xs[j].2)
  | [], j, hj => by cases hj
  | x :: r, 0, _ => ⟨rfl, rfl⟩
  | x :: r, j + 1, hj => by
    have := flatL_get r j (by simpa using hj)
    simp only [List.getElem_cons_succ]
    rw [show (j + 1) * 2 = j * 2 + 2 by omega, show j * 2 + 2 + 1 = (j * 2 + 1) + 2 by omega]
    exact this
theorem ext_lines {a b : List Ln} (hl : a.length = b.length) {k : Nat} (hk : ¬ k < a.length) (h : ∀ j (h1 : j < a.length) (h2 : j < b.length), j < k → a[j] = b[j]) : a = b :=
  List.ext_getElem hl fun i h1 h2 => h i h1 h2 (by omega)
end Go.Proofs.Ytcammngbhnhjjaa
/-
  Package cart: Same, Total, told, Stand; the law's of.
-/
namespace Go.Proofs.Ytcammngbhnhjjaa
open Go.RowKit Go.Maps

/-- The sum of all lines. -/
def totalL : List Ln → Int
  | [] => 0
  | x :: r => x.2 + totalL r
theorem totalL_append (a b : List Ln) : totalL (a ++ b) = totalL a + totalL b := by
  induction a with
  | nil => simp [totalL]
  | cons x r ih => simp only [List.cons_append, totalL, ih]; omega
theorem totalL_bd : ∀ {l : List Ln}, (∀ x ∈ l, 0 ≤ x.2 ∧ x.2 ≤ 4194304000) → 0 ≤ totalL l ∧ totalL l ≤ 4194304000 * (l.length : Int)
  | [], _ => by simp [totalL]
  | x :: r, h => by
    have h1 := h x (List.mem_cons_self ..)
    have h2 := totalL_bd (l := r) fun e he => h e (List.mem_cons_of_mem _ he)
    unfold totalL
    rw [List.length_cons]
    omega
/-- How many of an article lines have. -/
def ofL (s : ByteArray) : List Ln → Int
  | [] => 0
  | x :: r => if x.1 = s then x.2 else ofL s r
theorem ofL_skip {s : ByteArray} : ∀ {a : List Ln} (b : List Ln), (∀ x ∈ a, x.1 ≠ s) → ofL s (a ++ b) = ofL s b
  | [], _, _ => rfl
  | x :: r, b, h => by
    rw [List.cons_append, ofL, if_neg (h x (List.mem_cons_self ..)), ofL_skip b (fun y hy => h y (List.mem_cons_of_mem _ hy))]
theorem ofL_mem {s : ByteArray} : ∀ {a : List Ln}, ofL s a ≠ 0 → (s, ofL s a) ∈ a
  | [], h => absurd rfl h
  | x :: r, h => by
    unfold ofL at h ⊢
    split
    · next e => rw [if_pos e] at h; rw [← e]; exact List.mem_cons_self ..
    · next e => rw [if_neg e] at h; exact List.mem_cons_of_mem _ (ofL_mem h)
theorem ofL_zero {s : ByteArray} : ∀ {a : List Ln}, ofL s a = 0 → (∀ x ∈ a, 0 < x.2) → ∀ x ∈ a, x.1 ≠ s
  | [], _, _, x, hx => by cases hx
  | y :: r, h, hp, x, hx => by
    unfold ofL at h
    split at h
    · have := hp y (List.mem_cons_self ..)
      omega
    · next e =>
      rcases List.mem_cons.1 hx with rfl | hx
      · exact e
      · exact ofL_zero h (fun z hz => hp z (List.mem_cons_of_mem _ hz)) x hx
/-- Lines tell what f tells. -/
theorem ofL_lines {f : ByteArray → Int} {ls : List Ln} (h : LinesOf f ls) (hf : ∀ s, 0 ≤ f s) (s : ByteArray) : ofL s ls = f s := by
  by_cases h0 : ofL s ls = 0
  · rw [h0]
    apply Classical.byContradiction
    intro hn
    have h1 := hf s
    exact ofL_zero h0 (fun x hx => ((h.2 x.1 x.2).1 hx).1) (s, f s) ((h.2 s (f s)).2 ⟨by omega, rfl⟩) rfl
  · exact ((h.2 s (ofL s ls)).1 (ofL_mem h0)).2
end Go.Proofs.Ytcammngbhnhjjaa
/-
  Package cart: told, Stand.
-/
namespace Go.Proofs.Ytcammngbhnhjjaa
open Go.RowKit Go.Maps

/-- append([]int(nil), x...): a new row that holds x's numbers. -/
theorem wpList_append_nil {ops : Array Oper} {rest : List Oper} {o : Oper} {a : Act} {Q : Exit → Act → World → Prop} (W : World) (hgd : o.guard = none) (s x : Operand)
    (ho : o.op = .call { callee := .builtin .append, args := #[s, x], argTypes := #[26, 26] })
    (hs : a.eval s = .slice none 0 0) (ao : Option Addr) (c : Nat) (xs : List Int) (n : Nat) (hn : xs.length = n) (hx : a.eval x = .slice ao n c) (hh : HeldInt W ao xs) (hl : xs.length ≤ 17592186044416)
    (h : ∀ bo cp w', HV w' bo cp xs → (∀ b off, bo = some ⟨b, off, none⟩ → W.heap.size ≤ b) → Below W.heap.size W w' → wpList Try.prog ops Q rest (a.put o.dst (.slice bo n cp)) w') :
    wpList Try.prog ops Q (o :: rest) a W := by
  subst hn
  obtain ⟨iI, hj, hy0, hy1, hy2⟩ := info_parts Try.infoInt
  have fin : ∀ (v' : Value) (w' : World), w'.ownsRow W.heap.size 3 1 v' xs.length (ints xs) → Below W.heap.size W w' → wpList Try.prog ops Q rest (a.put o.dst v') w' := by
    intro v' w' hown hb
    have hlt := hown.lt
    obtain ⟨eo, cap, rfl, hv⟩ := hv_of_own hown hh.1 hl
    exact h eo cap w' hv (fun b off e => (hlt b (by rw [e]; rfl)).1) hb
  cases ao with
  | none =>
    have hx0 : xs = [] := by
      rcases hh.2 with h0 | ⟨b, off, e, _⟩
      · exact h0
      · cases e
    subst hx0
    refine wpList_plain hgd fun K hK => ?_
    have hr := run_append_noneI (P := Try.prog) W W.heap.size 26 o.type 3 iI 1 Try.underlying26 hj _ 0 c _ (ownI_nil W W.heap.size)
    unfold Oper.wp execOp
    simp only [ho, resolve, invoke, builtin, Sem.run_bind, Sem.run_pure, Result.andThen_ok, List.map_toArray, List.map_cons, List.map_nil, hs, hx, List.length_nil, hr]
    exact hK _ _ (fin _ _ (ownI_nil W W.heap.size) (Below.refl _ _))
  | some ad =>
    have hnews : ∀ j u, (ints xs)[j]? = some u → W.cell? (ad.add j) = some u := by
      intro j u hu
      rcases hh.2 with h0 | ⟨b, off, e, _⟩
      · subst h0
        simp [ints] at hu
      · cases e
        exact hh.news j u hu
    refine wpList_append_own_at _ hgd s x 26 ho W.heap.size 3 iI (.int .i64 0) 1 8 Try.underlying26 hj hy0 hy1 hy2 rfl (by decide) _ 0 (ints []) hs (ownI_nil W W.heap.size) ad xs.length c (ints xs) hx (by rw [ints_len]; omega) hnews (ints_one xs) (by unfold maxLen; omega) (by omega) (Nat.le_refl _) ?_
    intro v' w' hown hgrow _ _
    exact fin v' w' (by simpa [ints] using hown) ((Below.refl _ _).grown hgrow (Nat.le_refl _) (fun k e => by cases e))
theorem row_set {w : World} {B e size g n cap : Nat} {xs : List Value} (h : w.ownsRow B e size (.slice (some ⟨g, 0, none⟩) n cap) n xs) {j : Nat} (u : Value) : (w.setCell ⟨g, j, none⟩ u).ownsRow B e size (.slice (some ⟨g, 0, none⟩) n cap) n (xs.set j u) := by
  refine ⟨by rw [List.length_set]; exact h.1, ?_⟩
  rcases h.2 with ⟨h0, _⟩ | ⟨g', cap', cur, he, hB, hg, hn, hm, hsz, htk⟩
  · cases h0
  · cases he
    have hb : Blk w g e cur.toList := hg
    refine .inr ⟨g, cap, (cur.toList.set j u).toArray, rfl, hB, hb.set j u, hn, hm, by simp [hsz], ?_⟩
    show (cur.toList.set j u).take (n * size) = xs.set j u
    rw [← htk, List.take_set]
theorem row_frozen {w : World} {B e size g n cap : Nat} {xs : List Value} (h : w.ownsRow B e size (.slice (some ⟨g, 0, none⟩) n cap) n xs) (j : Nat) : w.frozen? ⟨g, j, none⟩ = false := by
  rcases h.2 with ⟨h0, _⟩ | ⟨g', cap', cur, he, hB, hg, _⟩
  · cases h0
  · cases he
    exact (show Blk w g e cur.toList from hg).frozen j
theorem flatE_set : ∀ (xs : List EvM) (k : Nat) (hk : k < xs.length) (bo : Option Addr) (cp : Nat), (flatE xs).set (k * 8 + 2) (.slice bo xs[k].e.deps.length cp) = flatE (xs.set k ⟨xs[k].e, bo, cp⟩)
  | [], k, hk, _, _ => by cases hk
  | x :: r, 0, _, bo, cp => by simp [flatE, EvM.cells]
  | x :: r, k + 1, hk, bo, cp => by
    have := flatE_set r k (by simpa using hk) bo cp
    unfold flatE at this ⊢
    simp only [List.getElem_cons_succ, List.set_cons_succ, List.flatMap_cons]
    rw [← this, List.set_append, if_neg (show ¬ (k + 1) * 8 + 2 < x.cells.length by show ¬ _ < 8; omega), show (k + 1) * 8 + 2 - x.cells.length = k * 8 + 2 by show _ - 8 = _; omega]
/-- The vector of x does not lie in block g. -/
def EvOff (g : Nat) (x : EvM) : Prop := ∀ b off, x.ao = some ⟨b, off, none⟩ → x.e.deps ≠ [] → b ≠ g
theorem evOff_of {w : World} {x : EvM} (h : EvOk w x) {g : Nat} (hg : w.heap.size ≤ g) : EvOff g x := by
  intro b off ho hne
  rcases h.deps.held.2 with h0 | ⟨b', off', h1, h2, _⟩
  · exact absurd h0 hne
  · rw [ho] at h1
    cases h1
    omega
theorem EvOk.turned {w w' : World} {x : EvM} {g : Nat} (h : EvOk w x) (ho : EvOff g x) (ht : Turns (fun i => i = g) w w') : EvOk w' x :=
  ⟨⟨h.deps.held.turned ht ho, h.deps.room, h.deps.few⟩, h.io, h.is, h.ie, h.iq, h.hc, h.hs⟩
/-- While vectors are told anew. -/
structure Telling (w : World) (B g n cap : Nat) (xs : List EvM) (wr : World) (ys : List EvM) : Prop where
  same : ys.map (·.e) = xs.map (·.e)
  row : wr.ownsRow B 33 8 (.slice (some ⟨g, 0, none⟩) n cap) n (flatE ys)
  ok : AllOk wr ys
  off : ∀ y ∈ ys, EvOff g y
  turn : Turns (fun i => i = g) w wr
theorem mem_set' {xs : List EvM} {k : Nat} {a x : EvM} (h : x ∈ xs.set k a) : x = a ∨ x ∈ xs := by
  rcases List.mem_or_eq_of_mem_set h with h | h
  · exact .inr h
  · exact .inl h
theorem Telling.step {w wr w2 : World} {B g n cap : Nat} {xs ys : List EvM} (h : Telling w B g n cap xs wr ys) {k : Nat} (hk : k < ys.length) (hb : Below wr.heap.size wr w2) {bo : Option Addr} {cp : Nat} (hv : HV w2 bo cp ys[k].e.deps) (hbo : ∀ b off, bo = some ⟨b, off, none⟩ → wr.heap.size ≤ b) (hg : g < wr.heap.size) :
    Telling w B g n cap xs (w2.setCell ⟨g, k * 8 + 2, none⟩ (.slice bo ys[k].e.deps.length cp)) (ys.set k ⟨ys[k].e, bo, cp⟩) := by
  have ht : Turns (fun i => i = g) w2 (w2.setCell ⟨g, k * 8 + 2, none⟩ (.slice bo ys[k].e.deps.length cp)) := (Turns.refl (fun i => i = g) w2).setCell (p := ⟨g, k * 8 + 2, none⟩) (.inl rfl) _
  have hnew : EvOff g ⟨ys[k].e, bo, cp⟩ := fun b off e _ => by have := hbo b off e; omega
  refine ⟨?_, ?_, fun x hx => ?_, fun x hx => ?_, ?_⟩
  · rw [← h.same, List.map_set]
    apply List.ext_getElem (by simp)
    intro i h1 h2
    rw [List.getElem_set]
    split
    · next e => subst e; simp
    · rfl
  · have := row_set ((Turns.of_below (F := fun _ => False) hb (Nat.le_refl _)).row h.row (fun _ _ h => h)) (j := k * 8 + 2) (.slice bo ys[k].e.deps.length cp)
    rw [flatE_set ys k hk bo cp] at this
    exact this
  · rcases mem_set' hx with rfl | hx
    · have hy := h.ok _ (List.getElem_mem hk)
      exact EvOk.turned (x := ⟨ys[k].e, bo, cp⟩) ⟨hv, hy.io, hy.is, hy.ie, hy.iq, hy.hc, hy.hs⟩ hnew ht
    · exact ((h.ok x hx).below hb).turned (h.off x hx) ht
  · rcases mem_set' hx with rfl | hx
    · exact hnew
    · exact h.off x hx
  · exact (h.turn.trans (Turns.of_below (F := fun _ => False) hb (Nat.le_refl _)) (fun _ hf => hf.elim)).setCell (p := ⟨g, k * 8 + 2, none⟩) (.inl rfl) _
/-- What told leaves. -/
def Told (w : World) (B : Nat) (v : Value) (n : Nat) (xs : List EvM) (e : Ending) (w' : World) : Prop :=
  ∃ ys, e = .returned v ∧ ys.map (·.e) = xs.map (·.e) ∧ w'.ownsRow B 33 8 v n (flatE ys) ∧ AllOk w' ys ∧ Turns (fun i => v.ownBlock = some i) w w'
end Go.Proofs.Ytcammngbhnhjjaa
/-
  strings.Clone answers the same bytes; nothing that was there is written; condition: at most 2^47 bytes.
-/
namespace Go.Proofs.Ytcammngbhnhjjaa
open Go.RowKit


set_option maxRecDepth 100000 in
set_option maxHeartbeats 2000000 in
theorem strCloneLite_any (s : ByteArray) (w : World) (hlim : s.size ≤ 140737488355328) :
    Calls Try.prog 54 #[.string s] w fun e w' => e = .returned (.string s) ∧ Below w.heap.size w w' := by
  by_cases h0 : s.size = 0
  · obtain rfl : s = ⟨#[]⟩ := ByteArray.ext (Array.eq_empty_of_size_eq_zero h0)
    go_enter Try.func54, Try.ntmps54
    go_wp2
    go_ret
    exact ⟨rfl, Below.refl _ _⟩
  obtain ⟨i0, hi, hz0, hz1, hz2⟩ := info_parts Try.info5
  have hone : (Try.prog.info? 5).map (·.size) = some 1 := by rw [hi]; simp [hz1]
  have hcells : Try.prog.cellsOf 5 = 1 := by simp [Program.cellsOf, hi, hz1]
  obtain ⟨M, hM⟩ : ∃ M, M = madeCells (Value.int .u8 0).cells ((s.size : Int).toNat * i0.size) := ⟨_, rfl⟩
  have hmk : ∀ W : World, (Instr.makeSlice 67 (.int .i64 (s.size : Int)) (.int .i64 (s.size : Int))).run Try.prog W = .ok (.slice (some ⟨W.heap.size, 0, none⟩) s.size s.size) (W.alloc (.cells M 5)) := fun W => by
    have h := run_make (P := Try.prog) W 67 5 i0 (.int .u8 0) Try.underlying67 hi hz0 .i64 .i64 (s.size : Int) (s.size : Int) (by omega) (by omega) (by rw [hz2]; omega) (by omega)
    rw [← hM] at h
    simpa using h
  have hMs : M.size = s.size := by rw [hM, size_madeCells, hz1]; simp
  clear hM
  have hcp := Lib.run_copy_row_string (P := Try.prog) (w.alloc (.cells M 5)) 67 9 3 5 w.heap.size 0 s.size s.size s M 5 Try.underlying67 hone (heap_alloc_new w _) (Nat.le_refl _) (by omega)
  obtain ⟨Y, hY⟩ : ∃ Y, Y = (M.toList.take 0 ++ Lib.byteCells s.data.toList ++ M.toList.drop (0 + s.size)).toArray := ⟨_, rfl⟩
  rw [← hY] at hcp
  have hYl : Y.toList = Lib.byteCells s.data.toList := by rw [hY]; simp [List.drop_of_length_le (show M.toList.length ≤ s.size by simp; omega)]
  clear hY
  have hYs : Y.size = s.size := by rw [← Array.length_toList, hYl, Lib.byteCells_length, ← Lib.size_eq]
  have hgY : ((w.alloc (.cells M 5)).setRow w.heap.size Y).heap[w.heap.size]? = some (.cells Y 5 (0, 0)) := setRow_heap _ _ M _ 5 (0, 0) (heap_alloc_new w _)
  have hne : s.data.toList ≠ [] := fun e => h0 (by rw [Lib.size_eq, e]; rfl)
  have hUS := Lib.run_unsafeString_row (P := Try.prog) ((w.alloc (.cells M 5)).setRow w.heap.size Y) 94 3 9 5 Try.underlying94 hcells w.heap.size Y.size (by unfold World.shape?; rw [hgY]) s.data.toList hne (by rw [← Lib.size_eq]; omega) (by rw [← Lib.size_eq]; omega)
    (fun j x hx => Lib.cells_of_row hgY Y.size j _ (by rw [List.take_of_length_le (by rw [Array.length_toList]; exact Nat.le_refl _), hYl]; simp [Lib.byteCells, hx]))
  rw [← Lib.size_eq] at hUS
  go_enter Try.func54, Try.ntmps54
  go_wp2
  go_ret
  have hb2 : Below w.heap.size (w.alloc (.cells M 5)) ((w.alloc (.cells M 5)).setRow w.heap.size Y) := ⟨rfl, rfl, rfl, by simp, fun k hk => setRow_other _ _ _ _ (by omega)⟩
  exact ⟨rfl, Lib.below_freeze (((Below.refl _ w).alloc (Nat.le_refl _) _).trans hb2) (p := ⟨w.heap.size, 0, none⟩) (Nat.le_refl _) _⟩

theorem strClone_any (s : ByteArray) (w : World) (hlim : s.size ≤ 140737488355328) : Calls Try.prog 41 #[.string s] w fun e w' => e = .returned (.string s) ∧ Below w.heap.size w w' := by
  go_enter Try.func41, Try.ntmps41
  go_wp2_with fail
  refine (strCloneLite_any s _ hlim).mono ?_
  rintro e w' ⟨rfl, hb⟩
  go_wp2
  go_ret
  exact ⟨rfl, hb⟩
end Go.Proofs.Ytcammngbhnhjjaa
