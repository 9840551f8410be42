/-
  Package cart: told, Stand.
-/
import Derived.Test.YtkgfpnmifgifpaaCartN
import Derived.Test.YtkgfpnmifgifpaaCartA
import Derived.Deep.RegionHeld3
import Derived.Deep.QuietTactic
import Derived.BigQuiet
namespace Go.Proofs.Ytkgfpnmifgifpaa
open Go.RowKit Go.Maps

/-- append([]int(nil), x...): a new row that holds x's numbers. -/
theorem wpList_append_nil {ops : Array Oper} {rest : List Oper} {o : Oper} {a : Act} {Q : Exit → Act → World → Prop} (W : World) (hgd : o.guard = none) (s x : Operand)
    (ho : o.op = .call { callee := .builtin .append, args := #[s, x], argTypes := #[32, 32] })
    (hs : a.eval s = .slice none 0 0) (ao : Option Addr) (c : Nat) (xs : List Int) (n : Nat) (hn : xs.length = n) (hx : a.eval x = .slice ao n c) (hh : HeldInt W ao xs) (hl : xs.length ≤ 17592186044416)
    (h : ∀ bo cp w', HV w' bo cp xs → (∀ b off, bo = some ⟨b, off, none⟩ → W.heap.size ≤ b) → Below W.heap.size W w' → wpList Try.prog ops Q rest (a.put o.dst (.slice bo n cp)) w') :
    wpList Try.prog ops Q (o :: rest) a W := by
  subst hn
  obtain ⟨iI, hj, hy0, hy1, hy2⟩ := info_parts Try.infoInt
  have fin : ∀ (v' : Value) (w' : World), w'.ownsRow W.heap.size 3 1 v' xs.length (ints xs) → Below W.heap.size W w' → wpList Try.prog ops Q rest (a.put o.dst v') w' := by
    intro v' w' hown hb
    have hlt := hown.lt
    obtain ⟨eo, cap, rfl, hv⟩ := hv_of_own hown hh.1 hl
    exact h eo cap w' hv (fun b off e => (hlt b (by rw [e]; rfl)).1) hb
  cases ao with
  | none =>
    have hx0 : xs = [] := by
      rcases hh.2 with h0 | ⟨b, off, e, _⟩
      · exact h0
      · cases e
    subst hx0
    refine wpList_plain hgd fun K hK => ?_
    have hr := run_append_noneI (P := Try.prog) W W.heap.size 32 o.type 3 iI 1 Try.underlying32 hj _ 0 c _ (ownI_nil W W.heap.size)
    unfold Oper.wp execOp
    simp only [ho, resolve, invoke, builtin, Sem.run_bind, Sem.run_pure, Result.andThen_ok, List.map_toArray, List.map_cons, List.map_nil, hs, hx, List.length_nil, hr]
    exact hK _ _ (fin _ _ (ownI_nil W W.heap.size) (Below.refl _ _))
  | some ad =>
    have hnews : ∀ j u, (ints xs)[j]? = some u → W.cell? (ad.add j) = some u := by
      intro j u hu
      rcases hh.2 with h0 | ⟨b, off, e, _⟩
      · subst h0
        simp [ints] at hu
      · cases e
        exact hh.news j u hu
    refine wpList_append_own_at _ hgd s x 32 ho W.heap.size 3 iI (.int .i64 0) 1 8 Try.underlying32 hj hy0 hy1 hy2 rfl (by decide) _ 0 (ints []) hs (ownI_nil W W.heap.size) ad xs.length c (ints xs) hx (by rw [ints_len]; omega) hnews (ints_one xs) (by unfold maxLen; omega) (by omega) (Nat.le_refl _) ?_
    intro v' w' hown hgrow _ _
    exact fin v' w' (by simpa [ints] using hown) ((Below.refl _ _).grown hgrow (Nat.le_refl _) (fun k e => by cases e))
theorem row_set {w : World} {B e size g n cap : Nat} {xs : List Value} (h : w.ownsRow B e size (.slice (some ⟨g, 0, none⟩) n cap) n xs) {j : Nat} (u : Value) : (w.setCell ⟨g, j, none⟩ u).ownsRow B e size (.slice (some ⟨g, 0, none⟩) n cap) n (xs.set j u) := by
  refine ⟨by rw [List.length_set]; exact h.1, ?_⟩
  rcases h.2 with ⟨h0, _⟩ | ⟨g', cap', cur, he, hB, hg, hn, hm, hsz, htk⟩
  · cases h0
  · cases he
    have hb : Blk w g e cur.toList := hg
    refine .inr ⟨g, cap, (cur.toList.set j u).toArray, rfl, hB, hb.set j u, hn, hm, by simp [hsz], ?_⟩
    show (cur.toList.set j u).take (n * size) = xs.set j u
    rw [← htk, List.take_set]
theorem row_frozen {w : World} {B e size g n cap : Nat} {xs : List Value} (h : w.ownsRow B e size (.slice (some ⟨g, 0, none⟩) n cap) n xs) (j : Nat) : w.frozen? ⟨g, j, none⟩ = false := by
  rcases h.2 with ⟨h0, _⟩ | ⟨g', cap', cur, he, hB, hg, _⟩
  · cases h0
  · cases he
    exact (show Blk w g e cur.toList from hg).frozen j
theorem flatE_set : ∀ (xs : List EvM) (k : Nat) (hk : k < xs.length) (bo : Option Addr) (cp : Nat), (flatE xs).set (k * 8 + 2) (.slice bo xs[k].e.deps.length cp) = flatE (xs.set k ⟨xs[k].e, bo, cp⟩)
  | [], k, hk, _, _ => by cases hk
  | x :: r, 0, _, bo, cp => by simp [flatE, EvM.cells]
  | x :: r, k + 1, hk, bo, cp => by
    have := flatE_set r k (by simpa using hk) bo cp
    unfold flatE at this ⊢
    simp only [List.getElem_cons_succ, List.set_cons_succ, List.flatMap_cons]
    rw [← this, List.set_append, if_neg (show ¬ (k + 1) * 8 + 2 < x.cells.length by show ¬ _ < 8; omega), show (k + 1) * 8 + 2 - x.cells.length = k * 8 + 2 by show _ - 8 = _; omega]
/-- The vector of x does not lie in block g. -/
def EvOff (g : Nat) (x : EvM) : Prop := ∀ b off, x.ao = some ⟨b, off, none⟩ → x.e.deps ≠ [] → b ≠ g
theorem evOff_of {w : World} {x : EvM} (h : EvOk w x) {g : Nat} (hg : w.heap.size ≤ g) : EvOff g x := by
  intro b off ho hne
  rcases h.deps.held.2 with h0 | ⟨b', off', h1, h2, _⟩
  · exact absurd h0 hne
  · rw [ho] at h1
    cases h1
    omega
theorem EvOk.turned {w w' : World} {x : EvM} {g : Nat} (h : EvOk w x) (ho : EvOff g x) (ht : Turns (fun i => i = g) w w') : EvOk w' x :=
  ⟨⟨h.deps.held.turned ht ho, h.deps.room, h.deps.few⟩, h.io, h.is, h.ie, h.iq, h.hc, h.hs⟩
/-- While vectors are told anew. -/
structure Telling (w : World) (B g n cap : Nat) (xs : List EvM) (wr : World) (ys : List EvM) : Prop where
  same : ys.map (·.e) = xs.map (·.e)
  row : wr.ownsRow B 34 8 (.slice (some ⟨g, 0, none⟩) n cap) n (flatE ys)
  ok : AllOk wr ys
  off : ∀ y ∈ ys, EvOff g y
  turn : Turns (fun i => i = g) w wr
theorem mem_set' {xs : List EvM} {k : Nat} {a x : EvM} (h : x ∈ xs.set k a) : x = a ∨ x ∈ xs := by
  rcases List.mem_or_eq_of_mem_set h with h | h
  · exact .inr h
  · exact .inl h
theorem Telling.step {w wr w2 : World} {B g n cap : Nat} {xs ys : List EvM} (h : Telling w B g n cap xs wr ys) {k : Nat} (hk : k < ys.length) (hb : Below wr.heap.size wr w2) {bo : Option Addr} {cp : Nat} (hv : HV w2 bo cp ys[k].e.deps) (hbo : ∀ b off, bo = some ⟨b, off, none⟩ → wr.heap.size ≤ b) (hg : g < wr.heap.size) :
    Telling w B g n cap xs (w2.setCell ⟨g, k * 8 + 2, none⟩ (.slice bo ys[k].e.deps.length cp)) (ys.set k ⟨ys[k].e, bo, cp⟩) := by
  have ht : Turns (fun i => i = g) w2 (w2.setCell ⟨g, k * 8 + 2, none⟩ (.slice bo ys[k].e.deps.length cp)) := (Turns.refl (fun i => i = g) w2).setCell (p := ⟨g, k * 8 + 2, none⟩) (.inl rfl) _
  have hnew : EvOff g ⟨ys[k].e, bo, cp⟩ := fun b off e _ => by have := hbo b off e; omega
  refine ⟨?_, ?_, fun x hx => ?_, fun x hx => ?_, ?_⟩
  · rw [← h.same, List.map_set]
    apply List.ext_getElem (by simp)
    intro i h1 h2
    rw [List.getElem_set]
    split
    · next e => subst e; simp
    · rfl
  · have := row_set ((Turns.of_below (F := fun _ => False) hb (Nat.le_refl _)).row h.row (fun _ _ h => h)) (j := k * 8 + 2) (.slice bo ys[k].e.deps.length cp)
    rw [flatE_set ys k hk bo cp] at this
    exact this
  · rcases mem_set' hx with rfl | hx
    · have hy := h.ok _ (List.getElem_mem hk)
      exact EvOk.turned (x := ⟨ys[k].e, bo, cp⟩) ⟨hv, hy.io, hy.is, hy.ie, hy.iq, hy.hc, hy.hs⟩ hnew ht
    · exact ((h.ok x hx).below hb).turned (h.off x hx) ht
  · rcases mem_set' hx with rfl | hx
    · exact hnew
    · exact h.off x hx
  · exact (h.turn.trans (Turns.of_below (F := fun _ => False) hb (Nat.le_refl _)) (fun _ hf => hf.elim)).setCell (p := ⟨g, k * 8 + 2, none⟩) (.inl rfl) _
/-- What told leaves. -/
def Told (w : World) (B : Nat) (v : Value) (n : Nat) (xs : List EvM) (e : Ending) (w' : World) : Prop :=
  ∃ ys, e = .returned v ∧ ys.map (·.e) = xs.map (·.e) ∧ w'.ownsRow B 34 8 v n (flatE ys) ∧ AllOk w' ys ∧ Turns (fun i => v.ownBlock = some i) w w'
end Go.Proofs.Ytkgfpnmifgifpaa
/-
  The law's lives: what must come of every program.
-/
namespace Go.Proofs.Ytkgfpnmifgifpaa
open Go.RowKit Go.Maps

def bsC : ByteArray := { data := #[99] }
def bsTea : ByteArray := { data := #[116, 101, 97] }
def lv1 : Ev := ⟨0, 1, [], bsC, 0, bsTea, 2, false⟩
def lv2 : Ev := ⟨1, 1, [], bsC, 0, bsTea, 1, false⟩
def lv3 : Ev := ⟨0, 2, [1], bsC, 0, bsTea, 0, true⟩
theorem lv_stand : standOf [lv1, lv2, lv3] = [lv2, lv3] := by decide +kernel
theorem lv_count : countOf bsC [lv1, lv2, lv3] = [lv2, lv3] := by decide +kernel
theorem lv_lines {ls : List Ln} (h : LinesOf (linesQ bsC [lv1, lv2, lv3]) ls) : ls = [(bsTea, 1)] := by
  refine linesOf_unique h (g := fun s => if s = bsTea then 1 else 0) ⟨by simp, fun s q => ?_⟩ (fun s => ?_)
  · rw [List.mem_singleton, Prod.mk.injEq]
    constructor
    · rintro ⟨rfl, rfl⟩
      exact ⟨by decide, (if_pos rfl).symm⟩
    · rintro ⟨h1, h2⟩
      dsimp only at h2
      split at h2
      · next e => exact ⟨e, h2⟩
      · omega
  · unfold linesQ
    rw [lv_count]
    simp only [qtyOf, lv2, lv3]
    by_cases e : s = bsTea
    · subst e
      simp
    · simp [e, Ne.symm e]
def lvM (w : World) : List EvM := [⟨lv1, none, 0⟩, ⟨lv2, none, 0⟩, ⟨lv3, some ⟨w.heap.size, 0, none⟩, 1⟩]
set_option maxRecDepth 100000 in
theorem lv_held (w : World) : HeldE ((w.alloc (.cells #[.int .i64 1] 3)).alloc (.cells (flatE (lvM w)).toArray 34)) (some ⟨w.heap.size + 1, 0, none⟩) (lvM w) := by
  have hb := ((Blk.new w 3 [.int .i64 1]).alloc (.cells (flatE (lvM w)).toArray 34))
  have hb2 := Blk.new (w.alloc (.cells #[.int .i64 1] 3)) 34 (flatE (lvM w))
  rw [World.size_alloc] at hb2
  refine ⟨?_, .inr ⟨_, 0, rfl, hb2.lt, fun j hj c u hu => ?_⟩⟩
  · intro x hx
    simp [lvM] at hx
    rcases hx with rfl | rfl | rfl
    · exact ⟨hv_none _ 0, by unfold I64; decide, by unfold I64; decide, by unfold I64; decide, by unfold I64; decide, by decide, by decide⟩
    · exact ⟨hv_none _ 0, by unfold I64; decide, by unfold I64; decide, by unfold I64; decide, by unfold I64; decide, by decide, by decide⟩
    · refine ⟨⟨⟨fun x hx => ?_, .inr ⟨_, 0, rfl, hb.lt, fun j hj => ?_⟩⟩, (by decide : lv3.deps.length ≤ 1), (by decide : lv3.deps.length ≤ 17592186044416)⟩, (by unfold I64; decide : I64 lv3.o), (by unfold I64; decide : I64 lv3.s), (by unfold I64; decide : I64 lv3.epoch), (by unfold I64; decide : I64 lv3.qty), (by decide : lv3.cart.size ≤ maxLen), (by decide : lv3.sku.size ≤ maxLen)⟩
      · simp [lv3] at hx
        subst hx
        decide
      · obtain rfl : j = 0 := by simp [lv3] at hj; omega
        exact hb.cell rfl
  · rw [Nat.zero_add]
    exact hb2.cell (flatE_get _ j hj c u hu)
theorem lvM_e (w : World) : (lvM w).map (·.e) = [lv1, lv2, lv3] := rfl
theorem lv_standM (w : World) : (standM (lvM w)).length = 2 := by
  have := congrArg List.length (standM_e (lvM w))
  rw [lvM_e, lv_stand, List.length_map] at this
  exact this
end Go.Proofs.Ytkgfpnmifgifpaa
/-
  A new slice of events; what lines tell of an article; small numbers.
-/
namespace Go.Proofs.Ytkgfpnmifgifpaa
open Go.RowKit Go.Maps

/-- A new slice of events. -/
theorem held_new {V : World} {xs : List EvM} (h : AllOk V xs) : HeldE (V.alloc (.cells (flatE xs).toArray 34)) (some ⟨V.heap.size, 0, none⟩) xs := by
  have hb := Blk.new V 34 (flatE xs)
  refine ⟨h.below ((Below.refl _ _).alloc (Nat.le_refl _) _), .inr ⟨_, 0, rfl, hb.lt, fun j hj c u hu => ?_⟩⟩
  rw [Nat.zero_add]
  exact hb.cell (flatE_get _ j hj c u hu)
theorem linesQ_nonneg {c : ByteArray} {l : List Ev} (h : ∀ e ∈ l, 0 ≤ e.qty) (s : ByteArray) : 0 ≤ linesQ c l s :=
  qtyOf_nonneg fun e he => h e (by
    have h1 := firstsFrom_sub _ _ e he
    exact (ofCart_mem.1 (standOf_mem.1 h1).1).1)
/-- Lines, and of: how many of an article events have. -/
theorem linesOf_q {f : ByteArray → Int} {ls : List Ln} (h : LinesOf f ls) (hf : ∀ s, 0 ≤ f s) {s : ByteArray} {q : Int} (hq : f s = q) : ofL s ls = q := by rw [ofL_lines h hf, hq]
theorem i64_small {x : Int} (h0 : 0 ≤ x) (h1 : x ≤ 1000) : I64 x := by unfold I64; omega
end Go.Proofs.Ytkgfpnmifgifpaa
/-
  The law's SameEvent and right: has each dot one event, with a Qty that may be?
-/
namespace Go.Proofs.Ytkgfpnmifgifpaa
open Go.RowKit Go.Maps

/-- Has each dot one event, with a Qty that may be? -/
def RightL (l : List Ev) : Prop := (∀ e ∈ l, 0 ≤ e.qty ∧ e.qty ≤ 1000) ∧ OneEach l
def RightTo (xs : List EvM) (i : Nat) : Prop := ∀ a (ha : a < xs.length), a < i → (0 ≤ xs[a].e.qty ∧ xs[a].e.qty ≤ 1000) ∧ ∀ b (hb : b < xs.length), b < a → xs[b].e.o = xs[a].e.o → xs[b].e.s = xs[a].e.s → xs[b].e = xs[a].e
theorem right_all {xs : List EvM} {n : Nat} (hn : xs.length ≤ n) (h : RightTo xs n) : RightL (xs.map (·.e)) := by
  refine ⟨fun e he => ?_, fun e he f hf h1 h2 => ?_⟩
  · obtain ⟨x, hx, rfl⟩ := List.mem_map.1 he
    obtain ⟨a, ha, rfl⟩ := List.mem_iff_getElem.1 hx
    exact (h a ha (by omega)).1
  · obtain ⟨x, hx, rfl⟩ := List.mem_map.1 he
    obtain ⟨a, ha, rfl⟩ := List.mem_iff_getElem.1 hx
    obtain ⟨y, hy, rfl⟩ := List.mem_map.1 hf
    obtain ⟨b, hb, rfl⟩ := List.mem_iff_getElem.1 hy
    rcases Nat.lt_trichotomy a b with hlt | rfl | hlt
    · exact (h b hb (by omega)).2 a ha hlt h1 h2
    · rfl
    · exact ((h a ha (by omega)).2 b hb hlt h1.symm h2.symm).symm
theorem mem_e {xs : List EvM} {a : Nat} (ha : a < xs.length) : xs[a].e ∈ xs.map (·.e) := List.mem_map.2 ⟨_, List.getElem_mem ha, rfl⟩
/-- What right leaves. -/
def RightP (w : World) (l : List Ev) (e : Ending) (w' : World) : Prop := (∃ r, e = .returned (.bool r) ∧ (r = true ↔ RightL l)) ∧ Below w.heap.size w w'
end Go.Proofs.Ytkgfpnmifgifpaa
