/-
  A row of ballots in memory, and append of one. No function of the program is named here.
-/
import Derived.Test.YtdceenejijigdaaBalG
namespace Go.Proofs.Ytdceenejijigdaa
open Go.RowKit Go.Maps

abbrev balCells (x : Int × Int) : List Value := [.int .i64 x.1, .int .i64 x.2]
def flatBal (xs : List (Int × Int)) : List Value := xs.flatMap balCells
theorem flatBal_snoc (xs : List (Int × Int)) (x : Int × Int) : flatBal (xs ++ [x]) = flatBal xs ++ balCells x := by simp [flatBal]
theorem flatBal_get : ∀ (xs : List (Int × Int)) (j : Nat) (hj : j < xs.length) (c : Nat) (u : Value), (balCells xs[j])[c]? = some u → (flatBal xs)[j * 2 + c]? = some u
  | [], j, hj, _, _, _ => by cases hj
  | x :: r, 0, _, c, u, h => by
    simp only [List.getElem_cons_zero] at h
    have hc : c < 2 := (List.getElem?_eq_some_iff.1 h).1
    unfold flatBal
    rw [List.flatMap_cons, Nat.zero_mul, Nat.zero_add, List.getElem?_append_left (show c < 2 from hc)]
    exact h
  | x :: r, j + 1, hj, c, u, h => by
    simp only [List.getElem_cons_succ] at h
    have := flatBal_get r j (by simpa using hj) c u h
    unfold flatBal at this ⊢
    rw [List.flatMap_cons, List.getElem?_append_right (show (balCells x).length ≤ _ by show 2 ≤ _; omega)]
    rw [show (j + 1) * 2 + c - (balCells x).length = j * 2 + c by show _ - 2 = _; omega]
    exact this
theorem Try.infoBal : (Try.prog.info? 23).map (fun i => (i.zero, i.size, i.bytes)) = some (some (.agg #[.int .i64 0, .int .i64 0]), 2, 16) := by kernel_rfl
theorem bal_one (x : Int × Int) : ∀ u ∈ balCells x, u.oneCell' = true := by
  intro u hu
  simp [balCells] at hu
  rcases hu with rfl | rfl <;> rfl
/-- append(out, x). -/
theorem wpList_append_bal {ops : Array Oper} {rest : List Oper} {o : Oper} {a : Act} {Q : Exit → Act → World → Prop} (W0 W : World) (x : Int × Int) (hW : W = W0.alloc (.cells (balCells x).toArray 23)) (hgd : o.guard = none) (s xx : Operand)
    (ho : o.op = .call { callee := .builtin .append, args := #[s, xx], argTypes := #[52, 52] }) (B : Nat) (v : Value) (ds : List (Int × Int)) (n : Nat)
    (hs : a.eval s = v) (hx : a.eval xx = .slice (some ⟨W0.heap.size, 0, none⟩) 1 1) (hown : W0.ownsRow B 23 2 v n (flatBal ds)) (hB : B ≤ W0.heap.size) (hl : n < 1466015503701)
    (h : ∀ v' w', w'.ownsRow B 23 2 v' (n + 1) (flatBal (ds ++ [x])) → Below B W0 w' → wpList Try.prog ops Q rest (a.put o.dst v') w') :
    wpList Try.prog ops Q (o :: rest) a W := by
  subst hW
  obtain ⟨iI, hj, hy0, hy1, hy2⟩ := info_parts Try.infoBal
  have hnb := Blk.new W0 23 (balCells x)
  refine wpList_append_own_at _ hgd s xx 52 ho B 23 iI _ 2 16 Try.underlying52 hj hy0 hy1 hy2 rfl (by decide) v n (flatBal ds) hs (hown.alloc _) ⟨W0.heap.size, 0, none⟩ 1 1 (balCells x) hx rfl (fun j u hu => ?_) (bal_one x) (by unfold maxLen; omega) (by omega) (by simp; omega) ?_
  · rw [Addr.add_lit, Nat.zero_add]
    exact hnb.cell hu
  · intro v' w' hown' hgrow _ _
    refine h v' w' ?_ (((Below.refl _ _).alloc hB _).grown hgrow (by simp; omega) (fun k hk => (hown.lt k hk).1))
    rw [flatBal_snoc]
    exact hown'
theorem ownBal_new (w : World) (x : Int × Int) : (w.alloc (.cells (balCells x).toArray 23)).ownsRow w.heap.size 23 2 (.slice (some ⟨w.heap.size, 0, none⟩) 1 1) 1 (flatBal [x]) :=
  ⟨rfl, .inr ⟨w.heap.size, 1, (balCells x).toArray, rfl, Nat.le_refl _, World.alloc_heap_new w _, Nat.le_refl _, by decide, rfl, rfl⟩⟩
/-- A row of ballots, each above those ahead of it. -/
structure ChainB (w : World) (v : Value) (l : List (Int × Int)) (wr : World) : Prop where
  row : wr.ownsRow w.heap.size 23 2 v l.length (flatBal l)
  some : 0 < l.length
  up : l.Pairwise LtB
  bel : Below w.heap.size w wr
theorem ChainB.last_up {l : List (Int × Int)} (h : l.Pairwise LtB) (hl : 0 < l.length) {x : Int × Int} (hx : LtB (l[l.length - 1]'(by omega)) x) : ∀ j (hj : j < l.length), LtB l[j] x := by
  intro j hj
  by_cases hjl : j = l.length - 1
  · subst hjl; exact hx
  · exact (List.pairwise_iff_getElem.1 h j (l.length - 1) hj (by omega) (by omega)).trans hx
theorem ChainB.cells {w : World} {v : Value} {l : List (Int × Int)} {wr : World} (h : ChainB w v l wr) : ∃ g cap, v = .slice (Option.some ⟨g, 0, none⟩) l.length cap ∧ w.heap.size ≤ g ∧ g < wr.heap.size ∧ ∀ j (hj : j < l.length), wr.cell? ⟨g, j * 2, none⟩ = Option.some (.int .i64 l[j].1) ∧ wr.cell? ⟨g, j * 2 + 1, none⟩ = Option.some (.int .i64 l[j].2) := by
  obtain ⟨eo, cap, hv, _, hc⟩ := own_form8 h.row
  obtain ⟨g, rfl, h1, h2, h3⟩ := hc h.some
  exact ⟨g, cap, hv, h1, h2, fun j hj => ⟨h3 _ _ (flatBal_get l j hj 0 _ rfl), h3 _ _ (flatBal_get l j hj 1 _ rfl)⟩⟩
theorem wrapIB {x : Int} (h0 : -9223372036854775808 ≤ x) (h1 : x ≤ 9223372036854775807) : IntKind.i64.wrap x = x := by
  rw [IntKind.wrap_i64]
  omega
theorem zeroBal {V U : World} (hb : Below ((V.alloc (.cells #[.int .i64 0, .int .i64 0] 23)).drew).heap.size ((V.alloc (.cells #[.int .i64 0, .int .i64 0] 23)).drew) U) : Blk U V.heap.size 23 [.int .i64 0, .int .i64 0] :=
  Blk.below (Blk.drew (Blk.new V 23 [.int .i64 0, .int .i64 0])) hb (Blk.lt (Blk.drew (Blk.new V 23 [.int .i64 0, .int .i64 0])))
/-- V lies behind W: what was there is as it was. -/
structure ScB (W V : World) : Prop where
  out : Below W.heap.size W V
theorem ScB.start (W : World) : ScB W W := ⟨Below.refl _ _⟩
theorem ScB.go {W V U : World} (h : ScB W V) (hb : Below V.heap.size V U) : ScB W U := ⟨bt' h.out hb⟩
theorem ScB.dr {W V : World} (h : ScB W V) : ScB W V.drew := ⟨below_dn h.out 1⟩
theorem ScB.alloc {W V : World} (h : ScB W V) (o : Obj) : ScB W (V.alloc o) := ⟨h.out.alloc h.out.size _⟩
theorem ScB.setCell {W V : World} (h : ScB W V) {q : Addr} (hq : W.heap.size ≤ q.block) (u : Value) : ScB W (V.setCell q u) := ⟨h.out.setCell hq u⟩
end Go.Proofs.Ytdceenejijigdaa
