/-
  Package dots: the calls of a nil set.
-/
import Derived.Test.YtjcoahcbdlpcpaaGreatDotsL
namespace Go.Proofs.YtjcoahcbdlpcpaaGreat
open Go.RowKit Go.Shelf Go.Maps
attribute [local go_sem] Oper.semAt_some

theorem items_nil (w : World) (g : Fn) (cb : Array Value) : Calls Tryz.prog 52 #[.pointer none, .func g #[] cb] w fun e w' => e = .returned (.slice none 0 0) ∧ Below w.heap.size w w' := by
  have HB : Hid (Below w.heap.size w (w.alloc (.cells #[.func g #[] cb] 61))) := (Below.refl _ _).alloc (Nat.le_refl _) _
  go_enter Tryz.func52, Tryz.ntmps52
  go_wp2_with fail
  refine (closedD_nil _).mono ?_
  rintro e w' ⟨rfl, rfl⟩
  go_wp2
  go_ret
  exact ⟨rfl, HB.out⟩
set_option maxRecDepth 100000 in
theorem those_nil_seq (n : Nat) (hn : 1 ≤ n) (q0 q1 : Nat) (g : Fn) (cb : Array Value) (V : World) (h0 : Boxed V q0 25 (.pointer none)) (h1 : Boxed V q1 61 (.func g #[] cb)) :
    SeqStopsK Fence.wide n Tryz.prog 51 #[.pointer (some ⟨q0, 0, none⟩), .pointer (some ⟨q1, 0, none⟩)] (fun x : (Int × Int) × Value => #[dotV x.1, x.2]) KeepsWalks (fun ys => ys = []) (fun _ => True) 0 V := by
  intro l J Jx W hW hJ hJx hY hj
  have hb0 : Boxed W q0 25 (.pointer none) := (hW.block _ h0.lt).trans h0
  have hb1 : Boxed W q1 61 (.func g #[] cb) := (hW.block _ h1.lt).trans h1
  have hc0 := hb0.cell
  have hc1 := hb1.cell
  have HJ := hid hJ
  clear hW hJx hY hb0 hb1 h0 h1 hJ
  change CallsIn Fence.wide n Tryz.prog 51 #[.func (.yield l) #[] #[], .pointer (some ⟨q0, 0, none⟩), .pointer (some ⟨q1, 0, none⟩)] W _
  refine callsIn_of_wp Tryz.func51 rfl trivial ?_ rfl
  simp only [Tryz.ntmps51, List.size_toArray, List.length_cons, List.length_nil, Nat.reduceAdd, Nat.reduceSub, Array.replicate_succ, Array.replicate_zero, List.push_toArray, List.append_toArray, List.nil_append, List.cons_append]
  gi_wp2_with fail
  refine ⟨trivial, (callsIn_wide.2 (items_nil W g cb)).mono ?_⟩
  rintro e w2 ⟨rfl, hb⟩
  have HJ2 := hid (HJ.out [] W w2 none hj ⟨hb.os, hb.tape, hb.output, hb.size, fun k hk _ => hb.block k hk⟩ (fun r e => by cases e))
  clear hb
  gi_wp2
  refine wpIn_loop_rounds 1 ?_
  rw [roundsIn_succ]
  gi_wp2
  refine bodyPost_end (results_none rfl _ _ _) rfl ?_
  exact ⟨⟨_, rfl⟩, .inl ⟨[], rfl, HJ2.out⟩⟩
end Go.Proofs.YtjcoahcbdlpcpaaGreat
/-
  Package dots: Missing.
-/
namespace Go.Proofs.YtjcoahcbdlpcpaaGreat
open Go.RowKit Go.Shelf Go.Maps
attribute [local go_sem] Oper.semAt_some

/-- The dots that are not there. -/
def notIn (S : Int → Int → Option Value) (ds : List (Int × Int)) : List (Int × Int) := ds.filter fun d => !(S d.1 d.2).isSome
theorem notIn_snoc (S : Int → Int → Option Value) (ds : List (Int × Int)) (x : Int × Int) : notIn S (ds ++ [x]) = notIn S ds ++ (if (S x.1 x.2).isSome then [] else [x]) := by
  unfold notIn
  rw [List.filter_append]
  cases h : S x.1 x.2 <;> simp [h]
theorem notIn_pre {S : Int → Int → Option Value} {a b : List (Int × Int)} (h : a <+: b) : notIn S a <+: notIn S b := by
  obtain ⟨r, rfl⟩ := h
  unfold notIn
  rw [List.filter_append]
  exact List.prefix_append _ _
def missOf (S : Int → Int → Option Value) (R : Nat → List Value) (v : List Int) : List (Int × Int) := (notIn S (dotsAll (plainOf (lensOf R)) v)).take 4096
def AnsM (w : World) (ds : List (Int × Int)) (e : Ending) (w' : World) : Prop := ∃ eo cap, e = .returned (.slice eo ds.length cap) ∧ w'.ownsRow w.heap.size 31 2 (.slice eo ds.length cap) ds.length (flatD ds) ∧ Below w.heap.size w w'
/-- Between two rounds: the box at B1 holds the row of what is missing so far. -/
def Miss (Rw : World) (B1 : Nat) (S : Int → Int → Option Value) (pre : List (Int × Int)) (W : World) : Prop :=
  (notIn S pre).length ≤ 4096 ∧ ∃ eo cap, Boxed W B1 42 (.slice eo (notIn S pre).length cap) ∧ W.ownsRow Rw.heap.size 31 2 (.slice eo (notIn S pre).length cap) (notIn S pre).length (flatD (notIn S pre)) ∧ Below B1 Rw W ∧ Like Rw (B1 + 1) Rw.heap.size W ∧ Rw.heap.size ≤ W.heap.size
/-- .. broken off. -/
def MissX (kb : Nat) (Rw : World) (B1 : Nat) (S : Int → Int → Option Value) (c : Code) (pre : List (Int × Int)) (W : World) : Prop := c = .exit kb ∧ ∃ pre0 x, pre = pre0 ++ [x] ∧ (notIn S pre0).length = 4096 ∧ Miss Rw B1 S pre0 W
theorem MissX.mk {kb : Nat} {Rw : World} {B1 : Nat} {S : Int → Int → Option Value} {pre : List (Int × Int)} {x : Int × Int} {W : World} (h1 : (notIn S pre).length = 4096) (h2 : Miss Rw B1 S pre W) : MissX kb Rw B1 S (.exit kb) (pre ++ [x]) W := ⟨rfl, pre, x, rfl, h1, h2⟩
theorem row_own {W W' : World} {B e size n : Nat} {v : Value} {xs : List Value} {row : Option Nat} (h : W.ownsRow B e size v n xs) (hg : W.grownBy W' row) (hr : ∀ r, row = some r → ∃ o : Obj, W.heap[r]? = some o ∧ o.isCells = false) : W'.ownsRow B e size v n xs := by
  refine (Turns.of_grown (F := fun i => row = some i) hg (fun _ h => h)).row h (fun g hgb e => ?_)
  obtain ⟨o, ho, hc⟩ := hr g e
  rcases h.2 with ⟨h0, _⟩ | ⟨g', c', cur, h0, _, hb, _⟩
  · rw [h0] at hgb
    simp [Value.ownBlock] at hgb
  · rw [h0] at hgb
    have : g' = g := by simpa [Value.ownBlock] using hgb
    subst this
    rw [hb] at ho
    cases ho
    cases hc
theorem box_own {W W' : World} {B : Nat} {t : TypeId} {v : Value} {row : Option Nat} (h : Boxed W B t v) (hg : W.grownBy W' row) (hr : ∀ r, row = some r → ∃ o : Obj, W.heap[r]? = some o ∧ o.isCells = false) : Boxed W' B t v := h.kept hg (fun e => by
  obtain ⟨o, ho, hc⟩ := hr B e.symm
  have h' : W.heap[B]? = some (.cells #[v] t (0, 0)) := h
  rw [h'] at ho
  cases ho
  cases hc)
theorem miss_own (Rw : World) (B1 : Nat) (hB : B1 ≤ Rw.heap.size) (S : Int → Int → Option Value) : OwnFrom Rw.heap.size (Miss Rw B1 S) := fun _ W W' row ⟨h0, eo, cap, h1, h2, h3, h4, h5⟩ hg hr =>
  ⟨h0, eo, cap, box_own h1 hg (fun r e => (hr r e).2), row_own h2 hg (fun r e => (hr r e).2), h3.grown hg (Nat.le_trans hB h3.size) (fun k e => Nat.le_trans hB (hr k e).1), ownFrom_like (β := Unit) (Nat.le_refl _) () W W' row h4 hg hr, Nat.le_trans h5 hg.size⟩
theorem miss_below {Rw W W' : World} {B1 : Nat} {S : Int → Int → Option Value} {pre : List (Int × Int)} (h : Miss Rw B1 S pre W) (hb : Below W.heap.size W W') (hB : B1 ≤ Rw.heap.size) : Miss Rw B1 S pre W' := by
  obtain ⟨h0, eo, cap, h1, h2, h3, h4, h5⟩ := h
  exact ⟨h0, eo, cap, (hb.block _ h1.lt).trans h1, (Turns.of_below (F := fun _ => False) hb (Nat.le_refl _)).row h2 (fun _ _ h => h), h3.trans (hb.mono (by omega)), fun k a b => (hb.block k (by omega)).trans (h4 k a b), Nat.le_trans h5 hb.size⟩
theorem row_base {w : World} {B C e size n : Nat} {v : Value} {xs : List Value} (h : w.ownsRow B e size v n xs) (hC : C ≤ B) : w.ownsRow C e size v n xs := by
  refine ⟨h.1, ?_⟩
  rcases h.2 with h0 | ⟨g, cap, cur, e, hb, r⟩
  · exact .inl h0
  · exact .inr ⟨g, cap, cur, e, by omega, r⟩
section
variable {w : World} {p m N : Nat} {rs : Nat → Value} {R : Nat → List Value} {D : DataW Value} {S : Int → Int → Option Value}
end
end Go.Proofs.YtjcoahcbdlpcpaaGreat
