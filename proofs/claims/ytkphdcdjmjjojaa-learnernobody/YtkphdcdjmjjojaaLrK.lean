/-
  Package learner: From of a nil learner yields nothing; a range over what yields nothing.
-/
import Derived.Test.YtkphdcdjmjjojaaLrI
import Derived.Test.YtkphdcdjmjjojaaSlotOpen
import Derived.RangeFuncNested
import Derived.RangeFuncKeeps
import Derived.RangeFuncBox
import Derived.RangeFuncLeaves
import Derived.RangeFuncSeq
import Derived.RangeFuncCalls
import Derived.RangeFuncBound
import Derived.Sort.QuietIn
namespace Go.Proofs.Ytkphdcdjmjjojaa
open Go.RowKit Go.Shelf Go.Maps
attribute [local go_sem] Oper.semAt_some

/-- What yields nothing. -/
def noEncsR : Empty → Array Value := fun x => nomatch x
/-- A range over an iterator that yields nothing. -/
theorem wpIn_rangeFunc_noR {F : Fence} {n : Nat} {P : Program} {g : Operand} {ps : Array Tmp} {assign body : Code} {Q : Exit → Act → World → Prop} {a : Act} {w : World}
    (hro : F.round = none) (h1 : 1 ≤ n) {gf : Nat} {lb : Array Value} (hg : a.eval g = .func (.func gf) #[] lb) (hFg : F.fn gf) (eg : ∀ args w, (callFunc gf args).run P w = .ok (.enter gf args) w)
    {Sp : List Empty → Prop} (hseq : SeqStopsK F (n - 1) P gf lb noEncsR KeepsWalks (fun ys => ys = []) Sp 0 w)
    (hafter : ∀ (D : Nat) (W : World), w.heap.size ≤ D → Below w.heap.size w W → W.heap[D]? = some (.deferred (some [])) → Q .normal { a with defers := { target := .collected D, args := #[] } :: a.defers } W) :
    (Code.rangeFunc g ps assign body).wpIn F n P Q a w :=
  wpIn_rangeFunc_ownG hro h1 hg hFg eg hseq (fun h k => walksK_t h k) (fun W l o o' hl ho hc hw => walksK_b (w := w) W l o o' hl ho hc hw) (Below.refl _ _) (fun x => nomatch x) (fun _ W => Below w.heap.size w W) (fun _ _ _ => False)
    (ownFrom_below (Nat.le_refl _) (Nat.le_refl _)) (fun _ _ _ _ _ h _ _ => h) (Below.refl _ _) (fun x => nomatch x) (fun _ x => nomatch x) (fun _ _ x => nomatch x) (fun D _ W hD _ hI hd => hafter D W hD hI hd) (fun _ _ _ _ _ _ h _ => h.elim)
theorem from_boxes (w : World) (q : Option Addr) (s : Int) {W : World} (hW : W = (w.alloc (.cells #[.pointer q] 23)).alloc (.cells #[.int .i64 s] 3)) : Boxed W w.heap.size 23 (.pointer q) ∧ Boxed W (w.heap.size + 1) 3 (.int .i64 s) ∧ Below w.heap.size w W := by
  subst hW
  refine ⟨(Boxed.new w 23 (.pointer q)).alloc _, ?_, ((Below.refl _ w).alloc (Nat.le_refl _) _).alloc (by simp) _⟩
  have := Boxed.new (w.alloc (.cells #[.pointer q] 23)) 3 (.int .i64 s)
  rw [World.size_alloc] at this
  exact this
set_option maxRecDepth 100000 in
theorem from_nil_seq (n : Nat) (hn : 1 ≤ n) (q0 q1 : Nat) (s : Int) (V : World) (h0 : Boxed V q0 23 (.pointer none)) (h1 : Boxed V q1 3 (.int .i64 s)) :
    SeqStopsK Fence.wide n Try.prog 35 #[.pointer (some ⟨q0, 0, none⟩), .pointer (some ⟨q1, 0, none⟩)] noEncsR KeepsWalks (fun ys => ys = []) (fun _ => True) 0 V := by
  intro l J Jx W hW hJ hJx hY hj
  have hb0 : Boxed W q0 23 (.pointer none) := (hW.block _ h0.lt).trans h0
  have hb1 : Boxed W q1 3 (.int .i64 s) := (hW.block _ h1.lt).trans h1
  have hc0 := hb0.cell
  have hc1 := hb1.cell
  have HJ := hid hJ
  clear hW hJx hY hb0 hb1 h0 h1 hJ
  change CallsIn Fence.wide n Try.prog 35 #[.func (.yield l) #[] #[], .pointer (some ⟨q0, 0, none⟩), .pointer (some ⟨q1, 0, none⟩)] W _
  refine callsIn_of_wp Try.func35 rfl trivial ?_ rfl
  simp only [Try.ntmps35, List.size_toArray, List.length_cons, List.length_nil, Nat.reduceAdd, Nat.reduceSub, Array.replicate_succ, Array.replicate_zero, List.push_toArray, List.append_toArray, List.nil_append, List.cons_append]
  gi_wp2_with fail
  refine ⟨trivial, (callsIn_wide.2 (prefixR_nil _)).mono ?_⟩
  rintro e w2 ⟨rfl, rfl⟩
  obtain ⟨k, hk⟩ : ∃ k : Nat, max s 0 = (k : Int) := ⟨(max s 0).toNat, by omega⟩
  gi_wp2
  have HC0 := hid hc0
  have HC1 := hid hc1
  clear hc0 hc1 hk
  gi_loopw [5] (fun i wr => i = .int .i64 (k : Int) ∧ wr = w2) (fun _ _ => 0)
  case atStart => exact ⟨rfl, rfl⟩
  case round =>
    obtain ⟨rfl, rfl⟩ := hrel
    have hlt : ¬ (k : Int) < 0 := by omega
    gi_wp2
    refine bodyPost_end (results_none rfl _ _ _) rfl ?_
    exact ⟨⟨_, rfl⟩, .inl hj⟩


theorem infoBR : (Try.prog.info? 4).map (fun i => (i.zero, i.size, i.bytes)) = some (some (.bool false), 1, 1) := by kernel_rfl
theorem results_cellR {fn : Func} {t : Tmp} (h : fn.results = #[.cell t 4]) (tmps : Array Value) (w : World) {B : Nat} {v : Value} (hp : tmps.getD t undef = .pointer (some ⟨B, 0, none⟩)) (hc : w.cell? ⟨B, 0, none⟩ = some v) :
    (results fn tmps).run Try.prog w = .ok v w := by
  obtain ⟨i, hi, _, hs, _⟩ := info_parts infoBR
  have hp' : tmps[t]?.getD undef = .pointer (some ⟨B, 0, none⟩) := by simpa using hp
  simp [results, h, hp', hc, go_sem]
end Go.Proofs.Ytkphdcdjmjjojaa
