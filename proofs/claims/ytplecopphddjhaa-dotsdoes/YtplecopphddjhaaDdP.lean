/-
  A range over an iterator that yields what it has just made, its variable in a box (as in LogQ; here with no log about it).
-/
import Derived.Test.YtplecopphddjhaaSeqN
import Derived.Test.YtplecopphddjhaaDotsR
import Derived.Test.YtplecopphddjhaaDdA
import Derived.Test.YtplecopphddjhaaRoundQuiet
import Derived.Sort.CutIn
namespace Go.Proofs.Ytplecopphddjhaa
open Go.RowKit Go.Shelf Go.Maps
attribute [local go_sem] Oper.semAt_some

/-- A range whose variable lies in a box of its own. -/
theorem wpIn_rangeFunc_Gc {F : Fence} {n : Nat} {P : Program} {α : Type} {g : Operand} {ps : Array Tmp} {assign body : Code} {Q : Exit → Act → World → Prop} {a : Act} {w : World}
    (hro : F.round = none) (h1 : 1 ≤ n) {gf : Nat} {lb : Array Value} (hg : a.eval g = .func (.func gf) #[] lb) (hFg : F.fn gf) (eg : ∀ args w, (callFunc gf args).run P w = .ok (.enter gf args) w)
    {encs : α → Array Value} {Kp : World → World → Prop} {G : List α → α → World → Prop} {S Sp : List α → Prop} (hseq : ∀ r, SeqAt F (n - 1) P (w.heap.size + 1) gf lb encs Kp G S Sp ((w.alloc (.deferred (some []))).alloc (.loop r)))
    (hKt : ∀ {A B C : World}, Kp A B → Kp B C → Kp A C) (hKb : ∀ (V : World) (r r' : Loop), V.heap[w.heap.size + 1]? = some (.loop r) → Kp V (V.putObj (w.heap.size + 1) (.loop r'))) (hps : ∀ x, (encs x).size = ps.size)
    (I : List α → World → Prop) (Ix : Code → List α → World → Prop) (hI : OwnFrom w.heap.size I) (hIx : ∀ c, OwnFrom w.heap.size (Ix c)) (h0 : I [] w) (X : List α → α → World → Prop) (hX : ∀ pre x, OwnFrom w.heap.size (fun (_ : Unit) V => X pre x V)) (Bx : α → List Value) (t : TypeId) (A : α → Nat → Act)
    (hassign : ∀ (l : Nat) (pre : List α) (x : α) (V : World) (K : Act → World → Prop), w.heap.size + 1 < V.heap.size → I pre V → G pre x V → (∀ gg V', KeptAs w.heap.size V V' → Kp V V' → I pre V' → X pre x V' → Blk V' gg t (Bx x) → w.heap.size ≤ gg → K (A x gg) V') →
      assign.wpIn (F.inRound l) (n - 1 - 1) P (Exit.then K (fun _ _ _ => False)) { tmps := (ps.zip (encs x)).foldl (fun t (p, v) => t.setIfInBounds p v) a.tmps, defers := [] } V)
    (hbody : ∀ (l : Nat) (pre : List α) (x : α) (gg : Nat) (V : World), (∃ r, Kept w.heap.size r V) → I pre V → X pre x V → Blk V gg t (Bx x) → w.heap.size ≤ gg → body.wpIn (F.inRound l) (n - 1 - 1) P (roundG w.heap.size Kp I Ix (pre ++ [x]) V) (A x gg) V)
    (hdone : ∀ (D : Nat) (xs : List α) (V : World), w.heap.size ≤ D → S xs → I xs V → V.heap[D]? = some (.deferred (some [])) → Q .normal { a with defers := { target := .collected D, args := #[] } :: a.defers } V)
    (hstop : ∀ (D : Nat) (c : Code) (pre : List α) (V : World), w.heap.size ≤ D → Sp pre → Ix c pre V → V.heap[D]? = some (.deferred (some [])) → c.wpIn F n P Q { a with defers := { target := .collected D, args := #[] } :: a.defers } V) :
    (Code.rangeFunc g ps assign body).wpIn F n P Q a w :=
  wpIn_rangeFunc_G hro h1 hg hFg eg hseq (fun h k => hKt h k) hKb hps I Ix hI hIx h0 (fun pre x a' V => ∃ gg, a' = A x gg ∧ X pre x V ∧ Blk V gg t (Bx x) ∧ w.heap.size ≤ gg)
    (fun pre x a' _ V V' row ⟨gg, e, hx, hb, hl⟩ hg hr => ⟨gg, e, hX pre x () V V' row hx hg hr, blk_own2 () V V' row hb hg hr, hl⟩)
    (fun l pre x V K hlt hi hG hK => hassign l pre x V K hlt hi hG (fun gg V' h1 h2 h3 h4 h5 h6 => hK _ V' h1 h2 h3 ⟨gg, rfl, h4, h5, h6⟩))
    (fun l pre x a' V _ hr hi ⟨gg, e, hx, hb, hl⟩ => by subst e; exact hbody l pre x gg V hr hi hx hb hl) hdone hstop
end Go.Proofs.Ytplecopphddjhaa
/-
  Package dots: the iterator of All and Upto: each item with a word about it.
-/
namespace Go.Proofs.Ytplecopphddjhaa
open Go.RowKit Go.Shelf Go.Maps
attribute [local go_sem] Oper.semAt_some

/-- Two rows that rise and have the same are the same. -/
theorem rising_eq {α : Type} (lt : α → α → Prop) (has : ∀ x y, lt x y → lt y x → False) : ∀ (l m : List α), l.Pairwise lt → m.Pairwise lt → (∀ x, x ∈ l ↔ x ∈ m) → l = m
  | [], m, _, _, h => by
    cases m with
    | nil => rfl
    | cons y r => exact absurd ((h y).2 (List.mem_cons_self ..)) (by simp)
  | x :: l, m, h1, h2, h => by
    cases m with
    | nil => exact absurd ((h x).1 (List.mem_cons_self ..)) (by simp)
    | cons y r =>
      rw [List.pairwise_cons] at h1 h2
      have hxy : x = y := by
        rcases List.mem_cons.1 ((h x).1 (List.mem_cons_self ..)) with e | e
        · exact e
        · rcases List.mem_cons.1 ((h y).2 (List.mem_cons_self ..)) with e' | e'
          · exact e'.symm
          · exact (has _ _ (h1.1 y e') (h2.1 x e)).elim
      subst hxy
      refine congrArg _ (rising_eq lt has l r h1.2 h2.2 fun z => ⟨fun hz => ?_, fun hz => ?_⟩)
      · rcases List.mem_cons.1 ((h z).1 (List.mem_cons_of_mem _ hz)) with e | e
        · have h3 := h1.1 z hz
          rw [e] at h3
          exact (has _ _ h3 h3).elim
        · exact e
      · rcases List.mem_cons.1 ((h z).2 (List.mem_cons_of_mem _ hz)) with e | e
        · have h3 := h2.1 z hz
          rw [e] at h3
          exact (has _ _ h3 h3).elim
        · exact e
theorem cmpD_asym (x y : Int × Int) (h : cmpD x y < 0) (k : cmpD y x < 0) : False := by
  rw [cmpD_lt] at h k
  omega
theorem its_unique {S : Int → Int → Option Value} {f : Int → Int → Bool} {a b : List It} (h : ItsOf S f a) (k : ItsOf S f b) : a = b := by
  refine rising_eq (fun x y : It => cmpD x.1 y.1 < 0) ?_ a b h.1 k.1 ?_
  · intro x y h1 h2
    exact cmpD_asym x.1 y.1 h1 h2
  · rintro ⟨⟨o, s⟩, t⟩
    exact (h.2 o s t).trans (k.2 o s t).symm
/-- The item that comes behind these. -/
def ItemI (its pr : List It) (x : It) : Prop := ∃ h : pr.length < its.length, x = its[pr.length] ∧ pr = its.take pr.length
section
variable {p m N : Nat} {rs : Nat → Value} {R : Nat → List Value} {D : DataW Value} {S : Int → Int → Option Value}
set_option maxRecDepth 100000 in
set_option maxHeartbeats 2000000 in
theorem those_inG (n : Nat) (hn : 1 ≤ n) (l q0 q1 : Nat) (Kp : World → World → Prop) {W : World} (hKf : ∀ {A B : World}, Kp A B → Turns (fun k => k < W.heap.size) A B) {its : List It} {fv : Value} {f : Int → Int → Bool} (hits : ItsOf S f its) (J Jx : List It → World → Prop) (hJ : OwnFrom W.heap.size J)
    (hY : ∀ pr x V, J pr V → ItemI its pr x → YieldAt Fence.wide (n - 1) Try.prog l #[dotV x.1, .string x.2] V fun e V' =>
      (e = .returned (.bool true) ∧ J (pr ++ [x]) V' ∧ Kp V V') ∨ (e = .returned (.bool false) ∧ Jx (pr ++ [x]) V'))
    (hP : DotsPre W p rs R m D S N) (hw : Want W fv f) (b0 : Boxed W q0 26 (.pointer (some ⟨p, 0, none⟩))) (b1 : Boxed W q1 53 fv) (h0 : J [] W) :
    CallsIn Fence.wide n Try.prog 46 #[.func (.yield l) #[] #[], .pointer (some ⟨q0, 0, none⟩), .pointer (some ⟨q1, 0, none⟩)] W fun e W' => (∃ v, e = .returned v) ∧
      ((∃ ys, ys = its ∧ J ys W') ∨ (∃ pr, Jx pr W')) := by
  have HJ := hid hJ
  have HY := hid hY
  have HKF : Hid (∀ A B : World, Kp A B → Turns (fun k => k < W.heap.size) A B) := fun A B h => hKf h
  have H0 := hid h0
  have HITS := hid hits
  have HITM := hid (items_any hP hw)
  have HN6 := hid hP.few
  have c0 := b0.cell
  have c1 := b1.cell
  clear hJ hY hKf h0 hP hw b0 b1 hits
  refine callsIn_of_wp Try.func46 rfl trivial ?_ rfl
  simp only [Try.ntmps46, List.size_toArray, List.length_cons, List.length_nil, Nat.reduceAdd, Nat.reduceSub, Array.replicate_succ, Array.replicate_zero, List.push_toArray, List.append_toArray, List.nil_append, List.cons_append]
  gi_wp2_with fail
  refine ⟨trivial, (callsIn_wide.2 HITM.out).mono ?_⟩
  rintro e w2 ⟨eo, cap, its', rfl, hits', ⟨hle, _⟩, hrow, hb2⟩
  have hie := its_unique hits' HITS.out
  subst hie
  have HROW := hid hrow
  obtain ⟨L, HL⟩ : ∃ L, Hid (its'.length = L) := ⟨_, hid rfl⟩
  have HLN : Hid (L ≤ 65536) := by rw [← HL.out]; exact Nat.le_trans hle HN6.out
  rw [HL.out] at HROW ⊢
  have HJ2 : Hid (J [] w2) := HJ.out [] W w2 none H0.out ⟨hb2.os, hb2.tape, hb2.output, hb2.size, fun k hk _ => hb2.block k hk⟩ (fun r e => by cases e)
  clear hrow hb2 hle hits' HITM c0 c1
  gi_wp2
  have hL6 := HLN.out
  gi_loopw [5, 10] (fun _ i wr => ∃ k : Nat, k ≤ L ∧ i = .int .i64 k ∧ Hid (J (its'.take k) wr ∧ wr.ownsRow W.heap.size 77 3 (.slice eo L cap) L (flatI its'))) (fun _ i _ => L - (intOf i).toNat)
  case atStart => exact ⟨0, Nat.zero_le _, rfl, by rw [List.take_zero]; exact HJ2.out, HROW.out⟩
  case round =>
    obtain ⟨k, hk, rfl, HR⟩ := hrel
    by_cases hlt : k < L
    · have hlt' : (k : Int) < (L : Int) := by omega
      have HKX : Hid (k < its'.length) := by rw [HL.out]; exact hlt
      have HKM : Hid (k + 1 ≤ L) := (by omega : k + 1 ≤ L)
      have hrow : wr.ownsRow W.heap.size 77 3 (.slice eo L cap) its'.length (flatI its') := by rw [HL.out]; exact HR.out.2
      obtain ⟨g, hge, _, _, hcd⟩ := items_cells hrow (by have := HKX.out; omega)
      obtain ⟨d0, d1, d2⟩ := hcd k HKX.out
      have HTK : Hid (its'.take (k + 1) = its'.take k ++ [its'[k]'HKX.out]) := List.take_succ_eq_append_getElem HKX.out
      have HIT : Hid (ItemI its' (its'.take k) (its'[k]'HKX.out)) := by
        have hl : (its'.take k).length = k := by rw [List.length_take]; have := HKX.out; omega
        refine ⟨by rw [hl]; exact HKX.out, by simp only [hl], by rw [hl]⟩
      obtain ⟨x, HX⟩ : ∃ x, Hid (its'[k]'HKX.out = x) := ⟨_, hid rfl⟩
      rw [HX.out] at d0 d1 d2 HTK HIT
      obtain ⟨⟨x1, x2⟩, xt⟩ := x
      simp only at d0 d1 d2
      subst hge
      have hj3 : J (its'.take k) (wr.alloc (.cells #[.int .i64 x1, .int .i64 x2, .string xt] 77)) := HJ.out.alloc _ HR.out.1
      have HRW3 : Hid ((wr.alloc (.cells #[.int .i64 x1, .int .i64 x2, .string xt] 77)).ownsRow W.heap.size 77 3 (.slice (some ⟨g, 0, none⟩) L cap) L (flatI its')) := HR.out.2.alloc _
      obtain ⟨fn, tmps, assign, body, hy, hRR⟩ := HY.out (its'.take k) ((x1, x2), xt) _ hj3 HIT.out
      have HRR := hid hRR
      clear hRR hj3 HR hlt hrow hcd
      dsimp only [dotV] at hy
      gi_wp2
      refine HRR.out.mono ?_
      rintro e W3 (⟨rfl, hJ3, hk3⟩ | ⟨rfl, hJx3⟩)
      · have HJ3 : Hid (J (its'.take (k + 1)) W3) := by rw [HTK.out]; exact hJ3
        have HRW4 : Hid (W3.ownsRow W.heap.size 77 3 (.slice (some ⟨g, 0, none⟩) L cap) L (flatI its')) := (HKF.out _ _ hk3).row HRW3.out (fun k hk e => by have := (HRW3.out.lt k hk).1; omega)
        clear hJ3 hk3 HRR hy d0 d1 d2
        gi_wp2
        go_roundw
        case rel => exact ⟨k + 1, HKM.out, by go_num, HJ3.out, HRW4.out⟩
        case measure => simp [intOf]; omega
      · have HJ3 := hid hJx3
        clear hJx3 HRR hy d0 d1 d2
        gi_wp2
        refine bodyPost_ret (results_none rfl _ _ _) rfl ?_
        exact ⟨⟨_, rfl⟩, .inr ⟨_, HJ3.out⟩⟩
    · have hlt' : ¬ (k : Int) < (L : Int) := by omega
      have HE : Hid (its'.take k = its') := List.take_of_length_le (by rw [HL.out]; omega)
      have HJE : Hid (J its' wr) := by have := HR.out.1; rw [HE.out] at this; exact this
      gi_wp2
      refine bodyPost_end (results_none rfl _ _ _) rfl ?_
      first | exact ⟨⟨_, rfl⟩, .inl ⟨its', rfl, HJE.out⟩⟩ | exact ⟨⟨_, rfl⟩, .inl HJE.out⟩
end
end Go.Proofs.Ytplecopphddjhaa
