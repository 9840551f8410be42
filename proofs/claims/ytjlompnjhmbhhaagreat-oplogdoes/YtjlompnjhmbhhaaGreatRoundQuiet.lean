/-
  A vector with one more of an origin: what follows (mathematics for VvGrows).
-/
import Derived.Test.YtjlompnjhmbhhaaGreatVvL
import Derived.Sort.QuietIn
import Derived.RangeFuncCalls
import Derived.OwnWalkIn
import Derived.RowKit
namespace Go.Proofs.YtjlompnjhmbhhaaGreat
open Go.RowKit Go.Shelf Go.Maps
attribute [local go_sem] Oper.semAt_some

theorem Tryz.infoB : (Tryz.prog.info? 4).map (fun i => (i.zero, i.size, i.bytes)) = some (some (.bool false), 1, 1) := by kernel_rfl
theorem results_cell4 {fn : Func} {t : Tmp} (h : fn.results = #[.cell t 4]) (tmps : Array Value) (w : World) {B : Nat} {v : Value} (hp : tmps.getD t undef = .pointer (some ⟨B, 0, none⟩)) (hc : w.cell? ⟨B, 0, none⟩ = some v) :
    (results fn tmps).run Tryz.prog w = .ok v w := by
  obtain ⟨i, hi, _, hs, _⟩ := info_parts Tryz.infoB
  have hp' : tmps[t]?.getD undef = .pointer (some ⟨B, 0, none⟩) := by simpa using hp
  simp [results, h, hp', hc, go_sem]
theorem bt {w w0 w1 : World} (h : Below w.heap.size w w0) (hb : Below w0.heap.size w0 w1) : Below w.heap.size w w1 := h.trans (hb.mono h.size)

/-- A vector with one more of an origin. -/
def oneMore (v : List Int) (k : Nat) (n : Int) : List Int := plainOf (withOf v k n)
theorem one_getD (v : List Int) (k : Nat) (n : Int) (i : Nat) : (oneMore v k n).getD i 0 = if i = k then n else v.getD i 0 := by
  unfold oneMore
  rw [plain_getD, with_getD]
theorem one_may {v : List Int} {k : Nat} {n : Int} (hv : MayV v) (hk : k ≤ 6) (hn : 0 ≤ n ∧ n ≤ 2147483647) : MayV (oneMore v k n) := by
  refine ⟨?_, fun x hx => ?_⟩
  · have h1 := endOf_le (withOf v k n)
    have h2 := with_len v k n
    have h3 := hv.1
    have h4 : (oneMore v k n).length = endOf (withOf v k n) := plain_len _
    omega
  · have hx2 := List.mem_of_mem_take hx
    unfold withOf at hx2
    rcases List.mem_or_eq_of_mem_set hx2 with h | rfl
    · rcases List.mem_append.1 h with h | h
      · exact hv.2 x h
      · have := List.eq_of_mem_replicate h
        omega
    · exact hn
theorem one_cmp {v : List Int} {k : Nat} {n : Int} (h : n = v.getD k 0 + 1) : cmpOf v (oneMore v k n) = -1 := by
  have h1 : BelowV v (oneMore v k n) := belowV_iff.2 fun i => by
    rw [one_getD]
    split
    · next e => subst e; omega
    · exact Int.le_refl _
  have h2 : ¬ BelowV (oneMore v k n) v := fun hb => by
    have := belowV_iff.1 hb k
    rw [one_getD, if_pos rfl] at this
    omega
  simp [cmpOf, h1, h2]
/-- A count by places. -/
def cntF (f : Nat → Int) : Nat → Int
  | 0 => 0
  | m + 1 => cntF f m + max (f m) 0
theorem cntF_ext {f g : Nat → Int} : ∀ m, (∀ i, i < m → f i = g i) → cntF f m = cntF g m
  | 0, _ => rfl
  | m + 1, h => by
    unfold cntF
    rw [cntF_ext m (fun i hi => h i (by omega)), h m (by omega)]
theorem cnt_cntF : ∀ (xs : List Int) (m : Nat), cntF (fun i => xs.getD i 0) m = cntV (xs.take m)
  | xs, 0 => by simp [cntF, cntV]
  | xs, m + 1 => by
    unfold cntF
    rw [cnt_cntF xs m]
    by_cases h : m < xs.length
    · rw [cnt_take h]
    · rw [List.take_of_length_le (by omega), List.take_of_length_le (by omega), getD_far (by omega)]
      simp
theorem cnt_all (xs : List Int) {m : Nat} (h : xs.length ≤ m) : cntV xs = cntF (fun i => xs.getD i 0) m := by
  rw [cnt_cntF, List.take_of_length_le h]
theorem cntF_one {f g : Nat → Int} {k : Nat} {n : Int} (hn : 1 ≤ n) (hk : f k = n - 1) (hg : ∀ i, g i = if i = k then n else f i) : ∀ m, k < m → cntF g m = cntF f m + 1
  | 0, h => by omega
  | m + 1, h => by
    unfold cntF
    by_cases e : m = k
    · subst e
      rw [cntF_ext m (f := g) (g := f) (fun i hi => by rw [hg, if_neg (by omega)]), hg, if_pos rfl, hk]
      omega
    · rw [cntF_one hn hk hg m (by omega), hg m, if_neg e]
      omega
theorem one_cnt {v : List Int} {k : Nat} {n : Int} (h : n = v.getD k 0 + 1) (hn : 1 ≤ n) : cntV (oneMore v k n) = cntV v + 1 := by
  obtain ⟨m, hm⟩ : ∃ m, m = max (max v.length (oneMore v k n).length) (k + 1) := ⟨_, rfl⟩
  rw [cnt_all v (m := m) (by omega), cnt_all (oneMore v k n) (m := m) (by omega)]
  exact cntF_one hn (by omega) (one_getD v k n) m (by omega)
theorem one_has {v : List Int} {k : Nat} {n : Int} (hn : 1 ≤ n) : decide (HasV (oneMore v k n) (k : Int) n) = true := decide_eq_true ⟨hn, by rw [ofV_nat, one_getD, if_pos rfl]; exact Int.le_refl _⟩
theorem one_not {v : List Int} {k : Nat} {n : Int} (h : n = v.getD k 0 + 1) : decide (HasV v (k : Int) n) = false := decide_eq_false (fun hh => by have := hh.2; rw [ofV_nat] at this; omega)
theorem one_back {v : List Int} {k : Nat} {n : Int} (h : n = v.getD k 0 + 1) : plainOf (withOf (oneMore v k n) k (n - 1)) = plainOf v := plain_ext fun i => by
  rw [with_getD, one_getD]
  by_cases e : i = k
  · subst e
    rw [if_pos rfl]
    omega
  · rw [if_neg e, if_neg e]
theorem flatMap_one {f : Nat → List (Int × Int)} {k : Nat} {x : Int × Int} : ∀ (m s : Nat), (∀ i, i ≠ k → f i = []) → f k = [x] → s ≤ k → k < s + m → (List.range' s m).flatMap f = [x]
  | 0, s, _, _, h1, h2 => by omega
  | m + 1, s, h, hk, h1, h2 => by
    rw [List.range'_succ, List.flatMap_cons]
    by_cases e : s = k
    · subst e
      rw [hk]
      have : (List.range' (s + 1) m).flatMap f = [] := List.flatMap_eq_nil_iff.2 fun i hi => h i (by have := List.mem_range'_1.1 hi; omega)
      rw [this]
      rfl
    · rw [h s e, List.nil_append]
      exact flatMap_one m (s + 1) h hk (by omega) (by omega)
theorem one_dots {v : List Int} {k : Nat} {n : Int} (h : n = v.getD k 0 + 1) (hn : 1 ≤ n) (_hv : MayV v) : dotsAll v (oneMore v k n) = [((k : Int), n)] := by
  have hlen : k < (oneMore v k n).length := by
    apply Nat.lt_of_not_le
    intro hle
    have := one_getD v k n k
    rw [getD_far hle, if_pos rfl] at this
    omega
  unfold dotsAll rowsFrom
  refine flatMap_one (k := k) _ 0 (fun i hi => ?_) ?_ (Nat.zero_le _) (by omega)
  · unfold rowOf moreOf hadOf
    rw [one_getD, if_neg hi, Int.sub_self]
    rfl
  · have h1 : hadOf v k = n - 1 := by unfold hadOf; omega
    have h2 : moreOf v (oneMore v k n) k = 1 := by unfold moreOf; rw [h1, one_getD, if_pos rfl]; omega
    unfold rowOf
    rw [h2, h1]
    simp
end Go.Proofs.YtjlompnjhmbhhaaGreat
/-
  A drawn region that only reads, inside a round of a range over a function: one walk of the lexical order serves every order. No function of the program is named here.
-/
namespace Go.Proofs.YtjlompnjhmbhhaaGreat
open Go.RowKit

section
variable {F : Fence} {n : Nat} {P : Program} {ops : Array Oper} {Q : Exit → Act → World → Prop}
def noDefer (o : Oper) : Bool := match o.op with
  | .defer _ => false
  | _ => true
theorem noDefer_ne {o : Oper} (h : noDefer o = true) : ∀ c, o.op ≠ .defer c := by
  intro c hc
  simp [noDefer, hc] at h
theorem oper_round {o : Oper} {a : Act} {w : World} {K : Act → World → Prop} (r : Nat) (hro : F.round = none) (hd : noDefer o = true) (h : o.wpIn F n P a w K Q) : o.wpIn (F.inRound r) n P a w K Q := by
  unfold Oper.wpIn at *
  refine ⟨h.1, ?_⟩
  have h2 := h.2
  rw [hro, Oper.semAt_none] at h2
  rw [Fence.inRound_round, Oper.semAt_some r _ _ (noDefer_ne hd)]
  exact h2
theorem wpOp_round {i : Nat} {a : Act} {w : World} {K : Act → World → Prop} (r : Nat) (hro : F.round = none) (hd : ∀ (i : Nat) (o : Oper), ops[i]? = some o → noDefer o = true) (h : wpOpIn F n P ops Q i K a w) : wpOpIn (F.inRound r) n P ops Q i K a w := by
  unfold wpOpIn at *
  split
  · next h0 => simpa [h0] using h
  · next o h0 =>
    simp only [h0] at h
    split at h
    · next hw => rw [if_pos hw]; exact oper_round r hro (hd i o h0) h
    · next hw => rw [if_neg hw]; exact h
theorem wpAny_round {md : Region.Mode} (r : Nat) (hro : F.round = none) (hd : ∀ (i : Nat) (o : Oper), ops[i]? = some o → noDefer o = true) : ∀ (fuel : Nat) (listed : Array Bool) (a : Act) (w : World), wpAnyIn F n P md ops Q fuel listed a w → wpAnyIn (F.inRound r) n P md ops Q fuel listed a w
  | 0, _, _, _, h => h
  | fuel + 1, _, _, _, h => ⟨h.1, fun i hi => wpOp_round r hro hd (wpOpIn_mono (fun a' w' h' => wpAny_round r hro hd fuel _ a' w' h') (h.2 i hi))⟩
/-- A quiet region in a round, over whatever class of worlds. -/
theorem wpIn_region_round {id : Nat} {a : Act} {w : World} {l : List Oper} (C : World → Prop) (r : Nat) (hro : F.round = none) (hd : l.all noDefer = true) (hm : P.follows .mixedOrders = true) (hB : Region.lexB .any l.toArray = true) (hC : C { w with drawn := w.drawn + 1 })
    (h : wpQuietIn F n P l.toArray C (fun a' => ∀ w', C w' → Q .normal a' w') l a) : (Code.region id l.toArray true).wpIn (F.inRound r) n P Q a w := by
  simp only [Region.lexB, Bool.and_eq_true] at hB
  have hd' : ∀ (i : Nat) (o : Oper), l.toArray[i]? = some o → noDefer o = true := fun i o ho => by
    rw [List.getElem?_toArray] at ho
    exact List.all_eq_true.1 hd o (List.mem_of_getElem? ho)
  refine wpIn_region_any hm (wpAny_round r hro hd' _ _ _ _ (wpAnyIn_of_quiet (Q := fun a' => ∀ w', C w' → Q .normal a' w') hro (fun _ w' hw' h => h w' hw') _ _ _ _ hC ?_))
  have := wpAnyQIn_lex (F := F) (n := n) (C := C) (md := .any) hB.1 l.toArray.toList 0 (Array.replicate l.toArray.size false) a (by simp) (by simpa using hB.2) (by simpa using h)
  simpa using this
/-- .. over the class 'some draws'. -/
theorem wpIn_region_quiet_round {id : Nat} {a : Act} {w : World} {l : List Oper} (r : Nat) (hro : F.round = none) (hd : l.all noDefer = true) (hm : P.follows .mixedOrders = true) (hB : Region.lexB .any l.toArray = true)
    (h : wpQuietIn F n P l.toArray (fun w' => ∃ n, w' = w.drewN n) (fun a' => ∀ w', (∃ n, w' = w.drewN n) → Q .normal a' w') l a) : (Code.region id l.toArray true).wpIn (F.inRound r) n P Q a w :=
  wpIn_region_round (fun w' => ∃ n, w' = w.drewN n) r hro hd hm hB ⟨1, rfl⟩ h
/-- One operation of the lexical walk over any class. -/
theorem quiet_run {C : World → Prop} {R : Act → Prop} {o : Oper} {rest : List Oper} {a : Act} (v : Value) (hask : o.askedIn F P a C) (hw : Region.wanted o (yielded ops a.tmps) = true) (hrun : ∀ w', C w' → (execOp a.eval o).run P w' = .ok (.value v) w')
    (hK : wpQuietIn F n P ops C R rest (a.put o.dst v)) : wpQuietIn F n P ops C R (o :: rest) a := by
  refine wpQuietIn_step hask (fun K hk => ?_)
  rw [if_pos hw]
  refine ⟨v, fun w' hc => ?_, hk _ hK⟩
  unfold Oper.quietAtIn
  rw [hrun w' hc]
  exact ⟨rfl, rfl⟩
theorem quiet_call {C : World → Prop} {R : Act → Prop} {o : Oper} {rest : List Oper} {a : Act} (v : Value) (hask : o.askedIn F P a C) (hw : Region.wanted o (yielded ops a.tmps) = true) (f : FuncId) (args : Array Value) (hrun : ∀ w', C w' → (execOp a.eval o).run P w' = .ok (.enter f args) w') (hdep : F.depth.isSome = true → 1 ≤ n)
    (hcall : ∀ w', C w' → CallsIn F (n - 1) P f args w' (fun e w'' => e = .returned v ∧ C w''))
    (hK : wpQuietIn F n P ops C R rest (a.put o.dst v)) : wpQuietIn F n P ops C R (o :: rest) a := by
  refine wpQuietIn_step hask (fun K hk => ?_)
  rw [if_pos hw]
  refine ⟨v, fun w' hc => ?_, hk _ hK⟩
  unfold Oper.quietAtIn
  rw [hrun w' hc]
  exact ⟨rfl, hdep, hcall w' hc⟩
end
/-- A world in which all of W's blocks are as they were. -/
structure Beyond (W : World) where
  now : World
  is : Below W.heap.size W now
instance (W : World) : Nonempty (Beyond W) := ⟨⟨W, Below.refl _ _⟩⟩
theorem Beyond.cell {W : World} {p : Addr} {v : Value} (h : W.cell? p = some v) (hp : p.block < W.heap.size) (X : Beyond W) : X.now.cell? p = some v := (X.is.cell hp).trans h
end Go.Proofs.YtjlompnjhmbhhaaGreat
