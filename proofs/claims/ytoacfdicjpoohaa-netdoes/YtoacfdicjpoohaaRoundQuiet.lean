/-
  A drawn region that only reads, inside a round of a range over a function: one walk of the lexical order serves every order. No function of the program is named here.
-/
import Derived.Sort.QuietIn
import Derived.RangeFuncCalls
import Derived.OwnWalkIn
import Derived.RowKit
namespace Go.Proofs.Ytoacfdicjpoohaa
open Go.RowKit

section
variable {F : Fence} {n : Nat} {P : Program} {ops : Array Oper} {Q : Exit → Act → World → Prop}
def noDefer (o : Oper) : Bool := match o.op with
  | .defer _ => false
  | _ => true
theorem noDefer_ne {o : Oper} (h : noDefer o = true) : ∀ c, o.op ≠ .defer c := by
  intro c hc
  simp [noDefer, hc] at h
theorem oper_round {o : Oper} {a : Act} {w : World} {K : Act → World → Prop} (r : Nat) (hro : F.round = none) (hd : noDefer o = true) (h : o.wpIn F n P a w K Q) : o.wpIn (F.inRound r) n P a w K Q := by
  unfold Oper.wpIn at *
  refine ⟨h.1, ?_⟩
  have h2 := h.2
  rw [hro, Oper.semAt_none] at h2
  rw [Fence.inRound_round, Oper.semAt_some r _ _ (noDefer_ne hd)]
  exact h2
theorem wpOp_round {i : Nat} {a : Act} {w : World} {K : Act → World → Prop} (r : Nat) (hro : F.round = none) (hd : ∀ (i : Nat) (o : Oper), ops[i]? = some o → noDefer o = true) (h : wpOpIn F n P ops Q i K a w) : wpOpIn (F.inRound r) n P ops Q i K a w := by
  unfold wpOpIn at *
  split
  · next h0 => simpa [h0] using h
  · next o h0 =>
    simp only [h0] at h
    split at h
    · next hw => rw [if_pos hw]; exact oper_round r hro (hd i o h0) h
    · next hw => rw [if_neg hw]; exact h
theorem wpAny_round {md : Region.Mode} (r : Nat) (hro : F.round = none) (hd : ∀ (i : Nat) (o : Oper), ops[i]? = some o → noDefer o = true) : ∀ (fuel : Nat) (listed : Array Bool) (a : Act) (w : World), wpAnyIn F n P md ops Q fuel listed a w → wpAnyIn (F.inRound r) n P md ops Q fuel listed a w
  | 0, _, _, _, h => h
  | fuel + 1, _, _, _, h => ⟨h.1, fun i hi => wpOp_round r hro hd (wpOpIn_mono (fun a' w' h' => wpAny_round r hro hd fuel _ a' w' h') (h.2 i hi))⟩
/-- A quiet region in a round, over whatever class of worlds. -/
theorem wpIn_region_round {id : Nat} {a : Act} {w : World} {l : List Oper} (C : World → Prop) (r : Nat) (hro : F.round = none) (hd : l.all noDefer = true) (hm : P.follows .mixedOrders = true) (hB : Region.lexB .any l.toArray = true) (hC : C { w with drawn := w.drawn + 1 })
    (h : wpQuietIn F n P l.toArray C (fun a' => ∀ w', C w' → Q .normal a' w') l a) : (Code.region id l.toArray true).wpIn (F.inRound r) n P Q a w := by
  simp only [Region.lexB, Bool.and_eq_true] at hB
  have hd' : ∀ (i : Nat) (o : Oper), l.toArray[i]? = some o → noDefer o = true := fun i o ho => by
    rw [List.getElem?_toArray] at ho
    exact List.all_eq_true.1 hd o (List.mem_of_getElem? ho)
  refine wpIn_region_any hm (wpAny_round r hro hd' _ _ _ _ (wpAnyIn_of_quiet (Q := fun a' => ∀ w', C w' → Q .normal a' w') hro (fun _ w' hw' h => h w' hw') _ _ _ _ hC ?_))
  have := wpAnyQIn_lex (F := F) (n := n) (C := C) (md := .any) hB.1 l.toArray.toList 0 (Array.replicate l.toArray.size false) a (by simp) (by simpa using hB.2) (by simpa using h)
  simpa using this
/-- .. over the class 'some draws'. -/
theorem wpIn_region_quiet_round {id : Nat} {a : Act} {w : World} {l : List Oper} (r : Nat) (hro : F.round = none) (hd : l.all noDefer = true) (hm : P.follows .mixedOrders = true) (hB : Region.lexB .any l.toArray = true)
    (h : wpQuietIn F n P l.toArray (fun w' => ∃ n, w' = w.drewN n) (fun a' => ∀ w', (∃ n, w' = w.drewN n) → Q .normal a' w') l a) : (Code.region id l.toArray true).wpIn (F.inRound r) n P Q a w :=
  wpIn_region_round (fun w' => ∃ n, w' = w.drewN n) r hro hd hm hB ⟨1, rfl⟩ h
/-- One operation of the lexical walk over any class. -/
theorem quiet_run {C : World → Prop} {R : Act → Prop} {o : Oper} {rest : List Oper} {a : Act} (v : Value) (hask : o.askedIn F P a C) (hw : Region.wanted o (yielded ops a.tmps) = true) (hrun : ∀ w', C w' → (execOp a.eval o).run P w' = .ok (.value v) w')
    (hK : wpQuietIn F n P ops C R rest (a.put o.dst v)) : wpQuietIn F n P ops C R (o :: rest) a := by
  refine wpQuietIn_step hask (fun K hk => ?_)
  rw [if_pos hw]
  refine ⟨v, fun w' hc => ?_, hk _ hK⟩
  unfold Oper.quietAtIn
  rw [hrun w' hc]
  exact ⟨rfl, rfl⟩
theorem quiet_call {C : World → Prop} {R : Act → Prop} {o : Oper} {rest : List Oper} {a : Act} (v : Value) (hask : o.askedIn F P a C) (hw : Region.wanted o (yielded ops a.tmps) = true) (f : FuncId) (args : Array Value) (hrun : ∀ w', C w' → (execOp a.eval o).run P w' = .ok (.enter f args) w') (hdep : F.depth.isSome = true → 1 ≤ n)
    (hcall : ∀ w', C w' → CallsIn F (n - 1) P f args w' (fun e w'' => e = .returned v ∧ C w''))
    (hK : wpQuietIn F n P ops C R rest (a.put o.dst v)) : wpQuietIn F n P ops C R (o :: rest) a := by
  refine wpQuietIn_step hask (fun K hk => ?_)
  rw [if_pos hw]
  refine ⟨v, fun w' hc => ?_, hk _ hK⟩
  unfold Oper.quietAtIn
  rw [hrun w' hc]
  exact ⟨rfl, hdep, hcall w' hc⟩
end
/-- A world in which all of W's blocks are as they were. -/
structure Beyond (W : World) where
  now : World
  is : Below W.heap.size W now
instance (W : World) : Nonempty (Beyond W) := ⟨⟨W, Below.refl _ _⟩⟩
theorem Beyond.cell {W : World} {p : Addr} {v : Value} (h : W.cell? p = some v) (hp : p.block < W.heap.size) (X : Beyond W) : X.now.cell? p = some v := (X.is.cell hp).trans h
end Go.Proofs.Ytoacfdicjpoohaa
