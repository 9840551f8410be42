/-
  A drawn region that only reads and calls what makes memory; append([]int(nil), x...). No function of the program is named here.
-/
import Derived.Test.YtjjgojjllbdpkaaRoundQuiet
import Derived.Test.YtjjgojjllbdpkaaEvA
import Derived.Deep.RegionHeld3
import Derived.Deep.RegionWith
import Derived.Deep.QuietTactic
import Derived.BigQuiet
namespace Go.Proofs.Ytjjgojjllbdpkaa
open Go.RowKit Go.Maps

/-- A drawn region that only reads and calls what makes memory beyond W. -/
theorem wp_region_bey {P : Program} {id : Nat} {Q : Exit → Act → World → Prop} {a : Act} {w : World} {l : List Oper} (W : World) (hm : P.follows .mixedOrders = true) (hB : Region.lexB .any l.toArray = true) (hb : Below W.heap.size W w)
    (h : wpQuiet P l.toArray (fun w' => ∃ X : Beyond W, w' = X.now) (fun a' => ∀ w', (∃ X : Beyond W, w' = X.now) → Q .normal a' w') l a) : (Code.region id l.toArray true).wp P Q a w :=
  wp_region_quiet (C := fun w' => ∃ X : Beyond W, w' = X.now) hm hB ⟨⟨_, below_dn hb 1⟩, rfl⟩ (by simpa using h)
theorem bey_call {P : Program} {f : FuncId} {args : Array Value} {W : World} {v : Value} (X : Beyond W) (h : Calls P f args X.now fun e w' => e = .returned v ∧ Below X.now.heap.size X.now w') : Calls P f args X.now (fun e w'' => e = .returned v ∧ ∃ Y : Beyond W, w'' = Y.now) :=
  h.mono fun _ w' hh => ⟨hh.1, ⟨w', bt' X.is hh.2⟩, rfl⟩
theorem bey_same {P : Program} {f : FuncId} {args : Array Value} {W : World} {v : Value} (X : Beyond W) (h : Calls P f args X.now fun e w' => e = .returned v ∧ w' = X.now) : Calls P f args X.now (fun e w'' => e = .returned v ∧ ∃ Y : Beyond W, w'' = Y.now) :=
  h.mono fun _ _ hh => ⟨hh.1, X, hh.2⟩
theorem bey_drew {P : Program} {f : FuncId} {args : Array Value} {W : World} {v : Value} (X : Beyond W) (h : Calls P f args X.now fun e w' => e = .returned v ∧ ∃ q, w' = X.now.drewN q) : Calls P f args X.now (fun e w'' => e = .returned v ∧ ∃ Y : Beyond W, w'' = Y.now) :=
  h.mono fun _ w' hh => ⟨hh.1, ⟨w', by obtain ⟨q, hq⟩ := hh.2; rw [hq]; exact below_dn X.is q⟩, rfl⟩
/-- append([]int(nil), x...): a copy. -/
theorem wpList_append_nilB {ops : Array Oper} {rest : List Oper} {o : Oper} {a : Act} {Q : Exit → Act → World → Prop} (W : World) (hgd : o.guard = none) (s x : Operand)
    (ho : o.op = .call { callee := .builtin .append, args := #[s, x], argTypes := #[24, 24] })
    (hs : a.eval s = .slice none 0 0) (ao : Option Addr) (c : Nat) (xs : List Int) (n : Nat) (hn : xs.length = n) (hx : a.eval x = .slice ao n c) (hh : HeldInt W ao xs) (hl : xs.length ≤ 17592186044416)
    (h : ∀ bo cp w', HV w' bo cp xs → (∀ b off, bo = some ⟨b, off, none⟩ → W.heap.size ≤ b ∧ ∃ cs, Blk w' b 3 cs) → Below W.heap.size W w' → wpList Try.prog ops Q rest (a.put o.dst (.slice bo n cp)) w') :
    wpList Try.prog ops Q (o :: rest) a W := by
  subst hn
  obtain ⟨iI, hj, hy0, hy1, hy2⟩ := info_parts Try.infoInt
  have fin : ∀ (v' : Value) (w' : World), w'.ownsRow W.heap.size 3 1 v' xs.length (ints xs) → Below W.heap.size W w' → wpList Try.prog ops Q rest (a.put o.dst v') w' := by
    intro v' w' hown hb
    have hlt := hown.lt
    have hbk : ∀ b, v'.ownBlock = some b → ∃ cs, Blk w' b 3 cs := by
      intro b hb
      rcases hown.2 with ⟨rfl, _⟩ | ⟨g, cap, cur, rfl, _, hg, _⟩
      · simp [Value.ownBlock] at hb
      · simp [Value.ownBlock] at hb
        subst hb
        exact ⟨cur.toList, hg⟩
    obtain ⟨eo, cap, rfl, hv⟩ := hv_of_own hown hh.1 hl
    exact h eo cap w' hv (fun b off e => ⟨(hlt b (by rw [e]; rfl)).1, hbk b (by rw [e]; rfl)⟩) hb
  cases ao with
  | none =>
    have hx0 : xs = [] := by
      rcases hh.2 with h0 | ⟨b, off, e, _⟩
      · exact h0
      · cases e
    subst hx0
    refine wpList_plain hgd fun K hK => ?_
    have hr := run_append_noneI (P := Try.prog) W W.heap.size 24 o.type 3 iI 1 Try.underlying24 hj _ 0 c _ (ownI_nil W W.heap.size)
    unfold Oper.wp execOp
    simp only [ho, resolve, invoke, builtin, Sem.run_bind, Sem.run_pure, Result.andThen_ok, List.map_toArray, List.map_cons, List.map_nil, hs, hx, List.length_nil, hr]
    exact hK _ _ (fin _ _ (ownI_nil W W.heap.size) (Below.refl _ _))
  | some ad =>
    have hnews : ∀ j u, (ints xs)[j]? = some u → W.cell? (ad.add j) = some u := by
      intro j u hu
      rcases hh.2 with h0 | ⟨b, off, e, _⟩
      · subst h0
        simp [ints] at hu
      · cases e
        exact hh.news j u hu
    refine wpList_append_own_at _ hgd s x 24 ho W.heap.size 3 iI (.int .i64 0) 1 8 Try.underlying24 hj hy0 hy1 hy2 rfl (by decide) _ 0 (ints []) hs (ownI_nil W W.heap.size) ad xs.length c (ints xs) hx (by rw [ints_len]; omega) hnews (ints_one xs) (by unfold maxLen; omega) (by omega) (Nat.le_refl _) ?_
    intro v' w' hown hgrow _ _
    exact fin v' w' (by simpa [ints] using hown) ((Below.refl _ _).grown hgrow (Nat.le_refl _) (fun k e => by cases e))
theorem results_cell1B {fn : Func} {p : Tmp} {ty : TypeId} (h : fn.results = #[.cell p ty]) (tmps : Array Value) (P : Program) (w : World) :
    (results fn tmps).run P w = ((asAddr (tmps.getD p undef)).run P w).andThen fun a w₁ => (loadVar ty a).run P w₁ := by
  simp only [results, h]
  simp [Sem.run_bind, Result.andThen]
end Go.Proofs.Ytjjgojjllbdpkaa
