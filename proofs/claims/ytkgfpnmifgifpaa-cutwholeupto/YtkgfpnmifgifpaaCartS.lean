/-
  A beginning of a slice of events; appending events outside drawn regions.
-/
import Derived.Test.YtkgfpnmifgifpaaCartSn
namespace Go.Proofs.Ytkgfpnmifgifpaa
open Go.RowKit Go.Maps

theorem HeldE.take {w : World} {ao : Option Addr} {xs : List EvM} (h : HeldE w ao xs) (k : Nat) : HeldE w ao (xs.take k) := by
  refine ⟨fun x hx => h.1 x (List.mem_of_mem_take hx), ?_⟩
  rcases h.2 with rfl | ⟨b, off, h1, h2, h3⟩
  · left; simp
  · right
    refine ⟨b, off, h1, h2, fun j hj c u hu => ?_⟩
    have hj' : j < xs.length := by rw [List.length_take] at hj; omega
    rw [List.getElem_take] at hu
    exact h3 j hj' c u hu
theorem run_cutE (W : World) (a : Option Addr) (len cap n : Nat) (hh : n ≤ cap) : (Instr.slice 22 (.slice a len cap) none (some (.int .i64 (n : Int))) none).run Try.prog W = .ok (.slice a n cap) W := by
  have ht' : Try.prog.underlying 22 = some (.slice (Try.prog.elem 22)) := by simp [Program.elem, Try.underlying22]
  have he : Try.prog.elem 22 = 34 := by simp [Program.elem, Try.underlying22]
  have hz : (Go.sizeOf 34).run Try.prog W = .ok 8 W := by
    obtain ⟨i, hi, _, hs, _⟩ := info_parts Try.infoEv
    simp [Go.sizeOf, typeInfo, hi, hs]
  rw [run_slice_h W 22 _ _ _ ht' .i64 _ (by omega) (by omega), he, hz]
  have hadd : ∀ p : Addr, p.add 0 = p := by
    intro p
    obtain ⟨b, o, s⟩ := p
    cases s <;> simp [Addr.add]
  cases a <;> simp [Result.andThen, sliced, hadd]
/-- append of events to a row of the call's own. -/
theorem wpList_append_evs {ops : Array Oper} {rest : List Oper} {o : Oper} {a : Act} {w : World} {Q : Exit → Act → World → Prop} (hgd : o.guard = none) (s x : Operand)
    (ho : o.op = .call { callee := .builtin .append, args := #[s, x], argTypes := #[22, 22] })
    (base : Nat) (v : Value) (n : Nat) (ds : List EvM) (hn : ds.length = n) (hs : a.eval s = v) (hown : w.ownsRow base 34 8 v n (flatE ds))
    (ao : Option Addr) (m c : Nat) (xs : List EvM) (hm : xs.length = m) (hx : a.eval x = .slice ao m c) (hh : HeldE w ao xs) (hsum : n + m ≤ 100000000) (hbase : base ≤ w.heap.size)
    (hok : ∀ V, Below base w V → AllOk V (ds ++ xs))
    (h : ∀ bo cp w', w'.ownsRow base 34 8 (.slice bo (n + m) cp) (n + m) (flatE (ds ++ xs)) → HeldE w' bo (ds ++ xs) → Below base w w' → wpList Try.prog ops Q rest (a.put o.dst (.slice bo (n + m) cp)) w') :
    wpList Try.prog ops Q (o :: rest) a w := by
  refine wpList_plain hgd fun K hK => ?_
  have := step_append_evs (ops := #[]) (K := K) (Q := Q) (E := False) hgd s x ho base v n ds hn hs hown ao m c xs hm hx hh hsum hbase hok (fun bo cp w' h1 h2 h3 _ => hK _ _ (h bo cp w' h1 h2 h3))
  rw [if_pos (by simp [Region.wanted, hgd])] at this
  exact this
end Go.Proofs.Ytkgfpnmifgifpaa
