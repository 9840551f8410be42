/-
  append of bytes in a region that draws its order: what the new slice holds, and which blocks have turned. No function of the program is named here.
-/
import Derived.Test.YtcjkpkeopofmbaaApps
import Derived.Deep.RegionLaw
namespace Go.Proofs.Ytcjkpkeopofmbaa
open Go.RowKit

theorem step_append_grew {P : Program} {ops : Array Oper} {o : Oper} {a : Act} {w : World} {K : Act → World → Prop} {Q : Exit → Act → World → Prop} {E : Prop} (hgd : o.guard = none) (s x : Operand) (t : TypeId)
    (ho : o.op = .call { callee := .builtin .append, args := #[s, x], argTypes := #[t, t] })
    (base : Nat) (e : TypeId) (i : TypeInfo) (ht : P.underlying t = some (.slice e)) (hi : P.info? e = some i) (hz : i.zero = some (.int .u8 0)) (hsize : i.size = 1) (hby : i.bytes = 1)
    (v : Value) (n : Nat) (bs : List Int) (hs : a.eval s = v) (hown : w.ownsRow base e 1 v n (nums bs)) (hbs : AllB bs)
    (ao : Option Addr) (m c : Nat) (cs : List Int) (hx : a.eval x = .slice ao m c) (hh : Held w ao m c cs) (hsum : n + m ≤ 140737488355328) (hbase : base ≤ w.heap.size)
    (h : ∀ bo cp w', w'.ownsRow base e 1 (.slice bo (n + m) cp) (n + m) (nums (bs ++ cs)) → Grew w w' v (.slice bo (n + m) cp) → K (a.put o.dst (.slice bo (n + m) cp)) w') :
    if Region.wanted o (yielded ops a.tmps) = true then Oper.wp P o a w K Q else E := by
  have hw : Region.wanted o (yielded ops a.tmps) = true := by simp [Region.wanted, hgd]
  rw [if_pos hw]
  cases ao with
  | none =>
    have hc := hh.nil rfl
    have hm : m = 0 := by have := hh.hcap; omega
    subst hm hc
    have hcs : cs = [] := List.eq_nil_of_length_eq_zero hh.hlen
    subst hcs
    obtain ⟨bo, cp, rfl, hhv⟩ := held_of_own hown hbs
    have hr := run_append_owned_none (P := P) w base t o.type e i 1 ht hi _ n _ hown
    unfold Oper.wp execOp
    simp only [ho, resolve, invoke, builtin, Sem.run_bind, Sem.run_pure, Result.andThen_ok, List.map_toArray, List.map_cons, List.map_nil, hs, hx, hr]
    have := h bo cp w (by simpa using hown) (Grew.refl _ _)
    show K (a.put o.dst (.slice bo n cp)) w
    simpa using this
  | some ad =>
    obtain ⟨v', w', hr, hown', hgrow, _, hat⟩ := run_append_own_at (P := P) w base t o.type e i (.int .u8 0) 1 1 ht hi hz hsize hby rfl (by decide) v n (nums bs) hown ad m c (nums cs) (by rw [nums_len, hh.hlen]; omega) (hh.news ad rfl) (nums_one cs) (by unfold maxLen; omega) (by omega) hbase
    unfold Oper.wp execOp
    simp only [ho, resolve, invoke, builtin, Sem.run_bind, Sem.run_pure, Result.andThen_ok, List.map_toArray, List.map_cons, List.map_nil, hs, hx, hr]
    rw [← nums_append] at hown'
    obtain ⟨bo, cp, rfl, hhv⟩ := held_of_own hown' (hbs.append hh.byte)
    exact h bo cp w' hown' (Grew.of hgrow hat)
end Go.Proofs.Ytcjkpkeopofmbaa
