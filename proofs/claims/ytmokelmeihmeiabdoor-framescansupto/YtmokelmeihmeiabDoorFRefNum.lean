/-
  pannierref02.number: the four bytes' number, for any bytes; nothing is written.
-/
import Derived.Test.YtmokelmeihmeiabDoorFFirst
import Derived.Test.YtmokelmeihmeiabDoorFRef
namespace Go.Proofs.YtmokelmeihmeiabDoor
open Go.RowKit
attribute [local go_sem ↓] Go.wp_at_zero Go.wp_at_succ

theorem number_full (b off len cap : Nat) (bs : List Int) (w : World) (h4 : 4 ≤ len) (hb : AllB bs) (hmax : len ≤ 9223372036854775807)
    (hc : ∀ j, j < len → w.cell? ⟨b, off + j, none⟩ = some (.int .u8 (bs.getD j 0))) :
    Calls Tryd.prog 21 #[.slice (some ⟨b, off, none⟩) len cap] w fun e w' => e = .returned (.int .u32 (rd4 bs)) ∧ ∃ q, w' = w.drewN q := by
  have hb0 := hb.getD 0
  have hb1 := hb.getD 1
  have hb2 := hb.getD 2
  have hb3 := hb.getD 3
  obtain ⟨c0, h0⟩ : ∃ c : Nat, (c : Int) = bs.getD 0 0 := ⟨(bs.getD 0 0).toNat, by simp only [List.getD]; omega⟩
  obtain ⟨c1, h1⟩ : ∃ c : Nat, (c : Int) = bs.getD 1 0 := ⟨(bs.getD 1 0).toNat, by simp only [List.getD]; omega⟩
  obtain ⟨c2, h2⟩ : ∃ c : Nat, (c : Int) = bs.getD 2 0 := ⟨(bs.getD 2 0).toNat, by simp only [List.getD]; omega⟩
  obtain ⟨c3, h3⟩ : ∃ c : Nat, (c : Int) = bs.getD 3 0 := ⟨(bs.getD 3 0).toNat, by simp only [List.getD]; omega⟩
  have g0 : w.cell? ⟨b, off, none⟩ = some (.int .u8 (c0 : Int)) := by rw [h0]; exact hc 0 (by omega)
  have g1 : w.cell? ⟨b, off + 1, none⟩ = some (.int .u8 (c1 : Int)) := by rw [h1]; exact hc 1 (by omega)
  have g2 : w.cell? ⟨b, off + 2, none⟩ = some (.int .u8 (c2 : Int)) := by rw [h2]; exact hc 2 (by omega)
  have g3 : w.cell? ⟨b, off + 3, none⟩ = some (.int .u8 (c3 : Int)) := by rw [h3]; exact hc 3 (by omega)
  have l0 : c0 < 256 := by simp only [List.getD] at h0; omega
  have l1 : c1 < 256 := by simp only [List.getD] at h1; omega
  have l2 : c2 < 256 := by simp only [List.getD] at h2; omega
  have l3 : c3 < 256 := by simp only [List.getD] at h3; omega
  have HR : Hid (rd4 bs = c0 * 16777216 + c1 * 65536 + c2 * 256 + c3) := by
    show _ = _
    unfold rd4
    rw [← h0, ← h1, ← h2, ← h3]
    simp
  have k0 : (0 : Int) < (len : Int) := by omega
  have k1 : (1 : Int) < (len : Int) := by omega
  have k2 : (2 : Int) < (len : Int) := by omega
  have k3 : (3 : Int) < (len : Int) := by omega
  have m0 : IntKind.u32.wrap ((c0 : Int) * 16777216) = (c0 : Int) * 16777216 := by rw [IntKind.wrap_u32]; omega
  have m1 : IntKind.u32.wrap ((c1 : Int) * 65536) = (c1 : Int) * 65536 := by rw [IntKind.wrap_u32]; omega
  have m2 : IntKind.u32.wrap ((c2 : Int) * 256) = (c2 : Int) * 256 := by rw [IntKind.wrap_u32]; omega
  have m3 : IntKind.u32.wrap ((c0 : Int) * 16777216 + (c1 : Int) * 65536) = (c0 : Int) * 16777216 + (c1 : Int) * 65536 := by rw [IntKind.wrap_u32]; omega
  have m4 : IntKind.u32.wrap ((c0 : Int) * 16777216 + (c1 : Int) * 65536 + (c2 : Int) * 256) = (c0 : Int) * 16777216 + (c1 : Int) * 65536 + (c2 : Int) * 256 := by rw [IntKind.wrap_u32]; omega
  have m5 : IntKind.u32.wrap ((c0 : Int) * 16777216 + (c1 : Int) * 65536 + (c2 : Int) * 256 + (c3 : Int)) = (c0 : Int) * 16777216 + (c1 : Int) * 65536 + (c2 : Int) * 256 + (c3 : Int) := by rw [IntKind.wrap_u32]; omega
  clear hc hb hb0 hb1 hb2 hb3 h0 h1 h2 h3
  go_enter Tryd.func21, Tryd.ntmps21
  go_wp2
  go_quiet (fail)
  go_wp2
  go_ret
  exact ⟨ret_int (by rw [HR.out]; simp), _, rfl⟩

theorem number_any (ao : Option Addr) (len cap : Nat) (bs : List Int) (w : World) (h : Held w ao len cap bs) (h4 : 4 ≤ len) :
    Calls Tryd.prog 21 #[.slice ao len cap] w fun e w' => e = .returned (.int .u32 (rd4 bs)) ∧ ∃ q, w' = w.drewN q := by
  obtain ⟨b, off, rfl, _, hc⟩ := h.at (by omega)
  exact number_full b off len cap bs w h4 h.byte (by have := h.hmax; have := h.hcap; unfold maxLen at *; omega) hc

/-- What a region keeps. -/
structure Sc (w W : World) : Prop where
  out : Below w.heap.size w W
theorem Sc.start (w : World) : Sc w w.drew := ⟨(Below.refl _ w).drew⟩
theorem Sc.size {w W : World} (h : Sc w W) : w.heap.size ≤ W.heap.size := h.out.size
theorem Sc.alloc {w W : World} (h : Sc w W) (o : Obj) : Sc w (W.alloc o) := ⟨Below.alloc h.out h.size o⟩
theorem Sc.dn {w W : World} (h : Sc w W) (q : Nat) : Sc w (W.drewN q) := ⟨below_dn h.out q⟩
theorem Sc.go {w W W' : World} (hb : Below w.heap.size W W') (h : Sc w W) : Sc w W' := ⟨Below.trans h.out hb⟩

theorem Sc.dn0 (w : World) (q : Nat) : Sc w (w.drewN q) := ⟨below_dn (Below.refl _ w) q⟩
theorem Sc.al0 (w : World) (o : Obj) (q : Nat) : Sc w ((w.alloc o).drewN q) := ⟨below_dn ((Below.refl _ w).alloc (Nat.le_refl _) _) q⟩
theorem Sc.al1 (w : World) (o : Obj) : Sc w (w.alloc o).drew := ⟨((Below.refl _ w).alloc (Nat.le_refl _) _).drew⟩

theorem ownsRow_dn {w : World} {B e size n : Nat} {v : Value} {xs : List Value} (h : w.ownsRow B e size v n xs) (q : Nat) : (w.drewN q).ownsRow B e size v n xs := h
theorem Sc.own {w W : World} (h : Sc w W) : (W.alloc (.cells #[] 5)).ownsRow w.heap.size 5 1 (.slice (some ⟨W.heap.size, 0, none⟩) 0 0) 0 (nums []) := own_made W _ h.size

theorem step_append_held {P : Program} {ops : Array Oper} {o : Oper} {a : Act} {w : World} {K : Act → World → Prop} {Q : Exit → Act → World → Prop} {E : Prop} (hgd : o.guard = none) (s x : Operand) (t : TypeId)
    (ho : o.op = .call { callee := .builtin .append, args := #[s, x], argTypes := #[t, t] })
    (base : Nat) (e : TypeId) (i : TypeInfo) (ht : P.underlying t = some (.slice e)) (hi : P.info? e = some i) (hz : i.zero = some (.int .u8 0)) (hsize : i.size = 1) (hby : i.bytes = 1)
    (v : Value) (n : Nat) (bs : List Int) (hs : a.eval s = v) (hown : w.ownsRow base e 1 v n (nums bs)) (hbs : AllB bs)
    (ao : Option Addr) (m c : Nat) (cs : List Int) (hx : a.eval x = .slice ao m c) (hh : Held w ao m c cs) (hsum : n + m ≤ 140737488355328) (hbase : base ≤ w.heap.size)
    (h : ∀ bo cp w', w'.ownsRow base e 1 (.slice bo (n + m) cp) (n + m) (nums (bs ++ cs)) → Held w' bo (n + m) cp (bs ++ cs) → Below base w w' → K (a.put o.dst (.slice bo (n + m) cp)) w') :
    if Region.wanted o (yielded ops a.tmps) = true then Oper.wp P o a w K Q else E := by
  have hw : Region.wanted o (yielded ops a.tmps) = true := by simp [Region.wanted, hgd]
  rw [if_pos hw]
  cases ao with
  | none =>
    have hc := hh.nil rfl
    have hm : m = 0 := by have := hh.hcap; omega
    subst hm hc
    have hcs : cs = [] := List.eq_nil_of_length_eq_zero hh.hlen
    subst hcs
    obtain ⟨bo, cp, rfl, hhv⟩ := held_of_own hown hbs
    have hr := run_append_owned_none (P := P) w base t o.type e i 1 ht hi _ n _ hown
    unfold Oper.wp execOp
    simp only [ho, resolve, invoke, builtin, Sem.run_bind, Sem.run_pure, Result.andThen_ok, List.map_toArray, List.map_cons, List.map_nil, hs, hx, hr]
    have := h bo cp w (by simpa using hown) (by simpa using hhv) (Below.refl _ _)
    show K (a.put o.dst (.slice bo n cp)) w
    simpa using this
  | some ad =>
    obtain ⟨v', w', hr, hown', hgrow, _, _⟩ := run_append_own_at (P := P) w base t o.type e i (.int .u8 0) 1 1 ht hi hz hsize hby rfl (by decide) v n (nums bs) hown ad m c (nums cs) (by rw [nums_len, hh.hlen]; omega) (hh.news ad rfl) (nums_one cs) (by unfold maxLen; omega) (by omega) hbase
    unfold Oper.wp execOp
    simp only [ho, resolve, invoke, builtin, Sem.run_bind, Sem.run_pure, Result.andThen_ok, List.map_toArray, List.map_cons, List.map_nil, hs, hx, hr]
    rw [← nums_append] at hown'
    obtain ⟨bo, cp, rfl, hhv⟩ := held_of_own hown' (hbs.append hh.byte)
    exact h bo cp w' hown' hhv ((Below.refl _ _).grown hgrow hbase (own_lt hown))
end Go.Proofs.YtmokelmeihmeiabDoor
