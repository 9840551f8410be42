/-
  The document's Trust; a Tick of two clocks, however it ends; what stands between asking and giving.
-/
import Derived.Test.YtmceffndnofgfaaClkH
namespace Go.Proofs.Ytmceffndnofgfaa
open Go.RowKit Go.Maps

theorem refTrust_any (w : World) (l r : Int) : Calls Try.prog 32 #[.int .i64 l, .int .i64 r] w fun e w' => e = .returned (.int .i64 (trustOf l r)) ∧ w' = w := by
  unfold trustOf
  by_cases h1 : l < 1
  · rw [if_neg (by omega)]
    go_enter Try.func32, Try.ntmps32
    go_wp2
    go_ret
    exact ⟨rfl, rfl⟩
  by_cases h2 : 1048576 < l
  · rw [if_neg (by omega)]
    go_enter Try.func32, Try.ntmps32
    go_wp2
    go_ret
    exact ⟨rfl, rfl⟩
  by_cases h3 : r < 0
  · rw [if_neg (by omega)]
    go_enter Try.func32, Try.ntmps32
    go_wp2
    go_ret
    exact ⟨rfl, rfl⟩
  by_cases h4 : 999 < r
  · rw [if_neg (by omega)]
    go_enter Try.func32, Try.ntmps32
    go_wp2
    go_ret
    exact ⟨rfl, rfl⟩
  · have hh : (1 ≤ l ∧ l ≤ 1048576) ∧ 0 ≤ r ∧ r ≤ 999 := by omega
    rw [if_pos hh]
    have HH := hid (trust_fits hh)
    clear hh
    go_enter Try.func32, Try.ntmps32
    go_wp2
    go_ret
    exact ⟨ret_int HH.out, rfl⟩

/-- What stands between asking (mine) and giving (yours), and now. -/
def TI (r n0 n1 T : Int) (asks gives : Bool) (mine yours : Int) : Prop :=
  (gives = true → asks = true) ∧ ∃ T0 T1 : Int, (asks = true → T0 ≤ T ∧ 0 ≤ n0 - mine ∧ Keeps1 (T - T0) (n0 - mine) r) ∧ (gives = true → T0 ≤ T1 ∧ T1 ≤ T ∧ 0 ≤ n1 - yours ∧ Keeps1 (T - T1) (n1 - yours) r)
section
variable {r n0 n1 T mine yours : Int} {asks gives : Bool}
theorem TI.none : TI r n0 n1 T false false mine yours := ⟨fun h => (by cases h), 0, 0, fun h => (by cases h), fun h => (by cases h)⟩
theorem TI.ask (h : TI r n0 n1 T false gives mine yours) : TI r n0 n1 T true gives n0 yours := by
  have hg : gives = false := by
    cases gives
    · rfl
    · exact absurd (h.1 rfl) (by simp)
  subst hg
  refine ⟨fun h => (by cases h), T, T, fun _ => ⟨Int.le_refl _, by omega, ?_⟩, fun h => (by cases h)⟩
  rw [Int.sub_self, Int.sub_self]
  exact Keeps1.zero r
theorem TI.give (h : TI r n0 n1 T true false mine yours) : TI r n0 n1 T true true mine n1 := by
  obtain ⟨_, T0, _, h0, _⟩ := h
  refine ⟨fun _ => rfl, T0, T, h0, fun _ => ⟨(h0 rfl).1, Int.le_refl _, by omega, ?_⟩⟩
  rw [Int.sub_self, Int.sub_self]
  exact Keeps1.zero r
theorem TI.tick (h : TI r n0 n1 T asks gives mine yours) {t a0 a1 : Int} (ht : 0 ≤ t) (h0 : 0 ≤ a0) (h1 : 0 ≤ a1) (k0 : Keeps1 t a0 r) (k1 : Keeps1 t a1 r) : TI r (n0 + a0) (n1 + a1) (T + t) asks gives mine yours := by
  obtain ⟨hg, T0, T1, q0, q1⟩ := h
  refine ⟨hg, T0, T1, fun ha => ?_, fun ha => ?_⟩
  · obtain ⟨b0, b1, b2⟩ := q0 ha
    have := b2.add k0
    refine ⟨by omega, by omega, ?_⟩
    rwa [show T - T0 + t = T + t - T0 by omega, show n0 - mine + a0 = n0 + a0 - mine by omega] at this
  · obtain ⟨b0, b1, b2, b3⟩ := q1 ha
    have := b3.add k1
    refine ⟨by omega, by omega, by omega, ?_⟩
    rwa [show T - T1 + t = T + t - T1 by omega, show n1 - yours + a1 = n1 + a1 - yours by omega] at this
theorem TI.over (h : TI r n0 n1 T asks true mine yours) {lease : Int} (hA : n0 - mine < trustOf lease r) : n1 - yours < lease := by
  obtain ⟨hg, T0, T1, q0, q1⟩ := h
  obtain ⟨b0, b1, b2⟩ := q0 (hg rfl)
  obtain ⟨c0, c1, c2, c3⟩ := q1 rfl
  exact trust_over (T := T - T0) (T' := T - T1) b1 (by omega) b2.1 c3.2 hA
end

theorem two_of {xs : List Int} (h : xs.length = 2) : ∃ a b, xs = [a, b] := by
  match xs, h with
  | [a, b], _ => exact ⟨a, b, rfl⟩
theorem tick_two {w : World} {p g cap : Nat} {n0 n1 time need : Int} (h : ClkAt w p g cap [n0, n1] time need) (t : Int) (ao : Option Addr) (c : Nat) (on : List Int) (ho : HeldInt w ao on) (hl : on.length ≤ 140737488355328) (hap : ∀ b off, ao = some ⟨b, off, none⟩ → on ≠ [] → ¬ CFoot p g b) :
    Calls Try.prog 28 #[.pointer (some ⟨p, 0, none⟩), .int .i64 t, .slice ao on.length c] w fun e w' => ∃ z m0 m1 time' need' : Int, e = .returned (.int .i64 z) ∧ ClkAt w' p g cap [m0, m1] time' need' ∧ Turns (CFoot p g) w w' ∧
      ((z ≠ 0 ∧ m0 = n0 ∧ m1 = n1 ∧ time' = time ∧ need' = need) ∨ (z = 0 ∧ Right t ∧ (∀ x ∈ on, Right x) ∧ ∃ a0 a1, on = [a0, a1] ∧ m0 = n0 + a0 ∧ m1 = n1 + a1 ∧ time' = time + t ∧ need' = max need (needOf t 0 on))) := by
  by_cases hm : (Right t ∧ ∀ x ∈ on, Right x) ∧ on.length = [n0, n1].length
  · by_cases hr : Room [n0, n1] time t on
    · refine (tick_good h t ao c on ho hap hm.1 hm.2 hr).mono ?_
      rintro e w' ⟨rfl, h', ht⟩
      obtain ⟨a0, a1, rfl⟩ := two_of hm.2
      exact ⟨0, _, _, _, _, rfl, h', ht, .inr ⟨rfl, hm.1.1, hm.1.2, a0, a1, rfl, rfl, rfl, rfl, rfl⟩⟩
    · refine (tick_full h t ao c on ho hm.1 hm.2 hr).mono ?_
      rintro e w' ⟨rfl, rfl⟩
      exact ⟨2, _, _, _, _, rfl, h, Turns.refl _ _, .inl ⟨by decide, rfl, rfl, rfl, rfl⟩⟩
  · refine (tick_bad h t ao c on ho hl hm).mono ?_
    rintro e w' ⟨rfl, rfl⟩
    exact ⟨1, _, _, _, _, rfl, h, Turns.refl _ _, .inl ⟨by decide, rfl, rfl, rfl, rfl⟩⟩

/-- The state of ClockTrusts' loop. -/
def TS (r : Int) (p g : Nat) (w wr : World) (asks gives : Bool) (mine yours : Int) : Prop :=
  ∃ (cap : Nat) (n0 n1 T need : Int), ClkAt wr p g cap [n0, n1] T need ∧ Below w.heap.size w wr ∧ (0 ≤ mine ∧ mine ≤ 1152921504606846976) ∧ (0 ≤ yours ∧ yours ≤ 1152921504606846976) ∧ TI r n0 n1 T asks gives mine yours
theorem HeldTk.at {w : World} {ao : Option Addr} {ts : List TickV} (h : HeldTk w ao ts) {k : Nat} (hk : k < ts.length) : ∃ b off, ao = some ⟨b, off, none⟩ ∧ b < w.heap.size := by
  rcases h.2 with h0 | ⟨b, off, h1, h2, _⟩
  · rw [h0] at hk; cases hk
  · exact ⟨b, off, h1, h2⟩
theorem HeldTk.get {w wr : World} {b off : Nat} {ts : List TickV} (h : HeldTk w (some ⟨b, off, none⟩) ts) (hb : Below w.heap.size w wr) {k : Nat} (hk : k < ts.length) :
    wr.cell? ⟨b, off + k * 2, none⟩ = some (.int .i64 ts[k].time) ∧ wr.cell? ⟨b, off + k * 2 + 1, none⟩ = some (.slice ts[k].ao ts[k].on.length ts[k].cap) ∧ HeldInt wr ts[k].ao ts[k].on ∧ (∀ b' off', ts[k].ao = some ⟨b', off', none⟩ → ts[k].on ≠ [] → b' < w.heap.size) ∧ In64 ts[k].time := by
  have hk1 := h.1 ts[k] (List.getElem_mem hk)
  rcases h.2 with h0 | ⟨b', off', h1, h2, h3⟩
  · rw [h0] at hk; cases hk
  · cases h1
    obtain ⟨c0, c1⟩ := h3 k hk
    refine ⟨(hb.cell (by simpa using h2)).trans c0, (hb.cell (by simpa using h2)).trans c1, hk1.2.below hb, fun b' off' e he => ?_, hk1.1⟩
    rcases hk1.2.2 with h0 | ⟨b2, off2, e2, h4, _⟩
    · exact absurd h0 he
    · rw [e] at e2
      cases e2
      exact h4
theorem TS.drewN {r : Int} {p g : Nat} {w wr : World} {asks gives : Bool} {mine yours : Int} (h : TS r p g w wr asks gives mine yours) (q : Nat) : TS r p g w (wr.drewN q) asks gives mine yours := by
  obtain ⟨cp, n0, n1, T, need, hc, hbl, r⟩ := h
  exact ⟨cp, n0, n1, T, need, hc.drewN q, below_dn hbl q, r⟩
theorem TS.below {r : Int} {p g : Nat} {w wr : World} {asks gives : Bool} {mine yours : Int} (h : TS r p g w wr asks gives mine yours) : Below w.heap.size w wr := by
  obtain ⟨cp, n0, n1, T, need, hc, hbl, r⟩ := h
  exact hbl
theorem TS.tick {r : Int} {p g : Nat} {w wr : World} {asks gives : Bool} {mine yours : Int} (h : TS r p g w wr asks gives mine yours) (hp : w.heap.size ≤ p ∧ w.heap.size ≤ g) {t : Int} {on : List Int} (hk : KeepsAll t on r) (ao : Option Addr) (c : Nat) (ho : HeldInt wr ao on) (hl : on.length ≤ 140737488355328) (hap : ∀ b off, ao = some ⟨b, off, none⟩ → on ≠ [] → b < w.heap.size) :
    Calls Try.prog 28 #[.pointer (some ⟨p, 0, none⟩), .int .i64 t, .slice ao on.length c] wr fun e w' => ∃ z : Int, e = .returned (.int .i64 z) ∧ TS r p g w w' asks gives mine yours := by
  obtain ⟨cp, n0, n1, T, need, hc, hbl, hm, hy, hti⟩ := h
  refine (tick_two hc t ao c on ho hl (fun b off e he hf => ?_)).mono ?_
  · have := hap b off e he
    rcases hf with h | h <;> omega
  rintro e w' ⟨z, m0, m1, time', need', rfl, hc', ht, hor⟩
  refine ⟨z, rfl, cp, m0, m1, time', need', hc', hbl.trans (ht.below (fun i hi => by rcases hi with h | h <;> omega) hbl.size), hm, hy, ?_⟩
  rcases hor with ⟨_, rfl, rfl, rfl, _⟩ | ⟨_, hr, hx, a0, a1, rfl, rfl, rfl, rfl, _⟩
  · exact hti
  · obtain ⟨_, _, _, hka⟩ := keepsAll_iff.1 hk
    exact hti.tick hr.1 (hx a0 (by simp)).1 (hx a1 (by simp)).1 (hka a0 (by simp)) (hka a1 (by simp))
end Go.Proofs.Ytmceffndnofgfaa
