/-
  The document's bag: Send, At.
-/
import Derived.Test.YtoacfdicjpoohaaNdB
namespace Go.Proofs.Ytoacfdicjpoohaa
open Go.RowKit Go.Maps

/-- What a call of the document's bag may turn. -/
def FootX (x : Nat) (eo : Option Addr) (i : Nat) : Prop := i = x ∨ ∃ a, eo = some a ∧ a.block = i
def RnTo (B : Nat) (w w' : World) (x : Nat) (eo : Option Addr) (g : Nt) : Prop := ∃ eo' cap', RnAt w' B x g eo' cap' ∧ Turns (FootX x eo) w w'
theorem RnTo.same {B : Nat} {w w' : World} {x : Nat} {g : Nt} {eo : Option Addr} {cap : Nat} (h : RnAt w B x g eo cap) (hb : Below w.heap.size w w') : RnTo B w w' x eo g := ⟨eo, cap, h.below hb, Turns.of_below hb (Nat.le_refl _)⟩
theorem own_some {eo : Option Addr} {n cap k : Nat} (h : (Value.slice eo n cap).ownBlock = some k) : ∃ a, eo = some a ∧ a.block = k := by
  cases eo with
  | none => cases h
  | some a => exact ⟨a, rfl, by simpa [Value.ownBlock] using h⟩
/-- One packet more. -/
theorem rn_app {B : Nat} {w W1 w5 W : World} {x : Nat} {g : Nt} {eo bo : Option Addr} {cap cp : Nat} {f t : Int} {s : ByteArray} (h : RnAt w B x g eo cap) (hc : sendC g f t s = 0) (hW1 : W1 = w.setCell ⟨x, 2, none⟩ (.int .i64 (g.last + 1)))
    (ht5 : Turns (fun i => (Value.slice eo g.ps.length cap).ownBlock = some i) W1 w5) (hown : w5.ownsRow B 36 4 (.slice bo (g.ps.length + 1) cp) (g.ps.length + 1) (flat (g.ps ++ [⟨g.last + 1, f, t, s⟩]))) (hW : W = w5.setCell ⟨x, 1, none⟩ (.slice bo (g.ps.length + 1) cp)) : RnTo B w W x eo (sendN g f t s) := by
  obtain ⟨_, _, h3⟩ := sendC_zero hc
  have hb1 : Blk W1 x 51 [.int .i64 g.nodes, .slice eo g.ps.length cap, .int .i64 (g.last + 1)] := by rw [hW1]; exact h.blk.set 2 _
  have hx1 : ¬ (Value.slice eo g.ps.length cap).ownBlock = some x := fun e => h.blk.not_row (by decide) h.row e.symm
  have hb5 := ht5.blk hb1 hx1
  have t1 : Turns (fun i => i = x) w5 W := by rw [hW]; exact (Turns.refl (fun i => i = x) w5).setCell (p := ⟨x, 1, none⟩) (.inl rfl) _
  have t0 : Turns (FootX x eo) w W1 := by rw [hW1]; exact (Turns.refl _ w).setCell (p := ⟨x, 2, none⟩) (.inl (.inl rfl)) _
  have hput : sendN g f t s = ⟨g.nodes, g.last + 1, g.ps ++ [⟨g.last + 1, f, t, s⟩]⟩ := by unfold sendN; rw [if_pos hc]
  refine ⟨bo, cp, ?_, (t0.trans ht5 (fun i hi => .inl (.inr (own_some hi)))).trans t1 (fun i hi => .inl (.inl hi))⟩
  have hok := h.ok.send f t s
  rw [hput] at hok ⊢
  refine ⟨?_, ?_, by show (g.ps ++ [_]).length ≤ 65536; rw [List.length_append, List.length_singleton]; omega, hok⟩
  · show Blk W x _ [.int .i64 g.nodes, .slice bo (g.ps ++ [(⟨g.last + 1, f, t, s⟩ : Pk)]).length cp, .int .i64 (g.last + 1)]
    rw [List.length_append, List.length_singleton, hW]
    exact hb5.set 1 _
  · show W.ownsRow B _ 4 (.slice bo (g.ps ++ [(⟨g.last + 1, f, t, s⟩ : Pk)]).length cp) (g.ps ++ [(⟨g.last + 1, f, t, s⟩ : Pk)]).length _
    rw [List.length_append, List.length_singleton]
    refine t1.row hown (fun k hk e => ?_)
    subst e
    exact hb5.not_row (by decide) hown hk.symm
set_option maxRecDepth 1000000 in
set_option maxHeartbeats 4000000 in
theorem RnAt.send {w : World} {B x : Nat} {g : Nt} {eo : Option Addr} {cap : Nat} (h : RnAt w B x g eo cap) (hB : B ≤ w.heap.size) (hl0 : 0 ≤ g.last) (hlast : g.last ≤ 4611686018427387904) (f t : Int) (s : ByteArray) : Calls Try.prog 8 #[.pointer (some ⟨x, 0, none⟩), .int .i64 f, .int .i64 t, .string s] w fun e w' => e = .returned (.tuple #[.int .i64 (sendI g f t s), .int .i64 (sendC g f t s)]) ∧ RnTo B w w' x eo (sendN g f t s) := by
  have H := hid h
  have HBB := hid hB
  have c0 := h.blk.cell (i := 0) rfl
  have c1 := h.blk.cell (i := 1) rfl
  have c2 := h.blk.cell (i := 2) rfl
  have f2 := h.blk.frozen 2
  obtain ⟨nd, HND⟩ : ∃ n, Hid (g.nodes = n) := ⟨_, hid rfl⟩
  obtain ⟨N, HN⟩ : ∃ n, Hid (g.ps.length = n) := ⟨_, hid rfl⟩
  obtain ⟨la, HLA⟩ : ∃ n, Hid (g.last = n) := ⟨_, hid rfl⟩
  rw [HND.out] at c0
  rw [HN.out] at c1
  rw [HLA.out] at c2
  have HNO : Hid (∀ c : Int, c ≠ 0 → sendC g f t s = c → (Ending.returned (.tuple #[.int .i64 0, .int .i64 c]) = .returned (.tuple #[.int .i64 (sendI g f t s), .int .i64 (sendC g f t s)]) ∧ RnTo B w w x eo (sendN g f t s))) := fun c hne hc => by
    have hn0 : ¬ sendC g f t s = 0 := by rw [hc]; exact hne
    unfold sendI sendN
    rw [if_neg hn0, if_neg hn0, hc]
    exact ⟨rfl, RnTo.same H.out (Below.refl _ _)⟩
  have hla1 : wrap64 (la + 1) = la + 1 := by rw [← HLA.out]; exact wrapN (by omega) (by omega)
  have HLA1 := hid hla1
  clear h hB hl0 hlast hla1
  by_cases h1 : f < 0
  · have HC : Hid (sendC g f t s = 1) := by show _ = _; unfold sendC; rw [if_neg (by rw [HND.out]; omega)]
    have HE := hid (HNO.out 1 (by decide) HC.out)
    clear f2
    go_enter Try.func8, Try.ntmps8
    go_wp2
    go_ret2
    exact HE.out
  by_cases h2 : nd ≤ f
  · have HC : Hid (sendC g f t s = 1) := by show _ = _; unfold sendC; rw [if_neg (by rw [HND.out]; omega)]
    have HE := hid (HNO.out 1 (by decide) HC.out)
    clear f2
    go_enter Try.func8, Try.ntmps8
    go_wp2
    go_ret2
    exact HE.out
  by_cases h3 : t < 0
  · have HC : Hid (sendC g f t s = 1) := by show _ = _; unfold sendC; rw [if_neg (by rw [HND.out]; omega)]
    have HE := hid (HNO.out 1 (by decide) HC.out)
    clear f2
    go_enter Try.func8, Try.ntmps8
    go_wp2
    go_ret2
    exact HE.out
  by_cases h4 : nd ≤ t
  · have HC : Hid (sendC g f t s = 1) := by show _ = _; unfold sendC; rw [if_neg (by rw [HND.out]; omega)]
    have HE := hid (HNO.out 1 (by decide) HC.out)
    clear f2
    go_enter Try.func8, Try.ntmps8
    go_wp2
    go_ret2
    exact HE.out
  have HNS : Hid ((0 ≤ f ∧ f < g.nodes) ∧ (0 ≤ t ∧ t < g.nodes)) := by rw [HND.out]; exact ⟨⟨by omega, by omega⟩, by omega, by omega⟩
  by_cases h5 : 65536 < s.size
  · have h5' : (65536 : Int) < (s.size : Int) := by omega
    have HC : Hid (sendC g f t s = 3) := by show _ = _; unfold sendC; rw [if_pos HNS.out, if_pos h5]
    have HE := hid (HNO.out 3 (by decide) HC.out)
    clear f2
    go_enter Try.func8, Try.ntmps8
    go_wp2
    go_ret2
    exact HE.out
  have h5' : ¬ (65536 : Int) < (s.size : Int) := by omega
  have H5 := hid h5
  clear h5
  by_cases h6 : 65536 ≤ N
  · have h6' : (65536 : Int) ≤ (N : Int) := by omega
    have HC : Hid (sendC g f t s = 2) := by show _ = _; unfold sendC; rw [if_pos HNS.out, if_neg H5.out, if_neg (by rw [HN.out]; omega)]
    have HE := hid (HNO.out 2 (by decide) HC.out)
    clear f2
    go_enter Try.func8, Try.ntmps8
    go_wp2
    go_ret2
    exact HE.out
  have h6' : decide ((65536 : Int) ≤ (N : Int)) = false := decide_eq_false (by omega)
  have HNL : Hid (N < 65536) := (by omega : N < 65536)
  have HC : Hid (sendC g f t s = 0) := by show _ = _; unfold sendC; rw [if_pos HNS.out, if_neg H5.out, if_pos (by rw [HN.out]; exact HNL.out)]
  obtain ⟨W1, hW1⟩ : ∃ V, V = w.setCell ⟨x, 2, none⟩ (.int .i64 (la + 1)) := ⟨_, rfl⟩
  have HB1 : Hid (Blk W1 x 51 [.int .i64 nd, .slice eo N cap, .int .i64 (la + 1)]) := by
    have := H.out.blk.set 2 (.int .i64 (la + 1))
    rw [HND.out, HN.out, HLA.out] at this
    rw [hW1]
    exact this
  have ht1 : Turns (fun i => i = x) w W1 := by rw [hW1]; exact (Turns.refl (fun i => i = x) w).setCell (p := ⟨x, 2, none⟩) (.inl rfl) _
  have HXR : Hid (¬ (Value.slice eo N cap).ownBlock = some x) := fun e => H.out.blk.not_row (by decide) H.out.row (by rw [HN.out]; exact e.symm)
  have HROW : Hid (W1.ownsRow B 36 4 (.slice eo N cap) N (flat g.ps)) := by
    have := ht1.row H.out.row (fun k hk e => by rw [HN.out] at hk; rw [e] at hk; exact HXR.out hk)
    rw [HN.out] at this
    exact this
  have HSZ : Hid (B ≤ W1.heap.size) := Nat.le_trans HBB.out ht1.size
  have HT0 : Hid (Turns (fun i => (Value.slice eo N cap).ownBlock = some i) W1 W1) := Turns.refl _ _
  have HSA : Hid (∀ V, Turns (fun i => (Value.slice eo N cap).ownBlock = some i) W1 V → (Turns (fun i => (Value.slice eo N cap).ownBlock = some i) W1 V ∧ V.cell? ⟨x, 1, none⟩ = some (.slice eo N cap) ∧ V.cell? ⟨x, 2, none⟩ = some (.int .i64 (la + 1)))) := fun V hV => by
    have h1 := hV.blk HB1.out HXR.out
    exact ⟨hV, h1.cell rfl, h1.cell rfl⟩
  have HHX : Hid (∀ V : World, HeldPk (V.alloc (.cells #[.int .i64 (la + 1), .int .i64 f, .int .i64 t, .string s] 36)) (some ⟨V.heap.size, 0, none⟩) [⟨la + 1, f, t, s⟩]) := fun V => held_newPk V ⟨la + 1, f, t, s⟩
  have HFIN : Hid (∀ w5 W bo cp, Turns (fun i => (Value.slice eo N cap).ownBlock = some i) W1 w5 → w5.ownsRow B 36 4 (.slice bo (N + 1) cp) (N + 1) (flat (g.ps ++ [⟨la + 1, f, t, s⟩])) → W = w5.setCell ⟨x, 1, none⟩ (.slice bo (N + 1) cp) → RnTo B w W x eo (sendN g f t s)) := fun w5 W bo cp d1 d2 d3 => by
    rw [← HLA.out] at d2
    rw [← HN.out] at d1 d2 d3
    exact rn_app H.out HC.out (by rw [HLA.out]; exact hW1) d1 d2 d3
  have HANS : Hid (sendI g f t s = la + 1) := by show _ = _; unfold sendI; rw [if_pos HC.out, HLA.out]
  have hla1 := HLA1.out
  have HW1 := hid hW1
  clear h1 h2 h3 h4 hW1 ht1 HNO h6
  go_enter Try.func8, Try.ntmps8
  have k1 : ¬ f < 0 := by have := HNS.out; omega
  have k2 : ¬ nd ≤ f := by have := HNS.out; rw [HND.out] at this; omega
  have k3 : ¬ t < 0 := by have := HNS.out; omega
  have k4 : ¬ nd ≤ t := by have := HNS.out; rw [HND.out] at this; omega
  have b1 := HB1.out.cell (i := 1) rfl
  go_wp2
  rw [← HW1.out]
  refine wp_region_noPanic ?_
  refine wp_region_K 17 (fun V => Turns (fun i => (Value.slice eo N cap).ownBlock = some i) W1 V ∧ V.cell? ⟨x, 1, none⟩ = some (.slice eo N cap) ∧ V.cell? ⟨x, 2, none⟩ = some (.int .i64 (la + 1))) (by kernel_rfl) (HSA.out _ HT0.out.drew) (fun hHeld => ?_)
  refine wpAnyK_take (i := 0) (oi := { dst := some 48, op := Go.Op.move (Go.Operand.tmp 0), type := 27, pos := "ref.go:33", after := #[], guard := none }) (v := ?vq1) [] rfl (by kernel_rfl) (by kernel_rfl) (by kernel_rfl) (by kernel_rfl) (by kernel_rfl) (fun _ _ _ h => h) (Or.inl ⟨by rfl, ?hyq1⟩) (by assumption) ?restq1
  case hyq1 => (intro w0 hSw; (try dsimp only at hSw); go_simp; try with_reducible rfl)
  simp only [Act.put, List.setIfInBounds_toArray, List.set_cons_zero, List.set_cons_succ]
  refine wpAnyK_take (i := 1) (oi := { dst := some 49, op := Go.Op.move (Go.Operand.tmp 0), type := 27, pos := "ref.go:33", after := #[], guard := none }) (v := ?vq2) [] rfl (by kernel_rfl) (by kernel_rfl) (by kernel_rfl) (by kernel_rfl) (by kernel_rfl) (fun _ _ _ h => h) (Or.inl ⟨by rfl, ?hyq2⟩) (by assumption) ?restq2
  case hyq2 => (intro w0 hSw; (try dsimp only at hSw); go_simp; try with_reducible rfl)
  simp only [Act.put, List.setIfInBounds_toArray, List.set_cons_zero, List.set_cons_succ]
  refine wpAnyK_take (i := 2) (oi := { dst := some 50, op := Go.Op.nilCheck (Go.Operand.tmp 49), type := 0, pos := "ref.go:33", after := #[{ on := 1, ground := Go.Ground.data }], guard := none }) (v := ?vq3) [] rfl (by kernel_rfl) (by kernel_rfl) (by kernel_rfl) (by kernel_rfl) (by kernel_rfl) (fun _ _ _ h => h) (Or.inl ⟨by rfl, ?hyq3⟩) (by assumption) ?restq3
  case hyq3 => (intro w0 hSw; (try dsimp only at hSw); go_simp; try with_reducible rfl)
  simp only [Act.put, List.setIfInBounds_toArray, List.set_cons_zero, List.set_cons_succ]
  refine wpAnyK_take (i := 3) (oi := { dst := some 51, op := Go.Op.fieldAddr 51 (Go.Operand.tmp 50) 1, type := 0, pos := "ref.go:33", after := #[{ on := 2, ground := Go.Ground.data }], guard := none }) (v := ?vq4) [] rfl (by kernel_rfl) (by kernel_rfl) (by kernel_rfl) (by kernel_rfl) (by kernel_rfl) (fun _ _ _ h => h) (Or.inl ⟨by rfl, ?hyq4⟩) (by assumption) ?restq4
  case hyq4 => (intro w0 hSw; (try dsimp only at hSw); go_simp; try with_reducible rfl)
  simp only [Act.put, List.setIfInBounds_toArray, List.set_cons_zero, List.set_cons_succ]
  refine wpAnyK_take (i := 4) (oi := { dst := some 52, op := Go.Op.load 49 (Go.Operand.tmp 51), type := 49, pos := "ref.go:33", after := #[{ on := 3, ground := Go.Ground.data }], guard := none }) (v := ?vq5) [] rfl (by kernel_rfl) (by kernel_rfl) (by kernel_rfl) (by kernel_rfl) (by kernel_rfl) (fun _ _ _ h => h) (Or.inl ⟨by rfl, ?hyq5⟩) (by assumption) ?restq5
  case hyq5 => (intro w0 hSw; (try dsimp only at hSw); go_simp; try with_reducible rfl)
  simp only [Act.put, List.setIfInBounds_toArray, List.set_cons_zero, List.set_cons_succ]
  refine wpAnyK_take (i := 5) (oi := { dst := some 53, op := Go.Op.move (Go.Operand.tmp 0), type := 27, pos := "ref.go:33", after := #[], guard := none }) (v := ?vq6) [] rfl (by kernel_rfl) (by kernel_rfl) (by kernel_rfl) (by kernel_rfl) (by kernel_rfl) (fun _ _ _ h => h) (Or.inl ⟨by rfl, ?hyq6⟩) (by assumption) ?restq6
  case hyq6 => (intro w0 hSw; (try dsimp only at hSw); go_simp; try with_reducible rfl)
  simp only [Act.put, List.setIfInBounds_toArray, List.set_cons_zero, List.set_cons_succ]
  refine wpAnyK_take (i := 6) (oi := { dst := some 54, op := Go.Op.nilCheck (Go.Operand.tmp 53), type := 0, pos := "ref.go:33", after := #[{ on := 5, ground := Go.Ground.data }], guard := none }) (v := ?vq7) [] rfl (by kernel_rfl) (by kernel_rfl) (by kernel_rfl) (by kernel_rfl) (by kernel_rfl) (fun _ _ _ h => h) (Or.inl ⟨by rfl, ?hyq7⟩) (by assumption) ?restq7
  case hyq7 => (intro w0 hSw; (try dsimp only at hSw); go_simp; try with_reducible rfl)
  simp only [Act.put, List.setIfInBounds_toArray, List.set_cons_zero, List.set_cons_succ]
  refine wpAnyK_take (i := 7) (oi := { dst := some 55, op := Go.Op.fieldAddr 51 (Go.Operand.tmp 54) 2, type := 0, pos := "ref.go:33", after := #[{ on := 6, ground := Go.Ground.data }], guard := none }) (v := ?vq8) [] rfl (by kernel_rfl) (by kernel_rfl) (by kernel_rfl) (by kernel_rfl) (by kernel_rfl) (fun _ _ _ h => h) (Or.inl ⟨by rfl, ?hyq8⟩) (by assumption) ?restq8
  case hyq8 => (intro w0 hSw; (try dsimp only at hSw); go_simp; try with_reducible rfl)
  simp only [Act.put, List.setIfInBounds_toArray, List.set_cons_zero, List.set_cons_succ]
  refine wpAnyK_take (i := 8) (oi := { dst := some 56, op := Go.Op.load 3 (Go.Operand.tmp 55), type := 3, pos := "ref.go:33", after := #[{ on := 7, ground := Go.Ground.data }], guard := none }) (v := ?vq9) [] rfl (by kernel_rfl) (by kernel_rfl) (by kernel_rfl) (by kernel_rfl) (by kernel_rfl) (fun _ _ _ h => h) (Or.inl ⟨by rfl, ?hyq9⟩) (by assumption) ?restq9
  case hyq9 => (intro w0 hSw; (try dsimp only at hSw); go_simp; try with_reducible rfl)
  simp only [Act.put, List.setIfInBounds_toArray, List.set_cons_zero, List.set_cons_succ]
  refine wpAnyK_take (i := 9) (oi := { dst := some 57, op := Go.Op.move (Go.Operand.tmp 1), type := 3, pos := "ref.go:33", after := #[], guard := none }) (v := ?vq10) [] rfl (by kernel_rfl) (by kernel_rfl) (by kernel_rfl) (by kernel_rfl) (by kernel_rfl) (fun _ _ _ h => h) (Or.inl ⟨by rfl, ?hyq10⟩) (by assumption) ?restq10
  case hyq10 => (intro w0 hSw; (try dsimp only at hSw); go_simp; try with_reducible rfl)
  simp only [Act.put, List.setIfInBounds_toArray, List.set_cons_zero, List.set_cons_succ]
  refine wpAnyK_take (i := 10) (oi := { dst := some 58, op := Go.Op.move (Go.Operand.tmp 2), type := 3, pos := "ref.go:33", after := #[], guard := none }) (v := ?vq11) [] rfl (by kernel_rfl) (by kernel_rfl) (by kernel_rfl) (by kernel_rfl) (by kernel_rfl) (fun _ _ _ h => h) (Or.inl ⟨by rfl, ?hyq11⟩) (by assumption) ?restq11
  case hyq11 => (intro w0 hSw; (try dsimp only at hSw); go_simp; try with_reducible rfl)
  simp only [Act.put, List.setIfInBounds_toArray, List.set_cons_zero, List.set_cons_succ]
  refine wpAnyK_take (i := 11) (oi := { dst := some 59, op := Go.Op.move (Go.Operand.tmp 3), type := 9, pos := "ref.go:33", after := #[], guard := none }) (v := ?vq12) [] rfl (by kernel_rfl) (by kernel_rfl) (by kernel_rfl) (by kernel_rfl) (by kernel_rfl) (fun _ _ _ h => h) (Or.inl ⟨by rfl, ?hyq12⟩) (by assumption) ?restq12
  case hyq12 => (intro w0 hSw; (try dsimp only at hSw); go_simp; try with_reducible rfl)
  simp only [Act.put, List.setIfInBounds_toArray, List.set_cons_zero, List.set_cons_succ]
  refine wpAnyK_take (i := 12) (oi := { dst := some 60, op := Go.Op.build 36 #[(0, Go.Operand.tmp 56), (1, Go.Operand.tmp 57), (2, Go.Operand.tmp 58), (3, Go.Operand.tmp 59)], type := 36, pos := "ref.go:33", after := #[{ on := 8, ground := Go.Ground.data }, { on := 9, ground := Go.Ground.data }, { on := 10, ground := Go.Ground.data }, { on := 11, ground := Go.Ground.data }], guard := none }) (v := ?vq13) [] rfl (by kernel_rfl) (by kernel_rfl) (by kernel_rfl) (by kernel_rfl) (by kernel_rfl) (fun _ _ _ h => h) (Or.inl ⟨by rfl, ?hyq13⟩) (by assumption) ?restq13
  case hyq13 => (intro w0 hSw; (try dsimp only at hSw); go_simp; try with_reducible rfl)
  simp only [Act.put, List.setIfInBounds_toArray, List.set_cons_zero, List.set_cons_succ]
  refine wpAnyK_ready (rs := [13]) (by kernel_rfl) (by simp) ?_
  refine AllReadyK.cons (o := { dst := some 61, op := Go.Op.buildSlice 49 1 #[(0, Go.Operand.tmp 60)], type := 49, pos := "ref.go:33", after := #[{ on := 12, ground := Go.Ground.data }], guard := none }) rfl (fun K hK => ?_) AllReadyK.nil
  go_simp
  refine hK.out _ _ (.inr (HSA.out _ (by (repeat (first | with_reducible assumption | exact HT0.out | apply Turns.drew | refine Turns.alloc ?_ _))))) (fun hHeld => ?_)
  have hHeld := hHeld.resolve_right (by decide)
  clear hK K
  try simp only [Act.put, List.setIfInBounds_toArray, List.set_cons_zero, List.set_cons_succ]
  refine wpAnyK_ready (rs := [14]) (by kernel_rfl) (by simp) ?_
  refine AllReadyK.cons (o := { dst := some 62, op := Go.Op.call { callee := Go.Callee.builtin Go.Builtin.append, args := #[Go.Operand.tmp 52, Go.Operand.tmp 61], argTypes := #[49, 49] }, type := 49, pos := "ref.go:33", after := #[{ on := 4, ground := Go.Ground.data }, { on := 13, ground := Go.Ground.data }], guard := none }) rfl (fun K hK => ?_) AllReadyK.nil
  refine step_append_pk rfl _ _ rfl B _ N g.ps HN.out rfl (HROW.out.alloc _) _ 1 1 [⟨la + 1, f, t, s⟩] rfl rfl ?hhz15 ?hsumz15 ?hbasez15 ?restz15
  case hhz15 => exact HHX.out _
  case hsumz15 => have := HNL.out; omega
  case hbasez15 => have := HSZ.out; simp; omega
  intro b5 c5 w7 hown5 hb5 hg5
  have hT5 : Turns (fun i => (Value.slice eo N cap).ownBlock = some i) W1 w7 := by first | exact (Turns.alloc HT0.out _).grown hg5 (fun k hk => .inl hk) | exact ((Turns.alloc HT0.out _).drew).grown hg5 (fun k hk => .inl hk)
  refine hK.out _ _ (.inr (HSA.out _ (by (repeat (first | with_reducible assumption | exact HT0.out | apply Turns.drew | refine Turns.alloc ?_ _))))) (fun hHeld => ?_)
  have hHeld := hHeld.resolve_right (by decide)
  clear hK K
  try simp only [Act.put, List.setIfInBounds_toArray, List.set_cons_zero, List.set_cons_succ]
  have hpk5 := hT5.blk HB1.out HXR.out
  have f5 := hpk5.frozen 1
  have e5 := hpk5.cell (i := 1) rfl
  have e6 := hpk5.cell (i := 2) rfl
  refine wpAnyK_take (i := 15) (oi := { dst := some 63, op := Go.Op.nilCheck (Go.Operand.tmp 48), type := 0, pos := "ref.go:33", after := #[{ on := 0, ground := Go.Ground.data }, { on := 0, ground := Go.Ground.phase }, { on := 1, ground := Go.Ground.phase }, { on := 2, ground := Go.Ground.phase }, { on := 3, ground := Go.Ground.phase }, { on := 4, ground := Go.Ground.phase }, { on := 5, ground := Go.Ground.phase }, { on := 6, ground := Go.Ground.phase }, { on := 7, ground := Go.Ground.phase }, { on := 8, ground := Go.Ground.phase }, { on := 9, ground := Go.Ground.phase }, { on := 10, ground := Go.Ground.phase }, { on := 11, ground := Go.Ground.phase }, { on := 12, ground := Go.Ground.phase }, { on := 13, ground := Go.Ground.phase }, { on := 14, ground := Go.Ground.phase }], guard := none }) (v := ?vq16) [16] rfl (by kernel_rfl) (by kernel_rfl) (by kernel_rfl) (by kernel_rfl) (by kernel_rfl) (fun _ _ _ h => h) (Or.inl ⟨by rfl, ?hyq16⟩) (by assumption) ?restq16
  case hyq16 => (intro w0 hSw; (try dsimp only at hSw); go_simp; try with_reducible rfl)
  simp only [Act.put, List.setIfInBounds_toArray, List.set_cons_zero, List.set_cons_succ]
  refine wpAnyK_take (i := 16) (oi := { dst := some 64, op := Go.Op.fieldAddr 51 (Go.Operand.tmp 63) 1, type := 0, pos := "ref.go:33", after := #[{ on := 15, ground := Go.Ground.data }, { on := 0, ground := Go.Ground.phase }, { on := 1, ground := Go.Ground.phase }, { on := 2, ground := Go.Ground.phase }, { on := 3, ground := Go.Ground.phase }, { on := 4, ground := Go.Ground.phase }, { on := 5, ground := Go.Ground.phase }, { on := 6, ground := Go.Ground.phase }, { on := 7, ground := Go.Ground.phase }, { on := 8, ground := Go.Ground.phase }, { on := 9, ground := Go.Ground.phase }, { on := 10, ground := Go.Ground.phase }, { on := 11, ground := Go.Ground.phase }, { on := 12, ground := Go.Ground.phase }, { on := 13, ground := Go.Ground.phase }, { on := 14, ground := Go.Ground.phase }], guard := none }) (v := ?vq17) [] rfl (by kernel_rfl) (by kernel_rfl) (by kernel_rfl) (by kernel_rfl) (by kernel_rfl) (fun _ _ _ h => h) (Or.inl ⟨by rfl, ?hyq17⟩) (by assumption) ?restq17
  case hyq17 => (intro w0 hSw; (try dsimp only at hSw); go_simp; try with_reducible rfl)
  simp only [Act.put, List.setIfInBounds_toArray, List.set_cons_zero, List.set_cons_succ]
  refine wpAnyK_ready (rs := [17]) (by kernel_rfl) (by simp) ?_
  refine AllReadyK.cons (o := { dst := none, op := Go.Op.store 49 (Go.Operand.tmp 64) (Go.Operand.tmp 62), type := 0, pos := "ref.go:33", after := #[{ on := 16, ground := Go.Ground.data }, { on := 14, ground := Go.Ground.data }, { on := 14, ground := Go.Ground.chain }, { on := 0, ground := Go.Ground.phase }, { on := 1, ground := Go.Ground.phase }, { on := 2, ground := Go.Ground.phase }, { on := 3, ground := Go.Ground.phase }, { on := 4, ground := Go.Ground.phase }, { on := 5, ground := Go.Ground.phase }, { on := 6, ground := Go.Ground.phase }, { on := 7, ground := Go.Ground.phase }, { on := 8, ground := Go.Ground.phase }, { on := 9, ground := Go.Ground.phase }, { on := 10, ground := Go.Ground.phase }, { on := 11, ground := Go.Ground.phase }, { on := 12, ground := Go.Ground.phase }, { on := 13, ground := Go.Ground.phase }, { on := 14, ground := Go.Ground.phase }], guard := none }) rfl (fun K hK => ?_) AllReadyK.nil
  go_simp
  refine hK.out _ _ (.inl rfl) (fun _ => ?_)
  clear hK K
  try simp only [Act.put, List.setIfInBounds_toArray, List.set_cons_zero, List.set_cons_succ]
  refine wpAnyK_done (by kernel_rfl) ?_ _
  refine NoPanic.normal ?_
  have HEND := hid (HFIN.out w7 _ b5 c5 hT5 hown5 rfl)
  have hq2 := (hpk5.set 1 (.slice b5 (N + 1) c5)).cell (i := 2) rfl
  clear hown5 hb5 hg5 hHeld f5 e5 hpk5 hT5
  go_wp2
  go_ret2
  exact ⟨by rw [HANS.out, HC.out]; rfl, HEND.out⟩
set_option maxRecDepth 100000 in
theorem RnAt.at {w : World} {B x : Nat} {g : Nt} {eo : Option Addr} {cap : Nat} (h : RnAt w B x g eo cap) (i : Int) : Calls Try.prog 14 #[.pointer (some ⟨x, 0, none⟩), .int .i64 i] w fun e w' => e = .returned (.tuple #[.int .i64 (atV g i), .bool (decide (0 < g.ps.length))]) ∧ w' = w := by
  have c1 := h.blk.cell (i := 1) rfl
  have HH := hid h.held.1
  unfold atV
  by_cases h0 : 0 < g.ps.length
  · rw [if_pos h0, decide_eq_true h0]
    have h1 := Int.emod_nonneg i (b := g.ps.length) (by omega)
    have h2 := Int.emod_lt_of_pos i (b := g.ps.length) (by omega)
    obtain ⟨k, hk⟩ : ∃ k : Nat, i % (g.ps.length : Int) = (k : Int) := ⟨(i % (g.ps.length : Int)).toNat, by omega⟩
    rw [hk]
    have hkl : k < g.ps.length := by omega
    rw [show g.ps.getD (k : Int).toNat ⟨0, 0, 0, ⟨#[]⟩⟩ = g.ps[k] by simp [List.getD, List.getElem?_eq_getElem hkl]]
    obtain ⟨b, off, hao, _, d0, dx⟩ := HH.out.cellsD hkl
    clear dx
    obtain ⟨t1, t2, t3, t4⟩ := tmod_parts i g.ps.length (by omega)
    have hfew := h.few
    obtain ⟨y, HY⟩ : ∃ y, Hid (g.ps[k].id = y) := ⟨_, hid rfl⟩
    rw [HY.out] at d0 ⊢
    subst hao
    have hne : ((g.ps.length : Int) == 0) = false := by simp only [beq_eq_false_iff_ne]; omega
    obtain ⟨N, HN⟩ : ∃ N, Hid (g.ps.length = N) := ⟨_, hid rfl⟩
    rw [HN.out] at t1 t2 t3 t4 hfew hne c1 h1 h2 hk
    have hN0 : 0 < N := by rw [← HN.out]; exact h0
    have hkN : (k : Int) < (N : Int) := by rw [← HN.out]; omega
    clear h HH HY HN
    by_cases hneg : i.tmod N < 0
    · have e : i.tmod N + N = k := by rw [t3 hneg, hk]
      have hcell' : w.cell? ⟨b, off + (i.tmod N + N).toNat * 4, none⟩ = some (.int .i64 y) := by rw [e]; exact d0
      have g2 : 0 ≤ i.tmod N + N := by omega
      have g3 : i.tmod N + N < N := by omega
      have hwr : wrap64 (i.tmod N + N) = i.tmod N + N := wrapN (by omega) (by omega)
      clear t3 t4 hk e d0 h1 h2
      go_enter Try.func14, Try.ntmps14
      go_wp2
      go_ret2
      exact ⟨rfl, rfl⟩
    · have e : i.tmod N = k := by rw [t4 (by omega), hk]
      have hcell' : w.cell? ⟨b, off + (i.tmod N).toNat * 4, none⟩ = some (.int .i64 y) := by rw [e]; exact d0
      have g2 : 0 ≤ i.tmod N := by omega
      clear t3 t4 hk e d0 h1 h2
      go_enter Try.func14, Try.ntmps14
      go_wp2
      go_ret2
      exact ⟨rfl, rfl⟩
  · rw [if_neg h0, decide_eq_false h0]
    have hz : g.ps.length = 0 := by omega
    rw [hz] at c1
    clear h h0 hz
    go_enter Try.func14, Try.ntmps14
    go_wp2
    go_ret2
    exact ⟨rfl, rfl⟩
end Go.Proofs.Ytoacfdicjpoohaa
