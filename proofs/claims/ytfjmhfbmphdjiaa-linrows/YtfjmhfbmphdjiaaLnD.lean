/-
  Package lin: what Ids asks of a sight (Ids$1).
-/
import Derived.Test.YtfjmhfbmphdjiaaLnC
namespace Go.Proofs.Ytfjmhfbmphdjiaa
open Go.RowKit Go.Maps

/-- A drawn region that only reads and calls what makes memory beyond W. -/
theorem wp_region_beyS {P : Program} {id : Nat} {Q : Exit → Act → World → Prop} {a : Act} {w : World} {l : List Oper} (W : World) (hm : P.follows .mixedOrders = true) (hB : Region.lexB .any l.toArray = true) (hb : Below W.heap.size W w)
    (h : wpQuiet P l.toArray (fun w' => ∃ X : Beyond W, w' = X.now) (fun a' => ∀ w', (∃ X : Beyond W, w' = X.now) → Q .normal a' w') l a) : (Code.region id l.toArray true).wp P Q a w :=
  wp_region_quiet (C := fun w' => ∃ X : Beyond W, w' = X.now) hm hB ⟨⟨_, below_dn hb 1⟩, rfl⟩ (by simpa using h)
theorem beyS_call {P : Program} {f : FuncId} {args : Array Value} {W : World} {v : Value} (X : Beyond W) (h : Calls P f args X.now fun e w' => e = .returned v ∧ Below X.now.heap.size X.now w') : Calls P f args X.now (fun e w'' => e = .returned v ∧ ∃ Y : Beyond W, w'' = Y.now) :=
  h.mono fun _ w' hh => ⟨hh.1, ⟨w', bt' X.is hh.2⟩, rfl⟩
/-- V lies behind W: what was there is as it was. -/
structure ScS (W V : World) : Prop where
  out : Below W.heap.size W V
theorem ScS.start (W : World) : ScS W W := ⟨Below.refl _ _⟩
theorem ScS.go {W V U : World} (h : ScS W V) (hb : Below V.heap.size V U) : ScS W U := ⟨bt' h.out hb⟩
theorem ScS.dr {W V : World} (h : ScS W V) : ScS W V.drew := ⟨below_dn h.out 1⟩
theorem ScS.alloc {W V : World} (h : ScS W V) (o : Obj) : ScS W (V.alloc o) := ⟨h.out.alloc h.out.size _⟩
theorem ScS.grown {W V U : World} (h : ScS W V) (hb : Below W.heap.size V U) : ScS W U := ⟨h.out.trans hb⟩
theorem ScS.size {W V : World} (h : ScS W V) : W.heap.size ≤ V.heap.size := h.out.size
theorem ScS.blk {W V : World} (h : ScS W V) {b : Nat} {t : TypeId} {cs : List Value} (hb : Blk W b t cs) : Blk V b t cs := hb.below h.out hb.lt
/-- Was the sight told an order that is not its token's? -/
def wrongS (ts : List ByteArray) (s : Sn) : Bool := (decide (s.e ≠ 0) && (s.co || !decide (s.id = 0))) && !isOrd ts s.id s.tok
set_option maxRecDepth 1000000 in
set_option maxHeartbeats 2000000 in
theorem ids1_any (w : World) (s : Sn) (p : Nat) (ao : Option Addr) (cap : Nat) (ts : List ByteArray) (hp : Blk w p 23 [.slice ao ts.length cap]) (h : HeldStr w ao ts) (hl : ts.length ≤ 140737488355328) :
    Calls Try.prog 30 #[s.val, .pointer (some ⟨p, 0, none⟩)] w (SaysB w (wrongS ts s)) := by
  obtain ⟨W, hW⟩ : ∃ W, W = w.alloc (.cells s.cells.toArray 31) := ⟨_, rfl⟩
  have HB : Hid (Below w.heap.size w W) := by rw [hW]; exact one_new _ _
  have HK : Hid (Blk W w.heap.size 31 s.cells) := by rw [hW]; exact Blk.new w _ _
  have HP : Hid (Blk W p 23 [.slice ao ts.length cap]) := hp.below HB.out hp.lt
  have HE : Hid (∀ V, ScS W V → Calls Try.prog 26 #[s.val] V (SaysB V (decide (s.e ≠ 0)))) := fun V _ => ended_any V s
  have HC : Hid (∀ V, ScS W V → Calls Try.prog 23 #[s.val] V (SaysB V s.co)) := fun V _ => isCheckout_any V s
  have HT : Hid (∀ V, ScS W V → Calls Try.prog 27 #[.int .i64 0] V fun e w' => ∃ p, e = .returned (Qf.told p 0).val ∧ (Qf.told p 0).In w' ∧ Below V.heap.size V w') := fun V _ => told_any V 0
  have HT1 : Hid (∀ V q, ScS W V → (Qf.told q 0).In V → Calls Try.prog 37 #[s.val, .pointer (some ⟨q, 0, none⟩)] V (SaysB V (decide (s.id = 0)))) := fun V q _ hq => told1_any V q 0 hq s
  have HO : Hid (∀ V, ScS W V → Calls Try.prog 31 #[.slice ao ts.length cap, .int .i64 s.id, .string s.tok] V (SaysB V (isOrd ts s.id s.tok))) := fun V hV => isOrder_any V ao cap ts ((h.below HB.out).below hV.out) hl s.id s.tok
  have HW := hid hW
  clear hW hp h hl
  obtain ⟨IO, HIO⟩ : ∃ m, Hid (isOrd ts s.id s.tok = m) := ⟨_, hid rfl⟩
  obtain ⟨WS, HWS⟩ : ∃ m, Hid (wrongS ts s = m) := ⟨_, hid rfl⟩
  have HWE : Hid (WS = ((decide (s.e ≠ 0) && (s.co || !decide (s.id = 0))) && !IO)) := by rw [← HWS.out, ← HIO.out]; exact rfl
  rw [HWS.out]
  rw [HIO.out] at HO
  clear HIO HWS
  obtain ⟨n, hn⟩ : ∃ n, n = ts.length := ⟨_, rfl⟩
  rw [← hn] at HP HO
  clear hn
  obtain ⟨co, tok, b, e, id⟩ := s
  simp only [Sn.val, Sn.cells] at HE HC HT1 HO HK HW HWE ⊢
  obtain ⟨q, hq⟩ : ∃ q, q = w.heap.size := ⟨_, rfl⟩
  rw [← hq] at HK
  have HSA : Hid (∀ V, ScS W V → (ScS W V ∧ V.cell? ⟨q, 0, none⟩ = some (.bool co) ∧ V.cell? ⟨q, 1, none⟩ = some (.string tok) ∧ V.cell? ⟨q, 2, none⟩ = some (.int .i64 b) ∧ V.cell? ⟨q, 3, none⟩ = some (.int .i64 e) ∧ V.cell? ⟨q, 4, none⟩ = some (.int .i64 id) ∧ V.cell? ⟨p, 0, none⟩ = some (.slice ao n cap))) := fun V hV => by
    have h1 := hV.blk HK.out
    exact ⟨hV, h1.cell rfl, h1.cell rfl, h1.cell rfl, h1.cell rfl, h1.cell rfl, (hV.blk HP.out).cell rfl⟩
  have k0 := fun X : Beyond W => (HSA.out X.now ⟨X.is⟩).2.1
  have k1 := fun X : Beyond W => (HSA.out X.now ⟨X.is⟩).2.2.1
  have k2 := fun X : Beyond W => (HSA.out X.now ⟨X.is⟩).2.2.2.1
  have k3 := fun X : Beyond W => (HSA.out X.now ⟨X.is⟩).2.2.2.2.1
  have k4 := fun X : Beyond W => (HSA.out X.now ⟨X.is⟩).2.2.2.2.2.1
  have kp := fun X : Beyond W => (HSA.out X.now ⟨X.is⟩).2.2.2.2.2.2
  have HEX := hid (fun X : Beyond W => beyS_call X (HE.out X.now ⟨X.is⟩))
  have HCX := hid (fun X : Beyond W => beyS_call X (HC.out X.now ⟨X.is⟩))
  have HOX := hid (fun X : Beyond W => beyS_call X (HO.out X.now ⟨X.is⟩))
  have HQ := hid hq
  clear hq
  by_cases h1 : e = 0
  · have hd : decide (e ≠ 0) = false := by simp [h1]
    rw [hd] at HEX HWE
    have hm : WS = false := by rw [HWE.out]; rfl
    subst hm
    clear hd h1 HE HC HT HT1 HO HWE
    go_enter Try.func30, Try.ntmps30
    go_wp2
    rw [← HW.out, ← HQ.out]
    refine wp_region_beyS W (by kernel_rfl) (by kernel_rfl) (Below.refl _ _) ?_
    repeat (go_big_quiet_step (first | (go_at_call 26; exact HEX.out _) | (go_at_call 23; exact HCX.out _) | (go_at_call 31; exact HOX.out _)))
    refine wpQuiet_nil ?_
    rintro _ ⟨X, rfl⟩
    have HBX := hid (bt' HB.out X.is)
    go_wp2
    go_ret
    exact ⟨rfl, HBX.out⟩
  · have hd : decide (e ≠ 0) = true := by simp [h1]
    rw [hd] at HEX HE HWE
    cases co with
    | true =>
      have hm : WS = !IO := by rw [HWE.out]; rfl
      subst hm
      clear hd h1 HE HC HT HT1 HO HWE
      go_enter Try.func30, Try.ntmps30
      go_wp2
      rw [← HW.out, ← HQ.out]
      refine wp_region_beyS W (by kernel_rfl) (by kernel_rfl) (Below.refl _ _) ?_
      repeat (go_big_quiet_step (first | (go_at_call 26; exact HEX.out _) | (go_at_call 23; exact HCX.out _) | (go_at_call 31; exact HOX.out _)))
      refine wpQuiet_nil ?_
      rintro _ ⟨X, rfl⟩
      have HBX := hid (bt' HB.out X.is)
      go_wp2
      go_ret
      exact ⟨rfl, HBX.out⟩
    | false =>
      clear HEX HCX HOX k0 k1 k2 k3 k4 kp
      by_cases h2 : id = 0
      · have hd2 : decide (id = 0) = true := by simp [h2]
        rw [hd2] at HT1 HWE
        have hm : WS = false := by rw [HWE.out]; rfl
        subst hm
        clear hd h1 HWE hd2 h2
        go_enter Try.func30, Try.ntmps30
        go_wp2
        rw [← HW.out, ← HQ.out]
        refine wp_region_noPanic ?_
        refine wp_region_held_drew (S := (fun V => ScS W V ∧ V.cell? ⟨q, 0, none⟩ = some (.bool false) ∧ V.cell? ⟨q, 1, none⟩ = some (.string tok) ∧ V.cell? ⟨q, 2, none⟩ = some (.int .i64 b) ∧ V.cell? ⟨q, 3, none⟩ = some (.int .i64 e) ∧ V.cell? ⟨q, 4, none⟩ = some (.int .i64 id) ∧ V.cell? ⟨p, 0, none⟩ = some (.slice ao n cap))) (by kernel_rfl) (HSA.out _ (ScS.start W).dr) (fun hHeld => ?_)
        have hs0 := (ScS.start W).dr
        refine wpAnyH_take (i := 0) (oi := { dst := some 4, op := Go.Op.load 31 (Go.Operand.tmp 2), type := 31, pos := "lin.go:37", after := #[], guard := none }) (v := ?va0) rfl (by kernel_rfl) (by kernel_rfl) (by kernel_rfl) (fun _ _ _ h => h) (Or.inl ⟨by rfl, ?hya0⟩) (by assumption) ?resta0
        case hya0 => (intro w0 hSw; (try dsimp only at hSw); go_simp; try with_reducible rfl)
        simp only [Act.put, List.setIfInBounds_toArray, List.set_cons_zero, List.set_cons_succ]
        refine wpAnyH_ready (rs := [1]) (by kernel_rfl) (by simp) ?_
        refine AllReadyH.cons (o := { dst := some 5, op := Go.Op.call { callee := Go.Callee.value (Go.Operand.func 26), args := #[Go.Operand.tmp 4], argTypes := #[31] }, type := 4, pos := "lin.go:37", after := #[{ on := 0, ground := Go.Ground.data }], guard := none }) rfl (fun K hK => ?_) AllReadyH.nil
        go_simp
        refine (HE.out _ (by (repeat (first | assumption | exact ScS.start _ | apply ScS.dr)))).mono ?_
        rintro e1 w1 ⟨rfl, hb1⟩
        have hs1 := ScS.go (W := W) (by (repeat (first | assumption | exact ScS.start _ | apply ScS.dr))) hb1
        have hs0 := hs1
        clear hb1
        go_simp
        refine hK.out _ _ (HSA.out _ hs0) (fun hHeld => ?_)
        clear hK K
        try simp only [Act.put, List.setIfInBounds_toArray, List.set_cons_zero, List.set_cons_succ]
        refine wpAnyH_take (i := 2) (oi := { dst := some 6, op := Go.Op.move (Go.Operand.tmp 5), type := 4, pos := "lin.go:37", after := #[{ on := 1, ground := Go.Ground.data }, { on := 1, ground := Go.Ground.chain }], guard := none }) (v := ?va2) rfl (by kernel_rfl) (by kernel_rfl) (by kernel_rfl) (fun _ _ _ h => h) (Or.inl ⟨by rfl, ?hya2⟩) (by assumption) ?resta2
        case hya2 => (intro w0 hSw; (try dsimp only at hSw); go_simp; try with_reducible rfl)
        simp only [Act.put, List.setIfInBounds_toArray, List.set_cons_zero, List.set_cons_succ]
        refine wpAnyH_take (i := 3) (oi := { dst := some 7, op := Go.Op.load 31 (Go.Operand.tmp 2), type := 31, pos := "lin.go:37", after := #[{ on := 2, ground := Go.Ground.guard }], guard := some (2, true) }) (v := ?va3) rfl (by kernel_rfl) (by kernel_rfl) (by kernel_rfl) (fun _ _ _ h => h) (Or.inl ⟨by rfl, ?hya3⟩) (by assumption) ?resta3
        case hya3 => (intro w0 hSw; (try dsimp only at hSw); go_simp; try with_reducible rfl)
        simp only [Act.put, List.setIfInBounds_toArray, List.set_cons_zero, List.set_cons_succ]
        refine wpAnyH_ready (rs := [4]) (by kernel_rfl) (by simp) ?_
        refine AllReadyH.cons (o := { dst := some 8, op := Go.Op.call { callee := Go.Callee.value (Go.Operand.func 23), args := #[Go.Operand.tmp 7], argTypes := #[31] }, type := 4, pos := "lin.go:37", after := #[{ on := 3, ground := Go.Ground.data }, { on := 2, ground := Go.Ground.chain }, { on := 2, ground := Go.Ground.guard }], guard := some (2, true) }) rfl (fun K hK => ?_) AllReadyH.nil
        go_simp
        refine (HC.out _ (by (repeat (first | assumption | exact ScS.start _ | apply ScS.dr)))).mono ?_
        rintro e2 w2 ⟨rfl, hb2⟩
        have hs2 := ScS.go (W := W) (by (repeat (first | assumption | exact ScS.start _ | apply ScS.dr))) hb2
        clear hb2 hs1 hs0
        have hs0 := hs2
        go_simp
        refine hK.out _ _ (HSA.out _ hs0) (fun hHeld => ?_)
        clear hK K
        try simp only [Act.put, List.setIfInBounds_toArray, List.set_cons_zero, List.set_cons_succ]
        refine wpAnyH_take (i := 5) (oi := { dst := some 9, op := Go.Op.move (Go.Operand.tmp 8), type := 4, pos := "lin.go:37", after := #[{ on := 4, ground := Go.Ground.data }, { on := 4, ground := Go.Ground.chain }, { on := 2, ground := Go.Ground.guard }], guard := some (2, true) }) (v := ?va5) rfl (by kernel_rfl) (by kernel_rfl) (by kernel_rfl) (fun _ _ _ h => h) (Or.inl ⟨by rfl, ?hya5⟩) (by assumption) ?resta5
        case hya5 => (intro w0 hSw; (try dsimp only at hSw); go_simp; try with_reducible rfl)
        simp only [Act.put, List.setIfInBounds_toArray, List.set_cons_zero, List.set_cons_succ]
        refine wpAnyH_take (i := 7) (oi := { dst := some 11, op := Go.Op.load 31 (Go.Operand.tmp 2), type := 31, pos := "lin.go:37", after := #[{ on := 5, ground := Go.Ground.guard }], guard := some (5, false) }) (v := ?va7) rfl (by kernel_rfl) (by kernel_rfl) (by kernel_rfl) (fun _ _ _ h => h) (Or.inl ⟨by rfl, ?hya7⟩) (by assumption) ?resta7
        case hya7 => (intro w0 hSw; (try dsimp only at hSw); go_simp; try with_reducible rfl)
        simp only [Act.put, List.setIfInBounds_toArray, List.set_cons_zero, List.set_cons_succ]
        refine wpAnyH_ready (rs := [6]) (by kernel_rfl) (by simp) ?_
        refine AllReadyH.cons (o := { dst := some 10, op := Go.Op.call { callee := Go.Callee.value (Go.Operand.func 27), args := #[Go.Operand.const (Go.Value.int Go.IntKind.i64 0)], argTypes := #[3] }, type := 38, pos := "lin.go:37", after := #[{ on := 5, ground := Go.Ground.chain }, { on := 5, ground := Go.Ground.guard }], guard := some (5, false) }) rfl (fun K hK => ?_) AllReadyH.nil
        go_simp
        refine (HT.out _ (by (repeat (first | assumption | exact ScS.start _ | apply ScS.dr)))).mono ?_
        rintro e3 w3 ⟨pt, rfl, hin, hb3⟩
        have hs3 := ScS.go (W := W) (by (repeat (first | assumption | exact ScS.start _ | apply ScS.dr))) hb3
        have HIN := hid hin
        clear hb3 hs2 hin hs0
        have hs0 := hs3
        simp only [Qf.val]
        go_simp
        refine hK.out _ _ (HSA.out _ hs0) (fun hHeld => ?_)
        clear hK K
        try simp only [Act.put, List.setIfInBounds_toArray, List.set_cons_zero, List.set_cons_succ]
        refine wpAnyH_ready (rs := [8]) (by kernel_rfl) (by simp) ?_
        refine AllReadyH.cons (o := { dst := some 12, op := Go.Op.call { callee := Go.Callee.value (Go.Operand.tmp 10), args := #[Go.Operand.tmp 11], argTypes := #[31] }, type := 4, pos := "lin.go:37", after := #[{ on := 6, ground := Go.Ground.data }, { on := 7, ground := Go.Ground.data }, { on := 6, ground := Go.Ground.chain }, { on := 5, ground := Go.Ground.guard }], guard := some (5, false) }) rfl (fun K hK => ?_) AllReadyH.nil
        go_simp
        refine (HT1.out _ _ (by (repeat (first | assumption | exact ScS.start _ | apply ScS.dr))) HIN.out).mono ?_
        rintro e4 w4 ⟨rfl, hb4⟩
        have hs4 := ScS.go (W := W) (by (repeat (first | assumption | exact ScS.start _ | apply ScS.dr))) hb4
        clear hb4 hs3 hs0
        have hs0 := hs4
        go_simp
        refine hK.out _ _ (HSA.out _ hs0) (fun hHeld => ?_)
        clear hK K
        try simp only [Act.put, List.setIfInBounds_toArray, List.set_cons_zero, List.set_cons_succ]
        refine wpAnyH_take (i := 9) (oi := { dst := some 13, op := Go.Op.unOp Go.UnOp.not 4 (Go.Operand.tmp 12), type := 4, pos := "lin.go:37", after := #[{ on := 8, ground := Go.Ground.data }, { on := 5, ground := Go.Ground.guard }], guard := some (5, false) }) (v := ?va9) rfl (by kernel_rfl) (by kernel_rfl) (by kernel_rfl) (fun _ _ _ h => h) (Or.inl ⟨by rfl, ?hya9⟩) (by assumption) ?resta9
        case hya9 => (intro w0 hSw; (try dsimp only at hSw); go_simp; try with_reducible rfl)
        simp only [Act.put, List.setIfInBounds_toArray, List.set_cons_zero, List.set_cons_succ]
        refine wpAnyH_take (i := 10) (oi := { dst := some 14, op := Go.Op.pick (Go.Operand.tmp 9) (Go.Operand.const (Go.Value.bool true)) (Go.Operand.tmp 13), type := 4, pos := "lin.go:37", after := #[{ on := 5, ground := Go.Ground.data }, { on := 9, ground := Go.Ground.data }, { on := 2, ground := Go.Ground.guard }], guard := some (2, true) }) (v := ?va10) rfl (by kernel_rfl) (by kernel_rfl) (by kernel_rfl) (fun _ _ _ h => h) (Or.inl ⟨by rfl, ?hya10⟩) (by assumption) ?resta10
        case hya10 => (intro w0 hSw; (try dsimp only at hSw); go_simp; try with_reducible rfl)
        simp only [Act.put, List.setIfInBounds_toArray, List.set_cons_zero, List.set_cons_succ]
        refine wpAnyH_take (i := 11) (oi := { dst := some 15, op := Go.Op.pick (Go.Operand.tmp 6) (Go.Operand.tmp 14) (Go.Operand.const (Go.Value.bool false)), type := 4, pos := "lin.go:37", after := #[{ on := 2, ground := Go.Ground.data }, { on := 10, ground := Go.Ground.data }], guard := none }) (v := ?va11) rfl (by kernel_rfl) (by kernel_rfl) (by kernel_rfl) (fun _ _ _ h => h) (Or.inl ⟨by rfl, ?hya11⟩) (by assumption) ?resta11
        case hya11 => (intro w0 hSw; (try dsimp only at hSw); go_simp; try with_reducible rfl)
        simp only [Act.put, List.setIfInBounds_toArray, List.set_cons_zero, List.set_cons_succ]
        refine wpAnyH_take (i := 12) (oi := { dst := some 16, op := Go.Op.move (Go.Operand.tmp 15), type := 4, pos := "lin.go:37", after := #[{ on := 11, ground := Go.Ground.data }, { on := 8, ground := Go.Ground.chain }], guard := none }) (v := ?va12) rfl (by kernel_rfl) (by kernel_rfl) (by kernel_rfl) (fun _ _ _ h => h) (Or.inl ⟨by rfl, ?hya12⟩) (by assumption) ?resta12
        case hya12 => (intro w0 hSw; (try dsimp only at hSw); go_simp; try with_reducible rfl)
        simp only [Act.put, List.setIfInBounds_toArray, List.set_cons_zero, List.set_cons_succ]
        refine wpAnyH_take (i := 13) (oi := { dst := some 17, op := Go.Op.load 23 (Go.Operand.tmp 1), type := 23, pos := "lin.go:37", after := #[{ on := 12, ground := Go.Ground.guard }], guard := some (12, true) }) (v := undef) rfl (by kernel_rfl) (by kernel_rfl) (by kernel_rfl) (fun _ _ _ h => h) (Or.inr ⟨by rfl, rfl⟩) (by assumption) ?_
        simp only [Act.put, List.setIfInBounds_toArray, List.set_cons_zero, List.set_cons_succ]
        refine wpAnyH_take (i := 14) (oi := { dst := some 18, op := Go.Op.fieldAddr 31 (Go.Operand.tmp 2) 4, type := 0, pos := "lin.go:37", after := #[{ on := 12, ground := Go.Ground.guard }], guard := some (12, true) }) (v := undef) rfl (by kernel_rfl) (by kernel_rfl) (by kernel_rfl) (fun _ _ _ h => h) (Or.inr ⟨by rfl, rfl⟩) (by assumption) ?_
        simp only [Act.put, List.setIfInBounds_toArray, List.set_cons_zero, List.set_cons_succ]
        refine wpAnyH_take (i := 15) (oi := { dst := some 19, op := Go.Op.load 3 (Go.Operand.tmp 18), type := 3, pos := "lin.go:37", after := #[{ on := 14, ground := Go.Ground.data }, { on := 12, ground := Go.Ground.guard }], guard := some (12, true) }) (v := undef) rfl (by kernel_rfl) (by kernel_rfl) (by kernel_rfl) (fun _ _ _ h => h) (Or.inr ⟨by rfl, rfl⟩) (by assumption) ?_
        simp only [Act.put, List.setIfInBounds_toArray, List.set_cons_zero, List.set_cons_succ]
        refine wpAnyH_take (i := 16) (oi := { dst := some 20, op := Go.Op.fieldAddr 31 (Go.Operand.tmp 2) 1, type := 0, pos := "lin.go:37", after := #[{ on := 12, ground := Go.Ground.guard }], guard := some (12, true) }) (v := undef) rfl (by kernel_rfl) (by kernel_rfl) (by kernel_rfl) (fun _ _ _ h => h) (Or.inr ⟨by rfl, rfl⟩) (by assumption) ?_
        simp only [Act.put, List.setIfInBounds_toArray, List.set_cons_zero, List.set_cons_succ]
        refine wpAnyH_take (i := 17) (oi := { dst := some 21, op := Go.Op.load 9 (Go.Operand.tmp 20), type := 9, pos := "lin.go:37", after := #[{ on := 16, ground := Go.Ground.data }, { on := 12, ground := Go.Ground.guard }], guard := some (12, true) }) (v := undef) rfl (by kernel_rfl) (by kernel_rfl) (by kernel_rfl) (fun _ _ _ h => h) (Or.inr ⟨by rfl, rfl⟩) (by assumption) ?_
        simp only [Act.put, List.setIfInBounds_toArray, List.set_cons_zero, List.set_cons_succ]
        refine wpAnyH_take (i := 18) (oi := { dst := some 22, op := Go.Op.call { callee := Go.Callee.value (Go.Operand.func 31), args := #[Go.Operand.tmp 17, Go.Operand.tmp 19, Go.Operand.tmp 21], argTypes := #[23, 3, 9] }, type := 4, pos := "lin.go:37", after := #[{ on := 13, ground := Go.Ground.data }, { on := 15, ground := Go.Ground.data }, { on := 17, ground := Go.Ground.data }, { on := 12, ground := Go.Ground.chain }, { on := 12, ground := Go.Ground.guard }], guard := some (12, true) }) (v := undef) rfl (by kernel_rfl) (by kernel_rfl) (by kernel_rfl) (fun _ _ _ h => h) (Or.inr ⟨by rfl, rfl⟩) (by assumption) ?_
        simp only [Act.put, List.setIfInBounds_toArray, List.set_cons_zero, List.set_cons_succ]
        refine wpAnyH_take (i := 19) (oi := { dst := some 23, op := Go.Op.unOp Go.UnOp.not 4 (Go.Operand.tmp 22), type := 4, pos := "lin.go:37", after := #[{ on := 18, ground := Go.Ground.data }, { on := 12, ground := Go.Ground.guard }], guard := some (12, true) }) (v := undef) rfl (by kernel_rfl) (by kernel_rfl) (by kernel_rfl) (fun _ _ _ h => h) (Or.inr ⟨by rfl, rfl⟩) (by assumption) ?_
        simp only [Act.put, List.setIfInBounds_toArray, List.set_cons_zero, List.set_cons_succ]
        refine wpAnyH_take (i := 20) (oi := { dst := some 24, op := Go.Op.pick (Go.Operand.tmp 16) (Go.Operand.tmp 23) (Go.Operand.const (Go.Value.bool false)), type := 4, pos := "lin.go:37", after := #[{ on := 12, ground := Go.Ground.data }, { on := 19, ground := Go.Ground.data }], guard := none }) (v := ?va20) rfl (by kernel_rfl) (by kernel_rfl) (by kernel_rfl) (fun _ _ _ h => h) (Or.inl ⟨by rfl, ?hya20⟩) (by assumption) ?resta20
        case hya20 => (intro w0 hSw; (try dsimp only at hSw); go_simp; try with_reducible rfl)
        simp only [Act.put, List.setIfInBounds_toArray, List.set_cons_zero, List.set_cons_succ]
        refine wpAnyH_take (i := 21) (oi := { dst := some 3, op := Go.Op.assign (Go.Operand.tmp 24), type := 4, pos := "lin.go:37", after := #[{ on := 20, ground := Go.Ground.data }, { on := 18, ground := Go.Ground.chain }, { on := 0, ground := Go.Ground.phase }, { on := 1, ground := Go.Ground.phase }, { on := 2, ground := Go.Ground.phase }, { on := 3, ground := Go.Ground.phase }, { on := 4, ground := Go.Ground.phase }, { on := 5, ground := Go.Ground.phase }, { on := 6, ground := Go.Ground.phase }, { on := 7, ground := Go.Ground.phase }, { on := 8, ground := Go.Ground.phase }, { on := 9, ground := Go.Ground.phase }, { on := 10, ground := Go.Ground.phase }, { on := 11, ground := Go.Ground.phase }, { on := 12, ground := Go.Ground.phase }, { on := 13, ground := Go.Ground.phase }, { on := 14, ground := Go.Ground.phase }, { on := 15, ground := Go.Ground.phase }, { on := 16, ground := Go.Ground.phase }, { on := 17, ground := Go.Ground.phase }, { on := 18, ground := Go.Ground.phase }, { on := 19, ground := Go.Ground.phase }, { on := 20, ground := Go.Ground.phase }], guard := none }) (v := ?va21) rfl (by kernel_rfl) (by kernel_rfl) (by kernel_rfl) (fun _ _ _ h => h) (Or.inl ⟨by rfl, ?hya21⟩) (by assumption) ?resta21
        case hya21 => (intro w0 hSw; (try dsimp only at hSw); go_simp; try with_reducible rfl)
        simp only [Act.put, List.setIfInBounds_toArray, List.set_cons_zero, List.set_cons_succ]
        refine wpAnyH_done (by kernel_rfl) ?_ _
        refine NoPanic.normal ?_
        have HBX := hid (bt' HB.out hs4.out)
        go_wp2
        go_ret
        exact ⟨rfl, HBX.out⟩
      · have hd2 : decide (id = 0) = false := by simp [h2]
        rw [hd2] at HT1 HWE
        have hm : WS = !IO := by rw [HWE.out]; rfl
        subst hm
        clear hd h1 HWE hd2 h2
        go_enter Try.func30, Try.ntmps30
        go_wp2
        rw [← HW.out, ← HQ.out]
        refine wp_region_noPanic ?_
        go_region_held (fun V => ScS W V ∧ V.cell? ⟨q, 0, none⟩ = some (.bool false) ∧ V.cell? ⟨q, 1, none⟩ = some (.string tok) ∧ V.cell? ⟨q, 2, none⟩ = some (.int .i64 b) ∧ V.cell? ⟨q, 3, none⟩ = some (.int .i64 e) ∧ V.cell? ⟨q, 4, none⟩ = some (.int .i64 id) ∧ V.cell? ⟨p, 0, none⟩ = some (.slice ao n cap))
          (first | (refine ⟨?_, ?_, ?_, ?_, ?_, ?_, ?_⟩ <;> assumption) | (refine HSA.out _ ?_; first | assumption | (repeat (first | assumption | exact ScS.start _ | apply ScS.dr))))
          (first
            | (go_at_call 26; refine (HE.out _ (by (repeat (first | assumption | exact ScS.start _ | apply ScS.dr)))).mono ?_; rintro e1 w1 ⟨rfl, hb1⟩; have hs1 := ScS.go (W := W) (by (repeat (first | assumption | exact ScS.start _ | apply ScS.dr))) hb1; clear hb1)
            | (go_at_call 23; refine (HC.out _ (by (repeat (first | assumption | exact ScS.start _ | apply ScS.dr)))).mono ?_; rintro e2 w2 ⟨rfl, hb2⟩; have hs2 := ScS.go (W := W) (by (repeat (first | assumption | exact ScS.start _ | apply ScS.dr))) hb2; clear hb2 hs1)
            | (go_at_call 27; refine (HT.out _ (by (repeat (first | assumption | exact ScS.start _ | apply ScS.dr)))).mono ?_; rintro e3 w3 ⟨pt, rfl, hin, hb3⟩; have hs3 := ScS.go (W := W) (by (repeat (first | assumption | exact ScS.start _ | apply ScS.dr))) hb3; have HIN := hid hin; clear hb3 hs2 hin; simp only [Qf.val])
            | (go_at_call 37; refine (HT1.out _ _ (by (repeat (first | assumption | exact ScS.start _ | apply ScS.dr))) HIN.out).mono ?_; rintro e4 w4 ⟨rfl, hb4⟩; have hs4 := ScS.go (W := W) (by (repeat (first | assumption | exact ScS.start _ | apply ScS.dr))) hb4; clear hb4 hs3 HIN)
            | (go_at_call 31; refine (HO.out _ (by (repeat (first | assumption | exact ScS.start _ | apply ScS.dr)))).mono ?_; rintro e5 w5 ⟨rfl, hb5⟩; have hs5 := ScS.go (W := W) (by (repeat (first | assumption | exact ScS.start _ | apply ScS.dr))) hb5; clear hb5 hs4)
            | fail)
        refine NoPanic.normal ?_
        have HBX := hid (bt' HB.out hs5.out)
        go_wp2
        go_ret
        exact ⟨rfl, HBX.out⟩
end Go.Proofs.Ytfjmhfbmphdjiaa
