/-
  pannierlaw16.AcceptorReplays answers true for whatever records.
-/
import Derived.Test.YtfmnbehopdmahaaGreatStrO
import Derived.Test.YtfmnbehopdmahaaGreatOrdK
import Derived.Deep.RegionHeld3
namespace Go.Proofs.YtfmnbehopdmahaaGreat
open Go.RowKit Go.Maps

/-- Both have the same. -/
def Dor (w : World) (p m x : Nat) (a : Ac) (V : World) : Prop := AcIn w.heap.size V p m a ∧ (∃ xs ro rc, RaIn w.heap.size V x a xs ro rc) ∧ Below w.heap.size w V
/-- The program's has replayed, the document's not yet. -/
def Dos (w : World) (p m x : Nat) (a b : Ac) (V : World) : Prop := AcIn w.heap.size V p m b ∧ (∃ xs ro rc, RaIn w.heap.size V x a xs ro rc) ∧ Below w.heap.size w V
theorem Dor.below {w V V' : World} {p m x : Nat} {a : Ac} (h : Dor w p m x a V) (hb : Below V.heap.size V V') : Dor w p m x a V' := by
  obtain ⟨h1, ⟨xs, ro, rc, h2⟩, h3⟩ := h
  exact ⟨h1.below hb, ⟨xs, ro, rc, h2.below hb⟩, bt' h3 hb⟩
theorem Dos.below {w V V' : World} {p m x : Nat} {a b : Ac} (h : Dos w p m x a b V) (hb : Below V.heap.size V V') : Dos w p m x a b V' := by
  obtain ⟨h1, ⟨xs, ro, rc, h2⟩, h3⟩ := h
  exact ⟨h1.below hb, ⟨xs, ro, rc, h2.below hb⟩, bt' h3 hb⟩
theorem dor_repl (w : World) (p m x : Nat) (a : Ac) (rec : ByteArray) (hs : rec.size ≤ maxLen) : ∃ (E : Int) (b : Ac),
    (∀ V, Dor w p m x a V → Calls Tryz.prog 16 #[.pointer (some ⟨p, 0, none⟩), .string rec] V fun e w' => e = .returned (.int .i64 E) ∧ Dos w p m x a b w') ∧
    (∀ V, Dos w p m x a b V → Calls Tryz.prog 17 #[.pointer (some ⟨x, 0, none⟩), .string rec] V fun e w' => e = .returned (.int .i64 E) ∧ Dor w p m x b w') := by
  obtain ⟨b, E, h1, h2⟩ := repl_both a rec
  refine ⟨E, b, fun V hV => ?_, fun V hV => ?_⟩
  · obtain ⟨hA, ⟨xs, ro, rc, hR⟩, hb⟩ := hV
    refine (hA.at'.replay rec hs).mono ?_
    intro e w' hP
    obtain ⟨he, hat, ht⟩ := h1 _ _ _ _ _ hP
    exact ⟨he, ⟨hat, hA.bp, hA.bm⟩, ⟨xs, ro, rc, hR.byAc hA ht⟩, hb.trans (ht.below hA.foot hb.size)⟩
  · obtain ⟨hA, ⟨xs, ro, rc, hR⟩, hb⟩ := hV
    refine (hR.replay hb.size rec hs).mono ?_
    intro e w' hP
    obtain ⟨he, xs', ro', rc', hin, ht, _⟩ := h2 _ _ _ _ _ _ hP
    refine ⟨he, hA.byRa hR ht, ⟨xs', ro', rc', hin⟩, hb.trans (ht.below (fun i hi => ?_) hb.size)⟩
    rcases hi with hi | ⟨off, hi⟩
    · rw [hi]; exact hR.ra.bx
    · exact (ra_rowblk hR.ra i off hi).1
theorem dor_same (w : World) (p m x : Nat) (a : Ac) (V : World) (h : Dor w p m x a V) : Calls Tryz.prog 15 #[.pointer (some ⟨p, 0, none⟩), .pointer (some ⟨x, 0, none⟩)] V fun e w' => e = .returned (.bool true) ∧ Dor w p m x a w' := by
  have h0 := h
  obtain ⟨h1, ⟨xs, ro, rc, h2⟩, h3⟩ := h
  refine (h1.same h2).mono ?_
  rintro e w' ⟨he, hb⟩
  exact ⟨he, h0.below hb⟩
set_option maxRecDepth 1000000 in
theorem replays_bad (nd : Int) (ao : Option Addr) (len cap : Nat) (w : World) (hnd : nd < 0 ∨ 7 ≤ nd) :
    Calls Tryz.prog 4 #[.int .i64 nd, .slice ao len cap] w fun e w' => e = .returned (.bool true) ∧ Below w.heap.size w w' := by
  have HNEW := hid (newA_bad w nd hnd)
  have HRN := hid (rnewA_bad w nd hnd)
  have HLV := hid (livesAc w)
  clear hnd
  go_enter Tryz.func4, Tryz.ntmps4
  go_wp2_with fail
  refine HNEW.out.mono ?_
  rintro e w1 ⟨rfl, hw1⟩
  rw [hw1]
  clear hw1 w1
  go_wp2_with fail
  refine HRN.out.mono ?_
  rintro e w1 ⟨rfl, hw1⟩
  rw [hw1]
  clear hw1 w1
  go_wp2_with fail
  refine HLV.out.mono ?_
  rintro e w2 ⟨rfl, hb2⟩
  have HB2 := hid hb2
  clear hb2 HLV HNEW HRN
  go_wp2
  go_loopw [9] (fun i wr => i = .int .i64 0 ∧ Hid (Below w.heap.size w wr)) (fun _ _ => 0)
  case atStart => exact ⟨rfl, HB2⟩
  case round =>
    obtain ⟨rfl, HB⟩ := hrel
    by_cases hl : (0 : Int) < (len : Int)
    · go_wp2
      go_ret
      exact ⟨rfl, HB.out⟩
    · go_wp2
      go_ret
      exact ⟨rfl, HB.out⟩
set_option maxRecDepth 1000000 in
set_option maxHeartbeats 16000000 in
theorem replays_good (nd : Int) (ao : Option Addr) (cap : Nat) (xs : List ByteArray) (w : World) (hx : HeldStr w ao xs) (hlx : xs.length ≤ 140737488355328) (hnd : ¬ (nd < 0 ∨ 7 ≤ nd)) :
    Calls Tryz.prog 4 #[.int .i64 nd, .slice ao xs.length cap] w fun e w' => e = .returned (.bool true) ∧ Below w.heap.size w w' := by
  have HX := hid hx
  obtain ⟨N1, HN⟩ : ∃ n, Hid (xs.length = n) := ⟨_, hid rfl⟩
  rw [HN.out]
  rw [HN.out] at hlx
  have HNEW := hid (newA_good w nd (fun h => hnd (.inl h)) (fun h => hnd (.inr h)))
  have HRN := hid (fun V (hV : w.heap.size ≤ V.heap.size) => rnewA_good V nd (fun h => hnd (.inl h)) (fun h => hnd (.inr h)) hV)
  clear hx hnd
  go_enter Tryz.func4, Tryz.ntmps4
  go_wp2_with fail
  refine HNEW.out.mono ?_
  rintro e w1 ⟨p, m, rfl, hat1, hb1, hp, hm⟩
  have HL1 : Hid (AcIn w.heap.size w1 p m (newAc nd)) := ⟨hat1, hp, hm⟩
  have HB1 := hid hb1
  clear hat1 hb1 hp hm
  go_wp2_with fail
  refine (HRN.out _ HB1.out.size).mono ?_
  rintro e w2 ⟨x, rfl, hra2, hb2, _⟩
  have HD2 : Hid (Dor w p m x (newAc nd) w2) := ⟨HL1.out.below hb2, ⟨_, _, _, hra2⟩, bt' HB1.out hb2⟩
  have HLV := hid (livesAc w2)
  clear hra2 hb2 HNEW HRN HL1
  go_wp2_with fail
  refine HLV.out.mono ?_
  rintro e w4 ⟨rfl, hb4⟩
  have HLA : Hid (∃ a, Dor w p m x a w4) := ⟨_, HD2.out.below hb4⟩
  clear hb4 HLV HD2 HB1
  go_wp2
  go_loopw [9] (fun i wr => ∃ k : Nat, k ≤ N1 ∧ i = .int .i64 k ∧ Hid (∃ a, Dor w p m x a wr)) (fun i _ => N1 - (intOf i).toNat)
  case atStart => exact ⟨0, Nat.zero_le _, rfl, HLA⟩
  case round =>
    obtain ⟨k, hk, rfl, HR⟩ := hrel
    obtain ⟨A, hd⟩ := HR.out
    have HD := hid hd
    clear hd HR HLA
    by_cases hlt : k < N1
    · have hlt' : (k : Int) < (N1 : Int) := by omega
      have HLT := hid hlt
      have hkx : Hid (k < xs.length) := (HN.out ▸ hlt : k < xs.length)
      obtain ⟨bb, off, hao, hbb, hcell⟩ := HX.out.at hkx.out
      subst hao
      obtain ⟨E, b, hA, hR⟩ := dor_repl w p m x A (xs.getD k ByteArray.empty) (HX.out.sizeD hkx.out)
      obtain ⟨S, hS⟩ : ∃ s, xs.getD k ByteArray.empty = s := ⟨_, rfl⟩
      rw [hS] at hcell hA hR
      have HA := hid hA
      have HRR := hid hR
      have HSM := hid (fun V (hV : Dor w p m x b V) => dor_same w p m x b V hV)
      have HCE : Hid (∀ V, Below w.heap.size w V → V.cell? ⟨bb, off + k, none⟩ = some (.string S)) := fun V hV => (hV.cell (p := ⟨bb, off + k, none⟩) hbb).trans hcell
      have HDD := hid (HD.out.below (Below.refl _ _).drew)
      have hc0 := HCE.out _ HD.out.2.2
      have hc1 := HCE.out _ HDD.out.2.2
      have hkb : k ≤ 140737488355328 := by omega
      clear hlt hk hS hcell hA hR
      go_wp2
      have hk0 : (0 : Int) ≤ (k : Int) := by omega
      refine wp_region_noPanic ?_
      refine wp_region_K 18 (fun V => V.cell? ⟨bb, off + k, none⟩ = some (.string S)) (by kernel_rfl) hc1 (fun hHeld => ?_)
      refine wpAnyK_take (i := 0) (oi := { dst := some 44, op := Go.Op.move (Go.Operand.tmp 5), type := 24, pos := "law.go:69", after := #[], guard := none }) (v := ?vqq0) [13, 12, 5] rfl (by kernel_rfl) (by kernel_rfl) (by kernel_rfl) (by kernel_rfl) (by kernel_rfl) (fun _ _ _ h => h) (Or.inl ⟨by rfl, ?hyqq0⟩) (by assumption) ?restqq0
      case hyqq0 => (intro w0 hSw; (try dsimp only at hSw); go_simp; try with_reducible rfl)
      simp only [Act.put, List.setIfInBounds_toArray, List.set_cons_zero, List.set_cons_succ]
      refine wpAnyK_take (i := 1) (oi := { dst := some 45, op := Go.Op.move (Go.Operand.tmp 1), type := 54, pos := "law.go:69", after := #[], guard := none }) (v := ?vqq1) [13, 12, 5, 4, 3] rfl (by kernel_rfl) (by kernel_rfl) (by kernel_rfl) (by kernel_rfl) (by kernel_rfl) (fun _ _ _ h => h) (Or.inl ⟨by rfl, ?hyqq1⟩) (by assumption) ?restqq1
      case hyqq1 => (intro w0 hSw; (try dsimp only at hSw); go_simp; try with_reducible rfl)
      simp only [Act.put, List.setIfInBounds_toArray, List.set_cons_zero, List.set_cons_succ]
      refine wpAnyK_take (i := 2) (oi := { dst := some 46, op := Go.Op.move (Go.Operand.tmp 9), type := 3, pos := "law.go:69", after := #[], guard := none }) (v := ?vqq2) [13, 12, 5, 4, 3] rfl (by kernel_rfl) (by kernel_rfl) (by kernel_rfl) (by kernel_rfl) (by kernel_rfl) (fun _ _ _ h => h) (Or.inl ⟨by rfl, ?hyqq2⟩) (by assumption) ?restqq2
      case hyqq2 => (intro w0 hSw; (try dsimp only at hSw); go_simp; try with_reducible rfl)
      simp only [Act.put, List.setIfInBounds_toArray, List.set_cons_zero, List.set_cons_succ]
      refine wpAnyK_take (i := 3) (oi := { dst := some 47, op := Go.Op.indexAddr 54 (Go.Operand.tmp 45) (Go.Operand.tmp 46), type := 0, pos := "law.go:69", after := #[{ on := 1, ground := Go.Ground.data }, { on := 2, ground := Go.Ground.data }], guard := none }) (v := ?vqq3) [13, 12, 5, 4] rfl (by kernel_rfl) (by kernel_rfl) (by kernel_rfl) (by kernel_rfl) (by kernel_rfl) (fun _ _ _ h => h) (Or.inl ⟨by rfl, ?hyqq3⟩) (by assumption) ?restqq3
      case hyqq3 => (intro w0 hSw; (try dsimp only at hSw); go_simp; try with_reducible rfl)
      simp only [Act.put, List.setIfInBounds_toArray, List.set_cons_zero, List.set_cons_succ]
      refine wpAnyK_take (i := 4) (oi := { dst := some 48, op := Go.Op.load 9 (Go.Operand.tmp 47), type := 9, pos := "law.go:69", after := #[{ on := 3, ground := Go.Ground.data }], guard := none }) (v := ?vqq4) [13, 12, 5] rfl (by kernel_rfl) (by kernel_rfl) (by kernel_rfl) (by kernel_rfl) (by kernel_rfl) (fun _ _ _ h => h) (Or.inl ⟨by rfl, ?hyqq4⟩) (by assumption) ?restqq4
      case hyqq4 => (intro w0 hSw; (try dsimp only at hSw); go_simp; try with_reducible rfl)
      simp only [Act.put, List.setIfInBounds_toArray, List.set_cons_zero, List.set_cons_succ]
      refine wpAnyK_take (i := 6) (oi := { dst := some 50, op := Go.Op.move (Go.Operand.tmp 7), type := 28, pos := "law.go:69", after := #[], guard := none }) (v := ?vqq6) [13, 12, 11] rfl (by kernel_rfl) (by kernel_rfl) (by kernel_rfl) (by kernel_rfl) (by kernel_rfl) (fun _ _ _ h => h) (Or.inl ⟨by rfl, ?hyqq6⟩) (by assumption) ?restqq6
      case hyqq6 => (intro w0 hSw; (try dsimp only at hSw); go_simp; try with_reducible rfl)
      simp only [Act.put, List.setIfInBounds_toArray, List.set_cons_zero, List.set_cons_succ]
      refine wpAnyK_take (i := 7) (oi := { dst := some 51, op := Go.Op.move (Go.Operand.tmp 1), type := 54, pos := "law.go:69", after := #[], guard := none }) (v := ?vqq7) [13, 12, 11, 10, 9] rfl (by kernel_rfl) (by kernel_rfl) (by kernel_rfl) (by kernel_rfl) (by kernel_rfl) (fun _ _ _ h => h) (Or.inl ⟨by rfl, ?hyqq7⟩) (by assumption) ?restqq7
      case hyqq7 => (intro w0 hSw; (try dsimp only at hSw); go_simp; try with_reducible rfl)
      simp only [Act.put, List.setIfInBounds_toArray, List.set_cons_zero, List.set_cons_succ]
      refine wpAnyK_take (i := 8) (oi := { dst := some 52, op := Go.Op.move (Go.Operand.tmp 9), type := 3, pos := "law.go:69", after := #[], guard := none }) (v := ?vqq8) [13, 12, 11, 10, 9] rfl (by kernel_rfl) (by kernel_rfl) (by kernel_rfl) (by kernel_rfl) (by kernel_rfl) (fun _ _ _ h => h) (Or.inl ⟨by rfl, ?hyqq8⟩) (by assumption) ?restqq8
      case hyqq8 => (intro w0 hSw; (try dsimp only at hSw); go_simp; try with_reducible rfl)
      simp only [Act.put, List.setIfInBounds_toArray, List.set_cons_zero, List.set_cons_succ]
      refine wpAnyK_take (i := 9) (oi := { dst := some 53, op := Go.Op.indexAddr 54 (Go.Operand.tmp 51) (Go.Operand.tmp 52), type := 0, pos := "law.go:69", after := #[{ on := 7, ground := Go.Ground.data }, { on := 8, ground := Go.Ground.data }], guard := none }) (v := ?vqq9) [13, 12, 11, 10] rfl (by kernel_rfl) (by kernel_rfl) (by kernel_rfl) (by kernel_rfl) (by kernel_rfl) (fun _ _ _ h => h) (Or.inl ⟨by rfl, ?hyqq9⟩) (by assumption) ?restqq9
      case hyqq9 => (intro w0 hSw; (try dsimp only at hSw); go_simp; try with_reducible rfl)
      simp only [Act.put, List.setIfInBounds_toArray, List.set_cons_zero, List.set_cons_succ]
      refine wpAnyK_take (i := 10) (oi := { dst := some 54, op := Go.Op.load 9 (Go.Operand.tmp 53), type := 9, pos := "law.go:69", after := #[{ on := 9, ground := Go.Ground.data }], guard := none }) (v := ?vqq10) [13, 12, 11] rfl (by kernel_rfl) (by kernel_rfl) (by kernel_rfl) (by kernel_rfl) (by kernel_rfl) (fun _ _ _ h => h) (Or.inl ⟨by rfl, ?hyqq10⟩) (by assumption) ?restqq10
      case hyqq10 => (intro w0 hSw; (try dsimp only at hSw); go_simp; try with_reducible rfl)
      simp only [Act.put, List.setIfInBounds_toArray, List.set_cons_zero, List.set_cons_succ]
      refine wpAnyK_ready (rs := [5]) (by kernel_rfl) (by simp) ?_
      refine AllReadyK.cons (o := { dst := some 49, op := Go.Op.call { callee := Go.Callee.value (Go.Operand.func 16), args := #[Go.Operand.tmp 44, Go.Operand.tmp 48], argTypes := #[24, 9] }, type := 25, pos := "law.go:69", after := #[{ on := 0, ground := Go.Ground.data }, { on := 4, ground := Go.Ground.data }], guard := none }) rfl (fun K hK => ?_) AllReadyK.nil
      go_simp
      refine (HA.out _ HDD.out).mono ?_
      rintro e w5 ⟨rfl, h5⟩
      have H5 := hid h5
      have hc5 := HCE.out _ h5.2.2
      go_simp
      refine hK.out _ _ (.inr hc5) (fun hHeld => ?_)
      have hHeld := hHeld.resolve_right (by decide)
      clear hK K
      try simp only [Act.put, List.setIfInBounds_toArray, List.set_cons_zero, List.set_cons_succ]
      refine wpAnyK_ready (rs := [11]) (by kernel_rfl) (by simp) ?_
      refine AllReadyK.cons (o := { dst := some 55, op := Go.Op.call { callee := Go.Callee.value (Go.Operand.func 17), args := #[Go.Operand.tmp 50, Go.Operand.tmp 54], argTypes := #[28, 9] }, type := 25, pos := "law.go:69", after := #[{ on := 6, ground := Go.Ground.data }, { on := 10, ground := Go.Ground.data }, { on := 5, ground := Go.Ground.chain }], guard := none }) rfl (fun K hK => ?_) AllReadyK.nil
      go_simp
      refine (HRR.out _ H5.out).mono ?_
      rintro e w6 ⟨rfl, h6⟩
      have H6 := hid h6
      have hc6 := HCE.out _ h6.2.2
      go_simp
      refine hK.out _ _ (.inr hc6) (fun hHeld => ?_)
      have hHeld := hHeld.resolve_right (by decide)
      clear hK K
      try simp only [Act.put, List.setIfInBounds_toArray, List.set_cons_zero, List.set_cons_succ]
      refine wpAnyK_take (i := 12) (oi := { dst := some 56, op := Go.Op.binOp Go.BinOp.neq 25 (Go.Operand.tmp 49) (Go.Operand.tmp 55) 25, type := 4, pos := "law.go:69", after := #[{ on := 5, ground := Go.Ground.data }, { on := 11, ground := Go.Ground.data }], guard := none }) (v := ?vqq12) [13] rfl (by kernel_rfl) (by kernel_rfl) (by kernel_rfl) (by kernel_rfl) (by kernel_rfl) (fun _ _ _ h => h) (Or.inl ⟨by rfl, ?hyqq12⟩) (by assumption) ?restqq12
      case hyqq12 => (intro w0 hSw; (try dsimp only at hSw); go_simp; try with_reducible rfl)
      simp only [Act.put, List.setIfInBounds_toArray, List.set_cons_zero, List.set_cons_succ]
      refine wpAnyK_take (i := 13) (oi := { dst := some 57, op := Go.Op.move (Go.Operand.tmp 56), type := 4, pos := "law.go:69", after := #[{ on := 12, ground := Go.Ground.data }, { on := 11, ground := Go.Ground.chain }], guard := none }) (v := ?vqq13) [] rfl (by kernel_rfl) (by kernel_rfl) (by kernel_rfl) (by kernel_rfl) (by kernel_rfl) (fun _ _ _ h => h) (Or.inl ⟨by rfl, ?hyqq13⟩) (by assumption) ?restqq13
      case hyqq13 => (intro w0 hSw; (try dsimp only at hSw); go_simp; try with_reducible rfl)
      simp only [Act.put, List.setIfInBounds_toArray, List.set_cons_zero, List.set_cons_succ]
      refine wpAnyK_take (i := 14) (oi := { dst := some 58, op := Go.Op.move (Go.Operand.tmp 5), type := 24, pos := "law.go:69", after := #[{ on := 13, ground := Go.Ground.guard }], guard := some (13, false) }) (v := ?vqq14) [17, 16] rfl (by kernel_rfl) (by kernel_rfl) (by kernel_rfl) (by kernel_rfl) (by kernel_rfl) (fun _ _ _ h => h) (Or.inl ⟨by rfl, ?hyqq14⟩) (by assumption) ?restqq14
      case hyqq14 => (intro w0 hSw; (try dsimp only at hSw); go_simp; try with_reducible rfl)
      simp only [Act.put, List.setIfInBounds_toArray, List.set_cons_zero, List.set_cons_succ]
      refine wpAnyK_take (i := 15) (oi := { dst := some 59, op := Go.Op.move (Go.Operand.tmp 7), type := 28, pos := "law.go:69", after := #[{ on := 13, ground := Go.Ground.guard }], guard := some (13, false) }) (v := ?vqq15) [17, 16] rfl (by kernel_rfl) (by kernel_rfl) (by kernel_rfl) (by kernel_rfl) (by kernel_rfl) (fun _ _ _ h => h) (Or.inl ⟨by rfl, ?hyqq15⟩) (by assumption) ?restqq15
      case hyqq15 => (intro w0 hSw; (try dsimp only at hSw); go_simp; try with_reducible rfl)
      simp only [Act.put, List.setIfInBounds_toArray, List.set_cons_zero, List.set_cons_succ]
      refine wpAnyK_ready (rs := [16]) (by kernel_rfl) (by simp) ?_
      refine AllReadyK.cons (o := { dst := some 60, op := Go.Op.call { callee := Go.Callee.value (Go.Operand.func 15), args := #[Go.Operand.tmp 58, Go.Operand.tmp 59], argTypes := #[24, 28] }, type := 4, pos := "law.go:69", after := #[{ on := 14, ground := Go.Ground.data }, { on := 15, ground := Go.Ground.data }, { on := 13, ground := Go.Ground.chain }, { on := 13, ground := Go.Ground.guard }], guard := some (13, false) }) rfl (fun K hK => ?_) AllReadyK.nil
      go_simp
      refine (HSM.out _ H6.out).mono ?_
      rintro e w7 ⟨rfl, h7⟩
      have H7 := hid h7
      have hc7 := HCE.out _ h7.2.2
      go_simp
      refine hK.out _ _ (.inr hc7) (fun hHeld => ?_)
      have hHeld := hHeld.resolve_right (by decide)
      clear hK K
      try simp only [Act.put, List.setIfInBounds_toArray, List.set_cons_zero, List.set_cons_succ]
      refine wpAnyK_take (i := 17) (oi := { dst := some 61, op := Go.Op.unOp Go.UnOp.not 4 (Go.Operand.tmp 60), type := 4, pos := "law.go:69", after := #[{ on := 16, ground := Go.Ground.data }, { on := 13, ground := Go.Ground.guard }], guard := some (13, false) }) (v := ?vqq17) [] rfl (by kernel_rfl) (by kernel_rfl) (by kernel_rfl) (by kernel_rfl) (by kernel_rfl) (fun _ _ _ h => h) (Or.inl ⟨by rfl, ?hyqq17⟩) (by assumption) ?restqq17
      case hyqq17 => (intro w0 hSw; (try dsimp only at hSw); go_simp; try with_reducible rfl)
      simp only [Act.put, List.setIfInBounds_toArray, List.set_cons_zero, List.set_cons_succ]
      refine wpAnyK_ready (rs := [18]) (by kernel_rfl) (by simp) ?_
      refine AllReadyK.cons (o := { dst := some 62, op := Go.Op.pick (Go.Operand.tmp 57) (Go.Operand.const (Go.Value.bool true)) (Go.Operand.tmp 61), type := 4, pos := "law.go:69", after := #[{ on := 13, ground := Go.Ground.data }, { on := 17, ground := Go.Ground.data }], guard := none }) rfl (fun K hK => ?_) AllReadyK.nil
      go_simp
      refine hK.out _ _ (.inl rfl) (fun _ => ?_)
      clear hK K
      try simp only [Act.put, List.setIfInBounds_toArray, List.set_cons_zero, List.set_cons_succ]
      refine wpAnyK_done (by kernel_rfl) ?_ _
      refine NoPanic.normal ?_
      have HNX : Hid (∃ a, Dor w p m x a w7) := ⟨_, H7.out⟩
      go_wp2
      go_roundw
      case rel => exact ⟨k + 1, HLT.out, by go_num, HNX⟩
      case measure => have := HLT.out; simp [intOf]; omega
    · have hlt' : ¬ (k : Int) < (N1 : Int) := by omega
      go_wp2
      go_ret
      exact ⟨rfl, HD.out.2.2⟩
theorem acceptorReplays_walk (nd : Int) (ao : Option Addr) (cap : Nat) (xs : List ByteArray) (w : World) (_ : -9223372036854775808 ≤ nd ∧ nd ≤ 9223372036854775807) (hx : HeldStr w ao xs) (hlx : xs.length ≤ 140737488355328) :
    Calls Tryz.prog 4 #[.int .i64 nd, .slice ao xs.length cap] w fun e w' => e = .returned (.bool true) ∧ Below w.heap.size w w' := by
  by_cases h : nd < 0 ∨ 7 ≤ nd
  · exact replays_bad nd ao xs.length cap w h
  · exact replays_good nd ao cap xs w hx hlx h
end Go.Proofs.YtfmnbehopdmahaaGreat
