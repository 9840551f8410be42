/-
  pannierref16.On of an Accept that it takes (a vote is there).
-/
import Derived.Test.YtfmnbehopdmahaaGreatRwA
import Derived.Test.YtfmnbehopdmahaaGreatAvB
import Derived.Deep.RegionHeld3
import Derived.BigRegion
namespace Go.Proofs.YtfmnbehopdmahaaGreat
open Go.RowKit Go.Maps

set_option maxRecDepth 1000000 in
set_option maxHeartbeats 16000000 in
theorem RaIn.on_a4 {w : World} {B x : Nat} {a : Ac} {xs : List VoM} {ro : Option Addr} {rc : Nat} (h : RaIn B w x a xs ro rc) (hB : B ≤ w.heap.size) (X : MsM) (hx : MsOk w X) (hs : SafeM w B X) (ht : takesA a X = true) (hk : X.kind = 3) (hc : cmpB X.bal a.pr = 0) (hf : ¬ findV xs X.slot 0 < 0) (hv : chgV xs ⟨X.slot, X.bal, X.en⟩ = true) : Calls Tryz.prog 10 #[.pointer (some ⟨x, 0, none⟩), X.val] w (OnD B w x a ro X) := by
  have HT := hid ht
  have H0 := hid h
  have HX0 := hid hx
  have hto : X.to = a.node ∧ RightMs X = true ∧ (encMs X).length ≤ 65536 := by
    unfold takesA at ht
    simp only [Bool.and_eq_true, decide_eq_true_eq] at ht
    exact ⟨ht.1, ht.2.2.1, ht.2.2.2⟩
  have HOK : Hid (∀ V e w', MsgP V X e w' → ∃ ao cp, e = .returned (.tuple #[.slice ao (encMs X).length cp, .int .i64 0]) ∧ Below V.heap.size V w' ∧ w'.ownsRow V.heap.size 5 1 (.slice ao (encMs X).length cp) (encMs X).length (nums (encMs X))) := fun V e w' hP => by
    obtain ⟨h1, h2⟩ := hP
    rw [if_pos hto.2.1, if_pos hto.2.2] at h2
    obtain ⟨v, h3, h4⟩ := h2
    obtain ⟨ao, cp, hv⟩ := own_sliceC h4
    subst hv
    exact ⟨ao, cp, h3, h1, h4⟩
  obtain ⟨EL, HEL⟩ : ∃ m, Hid ((encMs X).length = m) := ⟨_, hid rfl⟩
  rw [HEL.out] at HOK
  have HTO := hid hto.1
  have HKD := hid hk
  have HCM := hid hc
  have hc5 : ¬ 0 < cmpB a.pr X.bal := by rw [cmpB_neg, hc]; decide
  have hff : ¬ (a.f X.slot = none ∧ 4096 ≤ a.ks.length) := fun hh => by have h2 := (h.tw.none h.gok X.slot).2 hh.1; omega
  have HK4 : Hid (kindA a X = 4) := by show _ = _; unfold kindA; rw [if_neg hc5, if_neg (show ¬ X.kind = 1 by omega), if_neg hff]
  have HCV := hid hv
  have HCH : Hid (changesA a X = true) := by
    show _ = _
    unfold changesA
    rw [if_neg (by rw [HK4.out]; decide), if_pos HK4.out, ← h.tw.chg h.gok ⟨X.slot, X.bal, X.en⟩]
    exact hv
  have HSB := hid hs
  have HFW : Hid (findV xs X.slot 0 = -1 → xs.length < 4096) := fun h1 => by omega
  obtain ⟨pr, hpr⟩ : ∃ q, a.pr.1 = q := ⟨_, rfl⟩
  obtain ⟨pn, hpn⟩ : ∃ q, a.pr.2 = q := ⟨_, rfl⟩
  have HPR : Hid (a.pr = (pr, pn)) := by show _ = _; rw [← hpr, ← hpn]
  have HFV := hid hf
  clear hf
  clear ht hto hk hc hpr hpn hc5 hv hff hs
  obtain ⟨W1, hW1⟩ : ∃ W, W = w.alloc (.cells X.cells.toArray 43) := ⟨_, rfl⟩
  obtain ⟨W, hW⟩ : ∃ W, W = W1.alloc (.cells #[.int .i64 0, .int .i64 0, .int .i64 0, .int .i64 0, .int .i64 0, .int .i64 0, .bool false, .string ⟨#[]⟩, .string ⟨#[]⟩, .int .i64 0, .slice none 0 0, .slice none 0 0, .slice none 0 0, .slice none 0 0, .int .i64 0] 43) := ⟨_, rfl⟩
  have hs1 : W1.heap.size = w.heap.size + 1 := by rw [hW1]; simp
  have hb1 : Below w.heap.size w W1 := by rw [hW1]; exact (Below.refl _ _).alloc (Nat.le_refl _) _
  have HB : Hid (Below w.heap.size w W) := by rw [hW]; exact hb1.alloc hb1.size _
  obtain ⟨bm, hbm⟩ : ∃ q, q = w.heap.size := ⟨_, rfl⟩
  obtain ⟨be, hbe⟩ : ∃ q, q = w.heap.size + 1 := ⟨_, rfl⟩
  have HKM : Hid (Blk W bm 43 X.cells) := by rw [hbm, hW, hW1]; exact (Blk.new w _ _).alloc _
  have HKE : Hid (Blk W be 43 [.int .i64 0, .int .i64 0, .int .i64 0, .int .i64 0, .int .i64 0, .int .i64 0, .bool false, .string ⟨#[]⟩, .string ⟨#[]⟩, .int .i64 0, .slice none 0 0, .slice none 0 0, .slice none 0 0, .slice none 0 0, .int .i64 0]) := by rw [hbe, hW, ← hs1]; exact Blk.new W1 _ _
  have HIN := hid (h.below HB.out)
  have HMS := hid (refMsg_any W X (hx.below HB.out))
  have HW : Hid (W = (w.alloc (.cells X.cells.toArray 43)).alloc (.cells #[.int .i64 0, .int .i64 0, .int .i64 0, .int .i64 0, .int .i64 0, .int .i64 0, .bool false, .string ⟨#[]⟩, .string ⟨#[]⟩, .int .i64 0, .slice none 0 0, .slice none 0 0, .slice none 0 0, .slice none 0 0, .int .i64 0] 43)) := by show _ = _; rw [hW, hW1]
  have HBM := hid hbm
  have HBE := hid hbe
  have HBS : Hid (w.heap.size ≤ be ∧ w.heap.size ≤ bm ∧ bm ≠ be) := ⟨by omega, by omega, by omega⟩
  have HBW := hid hB
  have HPL : Hid (x < w.heap.size ∧ ∀ g off, ro = some ⟨g, off, none⟩ → g < w.heap.size) := ⟨h.ra.blk.lt, fun g off e => by subst e; obtain ⟨g', e, _, h1⟩ := ra_addr h.ra; cases e; exact h1⟩
  obtain ⟨nd, HND⟩ : ∃ q, Hid (a.node = q) := ⟨_, hid rfl⟩
  clear h hW hW1 hs1 hb1 hbm hbe hx hB
  obtain ⟨kd, fr, to, ⟨br, bn⟩, sl, ⟨⟨np, tk, ct, ep, cut⟩, ao1, cap1⟩, vo, vc, vs, so, sc, seen, eo, ec, evs, ti⟩ := X
  obtain ⟨XN, HXN⟩ : ∃ m, Hid (cut.length = m) := ⟨_, hid rfl⟩
  obtain ⟨VN, HVN⟩ : ∃ m, Hid (vs.length = m) := ⟨_, hid rfl⟩
  obtain ⟨SN, HSN⟩ : ∃ m, Hid (seen.length = m) := ⟨_, hid rfl⟩
  obtain ⟨EN, HEN⟩ : ∃ m, Hid (evs.length = m) := ⟨_, hid rfl⟩
  simp only [MsM.val, MsM.cells] at HW HKM HMS ⊢
  rw [HXN.out, HVN.out, HSN.out, HEN.out] at HW HKM HMS
  rw [HXN.out, HVN.out, HSN.out, HEN.out]
  have q0 := HKM.out.cell (i := 0) rfl
  have q1 := HKM.out.cell (i := 1) rfl
  have q2 := HKM.out.cell (i := 2) rfl
  have q3 := HKM.out.cell (i := 3) rfl
  have q4 := HKM.out.cell (i := 4) rfl
  have q5 := HKM.out.cell (i := 5) rfl
  have q6 := HKM.out.cell (i := 6) rfl
  have q7 := HKM.out.cell (i := 7) rfl
  have q8 := HKM.out.cell (i := 8) rfl
  have q9 := HKM.out.cell (i := 9) rfl
  have q10 := HKM.out.cell (i := 10) rfl
  have q11 := HKM.out.cell (i := 11) rfl
  have q12 := HKM.out.cell (i := 12) rfl
  have q13 := HKM.out.cell (i := 13) rfl
  have q14 := HKM.out.cell (i := 14) rfl
  simp only at HTO HKD HCM
  rw [HND.out] at HTO
  have e1 := HTO.out
  have e2 := HKD.out
  subst e1 e2
  go_enter Tryz.func10, Tryz.ntmps10
  go_wp2_with fail
  rw [← HW.out, ← HBE.out, ← HBM.out]
  refine HMS.out.mono ?_
  intro e w2 hP
  obtain ⟨mo, mc, rfl, hb2, hown2⟩ := HOK.out _ _ _ hP
  have HOWN := hid hown2
  clear hP hown2
  clear q0 q1 q2 q3 q4 q5 q6 q7 q8 q9 q10 q11 q12 q13 q14
  have hkm := HKM.out.below hb2 HKM.out.lt
  have m0 := hkm.cell (i := 0) rfl
  have m2 := hkm.cell (i := 2) rfl
  have hblk := (HIN.out.below hb2).ra.blk
  rw [HND.out, HPR.out] at hblk
  have c0 := hblk.cell (i := 0) rfl
  have HB2 := hid hb2
  clear hkm hb2 hblk
  go_wp2
  go_quiet (fail)
  obtain ⟨U, hU⟩ : ∃ U, U = w2.drewN nq := ⟨_, rfl⟩
  have HBU : Hid (Below W.heap.size W U) := by rw [hU]; exact below_dn HB2.out _
  rw [← hU]
  have HBU2 : Hid (Below w2.heap.size w2 U) := by rw [hU]; exact below_dn (Below.refl _ _) _
  clear hU m0 m2 c0
  have HSA : Hid (∀ V, ScL U V → (ScL U V ∧ V.cell? ⟨x, 0, none⟩ = some (.int .i64 to) ∧ V.cell? ⟨bm, 1, none⟩ = some (.int .i64 fr) ∧ V.cell? ⟨bm, 3, none⟩ = some (.int .i64 br) ∧ V.cell? ⟨bm, 4, none⟩ = some (.int .i64 bn) ∧ V.cell? ⟨bm, 5, none⟩ = some (.int .i64 sl))) := fun V hV => by
    have hb := bt' HBU.out hV.out
    have hkm := HKM.out.below hb HKM.out.lt
    have hblk := (HIN.out.below hb).ra.blk
    rw [HND.out] at hblk
    exact ⟨hV, hblk.cell rfl, hkm.cell rfl, hkm.cell rfl, hkm.cell rfl, hkm.cell rfl⟩
  go_wp2
  go_region_held3 (fun V => ScL U V ∧ V.cell? ⟨x, 0, none⟩ = some (.int .i64 to) ∧ V.cell? ⟨bm, 1, none⟩ = some (.int .i64 fr) ∧ V.cell? ⟨bm, 3, none⟩ = some (.int .i64 br) ∧ V.cell? ⟨bm, 4, none⟩ = some (.int .i64 bn) ∧ V.cell? ⟨bm, 5, none⟩ = some (.int .i64 sl))
    ((refine HSA.out _ ?_; (repeat (first | with_reducible assumption | exact ScL.start _ | apply ScL.dr | apply ScL.alloc | refine ScL.setCell ?_ (by first | exact Nat.le_refl _ | (simp; done) | (simp; omega)) _))))
    (fail)
  obtain ⟨U2, hU2⟩ : ∃ V, V = (U.alloc (.cells #[.int .i64 0, .int .i64 to, .int .i64 fr, .int .i64 br, .int .i64 bn, .int .i64 sl, .bool true, .string ⟨#[]⟩, .string ⟨#[]⟩, .int .i64 0, .slice none 0 0, .slice none 0 0, .slice none 0 0, .slice none 0 0, .int .i64 0] 43)).drew := ⟨_, rfl⟩
  obtain ⟨bt, hbt⟩ : ∃ q, q = U.heap.size := ⟨_, rfl⟩
  have HKT : Hid (Blk U2 bt 43 [.int .i64 0, .int .i64 to, .int .i64 fr, .int .i64 br, .int .i64 bn, .int .i64 sl, .bool true, .string ⟨#[]⟩, .string ⟨#[]⟩, .int .i64 0, .slice none 0 0, .slice none 0 0, .slice none 0 0, .slice none 0 0, .int .i64 0]) := by rw [hU2, hbt]; exact (Blk.new U _ _).drew
  have HU2 : Hid (ScL U U2) := by rw [hU2]; exact ((ScL.start U).alloc _).dr
  have HBT := hid hbt
  rw [← hU2, ← hbt]
  have HCMP : Hid (∀ V, ScL U2 V → Calls Tryz.prog 23 #[.agg #[.int .i64 br, .int .i64 bn], .agg #[.int .i64 pr, .int .i64 pn]] V fun e w' => e = .returned (.int .i64 (cmpB (br, bn) (pr, pn))) ∧ ScL U2 w') := fun V hV => (rcompareB V (br, bn) (pr, pn)).mono (fun e w' (hh : _ ∧ _) => And.intro hh.1 (hV.go hh.2))
  have hcc : cmpB (br, bn) (pr, pn) = 0 := by have := HCM.out; rw [HPR.out] at this; exact this
  rw [hcc] at HCMP
  have HSB2 : Hid (∀ V, ScL U2 V → (ScL U2 V ∧ V.cell? ⟨x, 1, none⟩ = some (.int .i64 pr) ∧ V.cell? ⟨x, 2, none⟩ = some (.int .i64 pn) ∧ V.cell? ⟨bm, 3, none⟩ = some (.int .i64 br) ∧ V.cell? ⟨bm, 4, none⟩ = some (.int .i64 bn))) := fun V hV => by
    have hb := bt' HBU.out (bt' HU2.out.out hV.out)
    have hkm := HKM.out.below hb HKM.out.lt
    have hblk := (HIN.out.below hb).ra.blk
    rw [HPR.out] at hblk
    exact ⟨hV, hblk.cell rfl, hblk.cell rfl, hkm.cell rfl, hkm.cell rfl⟩
  have m0 := (HKM.out.below (bt' HBU.out HU2.out.out) HKM.out.lt).cell (i := 0) rfl
  clear hU2 hbt HSA
  clear hcc
  have m5 := (HKM.out.below (bt' HBU.out HU2.out.out) HKM.out.lt).cell (i := 5) rfl
  have hra2 := (HIN.out.below (bt' HBU.out HU2.out.out)).ra
  have HFD := hid (hra2.find sl)
  have x3 := hra2.blk.cell (i := 3) rfl
  (try simp only at HFV)
  obtain ⟨P, HP⟩ : ∃ P, Hid (findV xs sl 0 = P) := ⟨_, hid rfl⟩
  rw [HP.out] at HFD HFV
  have hp1 : ¬ P < 0 := by have := HFV.out; omega
  have hp2 : decide (P < 0) = false := decide_eq_false hp1
  clear hra2
  go_wp2_with fail
  refine HFD.out.mono ?_
  rintro e w3 ⟨rfl, hw3⟩
  rw [hw3]
  clear hw3 w3
  go_wp2
  refine wp_region_noPanic ?_
  refine wp_region_held_drew (S := (fun V => ScL U2 V ∧ V.cell? ⟨x, 1, none⟩ = some (.int .i64 pr) ∧ V.cell? ⟨x, 2, none⟩ = some (.int .i64 pn) ∧ V.cell? ⟨bm, 3, none⟩ = some (.int .i64 br) ∧ V.cell? ⟨bm, 4, none⟩ = some (.int .i64 bn))) (by kernel_rfl) (HSB2.out _ (ScL.start U2).dr) (fun hHeld => ?_)
  have hs0 := (ScL.start U2).dr
  refine wpAnyH_take (i := 0) (oi := { dst := some 69, op := Go.Op.fieldAddr 43 (Go.Operand.tmp 3) 3, type := 0, pos := "ref.go:81", after := #[], guard := none }) (v := ?vc0) rfl (by kernel_rfl) (by kernel_rfl) (by kernel_rfl) (fun _ _ _ h => h) (Or.inl ⟨by rfl, ?hyc0⟩) (by assumption) ?restc0
  case hyc0 => (intro w0 hSw; (try dsimp only at hSw); go_simp; try with_reducible rfl)
  simp only [Act.put, List.setIfInBounds_toArray, List.set_cons_zero, List.set_cons_succ]
  refine wpAnyH_take (i := 1) (oi := { dst := some 70, op := Go.Op.load 35 (Go.Operand.tmp 69), type := 35, pos := "ref.go:81", after := #[{ on := 0, ground := Go.Ground.data }], guard := none }) (v := ?vc1) rfl (by kernel_rfl) (by kernel_rfl) (by kernel_rfl) (fun _ _ _ h => h) (Or.inl ⟨by rfl, ?hyc1⟩) (by assumption) ?restc1
  case hyc1 => (intro w0 hSw; (try dsimp only at hSw); go_simp; try with_reducible rfl)
  simp only [Act.put, List.setIfInBounds_toArray, List.set_cons_zero, List.set_cons_succ]
  refine wpAnyH_take (i := 2) (oi := { dst := some 71, op := Go.Op.move (Go.Operand.tmp 0), type := 28, pos := "ref.go:81", after := #[], guard := none }) (v := ?vc2) rfl (by kernel_rfl) (by kernel_rfl) (by kernel_rfl) (fun _ _ _ h => h) (Or.inl ⟨by rfl, ?hyc2⟩) (by assumption) ?restc2
  case hyc2 => (intro w0 hSw; (try dsimp only at hSw); go_simp; try with_reducible rfl)
  simp only [Act.put, List.setIfInBounds_toArray, List.set_cons_zero, List.set_cons_succ]
  refine wpAnyH_take (i := 3) (oi := { dst := some 72, op := Go.Op.nilCheck (Go.Operand.tmp 71), type := 0, pos := "ref.go:81", after := #[{ on := 2, ground := Go.Ground.data }], guard := none }) (v := ?vc3) rfl (by kernel_rfl) (by kernel_rfl) (by kernel_rfl) (fun _ _ _ h => h) (Or.inl ⟨by rfl, ?hyc3⟩) (by assumption) ?restc3
  case hyc3 => (intro w0 hSw; (try dsimp only at hSw); go_simp; try with_reducible rfl)
  simp only [Act.put, List.setIfInBounds_toArray, List.set_cons_zero, List.set_cons_succ]
  refine wpAnyH_take (i := 4) (oi := { dst := some 73, op := Go.Op.fieldAddr 51 (Go.Operand.tmp 72) 1, type := 0, pos := "ref.go:81", after := #[{ on := 3, ground := Go.Ground.data }], guard := none }) (v := ?vc4) rfl (by kernel_rfl) (by kernel_rfl) (by kernel_rfl) (fun _ _ _ h => h) (Or.inl ⟨by rfl, ?hyc4⟩) (by assumption) ?restc4
  case hyc4 => (intro w0 hSw; (try dsimp only at hSw); go_simp; try with_reducible rfl)
  simp only [Act.put, List.setIfInBounds_toArray, List.set_cons_zero, List.set_cons_succ]
  refine wpAnyH_take (i := 5) (oi := { dst := some 74, op := Go.Op.load 35 (Go.Operand.tmp 73), type := 35, pos := "ref.go:81", after := #[{ on := 4, ground := Go.Ground.data }], guard := none }) (v := ?vc5) rfl (by kernel_rfl) (by kernel_rfl) (by kernel_rfl) (fun _ _ _ h => h) (Or.inl ⟨by rfl, ?hyc5⟩) (by assumption) ?restc5
  case hyc5 => (intro w0 hSw; (try dsimp only at hSw); go_simp; try with_reducible rfl)
  simp only [Act.put, List.setIfInBounds_toArray, List.set_cons_zero, List.set_cons_succ]
  refine wpAnyH_ready (rs := [6]) (by kernel_rfl) (by simp) ?_
  refine AllReadyH.cons (o := { dst := some 75, op := Go.Op.call { callee := Go.Callee.value (Go.Operand.func 23), args := #[Go.Operand.tmp 70, Go.Operand.tmp 74], argTypes := #[35, 35] }, type := 3, pos := "ref.go:81", after := #[{ on := 1, ground := Go.Ground.data }, { on := 5, ground := Go.Ground.data }], guard := none }) rfl (fun K hK => ?_) AllReadyH.nil
  go_simp
  refine (HCMP.out _ (by (repeat (first | assumption | exact ScL.start _ | apply ScL.dr)))).mono ?_
  rintro e6 w6 ⟨rfl, hs6⟩
  clear hs0
  have hs0 := hs6
  go_simp
  refine hK.out _ _ (HSB2.out _ hs0) (fun hHeld => ?_)
  clear hK K
  try simp only [Act.put, List.setIfInBounds_toArray, List.set_cons_zero, List.set_cons_succ]
  refine wpAnyH_take (i := 7) (oi := { dst := some 76, op := Go.Op.binOp Go.BinOp.lss 3 (Go.Operand.tmp 75) (Go.Operand.const (Go.Value.int Go.IntKind.i64 0)) 3, type := 4, pos := "ref.go:81", after := #[{ on := 6, ground := Go.Ground.data }], guard := none }) (v := ?vc7) rfl (by kernel_rfl) (by kernel_rfl) (by kernel_rfl) (fun _ _ _ h => h) (Or.inl ⟨by rfl, ?hyc7⟩) (by assumption) ?restc7
  case hyc7 => (intro w0 hSw; (try dsimp only at hSw); go_simp; try with_reducible rfl)
  simp only [Act.put, List.setIfInBounds_toArray, List.set_cons_zero, List.set_cons_succ]
  refine wpAnyH_take (i := 8) (oi := { dst := some 77, op := Go.Op.move (Go.Operand.tmp 76), type := 4, pos := "ref.go:81", after := #[{ on := 7, ground := Go.Ground.data }, { on := 6, ground := Go.Ground.chain }], guard := none }) (v := ?vc8) rfl (by kernel_rfl) (by kernel_rfl) (by kernel_rfl) (fun _ _ _ h => h) (Or.inl ⟨by rfl, ?hyc8⟩) (by assumption) ?restc8
  case hyc8 => (intro w0 hSw; (try dsimp only at hSw); go_simp; try with_reducible rfl)
  simp only [Act.put, List.setIfInBounds_toArray, List.set_cons_zero, List.set_cons_succ]
  refine wpAnyH_take (i := 9) (oi := { dst := some 78, op := Go.Op.move (Go.Operand.tmp 10), type := 4, pos := "ref.go:81", after := #[{ on := 8, ground := Go.Ground.guard }], guard := some (8, false) }) (v := ?vc9) rfl (by kernel_rfl) (by kernel_rfl) (by kernel_rfl) (fun _ _ _ h => h) (Or.inl ⟨by rfl, ?hyc9⟩) (by assumption) ?restc9
  case hyc9 => (intro w0 hSw; (try dsimp only at hSw); go_simp; try with_reducible rfl)
  simp only [Act.put, List.setIfInBounds_toArray, List.set_cons_zero, List.set_cons_succ]
  refine wpAnyH_take (i := 10) (oi := { dst := some 79, op := Go.Op.pick (Go.Operand.tmp 77) (Go.Operand.const (Go.Value.bool true)) (Go.Operand.tmp 78), type := 4, pos := "ref.go:81", after := #[{ on := 8, ground := Go.Ground.data }, { on := 9, ground := Go.Ground.data }], guard := none }) (v := ?vc10) rfl (by kernel_rfl) (by kernel_rfl) (by kernel_rfl) (fun _ _ _ h => h) (Or.inl ⟨by rfl, ?hyc10⟩) (by assumption) ?restc10
  case hyc10 => (intro w0 hSw; (try dsimp only at hSw); go_simp; try with_reducible rfl)
  simp only [Act.put, List.setIfInBounds_toArray, List.set_cons_zero, List.set_cons_succ]
  refine wpAnyH_done (by kernel_rfl) ?_ _
  refine NoPanic.normal ?_
  have c1 := (HSB2.out _ hs6).2.1
  have c2 := (HSB2.out _ hs6).2.2.1
  have m3 := (HSB2.out _ hs6).2.2.2.1
  have m4 := (HSB2.out _ hs6).2.2.2.2
  obtain ⟨e3, e4⟩ : br = pr ∧ bn = pn := by
    have h1 := HCM.out
    rw [HPR.out] at h1
    have h2 := cmpB_zero.1 h1
    exact ⟨congrArg Prod.fst h2, congrArg Prod.snd h2⟩
  obtain rfl := e3
  obtain rfl := e4
  have HS6 := hid hs6
  clear hs6 hs0 hHeld HSB2 HCMP
  go_wp2
  go_quiet (fail)
  obtain ⟨U6, hU6⟩ : ∃ V, V = w6.drewN nq := ⟨_, rfl⟩
  have HB26 : Hid (Below U2.heap.size U2 U6) := by rw [hU6]; exact below_dn HS6.out.out _
  have HBS6 : Hid (Below U.heap.size U U6) := by rw [hU6]; exact below_dn (bt' HU2.out.out HS6.out.out) _
  rw [← hU6]
  clear hU6 c1 c2 m3 m4
  have HIN6 := hid (HIN.out.below (bt' HBU.out HBS6.out))
  have hkm6 := HKM.out.below (bt' HBU.out HBS6.out) HKM.out.lt
  have hxm : x ≠ bm := by have := HPL.out.1; have := HBS.out.2.1; omega
  have hmx : bm ≠ x := fun e => hxm e.symm
  have m0 := hkm6.cell (i := 0) rfl
  have m3 := hkm6.cell (i := 3) rfl
  have m4 := hkm6.cell (i := 4) rfl
  have m5 := hkm6.cell (i := 5) rfl
  have m6 := hkm6.cell (i := 6) rfl
  have m7 := hkm6.cell (i := 7) rfl
  have m8 := hkm6.cell (i := 8) rfl
  have m9 := hkm6.cell (i := 9) rfl
  have m10 := hkm6.cell (i := 10) rfl
  have hblk6 := HIN6.out.ra.blk
  have c1 := hblk6.cell (i := 1) rfl
  have c2 := hblk6.cell (i := 2) rfl
  have f1 := hblk6.frozen 1
  have f2 := hblk6.frozen 2
  have hxx : x ≠ be := by have := HPL.out.1; have := HBS.out.1; omega
  obtain ⟨W7, hW7⟩ : ∃ V, V = (U6.setCell ⟨x, 1, none⟩ (.int .i64 br)).setCell ⟨x, 2, none⟩ (.int .i64 bn) := ⟨_, rfl⟩
  have HR7 : Hid (RaAt W7 B x to (br, bn) xs ro rc) := by rw [hW7, ← HND.out]; exact ra_prom HIN6.out.ra br bn
  have HT7 : Hid (Turns (fun i => i = x) U6 W7) := by rw [hW7]; exact turns_own (turns_own (Turns.refl _ _))
  have hxt : x ≠ bt := by have := HPL.out.1; have := HBT.out; have := HBU.out.size; have := HB.out.size; omega
  have HKT7 : Hid (Blk W7 bt 43 [.int .i64 0, .int .i64 to, .int .i64 fr, .int .i64 br, .int .i64 bn, .int .i64 sl, .bool true, .string ⟨#[]⟩, .string ⟨#[]⟩, .int .i64 0, .slice none 0 0, .slice none 0 0, .slice none 0 0, .slice none 0 0, .int .i64 0]) := HT7.out.blk (HKT.out.below HB26.out HKT.out.lt) (fun e => hxt e.symm)
  have HKE7 : Hid (Blk W7 be 43 [.int .i64 0, .int .i64 0, .int .i64 0, .int .i64 0, .int .i64 0, .int .i64 0, .bool false, .string ⟨#[]⟩, .string ⟨#[]⟩, .int .i64 0, .slice none 0 0, .slice none 0 0, .slice none 0 0, .slice none 0 0, .int .i64 0]) := HT7.out.blk (HKE.out.below (bt' HBU.out HBS6.out) HKE.out.lt) (fun e => by have := HPL.out.1; have := HBS.out.1; omega)
  have HKELT : Hid (be < W.heap.size) := HKE.out.lt
  have HSZ : Hid (w.heap.size ≤ bt ∧ bt < W7.heap.size ∧ w.heap.size ≤ be ∧ be < W7.heap.size ∧ bt ≠ be ∧ w2.heap.size ≤ bt ∧ B ≤ W7.heap.size) := by
    have h1 := HKT7.out.lt
    have h2 := HKE7.out.lt
    have h3 := HBT.out
    have h4 := HKE.out.lt
    have h5 := HBU.out.size
    have h6 := HB.out.size
    have h7 := HBU2.out.size
    have h8 := HBS.out.1
    have h9 := HBW.out
    exact ⟨by omega, h1, h8, h2, by omega, by omega, by omega⟩
  have H7 : Hid (Turns (fun i => i = x) w W7) := (Turns.of_below (F := fun i => i = x) (bt' HB.out (bt' HBU.out HBS6.out)) (Nat.le_refl _)).trans HT7.out (fun i hi => .inl hi)
  have HO7 : Hid (Turns (fun i => i = x) w2 W7) := ((Turns.of_below (F := fun i => i = x) HBU2.out (Nat.le_refl _)).trans (Turns.of_below (F := fun i => i = x) HBS6.out (Nat.le_refl _)) (fun i hi => .inl hi)).trans HT7.out (fun i hi => .inl hi)
  obtain ⟨W71, hW71⟩ : ∃ V, V = W7.setCell ⟨bt, 0, none⟩ (.int .i64 4) := ⟨_, rfl⟩
  have HT71 : Hid (Turns (fun i => i = bt) W7 W71) := by rw [hW71]; exact turns_own (Turns.refl _ _)
  have hkt71 : Blk W71 bt 43 [.int .i64 4, .int .i64 to, .int .i64 fr, .int .i64 br, .int .i64 bn, .int .i64 sl, .bool true, .string ⟨#[]⟩, .string ⟨#[]⟩, .int .i64 0, .slice none 0 0, .slice none 0 0, .slice none 0 0, .slice none 0 0, .int .i64 0] := by rw [hW71]; exact HKT7.out.set 0 _
  have HKT71 := hid hkt71
  have HE71 := hid (HT71.out.blk HKE7.out (fun e => HSZ.out.2.2.2.2.1 e.symm))
  have HRT : Hid (∀ g off, ro = some ⟨g, off, none⟩ → g ≠ bt) := fun g off e => by have := HPL.out.2 g off e; have := HSZ.out.1; omega
  have hib : ∀ i, i = bt → ∀ cs, ¬ Blk W7 i 3 cs := fun i hi cs hc => by subst hi; exact blk_neH HKT7.out hc (by decide) rfl
  have hix : ∀ i, i = x → ∀ cs, ¬ Blk w i 3 cs := fun i hi cs hc => by subst hi; exact blk_neH H0.out.ra.blk hc (by decide) rfl
  have HSB7 : Hid (∀ b off, ao1 = some ⟨b, off, none⟩ → cut ≠ [] → SafeC W7 B b) := fun b off e hne => (HSB.out b off e hne).turned H7.out hix
  have HSB71 : Hid (∀ b off, ao1 = some ⟨b, off, none⟩ → cut ≠ [] → SafeC W71 B b) := fun b off e hne => (HSB7.out b off e hne).turned HT71.out hib
  have HR71 := hid (HR7.out.turned HT71.out (fun i hi => by rw [hi]; have := HSZ.out.1; have := HBW.out; omega) hib hxt HRT.out)
  have hmt : bm ≠ bt := by have := HKM.out.lt; have := HBT.out; have := HBU.out.size; omega
  have htm : bt ≠ bm := fun e => hmt e.symm
  have htx : bt ≠ x := fun e => hxt e.symm
  have t0 := HKT7.out.cell (i := 0) rfl
  have u0 := HKT7.out.frozen 0
  have HBA71 : Hid (Below w.heap.size w W71 ∨ True) := .inr trivial
  have hvok : VoOk W71 ⟨sl, (br, bn), ⟨⟨np, tk, ct, ep, cut⟩, ao1, cap1⟩⟩ := voOk_turned (voOk_turned ⟨HX0.out.en, HX0.out.isl, HX0.out.ib1, HX0.out.ib2⟩ H7.out (fun b off e hne => (HSB.out b off e hne).off (fun i hi => by rw [hi]; exact H0.out.ra.bx) hix)) HT71.out (fun b off e hne => (HSB7.out b off e hne).off (fun i hi => by rw [hi]; have := HSZ.out.1; have := HBW.out; omega) hib)
  have HVC := hid (HR71.out.vote (Nat.le_trans HSZ.out.2.2.2.2.2.2 HT71.out.size) ⟨sl, (br, bn), ⟨⟨np, tk, ct, ep, cut⟩, ao1, cap1⟩⟩ hvok HSB71.out HFW.out)
  rw [show chgV xs ⟨sl, (br, bn), ⟨⟨np, tk, ct, ep, cut⟩, ao1, cap1⟩⟩ = true from HCV.out] at HVC
  simp only [VoM.val] at HVC
  rw [HXN.out] at HVC
  clear hkm6 hblk6 HKT HKE HIN HIN6 HKM HT7 hvok hkt71 hib hix
  rw [hW7] at t0 u0
  go_wp2_with fail
  rw [← hW7]
  rw [← hW71]
  clear hW7 hW71 m0 m3 m4 m5 m6 m7 m8 m9 m10 c1 c2 f1 f2 t0 u0
  refine HVC.out.mono ?_
  rintro e W9 ⟨rfl, hvo8⟩
  have HVO := hid hvo8
  obtain ⟨_, _, _, ht8, _⟩ := hvo8
  have HT8 := hid ht8
  have HFT : Hid (¬ FootR x ro bt) := fun hf => by
    rcases hf with hf | ⟨off, hf⟩
    · exact hxt hf.symm
    · exact HRT.out bt off hf rfl
  have HFE : Hid (¬ FootR x ro be) := fun hf => by
    rcases hf with hf | ⟨off, hf⟩
    · exact hxx hf.symm
    · have := HPL.out.2 be off hf; have := HBS.out.1; omega
  have htt := ht8.blk HKT71.out HFT.out
  have HE8 := hid (ht8.blk HE71.out HFE.out)
  have HKT9 : Hid (Blk W9 bt 43 [.int .i64 4, .int .i64 to, .int .i64 fr, .int .i64 br, .int .i64 bn, .int .i64 sl, .bool true, .string ⟨#[]⟩, .string ⟨#[]⟩, .int .i64 0, .slice none 0 0, .slice none 0 0, .slice none 0 0, .slice none 0 0, .int .i64 0]) := htt
  have HE9 := HE8
  have hbe : be ≠ bt := fun e => HSZ.out.2.2.2.2.1 e.symm
  have hbe2 : bt ≠ be := HSZ.out.2.2.2.2.1
  clear ht8 hmt htm htx htt
  obtain ⟨RR, HRR⟩ : ∃ r, Hid ((if true = true then recOf ⟨3, fr, to, (br, bn), sl, ⟨⟨np, tk, ct, ep, cut⟩, ao1, cap1⟩, vo, vc, vs, so, sc, seen, eo, ec, evs, ti⟩ else ⟨#[]⟩) = r) := ⟨_, hid rfl⟩
  have hc8 : Turns (fun i => FootR x ro i ∨ i = bt) w2 W9.drew := by
    refine Turns.drew ?_
    exact ((HO7.out.mono (fun i hi => .inl (.inl hi))).trans HT71.out (fun i hi => .inl (.inr hi))).trans HT8.out (fun i hi => .inl (.inl hi))
  have hc9 : Turns (fun i => (FootR x ro i ∨ i = bt) ∨ i = be) w2 (st15 W9 be (.int .i64 4) (.int .i64 to) (.int .i64 fr) (.int .i64 br) (.int .i64 bn) (.int .i64 sl) (.bool true) (.string ⟨#[]⟩) (.string ⟨#[]⟩) (.int .i64 0) (.slice none 0 0) (.slice none 0 0) (.slice none 0 0) (.slice none 0 0) (.int .i64 0)).drew := by
    refine Turns.drew ?_
    exact (((((HO7.out.mono (fun i hi => .inl (.inl hi))).trans HT71.out (fun i hi => .inl (.inr hi))).trans HT8.out (fun i hi => .inl (.inl hi)) : Turns (fun i => FootR x ro i ∨ i = bt) w2 W9)).mono (fun i hi => .inl hi)).trans (st15_turns _ _ _ _ _ _ _ _ _ _ _ _ _ _ _ _ _) (fun i hi => .inl (.inr hi))
  have hcvs : ∀ {F : Nat → Prop} {V : World}, Turns F w2 V → (∀ k, W.heap.size ≤ k → k < w2.heap.size → ¬ F k) → (convert 66 9 (.slice mo EL mc)).run Tryz.prog V = .ok (.string RR) V := by
    intro F V hF hn
    have hown9 := hF.row HOWN.out (fun k hk => hn k (HOWN.out.lt k hk).1 (HOWN.out.lt k hk).2)
    rw [← HEL.out] at hown9
    obtain ⟨so8, sc8, hsl8, hheld8⟩ := held_of_own hown9 (encMs_byte _)
    have hcv := run_convert_held (P := Tryz.prog) hheld8 66 5 9 Tryz.underlying66 Tryz.underlying5 Tryz.underlying9
    rw [← hsl8, HEL.out, show strOfNums (encMs ⟨3, fr, to, (br, bn), sl, ⟨⟨np, tk, ct, ep, cut⟩, ao1, cap1⟩, vo, vc, vs, so, sc, seen, eo, ec, evs, ti⟩) = RR from (if_pos rfl).symm.trans HRR.out] at hcv
    exact hcv
  have hcv := hcvs hc8 (fun k h1 h1b hf => by
    have h2 := HPL.out.1
    have h3 := HB.out.size
    have h4 := HSZ.out.2.2.2.2.2.1
    rcases hf with (hf | ⟨off, hf⟩) | hf
    · omega
    · have := HPL.out.2 k off hf; omega
    · omega)
  have hcv2 := hcvs hc9 (fun k h1 h1b hf => by
    have h2 := HPL.out.1
    have h3 := HB.out.size
    have h4 := HSZ.out.2.2.2.2.2.1
    have h5 := HKELT.out
    rcases hf with ((hf | ⟨off, hf⟩) | hf) | hf
    · omega
    · have := HPL.out.2 k off hf; omega
    · omega
    · omega)
  unfold st15 at hcv2
  clear hcvs hc8 hc9
  obtain ⟨W3, hW3⟩ : ∃ V, V = (st15 W9 be (.int .i64 4) (.int .i64 to) (.int .i64 fr) (.int .i64 br) (.int .i64 bn) (.int .i64 sl) (.bool true) (.string ⟨#[]⟩) (.string ⟨#[]⟩) (.int .i64 0) (.slice none 0 0) (.slice none 0 0) (.slice none 0 0) (.slice none 0 0) (.int .i64 0)).drew := ⟨_, rfl⟩
  have hk9 : Blk W3 be 43 [.int .i64 4, .int .i64 to, .int .i64 fr, .int .i64 br, .int .i64 bn, .int .i64 sl, .bool true, .string ⟨#[]⟩, .string ⟨#[]⟩, .int .i64 0, .slice none 0 0, .slice none 0 0, .slice none 0 0, .slice none 0 0, .int .i64 0] := by rw [hW3]; exact (st15_blk HE9.out _ _ _ _ _ _ _ _ _ _ _ _ _ _ _).drew
  have hT3 : Turns (fun i => i = be) W9 W3 := by rw [hW3]; exact (st15_turns _ _ _ _ _ _ _ _ _ _ _ _ _ _ _ _ _).drew
  have HFI : Hid (OnD B w x a ro ⟨3, fr, to, (br, bn), sl, ⟨⟨np, tk, ct, ep, cut⟩, ao1, cap1⟩, vo, vc, vs, so, sc, seen, eo, ec, evs, ti⟩ (.returned (.tuple #[.agg #[.int .i64 4, .int .i64 to, .int .i64 fr, .int .i64 br, .int .i64 bn, .int .i64 sl, .bool true, .string ⟨#[]⟩, .string ⟨#[]⟩, .int .i64 0, .slice none 0 0, .slice none 0 0, .slice none 0 0, .slice none 0 0, .int .i64 0], .string RR, .bool true])) W3) := by
    have hvo : VotR B W71 x a.node (br, bn) ro (voteV xs ⟨sl, (br, bn), ⟨⟨np, tk, ct, ep, cut⟩, ao1, cap1⟩⟩) W9 := by rw [HND.out]; exact HVO.out
    have h71 : Turns (fun i => i = x) w W71 := H7.out.trans HT71.out (fun i hi => .inr (by rw [hi]; exact HSZ.out.1))
    have h71s := HT71.out.size
    exact acc_on2 H0.out HBW.out HT.out HK4.out h71 hvo hT3 (fun i hi => by
      have h1 := HSZ.out
      subst hi
      exact ⟨by omega, by omega⟩) (fun i hi cs hc => by subst hi; exact blk_neH HE9.out hc (by decide) rfl) HPL.out.2 true HCH.out HND.out HRR.out
  have k0 := hk9.cell (i := 0) rfl
  have k1 := hk9.cell (i := 1) rfl
  have k2 := hk9.cell (i := 2) rfl
  have k3 := hk9.cell (i := 3) rfl
  have k4 := hk9.cell (i := 4) rfl
  have k5 := hk9.cell (i := 5) rfl
  have k6 := hk9.cell (i := 6) rfl
  have k7 := hk9.cell (i := 7) rfl
  have k8 := hk9.cell (i := 8) rfl
  have k9 := hk9.cell (i := 9) rfl
  have k10 := hk9.cell (i := 10) rfl
  have k11 := hk9.cell (i := 11) rfl
  have k12 := hk9.cell (i := 12) rfl
  have k13 := hk9.cell (i := 13) rfl
  have k14 := hk9.cell (i := 14) rfl
  have he := HE9.out
  have e0 := he.cell (i := 0) rfl
  have e1 := he.cell (i := 1) rfl
  have e2 := he.cell (i := 2) rfl
  have e3 := he.cell (i := 3) rfl
  have e4 := he.cell (i := 4) rfl
  have e5 := he.cell (i := 5) rfl
  have e6 := he.cell (i := 6) rfl
  have e7 := he.cell (i := 7) rfl
  have e8 := he.cell (i := 8) rfl
  have e9 := he.cell (i := 9) rfl
  have e10 := he.cell (i := 10) rfl
  have e11 := he.cell (i := 11) rfl
  have e12 := he.cell (i := 12) rfl
  have e13 := he.cell (i := 13) rfl
  have e14 := he.cell (i := 14) rfl
  have g0 := he.frozen 0
  have g1 := he.frozen 1
  have g2 := he.frozen 2
  have g3 := he.frozen 3
  have g4 := he.frozen 4
  have g5 := he.frozen 5
  have g6 := he.frozen 6
  have g7 := he.frozen 7
  have g8 := he.frozen 8
  have g9 := he.frozen 9
  have g10 := he.frozen 10
  have g11 := he.frozen 11
  have g12 := he.frozen 12
  have g13 := he.frozen 13
  have g14 := he.frozen 14
  have hq9 := HKT9.out
  have v0 := hq9.cell (i := 0) rfl
  have v1 := hq9.cell (i := 1) rfl
  have v2 := hq9.cell (i := 2) rfl
  have v3 := hq9.cell (i := 3) rfl
  have v4 := hq9.cell (i := 4) rfl
  have v5 := hq9.cell (i := 5) rfl
  have v6 := hq9.cell (i := 6) rfl
  have v7 := hq9.cell (i := 7) rfl
  have v8 := hq9.cell (i := 8) rfl
  have v9 := hq9.cell (i := 9) rfl
  have v10 := hq9.cell (i := 10) rfl
  have v11 := hq9.cell (i := 11) rfl
  have v12 := hq9.cell (i := 12) rfl
  have v13 := hq9.cell (i := 13) rfl
  have v14 := hq9.cell (i := 14) rfl
  clear hk9 hT3 he hq9
  go_wp2
  go_region
  go_wp2
  unfold st15 at hW3
  rw [← hW3]
  (try simp only [Exit.inBlock, Exit.then])
  refine bodyPost_ret (v := .tuple #[.agg #[.int .i64 4, .int .i64 to, .int .i64 fr, .int .i64 br, .int .i64 bn, .int .i64 sl, .bool true, .string ⟨#[]⟩, .string ⟨#[]⟩, .int .i64 0, .slice none 0 0, .slice none 0 0, .slice none 0 0, .slice none 0 0, .int .i64 0], .string RR, .bool true]) ?_ rfl HFI.out
  rw [results_cellA3 rfl]
  go_simp

set_option maxRecDepth 1000000 in
set_option maxHeartbeats 16000000 in
theorem RaIn.on_a5 {w : World} {B x : Nat} {a : Ac} {xs : List VoM} {ro : Option Addr} {rc : Nat} (h : RaIn B w x a xs ro rc) (hB : B ≤ w.heap.size) (X : MsM) (hx : MsOk w X) (hs : SafeM w B X) (ht : takesA a X = true) (hk : X.kind = 3) (hc : cmpB X.bal a.pr = 0) (hf : ¬ findV xs X.slot 0 < 0) (hv : chgV xs ⟨X.slot, X.bal, X.en⟩ = false) : Calls Tryz.prog 10 #[.pointer (some ⟨x, 0, none⟩), X.val] w (OnD B w x a ro X) := by
  have HT := hid ht
  have H0 := hid h
  have HX0 := hid hx
  have hto : X.to = a.node ∧ RightMs X = true ∧ (encMs X).length ≤ 65536 := by
    unfold takesA at ht
    simp only [Bool.and_eq_true, decide_eq_true_eq] at ht
    exact ⟨ht.1, ht.2.2.1, ht.2.2.2⟩
  have HOK : Hid (∀ V e w', MsgP V X e w' → ∃ ao cp, e = .returned (.tuple #[.slice ao (encMs X).length cp, .int .i64 0]) ∧ Below V.heap.size V w' ∧ w'.ownsRow V.heap.size 5 1 (.slice ao (encMs X).length cp) (encMs X).length (nums (encMs X))) := fun V e w' hP => by
    obtain ⟨h1, h2⟩ := hP
    rw [if_pos hto.2.1, if_pos hto.2.2] at h2
    obtain ⟨v, h3, h4⟩ := h2
    obtain ⟨ao, cp, hv⟩ := own_sliceC h4
    subst hv
    exact ⟨ao, cp, h3, h1, h4⟩
  obtain ⟨EL, HEL⟩ : ∃ m, Hid ((encMs X).length = m) := ⟨_, hid rfl⟩
  rw [HEL.out] at HOK
  have HTO := hid hto.1
  have HKD := hid hk
  have HCM := hid hc
  have hc5 : ¬ 0 < cmpB a.pr X.bal := by rw [cmpB_neg, hc]; decide
  have hff : ¬ (a.f X.slot = none ∧ 4096 ≤ a.ks.length) := fun hh => by have h2 := (h.tw.none h.gok X.slot).2 hh.1; omega
  have HK4 : Hid (kindA a X = 4) := by show _ = _; unfold kindA; rw [if_neg hc5, if_neg (show ¬ X.kind = 1 by omega), if_neg hff]
  have HCV := hid hv
  have HCH : Hid (changesA a X = false) := by
    show _ = _
    unfold changesA
    rw [if_neg (by rw [HK4.out]; decide), if_pos HK4.out, ← h.tw.chg h.gok ⟨X.slot, X.bal, X.en⟩]
    exact hv
  have HSB := hid hs
  have HFW : Hid (findV xs X.slot 0 = -1 → xs.length < 4096) := fun h1 => by omega
  obtain ⟨pr, hpr⟩ : ∃ q, a.pr.1 = q := ⟨_, rfl⟩
  obtain ⟨pn, hpn⟩ : ∃ q, a.pr.2 = q := ⟨_, rfl⟩
  have HPR : Hid (a.pr = (pr, pn)) := by show _ = _; rw [← hpr, ← hpn]
  have HFV := hid hf
  clear hf
  clear ht hto hk hc hpr hpn hc5 hv hff hs
  obtain ⟨W1, hW1⟩ : ∃ W, W = w.alloc (.cells X.cells.toArray 43) := ⟨_, rfl⟩
  obtain ⟨W, hW⟩ : ∃ W, W = W1.alloc (.cells #[.int .i64 0, .int .i64 0, .int .i64 0, .int .i64 0, .int .i64 0, .int .i64 0, .bool false, .string ⟨#[]⟩, .string ⟨#[]⟩, .int .i64 0, .slice none 0 0, .slice none 0 0, .slice none 0 0, .slice none 0 0, .int .i64 0] 43) := ⟨_, rfl⟩
  have hs1 : W1.heap.size = w.heap.size + 1 := by rw [hW1]; simp
  have hb1 : Below w.heap.size w W1 := by rw [hW1]; exact (Below.refl _ _).alloc (Nat.le_refl _) _
  have HB : Hid (Below w.heap.size w W) := by rw [hW]; exact hb1.alloc hb1.size _
  obtain ⟨bm, hbm⟩ : ∃ q, q = w.heap.size := ⟨_, rfl⟩
  obtain ⟨be, hbe⟩ : ∃ q, q = w.heap.size + 1 := ⟨_, rfl⟩
  have HKM : Hid (Blk W bm 43 X.cells) := by rw [hbm, hW, hW1]; exact (Blk.new w _ _).alloc _
  have HKE : Hid (Blk W be 43 [.int .i64 0, .int .i64 0, .int .i64 0, .int .i64 0, .int .i64 0, .int .i64 0, .bool false, .string ⟨#[]⟩, .string ⟨#[]⟩, .int .i64 0, .slice none 0 0, .slice none 0 0, .slice none 0 0, .slice none 0 0, .int .i64 0]) := by rw [hbe, hW, ← hs1]; exact Blk.new W1 _ _
  have HIN := hid (h.below HB.out)
  have HMS := hid (refMsg_any W X (hx.below HB.out))
  have HW : Hid (W = (w.alloc (.cells X.cells.toArray 43)).alloc (.cells #[.int .i64 0, .int .i64 0, .int .i64 0, .int .i64 0, .int .i64 0, .int .i64 0, .bool false, .string ⟨#[]⟩, .string ⟨#[]⟩, .int .i64 0, .slice none 0 0, .slice none 0 0, .slice none 0 0, .slice none 0 0, .int .i64 0] 43)) := by show _ = _; rw [hW, hW1]
  have HBM := hid hbm
  have HBE := hid hbe
  have HBS : Hid (w.heap.size ≤ be ∧ w.heap.size ≤ bm ∧ bm ≠ be) := ⟨by omega, by omega, by omega⟩
  have HBW := hid hB
  have HPL : Hid (x < w.heap.size ∧ ∀ g off, ro = some ⟨g, off, none⟩ → g < w.heap.size) := ⟨h.ra.blk.lt, fun g off e => by subst e; obtain ⟨g', e, _, h1⟩ := ra_addr h.ra; cases e; exact h1⟩
  obtain ⟨nd, HND⟩ : ∃ q, Hid (a.node = q) := ⟨_, hid rfl⟩
  clear h hW hW1 hs1 hb1 hbm hbe hx hB
  obtain ⟨kd, fr, to, ⟨br, bn⟩, sl, ⟨⟨np, tk, ct, ep, cut⟩, ao1, cap1⟩, vo, vc, vs, so, sc, seen, eo, ec, evs, ti⟩ := X
  obtain ⟨XN, HXN⟩ : ∃ m, Hid (cut.length = m) := ⟨_, hid rfl⟩
  obtain ⟨VN, HVN⟩ : ∃ m, Hid (vs.length = m) := ⟨_, hid rfl⟩
  obtain ⟨SN, HSN⟩ : ∃ m, Hid (seen.length = m) := ⟨_, hid rfl⟩
  obtain ⟨EN, HEN⟩ : ∃ m, Hid (evs.length = m) := ⟨_, hid rfl⟩
  simp only [MsM.val, MsM.cells] at HW HKM HMS ⊢
  rw [HXN.out, HVN.out, HSN.out, HEN.out] at HW HKM HMS
  rw [HXN.out, HVN.out, HSN.out, HEN.out]
  have q0 := HKM.out.cell (i := 0) rfl
  have q1 := HKM.out.cell (i := 1) rfl
  have q2 := HKM.out.cell (i := 2) rfl
  have q3 := HKM.out.cell (i := 3) rfl
  have q4 := HKM.out.cell (i := 4) rfl
  have q5 := HKM.out.cell (i := 5) rfl
  have q6 := HKM.out.cell (i := 6) rfl
  have q7 := HKM.out.cell (i := 7) rfl
  have q8 := HKM.out.cell (i := 8) rfl
  have q9 := HKM.out.cell (i := 9) rfl
  have q10 := HKM.out.cell (i := 10) rfl
  have q11 := HKM.out.cell (i := 11) rfl
  have q12 := HKM.out.cell (i := 12) rfl
  have q13 := HKM.out.cell (i := 13) rfl
  have q14 := HKM.out.cell (i := 14) rfl
  simp only at HTO HKD HCM
  rw [HND.out] at HTO
  have e1 := HTO.out
  have e2 := HKD.out
  subst e1 e2
  go_enter Tryz.func10, Tryz.ntmps10
  go_wp2_with fail
  rw [← HW.out, ← HBE.out, ← HBM.out]
  refine HMS.out.mono ?_
  intro e w2 hP
  obtain ⟨mo, mc, rfl, hb2, hown2⟩ := HOK.out _ _ _ hP
  have HOWN := hid hown2
  clear hP hown2
  clear q0 q1 q2 q3 q4 q5 q6 q7 q8 q9 q10 q11 q12 q13 q14
  have hkm := HKM.out.below hb2 HKM.out.lt
  have m0 := hkm.cell (i := 0) rfl
  have m2 := hkm.cell (i := 2) rfl
  have hblk := (HIN.out.below hb2).ra.blk
  rw [HND.out, HPR.out] at hblk
  have c0 := hblk.cell (i := 0) rfl
  have HB2 := hid hb2
  clear hkm hb2 hblk
  go_wp2
  go_quiet (fail)
  obtain ⟨U, hU⟩ : ∃ U, U = w2.drewN nq := ⟨_, rfl⟩
  have HBU : Hid (Below W.heap.size W U) := by rw [hU]; exact below_dn HB2.out _
  rw [← hU]
  have HBU2 : Hid (Below w2.heap.size w2 U) := by rw [hU]; exact below_dn (Below.refl _ _) _
  clear hU m0 m2 c0
  have HSA : Hid (∀ V, ScL U V → (ScL U V ∧ V.cell? ⟨x, 0, none⟩ = some (.int .i64 to) ∧ V.cell? ⟨bm, 1, none⟩ = some (.int .i64 fr) ∧ V.cell? ⟨bm, 3, none⟩ = some (.int .i64 br) ∧ V.cell? ⟨bm, 4, none⟩ = some (.int .i64 bn) ∧ V.cell? ⟨bm, 5, none⟩ = some (.int .i64 sl))) := fun V hV => by
    have hb := bt' HBU.out hV.out
    have hkm := HKM.out.below hb HKM.out.lt
    have hblk := (HIN.out.below hb).ra.blk
    rw [HND.out] at hblk
    exact ⟨hV, hblk.cell rfl, hkm.cell rfl, hkm.cell rfl, hkm.cell rfl, hkm.cell rfl⟩
  go_wp2
  go_region_held3 (fun V => ScL U V ∧ V.cell? ⟨x, 0, none⟩ = some (.int .i64 to) ∧ V.cell? ⟨bm, 1, none⟩ = some (.int .i64 fr) ∧ V.cell? ⟨bm, 3, none⟩ = some (.int .i64 br) ∧ V.cell? ⟨bm, 4, none⟩ = some (.int .i64 bn) ∧ V.cell? ⟨bm, 5, none⟩ = some (.int .i64 sl))
    ((refine HSA.out _ ?_; (repeat (first | with_reducible assumption | exact ScL.start _ | apply ScL.dr | apply ScL.alloc | refine ScL.setCell ?_ (by first | exact Nat.le_refl _ | (simp; done) | (simp; omega)) _))))
    (fail)
  obtain ⟨U2, hU2⟩ : ∃ V, V = (U.alloc (.cells #[.int .i64 0, .int .i64 to, .int .i64 fr, .int .i64 br, .int .i64 bn, .int .i64 sl, .bool true, .string ⟨#[]⟩, .string ⟨#[]⟩, .int .i64 0, .slice none 0 0, .slice none 0 0, .slice none 0 0, .slice none 0 0, .int .i64 0] 43)).drew := ⟨_, rfl⟩
  obtain ⟨bt, hbt⟩ : ∃ q, q = U.heap.size := ⟨_, rfl⟩
  have HKT : Hid (Blk U2 bt 43 [.int .i64 0, .int .i64 to, .int .i64 fr, .int .i64 br, .int .i64 bn, .int .i64 sl, .bool true, .string ⟨#[]⟩, .string ⟨#[]⟩, .int .i64 0, .slice none 0 0, .slice none 0 0, .slice none 0 0, .slice none 0 0, .int .i64 0]) := by rw [hU2, hbt]; exact (Blk.new U _ _).drew
  have HU2 : Hid (ScL U U2) := by rw [hU2]; exact ((ScL.start U).alloc _).dr
  have HBT := hid hbt
  rw [← hU2, ← hbt]
  have HCMP : Hid (∀ V, ScL U2 V → Calls Tryz.prog 23 #[.agg #[.int .i64 br, .int .i64 bn], .agg #[.int .i64 pr, .int .i64 pn]] V fun e w' => e = .returned (.int .i64 (cmpB (br, bn) (pr, pn))) ∧ ScL U2 w') := fun V hV => (rcompareB V (br, bn) (pr, pn)).mono (fun e w' (hh : _ ∧ _) => And.intro hh.1 (hV.go hh.2))
  have hcc : cmpB (br, bn) (pr, pn) = 0 := by have := HCM.out; rw [HPR.out] at this; exact this
  rw [hcc] at HCMP
  have HSB2 : Hid (∀ V, ScL U2 V → (ScL U2 V ∧ V.cell? ⟨x, 1, none⟩ = some (.int .i64 pr) ∧ V.cell? ⟨x, 2, none⟩ = some (.int .i64 pn) ∧ V.cell? ⟨bm, 3, none⟩ = some (.int .i64 br) ∧ V.cell? ⟨bm, 4, none⟩ = some (.int .i64 bn))) := fun V hV => by
    have hb := bt' HBU.out (bt' HU2.out.out hV.out)
    have hkm := HKM.out.below hb HKM.out.lt
    have hblk := (HIN.out.below hb).ra.blk
    rw [HPR.out] at hblk
    exact ⟨hV, hblk.cell rfl, hblk.cell rfl, hkm.cell rfl, hkm.cell rfl⟩
  have m0 := (HKM.out.below (bt' HBU.out HU2.out.out) HKM.out.lt).cell (i := 0) rfl
  clear hU2 hbt HSA
  clear hcc
  have m5 := (HKM.out.below (bt' HBU.out HU2.out.out) HKM.out.lt).cell (i := 5) rfl
  have hra2 := (HIN.out.below (bt' HBU.out HU2.out.out)).ra
  have HFD := hid (hra2.find sl)
  have x3 := hra2.blk.cell (i := 3) rfl
  (try simp only at HFV)
  obtain ⟨P, HP⟩ : ∃ P, Hid (findV xs sl 0 = P) := ⟨_, hid rfl⟩
  rw [HP.out] at HFD HFV
  have hp1 : ¬ P < 0 := by have := HFV.out; omega
  have hp2 : decide (P < 0) = false := decide_eq_false hp1
  clear hra2
  go_wp2_with fail
  refine HFD.out.mono ?_
  rintro e w3 ⟨rfl, hw3⟩
  rw [hw3]
  clear hw3 w3
  go_wp2
  refine wp_region_noPanic ?_
  refine wp_region_held_drew (S := (fun V => ScL U2 V ∧ V.cell? ⟨x, 1, none⟩ = some (.int .i64 pr) ∧ V.cell? ⟨x, 2, none⟩ = some (.int .i64 pn) ∧ V.cell? ⟨bm, 3, none⟩ = some (.int .i64 br) ∧ V.cell? ⟨bm, 4, none⟩ = some (.int .i64 bn))) (by kernel_rfl) (HSB2.out _ (ScL.start U2).dr) (fun hHeld => ?_)
  have hs0 := (ScL.start U2).dr
  refine wpAnyH_take (i := 0) (oi := { dst := some 69, op := Go.Op.fieldAddr 43 (Go.Operand.tmp 3) 3, type := 0, pos := "ref.go:81", after := #[], guard := none }) (v := ?vc0) rfl (by kernel_rfl) (by kernel_rfl) (by kernel_rfl) (fun _ _ _ h => h) (Or.inl ⟨by rfl, ?hyc0⟩) (by assumption) ?restc0
  case hyc0 => (intro w0 hSw; (try dsimp only at hSw); go_simp; try with_reducible rfl)
  simp only [Act.put, List.setIfInBounds_toArray, List.set_cons_zero, List.set_cons_succ]
  refine wpAnyH_take (i := 1) (oi := { dst := some 70, op := Go.Op.load 35 (Go.Operand.tmp 69), type := 35, pos := "ref.go:81", after := #[{ on := 0, ground := Go.Ground.data }], guard := none }) (v := ?vc1) rfl (by kernel_rfl) (by kernel_rfl) (by kernel_rfl) (fun _ _ _ h => h) (Or.inl ⟨by rfl, ?hyc1⟩) (by assumption) ?restc1
  case hyc1 => (intro w0 hSw; (try dsimp only at hSw); go_simp; try with_reducible rfl)
  simp only [Act.put, List.setIfInBounds_toArray, List.set_cons_zero, List.set_cons_succ]
  refine wpAnyH_take (i := 2) (oi := { dst := some 71, op := Go.Op.move (Go.Operand.tmp 0), type := 28, pos := "ref.go:81", after := #[], guard := none }) (v := ?vc2) rfl (by kernel_rfl) (by kernel_rfl) (by kernel_rfl) (fun _ _ _ h => h) (Or.inl ⟨by rfl, ?hyc2⟩) (by assumption) ?restc2
  case hyc2 => (intro w0 hSw; (try dsimp only at hSw); go_simp; try with_reducible rfl)
  simp only [Act.put, List.setIfInBounds_toArray, List.set_cons_zero, List.set_cons_succ]
  refine wpAnyH_take (i := 3) (oi := { dst := some 72, op := Go.Op.nilCheck (Go.Operand.tmp 71), type := 0, pos := "ref.go:81", after := #[{ on := 2, ground := Go.Ground.data }], guard := none }) (v := ?vc3) rfl (by kernel_rfl) (by kernel_rfl) (by kernel_rfl) (fun _ _ _ h => h) (Or.inl ⟨by rfl, ?hyc3⟩) (by assumption) ?restc3
  case hyc3 => (intro w0 hSw; (try dsimp only at hSw); go_simp; try with_reducible rfl)
  simp only [Act.put, List.setIfInBounds_toArray, List.set_cons_zero, List.set_cons_succ]
  refine wpAnyH_take (i := 4) (oi := { dst := some 73, op := Go.Op.fieldAddr 51 (Go.Operand.tmp 72) 1, type := 0, pos := "ref.go:81", after := #[{ on := 3, ground := Go.Ground.data }], guard := none }) (v := ?vc4) rfl (by kernel_rfl) (by kernel_rfl) (by kernel_rfl) (fun _ _ _ h => h) (Or.inl ⟨by rfl, ?hyc4⟩) (by assumption) ?restc4
  case hyc4 => (intro w0 hSw; (try dsimp only at hSw); go_simp; try with_reducible rfl)
  simp only [Act.put, List.setIfInBounds_toArray, List.set_cons_zero, List.set_cons_succ]
  refine wpAnyH_take (i := 5) (oi := { dst := some 74, op := Go.Op.load 35 (Go.Operand.tmp 73), type := 35, pos := "ref.go:81", after := #[{ on := 4, ground := Go.Ground.data }], guard := none }) (v := ?vc5) rfl (by kernel_rfl) (by kernel_rfl) (by kernel_rfl) (fun _ _ _ h => h) (Or.inl ⟨by rfl, ?hyc5⟩) (by assumption) ?restc5
  case hyc5 => (intro w0 hSw; (try dsimp only at hSw); go_simp; try with_reducible rfl)
  simp only [Act.put, List.setIfInBounds_toArray, List.set_cons_zero, List.set_cons_succ]
  refine wpAnyH_ready (rs := [6]) (by kernel_rfl) (by simp) ?_
  refine AllReadyH.cons (o := { dst := some 75, op := Go.Op.call { callee := Go.Callee.value (Go.Operand.func 23), args := #[Go.Operand.tmp 70, Go.Operand.tmp 74], argTypes := #[35, 35] }, type := 3, pos := "ref.go:81", after := #[{ on := 1, ground := Go.Ground.data }, { on := 5, ground := Go.Ground.data }], guard := none }) rfl (fun K hK => ?_) AllReadyH.nil
  go_simp
  refine (HCMP.out _ (by (repeat (first | assumption | exact ScL.start _ | apply ScL.dr)))).mono ?_
  rintro e6 w6 ⟨rfl, hs6⟩
  clear hs0
  have hs0 := hs6
  go_simp
  refine hK.out _ _ (HSB2.out _ hs0) (fun hHeld => ?_)
  clear hK K
  try simp only [Act.put, List.setIfInBounds_toArray, List.set_cons_zero, List.set_cons_succ]
  refine wpAnyH_take (i := 7) (oi := { dst := some 76, op := Go.Op.binOp Go.BinOp.lss 3 (Go.Operand.tmp 75) (Go.Operand.const (Go.Value.int Go.IntKind.i64 0)) 3, type := 4, pos := "ref.go:81", after := #[{ on := 6, ground := Go.Ground.data }], guard := none }) (v := ?vc7) rfl (by kernel_rfl) (by kernel_rfl) (by kernel_rfl) (fun _ _ _ h => h) (Or.inl ⟨by rfl, ?hyc7⟩) (by assumption) ?restc7
  case hyc7 => (intro w0 hSw; (try dsimp only at hSw); go_simp; try with_reducible rfl)
  simp only [Act.put, List.setIfInBounds_toArray, List.set_cons_zero, List.set_cons_succ]
  refine wpAnyH_take (i := 8) (oi := { dst := some 77, op := Go.Op.move (Go.Operand.tmp 76), type := 4, pos := "ref.go:81", after := #[{ on := 7, ground := Go.Ground.data }, { on := 6, ground := Go.Ground.chain }], guard := none }) (v := ?vc8) rfl (by kernel_rfl) (by kernel_rfl) (by kernel_rfl) (fun _ _ _ h => h) (Or.inl ⟨by rfl, ?hyc8⟩) (by assumption) ?restc8
  case hyc8 => (intro w0 hSw; (try dsimp only at hSw); go_simp; try with_reducible rfl)
  simp only [Act.put, List.setIfInBounds_toArray, List.set_cons_zero, List.set_cons_succ]
  refine wpAnyH_take (i := 9) (oi := { dst := some 78, op := Go.Op.move (Go.Operand.tmp 10), type := 4, pos := "ref.go:81", after := #[{ on := 8, ground := Go.Ground.guard }], guard := some (8, false) }) (v := ?vc9) rfl (by kernel_rfl) (by kernel_rfl) (by kernel_rfl) (fun _ _ _ h => h) (Or.inl ⟨by rfl, ?hyc9⟩) (by assumption) ?restc9
  case hyc9 => (intro w0 hSw; (try dsimp only at hSw); go_simp; try with_reducible rfl)
  simp only [Act.put, List.setIfInBounds_toArray, List.set_cons_zero, List.set_cons_succ]
  refine wpAnyH_take (i := 10) (oi := { dst := some 79, op := Go.Op.pick (Go.Operand.tmp 77) (Go.Operand.const (Go.Value.bool true)) (Go.Operand.tmp 78), type := 4, pos := "ref.go:81", after := #[{ on := 8, ground := Go.Ground.data }, { on := 9, ground := Go.Ground.data }], guard := none }) (v := ?vc10) rfl (by kernel_rfl) (by kernel_rfl) (by kernel_rfl) (fun _ _ _ h => h) (Or.inl ⟨by rfl, ?hyc10⟩) (by assumption) ?restc10
  case hyc10 => (intro w0 hSw; (try dsimp only at hSw); go_simp; try with_reducible rfl)
  simp only [Act.put, List.setIfInBounds_toArray, List.set_cons_zero, List.set_cons_succ]
  refine wpAnyH_done (by kernel_rfl) ?_ _
  refine NoPanic.normal ?_
  have c1 := (HSB2.out _ hs6).2.1
  have c2 := (HSB2.out _ hs6).2.2.1
  have m3 := (HSB2.out _ hs6).2.2.2.1
  have m4 := (HSB2.out _ hs6).2.2.2.2
  obtain ⟨e3, e4⟩ : br = pr ∧ bn = pn := by
    have h1 := HCM.out
    rw [HPR.out] at h1
    have h2 := cmpB_zero.1 h1
    exact ⟨congrArg Prod.fst h2, congrArg Prod.snd h2⟩
  obtain rfl := e3
  obtain rfl := e4
  have HS6 := hid hs6
  clear hs6 hs0 hHeld HSB2 HCMP
  go_wp2
  go_quiet (fail)
  obtain ⟨U6, hU6⟩ : ∃ V, V = w6.drewN nq := ⟨_, rfl⟩
  have HB26 : Hid (Below U2.heap.size U2 U6) := by rw [hU6]; exact below_dn HS6.out.out _
  have HBS6 : Hid (Below U.heap.size U U6) := by rw [hU6]; exact below_dn (bt' HU2.out.out HS6.out.out) _
  rw [← hU6]
  clear hU6 c1 c2 m3 m4
  have HIN6 := hid (HIN.out.below (bt' HBU.out HBS6.out))
  have hkm6 := HKM.out.below (bt' HBU.out HBS6.out) HKM.out.lt
  have hxm : x ≠ bm := by have := HPL.out.1; have := HBS.out.2.1; omega
  have hmx : bm ≠ x := fun e => hxm e.symm
  have m0 := hkm6.cell (i := 0) rfl
  have m3 := hkm6.cell (i := 3) rfl
  have m4 := hkm6.cell (i := 4) rfl
  have m5 := hkm6.cell (i := 5) rfl
  have m6 := hkm6.cell (i := 6) rfl
  have m7 := hkm6.cell (i := 7) rfl
  have m8 := hkm6.cell (i := 8) rfl
  have m9 := hkm6.cell (i := 9) rfl
  have m10 := hkm6.cell (i := 10) rfl
  have hblk6 := HIN6.out.ra.blk
  have c1 := hblk6.cell (i := 1) rfl
  have c2 := hblk6.cell (i := 2) rfl
  have f1 := hblk6.frozen 1
  have f2 := hblk6.frozen 2
  have hxx : x ≠ be := by have := HPL.out.1; have := HBS.out.1; omega
  obtain ⟨W7, hW7⟩ : ∃ V, V = (U6.setCell ⟨x, 1, none⟩ (.int .i64 br)).setCell ⟨x, 2, none⟩ (.int .i64 bn) := ⟨_, rfl⟩
  have HR7 : Hid (RaAt W7 B x to (br, bn) xs ro rc) := by rw [hW7, ← HND.out]; exact ra_prom HIN6.out.ra br bn
  have HT7 : Hid (Turns (fun i => i = x) U6 W7) := by rw [hW7]; exact turns_own (turns_own (Turns.refl _ _))
  have hxt : x ≠ bt := by have := HPL.out.1; have := HBT.out; have := HBU.out.size; have := HB.out.size; omega
  have HKT7 : Hid (Blk W7 bt 43 [.int .i64 0, .int .i64 to, .int .i64 fr, .int .i64 br, .int .i64 bn, .int .i64 sl, .bool true, .string ⟨#[]⟩, .string ⟨#[]⟩, .int .i64 0, .slice none 0 0, .slice none 0 0, .slice none 0 0, .slice none 0 0, .int .i64 0]) := HT7.out.blk (HKT.out.below HB26.out HKT.out.lt) (fun e => hxt e.symm)
  have HKE7 : Hid (Blk W7 be 43 [.int .i64 0, .int .i64 0, .int .i64 0, .int .i64 0, .int .i64 0, .int .i64 0, .bool false, .string ⟨#[]⟩, .string ⟨#[]⟩, .int .i64 0, .slice none 0 0, .slice none 0 0, .slice none 0 0, .slice none 0 0, .int .i64 0]) := HT7.out.blk (HKE.out.below (bt' HBU.out HBS6.out) HKE.out.lt) (fun e => by have := HPL.out.1; have := HBS.out.1; omega)
  have HKELT : Hid (be < W.heap.size) := HKE.out.lt
  have HSZ : Hid (w.heap.size ≤ bt ∧ bt < W7.heap.size ∧ w.heap.size ≤ be ∧ be < W7.heap.size ∧ bt ≠ be ∧ w2.heap.size ≤ bt ∧ B ≤ W7.heap.size) := by
    have h1 := HKT7.out.lt
    have h2 := HKE7.out.lt
    have h3 := HBT.out
    have h4 := HKE.out.lt
    have h5 := HBU.out.size
    have h6 := HB.out.size
    have h7 := HBU2.out.size
    have h8 := HBS.out.1
    have h9 := HBW.out
    exact ⟨by omega, h1, h8, h2, by omega, by omega, by omega⟩
  have H7 : Hid (Turns (fun i => i = x) w W7) := (Turns.of_below (F := fun i => i = x) (bt' HB.out (bt' HBU.out HBS6.out)) (Nat.le_refl _)).trans HT7.out (fun i hi => .inl hi)
  have HO7 : Hid (Turns (fun i => i = x) w2 W7) := ((Turns.of_below (F := fun i => i = x) HBU2.out (Nat.le_refl _)).trans (Turns.of_below (F := fun i => i = x) HBS6.out (Nat.le_refl _)) (fun i hi => .inl hi)).trans HT7.out (fun i hi => .inl hi)
  obtain ⟨W71, hW71⟩ : ∃ V, V = W7.setCell ⟨bt, 0, none⟩ (.int .i64 4) := ⟨_, rfl⟩
  have HT71 : Hid (Turns (fun i => i = bt) W7 W71) := by rw [hW71]; exact turns_own (Turns.refl _ _)
  have hkt71 : Blk W71 bt 43 [.int .i64 4, .int .i64 to, .int .i64 fr, .int .i64 br, .int .i64 bn, .int .i64 sl, .bool true, .string ⟨#[]⟩, .string ⟨#[]⟩, .int .i64 0, .slice none 0 0, .slice none 0 0, .slice none 0 0, .slice none 0 0, .int .i64 0] := by rw [hW71]; exact HKT7.out.set 0 _
  have HKT71 := hid hkt71
  have HE71 := hid (HT71.out.blk HKE7.out (fun e => HSZ.out.2.2.2.2.1 e.symm))
  have HRT : Hid (∀ g off, ro = some ⟨g, off, none⟩ → g ≠ bt) := fun g off e => by have := HPL.out.2 g off e; have := HSZ.out.1; omega
  have hib : ∀ i, i = bt → ∀ cs, ¬ Blk W7 i 3 cs := fun i hi cs hc => by subst hi; exact blk_neH HKT7.out hc (by decide) rfl
  have hix : ∀ i, i = x → ∀ cs, ¬ Blk w i 3 cs := fun i hi cs hc => by subst hi; exact blk_neH H0.out.ra.blk hc (by decide) rfl
  have HSB7 : Hid (∀ b off, ao1 = some ⟨b, off, none⟩ → cut ≠ [] → SafeC W7 B b) := fun b off e hne => (HSB.out b off e hne).turned H7.out hix
  have HSB71 : Hid (∀ b off, ao1 = some ⟨b, off, none⟩ → cut ≠ [] → SafeC W71 B b) := fun b off e hne => (HSB7.out b off e hne).turned HT71.out hib
  have HR71 := hid (HR7.out.turned HT71.out (fun i hi => by rw [hi]; have := HSZ.out.1; have := HBW.out; omega) hib hxt HRT.out)
  have hmt : bm ≠ bt := by have := HKM.out.lt; have := HBT.out; have := HBU.out.size; omega
  have htm : bt ≠ bm := fun e => hmt e.symm
  have htx : bt ≠ x := fun e => hxt e.symm
  have t0 := HKT7.out.cell (i := 0) rfl
  have u0 := HKT7.out.frozen 0
  have HBA71 : Hid (Below w.heap.size w W71 ∨ True) := .inr trivial
  have hvok : VoOk W71 ⟨sl, (br, bn), ⟨⟨np, tk, ct, ep, cut⟩, ao1, cap1⟩⟩ := voOk_turned (voOk_turned ⟨HX0.out.en, HX0.out.isl, HX0.out.ib1, HX0.out.ib2⟩ H7.out (fun b off e hne => (HSB.out b off e hne).off (fun i hi => by rw [hi]; exact H0.out.ra.bx) hix)) HT71.out (fun b off e hne => (HSB7.out b off e hne).off (fun i hi => by rw [hi]; have := HSZ.out.1; have := HBW.out; omega) hib)
  have HVC := hid (HR71.out.vote (Nat.le_trans HSZ.out.2.2.2.2.2.2 HT71.out.size) ⟨sl, (br, bn), ⟨⟨np, tk, ct, ep, cut⟩, ao1, cap1⟩⟩ hvok HSB71.out HFW.out)
  rw [show chgV xs ⟨sl, (br, bn), ⟨⟨np, tk, ct, ep, cut⟩, ao1, cap1⟩⟩ = false from HCV.out] at HVC
  simp only [VoM.val] at HVC
  rw [HXN.out] at HVC
  clear hkm6 hblk6 HKT HKE HIN HIN6 HKM HT7 hvok hkt71 hib hix
  rw [hW7] at t0 u0
  go_wp2_with fail
  rw [← hW7]
  rw [← hW71]
  clear hW7 hW71 m0 m3 m4 m5 m6 m7 m8 m9 m10 c1 c2 f1 f2 t0 u0
  refine HVC.out.mono ?_
  rintro e W9 ⟨rfl, hvo8⟩
  have HVO := hid hvo8
  obtain ⟨_, _, _, ht8, _⟩ := hvo8
  have HT8 := hid ht8
  have HFT : Hid (¬ FootR x ro bt) := fun hf => by
    rcases hf with hf | ⟨off, hf⟩
    · exact hxt hf.symm
    · exact HRT.out bt off hf rfl
  have HFE : Hid (¬ FootR x ro be) := fun hf => by
    rcases hf with hf | ⟨off, hf⟩
    · exact hxx hf.symm
    · have := HPL.out.2 be off hf; have := HBS.out.1; omega
  have htt := ht8.blk HKT71.out HFT.out
  have HE8 := hid (ht8.blk HE71.out HFE.out)
  have HKT9 : Hid (Blk W9 bt 43 [.int .i64 4, .int .i64 to, .int .i64 fr, .int .i64 br, .int .i64 bn, .int .i64 sl, .bool true, .string ⟨#[]⟩, .string ⟨#[]⟩, .int .i64 0, .slice none 0 0, .slice none 0 0, .slice none 0 0, .slice none 0 0, .int .i64 0]) := htt
  have HE9 := HE8
  have hbe : be ≠ bt := fun e => HSZ.out.2.2.2.2.1 e.symm
  have hbe2 : bt ≠ be := HSZ.out.2.2.2.2.1
  clear ht8 hmt htm htx htt
  obtain ⟨RR, HRR⟩ : ∃ r, Hid ((if false = true then recOf ⟨3, fr, to, (br, bn), sl, ⟨⟨np, tk, ct, ep, cut⟩, ao1, cap1⟩, vo, vc, vs, so, sc, seen, eo, ec, evs, ti⟩ else ⟨#[]⟩) = r) := ⟨_, hid rfl⟩
  obtain ⟨W3, hW3⟩ : ∃ V, V = (st15 W9 be (.int .i64 4) (.int .i64 to) (.int .i64 fr) (.int .i64 br) (.int .i64 bn) (.int .i64 sl) (.bool true) (.string ⟨#[]⟩) (.string ⟨#[]⟩) (.int .i64 0) (.slice none 0 0) (.slice none 0 0) (.slice none 0 0) (.slice none 0 0) (.int .i64 0)) := ⟨_, rfl⟩
  have hk9 : Blk W3 be 43 [.int .i64 4, .int .i64 to, .int .i64 fr, .int .i64 br, .int .i64 bn, .int .i64 sl, .bool true, .string ⟨#[]⟩, .string ⟨#[]⟩, .int .i64 0, .slice none 0 0, .slice none 0 0, .slice none 0 0, .slice none 0 0, .int .i64 0] := by rw [hW3]; exact (st15_blk HE9.out _ _ _ _ _ _ _ _ _ _ _ _ _ _ _)
  have hT3 : Turns (fun i => i = be) W9 W3 := by rw [hW3]; exact (st15_turns _ _ _ _ _ _ _ _ _ _ _ _ _ _ _ _ _)
  have HFI : Hid (OnD B w x a ro ⟨3, fr, to, (br, bn), sl, ⟨⟨np, tk, ct, ep, cut⟩, ao1, cap1⟩, vo, vc, vs, so, sc, seen, eo, ec, evs, ti⟩ (.returned (.tuple #[.agg #[.int .i64 4, .int .i64 to, .int .i64 fr, .int .i64 br, .int .i64 bn, .int .i64 sl, .bool true, .string ⟨#[]⟩, .string ⟨#[]⟩, .int .i64 0, .slice none 0 0, .slice none 0 0, .slice none 0 0, .slice none 0 0, .int .i64 0], .string RR, .bool true])) W3) := by
    have hvo : VotR B W71 x a.node (br, bn) ro (voteV xs ⟨sl, (br, bn), ⟨⟨np, tk, ct, ep, cut⟩, ao1, cap1⟩⟩) W9 := by rw [HND.out]; exact HVO.out
    have h71 : Turns (fun i => i = x) w W71 := H7.out.trans HT71.out (fun i hi => .inr (by rw [hi]; exact HSZ.out.1))
    have h71s := HT71.out.size
    exact acc_on2 H0.out HBW.out HT.out HK4.out h71 hvo hT3 (fun i hi => by
      have h1 := HSZ.out
      subst hi
      exact ⟨by omega, by omega⟩) (fun i hi cs hc => by subst hi; exact blk_neH HE9.out hc (by decide) rfl) HPL.out.2 false HCH.out HND.out HRR.out
  have hrr : RR = ⟨#[]⟩ := HRR.out.symm.trans (if_neg (by decide))
  have k0 := hk9.cell (i := 0) rfl
  have k1 := hk9.cell (i := 1) rfl
  have k2 := hk9.cell (i := 2) rfl
  have k3 := hk9.cell (i := 3) rfl
  have k4 := hk9.cell (i := 4) rfl
  have k5 := hk9.cell (i := 5) rfl
  have k6 := hk9.cell (i := 6) rfl
  have k7 := hk9.cell (i := 7) rfl
  have k8 := hk9.cell (i := 8) rfl
  have k9 := hk9.cell (i := 9) rfl
  have k10 := hk9.cell (i := 10) rfl
  have k11 := hk9.cell (i := 11) rfl
  have k12 := hk9.cell (i := 12) rfl
  have k13 := hk9.cell (i := 13) rfl
  have k14 := hk9.cell (i := 14) rfl
  have he := HE9.out
  have e0 := he.cell (i := 0) rfl
  have e1 := he.cell (i := 1) rfl
  have e2 := he.cell (i := 2) rfl
  have e3 := he.cell (i := 3) rfl
  have e4 := he.cell (i := 4) rfl
  have e5 := he.cell (i := 5) rfl
  have e6 := he.cell (i := 6) rfl
  have e7 := he.cell (i := 7) rfl
  have e8 := he.cell (i := 8) rfl
  have e9 := he.cell (i := 9) rfl
  have e10 := he.cell (i := 10) rfl
  have e11 := he.cell (i := 11) rfl
  have e12 := he.cell (i := 12) rfl
  have e13 := he.cell (i := 13) rfl
  have e14 := he.cell (i := 14) rfl
  have g0 := he.frozen 0
  have g1 := he.frozen 1
  have g2 := he.frozen 2
  have g3 := he.frozen 3
  have g4 := he.frozen 4
  have g5 := he.frozen 5
  have g6 := he.frozen 6
  have g7 := he.frozen 7
  have g8 := he.frozen 8
  have g9 := he.frozen 9
  have g10 := he.frozen 10
  have g11 := he.frozen 11
  have g12 := he.frozen 12
  have g13 := he.frozen 13
  have g14 := he.frozen 14
  have hq9 := HKT9.out
  have v0 := hq9.cell (i := 0) rfl
  have v1 := hq9.cell (i := 1) rfl
  have v2 := hq9.cell (i := 2) rfl
  have v3 := hq9.cell (i := 3) rfl
  have v4 := hq9.cell (i := 4) rfl
  have v5 := hq9.cell (i := 5) rfl
  have v6 := hq9.cell (i := 6) rfl
  have v7 := hq9.cell (i := 7) rfl
  have v8 := hq9.cell (i := 8) rfl
  have v9 := hq9.cell (i := 9) rfl
  have v10 := hq9.cell (i := 10) rfl
  have v11 := hq9.cell (i := 11) rfl
  have v12 := hq9.cell (i := 12) rfl
  have v13 := hq9.cell (i := 13) rfl
  have v14 := hq9.cell (i := 14) rfl
  clear hk9 hT3 he hq9
  rw [hrr] at HFI
  go_wp2
  unfold st15 at hW3
  rw [← hW3]
  (try simp only [Exit.inBlock, Exit.then])
  refine bodyPost_ret (v := .tuple #[.agg #[.int .i64 4, .int .i64 to, .int .i64 fr, .int .i64 br, .int .i64 bn, .int .i64 sl, .bool true, .string ⟨#[]⟩, .string ⟨#[]⟩, .int .i64 0, .slice none 0 0, .slice none 0 0, .slice none 0 0, .slice none 0 0, .int .i64 0], .string ⟨#[]⟩, .bool true]) ?_ rfl HFI.out
  rw [results_cellA3 rfl]
  go_simp

end Go.Proofs.YtfmnbehopdmahaaGreat
