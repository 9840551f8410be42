/-
  pannierref16.On of a Prepare below its promise.
-/
import Derived.Test.YtfmnbehopdmahaaGreatAvG
import Derived.Test.YtfmnbehopdmahaaGreatAvB
import Derived.Test.YtfmnbehopdmahaaGreatAcX
import Derived.Deep.RegionHeld3
import Derived.BigRegion
namespace Go.Proofs.YtfmnbehopdmahaaGreat
open Go.RowKit Go.Maps

set_option maxRecDepth 1000000 in
set_option maxHeartbeats 8000000 in
theorem RaIn.on_r1 {w : World} {B x : Nat} {a : Ac} {xs : List VoM} {ro : Option Addr} {rc : Nat} (h : RaIn B w x a xs ro rc) (hB : B ≤ w.heap.size) (X : MsM) (hx : MsOk w X) (ht : takesA a X = true) (hk : X.kind = 1) (hc : cmpB X.bal a.pr = -1) : Calls Tryz.prog 10 #[.pointer (some ⟨x, 0, none⟩), X.val] w (OnD B w x a ro X) := by
  have HT := hid ht
  have H0 := hid h
  have hto : X.to = a.node ∧ RightMs X = true ∧ (encMs X).length ≤ 65536 := by
    unfold takesA at ht
    simp only [Bool.and_eq_true, decide_eq_true_eq] at ht
    exact ⟨ht.1, ht.2.2.1, ht.2.2.2⟩
  have HOK : Hid (∀ V e w', MsgP V X e w' → ∃ ao cp, e = .returned (.tuple #[.slice ao (encMs X).length cp, .int .i64 0]) ∧ Below V.heap.size V w') := fun V e w' hP => by
    obtain ⟨h1, h2⟩ := hP
    rw [if_pos hto.2.1, if_pos hto.2.2] at h2
    obtain ⟨v, h3, h4⟩ := h2
    rcases h4.2 with ⟨hv, h0⟩ | ⟨g, cap, cur, hv, _⟩
    · exact ⟨none, 0, by rw [h3, hv, h0], h1⟩
    · exact ⟨_, _, by rw [h3, hv], h1⟩
  obtain ⟨EL, HEL⟩ : ∃ m, Hid ((encMs X).length = m) := ⟨_, hid rfl⟩
  rw [HEL.out] at HOK
  have HTO := hid hto.1
  have HKD := hid hk
  have HCM := hid hc
  have HK5 : Hid (kindA a X = 5) := by show _ = _; unfold kindA; rw [if_pos (by rw [cmpB_neg, hc]; decide)]
  obtain ⟨pr, hpr⟩ : ∃ q, a.pr.1 = q := ⟨_, rfl⟩
  obtain ⟨pn, hpn⟩ : ∃ q, a.pr.2 = q := ⟨_, rfl⟩
  have HPR : Hid (a.pr = (pr, pn)) := by show _ = _; rw [← hpr, ← hpn]
  clear ht hto hk hc hpr hpn
  obtain ⟨W1, hW1⟩ : ∃ W, W = w.alloc (.cells X.cells.toArray 43) := ⟨_, rfl⟩
  obtain ⟨W, hW⟩ : ∃ W, W = W1.alloc (.cells #[.int .i64 0, .int .i64 0, .int .i64 0, .int .i64 0, .int .i64 0, .int .i64 0, .bool false, .string ⟨#[]⟩, .string ⟨#[]⟩, .int .i64 0, .slice none 0 0, .slice none 0 0, .slice none 0 0, .slice none 0 0, .int .i64 0] 43) := ⟨_, rfl⟩
  have hs1 : W1.heap.size = w.heap.size + 1 := by rw [hW1]; simp
  have hb1 : Below w.heap.size w W1 := by rw [hW1]; exact (Below.refl _ _).alloc (Nat.le_refl _) _
  have HB : Hid (Below w.heap.size w W) := by rw [hW]; exact hb1.alloc hb1.size _
  obtain ⟨bm, hbm⟩ : ∃ q, q = w.heap.size := ⟨_, rfl⟩
  obtain ⟨be, hbe⟩ : ∃ q, q = w.heap.size + 1 := ⟨_, rfl⟩
  have HKM : Hid (Blk W bm 43 X.cells) := by rw [hbm, hW, hW1]; exact (Blk.new w _ _).alloc _
  have HKE : Hid (Blk W be 43 [.int .i64 0, .int .i64 0, .int .i64 0, .int .i64 0, .int .i64 0, .int .i64 0, .bool false, .string ⟨#[]⟩, .string ⟨#[]⟩, .int .i64 0, .slice none 0 0, .slice none 0 0, .slice none 0 0, .slice none 0 0, .int .i64 0]) := by rw [hbe, hW, ← hs1]; exact Blk.new W1 _ _
  have HIN := hid (h.below HB.out)
  have HMS := hid (refMsg_any W X (hx.below HB.out))
  have HW : Hid (W = (w.alloc (.cells X.cells.toArray 43)).alloc (.cells #[.int .i64 0, .int .i64 0, .int .i64 0, .int .i64 0, .int .i64 0, .int .i64 0, .bool false, .string ⟨#[]⟩, .string ⟨#[]⟩, .int .i64 0, .slice none 0 0, .slice none 0 0, .slice none 0 0, .slice none 0 0, .int .i64 0] 43)) := by show _ = _; rw [hW, hW1]
  have HBM := hid hbm
  have HBE := hid hbe
  have HBS : Hid (w.heap.size ≤ be ∧ w.heap.size ≤ bm ∧ bm ≠ be) := ⟨by omega, by omega, by omega⟩
  have HBW := hid hB
  have HPL : Hid (x < w.heap.size ∧ ∀ g off, ro = some ⟨g, off, none⟩ → g < w.heap.size) := ⟨h.ra.blk.lt, fun g off e => by subst e; obtain ⟨g', e, _, h1⟩ := ra_addr h.ra; cases e; exact h1⟩
  obtain ⟨nd, HND⟩ : ∃ q, Hid (a.node = q) := ⟨_, hid rfl⟩
  clear h hW hW1 hs1 hb1 hbm hbe hx hB
  obtain ⟨kd, fr, to, ⟨br, bn⟩, sl, ⟨⟨np, tk, ct, ep, cut⟩, ao1, cap1⟩, vo, vc, vs, so, sc, seen, eo, ec, evs, ti⟩ := X
  obtain ⟨XN, HXN⟩ : ∃ m, Hid (cut.length = m) := ⟨_, hid rfl⟩
  obtain ⟨VN, HVN⟩ : ∃ m, Hid (vs.length = m) := ⟨_, hid rfl⟩
  obtain ⟨SN, HSN⟩ : ∃ m, Hid (seen.length = m) := ⟨_, hid rfl⟩
  obtain ⟨EN, HEN⟩ : ∃ m, Hid (evs.length = m) := ⟨_, hid rfl⟩
  simp only [MsM.val, MsM.cells] at HW HKM HMS ⊢
  rw [HXN.out, HVN.out, HSN.out, HEN.out] at HW HKM HMS
  rw [HXN.out, HVN.out, HSN.out, HEN.out]
  have q0 := HKM.out.cell (i := 0) rfl
  have q1 := HKM.out.cell (i := 1) rfl
  have q2 := HKM.out.cell (i := 2) rfl
  have q3 := HKM.out.cell (i := 3) rfl
  have q4 := HKM.out.cell (i := 4) rfl
  have q5 := HKM.out.cell (i := 5) rfl
  have q6 := HKM.out.cell (i := 6) rfl
  have q7 := HKM.out.cell (i := 7) rfl
  have q8 := HKM.out.cell (i := 8) rfl
  have q9 := HKM.out.cell (i := 9) rfl
  have q10 := HKM.out.cell (i := 10) rfl
  have q11 := HKM.out.cell (i := 11) rfl
  have q12 := HKM.out.cell (i := 12) rfl
  have q13 := HKM.out.cell (i := 13) rfl
  have q14 := HKM.out.cell (i := 14) rfl
  simp only at HTO HKD HCM
  rw [HND.out] at HTO
  have e1 := HTO.out
  have e2 := HKD.out
  subst e1 e2
  go_enter Tryz.func10, Tryz.ntmps10
  go_wp2_with fail
  rw [← HW.out, ← HBE.out, ← HBM.out]
  refine HMS.out.mono ?_
  intro e w2 hP
  obtain ⟨mo, mc, rfl, hb2⟩ := HOK.out _ _ _ hP
  clear hP
  clear q0 q1 q2 q3 q4 q5 q6 q7 q8 q9 q10 q11 q12 q13 q14
  have hkm := HKM.out.below hb2 HKM.out.lt
  have m0 := hkm.cell (i := 0) rfl
  have m2 := hkm.cell (i := 2) rfl
  have hblk := (HIN.out.below hb2).ra.blk
  rw [HND.out, HPR.out] at hblk
  have c0 := hblk.cell (i := 0) rfl
  have HB2 := hid hb2
  clear hkm hb2 hblk
  go_wp2
  go_quiet (fail)
  obtain ⟨U, hU⟩ : ∃ U, U = w2.drewN nq := ⟨_, rfl⟩
  have HBU : Hid (Below W.heap.size W U) := by rw [hU]; exact below_dn HB2.out _
  rw [← hU]
  clear hU m0 m2 c0
  have HSA : Hid (∀ V, ScL U V → (ScL U V ∧ V.cell? ⟨x, 0, none⟩ = some (.int .i64 to) ∧ V.cell? ⟨bm, 1, none⟩ = some (.int .i64 fr) ∧ V.cell? ⟨bm, 3, none⟩ = some (.int .i64 br) ∧ V.cell? ⟨bm, 4, none⟩ = some (.int .i64 bn) ∧ V.cell? ⟨bm, 5, none⟩ = some (.int .i64 sl))) := fun V hV => by
    have hb := bt' HBU.out hV.out
    have hkm := HKM.out.below hb HKM.out.lt
    have hblk := (HIN.out.below hb).ra.blk
    rw [HND.out] at hblk
    exact ⟨hV, hblk.cell rfl, hkm.cell rfl, hkm.cell rfl, hkm.cell rfl, hkm.cell rfl⟩
  go_wp2
  go_region_held3 (fun V => ScL U V ∧ V.cell? ⟨x, 0, none⟩ = some (.int .i64 to) ∧ V.cell? ⟨bm, 1, none⟩ = some (.int .i64 fr) ∧ V.cell? ⟨bm, 3, none⟩ = some (.int .i64 br) ∧ V.cell? ⟨bm, 4, none⟩ = some (.int .i64 bn) ∧ V.cell? ⟨bm, 5, none⟩ = some (.int .i64 sl))
    ((refine HSA.out _ ?_; (repeat (first | with_reducible assumption | exact ScL.start _ | apply ScL.dr | apply ScL.alloc | refine ScL.setCell ?_ (by first | exact Nat.le_refl _ | (simp; done) | (simp; omega)) _))))
    (fail)
  obtain ⟨U2, hU2⟩ : ∃ V, V = (U.alloc (.cells #[.int .i64 0, .int .i64 to, .int .i64 fr, .int .i64 br, .int .i64 bn, .int .i64 sl, .bool true, .string ⟨#[]⟩, .string ⟨#[]⟩, .int .i64 0, .slice none 0 0, .slice none 0 0, .slice none 0 0, .slice none 0 0, .int .i64 0] 43)).drew := ⟨_, rfl⟩
  obtain ⟨bt, hbt⟩ : ∃ q, q = U.heap.size := ⟨_, rfl⟩
  have HKT : Hid (Blk U2 bt 43 [.int .i64 0, .int .i64 to, .int .i64 fr, .int .i64 br, .int .i64 bn, .int .i64 sl, .bool true, .string ⟨#[]⟩, .string ⟨#[]⟩, .int .i64 0, .slice none 0 0, .slice none 0 0, .slice none 0 0, .slice none 0 0, .int .i64 0]) := by rw [hU2, hbt]; exact (Blk.new U _ _).drew
  have HU2 : Hid (ScL U U2) := by rw [hU2]; exact ((ScL.start U).alloc _).dr
  have HBT := hid hbt
  rw [← hU2, ← hbt]
  have HCMP : Hid (∀ V, ScL U2 V → Calls Tryz.prog 23 #[.agg #[.int .i64 br, .int .i64 bn], .agg #[.int .i64 pr, .int .i64 pn]] V fun e w' => e = .returned (.int .i64 (cmpB (br, bn) (pr, pn))) ∧ ScL U2 w') := fun V hV => (rcompareB V (br, bn) (pr, pn)).mono (fun e w' (hh : _ ∧ _) => And.intro hh.1 (hV.go hh.2))
  have hcc : cmpB (br, bn) (pr, pn) = -1 := by have := HCM.out; rw [HPR.out] at this; exact this
  rw [hcc] at HCMP
  have HSB2 : Hid (∀ V, ScL U2 V → (ScL U2 V ∧ V.cell? ⟨x, 1, none⟩ = some (.int .i64 pr) ∧ V.cell? ⟨x, 2, none⟩ = some (.int .i64 pn) ∧ V.cell? ⟨bm, 3, none⟩ = some (.int .i64 br) ∧ V.cell? ⟨bm, 4, none⟩ = some (.int .i64 bn))) := fun V hV => by
    have hb := bt' HBU.out (bt' HU2.out.out hV.out)
    have hkm := HKM.out.below hb HKM.out.lt
    have hblk := (HIN.out.below hb).ra.blk
    rw [HPR.out] at hblk
    exact ⟨hV, hblk.cell rfl, hblk.cell rfl, hkm.cell rfl, hkm.cell rfl⟩
  have m0 := (HKM.out.below (bt' HBU.out HU2.out.out) HKM.out.lt).cell (i := 0) rfl
  clear hU2 hbt HSA
  clear hcc
  go_wp2
  refine wp_region_noPanic ?_
  refine wp_region_held_drew (S := (fun V => ScL U2 V ∧ V.cell? ⟨x, 1, none⟩ = some (.int .i64 pr) ∧ V.cell? ⟨x, 2, none⟩ = some (.int .i64 pn) ∧ V.cell? ⟨bm, 3, none⟩ = some (.int .i64 br) ∧ V.cell? ⟨bm, 4, none⟩ = some (.int .i64 bn))) (by kernel_rfl) (HSB2.out _ (ScL.start U2).dr) (fun hHeld => ?_)
  have hs0 := (ScL.start U2).dr
  refine wpAnyH_take (i := 0) (oi := { dst := some 69, op := Go.Op.fieldAddr 43 (Go.Operand.tmp 3) 3, type := 0, pos := "ref.go:81", after := #[], guard := none }) (v := ?vc0) rfl (by kernel_rfl) (by kernel_rfl) (by kernel_rfl) (fun _ _ _ h => h) (Or.inl ⟨by rfl, ?hyc0⟩) (by assumption) ?restc0
  case hyc0 => (intro w0 hSw; (try dsimp only at hSw); go_simp; try with_reducible rfl)
  simp only [Act.put, List.setIfInBounds_toArray, List.set_cons_zero, List.set_cons_succ]
  refine wpAnyH_take (i := 1) (oi := { dst := some 70, op := Go.Op.load 35 (Go.Operand.tmp 69), type := 35, pos := "ref.go:81", after := #[{ on := 0, ground := Go.Ground.data }], guard := none }) (v := ?vc1) rfl (by kernel_rfl) (by kernel_rfl) (by kernel_rfl) (fun _ _ _ h => h) (Or.inl ⟨by rfl, ?hyc1⟩) (by assumption) ?restc1
  case hyc1 => (intro w0 hSw; (try dsimp only at hSw); go_simp; try with_reducible rfl)
  simp only [Act.put, List.setIfInBounds_toArray, List.set_cons_zero, List.set_cons_succ]
  refine wpAnyH_take (i := 2) (oi := { dst := some 71, op := Go.Op.move (Go.Operand.tmp 0), type := 28, pos := "ref.go:81", after := #[], guard := none }) (v := ?vc2) rfl (by kernel_rfl) (by kernel_rfl) (by kernel_rfl) (fun _ _ _ h => h) (Or.inl ⟨by rfl, ?hyc2⟩) (by assumption) ?restc2
  case hyc2 => (intro w0 hSw; (try dsimp only at hSw); go_simp; try with_reducible rfl)
  simp only [Act.put, List.setIfInBounds_toArray, List.set_cons_zero, List.set_cons_succ]
  refine wpAnyH_take (i := 3) (oi := { dst := some 72, op := Go.Op.nilCheck (Go.Operand.tmp 71), type := 0, pos := "ref.go:81", after := #[{ on := 2, ground := Go.Ground.data }], guard := none }) (v := ?vc3) rfl (by kernel_rfl) (by kernel_rfl) (by kernel_rfl) (fun _ _ _ h => h) (Or.inl ⟨by rfl, ?hyc3⟩) (by assumption) ?restc3
  case hyc3 => (intro w0 hSw; (try dsimp only at hSw); go_simp; try with_reducible rfl)
  simp only [Act.put, List.setIfInBounds_toArray, List.set_cons_zero, List.set_cons_succ]
  refine wpAnyH_take (i := 4) (oi := { dst := some 73, op := Go.Op.fieldAddr 51 (Go.Operand.tmp 72) 1, type := 0, pos := "ref.go:81", after := #[{ on := 3, ground := Go.Ground.data }], guard := none }) (v := ?vc4) rfl (by kernel_rfl) (by kernel_rfl) (by kernel_rfl) (fun _ _ _ h => h) (Or.inl ⟨by rfl, ?hyc4⟩) (by assumption) ?restc4
  case hyc4 => (intro w0 hSw; (try dsimp only at hSw); go_simp; try with_reducible rfl)
  simp only [Act.put, List.setIfInBounds_toArray, List.set_cons_zero, List.set_cons_succ]
  refine wpAnyH_take (i := 5) (oi := { dst := some 74, op := Go.Op.load 35 (Go.Operand.tmp 73), type := 35, pos := "ref.go:81", after := #[{ on := 4, ground := Go.Ground.data }], guard := none }) (v := ?vc5) rfl (by kernel_rfl) (by kernel_rfl) (by kernel_rfl) (fun _ _ _ h => h) (Or.inl ⟨by rfl, ?hyc5⟩) (by assumption) ?restc5
  case hyc5 => (intro w0 hSw; (try dsimp only at hSw); go_simp; try with_reducible rfl)
  simp only [Act.put, List.setIfInBounds_toArray, List.set_cons_zero, List.set_cons_succ]
  refine wpAnyH_ready (rs := [6]) (by kernel_rfl) (by simp) ?_
  refine AllReadyH.cons (o := { dst := some 75, op := Go.Op.call { callee := Go.Callee.value (Go.Operand.func 23), args := #[Go.Operand.tmp 70, Go.Operand.tmp 74], argTypes := #[35, 35] }, type := 3, pos := "ref.go:81", after := #[{ on := 1, ground := Go.Ground.data }, { on := 5, ground := Go.Ground.data }], guard := none }) rfl (fun K hK => ?_) AllReadyH.nil
  go_simp
  refine (HCMP.out _ (by (repeat (first | assumption | exact ScL.start _ | apply ScL.dr)))).mono ?_
  rintro e6 w6 ⟨rfl, hs6⟩
  clear hs0
  have hs0 := hs6
  go_simp
  refine hK.out _ _ (HSB2.out _ hs0) (fun hHeld => ?_)
  clear hK K
  try simp only [Act.put, List.setIfInBounds_toArray, List.set_cons_zero, List.set_cons_succ]
  refine wpAnyH_take (i := 7) (oi := { dst := some 76, op := Go.Op.binOp Go.BinOp.lss 3 (Go.Operand.tmp 75) (Go.Operand.const (Go.Value.int Go.IntKind.i64 0)) 3, type := 4, pos := "ref.go:81", after := #[{ on := 6, ground := Go.Ground.data }], guard := none }) (v := ?vc7) rfl (by kernel_rfl) (by kernel_rfl) (by kernel_rfl) (fun _ _ _ h => h) (Or.inl ⟨by rfl, ?hyc7⟩) (by assumption) ?restc7
  case hyc7 => (intro w0 hSw; (try dsimp only at hSw); go_simp; try with_reducible rfl)
  simp only [Act.put, List.setIfInBounds_toArray, List.set_cons_zero, List.set_cons_succ]
  refine wpAnyH_take (i := 8) (oi := { dst := some 77, op := Go.Op.move (Go.Operand.tmp 76), type := 4, pos := "ref.go:81", after := #[{ on := 7, ground := Go.Ground.data }, { on := 6, ground := Go.Ground.chain }], guard := none }) (v := ?vc8) rfl (by kernel_rfl) (by kernel_rfl) (by kernel_rfl) (fun _ _ _ h => h) (Or.inl ⟨by rfl, ?hyc8⟩) (by assumption) ?restc8
  case hyc8 => (intro w0 hSw; (try dsimp only at hSw); go_simp; try with_reducible rfl)
  simp only [Act.put, List.setIfInBounds_toArray, List.set_cons_zero, List.set_cons_succ]
  refine wpAnyH_take (i := 9) (oi := { dst := some 78, op := Go.Op.move (Go.Operand.tmp 10), type := 4, pos := "ref.go:81", after := #[{ on := 8, ground := Go.Ground.guard }], guard := some (8, false) }) (v := undef) rfl (by kernel_rfl) (by kernel_rfl) (by kernel_rfl) (fun _ _ _ h => h) (Or.inr ⟨by rfl, rfl⟩) (by assumption) ?_
  simp only [Act.put, List.setIfInBounds_toArray, List.set_cons_zero, List.set_cons_succ]
  refine wpAnyH_take (i := 10) (oi := { dst := some 79, op := Go.Op.pick (Go.Operand.tmp 77) (Go.Operand.const (Go.Value.bool true)) (Go.Operand.tmp 78), type := 4, pos := "ref.go:81", after := #[{ on := 8, ground := Go.Ground.data }, { on := 9, ground := Go.Ground.data }], guard := none }) (v := ?vc10) rfl (by kernel_rfl) (by kernel_rfl) (by kernel_rfl) (fun _ _ _ h => h) (Or.inl ⟨by rfl, ?hyc10⟩) (by assumption) ?restc10
  case hyc10 => (intro w0 hSw; (try dsimp only at hSw); go_simp; try with_reducible rfl)
  simp only [Act.put, List.setIfInBounds_toArray, List.set_cons_zero, List.set_cons_succ]
  refine wpAnyH_done (by kernel_rfl) ?_ _
  refine NoPanic.normal ?_
  have HS6 := hid hs6
  have c1 := (HSB2.out _ hs6).2.1
  have c2 := (HSB2.out _ hs6).2.2.1
  have ht6 := HKT.out.below hs6.out HKT.out.lt
  have t0 := ht6.cell (i := 0) rfl
  have t3 := ht6.cell (i := 3) rfl
  have t4 := ht6.cell (i := 4) rfl
  have f0 := ht6.frozen 0
  have f3 := ht6.frozen 3
  have f4 := ht6.frozen 4
  have hxt : x ≠ bt := by have := HPL.out.1; have := HBT.out; have := HBU.out.size; have := HB.out.size; omega
  have htx : bt ≠ x := fun e => hxt e.symm
  clear hs6 hs0 hHeld HSB2 HCMP
  go_wp2
  go_region
  obtain ⟨W7, hW7⟩ : ∃ V, V = (((w6.setCell ⟨bt, 0, none⟩ (.int .i64 5)).setCell ⟨bt, 3, none⟩ (.int .i64 pr)).setCell ⟨bt, 4, none⟩ (.int .i64 pn)).drew := ⟨_, rfl⟩
  rw [← hW7]
  have HT7 : Hid (Turns (fun i => i = bt) w6 W7) := by rw [hW7]; exact (turns_own (turns_own (turns_own (Turns.refl _ _)))).drew
  have ht7 : Blk W7 bt 43 [.int .i64 5, .int .i64 to, .int .i64 fr, .int .i64 pr, .int .i64 pn, .int .i64 sl, .bool true, .string ⟨#[]⟩, .string ⟨#[]⟩, .int .i64 0, .slice none 0 0, .slice none 0 0, .slice none 0 0, .slice none 0 0, .int .i64 0] := by rw [hW7]; exact (((ht6.set 0 _).set 3 _).set 4 _).drew
  have hb6 : Below w.heap.size w w6 := bt' HB.out (bt' HBU.out (bt' HU2.out.out HS6.out.out))
  have hlbt : w.heap.size ≤ bt := by rw [HBT.out]; exact (bt' HB.out HBU.out).size
  have HB7 : Hid (Below w.heap.size w W7) := hb6.trans (HT7.out.below (fun i hi => by rw [hi]; exact hlbt) hb6.size)
  have hbe : be ≠ bt := by have := HKE.out.lt; have := HBT.out; have := HBU.out.size; omega
  have he2 := HT7.out.blk ((HKE.out.below HBU.out HKE.out.lt).below (HU2.out.out.trans (Below.mono HS6.out.out HU2.out.out.size)) (Nat.lt_of_lt_of_le HKE.out.lt HBU.out.size)) hbe
  clear hW7 ht6 t0 t3 t4 f0 f3 f4 c1 c2
  have e0 := he2.cell (i := 0) rfl
  have e1 := he2.cell (i := 1) rfl
  have e2 := he2.cell (i := 2) rfl
  have e3 := he2.cell (i := 3) rfl
  have e4 := he2.cell (i := 4) rfl
  have e5 := he2.cell (i := 5) rfl
  have e6 := he2.cell (i := 6) rfl
  have e7 := he2.cell (i := 7) rfl
  have e8 := he2.cell (i := 8) rfl
  have e9 := he2.cell (i := 9) rfl
  have e10 := he2.cell (i := 10) rfl
  have e11 := he2.cell (i := 11) rfl
  have e12 := he2.cell (i := 12) rfl
  have e13 := he2.cell (i := 13) rfl
  have e14 := he2.cell (i := 14) rfl
  have g0 := he2.frozen 0
  have g1 := he2.frozen 1
  have g2 := he2.frozen 2
  have g3 := he2.frozen 3
  have g4 := he2.frozen 4
  have g5 := he2.frozen 5
  have g6 := he2.frozen 6
  have g7 := he2.frozen 7
  have g8 := he2.frozen 8
  have g9 := he2.frozen 9
  have g10 := he2.frozen 10
  have g11 := he2.frozen 11
  have g12 := he2.frozen 12
  have g13 := he2.frozen 13
  have g14 := he2.frozen 14
  have t0 := ht7.cell (i := 0) rfl
  have t1 := ht7.cell (i := 1) rfl
  have t2 := ht7.cell (i := 2) rfl
  have t3 := ht7.cell (i := 3) rfl
  have t4 := ht7.cell (i := 4) rfl
  have t5 := ht7.cell (i := 5) rfl
  have t6 := ht7.cell (i := 6) rfl
  have t7 := ht7.cell (i := 7) rfl
  have t8 := ht7.cell (i := 8) rfl
  have t9 := ht7.cell (i := 9) rfl
  have t10 := ht7.cell (i := 10) rfl
  have t11 := ht7.cell (i := 11) rfl
  have t12 := ht7.cell (i := 12) rfl
  have t13 := ht7.cell (i := 13) rfl
  have t14 := ht7.cell (i := 14) rfl
  obtain ⟨W3, hW3⟩ : ∃ V, V = st15 W7 be (.int .i64 5) (.int .i64 to) (.int .i64 fr) (.int .i64 pr) (.int .i64 pn) (.int .i64 sl) (.bool true) (.string ⟨#[]⟩) (.string ⟨#[]⟩) (.int .i64 0) (.slice none 0 0) (.slice none 0 0) (.slice none 0 0) (.slice none 0 0) (.int .i64 0) := ⟨_, rfl⟩
  have hk9 : Blk W3 be 43 [.int .i64 5, .int .i64 to, .int .i64 fr, .int .i64 pr, .int .i64 pn, .int .i64 sl, .bool true, .string ⟨#[]⟩, .string ⟨#[]⟩, .int .i64 0, .slice none 0 0, .slice none 0 0, .slice none 0 0, .slice none 0 0, .int .i64 0] := by rw [hW3]; exact st15_blk he2 _ _ _ _ _ _ _ _ _ _ _ _ _ _ _
  have hT3 : Turns (fun i => i = be) W7 W3 := by rw [hW3]; exact st15_turns _ _ _ _ _ _ _ _ _ _ _ _ _ _ _ _ _
  have HFI : Hid (OnD B w x a ro ⟨1, fr, to, (br, bn), sl, ⟨⟨np, tk, ct, ep, cut⟩, ao1, cap1⟩, vo, vc, vs, so, sc, seen, eo, ec, evs, ti⟩ (.returned (.tuple #[.agg #[.int .i64 5, .int .i64 to, .int .i64 fr, .int .i64 pr, .int .i64 pn, .int .i64 sl, .bool true, .string ⟨#[]⟩, .string ⟨#[]⟩, .int .i64 0, .slice none 0 0, .slice none 0 0, .slice none 0 0, .slice none 0 0, .int .i64 0], .string ⟨#[]⟩, .bool true])) W3) := by
    unfold OnD
    rw [if_pos HT.out]
    have hbw : Below w.heap.size w W3 := HB7.out.trans (hT3.below (fun i hi => by rw [hi]; exact HBS.out.1) HB7.out.size)
    refine ⟨none, 0, [], ?_, ?_, ⟨fun y hy => (by cases hy), .inl rfl⟩, Nat.zero_le _, fun b off e => (by cases e), ?_⟩
    · rw [kind5_after HK5.out, kind5_rec HK5.out, HK5.out]
      simp only [ansM, MsM.val, noopEn, List.length_nil]
      rw [HPR.out, HND.out]
    · rw [HK5.out]; rfl
    · rw [kind5_after HK5.out]
      exact RaTo.same H0.out hbw
  have k0 := hk9.cell (i := 0) rfl
  have k1 := hk9.cell (i := 1) rfl
  have k2 := hk9.cell (i := 2) rfl
  have k3 := hk9.cell (i := 3) rfl
  have k4 := hk9.cell (i := 4) rfl
  have k5 := hk9.cell (i := 5) rfl
  have k6 := hk9.cell (i := 6) rfl
  have k7 := hk9.cell (i := 7) rfl
  have k8 := hk9.cell (i := 8) rfl
  have k9 := hk9.cell (i := 9) rfl
  have k10 := hk9.cell (i := 10) rfl
  have k11 := hk9.cell (i := 11) rfl
  have k12 := hk9.cell (i := 12) rfl
  have k13 := hk9.cell (i := 13) rfl
  have k14 := hk9.cell (i := 14) rfl
  clear hk9 hT3 he2 ht7
  go_wp2
  unfold st15 at hW3
  rw [← hW3]
  (try simp only [Exit.inBlock, Exit.then])
  refine bodyPost_ret (v := .tuple #[.agg #[.int .i64 5, .int .i64 to, .int .i64 fr, .int .i64 pr, .int .i64 pn, .int .i64 sl, .bool true, .string ⟨#[]⟩, .string ⟨#[]⟩, .int .i64 0, .slice none 0 0, .slice none 0 0, .slice none 0 0, .slice none 0 0, .int .i64 0], .string ⟨#[]⟩, .bool true]) ?_ rfl HFI.out
  rw [results_cellA3 rfl]
  go_simp
end Go.Proofs.YtfmnbehopdmahaaGreat
/-
  pannierref16.On of an Accept below its promise.
-/
namespace Go.Proofs.YtfmnbehopdmahaaGreat
open Go.RowKit Go.Maps

set_option maxRecDepth 1000000 in
set_option maxHeartbeats 8000000 in
theorem RaIn.on_r3a {w : World} {B x : Nat} {a : Ac} {xs : List VoM} {ro : Option Addr} {rc : Nat} (h : RaIn B w x a xs ro rc) (hB : B ≤ w.heap.size) (X : MsM) (hx : MsOk w X) (ht : takesA a X = true) (hk : X.kind = 3) (hc : cmpB X.bal a.pr = -1) (hf : ¬ findV xs X.slot 0 < 0) : Calls Tryz.prog 10 #[.pointer (some ⟨x, 0, none⟩), X.val] w (OnD B w x a ro X) := by
  have HT := hid ht
  have H0 := hid h
  have hto : X.to = a.node ∧ RightMs X = true ∧ (encMs X).length ≤ 65536 := by
    unfold takesA at ht
    simp only [Bool.and_eq_true, decide_eq_true_eq] at ht
    exact ⟨ht.1, ht.2.2.1, ht.2.2.2⟩
  have HOK : Hid (∀ V e w', MsgP V X e w' → ∃ ao cp, e = .returned (.tuple #[.slice ao (encMs X).length cp, .int .i64 0]) ∧ Below V.heap.size V w') := fun V e w' hP => by
    obtain ⟨h1, h2⟩ := hP
    rw [if_pos hto.2.1, if_pos hto.2.2] at h2
    obtain ⟨v, h3, h4⟩ := h2
    rcases h4.2 with ⟨hv, h0⟩ | ⟨g, cap, cur, hv, _⟩
    · exact ⟨none, 0, by rw [h3, hv, h0], h1⟩
    · exact ⟨_, _, by rw [h3, hv], h1⟩
  obtain ⟨EL, HEL⟩ : ∃ m, Hid ((encMs X).length = m) := ⟨_, hid rfl⟩
  rw [HEL.out] at HOK
  have HTO := hid hto.1
  have HKD := hid hk
  have HCM := hid hc
  have HK5 : Hid (kindA a X = 5) := by show _ = _; unfold kindA; rw [if_pos (by rw [cmpB_neg, hc]; decide)]
  obtain ⟨pr, hpr⟩ : ∃ q, a.pr.1 = q := ⟨_, rfl⟩
  obtain ⟨pn, hpn⟩ : ∃ q, a.pr.2 = q := ⟨_, rfl⟩
  have HPR : Hid (a.pr = (pr, pn)) := by show _ = _; rw [← hpr, ← hpn]
  have HFV := hid hf
  clear hf
  clear ht hto hk hc hpr hpn
  obtain ⟨W1, hW1⟩ : ∃ W, W = w.alloc (.cells X.cells.toArray 43) := ⟨_, rfl⟩
  obtain ⟨W, hW⟩ : ∃ W, W = W1.alloc (.cells #[.int .i64 0, .int .i64 0, .int .i64 0, .int .i64 0, .int .i64 0, .int .i64 0, .bool false, .string ⟨#[]⟩, .string ⟨#[]⟩, .int .i64 0, .slice none 0 0, .slice none 0 0, .slice none 0 0, .slice none 0 0, .int .i64 0] 43) := ⟨_, rfl⟩
  have hs1 : W1.heap.size = w.heap.size + 1 := by rw [hW1]; simp
  have hb1 : Below w.heap.size w W1 := by rw [hW1]; exact (Below.refl _ _).alloc (Nat.le_refl _) _
  have HB : Hid (Below w.heap.size w W) := by rw [hW]; exact hb1.alloc hb1.size _
  obtain ⟨bm, hbm⟩ : ∃ q, q = w.heap.size := ⟨_, rfl⟩
  obtain ⟨be, hbe⟩ : ∃ q, q = w.heap.size + 1 := ⟨_, rfl⟩
  have HKM : Hid (Blk W bm 43 X.cells) := by rw [hbm, hW, hW1]; exact (Blk.new w _ _).alloc _
  have HKE : Hid (Blk W be 43 [.int .i64 0, .int .i64 0, .int .i64 0, .int .i64 0, .int .i64 0, .int .i64 0, .bool false, .string ⟨#[]⟩, .string ⟨#[]⟩, .int .i64 0, .slice none 0 0, .slice none 0 0, .slice none 0 0, .slice none 0 0, .int .i64 0]) := by rw [hbe, hW, ← hs1]; exact Blk.new W1 _ _
  have HIN := hid (h.below HB.out)
  have HMS := hid (refMsg_any W X (hx.below HB.out))
  have HW : Hid (W = (w.alloc (.cells X.cells.toArray 43)).alloc (.cells #[.int .i64 0, .int .i64 0, .int .i64 0, .int .i64 0, .int .i64 0, .int .i64 0, .bool false, .string ⟨#[]⟩, .string ⟨#[]⟩, .int .i64 0, .slice none 0 0, .slice none 0 0, .slice none 0 0, .slice none 0 0, .int .i64 0] 43)) := by show _ = _; rw [hW, hW1]
  have HBM := hid hbm
  have HBE := hid hbe
  have HBS : Hid (w.heap.size ≤ be ∧ w.heap.size ≤ bm ∧ bm ≠ be) := ⟨by omega, by omega, by omega⟩
  have HBW := hid hB
  have HPL : Hid (x < w.heap.size ∧ ∀ g off, ro = some ⟨g, off, none⟩ → g < w.heap.size) := ⟨h.ra.blk.lt, fun g off e => by subst e; obtain ⟨g', e, _, h1⟩ := ra_addr h.ra; cases e; exact h1⟩
  obtain ⟨nd, HND⟩ : ∃ q, Hid (a.node = q) := ⟨_, hid rfl⟩
  clear h hW hW1 hs1 hb1 hbm hbe hx hB
  obtain ⟨kd, fr, to, ⟨br, bn⟩, sl, ⟨⟨np, tk, ct, ep, cut⟩, ao1, cap1⟩, vo, vc, vs, so, sc, seen, eo, ec, evs, ti⟩ := X
  obtain ⟨XN, HXN⟩ : ∃ m, Hid (cut.length = m) := ⟨_, hid rfl⟩
  obtain ⟨VN, HVN⟩ : ∃ m, Hid (vs.length = m) := ⟨_, hid rfl⟩
  obtain ⟨SN, HSN⟩ : ∃ m, Hid (seen.length = m) := ⟨_, hid rfl⟩
  obtain ⟨EN, HEN⟩ : ∃ m, Hid (evs.length = m) := ⟨_, hid rfl⟩
  simp only [MsM.val, MsM.cells] at HW HKM HMS ⊢
  rw [HXN.out, HVN.out, HSN.out, HEN.out] at HW HKM HMS
  rw [HXN.out, HVN.out, HSN.out, HEN.out]
  have q0 := HKM.out.cell (i := 0) rfl
  have q1 := HKM.out.cell (i := 1) rfl
  have q2 := HKM.out.cell (i := 2) rfl
  have q3 := HKM.out.cell (i := 3) rfl
  have q4 := HKM.out.cell (i := 4) rfl
  have q5 := HKM.out.cell (i := 5) rfl
  have q6 := HKM.out.cell (i := 6) rfl
  have q7 := HKM.out.cell (i := 7) rfl
  have q8 := HKM.out.cell (i := 8) rfl
  have q9 := HKM.out.cell (i := 9) rfl
  have q10 := HKM.out.cell (i := 10) rfl
  have q11 := HKM.out.cell (i := 11) rfl
  have q12 := HKM.out.cell (i := 12) rfl
  have q13 := HKM.out.cell (i := 13) rfl
  have q14 := HKM.out.cell (i := 14) rfl
  simp only at HTO HKD HCM
  rw [HND.out] at HTO
  have e1 := HTO.out
  have e2 := HKD.out
  subst e1 e2
  go_enter Tryz.func10, Tryz.ntmps10
  go_wp2_with fail
  rw [← HW.out, ← HBE.out, ← HBM.out]
  refine HMS.out.mono ?_
  intro e w2 hP
  obtain ⟨mo, mc, rfl, hb2⟩ := HOK.out _ _ _ hP
  clear hP
  clear q0 q1 q2 q3 q4 q5 q6 q7 q8 q9 q10 q11 q12 q13 q14
  have hkm := HKM.out.below hb2 HKM.out.lt
  have m0 := hkm.cell (i := 0) rfl
  have m2 := hkm.cell (i := 2) rfl
  have hblk := (HIN.out.below hb2).ra.blk
  rw [HND.out, HPR.out] at hblk
  have c0 := hblk.cell (i := 0) rfl
  have HB2 := hid hb2
  clear hkm hb2 hblk
  go_wp2
  go_quiet (fail)
  obtain ⟨U, hU⟩ : ∃ U, U = w2.drewN nq := ⟨_, rfl⟩
  have HBU : Hid (Below W.heap.size W U) := by rw [hU]; exact below_dn HB2.out _
  rw [← hU]
  clear hU m0 m2 c0
  have HSA : Hid (∀ V, ScL U V → (ScL U V ∧ V.cell? ⟨x, 0, none⟩ = some (.int .i64 to) ∧ V.cell? ⟨bm, 1, none⟩ = some (.int .i64 fr) ∧ V.cell? ⟨bm, 3, none⟩ = some (.int .i64 br) ∧ V.cell? ⟨bm, 4, none⟩ = some (.int .i64 bn) ∧ V.cell? ⟨bm, 5, none⟩ = some (.int .i64 sl))) := fun V hV => by
    have hb := bt' HBU.out hV.out
    have hkm := HKM.out.below hb HKM.out.lt
    have hblk := (HIN.out.below hb).ra.blk
    rw [HND.out] at hblk
    exact ⟨hV, hblk.cell rfl, hkm.cell rfl, hkm.cell rfl, hkm.cell rfl, hkm.cell rfl⟩
  go_wp2
  go_region_held3 (fun V => ScL U V ∧ V.cell? ⟨x, 0, none⟩ = some (.int .i64 to) ∧ V.cell? ⟨bm, 1, none⟩ = some (.int .i64 fr) ∧ V.cell? ⟨bm, 3, none⟩ = some (.int .i64 br) ∧ V.cell? ⟨bm, 4, none⟩ = some (.int .i64 bn) ∧ V.cell? ⟨bm, 5, none⟩ = some (.int .i64 sl))
    ((refine HSA.out _ ?_; (repeat (first | with_reducible assumption | exact ScL.start _ | apply ScL.dr | apply ScL.alloc | refine ScL.setCell ?_ (by first | exact Nat.le_refl _ | (simp; done) | (simp; omega)) _))))
    (fail)
  obtain ⟨U2, hU2⟩ : ∃ V, V = (U.alloc (.cells #[.int .i64 0, .int .i64 to, .int .i64 fr, .int .i64 br, .int .i64 bn, .int .i64 sl, .bool true, .string ⟨#[]⟩, .string ⟨#[]⟩, .int .i64 0, .slice none 0 0, .slice none 0 0, .slice none 0 0, .slice none 0 0, .int .i64 0] 43)).drew := ⟨_, rfl⟩
  obtain ⟨bt, hbt⟩ : ∃ q, q = U.heap.size := ⟨_, rfl⟩
  have HKT : Hid (Blk U2 bt 43 [.int .i64 0, .int .i64 to, .int .i64 fr, .int .i64 br, .int .i64 bn, .int .i64 sl, .bool true, .string ⟨#[]⟩, .string ⟨#[]⟩, .int .i64 0, .slice none 0 0, .slice none 0 0, .slice none 0 0, .slice none 0 0, .int .i64 0]) := by rw [hU2, hbt]; exact (Blk.new U _ _).drew
  have HU2 : Hid (ScL U U2) := by rw [hU2]; exact ((ScL.start U).alloc _).dr
  have HBT := hid hbt
  rw [← hU2, ← hbt]
  have HCMP : Hid (∀ V, ScL U2 V → Calls Tryz.prog 23 #[.agg #[.int .i64 br, .int .i64 bn], .agg #[.int .i64 pr, .int .i64 pn]] V fun e w' => e = .returned (.int .i64 (cmpB (br, bn) (pr, pn))) ∧ ScL U2 w') := fun V hV => (rcompareB V (br, bn) (pr, pn)).mono (fun e w' (hh : _ ∧ _) => And.intro hh.1 (hV.go hh.2))
  have hcc : cmpB (br, bn) (pr, pn) = -1 := by have := HCM.out; rw [HPR.out] at this; exact this
  rw [hcc] at HCMP
  have HSB2 : Hid (∀ V, ScL U2 V → (ScL U2 V ∧ V.cell? ⟨x, 1, none⟩ = some (.int .i64 pr) ∧ V.cell? ⟨x, 2, none⟩ = some (.int .i64 pn) ∧ V.cell? ⟨bm, 3, none⟩ = some (.int .i64 br) ∧ V.cell? ⟨bm, 4, none⟩ = some (.int .i64 bn))) := fun V hV => by
    have hb := bt' HBU.out (bt' HU2.out.out hV.out)
    have hkm := HKM.out.below hb HKM.out.lt
    have hblk := (HIN.out.below hb).ra.blk
    rw [HPR.out] at hblk
    exact ⟨hV, hblk.cell rfl, hblk.cell rfl, hkm.cell rfl, hkm.cell rfl⟩
  have m0 := (HKM.out.below (bt' HBU.out HU2.out.out) HKM.out.lt).cell (i := 0) rfl
  clear hU2 hbt HSA
  clear hcc
  have m5 := (HKM.out.below (bt' HBU.out HU2.out.out) HKM.out.lt).cell (i := 5) rfl
  have hra2 := (HIN.out.below (bt' HBU.out HU2.out.out)).ra
  have HFD := hid (hra2.find sl)
  have x3 := hra2.blk.cell (i := 3) rfl
  (try simp only at HFV)
  obtain ⟨P, HP⟩ : ∃ P, Hid (findV xs sl 0 = P) := ⟨_, hid rfl⟩
  rw [HP.out] at HFD HFV
  have hp1 : ¬ P < 0 := by have := HFV.out; omega
  have hp2 : decide (P < 0) = false := decide_eq_false hp1
  clear hra2
  go_wp2_with fail
  refine HFD.out.mono ?_
  rintro e w3 ⟨rfl, hw3⟩
  rw [hw3]
  clear hw3 w3
  go_wp2
  refine wp_region_noPanic ?_
  refine wp_region_held_drew (S := (fun V => ScL U2 V ∧ V.cell? ⟨x, 1, none⟩ = some (.int .i64 pr) ∧ V.cell? ⟨x, 2, none⟩ = some (.int .i64 pn) ∧ V.cell? ⟨bm, 3, none⟩ = some (.int .i64 br) ∧ V.cell? ⟨bm, 4, none⟩ = some (.int .i64 bn))) (by kernel_rfl) (HSB2.out _ (ScL.start U2).dr) (fun hHeld => ?_)
  have hs0 := (ScL.start U2).dr
  refine wpAnyH_take (i := 0) (oi := { dst := some 69, op := Go.Op.fieldAddr 43 (Go.Operand.tmp 3) 3, type := 0, pos := "ref.go:81", after := #[], guard := none }) (v := ?vc0) rfl (by kernel_rfl) (by kernel_rfl) (by kernel_rfl) (fun _ _ _ h => h) (Or.inl ⟨by rfl, ?hyc0⟩) (by assumption) ?restc0
  case hyc0 => (intro w0 hSw; (try dsimp only at hSw); go_simp; try with_reducible rfl)
  simp only [Act.put, List.setIfInBounds_toArray, List.set_cons_zero, List.set_cons_succ]
  refine wpAnyH_take (i := 1) (oi := { dst := some 70, op := Go.Op.load 35 (Go.Operand.tmp 69), type := 35, pos := "ref.go:81", after := #[{ on := 0, ground := Go.Ground.data }], guard := none }) (v := ?vc1) rfl (by kernel_rfl) (by kernel_rfl) (by kernel_rfl) (fun _ _ _ h => h) (Or.inl ⟨by rfl, ?hyc1⟩) (by assumption) ?restc1
  case hyc1 => (intro w0 hSw; (try dsimp only at hSw); go_simp; try with_reducible rfl)
  simp only [Act.put, List.setIfInBounds_toArray, List.set_cons_zero, List.set_cons_succ]
  refine wpAnyH_take (i := 2) (oi := { dst := some 71, op := Go.Op.move (Go.Operand.tmp 0), type := 28, pos := "ref.go:81", after := #[], guard := none }) (v := ?vc2) rfl (by kernel_rfl) (by kernel_rfl) (by kernel_rfl) (fun _ _ _ h => h) (Or.inl ⟨by rfl, ?hyc2⟩) (by assumption) ?restc2
  case hyc2 => (intro w0 hSw; (try dsimp only at hSw); go_simp; try with_reducible rfl)
  simp only [Act.put, List.setIfInBounds_toArray, List.set_cons_zero, List.set_cons_succ]
  refine wpAnyH_take (i := 3) (oi := { dst := some 72, op := Go.Op.nilCheck (Go.Operand.tmp 71), type := 0, pos := "ref.go:81", after := #[{ on := 2, ground := Go.Ground.data }], guard := none }) (v := ?vc3) rfl (by kernel_rfl) (by kernel_rfl) (by kernel_rfl) (fun _ _ _ h => h) (Or.inl ⟨by rfl, ?hyc3⟩) (by assumption) ?restc3
  case hyc3 => (intro w0 hSw; (try dsimp only at hSw); go_simp; try with_reducible rfl)
  simp only [Act.put, List.setIfInBounds_toArray, List.set_cons_zero, List.set_cons_succ]
  refine wpAnyH_take (i := 4) (oi := { dst := some 73, op := Go.Op.fieldAddr 51 (Go.Operand.tmp 72) 1, type := 0, pos := "ref.go:81", after := #[{ on := 3, ground := Go.Ground.data }], guard := none }) (v := ?vc4) rfl (by kernel_rfl) (by kernel_rfl) (by kernel_rfl) (fun _ _ _ h => h) (Or.inl ⟨by rfl, ?hyc4⟩) (by assumption) ?restc4
  case hyc4 => (intro w0 hSw; (try dsimp only at hSw); go_simp; try with_reducible rfl)
  simp only [Act.put, List.setIfInBounds_toArray, List.set_cons_zero, List.set_cons_succ]
  refine wpAnyH_take (i := 5) (oi := { dst := some 74, op := Go.Op.load 35 (Go.Operand.tmp 73), type := 35, pos := "ref.go:81", after := #[{ on := 4, ground := Go.Ground.data }], guard := none }) (v := ?vc5) rfl (by kernel_rfl) (by kernel_rfl) (by kernel_rfl) (fun _ _ _ h => h) (Or.inl ⟨by rfl, ?hyc5⟩) (by assumption) ?restc5
  case hyc5 => (intro w0 hSw; (try dsimp only at hSw); go_simp; try with_reducible rfl)
  simp only [Act.put, List.setIfInBounds_toArray, List.set_cons_zero, List.set_cons_succ]
  refine wpAnyH_ready (rs := [6]) (by kernel_rfl) (by simp) ?_
  refine AllReadyH.cons (o := { dst := some 75, op := Go.Op.call { callee := Go.Callee.value (Go.Operand.func 23), args := #[Go.Operand.tmp 70, Go.Operand.tmp 74], argTypes := #[35, 35] }, type := 3, pos := "ref.go:81", after := #[{ on := 1, ground := Go.Ground.data }, { on := 5, ground := Go.Ground.data }], guard := none }) rfl (fun K hK => ?_) AllReadyH.nil
  go_simp
  refine (HCMP.out _ (by (repeat (first | assumption | exact ScL.start _ | apply ScL.dr)))).mono ?_
  rintro e6 w6 ⟨rfl, hs6⟩
  clear hs0
  have hs0 := hs6
  go_simp
  refine hK.out _ _ (HSB2.out _ hs0) (fun hHeld => ?_)
  clear hK K
  try simp only [Act.put, List.setIfInBounds_toArray, List.set_cons_zero, List.set_cons_succ]
  refine wpAnyH_take (i := 7) (oi := { dst := some 76, op := Go.Op.binOp Go.BinOp.lss 3 (Go.Operand.tmp 75) (Go.Operand.const (Go.Value.int Go.IntKind.i64 0)) 3, type := 4, pos := "ref.go:81", after := #[{ on := 6, ground := Go.Ground.data }], guard := none }) (v := ?vc7) rfl (by kernel_rfl) (by kernel_rfl) (by kernel_rfl) (fun _ _ _ h => h) (Or.inl ⟨by rfl, ?hyc7⟩) (by assumption) ?restc7
  case hyc7 => (intro w0 hSw; (try dsimp only at hSw); go_simp; try with_reducible rfl)
  simp only [Act.put, List.setIfInBounds_toArray, List.set_cons_zero, List.set_cons_succ]
  refine wpAnyH_take (i := 8) (oi := { dst := some 77, op := Go.Op.move (Go.Operand.tmp 76), type := 4, pos := "ref.go:81", after := #[{ on := 7, ground := Go.Ground.data }, { on := 6, ground := Go.Ground.chain }], guard := none }) (v := ?vc8) rfl (by kernel_rfl) (by kernel_rfl) (by kernel_rfl) (fun _ _ _ h => h) (Or.inl ⟨by rfl, ?hyc8⟩) (by assumption) ?restc8
  case hyc8 => (intro w0 hSw; (try dsimp only at hSw); go_simp; try with_reducible rfl)
  simp only [Act.put, List.setIfInBounds_toArray, List.set_cons_zero, List.set_cons_succ]
  refine wpAnyH_take (i := 9) (oi := { dst := some 78, op := Go.Op.move (Go.Operand.tmp 10), type := 4, pos := "ref.go:81", after := #[{ on := 8, ground := Go.Ground.guard }], guard := some (8, false) }) (v := undef) rfl (by kernel_rfl) (by kernel_rfl) (by kernel_rfl) (fun _ _ _ h => h) (Or.inr ⟨by rfl, rfl⟩) (by assumption) ?_
  simp only [Act.put, List.setIfInBounds_toArray, List.set_cons_zero, List.set_cons_succ]
  refine wpAnyH_take (i := 10) (oi := { dst := some 79, op := Go.Op.pick (Go.Operand.tmp 77) (Go.Operand.const (Go.Value.bool true)) (Go.Operand.tmp 78), type := 4, pos := "ref.go:81", after := #[{ on := 8, ground := Go.Ground.data }, { on := 9, ground := Go.Ground.data }], guard := none }) (v := ?vc10) rfl (by kernel_rfl) (by kernel_rfl) (by kernel_rfl) (fun _ _ _ h => h) (Or.inl ⟨by rfl, ?hyc10⟩) (by assumption) ?restc10
  case hyc10 => (intro w0 hSw; (try dsimp only at hSw); go_simp; try with_reducible rfl)
  simp only [Act.put, List.setIfInBounds_toArray, List.set_cons_zero, List.set_cons_succ]
  refine wpAnyH_done (by kernel_rfl) ?_ _
  refine NoPanic.normal ?_
  have HS6 := hid hs6
  have c1 := (HSB2.out _ hs6).2.1
  have c2 := (HSB2.out _ hs6).2.2.1
  have ht6 := HKT.out.below hs6.out HKT.out.lt
  have t0 := ht6.cell (i := 0) rfl
  have t3 := ht6.cell (i := 3) rfl
  have t4 := ht6.cell (i := 4) rfl
  have f0 := ht6.frozen 0
  have f3 := ht6.frozen 3
  have f4 := ht6.frozen 4
  have hxt : x ≠ bt := by have := HPL.out.1; have := HBT.out; have := HBU.out.size; have := HB.out.size; omega
  have htx : bt ≠ x := fun e => hxt e.symm
  clear hs6 hs0 hHeld HSB2 HCMP
  go_wp2
  go_region
  obtain ⟨W7, hW7⟩ : ∃ V, V = (((w6.setCell ⟨bt, 0, none⟩ (.int .i64 5)).setCell ⟨bt, 3, none⟩ (.int .i64 pr)).setCell ⟨bt, 4, none⟩ (.int .i64 pn)).drew := ⟨_, rfl⟩
  rw [← hW7]
  have HT7 : Hid (Turns (fun i => i = bt) w6 W7) := by rw [hW7]; exact (turns_own (turns_own (turns_own (Turns.refl _ _)))).drew
  have ht7 : Blk W7 bt 43 [.int .i64 5, .int .i64 to, .int .i64 fr, .int .i64 pr, .int .i64 pn, .int .i64 sl, .bool true, .string ⟨#[]⟩, .string ⟨#[]⟩, .int .i64 0, .slice none 0 0, .slice none 0 0, .slice none 0 0, .slice none 0 0, .int .i64 0] := by rw [hW7]; exact (((ht6.set 0 _).set 3 _).set 4 _).drew
  have hb6 : Below w.heap.size w w6 := bt' HB.out (bt' HBU.out (bt' HU2.out.out HS6.out.out))
  have hlbt : w.heap.size ≤ bt := by rw [HBT.out]; exact (bt' HB.out HBU.out).size
  have HB7 : Hid (Below w.heap.size w W7) := hb6.trans (HT7.out.below (fun i hi => by rw [hi]; exact hlbt) hb6.size)
  have hbe : be ≠ bt := by have := HKE.out.lt; have := HBT.out; have := HBU.out.size; omega
  have he2 := HT7.out.blk ((HKE.out.below HBU.out HKE.out.lt).below (HU2.out.out.trans (Below.mono HS6.out.out HU2.out.out.size)) (Nat.lt_of_lt_of_le HKE.out.lt HBU.out.size)) hbe
  clear hW7 ht6 t0 t3 t4 f0 f3 f4 c1 c2
  have e0 := he2.cell (i := 0) rfl
  have e1 := he2.cell (i := 1) rfl
  have e2 := he2.cell (i := 2) rfl
  have e3 := he2.cell (i := 3) rfl
  have e4 := he2.cell (i := 4) rfl
  have e5 := he2.cell (i := 5) rfl
  have e6 := he2.cell (i := 6) rfl
  have e7 := he2.cell (i := 7) rfl
  have e8 := he2.cell (i := 8) rfl
  have e9 := he2.cell (i := 9) rfl
  have e10 := he2.cell (i := 10) rfl
  have e11 := he2.cell (i := 11) rfl
  have e12 := he2.cell (i := 12) rfl
  have e13 := he2.cell (i := 13) rfl
  have e14 := he2.cell (i := 14) rfl
  have g0 := he2.frozen 0
  have g1 := he2.frozen 1
  have g2 := he2.frozen 2
  have g3 := he2.frozen 3
  have g4 := he2.frozen 4
  have g5 := he2.frozen 5
  have g6 := he2.frozen 6
  have g7 := he2.frozen 7
  have g8 := he2.frozen 8
  have g9 := he2.frozen 9
  have g10 := he2.frozen 10
  have g11 := he2.frozen 11
  have g12 := he2.frozen 12
  have g13 := he2.frozen 13
  have g14 := he2.frozen 14
  have t0 := ht7.cell (i := 0) rfl
  have t1 := ht7.cell (i := 1) rfl
  have t2 := ht7.cell (i := 2) rfl
  have t3 := ht7.cell (i := 3) rfl
  have t4 := ht7.cell (i := 4) rfl
  have t5 := ht7.cell (i := 5) rfl
  have t6 := ht7.cell (i := 6) rfl
  have t7 := ht7.cell (i := 7) rfl
  have t8 := ht7.cell (i := 8) rfl
  have t9 := ht7.cell (i := 9) rfl
  have t10 := ht7.cell (i := 10) rfl
  have t11 := ht7.cell (i := 11) rfl
  have t12 := ht7.cell (i := 12) rfl
  have t13 := ht7.cell (i := 13) rfl
  have t14 := ht7.cell (i := 14) rfl
  obtain ⟨W3, hW3⟩ : ∃ V, V = st15 W7 be (.int .i64 5) (.int .i64 to) (.int .i64 fr) (.int .i64 pr) (.int .i64 pn) (.int .i64 sl) (.bool true) (.string ⟨#[]⟩) (.string ⟨#[]⟩) (.int .i64 0) (.slice none 0 0) (.slice none 0 0) (.slice none 0 0) (.slice none 0 0) (.int .i64 0) := ⟨_, rfl⟩
  have hk9 : Blk W3 be 43 [.int .i64 5, .int .i64 to, .int .i64 fr, .int .i64 pr, .int .i64 pn, .int .i64 sl, .bool true, .string ⟨#[]⟩, .string ⟨#[]⟩, .int .i64 0, .slice none 0 0, .slice none 0 0, .slice none 0 0, .slice none 0 0, .int .i64 0] := by rw [hW3]; exact st15_blk he2 _ _ _ _ _ _ _ _ _ _ _ _ _ _ _
  have hT3 : Turns (fun i => i = be) W7 W3 := by rw [hW3]; exact st15_turns _ _ _ _ _ _ _ _ _ _ _ _ _ _ _ _ _
  have HFI : Hid (OnD B w x a ro ⟨3, fr, to, (br, bn), sl, ⟨⟨np, tk, ct, ep, cut⟩, ao1, cap1⟩, vo, vc, vs, so, sc, seen, eo, ec, evs, ti⟩ (.returned (.tuple #[.agg #[.int .i64 5, .int .i64 to, .int .i64 fr, .int .i64 pr, .int .i64 pn, .int .i64 sl, .bool true, .string ⟨#[]⟩, .string ⟨#[]⟩, .int .i64 0, .slice none 0 0, .slice none 0 0, .slice none 0 0, .slice none 0 0, .int .i64 0], .string ⟨#[]⟩, .bool true])) W3) := by
    unfold OnD
    rw [if_pos HT.out]
    have hbw : Below w.heap.size w W3 := HB7.out.trans (hT3.below (fun i hi => by rw [hi]; exact HBS.out.1) HB7.out.size)
    refine ⟨none, 0, [], ?_, ?_, ⟨fun y hy => (by cases hy), .inl rfl⟩, Nat.zero_le _, fun b off e => (by cases e), ?_⟩
    · rw [kind5_after HK5.out, kind5_rec HK5.out, HK5.out]
      simp only [ansM, MsM.val, noopEn, List.length_nil]
      rw [HPR.out, HND.out]
    · rw [HK5.out]; rfl
    · rw [kind5_after HK5.out]
      exact RaTo.same H0.out hbw
  have k0 := hk9.cell (i := 0) rfl
  have k1 := hk9.cell (i := 1) rfl
  have k2 := hk9.cell (i := 2) rfl
  have k3 := hk9.cell (i := 3) rfl
  have k4 := hk9.cell (i := 4) rfl
  have k5 := hk9.cell (i := 5) rfl
  have k6 := hk9.cell (i := 6) rfl
  have k7 := hk9.cell (i := 7) rfl
  have k8 := hk9.cell (i := 8) rfl
  have k9 := hk9.cell (i := 9) rfl
  have k10 := hk9.cell (i := 10) rfl
  have k11 := hk9.cell (i := 11) rfl
  have k12 := hk9.cell (i := 12) rfl
  have k13 := hk9.cell (i := 13) rfl
  have k14 := hk9.cell (i := 14) rfl
  clear hk9 hT3 he2 ht7
  go_wp2
  unfold st15 at hW3
  rw [← hW3]
  (try simp only [Exit.inBlock, Exit.then])
  refine bodyPost_ret (v := .tuple #[.agg #[.int .i64 5, .int .i64 to, .int .i64 fr, .int .i64 pr, .int .i64 pn, .int .i64 sl, .bool true, .string ⟨#[]⟩, .string ⟨#[]⟩, .int .i64 0, .slice none 0 0, .slice none 0 0, .slice none 0 0, .slice none 0 0, .int .i64 0], .string ⟨#[]⟩, .bool true]) ?_ rfl HFI.out
  rw [results_cellA3 rfl]
  go_simp
end Go.Proofs.YtfmnbehopdmahaaGreat
