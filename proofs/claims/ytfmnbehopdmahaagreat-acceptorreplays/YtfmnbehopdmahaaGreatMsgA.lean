/-
  Messages in memory; whether one may be (codec.mayMsg).
-/
import Derived.Test.YtfmnbehopdmahaaGreatCodC
namespace Go.Proofs.YtfmnbehopdmahaaGreat
open Go.RowKit Go.Maps

/-- A message, with the places of its lists. -/
structure MsM where
  kind : Int
  frm : Int
  to : Int
  bal : Int × Int
  slot : Int
  en : EnM
  vo : Option Addr
  vc : Nat
  vs : List VoM
  so : Option Addr
  sc : Nat
  seen : List Int
  eo : Option Addr
  ec : Nat
  evs : List EvM
  time : Int
def MsM.cells (x : MsM) : List Value := [.int .i64 x.kind, .int .i64 x.frm, .int .i64 x.to, .int .i64 x.bal.1, .int .i64 x.bal.2, .int .i64 x.slot, .bool x.en.e.noop, .string x.en.e.tok, .string x.en.e.cart, .int .i64 x.en.e.ep, .slice x.en.ao x.en.e.cut.length x.en.cap, .slice x.vo x.vs.length x.vc, .slice x.so x.seen.length x.sc, .slice x.eo x.evs.length x.ec, .int .i64 x.time]
abbrev MsM.val (x : MsM) : Value := .agg #[.int .i64 x.kind, .int .i64 x.frm, .int .i64 x.to, .int .i64 x.bal.1, .int .i64 x.bal.2, .int .i64 x.slot, .bool x.en.e.noop, .string x.en.e.tok, .string x.en.e.cart, .int .i64 x.en.e.ep, .slice x.en.ao x.en.e.cut.length x.en.cap, .slice x.vo x.vs.length x.vc, .slice x.so x.seen.length x.sc, .slice x.eo x.evs.length x.ec, .int .i64 x.time]
structure MsOk (w : World) (x : MsM) : Prop where
  en : EnOk w x.en
  vs : HeldVo w x.vo x.vs
  vl : x.vs.length ≤ 1466015503701
  seen : HV w x.so x.sc x.seen
  evs : HeldE w x.eo x.evs
  el : x.evs.length ≤ 1466015503701
  ik : I64 x.kind
  ifr : I64 x.frm
  it : I64 x.to
  ib1 : I64 x.bal.1
  ib2 : I64 x.bal.2
  isl : I64 x.slot
  iti : I64 x.time
theorem MsOk.below {w w' : World} {x : MsM} (h : MsOk w x) (hb : Below w.heap.size w w') : MsOk w' x := ⟨h.en.below hb, h.vs.below hb, h.vl, h.seen.below hb, h.evs.below hb, h.el, h.ik, h.ifr, h.it, h.ib1, h.ib2, h.isl, h.iti⟩
def RightVs (l : List VoM) : Bool := decide (l.length ≤ 4096) && (l.all fun x => RightVo x)
def RightEs (l : List EvM) : Bool := decide (l.length ≤ 4096) && (l.all fun x => RightEvC x.e)
def RightMs (x : MsM) : Bool := decide (0 ≤ x.kind ∧ x.kind ≤ 255) && (decide (0 ≤ x.frm ∧ x.frm ≤ 6) && (decide (0 ≤ x.to ∧ x.to ≤ 6) && (RightBal x.bal && (decide (0 ≤ x.slot ∧ x.slot ≤ 2147483647) && (RightEn x.en.e && (RightVs x.vs && (rightVC x.seen && (RightEs x.evs && decide (0 ≤ x.time ∧ x.time ≤ 4611686018427387904)))))))))
set_option maxRecDepth 100000 in
set_option maxHeartbeats 1000000 in
theorem mayMsg_C (w : World) (x : MsM) (hx : MsOk w x) :
    Calls Tryz.prog 60 #[x.val] w fun e w' => e = .returned (.bool (RightMs x)) ∧ Below w.heap.size w w' := by
  obtain ⟨kd, fr, to, ⟨br, bn⟩, sl, ⟨⟨np, tk, ct, ep, cut⟩, ao1, cap1⟩, vo, vc, vs, so, sc, seen, eo, ec, evs, ti⟩ := x
  obtain ⟨XN, HXN⟩ : ∃ m, Hid (cut.length = m) := ⟨_, hid rfl⟩
  obtain ⟨VN, HVN⟩ : ∃ m, Hid (vs.length = m) := ⟨_, hid rfl⟩
  obtain ⟨SN, HSN⟩ : ∃ m, Hid (seen.length = m) := ⟨_, hid rfl⟩
  obtain ⟨EN, HEN⟩ : ∃ m, Hid (evs.length = m) := ⟨_, hid rfl⟩
  simp only [MsM.val]
  rw [HXN.out, HVN.out, HSN.out, HEN.out]
  have HVL : VN ≤ 1466015503701 := by rw [← HVN.out]; exact hx.vl
  have HEL : EN ≤ 1466015503701 := by rw [← HEN.out]; exact hx.el
  obtain ⟨W, hW⟩ : ∃ W, W = w.alloc (.cells #[.int .i64 kd, .int .i64 fr, .int .i64 to, .int .i64 br, .int .i64 bn, .int .i64 sl, .bool np, .string tk, .string ct, .int .i64 ep, .slice ao1 XN cap1, .slice vo VN vc, .slice so SN sc, .slice eo EN ec, .int .i64 ti] 43) := ⟨_, rfl⟩
  have HB : Hid (Below w.heap.size w W) := by rw [hW]; exact (Below.refl _ _).alloc (Nat.le_refl _) _
  have HK : Hid (Blk W w.heap.size 43 [.int .i64 kd, .int .i64 fr, .int .i64 to, .int .i64 br, .int .i64 bn, .int .i64 sl, .bool np, .string tk, .string ct, .int .i64 ep, .slice ao1 XN cap1, .slice vo VN vc, .slice so SN sc, .slice eo EN ec, .int .i64 ti]) := by rw [hW]; exact Blk.new w _ _
  have HW := hid hW
  have HC0 := hid (fun V (hV : Below W.heap.size W V) => calls_bel (upTo_anyC V (kd) 255))
  have HC1 := hid (fun V (hV : Below W.heap.size W V) => calls_bel (upTo_anyC V (fr) 6))
  have HC2 := hid (fun V (hV : Below W.heap.size W V) => calls_bel (upTo_anyC V (to) 6))
  have HC3 := hid (fun V (hV : Below W.heap.size W V) => mayBallot_C V (br, bn))
  have HC4 := hid (fun V (hV : Below W.heap.size W V) => calls_bel (upTo_anyC V (sl) 2147483647))
  have HC5 := hid (fun V (hV : Below W.heap.size W V) => (show Calls Tryz.prog 95 #[.agg #[.bool np, .string tk, .string ct, .int .i64 ep, .slice ao1 XN cap1]] V fun e w' => e = .returned (.bool (RightEn ⟨np, tk, ct, ep, cut⟩)) ∧ Below V.heap.size V w' from by have := mayEntry_C V ⟨⟨np, tk, ct, ep, cut⟩, ao1, cap1⟩ ((hx.en.below HB.out).below hV); simp only [EnM.val] at this; rw [HXN.out] at this; exact this))
  have HC6 := hid (fun V (hV : Below W.heap.size W V) => (show Calls Tryz.prog 96 #[.slice vo VN vc, .int .i64 4096, .func (.func 97) #[] #[]] V fun e w' => e = .returned (.bool (RightVs vs)) ∧ Below V.heap.size V w' from by have := mayList_VoC V vo vc vs VN HVN.out ((hx.vs.below HB.out).below hV) HVL; unfold RightVs; rw [HVN.out]; exact this))
  have HC7 := hid (fun V (hV : Below W.heap.size W V) => calls_bel (mayVector_anyC V so sc seen SN HSN.out ((hx.seen.below HB.out).below hV)))
  have HC8 := hid (fun V (hV : Below W.heap.size W V) => (show Calls Tryz.prog 99 #[.slice eo EN ec, .int .i64 4096, .func (.func 100) #[] #[]] V fun e w' => e = .returned (.bool (RightEs evs)) ∧ Below V.heap.size V w' from by have := mayList_EvC V eo ec evs EN HEN.out ((hx.evs.below HB.out).below hV) HEL; unfold RightEs; rw [HEN.out]; exact this))
  have HC9 := hid (fun V (hV : Below W.heap.size W V) => calls_bel (upTo_anyC V (ti) 4611686018427387904))
  have HR : Hid (RightMs ⟨kd, fr, to, (br, bn), sl, ⟨⟨np, tk, ct, ep, cut⟩, ao1, cap1⟩, vo, vc, vs, so, sc, seen, eo, ec, evs, ti⟩ = (decide (0 ≤ kd ∧ kd ≤ 255) && (decide (0 ≤ fr ∧ fr ≤ 6) && (decide (0 ≤ to ∧ to ≤ 6) && (RightBal (br, bn) && (decide (0 ≤ sl ∧ sl ≤ 2147483647) && (RightEn ⟨np, tk, ct, ep, cut⟩ && (RightVs vs && (rightVC seen && (RightEs evs && decide (0 ≤ ti ∧ ti ≤ 4611686018427387904))))))))))) := by rfl
  rw [HR.out]
  obtain ⟨b0, HB0⟩ : ∃ b, Hid (decide (0 ≤ kd ∧ kd ≤ 255) = b) := ⟨_, hid rfl⟩
  rw [HB0.out] at HC0 ⊢
  obtain ⟨b1, HB1⟩ : ∃ b, Hid (decide (0 ≤ fr ∧ fr ≤ 6) = b) := ⟨_, hid rfl⟩
  rw [HB1.out] at HC1 ⊢
  obtain ⟨b2, HB2⟩ : ∃ b, Hid (decide (0 ≤ to ∧ to ≤ 6) = b) := ⟨_, hid rfl⟩
  rw [HB2.out] at HC2 ⊢
  obtain ⟨b3, HB3⟩ : ∃ b, Hid (RightBal (br, bn) = b) := ⟨_, hid rfl⟩
  rw [HB3.out] at HC3 ⊢
  obtain ⟨b4, HB4⟩ : ∃ b, Hid (decide (0 ≤ sl ∧ sl ≤ 2147483647) = b) := ⟨_, hid rfl⟩
  rw [HB4.out] at HC4 ⊢
  obtain ⟨b5, HB5⟩ : ∃ b, Hid (RightEn ⟨np, tk, ct, ep, cut⟩ = b) := ⟨_, hid rfl⟩
  rw [HB5.out] at HC5 ⊢
  obtain ⟨b6, HB6⟩ : ∃ b, Hid (RightVs vs = b) := ⟨_, hid rfl⟩
  rw [HB6.out] at HC6 ⊢
  obtain ⟨b7, HB7⟩ : ∃ b, Hid (rightVC seen = b) := ⟨_, hid rfl⟩
  rw [HB7.out] at HC7 ⊢
  obtain ⟨b8, HB8⟩ : ∃ b, Hid (RightEs evs = b) := ⟨_, hid rfl⟩
  rw [HB8.out] at HC8 ⊢
  obtain ⟨b9, HB9⟩ : ∃ b, Hid (decide (0 ≤ ti ∧ ti ≤ 4611686018427387904) = b) := ⟨_, hid rfl⟩
  rw [HB9.out] at HC9 ⊢
  clear hW HR HB0 HB1 HB2 HB3 HB4 HB5 HB6 HB7 HB8 HB9 hx HVL HEL
  cases b0
  · skip
    go_enter Tryz.func60, Tryz.ntmps60
    go_wp2_with fail
    rw [← HW.out]
    refine (HC0.out _ (Below.refl _ _)).mono ?_
    rintro e w1 ⟨rfl, hb1⟩
    have HX1 := hid hb1
    go_wp2
    go_ret
    exact ⟨rfl, bt' HB.out HX1.out⟩
  cases b1
  · skip
    go_enter Tryz.func60, Tryz.ntmps60
    go_wp2_with fail
    rw [← HW.out]
    refine (HC0.out _ (Below.refl _ _)).mono ?_
    rintro e w1 ⟨rfl, hb1⟩
    have HX1 := hid hb1
    have hk1 := HK.out.below HX1.out HK.out.lt
    have c1_0 := hk1.cell (i := 0) rfl
    have c1_1 := hk1.cell (i := 1) rfl
    have c1_2 := hk1.cell (i := 2) rfl
    have c1_3 := hk1.cell (i := 3) rfl
    have c1_4 := hk1.cell (i := 4) rfl
    have c1_5 := hk1.cell (i := 5) rfl
    have c1_6 := hk1.cell (i := 6) rfl
    have c1_7 := hk1.cell (i := 7) rfl
    have c1_8 := hk1.cell (i := 8) rfl
    have c1_9 := hk1.cell (i := 9) rfl
    have c1_10 := hk1.cell (i := 10) rfl
    have c1_11 := hk1.cell (i := 11) rfl
    have c1_12 := hk1.cell (i := 12) rfl
    have c1_13 := hk1.cell (i := 13) rfl
    have c1_14 := hk1.cell (i := 14) rfl
    clear hb1 hk1
    go_wp2_with fail
    refine (HC1.out _ HX1.out).mono ?_
    rintro e w2 ⟨rfl, hb2⟩
    have HX2 := hid (bt' HX1.out hb2)
    go_wp2
    go_ret
    exact ⟨rfl, bt' HB.out HX2.out⟩
  cases b2
  · skip
    go_enter Tryz.func60, Tryz.ntmps60
    go_wp2_with fail
    rw [← HW.out]
    refine (HC0.out _ (Below.refl _ _)).mono ?_
    rintro e w1 ⟨rfl, hb1⟩
    have HX1 := hid hb1
    have hk1 := HK.out.below HX1.out HK.out.lt
    have c1_0 := hk1.cell (i := 0) rfl
    have c1_1 := hk1.cell (i := 1) rfl
    have c1_2 := hk1.cell (i := 2) rfl
    have c1_3 := hk1.cell (i := 3) rfl
    have c1_4 := hk1.cell (i := 4) rfl
    have c1_5 := hk1.cell (i := 5) rfl
    have c1_6 := hk1.cell (i := 6) rfl
    have c1_7 := hk1.cell (i := 7) rfl
    have c1_8 := hk1.cell (i := 8) rfl
    have c1_9 := hk1.cell (i := 9) rfl
    have c1_10 := hk1.cell (i := 10) rfl
    have c1_11 := hk1.cell (i := 11) rfl
    have c1_12 := hk1.cell (i := 12) rfl
    have c1_13 := hk1.cell (i := 13) rfl
    have c1_14 := hk1.cell (i := 14) rfl
    clear hb1 hk1
    go_wp2_with fail
    refine (HC1.out _ HX1.out).mono ?_
    rintro e w2 ⟨rfl, hb2⟩
    have HX2 := hid (bt' HX1.out hb2)
    have hk2 := HK.out.below HX2.out HK.out.lt
    have c2_0 := hk2.cell (i := 0) rfl
    have c2_1 := hk2.cell (i := 1) rfl
    have c2_2 := hk2.cell (i := 2) rfl
    have c2_3 := hk2.cell (i := 3) rfl
    have c2_4 := hk2.cell (i := 4) rfl
    have c2_5 := hk2.cell (i := 5) rfl
    have c2_6 := hk2.cell (i := 6) rfl
    have c2_7 := hk2.cell (i := 7) rfl
    have c2_8 := hk2.cell (i := 8) rfl
    have c2_9 := hk2.cell (i := 9) rfl
    have c2_10 := hk2.cell (i := 10) rfl
    have c2_11 := hk2.cell (i := 11) rfl
    have c2_12 := hk2.cell (i := 12) rfl
    have c2_13 := hk2.cell (i := 13) rfl
    have c2_14 := hk2.cell (i := 14) rfl
    clear hb2 hk2 c1_0 c1_1 c1_2 c1_3 c1_4 c1_5 c1_6 c1_7 c1_8 c1_9 c1_10 c1_11 c1_12 c1_13 c1_14
    go_wp2_with fail
    refine (HC2.out _ HX2.out).mono ?_
    rintro e w3 ⟨rfl, hb3⟩
    have HX3 := hid (bt' HX2.out hb3)
    go_wp2
    go_ret
    exact ⟨rfl, bt' HB.out HX3.out⟩
  cases b3
  · skip
    go_enter Tryz.func60, Tryz.ntmps60
    go_wp2_with fail
    rw [← HW.out]
    refine (HC0.out _ (Below.refl _ _)).mono ?_
    rintro e w1 ⟨rfl, hb1⟩
    have HX1 := hid hb1
    have hk1 := HK.out.below HX1.out HK.out.lt
    have c1_0 := hk1.cell (i := 0) rfl
    have c1_1 := hk1.cell (i := 1) rfl
    have c1_2 := hk1.cell (i := 2) rfl
    have c1_3 := hk1.cell (i := 3) rfl
    have c1_4 := hk1.cell (i := 4) rfl
    have c1_5 := hk1.cell (i := 5) rfl
    have c1_6 := hk1.cell (i := 6) rfl
    have c1_7 := hk1.cell (i := 7) rfl
    have c1_8 := hk1.cell (i := 8) rfl
    have c1_9 := hk1.cell (i := 9) rfl
    have c1_10 := hk1.cell (i := 10) rfl
    have c1_11 := hk1.cell (i := 11) rfl
    have c1_12 := hk1.cell (i := 12) rfl
    have c1_13 := hk1.cell (i := 13) rfl
    have c1_14 := hk1.cell (i := 14) rfl
    clear hb1 hk1
    go_wp2_with fail
    refine (HC1.out _ HX1.out).mono ?_
    rintro e w2 ⟨rfl, hb2⟩
    have HX2 := hid (bt' HX1.out hb2)
    have hk2 := HK.out.below HX2.out HK.out.lt
    have c2_0 := hk2.cell (i := 0) rfl
    have c2_1 := hk2.cell (i := 1) rfl
    have c2_2 := hk2.cell (i := 2) rfl
    have c2_3 := hk2.cell (i := 3) rfl
    have c2_4 := hk2.cell (i := 4) rfl
    have c2_5 := hk2.cell (i := 5) rfl
    have c2_6 := hk2.cell (i := 6) rfl
    have c2_7 := hk2.cell (i := 7) rfl
    have c2_8 := hk2.cell (i := 8) rfl
    have c2_9 := hk2.cell (i := 9) rfl
    have c2_10 := hk2.cell (i := 10) rfl
    have c2_11 := hk2.cell (i := 11) rfl
    have c2_12 := hk2.cell (i := 12) rfl
    have c2_13 := hk2.cell (i := 13) rfl
    have c2_14 := hk2.cell (i := 14) rfl
    clear hb2 hk2 c1_0 c1_1 c1_2 c1_3 c1_4 c1_5 c1_6 c1_7 c1_8 c1_9 c1_10 c1_11 c1_12 c1_13 c1_14
    go_wp2_with fail
    refine (HC2.out _ HX2.out).mono ?_
    rintro e w3 ⟨rfl, hb3⟩
    have HX3 := hid (bt' HX2.out hb3)
    have hk3 := HK.out.below HX3.out HK.out.lt
    have c3_0 := hk3.cell (i := 0) rfl
    have c3_1 := hk3.cell (i := 1) rfl
    have c3_2 := hk3.cell (i := 2) rfl
    have c3_3 := hk3.cell (i := 3) rfl
    have c3_4 := hk3.cell (i := 4) rfl
    have c3_5 := hk3.cell (i := 5) rfl
    have c3_6 := hk3.cell (i := 6) rfl
    have c3_7 := hk3.cell (i := 7) rfl
    have c3_8 := hk3.cell (i := 8) rfl
    have c3_9 := hk3.cell (i := 9) rfl
    have c3_10 := hk3.cell (i := 10) rfl
    have c3_11 := hk3.cell (i := 11) rfl
    have c3_12 := hk3.cell (i := 12) rfl
    have c3_13 := hk3.cell (i := 13) rfl
    have c3_14 := hk3.cell (i := 14) rfl
    clear hb3 hk3 c2_0 c2_1 c2_2 c2_3 c2_4 c2_5 c2_6 c2_7 c2_8 c2_9 c2_10 c2_11 c2_12 c2_13 c2_14
    go_wp2_with fail
    refine (HC3.out _ HX3.out).mono ?_
    rintro e w4 ⟨rfl, hb4⟩
    have HX4 := hid (bt' HX3.out hb4)
    go_wp2
    go_ret
    exact ⟨rfl, bt' HB.out HX4.out⟩
  cases b4
  · skip
    go_enter Tryz.func60, Tryz.ntmps60
    go_wp2_with fail
    rw [← HW.out]
    refine (HC0.out _ (Below.refl _ _)).mono ?_
    rintro e w1 ⟨rfl, hb1⟩
    have HX1 := hid hb1
    have hk1 := HK.out.below HX1.out HK.out.lt
    have c1_0 := hk1.cell (i := 0) rfl
    have c1_1 := hk1.cell (i := 1) rfl
    have c1_2 := hk1.cell (i := 2) rfl
    have c1_3 := hk1.cell (i := 3) rfl
    have c1_4 := hk1.cell (i := 4) rfl
    have c1_5 := hk1.cell (i := 5) rfl
    have c1_6 := hk1.cell (i := 6) rfl
    have c1_7 := hk1.cell (i := 7) rfl
    have c1_8 := hk1.cell (i := 8) rfl
    have c1_9 := hk1.cell (i := 9) rfl
    have c1_10 := hk1.cell (i := 10) rfl
    have c1_11 := hk1.cell (i := 11) rfl
    have c1_12 := hk1.cell (i := 12) rfl
    have c1_13 := hk1.cell (i := 13) rfl
    have c1_14 := hk1.cell (i := 14) rfl
    clear hb1 hk1
    go_wp2_with fail
    refine (HC1.out _ HX1.out).mono ?_
    rintro e w2 ⟨rfl, hb2⟩
    have HX2 := hid (bt' HX1.out hb2)
    have hk2 := HK.out.below HX2.out HK.out.lt
    have c2_0 := hk2.cell (i := 0) rfl
    have c2_1 := hk2.cell (i := 1) rfl
    have c2_2 := hk2.cell (i := 2) rfl
    have c2_3 := hk2.cell (i := 3) rfl
    have c2_4 := hk2.cell (i := 4) rfl
    have c2_5 := hk2.cell (i := 5) rfl
    have c2_6 := hk2.cell (i := 6) rfl
    have c2_7 := hk2.cell (i := 7) rfl
    have c2_8 := hk2.cell (i := 8) rfl
    have c2_9 := hk2.cell (i := 9) rfl
    have c2_10 := hk2.cell (i := 10) rfl
    have c2_11 := hk2.cell (i := 11) rfl
    have c2_12 := hk2.cell (i := 12) rfl
    have c2_13 := hk2.cell (i := 13) rfl
    have c2_14 := hk2.cell (i := 14) rfl
    clear hb2 hk2 c1_0 c1_1 c1_2 c1_3 c1_4 c1_5 c1_6 c1_7 c1_8 c1_9 c1_10 c1_11 c1_12 c1_13 c1_14
    go_wp2_with fail
    refine (HC2.out _ HX2.out).mono ?_
    rintro e w3 ⟨rfl, hb3⟩
    have HX3 := hid (bt' HX2.out hb3)
    have hk3 := HK.out.below HX3.out HK.out.lt
    have c3_0 := hk3.cell (i := 0) rfl
    have c3_1 := hk3.cell (i := 1) rfl
    have c3_2 := hk3.cell (i := 2) rfl
    have c3_3 := hk3.cell (i := 3) rfl
    have c3_4 := hk3.cell (i := 4) rfl
    have c3_5 := hk3.cell (i := 5) rfl
    have c3_6 := hk3.cell (i := 6) rfl
    have c3_7 := hk3.cell (i := 7) rfl
    have c3_8 := hk3.cell (i := 8) rfl
    have c3_9 := hk3.cell (i := 9) rfl
    have c3_10 := hk3.cell (i := 10) rfl
    have c3_11 := hk3.cell (i := 11) rfl
    have c3_12 := hk3.cell (i := 12) rfl
    have c3_13 := hk3.cell (i := 13) rfl
    have c3_14 := hk3.cell (i := 14) rfl
    clear hb3 hk3 c2_0 c2_1 c2_2 c2_3 c2_4 c2_5 c2_6 c2_7 c2_8 c2_9 c2_10 c2_11 c2_12 c2_13 c2_14
    go_wp2_with fail
    refine (HC3.out _ HX3.out).mono ?_
    rintro e w4 ⟨rfl, hb4⟩
    have HX4 := hid (bt' HX3.out hb4)
    have hk4 := HK.out.below HX4.out HK.out.lt
    have c4_0 := hk4.cell (i := 0) rfl
    have c4_1 := hk4.cell (i := 1) rfl
    have c4_2 := hk4.cell (i := 2) rfl
    have c4_3 := hk4.cell (i := 3) rfl
    have c4_4 := hk4.cell (i := 4) rfl
    have c4_5 := hk4.cell (i := 5) rfl
    have c4_6 := hk4.cell (i := 6) rfl
    have c4_7 := hk4.cell (i := 7) rfl
    have c4_8 := hk4.cell (i := 8) rfl
    have c4_9 := hk4.cell (i := 9) rfl
    have c4_10 := hk4.cell (i := 10) rfl
    have c4_11 := hk4.cell (i := 11) rfl
    have c4_12 := hk4.cell (i := 12) rfl
    have c4_13 := hk4.cell (i := 13) rfl
    have c4_14 := hk4.cell (i := 14) rfl
    clear hb4 hk4 c3_0 c3_1 c3_2 c3_3 c3_4 c3_5 c3_6 c3_7 c3_8 c3_9 c3_10 c3_11 c3_12 c3_13 c3_14
    go_wp2_with fail
    refine (HC4.out _ HX4.out).mono ?_
    rintro e w5 ⟨rfl, hb5⟩
    have HX5 := hid (bt' HX4.out hb5)
    go_wp2
    go_ret
    exact ⟨rfl, bt' HB.out HX5.out⟩
  cases b5
  · skip
    go_enter Tryz.func60, Tryz.ntmps60
    go_wp2_with fail
    rw [← HW.out]
    refine (HC0.out _ (Below.refl _ _)).mono ?_
    rintro e w1 ⟨rfl, hb1⟩
    have HX1 := hid hb1
    have hk1 := HK.out.below HX1.out HK.out.lt
    have c1_0 := hk1.cell (i := 0) rfl
    have c1_1 := hk1.cell (i := 1) rfl
    have c1_2 := hk1.cell (i := 2) rfl
    have c1_3 := hk1.cell (i := 3) rfl
    have c1_4 := hk1.cell (i := 4) rfl
    have c1_5 := hk1.cell (i := 5) rfl
    have c1_6 := hk1.cell (i := 6) rfl
    have c1_7 := hk1.cell (i := 7) rfl
    have c1_8 := hk1.cell (i := 8) rfl
    have c1_9 := hk1.cell (i := 9) rfl
    have c1_10 := hk1.cell (i := 10) rfl
    have c1_11 := hk1.cell (i := 11) rfl
    have c1_12 := hk1.cell (i := 12) rfl
    have c1_13 := hk1.cell (i := 13) rfl
    have c1_14 := hk1.cell (i := 14) rfl
    clear hb1 hk1
    go_wp2_with fail
    refine (HC1.out _ HX1.out).mono ?_
    rintro e w2 ⟨rfl, hb2⟩
    have HX2 := hid (bt' HX1.out hb2)
    have hk2 := HK.out.below HX2.out HK.out.lt
    have c2_0 := hk2.cell (i := 0) rfl
    have c2_1 := hk2.cell (i := 1) rfl
    have c2_2 := hk2.cell (i := 2) rfl
    have c2_3 := hk2.cell (i := 3) rfl
    have c2_4 := hk2.cell (i := 4) rfl
    have c2_5 := hk2.cell (i := 5) rfl
    have c2_6 := hk2.cell (i := 6) rfl
    have c2_7 := hk2.cell (i := 7) rfl
    have c2_8 := hk2.cell (i := 8) rfl
    have c2_9 := hk2.cell (i := 9) rfl
    have c2_10 := hk2.cell (i := 10) rfl
    have c2_11 := hk2.cell (i := 11) rfl
    have c2_12 := hk2.cell (i := 12) rfl
    have c2_13 := hk2.cell (i := 13) rfl
    have c2_14 := hk2.cell (i := 14) rfl
    clear hb2 hk2 c1_0 c1_1 c1_2 c1_3 c1_4 c1_5 c1_6 c1_7 c1_8 c1_9 c1_10 c1_11 c1_12 c1_13 c1_14
    go_wp2_with fail
    refine (HC2.out _ HX2.out).mono ?_
    rintro e w3 ⟨rfl, hb3⟩
    have HX3 := hid (bt' HX2.out hb3)
    have hk3 := HK.out.below HX3.out HK.out.lt
    have c3_0 := hk3.cell (i := 0) rfl
    have c3_1 := hk3.cell (i := 1) rfl
    have c3_2 := hk3.cell (i := 2) rfl
    have c3_3 := hk3.cell (i := 3) rfl
    have c3_4 := hk3.cell (i := 4) rfl
    have c3_5 := hk3.cell (i := 5) rfl
    have c3_6 := hk3.cell (i := 6) rfl
    have c3_7 := hk3.cell (i := 7) rfl
    have c3_8 := hk3.cell (i := 8) rfl
    have c3_9 := hk3.cell (i := 9) rfl
    have c3_10 := hk3.cell (i := 10) rfl
    have c3_11 := hk3.cell (i := 11) rfl
    have c3_12 := hk3.cell (i := 12) rfl
    have c3_13 := hk3.cell (i := 13) rfl
    have c3_14 := hk3.cell (i := 14) rfl
    clear hb3 hk3 c2_0 c2_1 c2_2 c2_3 c2_4 c2_5 c2_6 c2_7 c2_8 c2_9 c2_10 c2_11 c2_12 c2_13 c2_14
    go_wp2_with fail
    refine (HC3.out _ HX3.out).mono ?_
    rintro e w4 ⟨rfl, hb4⟩
    have HX4 := hid (bt' HX3.out hb4)
    have hk4 := HK.out.below HX4.out HK.out.lt
    have c4_0 := hk4.cell (i := 0) rfl
    have c4_1 := hk4.cell (i := 1) rfl
    have c4_2 := hk4.cell (i := 2) rfl
    have c4_3 := hk4.cell (i := 3) rfl
    have c4_4 := hk4.cell (i := 4) rfl
    have c4_5 := hk4.cell (i := 5) rfl
    have c4_6 := hk4.cell (i := 6) rfl
    have c4_7 := hk4.cell (i := 7) rfl
    have c4_8 := hk4.cell (i := 8) rfl
    have c4_9 := hk4.cell (i := 9) rfl
    have c4_10 := hk4.cell (i := 10) rfl
    have c4_11 := hk4.cell (i := 11) rfl
    have c4_12 := hk4.cell (i := 12) rfl
    have c4_13 := hk4.cell (i := 13) rfl
    have c4_14 := hk4.cell (i := 14) rfl
    clear hb4 hk4 c3_0 c3_1 c3_2 c3_3 c3_4 c3_5 c3_6 c3_7 c3_8 c3_9 c3_10 c3_11 c3_12 c3_13 c3_14
    go_wp2_with fail
    refine (HC4.out _ HX4.out).mono ?_
    rintro e w5 ⟨rfl, hb5⟩
    have HX5 := hid (bt' HX4.out hb5)
    have hk5 := HK.out.below HX5.out HK.out.lt
    have c5_0 := hk5.cell (i := 0) rfl
    have c5_1 := hk5.cell (i := 1) rfl
    have c5_2 := hk5.cell (i := 2) rfl
    have c5_3 := hk5.cell (i := 3) rfl
    have c5_4 := hk5.cell (i := 4) rfl
    have c5_5 := hk5.cell (i := 5) rfl
    have c5_6 := hk5.cell (i := 6) rfl
    have c5_7 := hk5.cell (i := 7) rfl
    have c5_8 := hk5.cell (i := 8) rfl
    have c5_9 := hk5.cell (i := 9) rfl
    have c5_10 := hk5.cell (i := 10) rfl
    have c5_11 := hk5.cell (i := 11) rfl
    have c5_12 := hk5.cell (i := 12) rfl
    have c5_13 := hk5.cell (i := 13) rfl
    have c5_14 := hk5.cell (i := 14) rfl
    clear hb5 hk5 c4_0 c4_1 c4_2 c4_3 c4_4 c4_5 c4_6 c4_7 c4_8 c4_9 c4_10 c4_11 c4_12 c4_13 c4_14
    go_wp2_with fail
    refine (HC5.out _ HX5.out).mono ?_
    rintro e w6 ⟨rfl, hb6⟩
    have HX6 := hid (bt' HX5.out hb6)
    go_wp2
    go_ret
    exact ⟨rfl, bt' HB.out HX6.out⟩
  cases b6
  · skip
    go_enter Tryz.func60, Tryz.ntmps60
    go_wp2_with fail
    rw [← HW.out]
    refine (HC0.out _ (Below.refl _ _)).mono ?_
    rintro e w1 ⟨rfl, hb1⟩
    have HX1 := hid hb1
    have hk1 := HK.out.below HX1.out HK.out.lt
    have c1_0 := hk1.cell (i := 0) rfl
    have c1_1 := hk1.cell (i := 1) rfl
    have c1_2 := hk1.cell (i := 2) rfl
    have c1_3 := hk1.cell (i := 3) rfl
    have c1_4 := hk1.cell (i := 4) rfl
    have c1_5 := hk1.cell (i := 5) rfl
    have c1_6 := hk1.cell (i := 6) rfl
    have c1_7 := hk1.cell (i := 7) rfl
    have c1_8 := hk1.cell (i := 8) rfl
    have c1_9 := hk1.cell (i := 9) rfl
    have c1_10 := hk1.cell (i := 10) rfl
    have c1_11 := hk1.cell (i := 11) rfl
    have c1_12 := hk1.cell (i := 12) rfl
    have c1_13 := hk1.cell (i := 13) rfl
    have c1_14 := hk1.cell (i := 14) rfl
    clear hb1 hk1
    go_wp2_with fail
    refine (HC1.out _ HX1.out).mono ?_
    rintro e w2 ⟨rfl, hb2⟩
    have HX2 := hid (bt' HX1.out hb2)
    have hk2 := HK.out.below HX2.out HK.out.lt
    have c2_0 := hk2.cell (i := 0) rfl
    have c2_1 := hk2.cell (i := 1) rfl
    have c2_2 := hk2.cell (i := 2) rfl
    have c2_3 := hk2.cell (i := 3) rfl
    have c2_4 := hk2.cell (i := 4) rfl
    have c2_5 := hk2.cell (i := 5) rfl
    have c2_6 := hk2.cell (i := 6) rfl
    have c2_7 := hk2.cell (i := 7) rfl
    have c2_8 := hk2.cell (i := 8) rfl
    have c2_9 := hk2.cell (i := 9) rfl
    have c2_10 := hk2.cell (i := 10) rfl
    have c2_11 := hk2.cell (i := 11) rfl
    have c2_12 := hk2.cell (i := 12) rfl
    have c2_13 := hk2.cell (i := 13) rfl
    have c2_14 := hk2.cell (i := 14) rfl
    clear hb2 hk2 c1_0 c1_1 c1_2 c1_3 c1_4 c1_5 c1_6 c1_7 c1_8 c1_9 c1_10 c1_11 c1_12 c1_13 c1_14
    go_wp2_with fail
    refine (HC2.out _ HX2.out).mono ?_
    rintro e w3 ⟨rfl, hb3⟩
    have HX3 := hid (bt' HX2.out hb3)
    have hk3 := HK.out.below HX3.out HK.out.lt
    have c3_0 := hk3.cell (i := 0) rfl
    have c3_1 := hk3.cell (i := 1) rfl
    have c3_2 := hk3.cell (i := 2) rfl
    have c3_3 := hk3.cell (i := 3) rfl
    have c3_4 := hk3.cell (i := 4) rfl
    have c3_5 := hk3.cell (i := 5) rfl
    have c3_6 := hk3.cell (i := 6) rfl
    have c3_7 := hk3.cell (i := 7) rfl
    have c3_8 := hk3.cell (i := 8) rfl
    have c3_9 := hk3.cell (i := 9) rfl
    have c3_10 := hk3.cell (i := 10) rfl
    have c3_11 := hk3.cell (i := 11) rfl
    have c3_12 := hk3.cell (i := 12) rfl
    have c3_13 := hk3.cell (i := 13) rfl
    have c3_14 := hk3.cell (i := 14) rfl
    clear hb3 hk3 c2_0 c2_1 c2_2 c2_3 c2_4 c2_5 c2_6 c2_7 c2_8 c2_9 c2_10 c2_11 c2_12 c2_13 c2_14
    go_wp2_with fail
    refine (HC3.out _ HX3.out).mono ?_
    rintro e w4 ⟨rfl, hb4⟩
    have HX4 := hid (bt' HX3.out hb4)
    have hk4 := HK.out.below HX4.out HK.out.lt
    have c4_0 := hk4.cell (i := 0) rfl
    have c4_1 := hk4.cell (i := 1) rfl
    have c4_2 := hk4.cell (i := 2) rfl
    have c4_3 := hk4.cell (i := 3) rfl
    have c4_4 := hk4.cell (i := 4) rfl
    have c4_5 := hk4.cell (i := 5) rfl
    have c4_6 := hk4.cell (i := 6) rfl
    have c4_7 := hk4.cell (i := 7) rfl
    have c4_8 := hk4.cell (i := 8) rfl
    have c4_9 := hk4.cell (i := 9) rfl
    have c4_10 := hk4.cell (i := 10) rfl
    have c4_11 := hk4.cell (i := 11) rfl
    have c4_12 := hk4.cell (i := 12) rfl
    have c4_13 := hk4.cell (i := 13) rfl
    have c4_14 := hk4.cell (i := 14) rfl
    clear hb4 hk4 c3_0 c3_1 c3_2 c3_3 c3_4 c3_5 c3_6 c3_7 c3_8 c3_9 c3_10 c3_11 c3_12 c3_13 c3_14
    go_wp2_with fail
    refine (HC4.out _ HX4.out).mono ?_
    rintro e w5 ⟨rfl, hb5⟩
    have HX5 := hid (bt' HX4.out hb5)
    have hk5 := HK.out.below HX5.out HK.out.lt
    have c5_0 := hk5.cell (i := 0) rfl
    have c5_1 := hk5.cell (i := 1) rfl
    have c5_2 := hk5.cell (i := 2) rfl
    have c5_3 := hk5.cell (i := 3) rfl
    have c5_4 := hk5.cell (i := 4) rfl
    have c5_5 := hk5.cell (i := 5) rfl
    have c5_6 := hk5.cell (i := 6) rfl
    have c5_7 := hk5.cell (i := 7) rfl
    have c5_8 := hk5.cell (i := 8) rfl
    have c5_9 := hk5.cell (i := 9) rfl
    have c5_10 := hk5.cell (i := 10) rfl
    have c5_11 := hk5.cell (i := 11) rfl
    have c5_12 := hk5.cell (i := 12) rfl
    have c5_13 := hk5.cell (i := 13) rfl
    have c5_14 := hk5.cell (i := 14) rfl
    clear hb5 hk5 c4_0 c4_1 c4_2 c4_3 c4_4 c4_5 c4_6 c4_7 c4_8 c4_9 c4_10 c4_11 c4_12 c4_13 c4_14
    go_wp2_with fail
    refine (HC5.out _ HX5.out).mono ?_
    rintro e w6 ⟨rfl, hb6⟩
    have HX6 := hid (bt' HX5.out hb6)
    have hk6 := HK.out.below HX6.out HK.out.lt
    have c6_0 := hk6.cell (i := 0) rfl
    have c6_1 := hk6.cell (i := 1) rfl
    have c6_2 := hk6.cell (i := 2) rfl
    have c6_3 := hk6.cell (i := 3) rfl
    have c6_4 := hk6.cell (i := 4) rfl
    have c6_5 := hk6.cell (i := 5) rfl
    have c6_6 := hk6.cell (i := 6) rfl
    have c6_7 := hk6.cell (i := 7) rfl
    have c6_8 := hk6.cell (i := 8) rfl
    have c6_9 := hk6.cell (i := 9) rfl
    have c6_10 := hk6.cell (i := 10) rfl
    have c6_11 := hk6.cell (i := 11) rfl
    have c6_12 := hk6.cell (i := 12) rfl
    have c6_13 := hk6.cell (i := 13) rfl
    have c6_14 := hk6.cell (i := 14) rfl
    clear hb6 hk6 c5_0 c5_1 c5_2 c5_3 c5_4 c5_5 c5_6 c5_7 c5_8 c5_9 c5_10 c5_11 c5_12 c5_13 c5_14
    go_wp2_with fail
    refine (HC6.out _ HX6.out).mono ?_
    rintro e w7 ⟨rfl, hb7⟩
    have HX7 := hid (bt' HX6.out hb7)
    go_wp2
    go_ret
    exact ⟨rfl, bt' HB.out HX7.out⟩
  cases b7
  · skip
    go_enter Tryz.func60, Tryz.ntmps60
    go_wp2_with fail
    rw [← HW.out]
    refine (HC0.out _ (Below.refl _ _)).mono ?_
    rintro e w1 ⟨rfl, hb1⟩
    have HX1 := hid hb1
    have hk1 := HK.out.below HX1.out HK.out.lt
    have c1_0 := hk1.cell (i := 0) rfl
    have c1_1 := hk1.cell (i := 1) rfl
    have c1_2 := hk1.cell (i := 2) rfl
    have c1_3 := hk1.cell (i := 3) rfl
    have c1_4 := hk1.cell (i := 4) rfl
    have c1_5 := hk1.cell (i := 5) rfl
    have c1_6 := hk1.cell (i := 6) rfl
    have c1_7 := hk1.cell (i := 7) rfl
    have c1_8 := hk1.cell (i := 8) rfl
    have c1_9 := hk1.cell (i := 9) rfl
    have c1_10 := hk1.cell (i := 10) rfl
    have c1_11 := hk1.cell (i := 11) rfl
    have c1_12 := hk1.cell (i := 12) rfl
    have c1_13 := hk1.cell (i := 13) rfl
    have c1_14 := hk1.cell (i := 14) rfl
    clear hb1 hk1
    go_wp2_with fail
    refine (HC1.out _ HX1.out).mono ?_
    rintro e w2 ⟨rfl, hb2⟩
    have HX2 := hid (bt' HX1.out hb2)
    have hk2 := HK.out.below HX2.out HK.out.lt
    have c2_0 := hk2.cell (i := 0) rfl
    have c2_1 := hk2.cell (i := 1) rfl
    have c2_2 := hk2.cell (i := 2) rfl
    have c2_3 := hk2.cell (i := 3) rfl
    have c2_4 := hk2.cell (i := 4) rfl
    have c2_5 := hk2.cell (i := 5) rfl
    have c2_6 := hk2.cell (i := 6) rfl
    have c2_7 := hk2.cell (i := 7) rfl
    have c2_8 := hk2.cell (i := 8) rfl
    have c2_9 := hk2.cell (i := 9) rfl
    have c2_10 := hk2.cell (i := 10) rfl
    have c2_11 := hk2.cell (i := 11) rfl
    have c2_12 := hk2.cell (i := 12) rfl
    have c2_13 := hk2.cell (i := 13) rfl
    have c2_14 := hk2.cell (i := 14) rfl
    clear hb2 hk2 c1_0 c1_1 c1_2 c1_3 c1_4 c1_5 c1_6 c1_7 c1_8 c1_9 c1_10 c1_11 c1_12 c1_13 c1_14
    go_wp2_with fail
    refine (HC2.out _ HX2.out).mono ?_
    rintro e w3 ⟨rfl, hb3⟩
    have HX3 := hid (bt' HX2.out hb3)
    have hk3 := HK.out.below HX3.out HK.out.lt
    have c3_0 := hk3.cell (i := 0) rfl
    have c3_1 := hk3.cell (i := 1) rfl
    have c3_2 := hk3.cell (i := 2) rfl
    have c3_3 := hk3.cell (i := 3) rfl
    have c3_4 := hk3.cell (i := 4) rfl
    have c3_5 := hk3.cell (i := 5) rfl
    have c3_6 := hk3.cell (i := 6) rfl
    have c3_7 := hk3.cell (i := 7) rfl
    have c3_8 := hk3.cell (i := 8) rfl
    have c3_9 := hk3.cell (i := 9) rfl
    have c3_10 := hk3.cell (i := 10) rfl
    have c3_11 := hk3.cell (i := 11) rfl
    have c3_12 := hk3.cell (i := 12) rfl
    have c3_13 := hk3.cell (i := 13) rfl
    have c3_14 := hk3.cell (i := 14) rfl
    clear hb3 hk3 c2_0 c2_1 c2_2 c2_3 c2_4 c2_5 c2_6 c2_7 c2_8 c2_9 c2_10 c2_11 c2_12 c2_13 c2_14
    go_wp2_with fail
    refine (HC3.out _ HX3.out).mono ?_
    rintro e w4 ⟨rfl, hb4⟩
    have HX4 := hid (bt' HX3.out hb4)
    have hk4 := HK.out.below HX4.out HK.out.lt
    have c4_0 := hk4.cell (i := 0) rfl
    have c4_1 := hk4.cell (i := 1) rfl
    have c4_2 := hk4.cell (i := 2) rfl
    have c4_3 := hk4.cell (i := 3) rfl
    have c4_4 := hk4.cell (i := 4) rfl
    have c4_5 := hk4.cell (i := 5) rfl
    have c4_6 := hk4.cell (i := 6) rfl
    have c4_7 := hk4.cell (i := 7) rfl
    have c4_8 := hk4.cell (i := 8) rfl
    have c4_9 := hk4.cell (i := 9) rfl
    have c4_10 := hk4.cell (i := 10) rfl
    have c4_11 := hk4.cell (i := 11) rfl
    have c4_12 := hk4.cell (i := 12) rfl
    have c4_13 := hk4.cell (i := 13) rfl
    have c4_14 := hk4.cell (i := 14) rfl
    clear hb4 hk4 c3_0 c3_1 c3_2 c3_3 c3_4 c3_5 c3_6 c3_7 c3_8 c3_9 c3_10 c3_11 c3_12 c3_13 c3_14
    go_wp2_with fail
    refine (HC4.out _ HX4.out).mono ?_
    rintro e w5 ⟨rfl, hb5⟩
    have HX5 := hid (bt' HX4.out hb5)
    have hk5 := HK.out.below HX5.out HK.out.lt
    have c5_0 := hk5.cell (i := 0) rfl
    have c5_1 := hk5.cell (i := 1) rfl
    have c5_2 := hk5.cell (i := 2) rfl
    have c5_3 := hk5.cell (i := 3) rfl
    have c5_4 := hk5.cell (i := 4) rfl
    have c5_5 := hk5.cell (i := 5) rfl
    have c5_6 := hk5.cell (i := 6) rfl
    have c5_7 := hk5.cell (i := 7) rfl
    have c5_8 := hk5.cell (i := 8) rfl
    have c5_9 := hk5.cell (i := 9) rfl
    have c5_10 := hk5.cell (i := 10) rfl
    have c5_11 := hk5.cell (i := 11) rfl
    have c5_12 := hk5.cell (i := 12) rfl
    have c5_13 := hk5.cell (i := 13) rfl
    have c5_14 := hk5.cell (i := 14) rfl
    clear hb5 hk5 c4_0 c4_1 c4_2 c4_3 c4_4 c4_5 c4_6 c4_7 c4_8 c4_9 c4_10 c4_11 c4_12 c4_13 c4_14
    go_wp2_with fail
    refine (HC5.out _ HX5.out).mono ?_
    rintro e w6 ⟨rfl, hb6⟩
    have HX6 := hid (bt' HX5.out hb6)
    have hk6 := HK.out.below HX6.out HK.out.lt
    have c6_0 := hk6.cell (i := 0) rfl
    have c6_1 := hk6.cell (i := 1) rfl
    have c6_2 := hk6.cell (i := 2) rfl
    have c6_3 := hk6.cell (i := 3) rfl
    have c6_4 := hk6.cell (i := 4) rfl
    have c6_5 := hk6.cell (i := 5) rfl
    have c6_6 := hk6.cell (i := 6) rfl
    have c6_7 := hk6.cell (i := 7) rfl
    have c6_8 := hk6.cell (i := 8) rfl
    have c6_9 := hk6.cell (i := 9) rfl
    have c6_10 := hk6.cell (i := 10) rfl
    have c6_11 := hk6.cell (i := 11) rfl
    have c6_12 := hk6.cell (i := 12) rfl
    have c6_13 := hk6.cell (i := 13) rfl
    have c6_14 := hk6.cell (i := 14) rfl
    clear hb6 hk6 c5_0 c5_1 c5_2 c5_3 c5_4 c5_5 c5_6 c5_7 c5_8 c5_9 c5_10 c5_11 c5_12 c5_13 c5_14
    go_wp2_with fail
    refine (HC6.out _ HX6.out).mono ?_
    rintro e w7 ⟨rfl, hb7⟩
    have HX7 := hid (bt' HX6.out hb7)
    have hk7 := HK.out.below HX7.out HK.out.lt
    have c7_0 := hk7.cell (i := 0) rfl
    have c7_1 := hk7.cell (i := 1) rfl
    have c7_2 := hk7.cell (i := 2) rfl
    have c7_3 := hk7.cell (i := 3) rfl
    have c7_4 := hk7.cell (i := 4) rfl
    have c7_5 := hk7.cell (i := 5) rfl
    have c7_6 := hk7.cell (i := 6) rfl
    have c7_7 := hk7.cell (i := 7) rfl
    have c7_8 := hk7.cell (i := 8) rfl
    have c7_9 := hk7.cell (i := 9) rfl
    have c7_10 := hk7.cell (i := 10) rfl
    have c7_11 := hk7.cell (i := 11) rfl
    have c7_12 := hk7.cell (i := 12) rfl
    have c7_13 := hk7.cell (i := 13) rfl
    have c7_14 := hk7.cell (i := 14) rfl
    clear hb7 hk7 c6_0 c6_1 c6_2 c6_3 c6_4 c6_5 c6_6 c6_7 c6_8 c6_9 c6_10 c6_11 c6_12 c6_13 c6_14
    go_wp2_with fail
    refine (HC7.out _ HX7.out).mono ?_
    rintro e w8 ⟨rfl, hb8⟩
    have HX8 := hid (bt' HX7.out hb8)
    go_wp2
    go_ret
    exact ⟨rfl, bt' HB.out HX8.out⟩
  cases b8
  · skip
    go_enter Tryz.func60, Tryz.ntmps60
    go_wp2_with fail
    rw [← HW.out]
    refine (HC0.out _ (Below.refl _ _)).mono ?_
    rintro e w1 ⟨rfl, hb1⟩
    have HX1 := hid hb1
    have hk1 := HK.out.below HX1.out HK.out.lt
    have c1_0 := hk1.cell (i := 0) rfl
    have c1_1 := hk1.cell (i := 1) rfl
    have c1_2 := hk1.cell (i := 2) rfl
    have c1_3 := hk1.cell (i := 3) rfl
    have c1_4 := hk1.cell (i := 4) rfl
    have c1_5 := hk1.cell (i := 5) rfl
    have c1_6 := hk1.cell (i := 6) rfl
    have c1_7 := hk1.cell (i := 7) rfl
    have c1_8 := hk1.cell (i := 8) rfl
    have c1_9 := hk1.cell (i := 9) rfl
    have c1_10 := hk1.cell (i := 10) rfl
    have c1_11 := hk1.cell (i := 11) rfl
    have c1_12 := hk1.cell (i := 12) rfl
    have c1_13 := hk1.cell (i := 13) rfl
    have c1_14 := hk1.cell (i := 14) rfl
    clear hb1 hk1
    go_wp2_with fail
    refine (HC1.out _ HX1.out).mono ?_
    rintro e w2 ⟨rfl, hb2⟩
    have HX2 := hid (bt' HX1.out hb2)
    have hk2 := HK.out.below HX2.out HK.out.lt
    have c2_0 := hk2.cell (i := 0) rfl
    have c2_1 := hk2.cell (i := 1) rfl
    have c2_2 := hk2.cell (i := 2) rfl
    have c2_3 := hk2.cell (i := 3) rfl
    have c2_4 := hk2.cell (i := 4) rfl
    have c2_5 := hk2.cell (i := 5) rfl
    have c2_6 := hk2.cell (i := 6) rfl
    have c2_7 := hk2.cell (i := 7) rfl
    have c2_8 := hk2.cell (i := 8) rfl
    have c2_9 := hk2.cell (i := 9) rfl
    have c2_10 := hk2.cell (i := 10) rfl
    have c2_11 := hk2.cell (i := 11) rfl
    have c2_12 := hk2.cell (i := 12) rfl
    have c2_13 := hk2.cell (i := 13) rfl
    have c2_14 := hk2.cell (i := 14) rfl
    clear hb2 hk2 c1_0 c1_1 c1_2 c1_3 c1_4 c1_5 c1_6 c1_7 c1_8 c1_9 c1_10 c1_11 c1_12 c1_13 c1_14
    go_wp2_with fail
    refine (HC2.out _ HX2.out).mono ?_
    rintro e w3 ⟨rfl, hb3⟩
    have HX3 := hid (bt' HX2.out hb3)
    have hk3 := HK.out.below HX3.out HK.out.lt
    have c3_0 := hk3.cell (i := 0) rfl
    have c3_1 := hk3.cell (i := 1) rfl
    have c3_2 := hk3.cell (i := 2) rfl
    have c3_3 := hk3.cell (i := 3) rfl
    have c3_4 := hk3.cell (i := 4) rfl
    have c3_5 := hk3.cell (i := 5) rfl
    have c3_6 := hk3.cell (i := 6) rfl
    have c3_7 := hk3.cell (i := 7) rfl
    have c3_8 := hk3.cell (i := 8) rfl
    have c3_9 := hk3.cell (i := 9) rfl
    have c3_10 := hk3.cell (i := 10) rfl
    have c3_11 := hk3.cell (i := 11) rfl
    have c3_12 := hk3.cell (i := 12) rfl
    have c3_13 := hk3.cell (i := 13) rfl
    have c3_14 := hk3.cell (i := 14) rfl
    clear hb3 hk3 c2_0 c2_1 c2_2 c2_3 c2_4 c2_5 c2_6 c2_7 c2_8 c2_9 c2_10 c2_11 c2_12 c2_13 c2_14
    go_wp2_with fail
    refine (HC3.out _ HX3.out).mono ?_
    rintro e w4 ⟨rfl, hb4⟩
    have HX4 := hid (bt' HX3.out hb4)
    have hk4 := HK.out.below HX4.out HK.out.lt
    have c4_0 := hk4.cell (i := 0) rfl
    have c4_1 := hk4.cell (i := 1) rfl
    have c4_2 := hk4.cell (i := 2) rfl
    have c4_3 := hk4.cell (i := 3) rfl
    have c4_4 := hk4.cell (i := 4) rfl
    have c4_5 := hk4.cell (i := 5) rfl
    have c4_6 := hk4.cell (i := 6) rfl
    have c4_7 := hk4.cell (i := 7) rfl
    have c4_8 := hk4.cell (i := 8) rfl
    have c4_9 := hk4.cell (i := 9) rfl
    have c4_10 := hk4.cell (i := 10) rfl
    have c4_11 := hk4.cell (i := 11) rfl
    have c4_12 := hk4.cell (i := 12) rfl
    have c4_13 := hk4.cell (i := 13) rfl
    have c4_14 := hk4.cell (i := 14) rfl
    clear hb4 hk4 c3_0 c3_1 c3_2 c3_3 c3_4 c3_5 c3_6 c3_7 c3_8 c3_9 c3_10 c3_11 c3_12 c3_13 c3_14
    go_wp2_with fail
    refine (HC4.out _ HX4.out).mono ?_
    rintro e w5 ⟨rfl, hb5⟩
    have HX5 := hid (bt' HX4.out hb5)
    have hk5 := HK.out.below HX5.out HK.out.lt
    have c5_0 := hk5.cell (i := 0) rfl
    have c5_1 := hk5.cell (i := 1) rfl
    have c5_2 := hk5.cell (i := 2) rfl
    have c5_3 := hk5.cell (i := 3) rfl
    have c5_4 := hk5.cell (i := 4) rfl
    have c5_5 := hk5.cell (i := 5) rfl
    have c5_6 := hk5.cell (i := 6) rfl
    have c5_7 := hk5.cell (i := 7) rfl
    have c5_8 := hk5.cell (i := 8) rfl
    have c5_9 := hk5.cell (i := 9) rfl
    have c5_10 := hk5.cell (i := 10) rfl
    have c5_11 := hk5.cell (i := 11) rfl
    have c5_12 := hk5.cell (i := 12) rfl
    have c5_13 := hk5.cell (i := 13) rfl
    have c5_14 := hk5.cell (i := 14) rfl
    clear hb5 hk5 c4_0 c4_1 c4_2 c4_3 c4_4 c4_5 c4_6 c4_7 c4_8 c4_9 c4_10 c4_11 c4_12 c4_13 c4_14
    go_wp2_with fail
    refine (HC5.out _ HX5.out).mono ?_
    rintro e w6 ⟨rfl, hb6⟩
    have HX6 := hid (bt' HX5.out hb6)
    have hk6 := HK.out.below HX6.out HK.out.lt
    have c6_0 := hk6.cell (i := 0) rfl
    have c6_1 := hk6.cell (i := 1) rfl
    have c6_2 := hk6.cell (i := 2) rfl
    have c6_3 := hk6.cell (i := 3) rfl
    have c6_4 := hk6.cell (i := 4) rfl
    have c6_5 := hk6.cell (i := 5) rfl
    have c6_6 := hk6.cell (i := 6) rfl
    have c6_7 := hk6.cell (i := 7) rfl
    have c6_8 := hk6.cell (i := 8) rfl
    have c6_9 := hk6.cell (i := 9) rfl
    have c6_10 := hk6.cell (i := 10) rfl
    have c6_11 := hk6.cell (i := 11) rfl
    have c6_12 := hk6.cell (i := 12) rfl
    have c6_13 := hk6.cell (i := 13) rfl
    have c6_14 := hk6.cell (i := 14) rfl
    clear hb6 hk6 c5_0 c5_1 c5_2 c5_3 c5_4 c5_5 c5_6 c5_7 c5_8 c5_9 c5_10 c5_11 c5_12 c5_13 c5_14
    go_wp2_with fail
    refine (HC6.out _ HX6.out).mono ?_
    rintro e w7 ⟨rfl, hb7⟩
    have HX7 := hid (bt' HX6.out hb7)
    have hk7 := HK.out.below HX7.out HK.out.lt
    have c7_0 := hk7.cell (i := 0) rfl
    have c7_1 := hk7.cell (i := 1) rfl
    have c7_2 := hk7.cell (i := 2) rfl
    have c7_3 := hk7.cell (i := 3) rfl
    have c7_4 := hk7.cell (i := 4) rfl
    have c7_5 := hk7.cell (i := 5) rfl
    have c7_6 := hk7.cell (i := 6) rfl
    have c7_7 := hk7.cell (i := 7) rfl
    have c7_8 := hk7.cell (i := 8) rfl
    have c7_9 := hk7.cell (i := 9) rfl
    have c7_10 := hk7.cell (i := 10) rfl
    have c7_11 := hk7.cell (i := 11) rfl
    have c7_12 := hk7.cell (i := 12) rfl
    have c7_13 := hk7.cell (i := 13) rfl
    have c7_14 := hk7.cell (i := 14) rfl
    clear hb7 hk7 c6_0 c6_1 c6_2 c6_3 c6_4 c6_5 c6_6 c6_7 c6_8 c6_9 c6_10 c6_11 c6_12 c6_13 c6_14
    go_wp2_with fail
    refine (HC7.out _ HX7.out).mono ?_
    rintro e w8 ⟨rfl, hb8⟩
    have HX8 := hid (bt' HX7.out hb8)
    have hk8 := HK.out.below HX8.out HK.out.lt
    have c8_0 := hk8.cell (i := 0) rfl
    have c8_1 := hk8.cell (i := 1) rfl
    have c8_2 := hk8.cell (i := 2) rfl
    have c8_3 := hk8.cell (i := 3) rfl
    have c8_4 := hk8.cell (i := 4) rfl
    have c8_5 := hk8.cell (i := 5) rfl
    have c8_6 := hk8.cell (i := 6) rfl
    have c8_7 := hk8.cell (i := 7) rfl
    have c8_8 := hk8.cell (i := 8) rfl
    have c8_9 := hk8.cell (i := 9) rfl
    have c8_10 := hk8.cell (i := 10) rfl
    have c8_11 := hk8.cell (i := 11) rfl
    have c8_12 := hk8.cell (i := 12) rfl
    have c8_13 := hk8.cell (i := 13) rfl
    have c8_14 := hk8.cell (i := 14) rfl
    clear hb8 hk8 c7_0 c7_1 c7_2 c7_3 c7_4 c7_5 c7_6 c7_7 c7_8 c7_9 c7_10 c7_11 c7_12 c7_13 c7_14
    go_wp2_with fail
    refine (HC8.out _ HX8.out).mono ?_
    rintro e w9 ⟨rfl, hb9⟩
    have HX9 := hid (bt' HX8.out hb9)
    go_wp2
    go_ret
    exact ⟨rfl, bt' HB.out HX9.out⟩
  go_enter Tryz.func60, Tryz.ntmps60
  go_wp2_with fail
  rw [← HW.out]
  refine (HC0.out _ (Below.refl _ _)).mono ?_
  rintro e w1 ⟨rfl, hb1⟩
  have HX1 := hid hb1
  have hk1 := HK.out.below HX1.out HK.out.lt
  have c1_0 := hk1.cell (i := 0) rfl
  have c1_1 := hk1.cell (i := 1) rfl
  have c1_2 := hk1.cell (i := 2) rfl
  have c1_3 := hk1.cell (i := 3) rfl
  have c1_4 := hk1.cell (i := 4) rfl
  have c1_5 := hk1.cell (i := 5) rfl
  have c1_6 := hk1.cell (i := 6) rfl
  have c1_7 := hk1.cell (i := 7) rfl
  have c1_8 := hk1.cell (i := 8) rfl
  have c1_9 := hk1.cell (i := 9) rfl
  have c1_10 := hk1.cell (i := 10) rfl
  have c1_11 := hk1.cell (i := 11) rfl
  have c1_12 := hk1.cell (i := 12) rfl
  have c1_13 := hk1.cell (i := 13) rfl
  have c1_14 := hk1.cell (i := 14) rfl
  clear hb1 hk1
  go_wp2_with fail
  refine (HC1.out _ HX1.out).mono ?_
  rintro e w2 ⟨rfl, hb2⟩
  have HX2 := hid (bt' HX1.out hb2)
  have hk2 := HK.out.below HX2.out HK.out.lt
  have c2_0 := hk2.cell (i := 0) rfl
  have c2_1 := hk2.cell (i := 1) rfl
  have c2_2 := hk2.cell (i := 2) rfl
  have c2_3 := hk2.cell (i := 3) rfl
  have c2_4 := hk2.cell (i := 4) rfl
  have c2_5 := hk2.cell (i := 5) rfl
  have c2_6 := hk2.cell (i := 6) rfl
  have c2_7 := hk2.cell (i := 7) rfl
  have c2_8 := hk2.cell (i := 8) rfl
  have c2_9 := hk2.cell (i := 9) rfl
  have c2_10 := hk2.cell (i := 10) rfl
  have c2_11 := hk2.cell (i := 11) rfl
  have c2_12 := hk2.cell (i := 12) rfl
  have c2_13 := hk2.cell (i := 13) rfl
  have c2_14 := hk2.cell (i := 14) rfl
  clear hb2 hk2 c1_0 c1_1 c1_2 c1_3 c1_4 c1_5 c1_6 c1_7 c1_8 c1_9 c1_10 c1_11 c1_12 c1_13 c1_14
  go_wp2_with fail
  refine (HC2.out _ HX2.out).mono ?_
  rintro e w3 ⟨rfl, hb3⟩
  have HX3 := hid (bt' HX2.out hb3)
  have hk3 := HK.out.below HX3.out HK.out.lt
  have c3_0 := hk3.cell (i := 0) rfl
  have c3_1 := hk3.cell (i := 1) rfl
  have c3_2 := hk3.cell (i := 2) rfl
  have c3_3 := hk3.cell (i := 3) rfl
  have c3_4 := hk3.cell (i := 4) rfl
  have c3_5 := hk3.cell (i := 5) rfl
  have c3_6 := hk3.cell (i := 6) rfl
  have c3_7 := hk3.cell (i := 7) rfl
  have c3_8 := hk3.cell (i := 8) rfl
  have c3_9 := hk3.cell (i := 9) rfl
  have c3_10 := hk3.cell (i := 10) rfl
  have c3_11 := hk3.cell (i := 11) rfl
  have c3_12 := hk3.cell (i := 12) rfl
  have c3_13 := hk3.cell (i := 13) rfl
  have c3_14 := hk3.cell (i := 14) rfl
  clear hb3 hk3 c2_0 c2_1 c2_2 c2_3 c2_4 c2_5 c2_6 c2_7 c2_8 c2_9 c2_10 c2_11 c2_12 c2_13 c2_14
  go_wp2_with fail
  refine (HC3.out _ HX3.out).mono ?_
  rintro e w4 ⟨rfl, hb4⟩
  have HX4 := hid (bt' HX3.out hb4)
  have hk4 := HK.out.below HX4.out HK.out.lt
  have c4_0 := hk4.cell (i := 0) rfl
  have c4_1 := hk4.cell (i := 1) rfl
  have c4_2 := hk4.cell (i := 2) rfl
  have c4_3 := hk4.cell (i := 3) rfl
  have c4_4 := hk4.cell (i := 4) rfl
  have c4_5 := hk4.cell (i := 5) rfl
  have c4_6 := hk4.cell (i := 6) rfl
  have c4_7 := hk4.cell (i := 7) rfl
  have c4_8 := hk4.cell (i := 8) rfl
  have c4_9 := hk4.cell (i := 9) rfl
  have c4_10 := hk4.cell (i := 10) rfl
  have c4_11 := hk4.cell (i := 11) rfl
  have c4_12 := hk4.cell (i := 12) rfl
  have c4_13 := hk4.cell (i := 13) rfl
  have c4_14 := hk4.cell (i := 14) rfl
  clear hb4 hk4 c3_0 c3_1 c3_2 c3_3 c3_4 c3_5 c3_6 c3_7 c3_8 c3_9 c3_10 c3_11 c3_12 c3_13 c3_14
  go_wp2_with fail
  refine (HC4.out _ HX4.out).mono ?_
  rintro e w5 ⟨rfl, hb5⟩
  have HX5 := hid (bt' HX4.out hb5)
  have hk5 := HK.out.below HX5.out HK.out.lt
  have c5_0 := hk5.cell (i := 0) rfl
  have c5_1 := hk5.cell (i := 1) rfl
  have c5_2 := hk5.cell (i := 2) rfl
  have c5_3 := hk5.cell (i := 3) rfl
  have c5_4 := hk5.cell (i := 4) rfl
  have c5_5 := hk5.cell (i := 5) rfl
  have c5_6 := hk5.cell (i := 6) rfl
  have c5_7 := hk5.cell (i := 7) rfl
  have c5_8 := hk5.cell (i := 8) rfl
  have c5_9 := hk5.cell (i := 9) rfl
  have c5_10 := hk5.cell (i := 10) rfl
  have c5_11 := hk5.cell (i := 11) rfl
  have c5_12 := hk5.cell (i := 12) rfl
  have c5_13 := hk5.cell (i := 13) rfl
  have c5_14 := hk5.cell (i := 14) rfl
  clear hb5 hk5 c4_0 c4_1 c4_2 c4_3 c4_4 c4_5 c4_6 c4_7 c4_8 c4_9 c4_10 c4_11 c4_12 c4_13 c4_14
  go_wp2_with fail
  refine (HC5.out _ HX5.out).mono ?_
  rintro e w6 ⟨rfl, hb6⟩
  have HX6 := hid (bt' HX5.out hb6)
  have hk6 := HK.out.below HX6.out HK.out.lt
  have c6_0 := hk6.cell (i := 0) rfl
  have c6_1 := hk6.cell (i := 1) rfl
  have c6_2 := hk6.cell (i := 2) rfl
  have c6_3 := hk6.cell (i := 3) rfl
  have c6_4 := hk6.cell (i := 4) rfl
  have c6_5 := hk6.cell (i := 5) rfl
  have c6_6 := hk6.cell (i := 6) rfl
  have c6_7 := hk6.cell (i := 7) rfl
  have c6_8 := hk6.cell (i := 8) rfl
  have c6_9 := hk6.cell (i := 9) rfl
  have c6_10 := hk6.cell (i := 10) rfl
  have c6_11 := hk6.cell (i := 11) rfl
  have c6_12 := hk6.cell (i := 12) rfl
  have c6_13 := hk6.cell (i := 13) rfl
  have c6_14 := hk6.cell (i := 14) rfl
  clear hb6 hk6 c5_0 c5_1 c5_2 c5_3 c5_4 c5_5 c5_6 c5_7 c5_8 c5_9 c5_10 c5_11 c5_12 c5_13 c5_14
  go_wp2_with fail
  refine (HC6.out _ HX6.out).mono ?_
  rintro e w7 ⟨rfl, hb7⟩
  have HX7 := hid (bt' HX6.out hb7)
  have hk7 := HK.out.below HX7.out HK.out.lt
  have c7_0 := hk7.cell (i := 0) rfl
  have c7_1 := hk7.cell (i := 1) rfl
  have c7_2 := hk7.cell (i := 2) rfl
  have c7_3 := hk7.cell (i := 3) rfl
  have c7_4 := hk7.cell (i := 4) rfl
  have c7_5 := hk7.cell (i := 5) rfl
  have c7_6 := hk7.cell (i := 6) rfl
  have c7_7 := hk7.cell (i := 7) rfl
  have c7_8 := hk7.cell (i := 8) rfl
  have c7_9 := hk7.cell (i := 9) rfl
  have c7_10 := hk7.cell (i := 10) rfl
  have c7_11 := hk7.cell (i := 11) rfl
  have c7_12 := hk7.cell (i := 12) rfl
  have c7_13 := hk7.cell (i := 13) rfl
  have c7_14 := hk7.cell (i := 14) rfl
  clear hb7 hk7 c6_0 c6_1 c6_2 c6_3 c6_4 c6_5 c6_6 c6_7 c6_8 c6_9 c6_10 c6_11 c6_12 c6_13 c6_14
  go_wp2_with fail
  refine (HC7.out _ HX7.out).mono ?_
  rintro e w8 ⟨rfl, hb8⟩
  have HX8 := hid (bt' HX7.out hb8)
  have hk8 := HK.out.below HX8.out HK.out.lt
  have c8_0 := hk8.cell (i := 0) rfl
  have c8_1 := hk8.cell (i := 1) rfl
  have c8_2 := hk8.cell (i := 2) rfl
  have c8_3 := hk8.cell (i := 3) rfl
  have c8_4 := hk8.cell (i := 4) rfl
  have c8_5 := hk8.cell (i := 5) rfl
  have c8_6 := hk8.cell (i := 6) rfl
  have c8_7 := hk8.cell (i := 7) rfl
  have c8_8 := hk8.cell (i := 8) rfl
  have c8_9 := hk8.cell (i := 9) rfl
  have c8_10 := hk8.cell (i := 10) rfl
  have c8_11 := hk8.cell (i := 11) rfl
  have c8_12 := hk8.cell (i := 12) rfl
  have c8_13 := hk8.cell (i := 13) rfl
  have c8_14 := hk8.cell (i := 14) rfl
  clear hb8 hk8 c7_0 c7_1 c7_2 c7_3 c7_4 c7_5 c7_6 c7_7 c7_8 c7_9 c7_10 c7_11 c7_12 c7_13 c7_14
  go_wp2_with fail
  refine (HC8.out _ HX8.out).mono ?_
  rintro e w9 ⟨rfl, hb9⟩
  have HX9 := hid (bt' HX8.out hb9)
  have hk9 := HK.out.below HX9.out HK.out.lt
  have c9_0 := hk9.cell (i := 0) rfl
  have c9_1 := hk9.cell (i := 1) rfl
  have c9_2 := hk9.cell (i := 2) rfl
  have c9_3 := hk9.cell (i := 3) rfl
  have c9_4 := hk9.cell (i := 4) rfl
  have c9_5 := hk9.cell (i := 5) rfl
  have c9_6 := hk9.cell (i := 6) rfl
  have c9_7 := hk9.cell (i := 7) rfl
  have c9_8 := hk9.cell (i := 8) rfl
  have c9_9 := hk9.cell (i := 9) rfl
  have c9_10 := hk9.cell (i := 10) rfl
  have c9_11 := hk9.cell (i := 11) rfl
  have c9_12 := hk9.cell (i := 12) rfl
  have c9_13 := hk9.cell (i := 13) rfl
  have c9_14 := hk9.cell (i := 14) rfl
  clear hb9 hk9 c8_0 c8_1 c8_2 c8_3 c8_4 c8_5 c8_6 c8_7 c8_8 c8_9 c8_10 c8_11 c8_12 c8_13 c8_14
  go_wp2_with fail
  refine (HC9.out _ HX9.out).mono ?_
  rintro e w10 ⟨rfl, hb10⟩
  have HX10 := hid (bt' HX9.out hb10)
  go_wp2
  go_ret
  exact ⟨rfl, bt' HB.out HX10.out⟩
end Go.Proofs.YtfmnbehopdmahaaGreat
