/-
  Do of the document's machine that makes an order.
-/
import Derived.Test.YtfokmldfnkonpaaSdC
namespace Go.Proofs.Ytfokmldfnkonpaa
open Go.RowKit Go.Maps

theorem wp_share1 {P : Program} {id : Nat} {ops : Array Oper} {b : Bool} {Q : Exit → Act → World → Prop} {a : Act} {w : World} {A : Nat → Act} {S : Nat → World → Prop}
    (h1 : (Code.region id ops b).wp P (NoPanic (fun e a w => ∃ q, e = .normal ∧ a = A q ∧ S q w)) a w) (h2 : ∀ q w, S q w → Q .normal (A q) w) : (Code.region id ops b).wp P Q a w :=
  Code.wp_mono (fun e a w h => by
    cases e with
    | panic c => exact (h : False).elim
    | _ =>
      obtain ⟨q, e1, rfl, h3⟩ := h
      first | (cases e1; done) | exact h2 q _ h3) h1
/-- One order more in the document's row. -/
theorem rf_app {B : Nat} {W9 w4 W : World} {p : Nat} {v v' : Value} {g : Sm} {x : OrM} {xs : List OrM} {e : En} (h : RfM B W9 p v g) (hB : B ≤ W9.heap.size) (hx : OrLow B W9 x) (hxe : x.e = newO g e) (hxs : xs.map OrM.e = g.os) (hlow : ∀ y ∈ xs, OrLow B W9 y) (hway : wayO g e = 5) (hs : ScO W9 w4) (hown : w4.ownsRow W9.heap.size 32 5 v' (g.os.length + 1) (flatO (xs ++ [x]))) (hW : W = w4.setCell ⟨p, 0, none⟩ v') :
    RfM B W p v' ⟨g.os ++ [newO g e], g.dn⟩ ∧ Turns (fun i => i = p) W9 W ∧ ∃ k, v'.ownBlock = some k ∧ W9.heap.size ≤ k := by
  have hok : SmOk ⟨g.os ++ [newO g e], g.dn⟩ := by
    have := doS_ok h.ok e
    rw [doS_way5 hway] at this
    exact dn_ok this _
  have hplt : p < W9.heap.size := h.blk.lt
  have t1 : Turns (fun i => i = p) w4 W := by rw [hW]; exact (Turns.refl (fun i => i = p) w4).setCell (p := ⟨p, 0, none⟩) (.inl rfl) _
  have t2 : Turns (fun i => i = p) W9 W := (Turns.of_below (F := fun i => i = p) hs.out (Nat.le_refl _)).trans t1 (fun i hi => .inl hi)
  have hp4 : Blk w4 p 28 [v, .int .i64 g.dn] := h.blk.below hs.out hplt
  refine ⟨⟨hok, ?_, ⟨xs ++ [x], by simp [hxs, hxe], ?_, fun y hy => ?_⟩, h.bp⟩, t2, ?_⟩
  · rw [hW]
    exact hp4.set 0 v'
  · have h1 := t1.row (ownsRow_base hown hB) (fun k hk e => by have := (hown.lt k hk).1; omega)
    simpa using h1
  · have hF : ∀ i, i = p → B ≤ i := fun i hi => by rw [hi]; exact h.bp
    rcases List.mem_append.1 hy with h1 | h1
    · exact (hlow y h1).turned hF t2
    · simp at h1
      subst h1
      exact hx.turned hF t2
  · rcases hown.2 with ⟨_, h0⟩ | ⟨k, cap, cur, rfl, hk, _⟩
    · omega
    · exact ⟨k, rfl, hk⟩
set_option maxRecDepth 1000000 in
set_option maxHeartbeats 2000000 in
theorem RfM.do5 {B : Nat} {w : World} {p : Nat} {v : Value} {g : Sm} (h : RfM B w p v g) (hB : B ≤ w.heap.size) (hdn : g.dn ≤ 4611686018427387904) (np : Bool) (tk ct : ByteArray) (ep : Int) (dp : List Int) (ao1 : Option Addr) (cap1 : Nat) (hx : EnOk w ⟨⟨np, tk, ct, ep, dp⟩, ao1, cap1⟩) (hxb : ∀ b off, ao1 = some ⟨b, off, none⟩ → dp ≠ [] → b < B) (hr : RightEn ⟨np, tk, ct, ep, dp⟩ = true) (hn : np = false) (hf : findO tk g.os = none) (he : ep = (cntO ct g.os : Int)) (hl : ¬ 65536 ≤ g.os.length) :
    Calls Try.prog 11 #[.pointer (some ⟨p, 0, none⟩), .agg #[.bool np, .string tk, .string ct, .int .i64 ep, .slice ao1 dp.length cap1]] w (DoL B w p v g ⟨np, tk, ct, ep, dp⟩) := by
  obtain ⟨zs, ao, cap, hv, _, hz1, hzh, hzl⟩ := h.rowAt
  have HV0 := hid hv
  clear hv
  clear hz1 hzh hzl
  subst hn
  obtain ⟨XN, HXN⟩ : ∃ m, Hid (dp.length = m) := ⟨_, hid rfl⟩
  obtain ⟨W0, hW0⟩ : ∃ W, W = w.alloc (.cells #[.bool false, .string tk, .string ct, .int .i64 ep, .slice ao1 XN cap1] 39) := ⟨_, rfl⟩
  obtain ⟨W, hW⟩ : ∃ W, W = W0.alloc (.cells #[.int .i64 0, .string ⟨#[]⟩, .string ⟨#[]⟩, .int .i64 0, .slice none 0 0] 32) := ⟨_, rfl⟩
  have hz0 : W0.heap.size = w.heap.size + 1 := by rw [hW0]; simp
  have hb0 : Below w.heap.size w W0 := by rw [hW0]; exact (Below.refl _ _).alloc (Nat.le_refl _) _
  have HB : Hid (Below w.heap.size w W) := by rw [hW]; exact hb0.alloc hb0.size _
  have HK : Hid (Blk W w.heap.size 39 [.bool false, .string tk, .string ct, .int .i64 ep, .slice ao1 XN cap1]) := by rw [hW, hW0]; exact (Blk.new w _ _).alloc _
  have HR : Hid (Blk W (w.heap.size + 1) 32 [.int .i64 0, .string ⟨#[]⟩, .string ⟨#[]⟩, .int .i64 0, .slice none 0 0]) := by rw [hW, ← hz0]; exact Blk.new W0 _ _
  have HW : Hid (W = (w.alloc (.cells #[.bool false, .string tk, .string ct, .int .i64 ep, .slice ao1 XN cap1] 39)).alloc (.cells #[.int .i64 0, .string ⟨#[]⟩, .string ⟨#[]⟩, .int .i64 0, .slice none 0 0] 32)) := by show _ = _; rw [hW, hW0]
  obtain ⟨q, hq⟩ : ∃ q, q = w.heap.size := ⟨_, rfl⟩
  have HQ := hid hq
  rw [← hq] at HK HR
  have H := hid h
  have HBQ : Hid (B ≤ q) := by rw [hq]; exact hB
  have HS := hid (h.below HB.out)
  have HX := hid hx
  have HMAY := hid (rentry_any W ⟨⟨false, tk, ct, ep, dp⟩, ao1, cap1⟩ (hx.below HB.out))
  have HLQ : Hid (∀ i, FootN p v i → i < q) := fun i hi => by rw [HQ.out]; exact h.lt i hi
  simp only [EnM.val] at HMAY
  rw [HXN.out] at HMAY
  rw [HXN.out]
  have c0 := HK.out.cell (i := 0) rfl
  have c1 := HK.out.cell (i := 1) rfl
  have c2 := HK.out.cell (i := 2) rfl
  have c3 := HK.out.cell (i := 3) rfl
  have c4 := HK.out.cell (i := 4) rfl
  rw [HW.out] at c0 c1 c2 c3 c4
  have HD0 := hid hdn
  have HWY : Hid (wayO g ⟨false, tk, ct, ep, dp⟩ = 5) := way5 hr rfl hf he hl
  have HFO := hid hf
  obtain ⟨cn, HCN⟩ : ∃ c : Nat, Hid (cntO ct g.os = c) := ⟨_, hid rfl⟩
  have hbn : (ep != (cn : Int)) = false := by rw [← HCN.out]; simpa using he
  obtain ⟨N, HN⟩ : ∃ N, Hid (g.os.length = N) := ⟨_, hid rfl⟩
  have HLE : Hid (N < 65536) := by rw [← HN.out]; show _ < _; omega
  have hle : decide ((65536 : Int) ≤ (N : Int)) = false := by rw [← HN.out]; exact decide_eq_false (by omega)
  have HXB := hid hxb
  rw [hr] at HMAY
  clear h hx hB hdn hW hW0 hz0 hb0 hq hr hf he hl hxb
  go_enter Try.func11, Try.ntmps11
  rw [HQ.out] at c0 c1 c2 c3 c4
  go_wp2_with fail
  rw [← HW.out, ← HQ.out]
  refine HMAY.out.mono ?_
  rintro e w2 ⟨rfl, hb2⟩
  have HB2 := hid (bt' HB.out hb2)
  have HS2 := hid (HS.out.below hb2)
  have HK2 := hid (HK.out.below hb2 HK.out.lt)
  have HR2 := hid (HR.out.below hb2 HR.out.lt)
  have HTW2 : Hid (Turns (FootN p v) w w2) := Turns.of_below HB2.out (Nat.le_refl _)
  clear c0 c1 c2 c3 c4 hb2
  have a3 := HS2.out.blk.cell (i := 1) rfl
  have y3 := HS2.out.blk.frozen 1
  obtain ⟨DN, HDN⟩ : ∃ d, Hid (g.dn = d) := ⟨_, hid rfl⟩
  rw [HDN.out] at a3
  have hadd : wrap64 ((DN : Int) + 1) = (DN : Int) + 1 := by have := HD0.out; rw [HDN.out] at this; exact wrapO (by omega) (by omega)
  obtain ⟨W5, hW5⟩ : ∃ V, V = w2.setCell ⟨p, 1, none⟩ (.int .i64 ((DN : Int) + 1)) := ⟨_, rfl⟩
  have HW5 := hid hW5
  have HSB := hid (HS2.out.bump (w' := W5) (by rw [HDN.out]; exact hW5))
  have HS5 := hid HSB.out.1
  have HT5 : Hid (Turns (FootN p v) w W5) := HTW2.out.trans HSB.out.2 (fun i hi => .inl (.inl hi))
  have HPQ : Hid (p < q) := HLQ.out p (.inl rfl)
  have HK5 := hid (HSB.out.2.blk HK2.out (fun e => by have := HPQ.out; omega))
  have HR5 := hid (HSB.out.2.blk HR2.out (fun e => by have := HPQ.out; omega))
  have k0 := HK5.out.cell (i := 0) rfl
  have k1 := HK5.out.cell (i := 1) rfl
  have k2 := HK5.out.cell (i := 2) rfl
  have k3 := HK5.out.cell (i := 3) rfl
  have k4 := HK5.out.cell (i := 4) rfl
  have HB5 : Hid (B ≤ W5.heap.size) := Nat.le_trans (Nat.le_trans HBQ.out (by rw [HQ.out]; exact Nat.le_refl _)) HT5.out.size
  rw [hW5] at k0 k1 k2 k3 k4
  clear hW5
  have HTK : Hid (Calls Try.prog 17 #[.pointer (some ⟨p, 0, none⟩), .string tk] W5 fun e w' => ∃ bo cp, e = .returned (.tuple #[.agg #[.int .i64 0, .string ⟨#[]⟩, .string ⟨#[]⟩, .int .i64 0, .slice bo 0 cp], .bool false]) ∧ Below W5.heap.size W5 w') := by
    have h1 := HS5.out.token HB5.out tk
    simp only at h1
    rw [HFO.out] at h1
    refine h1.mono ?_
    rintro e w' ⟨bo, cp, rfl, _, _, h4⟩
    exact ⟨bo, cp, rfl, h4⟩
  clear HSB
  go_wp2_with fail
  rw [← HW5.out]
  refine HTK.out.mono ?_
  rintro e w6 ⟨bo, cp, rfl, hb6⟩
  obtain ⟨W7, hW7⟩ : ∃ V, V = w6.alloc (.cells #[.int .i64 0, .string ⟨#[]⟩, .string ⟨#[]⟩, .int .i64 0, .slice bo 0 cp] 32) := ⟨_, rfl⟩
  have hb7 : Below w6.heap.size w6 W7 := by rw [hW7]; exact (Below.refl _ _).alloc (Nat.le_refl _) _
  have hb57 := bt' hb6 hb7
  have HS7 := hid (HS5.out.below hb57)
  have HR7 := hid (HR5.out.below hb57 HR5.out.lt)
  have HK7 := hid (HK5.out.below hb57 HK5.out.lt)
  have HT7 : Hid (Turns (FootN p v) w W7) := HT5.out.trans (Turns.of_below (F := fun _ => False) hb57 (Nat.le_refl _)) (fun _ h => h.elim)
  have HW7 := hid hW7
  clear hb6 hb7 hb57 hW7
  go_wp2
  rw [← HW7.out]
  have j1 := HK7.out.cell (i := 1) rfl
  have j2 := HK7.out.cell (i := 2) rfl
  have j3 := HK7.out.cell (i := 3) rfl
  have HEPO : Hid (∀ n, Calls Try.prog 21 #[.pointer (some ⟨p, 0, none⟩), .string ct] (W7.drewN n) fun e w' => e = .returned (.int .i64 cn) ∧ w' = W7.drewN n) := fun n => by
    have h1 := (HS7.out.below (below_dn (Below.refl _ _) n)).epoch ct
    simp only at h1
    rw [HCN.out] at h1
    exact h1
  go_quiet (first | (go_at_call 21; refine Calls.quiet_of_same (HEPO.out _)))
  obtain ⟨W8, hW8⟩ : ∃ V, V = W7.drewN nq := ⟨_, rfl⟩
  have hb8 : Below W7.heap.size W7 W8 := by rw [hW8]; exact below_dn (Below.refl _ _) nq
  have HS8 := hid (HS7.out.below hb8)
  have HR8 := hid (HR7.out.below hb8 HR7.out.lt)
  have HK8 := hid (HK7.out.below hb8 HK7.out.lt)
  have HT8 : Hid (Turns (FootN p v) w W8) := HT7.out.trans (Turns.of_below (F := fun _ => False) hb8 (Nat.le_refl _)) (fun _ h => h.elim)
  rw [← hW8]
  have j1 := HK8.out.cell (i := 1) rfl
  have j2 := HK8.out.cell (i := 2) rfl
  have j3 := HK8.out.cell (i := 3) rfl
  clear hW8 hb8
  have a0 := HS8.out.blk.cell (i := 0) rfl
  rw [HV0.out, HN.out] at a0
  have j4 := HK8.out.cell (i := 4) rfl
  have hwi : IntKind.i64.wrap ((N : Int) + 1) = (N : Int) + 1 := addO HLE.out
  have HSA : Hid (∀ V, ScO W8 V → (ScO W8 V ∧ V.cell? ⟨p, 0, none⟩ = some (.slice ao N cap) ∧ V.cell? ⟨q, 1, none⟩ = some (.string tk) ∧ V.cell? ⟨q, 2, none⟩ = some (.string ct) ∧ V.cell? ⟨q, 3, none⟩ = some (.int .i64 ep) ∧ V.cell? ⟨q, 4, none⟩ = some (.slice ao1 XN cap1))) := fun V hV => by
    have h1 := HK8.out.below hV.out HK8.out.lt
    have h2 := (HS8.out.blk.below hV.out HS8.out.blk.lt).cell (i := 0) rfl
    rw [HV0.out, HN.out] at h2
    exact ⟨hV, h2, h1.cell rfl, h1.cell rfl, h1.cell rfl, h1.cell rfl⟩
  go_wp2
  apply wp_share1 (S := fun qo V => Hid (Blk V qo 32 [.int .i64 ((N : Int) + 1), .string tk, .string ct, .int .i64 ep, .slice ao1 XN cap1] ∧ W8.heap.size ≤ qo ∧ Below W8.heap.size W8 V))
  · go_region_held3 (fun V => ScO W8 V ∧ V.cell? ⟨p, 0, none⟩ = some (.slice ao N cap) ∧ V.cell? ⟨q, 1, none⟩ = some (.string tk) ∧ V.cell? ⟨q, 2, none⟩ = some (.string ct) ∧ V.cell? ⟨q, 3, none⟩ = some (.int .i64 ep) ∧ V.cell? ⟨q, 4, none⟩ = some (.slice ao1 XN cap1))
      ((refine HSA.out _ ?_; (repeat (first | with_reducible assumption | exact ScO.start _ | apply ScO.dr | apply ScO.alloc | refine ScO.set ?_ _ _ (Nat.le_refl _)))))
      (fail)
    all_goals
      have hM : Hid (Blk (W8.alloc (.cells #[.int .i64 ((N : Int) + 1), .string tk, .string ct, .int .i64 ep, .slice ao1 XN cap1] 32)).drew W8.heap.size 32 [.int .i64 ((N : Int) + 1), .string tk, .string ct, .int .i64 ep, .slice ao1 XN cap1] ∧ W8.heap.size ≤ W8.heap.size ∧ Below W8.heap.size W8 (W8.alloc (.cells #[.int .i64 ((N : Int) + 1), .string tk, .string ct, .int .i64 ep, .slice ao1 XN cap1] 32)).drew) := ⟨(Blk.new W8 _ _).drew, Nat.le_refl _, ((Below.refl W8.heap.size W8).alloc (Nat.le_refl _) _).drew⟩
      generalize ((W8.alloc (.cells #[.int .i64 ((N : Int) + 1), .string tk, .string ct, .int .i64 ep, .slice ao1 XN cap1] 32)).drew) = V at hM ⊢
      generalize W8.heap.size = qq at hM ⊢
      exact NoPanic.normal ⟨qq, rfl, rfl, hM⟩
  rintro qo W9 H9
  obtain ⟨hk9, hq9, hb9⟩ := H9.out
  have HKO := hid hk9
  have HQ9 := hid hq9
  have HB9 := hid hb9
  have HS9 := hid (HS8.out.below hb9)
  have HR9 := hid (HR8.out.below hb9 HR8.out.lt)
  have HT9 : Hid (Turns (FootN p v) w W9) := HT8.out.trans (Turns.of_below (F := fun _ => False) hb9 (Nat.le_refl _)) (fun _ h => h.elim)
  obtain ⟨xs, hx1, hx2, hx3⟩ := HS9.out.row
  have HX1 := hid hx1
  have HX3 := hid hx3
  have HXL : Hid (xs.length = N) := by rw [← HN.out]; have h1 := congrArg List.length hx1; show _ = _; simpa using h1
  obtain ⟨ao', cap', hv', _, hxh⟩ := heldOr_of_own (by rw [HXL.out, HN.out] : xs.length = g.os.length) hx2
  have hae : ao' = ao := by have h1 := HV0.out.symm.trans hv'; injection h1 with h1; exact h1.symm
  subst hae
  have HXH := hid hxh
  have HBP := hid (HS9.out.blk)
  rw [HV0.out, HN.out] at HBP
  have HXS : Hid (∀ V, ScO W9 V → HeldOr V ao' xs) := fun V hV => HXH.out.below hV.out
  have hn0 : N ≤ 100000000 := by have := HLE.out; omega
  have hnn : N + 1 ≤ 100000000 := by have := HLE.out; omega
  have HXO : Hid (OrLow B W9 ⟨⟨(N : Int) + 1, tk, ct, ep, dp⟩, ao1, cap1⟩) := ⟨⟨⟨HX.out.cut.held.turned HT9.out (fun b off e hne hf => by have h1 := HXB.out b off e hne; have h2 := H.out.base b hf; omega), HX.out.cut.room, HX.out.cut.few⟩, i64O HLE.out, HX.out.ie, HX.out.ht, HX.out.hc⟩, HXB.out⟩
  obtain ⟨X, hX⟩ : ∃ X : OrM, X = ⟨⟨(N : Int) + 1, tk, ct, ep, dp⟩, ao1, cap1⟩ := ⟨_, rfl⟩
  have HXC : Hid (X.cells = [.int .i64 ((N : Int) + 1), .string tk, .string ct, .int .i64 ep, .slice ao1 XN cap1]) := by rw [hX]; simp only [OrM.cells]; rw [HXN.out]; exact rfl
  rw [← hX] at HXO
  have HXE : Hid (X.e = newO g ⟨false, tk, ct, ep, dp⟩) := by rw [hX]; unfold newO; rw [HN.out]; exact rfl
  have HH3 : Hid (∀ V : World, HeldOr (V.alloc (.cells #[.int .i64 ((N : Int) + 1), .string tk, .string ct, .int .i64 ep, .slice ao1 XN cap1] 32)) (some ⟨V.heap.size, 0, none⟩) [X]) := fun V => by
    have h1 := held_newO V X
    rw [HXC.out] at h1
    exact h1
  have HH1 : Hid (HeldOr ((W9.alloc (.cells #[.int .i64 ((N : Int) + 1), .string tk, .string ct, .int .i64 ep, .slice ao1 XN cap1] 32)).alloc (.cells #[] 32)).drew (some ⟨W9.heap.size, 0, none⟩) [X]) := (HH3.out W9).below (((Below.refl _ (W9.alloc (.cells #[.int .i64 ((N : Int) + 1), .string tk, .string ct, .int .i64 ep, .slice ao1 XN cap1] 32))).alloc (Nat.le_refl _) (.cells #[] 32)).drew)
  have HH2 : Hid (HeldOr ((W9.alloc (.cells #[] 32)).alloc (.cells #[.int .i64 ((N : Int) + 1), .string tk, .string ct, .int .i64 ep, .slice ao1 XN cap1] 32)).drew (some ⟨W9.heap.size + 1, 0, none⟩) [X]) := by
    have h1 := HH3.out (W9.alloc (.cells #[] 32))
    rw [World.size_alloc] at h1
    exact h1.below (Below.refl _ _).drew
  have hp0 := HBP.out.cell (i := 0) rfl
  have hp1 := (HBP.out.alloc (.cells #[] 32)).cell (i := 0) rfl
  have hp2 := (HBP.out.alloc (.cells #[.int .i64 ((N : Int) + 1), .string tk, .string ct, .int .i64 ep, .slice ao1 XN cap1] 32)).cell (i := 0) rfl
  have hp3 := ((HBP.out.alloc (.cells #[] 32)).alloc (.cells #[.int .i64 ((N : Int) + 1), .string tk, .string ct, .int .i64 ep, .slice ao1 XN cap1] 32)).cell (i := 0) rfl
  have hp4 := ((HBP.out.alloc (.cells #[.int .i64 ((N : Int) + 1), .string tk, .string ct, .int .i64 ep, .slice ao1 XN cap1] 32)).alloc (.cells #[] 32)).cell (i := 0) rfl
  have o0 := hk9.cell (i := 0) rfl
  have o1 := hk9.cell (i := 1) rfl
  have o2 := hk9.cell (i := 2) rfl
  have o3 := hk9.cell (i := 3) rfl
  have o4 := hk9.cell (i := 4) rfl
  have n0 := (hk9.alloc (.cells #[] 32)).cell (i := 0) rfl
  have n1 := (hk9.alloc (.cells #[] 32)).cell (i := 1) rfl
  have n2 := (hk9.alloc (.cells #[] 32)).cell (i := 2) rfl
  have n3 := (hk9.alloc (.cells #[] 32)).cell (i := 3) rfl
  have n4 := (hk9.alloc (.cells #[] 32)).cell (i := 4) rfl
  clear hk9 hq9 hb9 hx1 hx2 hx3 hv' hxh hX H9 a0 j1 j2 j3 j4 hwi HSA
  go_wp2
  go_region_law (first
      | (refine step_copy_or rfl _ _ rfl W9.heap.size _ rfl ?_ ao' N cap xs HXL.out rfl ?_ hn0 ?_ ?_
         · first | exact ownO_made W9 _ (Nat.le_refl _) | exact (ownO_made W9 _ (Nat.le_refl _)).alloc _ | exact ownO_made2 W9 _ _ (Nat.le_refl _)
         · refine HXS.out _ ?_; (repeat (first | assumption | exact ScO.start _ | apply ScO.dr | apply ScO.alloc))
         · refine ScO.size ?_; (repeat (first | assumption | exact ScO.start _ | apply ScO.dr | apply ScO.alloc))
         intro b3 c3 w3 hown3 hb3 hg3
         have hsc3 : ScO W9 w3 := ScO.grown (by (repeat (first | assumption | exact ScO.start _ | apply ScO.dr | apply ScO.alloc))) hb3
         have hko3 := HKO.out.below hsc3.out HKO.out.lt
         have m0 := hko3.cell (i := 0) rfl
         have m1 := hko3.cell (i := 1) rfl
         have m2 := hko3.cell (i := 2) rfl
         have m3 := hko3.cell (i := 3) rfl
         have m4 := hko3.cell (i := 4) rfl
         first
           | have hX3 := held_grownO (show HeldOr _ (some ⟨W9.heap.size, 0, none⟩) [X] from HH1.out) hg3 (by simp)
           | have hX3 := held_grownO (show HeldOr _ (some ⟨W9.heap.size + 1, 0, none⟩) [X] from HH2.out) hg3 (by simp)
           | skip
         clear hb3 hg3 hko3)
      | (refine step_append_or rfl _ _ rfl W9.heap.size _ N xs HXL.out rfl ?_ _ 1 1 [X] rfl rfl ?_ hnn ?_ ?_
         · first | exact hown3 | exact hown3.alloc _
         · first | exact hX3 | exact HH3.out _
         · refine ScO.size ?_; (repeat (first | assumption | exact ScO.start _ | apply ScO.dr | apply ScO.alloc))
         intro b4 c4 w4 hown4 hb4 hg4
         have hsc4 : ScO W9 w4 := ScO.grown (by (repeat (first | assumption | exact ScO.start _ | apply ScO.dr | apply ScO.alloc))) hb4
         have hpk4 := HBP.out.below hsc4.out HBP.out.lt
         have s0 := hpk4.cell (i := 0) rfl
         have s1 := hpk4.frozen 0
         clear hb4 hg4 hpk4))
  all_goals
    clear hp0 hp1 hp2 hp3 hp4 o0 o1 o2 o3 o4 n0 n1 n2 n3 n4
    (try clear m0 m1 m2 m3 m4)
    clear s0 s1
    obtain ⟨W10, hW10⟩ : ∃ V, V = w4.setCell ⟨p, 0, none⟩ (.slice b4 (N + 1) c4) := ⟨_, rfl⟩
    have hs4 := hsc4
    rw [← hW10]
    have HAP := hid (rf_app (x := X) HS9.out (Nat.le_trans HBQ.out (by have := HT9.out.size; have := HQ.out; omega)) HXO.out HXE.out HX1.out HX3.out HWY.out hs4 (by show w4.ownsRow _ _ _ _ (g.os.length + 1) _; rw [HN.out]; exact hown4) hW10)
    have HS10 := hid HAP.out.1
    have HT10 : Hid (Turns (FootN p v) w W10) := HT9.out.trans HAP.out.2.1 (fun i hi => .inl (.inl hi))
    have hr7 := HAP.out.2.1.blk HR9.out (fun e => by have := HLQ.out p (.inl rfl); omega)
    have HKX : Hid (Blk W10 qo 32 [.int .i64 ((N : Int) + 1), .string tk, .string ct, .int .i64 ep, .slice ao1 XN cap1]) := HAP.out.2.1.blk HKO.out (fun e => by have h1 := HLQ.out p (.inl rfl); have h2 := HQ9.out; have h3 := HR8.out.lt; omega)
    have l0 := HKX.out.cell (i := 0) rfl
    have l1 := HKX.out.cell (i := 1) rfl
    have l2 := HKX.out.cell (i := 2) rfl
    have l3 := HKX.out.cell (i := 3) rfl
    have l4 := HKX.out.cell (i := 4) rfl
    have r0z := hr7.cell (i := 0) rfl
    have r1z := hr7.cell (i := 1) rfl
    have r2z := hr7.cell (i := 2) rfl
    have r3z := hr7.cell (i := 3) rfl
    have r4z := hr7.cell (i := 4) rfl
    have q0z := hr7.frozen 0
    have q1z := hr7.frozen 1
    have q2z := hr7.frozen 2
    have q3z := hr7.frozen 3
    have q4z := hr7.frozen 4
    obtain ⟨W3, hW3⟩ : ∃ V, V = st5 W10 (q + 1) (.int .i64 ((N : Int) + 1)) (.string tk) (.string ct) (.int .i64 ep) (.slice ao1 XN cap1) := ⟨_, rfl⟩
    have hk9z : Blk W3 (q + 1) 32 [.int .i64 ((N : Int) + 1), .string tk, .string ct, .int .i64 ep, .slice ao1 XN cap1] := by rw [hW3]; exact st5_blk hr7 _ _ _ _ _
    have HT9z : Hid (Turns (fun i => i = (q + 1)) W10 W3) := by rw [hW3]; exact st5_turns _ _ _ _ _ _ _
    have k0z := hk9z.cell (i := 0) rfl
    have k1z := hk9z.cell (i := 1) rfl
    have k2z := hk9z.cell (i := 2) rfl
    have k3z := hk9z.cell (i := 3) rfl
    have k4z := hk9z.cell (i := 4) rfl
    have HNF : Hid (¬ FootN p (.slice b4 (N + 1) c4) (q + 1)) := fun hf => by
      rcases hf with e | e
      · have := HLQ.out p (.inl rfl); omega
      · obtain ⟨k, hk1, hk2⟩ := HAP.out.2.2
        rw [hk1] at e
        have e1 : k = q + 1 := by simpa using e
        have := HR9.out.lt
        omega
    have HFI := hid (do_finR HS10.out HT10.out (by have := HQ.out; omega) (by have := HBQ.out; omega) HNF.out HT9z.out)
    have HPO : Hid (∀ e, e = Ending.returned (.tuple #[.agg #[.int .i64 ((N : Int) + 1), .string tk, .string ct, .int .i64 ep, .slice ao1 XN cap1], .bool true, .int .i64 0]) → DoL B w p v g ⟨false, tk, ct, ep, dp⟩ e W3) := fun e he => by
      have hdr : doR g ⟨false, tk, ct, ep, dp⟩ = newO g ⟨false, tk, ct, ep, dp⟩ := by unfold doR; rw [HWY.out, if_neg (by decide), if_pos rfl]
      have hXw : OrLow B W3 X := (HXO.out.turned (fun i hi => by rw [hi]; exact H.out.bp) HAP.out.2.1).turned (fun i hi => by have := HBQ.out; omega) HT9z.out
      obtain ⟨k, hk1, hk2⟩ := HAP.out.2.2
      have hxc : HV W3 X.ao X.cap (newO g ⟨false, tk, ct, ep, dp⟩).cut := by rw [← HXE.out]; exact hXw.ok.cut
      refine ⟨X.ao, X.cap, .slice b4 (N + 1) c4, ?_, by rw [hdr]; exact hxc, ?_, ?_, HFI.out.2, .inr ⟨k, hk1, by have := HT9.out.size; omega⟩⟩
      · rw [he, hdr, HWY.out]
        have h1 := HXC.out
        have h2 := HXE.out
        simp only [OrM.cells, List.cons.injEq, Value.slice.injEq, and_true] at h1
        simp only [OrM.val, newO]
        rw [HN.out, HXN.out, h1.2.2.2.2.1, h1.2.2.2.2.2.2]
        rfl
      · rw [hdr, ← HXE.out]
        exact hXw.low
      · rw [doS_way5 HWY.out]
        exact HFI.out.1
    clear hr7 hk9z hs4 hW10 hown4 hsc4
    (try clear hown3 hsc3)
    (try clear hX3)
    go_wp2
    unfold st5 at hW3
    rw [← hW3]
    (try simp only [Exit.inBlock, Exit.then])
    refine bodyPost_ret (v := .tuple #[.agg #[.int .i64 ((N : Int) + 1), .string tk, .string ct, .int .i64 ep, .slice ao1 XN cap1], .bool true, .int .i64 0]) ?_ rfl (HPO.out _ rfl)
    rw [results_cell_tmp2 rfl]
    go_simp
end Go.Proofs.Ytfokmldfnkonpaa
