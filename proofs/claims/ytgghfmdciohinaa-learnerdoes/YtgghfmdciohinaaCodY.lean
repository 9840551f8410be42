/-
  Package codec: how a message is written; codec.Msg.
-/
import Derived.Test.YtgghfmdciohinaaCodX
namespace Go.Proofs.Ytgghfmdciohinaa
open Go.RowKit Go.Maps
attribute [local go_sem] Oper.semAt_some

theorem vo_len {x : VoM} (h : VoF x) : (encVo x).length ≤ 300 := by
  unfold encVo
  rw [List.length_append, List.length_append]
  have h1 := enc_le10 (x := x.slot.toNat) (by have := h.s; omega)
  have h2 := bal_len h.b1 h.b2
  have h3 := en_len h.en
  omega
theorem ev_len {e : Ev} (h : EvF e) : (encEvC e).length ≤ 300 := by
  unfold encEvC
  simp only [List.length_append]
  have h1 := enc_le10 (x := e.o.toNat) (by have := h.o; omega)
  have h2 := enc_le10 (x := e.s.toNat) (by have := h.s; omega)
  have h3 := vec_len h.l h.i
  have h4 := text_len h.c
  have h5 := enc_le10 (x := e.epoch.toNat) (by have := h.ep; omega)
  have h6 := text_len h.k
  have h7 := enc_le10 (x := e.qty.toNat) (by have := h.q; omega)
  have h8 : (encBC e.clears).length = 1 := rfl
  omega
/-- A message as bytes. -/
def encMs (x : MsM) : List Int := enc x.kind.toNat ++ enc x.frm.toNat ++ enc x.to.toNat ++ (enc x.bal.1.toNat ++ enc x.bal.2.toNat) ++ enc x.slot.toNat ++ encEn x.en.e ++ encVos x.vs ++ encVC x.seen ++ encEvs x.evs ++ enc x.time.toNat
structure MsF (x : MsM) : Prop where
  k : 0 ≤ x.kind ∧ x.kind ≤ 255
  f : 0 ≤ x.frm ∧ x.frm ≤ 6
  t : 0 ≤ x.to ∧ x.to ≤ 6
  b1 : 0 ≤ x.bal.1 ∧ x.bal.1 ≤ 2147483647
  b2 : 0 ≤ x.bal.2 ∧ x.bal.2 ≤ 6
  s : 0 ≤ x.slot ∧ x.slot ≤ 2147483647
  en : x.en.e.noop = false → SeF x.en.e
  vl : x.vs.length ≤ 4096
  vs : ∀ y ∈ x.vs, VoF y ∧ (encVo y).length ≤ 300
  sl : x.seen.length ≤ 7
  si : InVC x.seen
  el : x.evs.length ≤ 4096
  es : ∀ y ∈ x.evs, EvF y.e ∧ (encEvC y.e).length ≤ 300
  ti : 0 ≤ x.time ∧ x.time ≤ 4611686018427387904
theorem rightMs_iff {x : MsM} (h : RightMs x = true) : MsF x := by
  unfold RightMs RightVs RightEs rightVC at h
  simp only [Bool.and_eq_true, decide_eq_true_eq, List.all_eq_true] at h
  obtain ⟨h1, h2, h3, h4, h5, h6, h7, h8, h9, h10⟩ := h
  exact ⟨h1, h2, h3, (rightBal_iff h4).1, (rightBal_iff h4).2, h5, rightEn_iff h6, h7.1, fun y hy => ⟨rightVo_iff (h7.2 y hy), vo_len (rightVo_iff (h7.2 y hy))⟩, h8.2.1, h8.1, h9.1, fun y hy => ⟨rightEvC_iff (h9.2 y hy), ev_len (rightEvC_iff (h9.2 y hy))⟩, h10⟩
theorem vosl {xs : List VoM} (h : xs.length ≤ 4096) (hi : ∀ y ∈ xs, VoF y ∧ (encVo y).length ≤ 300) : (encVos xs).length ≤ 1300000 := by
  unfold encVos
  rw [List.length_append]
  have h1 := enc_le10 (x := xs.length) (by omega)
  have h2 := vos_len (xs := xs) (fun x hx => (hi x hx).2)
  omega
theorem evsl {xs : List EvM} (h : xs.length ≤ 4096) (hi : ∀ y ∈ xs, EvF y.e ∧ (encEvC y.e).length ≤ 300) : (encEvs xs).length ≤ 1300000 := by
  unfold encEvs
  rw [List.length_append]
  have h1 := enc_le10 (x := xs.length) (by omega)
  have h2 := evs_len (xs := xs) (fun x hx => (hi x hx).2)
  omega
set_option maxRecDepth 100000 in
set_option maxHeartbeats 1000000 in
theorem appendMsg_T (u : Value) (n : Nat) (bs : List Int) (x : MsM) (B : Nat) (w : World) (hf : MsF x) (hx : ∀ V, Below B w V → MsOk V x) (hown : w.ownsRow B 5 1 u n (nums bs)) (hB : B ≤ w.heap.size) (hn : n ≤ 140737300000000) :
    Calls Try.prog 46 #[u, x.val] w (AppP B w n bs (encMs x)) := by
  obtain ⟨kd, fr, to, ⟨b1, b2⟩, sl, ⟨⟨np, tk, ct, ep, cut⟩, ao1, cap1⟩, vo, vc, vs, so, sc, seen, eo, ec, evs, ti⟩ := x
  obtain ⟨f1, f0, f9, f2, f3, f10, f4, f11, f12, f13, f14, f15, f16, f17⟩ := hf
  dsimp only [MsM.val] at f1 f0 f9 f2 f3 f10 f4 f11 f12 f13 f14 f15 f16 f17 ⊢
  have hv : ∀ V, Below B w V → HV V ao1 cap1 cut := fun V hV => (hx V hV).en.cut
  have hv2 : ∀ V, Below B w V → HeldVo V vo vs := fun V hV => (hx V hV).vs
  have hv3 : ∀ V, Below B w V → HV V so sc seen := fun V hV => (hx V hV).seen
  have hv4 : ∀ V, Below B w V → HeldE V eo evs := fun V hV => (hx V hV).evs
  clear hx
  unfold encMs
  dsimp only
  obtain ⟨W, hW⟩ : ∃ W, W = w.alloc (.cells #[.int .i64 kd, .int .i64 fr, .int .i64 to, .int .i64 b1, .int .i64 b2, .int .i64 sl, .bool np, .string tk, .string ct, .int .i64 ep, .slice ao1 cut.length cap1, .slice vo vs.length vc, .slice so seen.length sc, .slice eo evs.length ec, .int .i64 ti] 70) := ⟨_, rfl⟩
  have HB : Hid (StepT B w W) := by rw [hW]; exact ⟨(Below.refl _ _).alloc hB _, (T8.refl w).alloc _⟩
  have HK : Hid (Blk W w.heap.size 70 [.int .i64 kd, .int .i64 fr, .int .i64 to, .int .i64 b1, .int .i64 b2, .int .i64 sl, .bool np, .string tk, .string ct, .int .i64 ep, .slice ao1 cut.length cap1, .slice vo vs.length vc, .slice so seen.length sc, .slice eo evs.length ec, .int .i64 ti]) := by rw [hW]; exact Blk.new w _ _
  have HR0 : Hid (W.ownsRow B 5 1 u n (nums bs)) := by rw [hW]; exact hown.alloc _
  have hBW : B ≤ W.heap.size := Nat.le_trans hB HB.out.bel.size
  have l1 : (enc (kd).toNat).length ≤ 10 := enc_le10 (by omega)
  obtain ⟨a1, HA1⟩ : ∃ a, Hid ((enc (kd).toNat).length = a) := ⟨_, hid rfl⟩
  have m1 : a1 ≤ 10 := by rw [← HA1.out]; exact l1
  have l2 : (enc (fr).toNat).length ≤ 10 := enc_le10 (by omega)
  obtain ⟨a2, HA2⟩ : ∃ a, Hid ((enc (fr).toNat).length = a) := ⟨_, hid rfl⟩
  have m2 : a2 ≤ 10 := by rw [← HA2.out]; exact l2
  have l3 : (enc (to).toNat).length ≤ 10 := enc_le10 (by omega)
  obtain ⟨a3, HA3⟩ : ∃ a, Hid ((enc (to).toNat).length = a) := ⟨_, hid rfl⟩
  have m3 : a3 ≤ 10 := by rw [← HA3.out]; exact l3
  have l4 : (enc b1.toNat ++ enc b2.toNat).length ≤ 20 := bal_len f2 f3
  obtain ⟨a4, HA4⟩ : ∃ a, Hid ((enc b1.toNat ++ enc b2.toNat).length = a) := ⟨_, hid rfl⟩
  have m4 : a4 ≤ 20 := by rw [← HA4.out]; exact l4
  have l5 : (enc (sl).toNat).length ≤ 10 := enc_le10 (by omega)
  obtain ⟨a5, HA5⟩ : ∃ a, Hid ((enc (sl).toNat).length = a) := ⟨_, hid rfl⟩
  have m5 : a5 ≤ 10 := by rw [← HA5.out]; exact l5
  have l6 : (encEn ⟨np, tk, ct, ep, cut⟩).length ≤ 201 := en_len f4
  obtain ⟨a6, HA6⟩ : ∃ a, Hid ((encEn ⟨np, tk, ct, ep, cut⟩).length = a) := ⟨_, hid rfl⟩
  have m6 : a6 ≤ 201 := by rw [← HA6.out]; exact l6
  have l7 : (encVos vs).length ≤ 1300000 := vosl f11 f12
  obtain ⟨a7, HA7⟩ : ∃ a, Hid ((encVos vs).length = a) := ⟨_, hid rfl⟩
  have m7 : a7 ≤ 1300000 := by rw [← HA7.out]; exact l7
  have l8 : (encVC seen).length ≤ 80 := vec_len f13 f14
  obtain ⟨a8, HA8⟩ : ∃ a, Hid ((encVC seen).length = a) := ⟨_, hid rfl⟩
  have m8 : a8 ≤ 80 := by rw [← HA8.out]; exact l8
  have l9 : (encEvs evs).length ≤ 1300000 := evsl f15 f16
  obtain ⟨a9, HA9⟩ : ∃ a, Hid ((encEvs evs).length = a) := ⟨_, hid rfl⟩
  have m9 : a9 ≤ 1300000 := by rw [← HA9.out]; exact l9
  have l10 : (enc (ti).toNat).length ≤ 10 := enc_le10 (by omega)
  obtain ⟨a10, HA10⟩ : ∃ a, Hid ((enc (ti).toNat).length = a) := ⟨_, hid rfl⟩
  have m10 : a10 ≤ 10 := by rw [← HA10.out]; exact l10
  have HT1 : Hid (∀ V v cs, StepT B W V → Hid (V.ownsRow B 5 1 v (n) (nums cs)) → Calls Try.prog 70 #[v, .int .i64 kd] V fun e w' => ∃ v', e = .returned v' ∧ Hid (w'.ownsRow B 5 1 v' (n + a1) (nums (cs ++ (enc (kd).toNat)))) ∧ StepT B W w') := fun V v cs hV hr => by
    refine (appendNumber_T v (n) cs (kd) B V (f1.1) (by omega) hr.out (Nat.le_trans hBW hV.bel.size) (by omega)).mono ?_
    rintro e w' ⟨v', rfl, k1, k2, k3⟩
    exact ⟨v', rfl, by rw [← HA1.out]; exact k1, hV.go k2 k3⟩
  have HT2 : Hid (∀ V v cs, StepT B W V → Hid (V.ownsRow B 5 1 v (n + a1) (nums cs)) → Calls Try.prog 70 #[v, .int .i64 fr] V fun e w' => ∃ v', e = .returned v' ∧ Hid (w'.ownsRow B 5 1 v' (n + a1 + a2) (nums (cs ++ (enc (fr).toNat)))) ∧ StepT B W w') := fun V v cs hV hr => by
    refine (appendNumber_T v (n + a1) cs (fr) B V (f0.1) (by omega) hr.out (Nat.le_trans hBW hV.bel.size) (by omega)).mono ?_
    rintro e w' ⟨v', rfl, k1, k2, k3⟩
    exact ⟨v', rfl, by rw [← HA2.out]; exact k1, hV.go k2 k3⟩
  have HT3 : Hid (∀ V v cs, StepT B W V → Hid (V.ownsRow B 5 1 v (n + a1 + a2) (nums cs)) → Calls Try.prog 70 #[v, .int .i64 to] V fun e w' => ∃ v', e = .returned v' ∧ Hid (w'.ownsRow B 5 1 v' (n + a1 + a2 + a3) (nums (cs ++ (enc (to).toNat)))) ∧ StepT B W w') := fun V v cs hV hr => by
    refine (appendNumber_T v (n + a1 + a2) cs (to) B V (f9.1) (by omega) hr.out (Nat.le_trans hBW hV.bel.size) (by omega)).mono ?_
    rintro e w' ⟨v', rfl, k1, k2, k3⟩
    exact ⟨v', rfl, by rw [← HA3.out]; exact k1, hV.go k2 k3⟩
  have HT4 : Hid (∀ V v cs, StepT B W V → Hid (V.ownsRow B 5 1 v (n + a1 + a2 + a3) (nums cs)) → Calls Try.prog 71 #[v, .agg #[.int .i64 b1, .int .i64 b2]] V fun e w' => ∃ v', e = .returned v' ∧ Hid (w'.ownsRow B 5 1 v' (n + a1 + a2 + a3 + a4) (nums (cs ++ (enc b1.toNat ++ enc b2.toNat)))) ∧ StepT B W w') := fun V v cs hV hr => by
    refine (appendBallot_T v (n + a1 + a2 + a3) cs b1 b2 B V f2 f3 hr.out (Nat.le_trans hBW hV.bel.size) (by omega)).mono ?_
    rintro e w' ⟨v', rfl, k1, k2, k3⟩
    exact ⟨v', rfl, by rw [← HA4.out]; exact k1, hV.go k2 k3⟩
  have HT5 : Hid (∀ V v cs, StepT B W V → Hid (V.ownsRow B 5 1 v (n + a1 + a2 + a3 + a4) (nums cs)) → Calls Try.prog 70 #[v, .int .i64 sl] V fun e w' => ∃ v', e = .returned v' ∧ Hid (w'.ownsRow B 5 1 v' (n + a1 + a2 + a3 + a4 + a5) (nums (cs ++ (enc (sl).toNat)))) ∧ StepT B W w') := fun V v cs hV hr => by
    refine (appendNumber_T v (n + a1 + a2 + a3 + a4) cs (sl) B V (f10.1) (by omega) hr.out (Nat.le_trans hBW hV.bel.size) (by omega)).mono ?_
    rintro e w' ⟨v', rfl, k1, k2, k3⟩
    exact ⟨v', rfl, by rw [← HA5.out]; exact k1, hV.go k2 k3⟩
  have HT6 : Hid (∀ V v cs, StepT B W V → Hid (V.ownsRow B 5 1 v (n + a1 + a2 + a3 + a4 + a5) (nums cs)) → Calls Try.prog 72 #[v, .agg #[.bool np, .string tk, .string ct, .int .i64 ep, .slice ao1 cut.length cap1]] V fun e w' => ∃ v', e = .returned v' ∧ Hid (w'.ownsRow B 5 1 v' (n + a1 + a2 + a3 + a4 + a5 + a6) (nums (cs ++ (encEn ⟨np, tk, ct, ep, cut⟩)))) ∧ StepT B W w') := fun V v cs hV hr => by
    refine (appendEntry_T v (n + a1 + a2 + a3 + a4 + a5) cs ⟨⟨np, tk, ct, ep, cut⟩, ao1, cap1⟩ B V f4 (fun U hU => hv U (HB.out.bel.trans (hV.bel.trans hU))) hr.out (Nat.le_trans hBW hV.bel.size) (by omega)).mono ?_
    rintro e w' ⟨v', rfl, k1, k2, k3⟩
    exact ⟨v', rfl, by rw [← HA6.out]; exact k1, hV.go k2 k3⟩
  have HT7 : Hid (∀ V v cs, StepT B W V → Hid (V.ownsRow B 5 1 v (n + a1 + a2 + a3 + a4 + a5 + a6) (nums cs)) → Calls Try.prog 73 #[v, .slice vo vs.length vc, .func (.func 74) #[] #[]] V fun e w' => ∃ v', e = .returned v' ∧ Hid (w'.ownsRow B 5 1 v' (n + a1 + a2 + a3 + a4 + a5 + a6 + a7) (nums (cs ++ (encVos vs)))) ∧ StepT B W w') := fun V v cs hV hr => by
    refine (appendListVo_T v (n + a1 + a2 + a3 + a4 + a5 + a6) cs vo vc vs _ rfl B V (fun U hU => hv2 U (HB.out.bel.trans (hV.bel.trans hU))) (by omega) f12 hr.out (Nat.le_trans hBW hV.bel.size) (by omega)).mono ?_
    rintro e w' ⟨v', rfl, k1, k2, k3⟩
    exact ⟨v', rfl, by rw [← HA7.out]; exact k1, hV.go k2 k3⟩
  have HT8 : Hid (∀ V v cs, StepT B W V → Hid (V.ownsRow B 5 1 v (n + a1 + a2 + a3 + a4 + a5 + a6 + a7) (nums cs)) → Calls Try.prog 75 #[v, .slice so seen.length sc] V fun e w' => ∃ v', e = .returned v' ∧ Hid (w'.ownsRow B 5 1 v' (n + a1 + a2 + a3 + a4 + a5 + a6 + a7 + a8) (nums (cs ++ (encVC seen)))) ∧ StepT B W w') := fun V v cs hV hr => by
    refine (appendVector_T v (n + a1 + a2 + a3 + a4 + a5 + a6 + a7) cs so sc seen _ rfl B V (fun U hU => hv3 U (HB.out.bel.trans (hV.bel.trans hU))) f13 f14 hr.out (Nat.le_trans hBW hV.bel.size) (by omega)).mono ?_
    rintro e w' ⟨v', rfl, k1, k2, k3⟩
    exact ⟨v', rfl, by rw [← HA8.out]; exact k1, hV.go k2 k3⟩
  have HT9 : Hid (∀ V v cs, StepT B W V → Hid (V.ownsRow B 5 1 v (n + a1 + a2 + a3 + a4 + a5 + a6 + a7 + a8) (nums cs)) → Calls Try.prog 76 #[v, .slice eo evs.length ec, .func (.func 77) #[] #[]] V fun e w' => ∃ v', e = .returned v' ∧ Hid (w'.ownsRow B 5 1 v' (n + a1 + a2 + a3 + a4 + a5 + a6 + a7 + a8 + a9) (nums (cs ++ (encEvs evs)))) ∧ StepT B W w') := fun V v cs hV hr => by
    refine (appendListEv_T v (n + a1 + a2 + a3 + a4 + a5 + a6 + a7 + a8) cs eo ec evs _ rfl B V (fun U hU => hv4 U (HB.out.bel.trans (hV.bel.trans hU))) (by omega) f16 hr.out (Nat.le_trans hBW hV.bel.size) (by omega)).mono ?_
    rintro e w' ⟨v', rfl, k1, k2, k3⟩
    exact ⟨v', rfl, by rw [← HA9.out]; exact k1, hV.go k2 k3⟩
  have HT10 : Hid (∀ V v cs, StepT B W V → Hid (V.ownsRow B 5 1 v (n + a1 + a2 + a3 + a4 + a5 + a6 + a7 + a8 + a9) (nums cs)) → Calls Try.prog 70 #[v, .int .i64 ti] V fun e w' => ∃ v', e = .returned v' ∧ Hid (w'.ownsRow B 5 1 v' (n + a1 + a2 + a3 + a4 + a5 + a6 + a7 + a8 + a9 + a10) (nums (cs ++ (enc (ti).toNat)))) ∧ StepT B W w') := fun V v cs hV hr => by
    refine (appendNumber_T v (n + a1 + a2 + a3 + a4 + a5 + a6 + a7 + a8 + a9) cs (ti) B V (f17.1) (by omega) hr.out (Nat.le_trans hBW hV.bel.size) (by omega)).mono ?_
    rintro e w' ⟨v', rfl, k1, k2, k3⟩
    exact ⟨v', rfl, by rw [← HA10.out]; exact k1, hV.go k2 k3⟩
  have HLE : Hid (n + (enc kd.toNat ++ enc fr.toNat ++ enc to.toNat ++ (enc b1.toNat ++ enc b2.toNat) ++ enc sl.toNat ++ encEn ⟨np, tk, ct, ep, cut⟩ ++ encVos vs ++ encVC seen ++ encEvs evs ++ enc ti.toNat).length = n + a1 + a2 + a3 + a4 + a5 + a6 + a7 + a8 + a9 + a10) := by
    show _ = _
    simp only [List.length_append, HA1.out, HA2.out, HA3.out, HA4.out, HA5.out, HA6.out, HA7.out, HA8.out, HA9.out, HA10.out]
    omega
  have HEN : Hid (bs ++ (enc kd.toNat ++ enc fr.toNat ++ enc to.toNat ++ (enc b1.toNat ++ enc b2.toNat) ++ enc sl.toNat ++ encEn ⟨np, tk, ct, ep, cut⟩ ++ encVos vs ++ encVC seen ++ encEvs evs ++ enc ti.toNat) = bs ++ (enc (kd).toNat) ++ (enc (fr).toNat) ++ (enc (to).toNat) ++ (enc b1.toNat ++ enc b2.toNat) ++ (enc (sl).toNat) ++ (encEn ⟨np, tk, ct, ep, cut⟩) ++ (encVos vs) ++ (encVC seen) ++ (encEvs evs) ++ (enc (ti).toNat)) := by show _ = _; simp only [List.append_assoc]
  have HW := hid hW
  have c0 := HK.out.cell (i := 0) rfl
  have c1 := HK.out.cell (i := 1) rfl
  have c2 := HK.out.cell (i := 2) rfl
  have c3 := HK.out.cell (i := 3) rfl
  have c4 := HK.out.cell (i := 4) rfl
  have c5 := HK.out.cell (i := 5) rfl
  have c6 := HK.out.cell (i := 6) rfl
  have c7 := HK.out.cell (i := 7) rfl
  have c8 := HK.out.cell (i := 8) rfl
  have c9 := HK.out.cell (i := 9) rfl
  have c10 := HK.out.cell (i := 10) rfl
  have c11 := HK.out.cell (i := 11) rfl
  have c12 := HK.out.cell (i := 12) rfl
  have c13 := HK.out.cell (i := 13) rfl
  have c14 := HK.out.cell (i := 14) rfl
  rw [HW.out] at c0 c1 c2 c3 c4 c5 c6 c7 c8 c9 c10 c11 c12 c13 c14
  clear hW hown l1 m1 HA1 l2 m2 HA2 l3 m3 HA3 l4 m4 HA4 l5 m5 HA5 l6 m6 HA6 l7 m7 HA7 l8 m8 HA8 l9 m9 HA9 l10 m10 HA10 f1 f0 f9 f2 f3 f10 f4 f11 f12 f13 f14 f15 f16 f17 hv hv2 hv3 hv4
  go_enter Try.func46, Try.ntmps46
  go_wp2_with fail
  rw [← HW.out]
  obtain ⟨p, hp⟩ : ∃ p, p = w.heap.size := ⟨_, rfl⟩
  rw [← hp] at HK ⊢
  clear hp c0 c1 c2 c3 c4 c5 c6 c7 c8 c9 c10 c11 c12 c13 c14
  refine (HT1.out _ _ _ (StepT.start _ _) HR0).mono ?_
  rintro e w1 ⟨v1, rfl, HR1, hs1⟩
  have HS1 := hid hs1
  have hk1 := hs1.t8.blk HK.out (by decide)
  have c0 := hk1.cell (i := 0) rfl
  have c1 := hk1.cell (i := 1) rfl
  have c2 := hk1.cell (i := 2) rfl
  have c3 := hk1.cell (i := 3) rfl
  have c4 := hk1.cell (i := 4) rfl
  have c5 := hk1.cell (i := 5) rfl
  have c6 := hk1.cell (i := 6) rfl
  have c7 := hk1.cell (i := 7) rfl
  have c8 := hk1.cell (i := 8) rfl
  have c9 := hk1.cell (i := 9) rfl
  have c10 := hk1.cell (i := 10) rfl
  have c11 := hk1.cell (i := 11) rfl
  have c12 := hk1.cell (i := 12) rfl
  have c13 := hk1.cell (i := 13) rfl
  have c14 := hk1.cell (i := 14) rfl
  clear hs1 hk1 HT1
  go_wp2_with fail
  clear c0 c1 c2 c3 c4 c5 c6 c7 c8 c9 c10 c11 c12 c13 c14
  refine (HT2.out _ _ _ (HS1.out) HR1).mono ?_
  rintro e w2 ⟨v2, rfl, HR2, hs2⟩
  have HS2 := hid hs2
  have hk2 := hs2.t8.blk HK.out (by decide)
  have c0 := hk2.cell (i := 0) rfl
  have c1 := hk2.cell (i := 1) rfl
  have c2 := hk2.cell (i := 2) rfl
  have c3 := hk2.cell (i := 3) rfl
  have c4 := hk2.cell (i := 4) rfl
  have c5 := hk2.cell (i := 5) rfl
  have c6 := hk2.cell (i := 6) rfl
  have c7 := hk2.cell (i := 7) rfl
  have c8 := hk2.cell (i := 8) rfl
  have c9 := hk2.cell (i := 9) rfl
  have c10 := hk2.cell (i := 10) rfl
  have c11 := hk2.cell (i := 11) rfl
  have c12 := hk2.cell (i := 12) rfl
  have c13 := hk2.cell (i := 13) rfl
  have c14 := hk2.cell (i := 14) rfl
  clear hs2 hk2 HT2
  go_wp2_with fail
  clear c0 c1 c2 c3 c4 c5 c6 c7 c8 c9 c10 c11 c12 c13 c14
  refine (HT3.out _ _ _ (HS2.out) HR2).mono ?_
  rintro e w3 ⟨v3, rfl, HR3, hs3⟩
  have HS3 := hid hs3
  have hk3 := hs3.t8.blk HK.out (by decide)
  have c0 := hk3.cell (i := 0) rfl
  have c1 := hk3.cell (i := 1) rfl
  have c2 := hk3.cell (i := 2) rfl
  have c3 := hk3.cell (i := 3) rfl
  have c4 := hk3.cell (i := 4) rfl
  have c5 := hk3.cell (i := 5) rfl
  have c6 := hk3.cell (i := 6) rfl
  have c7 := hk3.cell (i := 7) rfl
  have c8 := hk3.cell (i := 8) rfl
  have c9 := hk3.cell (i := 9) rfl
  have c10 := hk3.cell (i := 10) rfl
  have c11 := hk3.cell (i := 11) rfl
  have c12 := hk3.cell (i := 12) rfl
  have c13 := hk3.cell (i := 13) rfl
  have c14 := hk3.cell (i := 14) rfl
  clear hs3 hk3 HT3
  go_wp2_with fail
  clear c0 c1 c2 c3 c4 c5 c6 c7 c8 c9 c10 c11 c12 c13 c14
  refine (HT4.out _ _ _ (HS3.out) HR3).mono ?_
  rintro e w4 ⟨v4, rfl, HR4, hs4⟩
  have HS4 := hid hs4
  have hk4 := hs4.t8.blk HK.out (by decide)
  have c0 := hk4.cell (i := 0) rfl
  have c1 := hk4.cell (i := 1) rfl
  have c2 := hk4.cell (i := 2) rfl
  have c3 := hk4.cell (i := 3) rfl
  have c4 := hk4.cell (i := 4) rfl
  have c5 := hk4.cell (i := 5) rfl
  have c6 := hk4.cell (i := 6) rfl
  have c7 := hk4.cell (i := 7) rfl
  have c8 := hk4.cell (i := 8) rfl
  have c9 := hk4.cell (i := 9) rfl
  have c10 := hk4.cell (i := 10) rfl
  have c11 := hk4.cell (i := 11) rfl
  have c12 := hk4.cell (i := 12) rfl
  have c13 := hk4.cell (i := 13) rfl
  have c14 := hk4.cell (i := 14) rfl
  clear hs4 hk4 HT4
  go_wp2_with fail
  clear c0 c1 c2 c3 c4 c5 c6 c7 c8 c9 c10 c11 c12 c13 c14
  refine (HT5.out _ _ _ (HS4.out) HR4).mono ?_
  rintro e w5 ⟨v5, rfl, HR5, hs5⟩
  have HS5 := hid hs5
  have hk5 := hs5.t8.blk HK.out (by decide)
  have c0 := hk5.cell (i := 0) rfl
  have c1 := hk5.cell (i := 1) rfl
  have c2 := hk5.cell (i := 2) rfl
  have c3 := hk5.cell (i := 3) rfl
  have c4 := hk5.cell (i := 4) rfl
  have c5 := hk5.cell (i := 5) rfl
  have c6 := hk5.cell (i := 6) rfl
  have c7 := hk5.cell (i := 7) rfl
  have c8 := hk5.cell (i := 8) rfl
  have c9 := hk5.cell (i := 9) rfl
  have c10 := hk5.cell (i := 10) rfl
  have c11 := hk5.cell (i := 11) rfl
  have c12 := hk5.cell (i := 12) rfl
  have c13 := hk5.cell (i := 13) rfl
  have c14 := hk5.cell (i := 14) rfl
  clear hs5 hk5 HT5
  go_wp2_with fail
  clear c0 c1 c2 c3 c4 c5 c6 c7 c8 c9 c10 c11 c12 c13 c14
  refine (HT6.out _ _ _ (HS5.out) HR5).mono ?_
  rintro e w6 ⟨v6, rfl, HR6, hs6⟩
  have HS6 := hid hs6
  have hk6 := hs6.t8.blk HK.out (by decide)
  have c0 := hk6.cell (i := 0) rfl
  have c1 := hk6.cell (i := 1) rfl
  have c2 := hk6.cell (i := 2) rfl
  have c3 := hk6.cell (i := 3) rfl
  have c4 := hk6.cell (i := 4) rfl
  have c5 := hk6.cell (i := 5) rfl
  have c6 := hk6.cell (i := 6) rfl
  have c7 := hk6.cell (i := 7) rfl
  have c8 := hk6.cell (i := 8) rfl
  have c9 := hk6.cell (i := 9) rfl
  have c10 := hk6.cell (i := 10) rfl
  have c11 := hk6.cell (i := 11) rfl
  have c12 := hk6.cell (i := 12) rfl
  have c13 := hk6.cell (i := 13) rfl
  have c14 := hk6.cell (i := 14) rfl
  clear hs6 hk6 HT6
  go_wp2_with fail
  clear c0 c1 c2 c3 c4 c5 c6 c7 c8 c9 c10 c11 c12 c13 c14
  refine (HT7.out _ _ _ (HS6.out) HR6).mono ?_
  rintro e w7 ⟨v7, rfl, HR7, hs7⟩
  have HS7 := hid hs7
  have hk7 := hs7.t8.blk HK.out (by decide)
  have c0 := hk7.cell (i := 0) rfl
  have c1 := hk7.cell (i := 1) rfl
  have c2 := hk7.cell (i := 2) rfl
  have c3 := hk7.cell (i := 3) rfl
  have c4 := hk7.cell (i := 4) rfl
  have c5 := hk7.cell (i := 5) rfl
  have c6 := hk7.cell (i := 6) rfl
  have c7 := hk7.cell (i := 7) rfl
  have c8 := hk7.cell (i := 8) rfl
  have c9 := hk7.cell (i := 9) rfl
  have c10 := hk7.cell (i := 10) rfl
  have c11 := hk7.cell (i := 11) rfl
  have c12 := hk7.cell (i := 12) rfl
  have c13 := hk7.cell (i := 13) rfl
  have c14 := hk7.cell (i := 14) rfl
  clear hs7 hk7 HT7
  go_wp2_with fail
  clear c0 c1 c2 c3 c4 c5 c6 c7 c8 c9 c10 c11 c12 c13 c14
  refine (HT8.out _ _ _ (HS7.out) HR7).mono ?_
  rintro e w8 ⟨v8, rfl, HR8, hs8⟩
  have HS8 := hid hs8
  have hk8 := hs8.t8.blk HK.out (by decide)
  have c0 := hk8.cell (i := 0) rfl
  have c1 := hk8.cell (i := 1) rfl
  have c2 := hk8.cell (i := 2) rfl
  have c3 := hk8.cell (i := 3) rfl
  have c4 := hk8.cell (i := 4) rfl
  have c5 := hk8.cell (i := 5) rfl
  have c6 := hk8.cell (i := 6) rfl
  have c7 := hk8.cell (i := 7) rfl
  have c8 := hk8.cell (i := 8) rfl
  have c9 := hk8.cell (i := 9) rfl
  have c10 := hk8.cell (i := 10) rfl
  have c11 := hk8.cell (i := 11) rfl
  have c12 := hk8.cell (i := 12) rfl
  have c13 := hk8.cell (i := 13) rfl
  have c14 := hk8.cell (i := 14) rfl
  clear hs8 hk8 HT8
  go_wp2_with fail
  clear c0 c1 c2 c3 c4 c5 c6 c7 c8 c9 c10 c11 c12 c13 c14
  refine (HT9.out _ _ _ (HS8.out) HR8).mono ?_
  rintro e w9 ⟨v9, rfl, HR9, hs9⟩
  have HS9 := hid hs9
  have hk9 := hs9.t8.blk HK.out (by decide)
  have c0 := hk9.cell (i := 0) rfl
  have c1 := hk9.cell (i := 1) rfl
  have c2 := hk9.cell (i := 2) rfl
  have c3 := hk9.cell (i := 3) rfl
  have c4 := hk9.cell (i := 4) rfl
  have c5 := hk9.cell (i := 5) rfl
  have c6 := hk9.cell (i := 6) rfl
  have c7 := hk9.cell (i := 7) rfl
  have c8 := hk9.cell (i := 8) rfl
  have c9 := hk9.cell (i := 9) rfl
  have c10 := hk9.cell (i := 10) rfl
  have c11 := hk9.cell (i := 11) rfl
  have c12 := hk9.cell (i := 12) rfl
  have c13 := hk9.cell (i := 13) rfl
  have c14 := hk9.cell (i := 14) rfl
  clear hs9 hk9 HT9
  go_wp2_with fail
  clear c0 c1 c2 c3 c4 c5 c6 c7 c8 c9 c10 c11 c12 c13 c14
  refine (HT10.out _ _ _ (HS9.out) HR9).mono ?_
  rintro e w10 ⟨v10, rfl, HR10, hs10⟩
  have HS10 := hid hs10
  have hk10 := hs10.t8.blk HK.out (by decide)
  have c0 := hk10.cell (i := 0) rfl
  have c1 := hk10.cell (i := 1) rfl
  have c2 := hk10.cell (i := 2) rfl
  have c3 := hk10.cell (i := 3) rfl
  have c4 := hk10.cell (i := 4) rfl
  have c5 := hk10.cell (i := 5) rfl
  have c6 := hk10.cell (i := 6) rfl
  have c7 := hk10.cell (i := 7) rfl
  have c8 := hk10.cell (i := 8) rfl
  have c9 := hk10.cell (i := 9) rfl
  have c10 := hk10.cell (i := 10) rfl
  have c11 := hk10.cell (i := 11) rfl
  have c12 := hk10.cell (i := 12) rfl
  have c13 := hk10.cell (i := 13) rfl
  have c14 := hk10.cell (i := 14) rfl
  clear hs10 hk10 HT10
  have HF : Hid (StepT B w w10) := ⟨HB.out.bel.trans HS10.out.bel, HB.out.t8.trans HS10.out.t8⟩
  go_wp2
  go_ret
  refine ⟨_, rfl, ?_, HF.out.bel, HF.out.t8⟩
  rw [HLE.out, HEN.out]
  exact HR10.out
end Go.Proofs.Ytgghfmdciohinaa
