/-
  Package codec: how a seal and an event are written.
-/
import Derived.Test.YtgghfmdciohinaaCodU
namespace Go.Proofs.Ytgghfmdciohinaa
open Go.RowKit Go.Maps
attribute [local go_sem] Oper.semAt_some

theorem text_len {s : ByteArray} (h : s.size ≤ 32) : (encText s).length ≤ 42 := by
  rw [encText_len]
  have := enc_le10 (x := s.size) (by omega)
  omega
theorem vec_len {v : List Int} (h : v.length ≤ 7) (hi : InVC v) : (encVC v).length ≤ 80 := by
  unfold encVC
  rw [List.length_append]
  have h1 := enc_le10 (x := v.length) (by omega)
  have h2 := encN_lenC hi
  omega
/-- A seal as bytes. -/
def encSe (e : En) : List Int := encText e.tok ++ encText e.cart ++ enc e.ep.toNat ++ encVC e.cut
structure SeF (e : En) : Prop where
  t : e.tok.size ≤ 32
  c : e.cart.size ≤ 32
  ep : 0 ≤ e.ep ∧ e.ep ≤ 2147483647
  l : e.cut.length ≤ 7
  i : InVC e.cut
theorem rightSe_iff {e : En} (h : RightSe e = true) : SeF e := by
  unfold RightSe at h
  simp only [Bool.and_eq_true, decide_eq_true_eq] at h
  obtain ⟨h1, h2, h3, h4⟩ := h
  unfold rightVC at h4
  simp only [Bool.and_eq_true, decide_eq_true_eq] at h4
  exact ⟨nameS_sizeC h1, nameS_sizeC h2, h3, h4.2.1, h4.1⟩
set_option maxRecDepth 100000 in
set_option maxHeartbeats 1000000 in
theorem appendSeal_T (u : Value) (n : Nat) (bs : List Int) (x : EnM) (B : Nat) (w : World) (hf : SeF x.e) (hv : ∀ V, Below B w V → HV V x.ao x.cap x.e.cut) (hown : w.ownsRow B 5 1 u n (nums bs)) (hB : B ≤ w.heap.size) (hn : n ≤ 140737488300000) :
    Calls Try.prog 94 #[u, .agg #[.string x.e.tok, .string x.e.cart, .int .i64 x.e.ep, .slice x.ao x.e.cut.length x.cap]] w (AppP B w n bs (encSe x.e)) := by
  obtain ⟨⟨np, tk, ct, ep, cut⟩, ao1, cap1⟩ := x
  obtain ⟨f1, f2, f3, f4, f5⟩ := hf
  dsimp only at f1 f2 f3 f4 f5 hv ⊢
  obtain ⟨XN, HXN⟩ : ∃ m, Hid (cut.length = m) := ⟨_, hid rfl⟩
  rw [HXN.out] at f4 ⊢
  unfold encSe
  obtain ⟨W, hW⟩ : ∃ W, W = w.alloc (.cells #[.string tk, .string ct, .int .i64 ep, .slice ao1 XN cap1] 31) := ⟨_, rfl⟩
  have HB : Hid (StepT B w W) := by rw [hW]; exact ⟨(Below.refl _ _).alloc hB _, (T8.refl w).alloc _⟩
  have HK : Hid (Blk W w.heap.size 31 [.string tk, .string ct, .int .i64 ep, .slice ao1 XN cap1]) := by rw [hW]; exact Blk.new w _ _
  have HR0 : Hid (W.ownsRow B 5 1 u n (nums bs)) := by rw [hW]; exact hown.alloc _
  have hBW : B ≤ W.heap.size := Nat.le_trans hB HB.out.bel.size
  have l1 : (encText tk).length ≤ 42 := text_len f1
  obtain ⟨a1, HA1⟩ : ∃ a, Hid ((encText tk).length = a) := ⟨_, hid rfl⟩
  have m1 : a1 ≤ 42 := by rw [← HA1.out]; exact l1
  have l2 : (encText ct).length ≤ 42 := text_len f2
  obtain ⟨a2, HA2⟩ : ∃ a, Hid ((encText ct).length = a) := ⟨_, hid rfl⟩
  have m2 : a2 ≤ 42 := by rw [← HA2.out]; exact l2
  have l3 : (enc (ep).toNat).length ≤ 10 := enc_le10 (by omega)
  obtain ⟨a3, HA3⟩ : ∃ a, Hid ((enc (ep).toNat).length = a) := ⟨_, hid rfl⟩
  have m3 : a3 ≤ 10 := by rw [← HA3.out]; exact l3
  have l4 : (encVC cut).length ≤ 80 := vec_len (by rw [HXN.out]; exact f4) f5
  obtain ⟨a4, HA4⟩ : ∃ a, Hid ((encVC cut).length = a) := ⟨_, hid rfl⟩
  have m4 : a4 ≤ 80 := by rw [← HA4.out]; exact l4
  have HT1 : Hid (∀ V v cs, StepT B W V → Hid (V.ownsRow B 5 1 v (n) (nums cs)) → Calls Try.prog 96 #[v, .string tk] V fun e w' => ∃ v', e = .returned v' ∧ Hid (w'.ownsRow B 5 1 v' (n + a1) (nums (cs ++ (encText tk)))) ∧ StepT B W w') := fun V v cs hV hr => by
    refine (appendText_T v (n) cs tk B V hr.out (Nat.le_trans hBW hV.bel.size) (by omega)).mono ?_
    rintro e w' ⟨v', rfl, k1, k2, k3⟩
    exact ⟨v', rfl, by rw [← HA1.out]; exact k1, hV.go k2 k3⟩
  have HT2 : Hid (∀ V v cs, StepT B W V → Hid (V.ownsRow B 5 1 v (n + a1) (nums cs)) → Calls Try.prog 96 #[v, .string ct] V fun e w' => ∃ v', e = .returned v' ∧ Hid (w'.ownsRow B 5 1 v' (n + a1 + a2) (nums (cs ++ (encText ct)))) ∧ StepT B W w') := fun V v cs hV hr => by
    refine (appendText_T v (n + a1) cs ct B V hr.out (Nat.le_trans hBW hV.bel.size) (by omega)).mono ?_
    rintro e w' ⟨v', rfl, k1, k2, k3⟩
    exact ⟨v', rfl, by rw [← HA2.out]; exact k1, hV.go k2 k3⟩
  have HT3 : Hid (∀ V v cs, StepT B W V → Hid (V.ownsRow B 5 1 v (n + a1 + a2) (nums cs)) → Calls Try.prog 70 #[v, .int .i64 ep] V fun e w' => ∃ v', e = .returned v' ∧ Hid (w'.ownsRow B 5 1 v' (n + a1 + a2 + a3) (nums (cs ++ (enc (ep).toNat)))) ∧ StepT B W w') := fun V v cs hV hr => by
    refine (appendNumber_T v (n + a1 + a2) cs (ep) B V (f3.1) (by omega) hr.out (Nat.le_trans hBW hV.bel.size) (by omega)).mono ?_
    rintro e w' ⟨v', rfl, k1, k2, k3⟩
    exact ⟨v', rfl, by rw [← HA3.out]; exact k1, hV.go k2 k3⟩
  have HT4 : Hid (∀ V v cs, StepT B W V → Hid (V.ownsRow B 5 1 v (n + a1 + a2 + a3) (nums cs)) → Calls Try.prog 75 #[v, .slice ao1 XN cap1] V fun e w' => ∃ v', e = .returned v' ∧ Hid (w'.ownsRow B 5 1 v' (n + a1 + a2 + a3 + a4) (nums (cs ++ (encVC cut)))) ∧ StepT B W w') := fun V v cs hV hr => by
    refine (appendVector_T v (n + a1 + a2 + a3) cs ao1 cap1 cut XN HXN.out B V (fun U hU => hv U (HB.out.bel.trans (hV.bel.trans hU))) f4 f5 hr.out (Nat.le_trans hBW hV.bel.size) (by omega)).mono ?_
    rintro e w' ⟨v', rfl, k1, k2, k3⟩
    exact ⟨v', rfl, by rw [← HA4.out]; exact k1, hV.go k2 k3⟩
  have HLE : Hid (n + (encText tk ++ encText ct ++ enc ep.toNat ++ encVC cut).length = n + a1 + a2 + a3 + a4) := by
    show _ = _
    simp only [List.length_append, HA1.out, HA2.out, HA3.out, HA4.out]
    omega
  have HEN : Hid (bs ++ (encText tk ++ encText ct ++ enc ep.toNat ++ encVC cut) = bs ++ (encText tk) ++ (encText ct) ++ (enc (ep).toNat) ++ (encVC cut)) := by show _ = _; simp only [List.append_assoc]
  have HW := hid hW
  have c0 := HK.out.cell (i := 0) rfl
  have c1 := HK.out.cell (i := 1) rfl
  have c2 := HK.out.cell (i := 2) rfl
  have c3 := HK.out.cell (i := 3) rfl
  rw [HW.out] at c0 c1 c2 c3
  clear hW hown l1 m1 HA1 l2 m2 HA2 l3 m3 HA3 l4 m4 HA4 f1 f2 f3 f4 f5 hv
  go_enter Try.func94, Try.ntmps94
  go_wp2_with fail
  rw [← HW.out]
  obtain ⟨p, hp⟩ : ∃ p, p = w.heap.size := ⟨_, rfl⟩
  rw [← hp] at HK ⊢
  clear hp c0 c1 c2 c3
  refine (HT1.out _ _ _ (StepT.start _ _) HR0).mono ?_
  rintro e w1 ⟨v1, rfl, HR1, hs1⟩
  have HS1 := hid hs1
  have hk1 := hs1.t8.blk HK.out (by decide)
  have c0 := hk1.cell (i := 0) rfl
  have c1 := hk1.cell (i := 1) rfl
  have c2 := hk1.cell (i := 2) rfl
  have c3 := hk1.cell (i := 3) rfl
  clear hs1 hk1 HT1
  go_wp2_with fail
  clear c0 c1 c2 c3
  refine (HT2.out _ _ _ (HS1.out) HR1).mono ?_
  rintro e w2 ⟨v2, rfl, HR2, hs2⟩
  have HS2 := hid hs2
  have hk2 := hs2.t8.blk HK.out (by decide)
  have c0 := hk2.cell (i := 0) rfl
  have c1 := hk2.cell (i := 1) rfl
  have c2 := hk2.cell (i := 2) rfl
  have c3 := hk2.cell (i := 3) rfl
  clear hs2 hk2 HT2
  go_wp2_with fail
  clear c0 c1 c2 c3
  refine (HT3.out _ _ _ (HS2.out) HR2).mono ?_
  rintro e w3 ⟨v3, rfl, HR3, hs3⟩
  have HS3 := hid hs3
  have hk3 := hs3.t8.blk HK.out (by decide)
  have c0 := hk3.cell (i := 0) rfl
  have c1 := hk3.cell (i := 1) rfl
  have c2 := hk3.cell (i := 2) rfl
  have c3 := hk3.cell (i := 3) rfl
  clear hs3 hk3 HT3
  go_wp2_with fail
  clear c0 c1 c2 c3
  refine (HT4.out _ _ _ (HS3.out) HR3).mono ?_
  rintro e w4 ⟨v4, rfl, HR4, hs4⟩
  have HS4 := hid hs4
  have hk4 := hs4.t8.blk HK.out (by decide)
  have c0 := hk4.cell (i := 0) rfl
  have c1 := hk4.cell (i := 1) rfl
  have c2 := hk4.cell (i := 2) rfl
  have c3 := hk4.cell (i := 3) rfl
  clear hs4 hk4 HT4
  have HF : Hid (StepT B w w4) := ⟨HB.out.bel.trans HS4.out.bel, HB.out.t8.trans HS4.out.t8⟩
  go_wp2
  go_ret
  refine ⟨_, rfl, ?_, HF.out.bel, HF.out.t8⟩
  rw [HLE.out, HEN.out]
  exact HR4.out
/-- An event as bytes. -/
def encEvC (e : Ev) : List Int := enc e.o.toNat ++ enc e.s.toNat ++ encVC e.deps ++ encText e.cart ++ enc e.epoch.toNat ++ encText e.sku ++ enc e.qty.toNat ++ encBC e.clears
structure EvF (e : Ev) : Prop where
  o : 0 ≤ e.o ∧ e.o ≤ 6
  s : 0 ≤ e.s ∧ e.s ≤ 2147483647
  l : e.deps.length ≤ 7
  i : InVC e.deps
  c : e.cart.size ≤ 32
  ep : 0 ≤ e.epoch ∧ e.epoch ≤ 2147483647
  k : e.sku.size ≤ 32
  q : 0 ≤ e.qty ∧ e.qty ≤ 1000
theorem rightEvC_iff {e : Ev} (h : RightEvC e = true) : EvF e := by
  unfold RightEvC at h
  simp only [Bool.and_eq_true, decide_eq_true_eq] at h
  obtain ⟨h1, h2, h3, h4, h5, h6, h7⟩ := h
  unfold rightVC at h3
  simp only [Bool.and_eq_true, decide_eq_true_eq] at h3
  exact ⟨h1, h2, h3.2.1, h3.1, nameS_sizeC h4, h5, nameS_sizeC h6, h7⟩
set_option maxRecDepth 100000 in
set_option maxHeartbeats 1000000 in
theorem appendEvent_T (u : Value) (n : Nat) (bs : List Int) (x : EvM) (B : Nat) (w : World) (hf : EvF x.e) (hv : ∀ V, Below B w V → HV V x.ao x.cap x.e.deps) (hown : w.ownsRow B 5 1 u n (nums bs)) (hB : B ≤ w.heap.size) (hn : n ≤ 140737488300000) :
    Calls Try.prog 77 #[u, x.val] w (AppP B w n bs (encEvC x.e)) := by
  obtain ⟨⟨o, s, dp, ct, ep, sk, qt, cl⟩, ao1, cap1⟩ := x
  obtain ⟨f1, f2, f4, f3, f5, f6, f7, f8⟩ := hf
  dsimp only [EvM.val] at f1 f2 f3 f4 f5 f6 f7 f8 hv ⊢
  obtain ⟨XN, HXN⟩ : ∃ m, Hid (dp.length = m) := ⟨_, hid rfl⟩
  rw [HXN.out] at f4 ⊢
  unfold encEvC
  obtain ⟨W, hW⟩ : ∃ W, W = w.alloc (.cells #[.int .i64 o, .int .i64 s, .slice ao1 XN cap1, .string ct, .int .i64 ep, .string sk, .int .i64 qt, .bool cl] 104) := ⟨_, rfl⟩
  have HB : Hid (StepT B w W) := by rw [hW]; exact ⟨(Below.refl _ _).alloc hB _, (T8.refl w).alloc _⟩
  have HK : Hid (Blk W w.heap.size 104 [.int .i64 o, .int .i64 s, .slice ao1 XN cap1, .string ct, .int .i64 ep, .string sk, .int .i64 qt, .bool cl]) := by rw [hW]; exact Blk.new w _ _
  have HR0 : Hid (W.ownsRow B 5 1 u n (nums bs)) := by rw [hW]; exact hown.alloc _
  have hBW : B ≤ W.heap.size := Nat.le_trans hB HB.out.bel.size
  have l1 : (enc (o).toNat).length ≤ 10 := enc_le10 (by omega)
  obtain ⟨a1, HA1⟩ : ∃ a, Hid ((enc (o).toNat).length = a) := ⟨_, hid rfl⟩
  have m1 : a1 ≤ 10 := by rw [← HA1.out]; exact l1
  have l2 : (enc (s).toNat).length ≤ 10 := enc_le10 (by omega)
  obtain ⟨a2, HA2⟩ : ∃ a, Hid ((enc (s).toNat).length = a) := ⟨_, hid rfl⟩
  have m2 : a2 ≤ 10 := by rw [← HA2.out]; exact l2
  have l3 : (encVC dp).length ≤ 80 := vec_len (by rw [HXN.out]; exact f4) f3
  obtain ⟨a3, HA3⟩ : ∃ a, Hid ((encVC dp).length = a) := ⟨_, hid rfl⟩
  have m3 : a3 ≤ 80 := by rw [← HA3.out]; exact l3
  have l4 : (encText ct).length ≤ 42 := text_len f5
  obtain ⟨a4, HA4⟩ : ∃ a, Hid ((encText ct).length = a) := ⟨_, hid rfl⟩
  have m4 : a4 ≤ 42 := by rw [← HA4.out]; exact l4
  have l5 : (enc (ep).toNat).length ≤ 10 := enc_le10 (by omega)
  obtain ⟨a5, HA5⟩ : ∃ a, Hid ((enc (ep).toNat).length = a) := ⟨_, hid rfl⟩
  have m5 : a5 ≤ 10 := by rw [← HA5.out]; exact l5
  have l6 : (encText sk).length ≤ 42 := text_len f7
  obtain ⟨a6, HA6⟩ : ∃ a, Hid ((encText sk).length = a) := ⟨_, hid rfl⟩
  have m6 : a6 ≤ 42 := by rw [← HA6.out]; exact l6
  have l7 : (enc (qt).toNat).length ≤ 10 := enc_le10 (by omega)
  obtain ⟨a7, HA7⟩ : ∃ a, Hid ((enc (qt).toNat).length = a) := ⟨_, hid rfl⟩
  have m7 : a7 ≤ 10 := by rw [← HA7.out]; exact l7
  have l8 : (encBC cl).length ≤ 2 := Nat.le_succ_of_le (Nat.le_refl _)
  obtain ⟨a8, HA8⟩ : ∃ a, Hid ((encBC cl).length = a) := ⟨_, hid rfl⟩
  have m8 : a8 ≤ 2 := by rw [← HA8.out]; exact l8
  have HT1 : Hid (∀ V v cs, StepT B W V → Hid (V.ownsRow B 5 1 v (n) (nums cs)) → Calls Try.prog 70 #[v, .int .i64 o] V fun e w' => ∃ v', e = .returned v' ∧ Hid (w'.ownsRow B 5 1 v' (n + a1) (nums (cs ++ (enc (o).toNat)))) ∧ StepT B W w') := fun V v cs hV hr => by
    refine (appendNumber_T v (n) cs (o) B V (f1.1) (by omega) hr.out (Nat.le_trans hBW hV.bel.size) (by omega)).mono ?_
    rintro e w' ⟨v', rfl, k1, k2, k3⟩
    exact ⟨v', rfl, by rw [← HA1.out]; exact k1, hV.go k2 k3⟩
  have HT2 : Hid (∀ V v cs, StepT B W V → Hid (V.ownsRow B 5 1 v (n + a1) (nums cs)) → Calls Try.prog 70 #[v, .int .i64 s] V fun e w' => ∃ v', e = .returned v' ∧ Hid (w'.ownsRow B 5 1 v' (n + a1 + a2) (nums (cs ++ (enc (s).toNat)))) ∧ StepT B W w') := fun V v cs hV hr => by
    refine (appendNumber_T v (n + a1) cs (s) B V (f2.1) (by omega) hr.out (Nat.le_trans hBW hV.bel.size) (by omega)).mono ?_
    rintro e w' ⟨v', rfl, k1, k2, k3⟩
    exact ⟨v', rfl, by rw [← HA2.out]; exact k1, hV.go k2 k3⟩
  have HT3 : Hid (∀ V v cs, StepT B W V → Hid (V.ownsRow B 5 1 v (n + a1 + a2) (nums cs)) → Calls Try.prog 75 #[v, .slice ao1 XN cap1] V fun e w' => ∃ v', e = .returned v' ∧ Hid (w'.ownsRow B 5 1 v' (n + a1 + a2 + a3) (nums (cs ++ (encVC dp)))) ∧ StepT B W w') := fun V v cs hV hr => by
    refine (appendVector_T v (n + a1 + a2) cs ao1 cap1 dp XN HXN.out B V (fun U hU => hv U (HB.out.bel.trans (hV.bel.trans hU))) f4 f3 hr.out (Nat.le_trans hBW hV.bel.size) (by omega)).mono ?_
    rintro e w' ⟨v', rfl, k1, k2, k3⟩
    exact ⟨v', rfl, by rw [← HA3.out]; exact k1, hV.go k2 k3⟩
  have HT4 : Hid (∀ V v cs, StepT B W V → Hid (V.ownsRow B 5 1 v (n + a1 + a2 + a3) (nums cs)) → Calls Try.prog 96 #[v, .string ct] V fun e w' => ∃ v', e = .returned v' ∧ Hid (w'.ownsRow B 5 1 v' (n + a1 + a2 + a3 + a4) (nums (cs ++ (encText ct)))) ∧ StepT B W w') := fun V v cs hV hr => by
    refine (appendText_T v (n + a1 + a2 + a3) cs ct B V hr.out (Nat.le_trans hBW hV.bel.size) (by omega)).mono ?_
    rintro e w' ⟨v', rfl, k1, k2, k3⟩
    exact ⟨v', rfl, by rw [← HA4.out]; exact k1, hV.go k2 k3⟩
  have HT5 : Hid (∀ V v cs, StepT B W V → Hid (V.ownsRow B 5 1 v (n + a1 + a2 + a3 + a4) (nums cs)) → Calls Try.prog 70 #[v, .int .i64 ep] V fun e w' => ∃ v', e = .returned v' ∧ Hid (w'.ownsRow B 5 1 v' (n + a1 + a2 + a3 + a4 + a5) (nums (cs ++ (enc (ep).toNat)))) ∧ StepT B W w') := fun V v cs hV hr => by
    refine (appendNumber_T v (n + a1 + a2 + a3 + a4) cs (ep) B V (f6.1) (by omega) hr.out (Nat.le_trans hBW hV.bel.size) (by omega)).mono ?_
    rintro e w' ⟨v', rfl, k1, k2, k3⟩
    exact ⟨v', rfl, by rw [← HA5.out]; exact k1, hV.go k2 k3⟩
  have HT6 : Hid (∀ V v cs, StepT B W V → Hid (V.ownsRow B 5 1 v (n + a1 + a2 + a3 + a4 + a5) (nums cs)) → Calls Try.prog 96 #[v, .string sk] V fun e w' => ∃ v', e = .returned v' ∧ Hid (w'.ownsRow B 5 1 v' (n + a1 + a2 + a3 + a4 + a5 + a6) (nums (cs ++ (encText sk)))) ∧ StepT B W w') := fun V v cs hV hr => by
    refine (appendText_T v (n + a1 + a2 + a3 + a4 + a5) cs sk B V hr.out (Nat.le_trans hBW hV.bel.size) (by omega)).mono ?_
    rintro e w' ⟨v', rfl, k1, k2, k3⟩
    exact ⟨v', rfl, by rw [← HA6.out]; exact k1, hV.go k2 k3⟩
  have HT7 : Hid (∀ V v cs, StepT B W V → Hid (V.ownsRow B 5 1 v (n + a1 + a2 + a3 + a4 + a5 + a6) (nums cs)) → Calls Try.prog 70 #[v, .int .i64 qt] V fun e w' => ∃ v', e = .returned v' ∧ Hid (w'.ownsRow B 5 1 v' (n + a1 + a2 + a3 + a4 + a5 + a6 + a7) (nums (cs ++ (enc (qt).toNat)))) ∧ StepT B W w') := fun V v cs hV hr => by
    refine (appendNumber_T v (n + a1 + a2 + a3 + a4 + a5 + a6) cs (qt) B V (f8.1) (by omega) hr.out (Nat.le_trans hBW hV.bel.size) (by omega)).mono ?_
    rintro e w' ⟨v', rfl, k1, k2, k3⟩
    exact ⟨v', rfl, by rw [← HA7.out]; exact k1, hV.go k2 k3⟩
  have HT8 : Hid (∀ V v cs, StepT B W V → Hid (V.ownsRow B 5 1 v (n + a1 + a2 + a3 + a4 + a5 + a6 + a7) (nums cs)) → Calls Try.prog 93 #[v, .bool cl] V fun e w' => ∃ v', e = .returned v' ∧ Hid (w'.ownsRow B 5 1 v' (n + a1 + a2 + a3 + a4 + a5 + a6 + a7 + a8) (nums (cs ++ (encBC cl)))) ∧ StepT B W w') := fun V v cs hV hr => by
    refine (appendTruth_T v (n + a1 + a2 + a3 + a4 + a5 + a6 + a7) cs cl B V hr.out (Nat.le_trans hBW hV.bel.size) (by omega)).mono ?_
    rintro e w' ⟨v', rfl, k1, k2, k3⟩
    exact ⟨v', rfl, by rw [← HA8.out]; exact k1, hV.go k2 k3⟩
  have HLE : Hid (n + (enc o.toNat ++ enc s.toNat ++ encVC dp ++ encText ct ++ enc ep.toNat ++ encText sk ++ enc qt.toNat ++ encBC cl).length = n + a1 + a2 + a3 + a4 + a5 + a6 + a7 + a8) := by
    show _ = _
    simp only [List.length_append, HA1.out, HA2.out, HA3.out, HA4.out, HA5.out, HA6.out, HA7.out, HA8.out]
    omega
  have HEN : Hid (bs ++ (enc o.toNat ++ enc s.toNat ++ encVC dp ++ encText ct ++ enc ep.toNat ++ encText sk ++ enc qt.toNat ++ encBC cl) = bs ++ (enc (o).toNat) ++ (enc (s).toNat) ++ (encVC dp) ++ (encText ct) ++ (enc (ep).toNat) ++ (encText sk) ++ (enc (qt).toNat) ++ (encBC cl)) := by show _ = _; simp only [List.append_assoc]
  have HW := hid hW
  have c0 := HK.out.cell (i := 0) rfl
  have c1 := HK.out.cell (i := 1) rfl
  have c2 := HK.out.cell (i := 2) rfl
  have c3 := HK.out.cell (i := 3) rfl
  have c4 := HK.out.cell (i := 4) rfl
  have c5 := HK.out.cell (i := 5) rfl
  have c6 := HK.out.cell (i := 6) rfl
  have c7 := HK.out.cell (i := 7) rfl
  rw [HW.out] at c0 c1 c2 c3 c4 c5 c6 c7
  clear hW hown l1 m1 HA1 l2 m2 HA2 l3 m3 HA3 l4 m4 HA4 l5 m5 HA5 l6 m6 HA6 l7 m7 HA7 l8 m8 HA8 f1 f2 f3 f4 f5 f6 f7 f8 hv
  go_enter Try.func77, Try.ntmps77
  go_wp2_with fail
  rw [← HW.out]
  obtain ⟨p, hp⟩ : ∃ p, p = w.heap.size := ⟨_, rfl⟩
  rw [← hp] at HK ⊢
  clear hp c0 c1 c2 c3 c4 c5 c6 c7
  refine (HT1.out _ _ _ (StepT.start _ _) HR0).mono ?_
  rintro e w1 ⟨v1, rfl, HR1, hs1⟩
  have HS1 := hid hs1
  have hk1 := hs1.t8.blk HK.out (by decide)
  have c0 := hk1.cell (i := 0) rfl
  have c1 := hk1.cell (i := 1) rfl
  have c2 := hk1.cell (i := 2) rfl
  have c3 := hk1.cell (i := 3) rfl
  have c4 := hk1.cell (i := 4) rfl
  have c5 := hk1.cell (i := 5) rfl
  have c6 := hk1.cell (i := 6) rfl
  have c7 := hk1.cell (i := 7) rfl
  clear hs1 hk1 HT1
  go_wp2_with fail
  clear c0 c1 c2 c3 c4 c5 c6 c7
  refine (HT2.out _ _ _ (HS1.out) HR1).mono ?_
  rintro e w2 ⟨v2, rfl, HR2, hs2⟩
  have HS2 := hid hs2
  have hk2 := hs2.t8.blk HK.out (by decide)
  have c0 := hk2.cell (i := 0) rfl
  have c1 := hk2.cell (i := 1) rfl
  have c2 := hk2.cell (i := 2) rfl
  have c3 := hk2.cell (i := 3) rfl
  have c4 := hk2.cell (i := 4) rfl
  have c5 := hk2.cell (i := 5) rfl
  have c6 := hk2.cell (i := 6) rfl
  have c7 := hk2.cell (i := 7) rfl
  clear hs2 hk2 HT2
  go_wp2_with fail
  clear c0 c1 c2 c3 c4 c5 c6 c7
  refine (HT3.out _ _ _ (HS2.out) HR2).mono ?_
  rintro e w3 ⟨v3, rfl, HR3, hs3⟩
  have HS3 := hid hs3
  have hk3 := hs3.t8.blk HK.out (by decide)
  have c0 := hk3.cell (i := 0) rfl
  have c1 := hk3.cell (i := 1) rfl
  have c2 := hk3.cell (i := 2) rfl
  have c3 := hk3.cell (i := 3) rfl
  have c4 := hk3.cell (i := 4) rfl
  have c5 := hk3.cell (i := 5) rfl
  have c6 := hk3.cell (i := 6) rfl
  have c7 := hk3.cell (i := 7) rfl
  clear hs3 hk3 HT3
  go_wp2_with fail
  clear c0 c1 c2 c3 c4 c5 c6 c7
  refine (HT4.out _ _ _ (HS3.out) HR3).mono ?_
  rintro e w4 ⟨v4, rfl, HR4, hs4⟩
  have HS4 := hid hs4
  have hk4 := hs4.t8.blk HK.out (by decide)
  have c0 := hk4.cell (i := 0) rfl
  have c1 := hk4.cell (i := 1) rfl
  have c2 := hk4.cell (i := 2) rfl
  have c3 := hk4.cell (i := 3) rfl
  have c4 := hk4.cell (i := 4) rfl
  have c5 := hk4.cell (i := 5) rfl
  have c6 := hk4.cell (i := 6) rfl
  have c7 := hk4.cell (i := 7) rfl
  clear hs4 hk4 HT4
  go_wp2_with fail
  clear c0 c1 c2 c3 c4 c5 c6 c7
  refine (HT5.out _ _ _ (HS4.out) HR4).mono ?_
  rintro e w5 ⟨v5, rfl, HR5, hs5⟩
  have HS5 := hid hs5
  have hk5 := hs5.t8.blk HK.out (by decide)
  have c0 := hk5.cell (i := 0) rfl
  have c1 := hk5.cell (i := 1) rfl
  have c2 := hk5.cell (i := 2) rfl
  have c3 := hk5.cell (i := 3) rfl
  have c4 := hk5.cell (i := 4) rfl
  have c5 := hk5.cell (i := 5) rfl
  have c6 := hk5.cell (i := 6) rfl
  have c7 := hk5.cell (i := 7) rfl
  clear hs5 hk5 HT5
  go_wp2_with fail
  clear c0 c1 c2 c3 c4 c5 c6 c7
  refine (HT6.out _ _ _ (HS5.out) HR5).mono ?_
  rintro e w6 ⟨v6, rfl, HR6, hs6⟩
  have HS6 := hid hs6
  have hk6 := hs6.t8.blk HK.out (by decide)
  have c0 := hk6.cell (i := 0) rfl
  have c1 := hk6.cell (i := 1) rfl
  have c2 := hk6.cell (i := 2) rfl
  have c3 := hk6.cell (i := 3) rfl
  have c4 := hk6.cell (i := 4) rfl
  have c5 := hk6.cell (i := 5) rfl
  have c6 := hk6.cell (i := 6) rfl
  have c7 := hk6.cell (i := 7) rfl
  clear hs6 hk6 HT6
  go_wp2_with fail
  clear c0 c1 c2 c3 c4 c5 c6 c7
  refine (HT7.out _ _ _ (HS6.out) HR6).mono ?_
  rintro e w7 ⟨v7, rfl, HR7, hs7⟩
  have HS7 := hid hs7
  have hk7 := hs7.t8.blk HK.out (by decide)
  have c0 := hk7.cell (i := 0) rfl
  have c1 := hk7.cell (i := 1) rfl
  have c2 := hk7.cell (i := 2) rfl
  have c3 := hk7.cell (i := 3) rfl
  have c4 := hk7.cell (i := 4) rfl
  have c5 := hk7.cell (i := 5) rfl
  have c6 := hk7.cell (i := 6) rfl
  have c7 := hk7.cell (i := 7) rfl
  clear hs7 hk7 HT7
  go_wp2_with fail
  clear c0 c1 c2 c3 c4 c5 c6 c7
  refine (HT8.out _ _ _ (HS7.out) HR7).mono ?_
  rintro e w8 ⟨v8, rfl, HR8, hs8⟩
  have HS8 := hid hs8
  have hk8 := hs8.t8.blk HK.out (by decide)
  have c0 := hk8.cell (i := 0) rfl
  have c1 := hk8.cell (i := 1) rfl
  have c2 := hk8.cell (i := 2) rfl
  have c3 := hk8.cell (i := 3) rfl
  have c4 := hk8.cell (i := 4) rfl
  have c5 := hk8.cell (i := 5) rfl
  have c6 := hk8.cell (i := 6) rfl
  have c7 := hk8.cell (i := 7) rfl
  clear hs8 hk8 HT8
  have HF : Hid (StepT B w w8) := ⟨HB.out.bel.trans HS8.out.bel, HB.out.t8.trans HS8.out.t8⟩
  go_wp2
  go_ret
  refine ⟨_, rfl, ?_, HF.out.bel, HF.out.t8⟩
  rw [HLE.out, HEN.out]
  exact HR8.out
end Go.Proofs.Ytgghfmdciohinaa
