/-
  Package codec: how an entry and a vote are written.
-/
import Derived.Test.YtfmnbehopdmahaaGreatCodV
namespace Go.Proofs.YtfmnbehopdmahaaGreat
open Go.RowKit Go.Maps
attribute [local go_sem] Oper.semAt_some

theorem se_len {e : En} (h : SeF e) : (encSe e).length ≤ 200 := by
  unfold encSe
  simp only [List.length_append]
  have h1 := text_len h.t
  have h2 := text_len h.c
  have h3 := enc_le10 (x := e.ep.toNat) (by have := h.ep; omega)
  have h4 := vec_len h.l h.i
  omega
/-- An entry as bytes. -/
def encEn (e : En) : List Int := encBC e.noop ++ (if e.noop = true then [] else encSe e)
theorem en_len {e : En} (h : e.noop = false → SeF e) : (encEn e).length ≤ 201 := by
  unfold encEn
  rw [List.length_append]
  have h1 : (encBC e.noop).length = 1 := rfl
  split
  · simp
    omega
  · next hn =>
    have := se_len (h (by simpa using hn))
    omega
set_option maxRecDepth 100000 in
set_option maxHeartbeats 1000000 in
theorem appendEntryN_T (u : Value) (n : Nat) (bs : List Int) (tk ct : ByteArray) (ep : Int) (cut : List Int) (ao1 : Option Addr) (cap1 : Nat) (B : Nat) (w : World)  (hown : w.ownsRow B 5 1 u n (nums bs)) (hB : B ≤ w.heap.size) (hn : n ≤ 140737488200000) :
    Calls Tryz.prog 103 #[u, .agg #[.bool true, .string tk, .string ct, .int .i64 ep, .slice ao1 cut.length cap1]] w (AppP B w n bs (encBC true)) := by
  obtain ⟨W, hW⟩ : ∃ W, W = w.alloc (.cells #[.bool true, .string tk, .string ct, .int .i64 ep, .slice ao1 cut.length cap1] 39) := ⟨_, rfl⟩
  have HB : Hid (StepT B w W) := by rw [hW]; exact ⟨(Below.refl _ _).alloc hB _, (T8.refl w).alloc _⟩
  have HK : Hid (Blk W w.heap.size 39 [.bool true, .string tk, .string ct, .int .i64 ep, .slice ao1 cut.length cap1]) := by rw [hW]; exact Blk.new w _ _
  have HR0 : Hid (W.ownsRow B 5 1 u n (nums bs)) := by rw [hW]; exact hown.alloc _
  have hBW : B ≤ W.heap.size := Nat.le_trans hB HB.out.bel.size
  have l1 : (encBC true).length ≤ 2 := Nat.le_succ_of_le (Nat.le_refl _)
  obtain ⟨a1, HA1⟩ : ∃ a, Hid ((encBC true).length = a) := ⟨_, hid rfl⟩
  have m1 : a1 ≤ 2 := by rw [← HA1.out]; exact l1
  have HT1 : Hid (∀ V v cs, StepT B W V → Hid (V.ownsRow B 5 1 v (n) (nums cs)) → Calls Tryz.prog 150 #[v, .bool true] V fun e w' => ∃ v', e = .returned v' ∧ Hid (w'.ownsRow B 5 1 v' (n + a1) (nums (cs ++ (encBC true)))) ∧ StepT B W w') := fun V v cs hV hr => by
    refine (appendTruth_T v (n) cs true B V hr.out (Nat.le_trans hBW hV.bel.size) (by omega)).mono ?_
    rintro e w' ⟨v', rfl, k1, k2, k3⟩
    exact ⟨v', rfl, by rw [← HA1.out]; exact k1, hV.go k2 k3⟩
  have HLE : Hid (n + (encBC true).length = n + a1) := by
    show _ = _
    rw [HA1.out]
  have HW := hid hW
  have c0 := HK.out.cell (i := 0) rfl
  have c1 := HK.out.cell (i := 1) rfl
  have c2 := HK.out.cell (i := 2) rfl
  have c3 := HK.out.cell (i := 3) rfl
  have c4 := HK.out.cell (i := 4) rfl
  rw [HW.out] at c0 c1 c2 c3 c4
  clear hW hown l1 m1 HA1
  go_enter Tryz.func103, Tryz.ntmps103
  go_wp2_with fail
  rw [← HW.out]
  obtain ⟨p, hp⟩ : ∃ p, p = w.heap.size := ⟨_, rfl⟩
  rw [← hp] at HK ⊢
  clear hp c0 c1 c2 c3 c4
  refine (HT1.out _ _ _ (StepT.start _ _) HR0).mono ?_
  rintro e w1 ⟨v1, rfl, HR1, hs1⟩
  have HS1 := hid hs1
  have hk1 := hs1.t8.blk HK.out (by decide)
  have c0 := hk1.cell (i := 0) rfl
  have c1 := hk1.cell (i := 1) rfl
  have c2 := hk1.cell (i := 2) rfl
  have c3 := hk1.cell (i := 3) rfl
  have c4 := hk1.cell (i := 4) rfl
  clear hs1 hk1 HT1
  have HF : Hid (StepT B w w1) := ⟨HB.out.bel.trans HS1.out.bel, HB.out.t8.trans HS1.out.t8⟩
  go_wp2
  go_ret
  refine ⟨_, rfl, ?_, HF.out.bel, HF.out.t8⟩
  rw [HLE.out]
  exact HR1.out
set_option maxRecDepth 100000 in
set_option maxHeartbeats 1000000 in
theorem appendEntryS_T (u : Value) (n : Nat) (bs : List Int) (tk ct : ByteArray) (ep : Int) (cut : List Int) (ao1 : Option Addr) (cap1 : Nat) (B : Nat) (w : World) (hf : SeF ⟨false, tk, ct, ep, cut⟩) (hv : ∀ V, Below B w V → HV V ao1 cap1 cut) (hown : w.ownsRow B 5 1 u n (nums bs)) (hB : B ≤ w.heap.size) (hn : n ≤ 140737488200000) :
    Calls Tryz.prog 103 #[u, .agg #[.bool false, .string tk, .string ct, .int .i64 ep, .slice ao1 cut.length cap1]] w (AppP B w n bs (encBC false ++ encSe ⟨false, tk, ct, ep, cut⟩)) := by
  obtain ⟨W, hW⟩ : ∃ W, W = w.alloc (.cells #[.bool false, .string tk, .string ct, .int .i64 ep, .slice ao1 cut.length cap1] 39) := ⟨_, rfl⟩
  have HB : Hid (StepT B w W) := by rw [hW]; exact ⟨(Below.refl _ _).alloc hB _, (T8.refl w).alloc _⟩
  have HK : Hid (Blk W w.heap.size 39 [.bool false, .string tk, .string ct, .int .i64 ep, .slice ao1 cut.length cap1]) := by rw [hW]; exact Blk.new w _ _
  have HR0 : Hid (W.ownsRow B 5 1 u n (nums bs)) := by rw [hW]; exact hown.alloc _
  have hBW : B ≤ W.heap.size := Nat.le_trans hB HB.out.bel.size
  have l1 : (encBC false).length ≤ 2 := Nat.le_succ_of_le (Nat.le_refl _)
  obtain ⟨a1, HA1⟩ : ∃ a, Hid ((encBC false).length = a) := ⟨_, hid rfl⟩
  have m1 : a1 ≤ 2 := by rw [← HA1.out]; exact l1
  have l2 : (encSe ⟨false, tk, ct, ep, cut⟩).length ≤ 200 := se_len hf
  obtain ⟨a2, HA2⟩ : ∃ a, Hid ((encSe ⟨false, tk, ct, ep, cut⟩).length = a) := ⟨_, hid rfl⟩
  have m2 : a2 ≤ 200 := by rw [← HA2.out]; exact l2
  have HT1 : Hid (∀ V v cs, StepT B W V → Hid (V.ownsRow B 5 1 v (n) (nums cs)) → Calls Tryz.prog 150 #[v, .bool false] V fun e w' => ∃ v', e = .returned v' ∧ Hid (w'.ownsRow B 5 1 v' (n + a1) (nums (cs ++ (encBC false)))) ∧ StepT B W w') := fun V v cs hV hr => by
    refine (appendTruth_T v (n) cs false B V hr.out (Nat.le_trans hBW hV.bel.size) (by omega)).mono ?_
    rintro e w' ⟨v', rfl, k1, k2, k3⟩
    exact ⟨v', rfl, by rw [← HA1.out]; exact k1, hV.go k2 k3⟩
  have HT2 : Hid (∀ V v cs, StepT B W V → Hid (V.ownsRow B 5 1 v (n + a1) (nums cs)) → Calls Tryz.prog 151 #[v, .agg #[.string tk, .string ct, .int .i64 ep, .slice ao1 cut.length cap1]] V fun e w' => ∃ v', e = .returned v' ∧ Hid (w'.ownsRow B 5 1 v' (n + a1 + a2) (nums (cs ++ (encSe ⟨false, tk, ct, ep, cut⟩)))) ∧ StepT B W w') := fun V v cs hV hr => by
    refine (appendSeal_T v (n + a1) cs ⟨⟨false, tk, ct, ep, cut⟩, ao1, cap1⟩ B V hf (fun U hU => hv U (HB.out.bel.trans (hV.bel.trans hU))) hr.out (Nat.le_trans hBW hV.bel.size) (by omega)).mono ?_
    rintro e w' ⟨v', rfl, k1, k2, k3⟩
    exact ⟨v', rfl, by rw [← HA2.out]; exact k1, hV.go k2 k3⟩
  have HLE : Hid (n + (encBC false ++ encSe ⟨false, tk, ct, ep, cut⟩).length = n + a1 + a2) := by
    show _ = _
    simp only [List.length_append, HA1.out, HA2.out]
    omega
  have HEN : Hid (bs ++ (encBC false ++ encSe ⟨false, tk, ct, ep, cut⟩) = bs ++ (encBC false) ++ (encSe ⟨false, tk, ct, ep, cut⟩)) := by show _ = _; simp only [List.append_assoc]
  have HW := hid hW
  have c0 := HK.out.cell (i := 0) rfl
  have c1 := HK.out.cell (i := 1) rfl
  have c2 := HK.out.cell (i := 2) rfl
  have c3 := HK.out.cell (i := 3) rfl
  have c4 := HK.out.cell (i := 4) rfl
  rw [HW.out] at c0 c1 c2 c3 c4
  clear hW hown l1 m1 HA1 l2 m2 HA2 hf hv
  go_enter Tryz.func103, Tryz.ntmps103
  go_wp2_with fail
  rw [← HW.out]
  obtain ⟨p, hp⟩ : ∃ p, p = w.heap.size := ⟨_, rfl⟩
  rw [← hp] at HK ⊢
  clear hp c0 c1 c2 c3 c4
  refine (HT1.out _ _ _ (StepT.start _ _) HR0).mono ?_
  rintro e w1 ⟨v1, rfl, HR1, hs1⟩
  have HS1 := hid hs1
  have hk1 := hs1.t8.blk HK.out (by decide)
  have c0 := hk1.cell (i := 0) rfl
  have c1 := hk1.cell (i := 1) rfl
  have c2 := hk1.cell (i := 2) rfl
  have c3 := hk1.cell (i := 3) rfl
  have c4 := hk1.cell (i := 4) rfl
  clear hs1 hk1 HT1
  go_wp2_with fail
  clear c0 c1 c2 c3 c4
  refine (HT2.out _ _ _ (HS1.out) HR1).mono ?_
  rintro e w2 ⟨v2, rfl, HR2, hs2⟩
  have HS2 := hid hs2
  have hk2 := hs2.t8.blk HK.out (by decide)
  have c0 := hk2.cell (i := 0) rfl
  have c1 := hk2.cell (i := 1) rfl
  have c2 := hk2.cell (i := 2) rfl
  have c3 := hk2.cell (i := 3) rfl
  have c4 := hk2.cell (i := 4) rfl
  clear hs2 hk2 HT2
  have HF : Hid (StepT B w w2) := ⟨HB.out.bel.trans HS2.out.bel, HB.out.t8.trans HS2.out.t8⟩
  go_wp2
  go_ret
  refine ⟨_, rfl, ?_, HF.out.bel, HF.out.t8⟩
  rw [HLE.out, HEN.out]
  exact HR2.out
theorem appendEntry_T (u : Value) (n : Nat) (bs : List Int) (x : EnM) (B : Nat) (w : World) (hf : x.e.noop = false → SeF x.e) (hv : ∀ V, Below B w V → HV V x.ao x.cap x.e.cut) (hown : w.ownsRow B 5 1 u n (nums bs)) (hB : B ≤ w.heap.size) (hn : n ≤ 140737488200000) :
    Calls Tryz.prog 103 #[u, x.val] w (AppP B w n bs (encEn x.e)) := by
  obtain ⟨⟨np, tk, ct, ep, cut⟩, ao1, cap1⟩ := x
  cases np
  · exact appendEntryS_T u n bs tk ct ep cut ao1 cap1 B w (hf rfl) hv hown hB hn
  · have := appendEntryN_T u n bs tk ct ep cut ao1 cap1 B w hown hB hn
    have he : encEn ⟨true, tk, ct, ep, cut⟩ = encBC true := by unfold encEn; simp
    rw [he]
    exact this
/-- A vote as bytes. -/
def encVo (x : VoM) : List Int := enc x.slot.toNat ++ (enc x.bal.1.toNat ++ enc x.bal.2.toNat) ++ encEn x.en.e
structure VoF (x : VoM) : Prop where
  s : 0 ≤ x.slot ∧ x.slot ≤ 2147483647
  b1 : 0 ≤ x.bal.1 ∧ x.bal.1 ≤ 2147483647
  b2 : 0 ≤ x.bal.2 ∧ x.bal.2 ≤ 6
  en : x.en.e.noop = false → SeF x.en.e
theorem rightEn_iff {e : En} (h : RightEn e = true) : e.noop = false → SeF e := fun hn => by
  unfold RightEn at h
  rw [hn] at h
  exact rightSe_iff h
theorem rightBal_iff {b : Int × Int} (h : RightBal b = true) : (0 ≤ b.1 ∧ b.1 ≤ 2147483647) ∧ (0 ≤ b.2 ∧ b.2 ≤ 6) := by
  unfold RightBal at h
  simpa only [Bool.and_eq_true, decide_eq_true_eq] using h
theorem rightVo_iff {x : VoM} (h : RightVo x = true) : VoF x := by
  unfold RightVo at h
  simp only [Bool.and_eq_true, decide_eq_true_eq] at h
  exact ⟨h.1, (rightBal_iff h.2.1).1, (rightBal_iff h.2.1).2, rightEn_iff h.2.2⟩
theorem bal_len {r nd : Int} (h1 : 0 ≤ r ∧ r ≤ 2147483647) (h2 : 0 ≤ nd ∧ nd ≤ 6) : (enc r.toNat ++ enc nd.toNat).length ≤ 20 := by
  rw [List.length_append]
  have l1 := enc_le10 (x := r.toNat) (by omega)
  have l2 := enc_le10 (x := nd.toNat) (by omega)
  omega
set_option maxRecDepth 100000 in
set_option maxHeartbeats 1000000 in
theorem appendVoted_T (u : Value) (n : Nat) (bs : List Int) (x : VoM) (B : Nat) (w : World) (hf : VoF x) (hv : ∀ V, Below B w V → HV V x.en.ao x.en.cap x.en.e.cut) (hown : w.ownsRow B 5 1 u n (nums bs)) (hB : B ≤ w.heap.size) (hn : n ≤ 140737488100000) :
    Calls Tryz.prog 105 #[u, x.val] w (AppP B w n bs (encVo x)) := by
  obtain ⟨sl, ⟨b1, b2⟩, ⟨np, tk, ct, ep, cut⟩, ao1, cap1⟩ := x
  obtain ⟨f1, f2, f3, f4⟩ := hf
  dsimp only [VoM.val] at f1 f2 f3 f4 hv ⊢
  unfold encVo
  dsimp only
  obtain ⟨W, hW⟩ : ∃ W, W = w.alloc (.cells #[.int .i64 sl, .int .i64 b1, .int .i64 b2, .bool np, .string tk, .string ct, .int .i64 ep, .slice ao1 cut.length cap1] 73) := ⟨_, rfl⟩
  have HB : Hid (StepT B w W) := by rw [hW]; exact ⟨(Below.refl _ _).alloc hB _, (T8.refl w).alloc _⟩
  have HK : Hid (Blk W w.heap.size 73 [.int .i64 sl, .int .i64 b1, .int .i64 b2, .bool np, .string tk, .string ct, .int .i64 ep, .slice ao1 cut.length cap1]) := by rw [hW]; exact Blk.new w _ _
  have HR0 : Hid (W.ownsRow B 5 1 u n (nums bs)) := by rw [hW]; exact hown.alloc _
  have hBW : B ≤ W.heap.size := Nat.le_trans hB HB.out.bel.size
  have l1 : (enc (sl).toNat).length ≤ 10 := enc_le10 (by omega)
  obtain ⟨a1, HA1⟩ : ∃ a, Hid ((enc (sl).toNat).length = a) := ⟨_, hid rfl⟩
  have m1 : a1 ≤ 10 := by rw [← HA1.out]; exact l1
  have l2 : (enc b1.toNat ++ enc b2.toNat).length ≤ 20 := bal_len f2 f3
  obtain ⟨a2, HA2⟩ : ∃ a, Hid ((enc b1.toNat ++ enc b2.toNat).length = a) := ⟨_, hid rfl⟩
  have m2 : a2 ≤ 20 := by rw [← HA2.out]; exact l2
  have l3 : (encEn ⟨np, tk, ct, ep, cut⟩).length ≤ 201 := en_len f4
  obtain ⟨a3, HA3⟩ : ∃ a, Hid ((encEn ⟨np, tk, ct, ep, cut⟩).length = a) := ⟨_, hid rfl⟩
  have m3 : a3 ≤ 201 := by rw [← HA3.out]; exact l3
  have HT1 : Hid (∀ V v cs, StepT B W V → Hid (V.ownsRow B 5 1 v (n) (nums cs)) → Calls Tryz.prog 101 #[v, .int .i64 sl] V fun e w' => ∃ v', e = .returned v' ∧ Hid (w'.ownsRow B 5 1 v' (n + a1) (nums (cs ++ (enc (sl).toNat)))) ∧ StepT B W w') := fun V v cs hV hr => by
    refine (appendNumber_T v (n) cs (sl) B V (f1.1) (by omega) hr.out (Nat.le_trans hBW hV.bel.size) (by omega)).mono ?_
    rintro e w' ⟨v', rfl, k1, k2, k3⟩
    exact ⟨v', rfl, by rw [← HA1.out]; exact k1, hV.go k2 k3⟩
  have HT2 : Hid (∀ V v cs, StepT B W V → Hid (V.ownsRow B 5 1 v (n + a1) (nums cs)) → Calls Tryz.prog 102 #[v, .agg #[.int .i64 b1, .int .i64 b2]] V fun e w' => ∃ v', e = .returned v' ∧ Hid (w'.ownsRow B 5 1 v' (n + a1 + a2) (nums (cs ++ (enc b1.toNat ++ enc b2.toNat)))) ∧ StepT B W w') := fun V v cs hV hr => by
    refine (appendBallot_T v (n + a1) cs b1 b2 B V f2 f3 hr.out (Nat.le_trans hBW hV.bel.size) (by omega)).mono ?_
    rintro e w' ⟨v', rfl, k1, k2, k3⟩
    exact ⟨v', rfl, by rw [← HA2.out]; exact k1, hV.go k2 k3⟩
  have HT3 : Hid (∀ V v cs, StepT B W V → Hid (V.ownsRow B 5 1 v (n + a1 + a2) (nums cs)) → Calls Tryz.prog 103 #[v, .agg #[.bool np, .string tk, .string ct, .int .i64 ep, .slice ao1 cut.length cap1]] V fun e w' => ∃ v', e = .returned v' ∧ Hid (w'.ownsRow B 5 1 v' (n + a1 + a2 + a3) (nums (cs ++ (encEn ⟨np, tk, ct, ep, cut⟩)))) ∧ StepT B W w') := fun V v cs hV hr => by
    refine (appendEntry_T v (n + a1 + a2) cs ⟨⟨np, tk, ct, ep, cut⟩, ao1, cap1⟩ B V f4 (fun U hU => hv U (HB.out.bel.trans (hV.bel.trans hU))) hr.out (Nat.le_trans hBW hV.bel.size) (by omega)).mono ?_
    rintro e w' ⟨v', rfl, k1, k2, k3⟩
    exact ⟨v', rfl, by rw [← HA3.out]; exact k1, hV.go k2 k3⟩
  have HLE : Hid (n + (enc sl.toNat ++ (enc b1.toNat ++ enc b2.toNat) ++ encEn ⟨np, tk, ct, ep, cut⟩).length = n + a1 + a2 + a3) := by
    show _ = _
    simp only [List.length_append, HA1.out, HA2.out, HA3.out]
    omega
  have HEN : Hid (bs ++ (enc sl.toNat ++ (enc b1.toNat ++ enc b2.toNat) ++ encEn ⟨np, tk, ct, ep, cut⟩) = bs ++ (enc (sl).toNat) ++ (enc b1.toNat ++ enc b2.toNat) ++ (encEn ⟨np, tk, ct, ep, cut⟩)) := by show _ = _; simp only [List.append_assoc]
  have HW := hid hW
  have c0 := HK.out.cell (i := 0) rfl
  have c1 := HK.out.cell (i := 1) rfl
  have c2 := HK.out.cell (i := 2) rfl
  have c3 := HK.out.cell (i := 3) rfl
  have c4 := HK.out.cell (i := 4) rfl
  have c5 := HK.out.cell (i := 5) rfl
  have c6 := HK.out.cell (i := 6) rfl
  have c7 := HK.out.cell (i := 7) rfl
  rw [HW.out] at c0 c1 c2 c3 c4 c5 c6 c7
  clear hW hown l1 m1 HA1 l2 m2 HA2 l3 m3 HA3 f1 f2 f3 f4 hv
  go_enter Tryz.func105, Tryz.ntmps105
  go_wp2_with fail
  rw [← HW.out]
  obtain ⟨p, hp⟩ : ∃ p, p = w.heap.size := ⟨_, rfl⟩
  rw [← hp] at HK ⊢
  clear hp c0 c1 c2 c3 c4 c5 c6 c7
  refine (HT1.out _ _ _ (StepT.start _ _) HR0).mono ?_
  rintro e w1 ⟨v1, rfl, HR1, hs1⟩
  have HS1 := hid hs1
  have hk1 := hs1.t8.blk HK.out (by decide)
  have c0 := hk1.cell (i := 0) rfl
  have c1 := hk1.cell (i := 1) rfl
  have c2 := hk1.cell (i := 2) rfl
  have c3 := hk1.cell (i := 3) rfl
  have c4 := hk1.cell (i := 4) rfl
  have c5 := hk1.cell (i := 5) rfl
  have c6 := hk1.cell (i := 6) rfl
  have c7 := hk1.cell (i := 7) rfl
  clear hs1 hk1 HT1
  go_wp2_with fail
  clear c0 c1 c2 c3 c4 c5 c6 c7
  refine (HT2.out _ _ _ (HS1.out) HR1).mono ?_
  rintro e w2 ⟨v2, rfl, HR2, hs2⟩
  have HS2 := hid hs2
  have hk2 := hs2.t8.blk HK.out (by decide)
  have c0 := hk2.cell (i := 0) rfl
  have c1 := hk2.cell (i := 1) rfl
  have c2 := hk2.cell (i := 2) rfl
  have c3 := hk2.cell (i := 3) rfl
  have c4 := hk2.cell (i := 4) rfl
  have c5 := hk2.cell (i := 5) rfl
  have c6 := hk2.cell (i := 6) rfl
  have c7 := hk2.cell (i := 7) rfl
  clear hs2 hk2 HT2
  go_wp2_with fail
  clear c0 c1 c2 c3 c4 c5 c6 c7
  refine (HT3.out _ _ _ (HS2.out) HR2).mono ?_
  rintro e w3 ⟨v3, rfl, HR3, hs3⟩
  have HS3 := hid hs3
  have hk3 := hs3.t8.blk HK.out (by decide)
  have c0 := hk3.cell (i := 0) rfl
  have c1 := hk3.cell (i := 1) rfl
  have c2 := hk3.cell (i := 2) rfl
  have c3 := hk3.cell (i := 3) rfl
  have c4 := hk3.cell (i := 4) rfl
  have c5 := hk3.cell (i := 5) rfl
  have c6 := hk3.cell (i := 6) rfl
  have c7 := hk3.cell (i := 7) rfl
  clear hs3 hk3 HT3
  have HF : Hid (StepT B w w3) := ⟨HB.out.bel.trans HS3.out.bel, HB.out.t8.trans HS3.out.t8⟩
  go_wp2
  go_ret
  refine ⟨_, rfl, ?_, HF.out.bel, HF.out.t8⟩
  rw [HLE.out, HEN.out]
  exact HR3.out
end Go.Proofs.YtfmnbehopdmahaaGreat
