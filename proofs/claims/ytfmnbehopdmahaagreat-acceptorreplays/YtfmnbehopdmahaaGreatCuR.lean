/-
  codec.Seal of any seal: whether it may be, and its bytes.
-/
import Derived.Test.YtfmnbehopdmahaaGreatEvMay
import Derived.Test.YtfmnbehopdmahaaGreatRdV
import Derived.Test.YtfmnbehopdmahaaGreatCodZ
namespace Go.Proofs.YtfmnbehopdmahaaGreat
open Go.RowKit Go.Maps

/-- A seal as bytes. -/
def encSl (s : Sl) : List Int := encText s.tok ++ encText s.cart ++ enc s.ep.toNat ++ encV s.cut
theorem rightSl_iff {s : Sl} (h : RightSl s = true) : nameS s.tok = true ∧ nameS s.cart = true ∧ (0 ≤ s.ep ∧ s.ep ≤ 2147483647) ∧ InV s.cut ∧ s.cut.length ≤ 7 := by
  unfold RightSl at h
  simp only [Bool.and_eq_true, decide_eq_true_eq] at h
  obtain ⟨h1, h2, h3, h4⟩ := h
  unfold rightV at h4
  simp only [Bool.and_eq_true, decide_eq_true_eq] at h4
  exact ⟨h1, h2, h3, h4.1, h4.2.1⟩
theorem encSl_len {s : Sl} (h : RightSl s = true) : (encSl s).length ≤ 200 := by
  obtain ⟨h1, h2, h3, h4, h5⟩ := rightSl_iff h
  have z1 := nameS_size h1
  have z2 := nameS_size h2
  have l1 := encText_len s.tok
  have l2 := encText_len s.cart
  have m1 := enc_le10 (x := s.tok.size) (by omega)
  have m2 := enc_le10 (x := s.cart.size) (by omega)
  have m3 := enc_le10 (x := s.ep.toNat) (by omega)
  have m4 := encV_len h4 h5
  unfold encSl
  simp only [List.length_append]
  omega
set_option maxRecDepth 100000 in
set_option maxHeartbeats 1000000 in
theorem maySeal_any (w : World) (x : SlM) (hx : SlOk w x) :
    Calls Tryz.prog 143 #[x.val] w fun e w' => e = .returned (.bool (RightSl x.e)) ∧ Below w.heap.size w w' := by
  obtain ⟨⟨tok, cart, ep, cut⟩, ao1, cap1⟩ := x
  obtain ⟨XN, HXN⟩ : ∃ m, Hid (cut.length = m) := ⟨_, hid rfl⟩
  simp only [SlM.val]
  rw [HXN.out]
  have HB : Hid (Below w.heap.size w (w.alloc (.cells #[.string tok, .string cart, .int .i64 ep, .slice ao1 XN cap1] 37))) := (Below.refl _ _).alloc (Nat.le_refl _) _
  have hk := Blk.new w 37 [.string tok, .string cart, .int .i64 ep, .slice ao1 XN cap1]
  have c0 := hk.cell (i := 0) rfl
  have c1 := hk.cell (i := 1) rfl
  have c2 := hk.cell (i := 2) rfl
  have c3 := hk.cell (i := 3) rfl
  have HN1 := hid (fun V => codecName_any tok V hx.ht)
  have HN2 := hid (fun V => codecName_any cart V hx.hc)
  have HT := hid (fun V => upTo_any V ep 2147483647)
  have HV' := hid (mayVector_any (w.alloc (.cells #[.string tok, .string cart, .int .i64 ep, .slice ao1 XN cap1] 37)) ao1 cap1 cut XN HXN.out (hx.cut.below HB.out))
  have HR : Hid (RightSl ⟨tok, cart, ep, cut⟩ = (nameS tok && (nameS cart && (decide (0 ≤ ep ∧ ep ≤ 2147483647) && rightV cut)))) := rfl
  rw [HR.out]
  obtain ⟨b1, HB1⟩ : ∃ b, Hid (nameS tok = b) := ⟨_, hid rfl⟩
  obtain ⟨b2, HB2⟩ : ∃ b, Hid (nameS cart = b) := ⟨_, hid rfl⟩
  obtain ⟨b3, HB3⟩ : ∃ b, Hid (decide (0 ≤ ep ∧ ep ≤ 2147483647) = b) := ⟨_, hid rfl⟩
  obtain ⟨b4, HB4⟩ : ∃ b, Hid (rightV cut = b) := ⟨_, hid rfl⟩
  rw [HB1.out] at HN1 ⊢
  rw [HB2.out] at HN2 ⊢
  rw [HB3.out] at HT ⊢
  rw [HB4.out] at HV' ⊢
  clear hk hx HB1 HB2 HB3 HB4 HR
  cases b1
  · go_enter Tryz.func143, Tryz.ntmps143
    go_wp2_with fail
    refine (HN1.out _).mono ?_
    rintro e w' ⟨rfl, rfl⟩
    go_wp2
    go_ret
    exact ⟨rfl, HB.out⟩
  cases b2
  · go_enter Tryz.func143, Tryz.ntmps143
    go_wp2_with fail
    refine (HN1.out _).mono ?_
    rintro e w' ⟨rfl, rfl⟩
    go_wp2_with fail
    refine (HN2.out _).mono ?_
    rintro e w' ⟨rfl, rfl⟩
    go_wp2
    go_ret
    exact ⟨rfl, HB.out⟩
  cases b3
  · go_enter Tryz.func143, Tryz.ntmps143
    go_wp2_with fail
    refine (HN1.out _).mono ?_
    rintro e w' ⟨rfl, rfl⟩
    go_wp2_with fail
    refine (HN2.out _).mono ?_
    rintro e w' ⟨rfl, rfl⟩
    go_wp2_with fail
    refine (HT.out _).mono ?_
    rintro e w' ⟨rfl, rfl⟩
    go_wp2
    go_ret
    exact ⟨rfl, HB.out⟩
  go_enter Tryz.func143, Tryz.ntmps143
  go_wp2_with fail
  refine (HN1.out _).mono ?_
  rintro e w' ⟨rfl, rfl⟩
  go_wp2_with fail
  refine (HN2.out _).mono ?_
  rintro e w' ⟨rfl, rfl⟩
  go_wp2_with fail
  refine (HT.out _).mono ?_
  rintro e w' ⟨rfl, rfl⟩
  go_wp2_with fail
  refine HV'.out.mono ?_
  rintro e w' ⟨rfl, rfl⟩
  go_wp2
  go_ret
  exact ⟨rfl, HB.out⟩
set_option maxRecDepth 100000 in
set_option maxHeartbeats 1000000 in
theorem appendSeal_any (w : World) (x : SlM) (hx : SlOk w x) (hr : RightSl x.e = true) :
    Calls Tryz.prog 151 #[.slice none 0 0, x.val] w fun e w' => ∃ v', e = .returned v' ∧ w'.ownsRow w.heap.size 5 1 v' (encSl x.e).length (nums (encSl x.e)) ∧ Below w.heap.size w w' := by
  obtain ⟨⟨tok, cart, ep, cut⟩, ao1, cap1⟩ := x
  obtain ⟨h1, h2, h3, h4, h5⟩ := rightSl_iff hr
  dsimp only at h1 h2 h3 h4 h5
  have z1 := nameS_size h1
  have z2 := nameS_size h2
  obtain ⟨XN, HXN⟩ : ∃ m, Hid (cut.length = m) := ⟨_, hid rfl⟩
  simp only [SlM.val]
  rw [HXN.out] at h5 ⊢
  obtain ⟨W, hW⟩ : ∃ W, W = w.alloc (.cells #[.string tok, .string cart, .int .i64 ep, .slice ao1 XN cap1] 37) := ⟨_, rfl⟩
  have HB : Hid (Below w.heap.size w W) := by rw [hW]; exact (Below.refl _ _).alloc (Nat.le_refl _) _
  have HK : Hid (Blk W w.heap.size 37 [.string tok, .string cart, .int .i64 ep, .slice ao1 XN cap1]) := by rw [hW]; exact Blk.new w _ _
  have l1 := encText_len tok
  have l2 := encText_len cart
  have m1 := enc_le10 (x := tok.size) (by omega)
  have m2 := enc_le10 (x := cart.size) (by omega)
  have m3 := enc_le10 (x := ep.toNat) (by omega)
  have HT1 := hid (appendText_own (.slice none 0 0) 0 [] tok W.heap.size W (World.ownsRow_nil _ _ _ _) (Nat.le_refl _) (by omega))
  rw [List.nil_append] at HT1
  obtain ⟨a1, ha1⟩ : ∃ a, a = (encText tok).length := ⟨_, rfl⟩
  obtain ⟨a2, ha2⟩ : ∃ a, a = (encText cart).length := ⟨_, rfl⟩
  obtain ⟨a3, ha3⟩ : ∃ a, a = (enc ep.toNat).length := ⟨_, rfl⟩
  have hs : a1 + a2 + a3 ≤ 94 := by omega
  rw [← ha1] at HT1
  have HT2 := hid (fun v bs V (hr : V.ownsRow W.heap.size 5 1 v (0 + a1) (nums bs)) (hV : W.heap.size ≤ V.heap.size) => appendText_own v (0 + a1) bs cart W.heap.size V hr hV (by omega))
  rw [← ha2] at HT2
  have HT3 := hid (fun v bs V (hr : V.ownsRow W.heap.size 5 1 v (0 + a1 + a2) (nums bs)) (hV : W.heap.size ≤ V.heap.size) => appendNumber_own v (0 + a1 + a2) bs ep W.heap.size V h3.1 (by omega) hr hV (by omega))
  rw [← ha3] at HT3
  have HCV := hid (hx.cut.below HB.out)
  have HT4 := hid (fun v bs V (hr : V.ownsRow W.heap.size 5 1 v (0 + a1 + a2 + a3) (nums bs)) (hV : Below W.heap.size W V) => appendVector_own v (0 + a1 + a2 + a3) bs ao1 cap1 cut XN HXN.out W.heap.size V (fun U hU => HCV.out.below (hV.trans hU)) h5 h4 hr hV.size (by omega))
  have HE : Hid ((encSl ⟨tok, cart, ep, cut⟩).length = 0 + a1 + a2 + a3 + (encV cut).length ∧ encSl ⟨tok, cart, ep, cut⟩ = encText tok ++ encText cart ++ enc ep.toNat ++ encV cut) := by
    refine ⟨?_, rfl⟩
    unfold encSl
    simp only [List.length_append]
    omega
  rw [HE.out.1, HE.out.2]
  have c0 := HK.out.cell (i := 0) rfl
  have HW := hid hW
  clear hW l1 l2 m1 m2 m3 ha1 ha2 ha3 h3 hx hr h1 h2 h4 HE
  rw [HW.out] at c0
  go_enter Tryz.func151, Tryz.ntmps151
  go_wp2_with fail
  rw [← HW.out]
  obtain ⟨p, hp⟩ : ∃ p, p = w.heap.size := ⟨_, rfl⟩
  rw [← hp] at HK ⊢
  have HPP := hid hp
  clear hp c0
  refine HT1.out.mono ?_
  rintro e w1 ⟨v1, rfl, hr1, hb1⟩
  have HR1 := hid hr1
  have HB1 := hid hb1
  have c1 := (HK.out.below hb1 HK.out.lt).cell (i := 1) rfl
  clear hr1 hb1 HT1
  go_wp2_with fail
  refine (HT2.out _ _ _ HR1.out HB1.out.size).mono ?_
  rintro e w2 ⟨v2, rfl, hr2, hb2⟩
  have HR2 := hid hr2
  have HB2 := hid (HB1.out.trans hb2)
  have c2 := (HK.out.below HB2.out HK.out.lt).cell (i := 2) rfl
  clear hr2 hb2 HT2
  go_wp2_with fail
  refine (HT3.out _ _ _ HR2.out HB2.out.size).mono ?_
  rintro e w3 ⟨v3, rfl, hr3, hb3⟩
  have HR3 := hid hr3
  have HB3 := hid (HB2.out.trans hb3)
  have c3 := (HK.out.below HB3.out HK.out.lt).cell (i := 3) rfl
  clear hr3 hb3 HT3
  go_wp2_with fail
  refine (HT4.out _ _ _ HR3.out HB3.out).mono ?_
  rintro e w4 ⟨v4, rfl, hr4, hb4⟩
  have HB4 := hid (bt HB.out (HB3.out.trans hb4))
  have HR4 : Hid (w4.ownsRow w.heap.size 5 1 v4 (0 + a1 + a2 + a3 + (encV cut).length) (nums (encText tok ++ encText cart ++ enc ep.toNat ++ encV cut))) := own_mono hr4 HB.out.size
  clear hr4 hb4 HT4
  go_wp2
  go_ret
  exact ⟨v4, rfl, HR4.out, HB4.out⟩
/-- What codec.Seal answers. -/
def SealP (w : World) (x : Sl) (e : Ending) (w' : World) : Prop :=
  (if RightSl x = true then ∃ v, e = .returned (.tuple #[v, .int .i64 0]) ∧ w'.ownsRow w.heap.size 5 1 v (encSl x).length (nums (encSl x)) else e = .returned (.tuple #[.slice none 0 0, .int .i64 1])) ∧ Below w.heap.size w w'
end Go.Proofs.YtfmnbehopdmahaaGreat
/-
  The document's RightEvent, rightBallot, RightEntry, RightMsg.
-/
namespace Go.Proofs.YtfmnbehopdmahaaGreat
open Go.RowKit Go.Maps

theorem empty_listQ : (⟨#[]⟩ : ByteArray).toList = [] := by decide +kernel
theorem empty_iffQ (s : ByteArray) : s.size = 0 ↔ s.toList = [] := by
  constructor
  · intro h
    have h1 : s = ⟨#[]⟩ := ByteArray.ext (Array.eq_empty_of_size_eq_zero h)
    rw [h1]
    exact empty_listQ
  · intro h
    have h1 : s = ⟨#[]⟩ := bytes_injC (h.trans empty_listQ.symm)
    rw [h1]
    rfl
set_option maxRecDepth 1000000 in
set_option maxHeartbeats 2000000 in
theorem rentry_anyQ (w : World) (x : EnM) (hx : EnOk w x) : Calls Tryz.prog 64 #[x.val] w fun e w' => e = .returned (.bool (RightEn x.e)) ∧ Below w.heap.size w w' := by
  obtain ⟨⟨np, tk, ct, ep, dp⟩, ao1, cap1⟩ := x
  obtain ⟨XN, HXN⟩ : ∃ m, Hid (dp.length = m) := ⟨_, hid rfl⟩
  obtain ⟨W, hW⟩ : ∃ W, W = w.alloc (.cells #[.bool np, .string tk, .string ct, .int .i64 ep, .slice ao1 XN cap1] 39) := ⟨_, rfl⟩
  have HB : Hid (Below w.heap.size w W) := by rw [hW]; exact (Below.refl _ _).alloc (Nat.le_refl _) _
  have HW := hid hW
  have HSE := hid (rseal_any W ⟨⟨tk, ct, ep, dp⟩, ao1, cap1⟩ ⟨(hx.below HB.out).cut, hx.ie, hx.ht, hx.hc⟩)
  simp only [SlM.val] at HSE
  simp only [EnM.val]
  rw [HXN.out] at HSE ⊢
  clear hx hW
  cases np with
  | false =>
    have HE : Hid (RightEn ⟨false, tk, ct, ep, dp⟩ = RightSl ⟨tk, ct, ep, dp⟩) := rfl
    rw [HE.out]
    obtain ⟨R, HR⟩ : ∃ b, Hid (RightSl ⟨tk, ct, ep, dp⟩ = b) := ⟨_, hid rfl⟩
    rw [HR.out] at HSE ⊢
    go_enter Tryz.func64, Tryz.ntmps64
    go_wp2_with fail
    rw [← HW.out]
    refine HSE.out.mono ?_
    rintro e w' ⟨rfl, hb⟩
    have HB2 := hid (bt' HB.out hb)
    clear hb
    go_wp2
    go_ret
    exact ⟨rfl, HB2.out⟩
  | true =>
    have HE : Hid (RightEn ⟨true, tk, ct, ep, dp⟩ = (decide (tk.size = 0) && (decide (ct.size = 0) && (decide (ep = 0) && decide (dp.length = 0))))) := rfl
    rw [HE.out]
    by_cases h1 : tk.toList = []
    · rw [decide_eq_true ((empty_iffQ tk).2 h1)]
      by_cases h2 : ct.toList = []
      · rw [decide_eq_true ((empty_iffQ ct).2 h2)]
        by_cases h3 : ep = 0
        · subst h3
          rw [HXN.out]
          have hd : ((XN : Int) == 0) = decide (XN = 0) := by rw [Bool.eq_iff_iff]; simp
          obtain ⟨q, HQ⟩ : ∃ q, Hid (decide (XN = 0) = q) := ⟨_, hid rfl⟩
          rw [HQ.out] at hd ⊢
          have h1' : tk.toList.isEmpty = true := by rw [h1]; rfl
          have h2' : ct.toList.isEmpty = true := by rw [h2]; rfl
          go_enter Tryz.func64, Tryz.ntmps64
          go_wp2
          go_ret
          rw [← HW.out]
          exact ⟨by simp, HB.out⟩
        · have hd : (ep == 0) = false := by simpa using h3
          rw [decide_eq_false h3]
          have h1' : tk.toList.isEmpty = true := by rw [h1]; rfl
          have h2' : ct.toList.isEmpty = true := by rw [h2]; rfl
          go_enter Tryz.func64, Tryz.ntmps64
          go_wp2
          go_ret
          rw [← HW.out]
          exact ⟨by simp, HB.out⟩
      · rw [decide_eq_false (fun k => h2 ((empty_iffQ ct).1 k))]
        have h1' : tk.toList.isEmpty = true := by rw [h1]; rfl
        have h2' : ct.toList.isEmpty = false := by cases hh : ct.toList with
          | nil => exact absurd hh h2
          | cons => rfl
        go_enter Tryz.func64, Tryz.ntmps64
        go_wp2
        go_ret
        rw [← HW.out]
        exact ⟨by simp, HB.out⟩
    · rw [decide_eq_false (fun k => h1 ((empty_iffQ tk).1 k))]
      have h1' : tk.toList.isEmpty = false := by cases hh : tk.toList with
        | nil => exact absurd hh h1
        | cons => rfl
      go_enter Tryz.func64, Tryz.ntmps64
      go_wp2
      go_ret
      rw [← HW.out]
      exact ⟨by simp, HB.out⟩

theorem rballotQ (w : World) (r n : Int) : Calls Tryz.prog 63 #[.agg #[.int .i64 r, .int .i64 n]] w fun e w' => e = .returned (.bool (RightBal (r, n))) ∧ Below w.heap.size w w' := by
  have HB : Hid (Below w.heap.size w (w.alloc (.cells #[.int .i64 r, .int .i64 n] 35))) := (Below.refl _ _).alloc (Nat.le_refl _) _
  have hk := Blk.new w 35 [.int .i64 r, .int .i64 n]
  have c0 := hk.cell (i := 0) rfl
  have c1 := hk.cell (i := 1) rfl
  have HT1 := hid (fun V => rto_any V r 2147483647)
  have HT2 := hid (fun V => rto_any V n 6)
  have HR : Hid (RightBal (r, n) = (decide (0 ≤ r ∧ r ≤ 2147483647) && decide (0 ≤ n ∧ n ≤ 6))) := rfl
  rw [HR.out]
  obtain ⟨b1, HB1⟩ : ∃ b, Hid (decide (0 ≤ r ∧ r ≤ 2147483647) = b) := ⟨_, hid rfl⟩
  obtain ⟨b2, HB2⟩ : ∃ b, Hid (decide (0 ≤ n ∧ n ≤ 6) = b) := ⟨_, hid rfl⟩
  rw [HB1.out] at HT1 ⊢
  rw [HB2.out] at HT2 ⊢
  clear hk HB1 HB2 HR
  go_enter Tryz.func63, Tryz.ntmps63
  go_wp2_with fail
  refine (HT1.out _).mono ?_
  rintro e w' ⟨rfl, rfl⟩
  cases b1
  · go_wp2
    go_ret
    exact ⟨rfl, HB.out⟩
  go_wp2_with fail
  refine (HT2.out _).mono ?_
  rintro e w' ⟨rfl, rfl⟩
  go_wp2
  go_ret
  exact ⟨rfl, HB.out⟩

set_option maxRecDepth 100000 in
set_option maxHeartbeats 1000000 in
theorem reventQ (w : World) (x : EvM) (hx : EvOk w x) : Calls Tryz.prog 66 #[x.val] w fun e w' => e = .returned (.bool (RightEvC x.e)) ∧ Below w.heap.size w w' := by
  obtain ⟨⟨eo, es, dp, ct, ep, sk, qt, cl⟩, ao1, cap1⟩ := x
  obtain ⟨XN, HXN⟩ : ∃ m, Hid (dp.length = m) := ⟨_, hid rfl⟩
  show Calls Tryz.prog 66 #[.agg #[.int .i64 eo, .int .i64 es, .slice ao1 dp.length cap1, .string ct, .int .i64 ep, .string sk, .int .i64 qt, .bool cl]] w _
  rw [HXN.out]
  have HB : Hid (Below w.heap.size w (w.alloc (.cells #[.int .i64 eo, .int .i64 es, .slice ao1 XN cap1, .string ct, .int .i64 ep, .string sk, .int .i64 qt, .bool cl] 97))) := (Below.refl _ _).alloc (Nat.le_refl _) _
  have hk := Blk.new w 97 [.int .i64 eo, .int .i64 es, .slice ao1 XN cap1, .string ct, .int .i64 ep, .string sk, .int .i64 qt, .bool cl]
  have c0 := hk.cell (i := 0) rfl
  have c1 := hk.cell (i := 1) rfl
  have c2 := hk.cell (i := 2) rfl
  have c3 := hk.cell (i := 3) rfl
  have c4 := hk.cell (i := 4) rfl
  have c5 := hk.cell (i := 5) rfl
  have c6 := hk.cell (i := 6) rfl
  have c7 := hk.cell (i := 7) rfl
  have HT0 := hid (fun V => rto_any V eo 6)
  have HT1 := hid (fun V => rto_any V es 2147483647)
  have HT2 := hid (rvector_any (w.alloc (.cells #[.int .i64 eo, .int .i64 es, .slice ao1 XN cap1, .string ct, .int .i64 ep, .string sk, .int .i64 qt, .bool cl] 97)) ao1 cap1 dp XN HXN.out (hx.deps.below HB.out))
  rw [show rightV dp = rightVC dp from rfl] at HT2
  have HT3 := hid (fun V => refName_any ct V hx.hc)
  have HT4 := hid (fun V => rto_any V ep 2147483647)
  have HT5 := hid (fun V => refName_any sk V hx.hs)
  have HT6 := hid (fun V => rto_any V qt 1000)
  have HR : Hid (RightEvC ⟨eo, es, dp, ct, ep, sk, qt, cl⟩ = (decide (0 ≤ eo ∧ eo ≤ 6) && (decide (0 ≤ es ∧ es ≤ 2147483647) && (rightVC dp && (nameS ct && (decide (0 ≤ ep ∧ ep ≤ 2147483647) && (nameS sk && (decide (0 ≤ qt ∧ qt ≤ 1000))))))))) := rfl
  rw [HR.out]
  obtain ⟨b0, HB0⟩ : ∃ b, Hid (decide (0 ≤ eo ∧ eo ≤ 6) = b) := ⟨_, hid rfl⟩
  rw [HB0.out] at HT0 ⊢
  obtain ⟨b1, HB1⟩ : ∃ b, Hid (decide (0 ≤ es ∧ es ≤ 2147483647) = b) := ⟨_, hid rfl⟩
  rw [HB1.out] at HT1 ⊢
  obtain ⟨b2, HB2⟩ : ∃ b, Hid (rightVC dp = b) := ⟨_, hid rfl⟩
  rw [HB2.out] at HT2 ⊢
  obtain ⟨b3, HB3⟩ : ∃ b, Hid (nameS ct = b) := ⟨_, hid rfl⟩
  rw [HB3.out] at HT3 ⊢
  obtain ⟨b4, HB4⟩ : ∃ b, Hid (decide (0 ≤ ep ∧ ep ≤ 2147483647) = b) := ⟨_, hid rfl⟩
  rw [HB4.out] at HT4 ⊢
  obtain ⟨b5, HB5⟩ : ∃ b, Hid (nameS sk = b) := ⟨_, hid rfl⟩
  rw [HB5.out] at HT5 ⊢
  obtain ⟨b6, HB6⟩ : ∃ b, Hid (decide (0 ≤ qt ∧ qt ≤ 1000) = b) := ⟨_, hid rfl⟩
  rw [HB6.out] at HT6 ⊢
  clear hk hx HR HB0 HB1 HB2 HB3 HB4 HB5 HB6
  go_enter Tryz.func66, Tryz.ntmps66
  go_wp2_with fail
  refine (HT0.out _).mono ?_
  rintro e w' ⟨rfl, rfl⟩
  cases b0
  · go_wp2
    go_ret
    exact ⟨rfl, HB.out⟩
  go_wp2_with fail
  refine (HT1.out _).mono ?_
  rintro e w' ⟨rfl, rfl⟩
  cases b1
  · go_wp2
    go_ret
    exact ⟨rfl, HB.out⟩
  go_wp2_with fail
  refine (HT2.out).mono ?_
  rintro e w' ⟨rfl, rfl⟩
  cases b2
  · go_wp2
    go_ret
    exact ⟨rfl, HB.out⟩
  go_wp2_with fail
  refine (HT3.out _).mono ?_
  rintro e w' ⟨rfl, rfl⟩
  cases b3
  · go_wp2
    go_ret
    exact ⟨rfl, HB.out⟩
  go_wp2_with fail
  refine (HT4.out _).mono ?_
  rintro e w' ⟨rfl, rfl⟩
  cases b4
  · go_wp2
    go_ret
    exact ⟨rfl, HB.out⟩
  go_wp2_with fail
  refine (HT5.out _).mono ?_
  rintro e w' ⟨rfl, rfl⟩
  cases b5
  · go_wp2
    go_ret
    exact ⟨rfl, HB.out⟩
  go_wp2_with fail
  refine (HT6.out _).mono ?_
  rintro e w' ⟨rfl, rfl⟩
  go_wp2
  go_ret
  exact ⟨rfl, HB.out⟩

/-- What RightMs is made of. -/
theorem rightMs_parts {x : MsM} (h : RightMs x = true) : decide (0 ≤ x.kind ∧ x.kind ≤ 255) = true ∧ decide (0 ≤ x.frm ∧ x.frm ≤ 6) = true ∧ decide (0 ≤ x.to ∧ x.to ≤ 6) = true ∧ RightBal x.bal = true ∧ decide (0 ≤ x.slot ∧ x.slot ≤ 2147483647) = true ∧ RightEn x.en.e = true ∧ x.vs.length ≤ 4096 ∧ (∀ y ∈ x.vs, RightVo y = true) ∧ rightVC x.seen = true ∧ x.evs.length ≤ 4096 ∧ (∀ y ∈ x.evs, RightEvC y.e = true) ∧ decide (0 ≤ x.time ∧ x.time ≤ 4611686018427387904) = true := by
  unfold RightMs RightVs RightEs at h
  simp only [Bool.and_eq_true, List.all_eq_true] at h
  obtain ⟨h1, h2, h3, h4, h5, h6, ⟨h7, h8⟩, h9, ⟨h10, h11⟩, h12⟩ := h
  exact ⟨h1, h2, h3, h4, h5, h6, of_decide_eq_true h7, h8, h9, of_decide_eq_true h10, h11, h12⟩
theorem rightMs_all {x : MsM} (h1 : decide (0 ≤ x.kind ∧ x.kind ≤ 255) = true) (h2 : decide (0 ≤ x.frm ∧ x.frm ≤ 6) = true) (h3 : decide (0 ≤ x.to ∧ x.to ≤ 6) = true) (h4 : RightBal x.bal = true) (h5 : decide (0 ≤ x.slot ∧ x.slot ≤ 2147483647) = true) (h6 : RightEn x.en.e = true) (h7 : x.vs.length ≤ 4096) (h8 : ∀ y ∈ x.vs, RightVo y = true) (h9 : rightVC x.seen = true) (h10 : x.evs.length ≤ 4096) (h11 : ∀ y ∈ x.evs, RightEvC y.e = true) (h12 : decide (0 ≤ x.time ∧ x.time ≤ 4611686018427387904) = true) : RightMs x = true := by
  unfold RightMs RightVs RightEs
  simp only [Bool.and_eq_true, List.all_eq_true]
  exact ⟨h1, h2, h3, h4, h5, h6, ⟨decide_eq_true h7, h8⟩, h9, ⟨decide_eq_true h10, h11⟩, h12⟩

set_option maxRecDepth 1000000 in
set_option maxHeartbeats 4000000 in
theorem rmsgQ (w : World) (x : MsM) (hx : MsOk w x) : Calls Tryz.prog 40 #[x.val] w fun e w' => e = .returned (.bool (RightMs x)) ∧ Below w.heap.size w w' := by
  obtain ⟨kd, fr, tt, ⟨br, bn⟩, sl, ⟨⟨np, tk, ct, ep, cut⟩, a, c⟩, va, vc, vs, sa, sc, seen, ea, ec, evs, ti⟩ := x
  obtain ⟨XN, HXN⟩ : ∃ m, Hid (cut.length = m) := ⟨_, hid rfl⟩
  obtain ⟨VN, HVN⟩ : ∃ m, Hid (vs.length = m) := ⟨_, hid rfl⟩
  obtain ⟨SN, HSN⟩ : ∃ m, Hid (seen.length = m) := ⟨_, hid rfl⟩
  obtain ⟨EN, HEN⟩ : ∃ m, Hid (evs.length = m) := ⟨_, hid rfl⟩
  obtain ⟨RB, HRB⟩ : ∃ b, Hid (RightMs ⟨kd, fr, tt, (br, bn), sl, ⟨⟨np, tk, ct, ep, cut⟩, a, c⟩, va, vc, vs, sa, sc, seen, ea, ec, evs, ti⟩ = b) := ⟨_, hid rfl⟩
  rw [HRB.out]
  simp only [MsM.val]
  rw [HXN.out, HVN.out, HSN.out, HEN.out]
  obtain ⟨W, hW⟩ : ∃ W, W = w.alloc (.cells #[.int .i64 kd, .int .i64 fr, .int .i64 tt, .int .i64 br, .int .i64 bn, .int .i64 sl, .bool np, .string tk, .string ct, .int .i64 ep, .slice a XN c, .slice va VN vc, .slice sa SN sc, .slice ea EN ec, .int .i64 ti] 43) := ⟨_, rfl⟩
  have HB : Hid (Below w.heap.size w W) := by rw [hW]; exact (Below.refl _ _).alloc (Nat.le_refl _) _
  obtain ⟨bm, hbm⟩ : ∃ q, q = w.heap.size := ⟨_, rfl⟩
  have HK : Hid (Blk W bm 43 [.int .i64 kd, .int .i64 fr, .int .i64 tt, .int .i64 br, .int .i64 bn, .int .i64 sl, .bool np, .string tk, .string ct, .int .i64 ep, .slice a XN c, .slice va VN vc, .slice sa SN sc, .slice ea EN ec, .int .i64 ti]) := by rw [hW, hbm]; exact Blk.new w _ _
  have HCL : Hid (∀ V, Below W.heap.size W V → (V.cell? ⟨bm, 0, none⟩ = some (.int .i64 kd) ∧ V.cell? ⟨bm, 1, none⟩ = some (.int .i64 fr) ∧ V.cell? ⟨bm, 2, none⟩ = some (.int .i64 tt) ∧ V.cell? ⟨bm, 3, none⟩ = some (.int .i64 br) ∧ V.cell? ⟨bm, 4, none⟩ = some (.int .i64 bn) ∧ V.cell? ⟨bm, 5, none⟩ = some (.int .i64 sl) ∧ V.cell? ⟨bm, 6, none⟩ = some (.bool np) ∧ V.cell? ⟨bm, 7, none⟩ = some (.string tk) ∧ V.cell? ⟨bm, 8, none⟩ = some (.string ct) ∧ V.cell? ⟨bm, 9, none⟩ = some (.int .i64 ep) ∧ V.cell? ⟨bm, 10, none⟩ = some (.slice a XN c) ∧ V.cell? ⟨bm, 11, none⟩ = some (.slice va VN vc) ∧ V.cell? ⟨bm, 12, none⟩ = some (.slice sa SN sc) ∧ V.cell? ⟨bm, 13, none⟩ = some (.slice ea EN ec) ∧ V.cell? ⟨bm, 14, none⟩ = some (.int .i64 ti))) := fun V hV => by
    have h := HK.out.below hV HK.out.lt
    exact ⟨h.cell rfl, h.cell rfl, h.cell rfl, h.cell rfl, h.cell rfl, h.cell rfl, h.cell rfl, h.cell rfl, h.cell rfl, h.cell rfl, h.cell rfl, h.cell rfl, h.cell rfl, h.cell rfl, h.cell rfl⟩
  have HXO := hid (hx.below HB.out)
  have HW := hid hW
  have HBM := hid hbm
  have hvl : VN ≤ 1466015503701 := by rw [← HVN.out]; exact hx.vl
  have hel : EN ≤ 1466015503701 := by rw [← HEN.out]; exact hx.el
  have HFA : Hid (∀ q : Prop, (RightMs ⟨kd, fr, tt, (br, bn), sl, ⟨⟨np, tk, ct, ep, cut⟩, a, c⟩, va, vc, vs, sa, sc, seen, ea, ec, evs, ti⟩ = true → q) → ¬ q → false = RB) := fun q hq hn => by
    rw [← HRB.out]
    cases hh : RightMs ⟨kd, fr, tt, (br, bn), sl, ⟨⟨np, tk, ct, ep, cut⟩, a, c⟩, va, vc, vs, sa, sc, seen, ea, ec, evs, ti⟩ with
    | false => rfl
    | true => exact absurd (hq hh) hn
  have HT0 := hid (fun V => rto_any V kd 255)
  obtain ⟨b0, HB0⟩ : ∃ b, Hid (decide (0 ≤ kd ∧ kd ≤ 255) = b) := ⟨_, hid rfl⟩
  rw [HB0.out] at HT0
  have HT1 := hid (fun V => rto_any V fr 6)
  obtain ⟨b1, HB1⟩ : ∃ b, Hid (decide (0 ≤ fr ∧ fr ≤ 6) = b) := ⟨_, hid rfl⟩
  rw [HB1.out] at HT1
  have HT2 := hid (fun V => rto_any V tt 6)
  obtain ⟨b2, HB2⟩ : ∃ b, Hid (decide (0 ≤ tt ∧ tt ≤ 6) = b) := ⟨_, hid rfl⟩
  rw [HB2.out] at HT2
  have HT3 := hid (fun V => rballotQ V br bn)
  obtain ⟨b3, HB3⟩ : ∃ b, Hid (RightBal (br, bn) = b) := ⟨_, hid rfl⟩
  rw [HB3.out] at HT3
  have HT4 := hid (fun V => rto_any V sl 2147483647)
  obtain ⟨b4, HB4⟩ : ∃ b, Hid (decide (0 ≤ sl ∧ sl ≤ 2147483647) = b) := ⟨_, hid rfl⟩
  rw [HB4.out] at HT4
  have HT5 := hid (fun V (hV : Below W.heap.size W V) => rentry_anyQ V ⟨⟨np, tk, ct, ep, cut⟩, a, c⟩ (HXO.out.en.below hV))
  simp only [EnM.val] at HT5
  rw [HXN.out] at HT5
  obtain ⟨b5, HB5⟩ : ∃ b, Hid (RightEn ⟨np, tk, ct, ep, cut⟩ = b) := ⟨_, hid rfl⟩
  rw [HB5.out] at HT5
  have HT7 := hid (fun V (hV : Below W.heap.size W V) => rvector_any V sa sc seen SN HSN.out (HXO.out.seen.below hV))
  rw [show rightV seen = rightVC seen from rfl] at HT7
  obtain ⟨b7, HB7⟩ : ∃ b, Hid (rightVC seen = b) := ⟨_, hid rfl⟩
  rw [HB7.out] at HT7
  have HT9 := hid (fun V => rto_any V ti 4611686018427387904)
  obtain ⟨b9, HB9⟩ : ∃ b, Hid (decide (0 ≤ ti ∧ ti ≤ 4611686018427387904) = b) := ⟨_, hid rfl⟩
  rw [HB9.out] at HT9
  clear hW hbm hx
  obtain ⟨c0, c1, c2, c3, c4, c5, c6, c7, c8, c9, c10, c11, c12, c13, c14⟩ := HCL.out W (Below.refl _ _)
  rw [HW.out] at c0 c1 c2 c3 c4 c5 c6 c7 c8 c9 c10 c11 c12 c13 c14
  rw [HBM.out] at c0 c1 c2 c3 c4 c5 c6 c7 c8 c9 c10 c11 c12 c13 c14
  go_enter Tryz.func40, Tryz.ntmps40
  have HBW0 := HB
  have HQ0 : Hid (Below W.heap.size W W) := Below.refl _ _
  go_wp2_with fail
  rw [← HW.out, ← HBM.out]
  refine (HT0.out _).mono ?_
  rintro e w' ⟨rfl, hw'⟩
  rw [hw']
  clear hw'
  clear c0 c1 c2 c3 c4 c5 c6 c7 c8 c9 c10 c11 c12 c13 c14
  obtain ⟨c0, c1, c2, c3, c4, c5, c6, c7, c8, c9, c10, c11, c12, c13, c14⟩ := HCL.out _ (Below.refl _ _)
  cases b0
  · go_wp2
    go_ret
    exact ⟨ret_bool (HFA.out _ (fun h => by have p := rightMs_parts h; have q := p.1; simp only at q; rw [HB0.out] at q; exact q) (by decide)), HBW0.out⟩
  go_wp2_with fail
  refine (HT1.out _).mono ?_
  rintro e w' ⟨rfl, hw'⟩
  rw [hw']
  clear hw'
  cases b1
  · go_wp2
    go_ret
    exact ⟨ret_bool (HFA.out _ (fun h => by have p := rightMs_parts h; have q := p.2.1; simp only at q; rw [HB1.out] at q; exact q) (by decide)), HBW0.out⟩
  go_wp2_with fail
  refine (HT2.out _).mono ?_
  rintro e w' ⟨rfl, hw'⟩
  rw [hw']
  clear hw'
  cases b2
  · go_wp2
    go_ret
    exact ⟨ret_bool (HFA.out _ (fun h => by have p := rightMs_parts h; have q := p.2.2.1; simp only at q; rw [HB2.out] at q; exact q) (by decide)), HBW0.out⟩
  go_wp2_with fail
  refine (HT3.out _).mono ?_
  rintro e y1 ⟨rfl, hb1⟩
  have HBW1 := hid (bt' HBW0.out hb1)
  have HQ1 := hid (bt' HQ0.out hb1)
  clear hb1 c0 c1 c2 c3 c4 c5 c6 c7 c8 c9 c10 c11 c12 c13 c14
  obtain ⟨c0, c1, c2, c3, c4, c5, c6, c7, c8, c9, c10, c11, c12, c13, c14⟩ := HCL.out _ HQ1.out
  cases b3
  · go_wp2
    go_ret
    exact ⟨ret_bool (HFA.out _ (fun h => by have p := rightMs_parts h; have q := p.2.2.2.1; simp only at q; rw [HB3.out] at q; exact q) (by decide)), HBW1.out⟩
  go_wp2_with fail
  refine (HT4.out _).mono ?_
  rintro e w' ⟨rfl, hw'⟩
  rw [hw']
  clear hw'
  cases b4
  · go_wp2
    go_ret
    exact ⟨ret_bool (HFA.out _ (fun h => by have p := rightMs_parts h; have q := p.2.2.2.2.1; simp only at q; rw [HB4.out] at q; exact q) (by decide)), HBW1.out⟩
  go_wp2_with fail
  refine (HT5.out _ HQ1.out).mono ?_
  rintro e y2 ⟨rfl, hb2⟩
  have HBW2 := hid (bt' HBW1.out hb2)
  have HQ2 := hid (bt' HQ1.out hb2)
  clear hb2 c0 c1 c2 c3 c4 c5 c6 c7 c8 c9 c10 c11 c12 c13 c14
  obtain ⟨c0, c1, c2, c3, c4, c5, c6, c7, c8, c9, c10, c11, c12, c13, c14⟩ := HCL.out _ HQ2.out
  cases b5
  · go_wp2
    go_ret
    exact ⟨ret_bool (HFA.out _ (fun h => by have p := rightMs_parts h; have q := p.2.2.2.2.2.1; simp only at q; rw [HB5.out] at q; exact q) (by decide)), HBW2.out⟩
  by_cases hl6 : ¬ VN ≤ 4096
  · have hg : (4096 : Int) < (VN : Int) := by omega
    go_wp2
    go_ret
    exact ⟨ret_bool (HFA.out _ (fun h => by have p := rightMs_parts h; have q := p.2.2.2.2.2.2.1; simp only at q; rw [HVN.out] at q; exact q) hl6), HBW2.out⟩
  have hg6 : ¬ (4096 : Int) < (VN : Int) := by omega
  have HL6 : Hid (VN ≤ 4096) := (by omega : VN ≤ 4096)
  clear hl6
  go_wp2_with fail
  refine (HT7.out _ HQ2.out).mono ?_
  rintro e w' ⟨rfl, hw'⟩
  rw [hw']
  clear hw'
  cases b7
  · go_wp2
    go_ret
    exact ⟨ret_bool (HFA.out _ (fun h => by have p := rightMs_parts h; have q := p.2.2.2.2.2.2.2.2.1; simp only at q; rw [HB7.out] at q; exact q) (by decide)), HBW2.out⟩
  by_cases hl8 : ¬ EN ≤ 4096
  · have hg : (4096 : Int) < (EN : Int) := by omega
    go_wp2
    go_ret
    exact ⟨ret_bool (HFA.out _ (fun h => by have p := rightMs_parts h; have q := p.2.2.2.2.2.2.2.2.2.1; simp only at q; rw [HEN.out] at q; exact q) hl8), HBW2.out⟩
  have hg8 : ¬ (4096 : Int) < (EN : Int) := by omega
  have HL8 : Hid (EN ≤ 4096) := (by omega : EN ≤ 4096)
  clear hl8
  go_wp2_with fail
  refine (HT9.out _).mono ?_
  rintro e w' ⟨rfl, hw'⟩
  rw [hw']
  clear hw'
  cases b9
  · go_wp2
    go_ret
    exact ⟨ret_bool (HFA.out _ (fun h => by have p := rightMs_parts h; have q := p.2.2.2.2.2.2.2.2.2.2.2; simp only at q; rw [HB9.out] at q; exact q) (by decide)), HBW2.out⟩
  have HOKS : Hid (decide (0 ≤ kd ∧ kd ≤ 255) = true ∧ decide (0 ≤ fr ∧ fr ≤ 6) = true ∧ decide (0 ≤ tt ∧ tt ≤ 6) = true ∧ RightBal (br, bn) = true ∧ decide (0 ≤ sl ∧ sl ≤ 2147483647) = true ∧ RightEn ⟨np, tk, ct, ep, cut⟩ = true ∧ rightVC seen = true ∧ decide (0 ≤ ti ∧ ti ≤ 4611686018427387904) = true) := ⟨HB0.out, HB1.out, HB2.out, HB3.out, HB4.out, HB5.out, HB7.out, HB9.out⟩
  clear HT0 HT1 HT2 HT3 HT4 HT5 HT7 HT9 HB0 HB1 HB2 HB3 HB4 HB5 HB7 HB9
  go_wp2
  clear c0 c1 c2 c3 c4 c5 c6 c7 c8 c9 c10 c11 c12 c13 c14
  go_loopw [3] (fun x wr => ∃ k : Nat, k ≤ VN ∧ x = .int .i64 k ∧ Hid ((∀ j (h : j < vs.length), j < k → RightVo vs[j] = true) ∧ Below W.heap.size W wr)) (fun x _ => VN - (intOf x).toNat)
  case atStart => exact ⟨0, Nat.zero_le _, rfl, fun j _ h => absurd h (Nat.not_lt_zero _), HQ2.out⟩
  case round =>
    obtain ⟨k, hk, rfl, HA⟩ := hrel
    obtain ⟨c0, c1, c2, c3, c4, c5, c6, c7, c8, c9, c10, c11, c12, c13, c14⟩ := HCL.out _ HA.out.2
    by_cases hlt : k < VN
    · have hlt' : (k : Int) < (VN : Int) := by omega
      have hkx : Hid (k < vs.length) := (by rw [HVN.out]; exact hlt : k < vs.length)
      have HKM : Hid (k + 1 ≤ VN) := (by omega : k + 1 ≤ VN)
      obtain ⟨b, off, hva, hbl, _⟩ := HXO.out.vs.at8 hkx.out
      simp only at hva
      subst hva
      have HVC : Hid (∀ V, Below W.heap.size W V → (V.cell? ⟨b, off + k * 8, none⟩ = some (.int .i64 (vs[k]'hkx.out).slot) ∧ V.cell? ⟨b, off + k * 8 + 1, none⟩ = some (.int .i64 (vs[k]'hkx.out).bal.1) ∧ V.cell? ⟨b, off + k * 8 + 2, none⟩ = some (.int .i64 (vs[k]'hkx.out).bal.2) ∧
          V.cell? ⟨b, off + k * 8 + 3, none⟩ = some (.bool (vs[k]'hkx.out).en.e.noop) ∧ V.cell? ⟨b, off + k * 8 + 4, none⟩ = some (.string (vs[k]'hkx.out).en.e.tok) ∧ V.cell? ⟨b, off + k * 8 + 5, none⟩ = some (.string (vs[k]'hkx.out).en.e.cart) ∧ V.cell? ⟨b, off + k * 8 + 6, none⟩ = some (.int .i64 (vs[k]'hkx.out).en.e.ep) ∧
          V.cell? ⟨b, off + k * 8 + 7, none⟩ = some (.slice (vs[k]'hkx.out).en.ao (vs[k]'hkx.out).en.e.cut.length (vs[k]'hkx.out).en.cap))) := fun V hV => by
        obtain ⟨b2, off2, e2, _, h⟩ := (HXO.out.vs.below hV).at8 hkx.out
        simp only [Option.some.injEq, Addr.mk.injEq, and_true] at e2
        obtain ⟨rfl, rfl⟩ := e2
        exact h
      have HVK : Hid (VoOk W (vs[k]'hkx.out)) := HXO.out.vs.1 _ (List.getElem_mem hkx.out)
      have HNO : Hid (∀ q : Prop, (RightVo (vs[k]'hkx.out) = true → q) → ¬ q → false = RB) := fun q hq hn => HFA.out q (fun h => hq ((rightMs_parts h).2.2.2.2.2.2.2.1 _ (List.getElem_mem hkx.out))) hn
      have HYS : Hid (RightVo (vs[k]'hkx.out) = true → (∀ j (h : j < vs.length), j < k + 1 → RightVo vs[j] = true)) := fun hy j h hj => by
        by_cases e : j = k
        · subst e; exact hy
        · exact HA.out.1 j h (by omega)
      generalize vs[k]'hkx.out = Y at HVC HVK HNO HYS
      obtain ⟨ysl, ⟨yr, yn⟩, ⟨⟨ynp, ytk, yct, yep, ycut⟩, ya, yc⟩⟩ := Y
      obtain ⟨YN, HYN⟩ : ∃ m, Hid (ycut.length = m) := ⟨_, hid rfl⟩
      simp only at HVC
      rw [HYN.out] at HVC
      have HS1 := hid (fun V => rto_any V ysl 2147483647)
      have HS2 := hid (fun V => rballotQ V yr yn)
      have HS3 := hid (fun V (hV : Below W.heap.size W V) => rentry_anyQ V ⟨⟨ynp, ytk, yct, yep, ycut⟩, ya, yc⟩ (HVK.out.en.below hV))
      simp only [EnM.val] at HS3
      rw [HYN.out] at HS3
      have HRV : Hid (RightVo ⟨ysl, (yr, yn), ⟨⟨ynp, ytk, yct, yep, ycut⟩, ya, yc⟩⟩ = (decide (0 ≤ ysl ∧ ysl ≤ 2147483647) && (RightBal (yr, yn) && RightEn ⟨ynp, ytk, yct, yep, ycut⟩))) := rfl
      rw [HRV.out] at HNO HYS
      obtain ⟨d1, HD1⟩ : ∃ q, Hid (decide (0 ≤ ysl ∧ ysl ≤ 2147483647) = q) := ⟨_, hid rfl⟩
      obtain ⟨d2, HD2⟩ : ∃ q, Hid (RightBal (yr, yn) = q) := ⟨_, hid rfl⟩
      obtain ⟨d3, HD3⟩ : ∃ q, Hid (RightEn ⟨ynp, ytk, yct, yep, ycut⟩ = q) := ⟨_, hid rfl⟩
      rw [HD1.out] at HS1
      rw [HD2.out] at HS2
      rw [HD3.out] at HS3
      rw [HD1.out, HD2.out, HD3.out] at HNO HYS
      clear HRV hlt hk hbl
      obtain ⟨e0, e1, e2, e3, e4, e5, e6, e7⟩ := HVC.out _ HA.out.2
      go_wp2_with fail
      refine (HS1.out _).mono ?_
      rintro e w' ⟨rfl, hw'⟩
      rw [hw']
      clear hw'
      have HFB : Hid (Below w.heap.size w wr) := HB.out.trans (HA.out.2.mono HB.out.size)
      cases d1
      · go_wp2
        go_ret
        exact ⟨ret_bool (HNO.out False (fun h => by cases h) id), HFB.out⟩
      go_wp2_with fail
      refine (HS2.out _).mono ?_
      rintro e z1 ⟨rfl, hz1⟩
      have HZ1 := hid (bt' HA.out.2 hz1)
      have HF1 := hid (bt' HFB.out hz1)
      clear hz1 c0 c1 c2 c3 c4 c5 c6 c7 c8 c9 c10 c11 c12 c13 c14 e0 e1 e2 e3 e4 e5 e6 e7
      cases d2
      · go_wp2
        go_ret
        exact ⟨ret_bool (HNO.out False (fun h => by cases h) id), HF1.out⟩
      obtain ⟨c0, c1, c2, c3, c4, c5, c6, c7, c8, c9, c10, c11, c12, c13, c14⟩ := HCL.out _ HZ1.out
      obtain ⟨e0, e1, e2, e3, e4, e5, e6, e7⟩ := HVC.out _ HZ1.out
      go_wp2_with fail
      refine (HS3.out _ HZ1.out).mono ?_
      rintro e z2 ⟨rfl, hz2⟩
      have HZ2 := hid (bt' HZ1.out hz2)
      have HF2 := hid (bt' HF1.out hz2)
      clear hz2 c0 c1 c2 c3 c4 c5 c6 c7 c8 c9 c10 c11 c12 c13 c14 e0 e1 e2 e3 e4 e5 e6 e7
      cases d3
      · go_wp2
        go_ret
        exact ⟨ret_bool (HNO.out False (fun h => by cases h) id), HF2.out⟩
      go_wp2
      go_roundw
      case rel => exact ⟨k + 1, HKM.out, by go_num, HYS.out rfl, HZ2.out⟩
      case measure => simp [intOf]; have := HKM.out; omega
    · have hlt' : ¬ (k : Int) < (VN : Int) := by omega
      have HVA : Hid (∀ y ∈ vs, RightVo y = true) := fun y hy => by
        obtain ⟨j, hj, rfl⟩ := List.mem_iff_getElem.1 hy
        exact HA.out.1 j hj (by have := HVN.out; omega)
      have HAW := hid HA.out.2
      clear hlt hk
      go_wp2
      clear c0 c1 c2 c3 c4 c5 c6 c7 c8 c9 c10 c11 c12 c13 c14
      go_loopw [4] (fun x wr => ∃ k : Nat, k ≤ EN ∧ x = .int .i64 k ∧ Hid ((∀ j (h : j < evs.length), j < k → RightEvC evs[j].e = true) ∧ Below W.heap.size W wr)) (fun x _ => EN - (intOf x).toNat)
      case atStart => exact ⟨0, Nat.zero_le _, rfl, fun j _ h => absurd h (Nat.not_lt_zero _), HAW.out⟩
      case round =>
        obtain ⟨i, hi, rfl, HE⟩ := hrel
        obtain ⟨c0, c1, c2, c3, c4, c5, c6, c7, c8, c9, c10, c11, c12, c13, c14⟩ := HCL.out _ HE.out.2
        have HFB : Hid (Below w.heap.size w wr) := HB.out.trans (HE.out.2.mono HB.out.size)
        by_cases hlt2 : i < EN
        · have hlt2' : (i : Int) < (EN : Int) := by omega
          have hix : Hid (i < evs.length) := (by rw [HEN.out]; exact hlt2 : i < evs.length)
          have HIM : Hid (i + 1 ≤ EN) := (by omega : i + 1 ≤ EN)
          obtain ⟨g, fo, hea, hgl, e0, e1, e2, e3, e4, e5, e6, e7⟩ := (HXO.out.evs.below HE.out.2).at hix.out
          simp only at hea
          subst hea
          have HEK : Hid (EvOk wr (evs[i]'hix.out)) := (HXO.out.evs.1 _ (List.getElem_mem hix.out)).below HE.out.2
          have HRV := hid (reventQ wr (evs[i]'hix.out) HEK.out)
          have HNO : Hid (RightEvC (evs[i]'hix.out).e = false → false = RB) := fun hf => HFA.out (RightEvC (evs[i]'hix.out).e = true) (fun h => (rightMs_parts h).2.2.2.2.2.2.2.2.2.2.1 _ (List.getElem_mem hix.out)) (by rw [hf]; decide)
          have HYS : Hid (RightEvC (evs[i]'hix.out).e = true → (∀ j (h : j < evs.length), j < i + 1 → RightEvC evs[j].e = true)) := fun hy j h hj => by
            by_cases e : j = i
            · subst e; exact hy
            · exact HE.out.1 j h (by omega)
          generalize evs[i]'hix.out = Y at e0 e1 e2 e3 e4 e5 e6 e7 HEK HRV HNO HYS
          obtain ⟨⟨yo, ys, ydp, yct, yep, ysk, yq, ycl⟩, ya, yc⟩ := Y
          obtain ⟨YN, HYN⟩ : ∃ m, Hid (ydp.length = m) := ⟨_, hid rfl⟩
          simp only at e0 e1 e2 e3 e4 e5 e6 e7
          rw [HYN.out] at e2
          have HRW : Hid (Calls Tryz.prog 66 #[.agg #[.int .i64 yo, .int .i64 ys, .slice ya YN yc, .string yct, .int .i64 yep, .string ysk, .int .i64 yq, .bool ycl]] wr fun e w' => e = .returned (.bool (RightEvC ⟨yo, ys, ydp, yct, yep, ysk, yq, ycl⟩)) ∧ Below wr.heap.size wr w') := by rw [← HYN.out]; exact HRV.out
          simp only at HNO HYS
          obtain ⟨d1, HD1⟩ : ∃ q, Hid (RightEvC ⟨yo, ys, ydp, yct, yep, ysk, yq, ycl⟩ = q) := ⟨_, hid rfl⟩
          rw [HD1.out] at HRW HNO HYS
          clear HRV hlt2 hi hgl
          go_wp2_with fail
          refine HRW.out.mono ?_
          rintro e z1 ⟨rfl, hz1⟩
          have HZ1 := hid (bt' HE.out.2 hz1)
          have HF1 := hid (bt' HFB.out hz1)
          clear hz1 c0 c1 c2 c3 c4 c5 c6 c7 c8 c9 c10 c11 c12 c13 c14 e0 e1 e2 e3 e4 e5 e6 e7
          cases d1
          · go_wp2
            go_ret
            exact ⟨ret_bool (HNO.out (by trivial)), HF1.out⟩
          go_wp2
          go_roundw
          case rel => exact ⟨i + 1, HIM.out, by go_num, HYS.out (by trivial), HZ1.out⟩
          case measure => simp [intOf]; have := HIM.out; omega
        · have hlt2' : ¬ (i : Int) < (EN : Int) := by omega
          have HTR : Hid (true = RB) := by
            show true = RB
            rw [← HRB.out]
            symm
            obtain ⟨q0, q1, q2, q3, q4, q5, q7, q9⟩ := HOKS.out
            refine rightMs_all q0 q1 q2 q3 q4 q5 (by simp only; rw [HVN.out]; exact HL6.out) HVA.out q7 (by simp only; rw [HEN.out]; exact HL8.out) (fun y hy => ?_) q9
            obtain ⟨j, hj, rfl⟩ := List.mem_iff_getElem.1 hy
            have hj' : j < evs.length := hj
            exact HE.out.1 j hj' (by have := HEN.out; omega)
          clear hlt2 hi
          go_wp2
          go_ret
          exact ⟨ret_bool HTR.out, HFB.out⟩

end Go.Proofs.YtfmnbehopdmahaaGreat
