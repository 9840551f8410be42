/-
  codec.Seal of any seal: whether it may be, and its bytes.
-/
import Derived.Test.YtmpkbdhihdboiaaGreatEvMay
namespace Go.Proofs.YtmpkbdhihdboiaaGreat
open Go.RowKit Go.Maps

/-- A seal as bytes. -/
def encSl (s : Sl) : List Int := encText s.tok ++ encText s.cart ++ enc s.ep.toNat ++ encV s.cut
theorem rightSl_iff {s : Sl} (h : RightSl s = true) : nameS s.tok = true ∧ nameS s.cart = true ∧ (0 ≤ s.ep ∧ s.ep ≤ 2147483647) ∧ InV s.cut ∧ s.cut.length ≤ 7 := by
  unfold RightSl at h
  simp only [Bool.and_eq_true, decide_eq_true_eq] at h
  obtain ⟨h1, h2, h3, h4⟩ := h
  unfold rightV at h4
  simp only [Bool.and_eq_true, decide_eq_true_eq] at h4
  exact ⟨h1, h2, h3, h4.1, h4.2.1⟩
theorem encSl_len {s : Sl} (h : RightSl s = true) : (encSl s).length ≤ 200 := by
  obtain ⟨h1, h2, h3, h4, h5⟩ := rightSl_iff h
  have z1 := nameS_size h1
  have z2 := nameS_size h2
  have l1 := encText_len s.tok
  have l2 := encText_len s.cart
  have m1 := enc_le10 (x := s.tok.size) (by omega)
  have m2 := enc_le10 (x := s.cart.size) (by omega)
  have m3 := enc_le10 (x := s.ep.toNat) (by omega)
  have m4 := encV_len h4 h5
  unfold encSl
  simp only [List.length_append]
  omega
set_option maxRecDepth 100000 in
set_option maxHeartbeats 1000000 in
theorem maySeal_any (w : World) (x : SlM) (hx : SlOk w x) :
    Calls Tryz.prog 66 #[x.val] w fun e w' => e = .returned (.bool (RightSl x.e)) ∧ Below w.heap.size w w' := by
  obtain ⟨⟨tok, cart, ep, cut⟩, ao1, cap1⟩ := x
  obtain ⟨XN, HXN⟩ : ∃ m, Hid (cut.length = m) := ⟨_, hid rfl⟩
  simp only [SlM.val]
  rw [HXN.out]
  have HB : Hid (Below w.heap.size w (w.alloc (.cells #[.string tok, .string cart, .int .i64 ep, .slice ao1 XN cap1] 26))) := (Below.refl _ _).alloc (Nat.le_refl _) _
  have hk := Blk.new w 26 [.string tok, .string cart, .int .i64 ep, .slice ao1 XN cap1]
  have c0 := hk.cell (i := 0) rfl
  have c1 := hk.cell (i := 1) rfl
  have c2 := hk.cell (i := 2) rfl
  have c3 := hk.cell (i := 3) rfl
  have HN1 := hid (fun V => codecName_any tok V hx.ht)
  have HN2 := hid (fun V => codecName_any cart V hx.hc)
  have HT := hid (fun V => upTo_any V ep 2147483647)
  have HV' := hid (mayVector_any (w.alloc (.cells #[.string tok, .string cart, .int .i64 ep, .slice ao1 XN cap1] 26)) ao1 cap1 cut XN HXN.out (hx.cut.below HB.out))
  have HR : Hid (RightSl ⟨tok, cart, ep, cut⟩ = (nameS tok && (nameS cart && (decide (0 ≤ ep ∧ ep ≤ 2147483647) && rightV cut)))) := rfl
  rw [HR.out]
  obtain ⟨b1, HB1⟩ : ∃ b, Hid (nameS tok = b) := ⟨_, hid rfl⟩
  obtain ⟨b2, HB2⟩ : ∃ b, Hid (nameS cart = b) := ⟨_, hid rfl⟩
  obtain ⟨b3, HB3⟩ : ∃ b, Hid (decide (0 ≤ ep ∧ ep ≤ 2147483647) = b) := ⟨_, hid rfl⟩
  obtain ⟨b4, HB4⟩ : ∃ b, Hid (rightV cut = b) := ⟨_, hid rfl⟩
  rw [HB1.out] at HN1 ⊢
  rw [HB2.out] at HN2 ⊢
  rw [HB3.out] at HT ⊢
  rw [HB4.out] at HV' ⊢
  clear hk hx HB1 HB2 HB3 HB4 HR
  cases b1
  · go_enter Tryz.func66, Tryz.ntmps66
    go_wp2_with fail
    refine (HN1.out _).mono ?_
    rintro e w' ⟨rfl, rfl⟩
    go_wp2
    go_ret
    exact ⟨rfl, HB.out⟩
  cases b2
  · go_enter Tryz.func66, Tryz.ntmps66
    go_wp2_with fail
    refine (HN1.out _).mono ?_
    rintro e w' ⟨rfl, rfl⟩
    go_wp2_with fail
    refine (HN2.out _).mono ?_
    rintro e w' ⟨rfl, rfl⟩
    go_wp2
    go_ret
    exact ⟨rfl, HB.out⟩
  cases b3
  · go_enter Tryz.func66, Tryz.ntmps66
    go_wp2_with fail
    refine (HN1.out _).mono ?_
    rintro e w' ⟨rfl, rfl⟩
    go_wp2_with fail
    refine (HN2.out _).mono ?_
    rintro e w' ⟨rfl, rfl⟩
    go_wp2_with fail
    refine (HT.out _).mono ?_
    rintro e w' ⟨rfl, rfl⟩
    go_wp2
    go_ret
    exact ⟨rfl, HB.out⟩
  go_enter Tryz.func66, Tryz.ntmps66
  go_wp2_with fail
  refine (HN1.out _).mono ?_
  rintro e w' ⟨rfl, rfl⟩
  go_wp2_with fail
  refine (HN2.out _).mono ?_
  rintro e w' ⟨rfl, rfl⟩
  go_wp2_with fail
  refine (HT.out _).mono ?_
  rintro e w' ⟨rfl, rfl⟩
  go_wp2_with fail
  refine HV'.out.mono ?_
  rintro e w' ⟨rfl, rfl⟩
  go_wp2
  go_ret
  exact ⟨rfl, HB.out⟩
set_option maxRecDepth 100000 in
set_option maxHeartbeats 1000000 in
theorem appendSeal_any (w : World) (x : SlM) (hx : SlOk w x) (hr : RightSl x.e = true) :
    Calls Tryz.prog 74 #[.slice none 0 0, x.val] w fun e w' => ∃ v', e = .returned v' ∧ w'.ownsRow w.heap.size 5 1 v' (encSl x.e).length (nums (encSl x.e)) ∧ Below w.heap.size w w' := by
  obtain ⟨⟨tok, cart, ep, cut⟩, ao1, cap1⟩ := x
  obtain ⟨h1, h2, h3, h4, h5⟩ := rightSl_iff hr
  dsimp only at h1 h2 h3 h4 h5
  have z1 := nameS_size h1
  have z2 := nameS_size h2
  obtain ⟨XN, HXN⟩ : ∃ m, Hid (cut.length = m) := ⟨_, hid rfl⟩
  simp only [SlM.val]
  rw [HXN.out] at h5 ⊢
  obtain ⟨W, hW⟩ : ∃ W, W = w.alloc (.cells #[.string tok, .string cart, .int .i64 ep, .slice ao1 XN cap1] 26) := ⟨_, rfl⟩
  have HB : Hid (Below w.heap.size w W) := by rw [hW]; exact (Below.refl _ _).alloc (Nat.le_refl _) _
  have HK : Hid (Blk W w.heap.size 26 [.string tok, .string cart, .int .i64 ep, .slice ao1 XN cap1]) := by rw [hW]; exact Blk.new w _ _
  have l1 := encText_len tok
  have l2 := encText_len cart
  have m1 := enc_le10 (x := tok.size) (by omega)
  have m2 := enc_le10 (x := cart.size) (by omega)
  have m3 := enc_le10 (x := ep.toNat) (by omega)
  have HT1 := hid (appendText_own (.slice none 0 0) 0 [] tok W.heap.size W (World.ownsRow_nil _ _ _ _) (Nat.le_refl _) (by omega))
  rw [List.nil_append] at HT1
  obtain ⟨a1, ha1⟩ : ∃ a, a = (encText tok).length := ⟨_, rfl⟩
  obtain ⟨a2, ha2⟩ : ∃ a, a = (encText cart).length := ⟨_, rfl⟩
  obtain ⟨a3, ha3⟩ : ∃ a, a = (enc ep.toNat).length := ⟨_, rfl⟩
  have hs : a1 + a2 + a3 ≤ 94 := by omega
  rw [← ha1] at HT1
  have HT2 := hid (fun v bs V (hr : V.ownsRow W.heap.size 5 1 v (0 + a1) (nums bs)) (hV : W.heap.size ≤ V.heap.size) => appendText_own v (0 + a1) bs cart W.heap.size V hr hV (by omega))
  rw [← ha2] at HT2
  have HT3 := hid (fun v bs V (hr : V.ownsRow W.heap.size 5 1 v (0 + a1 + a2) (nums bs)) (hV : W.heap.size ≤ V.heap.size) => appendNumber_own v (0 + a1 + a2) bs ep W.heap.size V h3.1 (by omega) hr hV (by omega))
  rw [← ha3] at HT3
  have HCV := hid (hx.cut.below HB.out)
  have HT4 := hid (fun v bs V (hr : V.ownsRow W.heap.size 5 1 v (0 + a1 + a2 + a3) (nums bs)) (hV : Below W.heap.size W V) => appendVector_own v (0 + a1 + a2 + a3) bs ao1 cap1 cut XN HXN.out W.heap.size V (fun U hU => HCV.out.below (hV.trans hU)) h5 h4 hr hV.size (by omega))
  have HE : Hid ((encSl ⟨tok, cart, ep, cut⟩).length = 0 + a1 + a2 + a3 + (encV cut).length ∧ encSl ⟨tok, cart, ep, cut⟩ = encText tok ++ encText cart ++ enc ep.toNat ++ encV cut) := by
    refine ⟨?_, rfl⟩
    unfold encSl
    simp only [List.length_append]
    omega
  rw [HE.out.1, HE.out.2]
  have c0 := HK.out.cell (i := 0) rfl
  have HW := hid hW
  clear hW l1 l2 m1 m2 m3 ha1 ha2 ha3 h3 hx hr h1 h2 h4 HE
  rw [HW.out] at c0
  go_enter Tryz.func74, Tryz.ntmps74
  go_wp2_with fail
  rw [← HW.out]
  obtain ⟨p, hp⟩ : ∃ p, p = w.heap.size := ⟨_, rfl⟩
  rw [← hp] at HK ⊢
  have HPP := hid hp
  clear hp c0
  refine HT1.out.mono ?_
  rintro e w1 ⟨v1, rfl, hr1, hb1⟩
  have HR1 := hid hr1
  have HB1 := hid hb1
  have c1 := (HK.out.below hb1 HK.out.lt).cell (i := 1) rfl
  clear hr1 hb1 HT1
  go_wp2_with fail
  refine (HT2.out _ _ _ HR1.out HB1.out.size).mono ?_
  rintro e w2 ⟨v2, rfl, hr2, hb2⟩
  have HR2 := hid hr2
  have HB2 := hid (HB1.out.trans hb2)
  have c2 := (HK.out.below HB2.out HK.out.lt).cell (i := 2) rfl
  clear hr2 hb2 HT2
  go_wp2_with fail
  refine (HT3.out _ _ _ HR2.out HB2.out.size).mono ?_
  rintro e w3 ⟨v3, rfl, hr3, hb3⟩
  have HR3 := hid hr3
  have HB3 := hid (HB2.out.trans hb3)
  have c3 := (HK.out.below HB3.out HK.out.lt).cell (i := 3) rfl
  clear hr3 hb3 HT3
  go_wp2_with fail
  refine (HT4.out _ _ _ HR3.out HB3.out).mono ?_
  rintro e w4 ⟨v4, rfl, hr4, hb4⟩
  have HB4 := hid (bt HB.out (HB3.out.trans hb4))
  have HR4 : Hid (w4.ownsRow w.heap.size 5 1 v4 (0 + a1 + a2 + a3 + (encV cut).length) (nums (encText tok ++ encText cart ++ enc ep.toNat ++ encV cut))) := own_mono hr4 HB.out.size
  clear hr4 hb4 HT4
  go_wp2
  go_ret
  exact ⟨v4, rfl, HR4.out, HB4.out⟩
/-- What codec.Seal answers. -/
def SealP (w : World) (x : Sl) (e : Ending) (w' : World) : Prop :=
  (if RightSl x = true then ∃ v, e = .returned (.tuple #[v, .int .i64 0]) ∧ w'.ownsRow w.heap.size 5 1 v (encSl x).length (nums (encSl x)) else e = .returned (.tuple #[.slice none 0 0, .int .i64 1])) ∧ Below w.heap.size w w'
end Go.Proofs.YtmpkbdhihdboiaaGreat
