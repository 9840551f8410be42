/-
  codec.Seal of a seal without a cut.
-/
import Derived.Test.YtjjgojjllbdpkaaNames
import Derived.Test.YtjjgojjllbdpkaaSealA
import Derived.Test.YtjjgojjllbdpkaaEvSame
import Derived.Test.YtjjgojjllbdpkaaStrKey
namespace Go.Proofs.Ytjjgojjllbdpkaa
open Go.RowKit Go.Maps

theorem upTo_any (w : World) (x m : Int) : Calls Try.prog 22 #[.int .i64 x, .int .i64 m] w fun e w' => e = .returned (.bool (decide (0 ≤ x ∧ x ≤ m))) ∧ w' = w := by
  by_cases h0 : 0 ≤ x
  · by_cases h1 : x ≤ m
    · have HD : Hid (decide (0 ≤ x ∧ x ≤ m) = true) := decide_eq_true ⟨h0, h1⟩
      rw [HD.out]
      go_enter Try.func22, Try.ntmps22
      go_wp2
      go_ret
      exact ⟨by simp, rfl⟩
    · have HD : Hid (decide (0 ≤ x ∧ x ≤ m) = false) := decide_eq_false fun h => h1 h.2
      rw [HD.out]
      go_enter Try.func22, Try.ntmps22
      go_wp2
      go_ret
      exact ⟨by simp, rfl⟩
  · have HD : Hid (decide (0 ≤ x ∧ x ≤ m) = false) := decide_eq_false fun h => h0 h.1
    rw [HD.out]
    go_enter Try.func22, Try.ntmps22
    go_wp2
    go_ret
    exact ⟨by simp, rfl⟩
theorem every_nil (w : World) (f : Value) : Calls Try.prog 52 #[.slice none 0 0, f] w fun e w' => e = .returned (.bool true) ∧ w' = w := by
  go_enter Try.func52, Try.ntmps52
  go_wp2
  refine wp_loop_rounds 1 ?_
  rw [rounds_succ]
  go_wp2
  go_ret
  exact ⟨rfl, rfl⟩
theorem mayList_nil (w : World) (f : Value) : Calls Try.prog 45 #[.slice none 0 0, .int .i64 7, f] w fun e w' => e = .returned (.bool true) ∧ w' = w := by
  have H := hid (every_nil w f)
  go_enter Try.func45, Try.ntmps45
  go_wp2_with fail
  refine H.out.mono ?_
  rintro e w' ⟨rfl, rfl⟩
  go_wp2
  go_ret
  exact ⟨rfl, rfl⟩
theorem plain_nil (w : World) : Calls Try.prog 47 #[.slice none 0 0] w fun e w' => e = .returned (.bool true) ∧ w' = w := by
  go_enter Try.func47, Try.ntmps47
  go_wp2
  go_ret
  exact ⟨rfl, rfl⟩
theorem mayVector_nil (w : World) : Calls Try.prog 27 #[.slice none 0 0] w fun e w' => e = .returned (.bool true) ∧ w' = w := by
  have H := hid (fun f => mayList_nil w f)
  have H2 := hid (plain_nil w)
  go_enter Try.func27, Try.ntmps27
  go_wp2_with fail
  refine (H.out _).mono ?_
  rintro e w' ⟨rfl, rfl⟩
  go_wp2_with fail
  refine H2.out.mono ?_
  rintro e w' ⟨rfl, rfl⟩
  go_wp2
  go_ret
  exact ⟨rfl, rfl⟩
theorem nameS_size {s : ByteArray} (h : nameS s = true) : s.size ≤ 32 := by
  unfold nameS at h
  simp at h
  omega
theorem maySeal0_any (w : World) (tok cart : ByteArray) (h1 : nameS tok = true) (h2 : nameS cart = true) (ep : Int) (h3 : 0 ≤ ep ∧ ep ≤ 2147483647) :
    Calls Try.prog 43 #[.agg #[.string tok, .string cart, .int .i64 ep, .slice none 0 0]] w fun e w' => e = .returned (.bool true) ∧ Below w.heap.size w w' := by
  have hz1 := nameS_size h1
  have hz2 := nameS_size h2
  have HN1 := hid (fun V => codecName_any tok V (by unfold maxLen; omega))
  have HN2 := hid (fun V => codecName_any cart V (by unfold maxLen; omega))
  rw [h1] at HN1
  rw [h2] at HN2
  have HU := hid (fun V => upTo_any V ep 2147483647)
  rw [decide_eq_true h3] at HU
  have HM := hid mayVector_nil
  have HB : Hid (Below w.heap.size w (w.alloc (.cells #[.string tok, .string cart, .int .i64 ep, .slice none 0 0] 26))) := (Below.refl _ _).alloc (Nat.le_refl _) _
  have hk := Blk.new w 26 [.string tok, .string cart, .int .i64 ep, .slice none 0 0]
  have c0 := hk.cell (i := 0) rfl
  have c1 := hk.cell (i := 1) rfl
  have c2 := hk.cell (i := 2) rfl
  have c3 := hk.cell (i := 3) rfl
  clear hk h1 h2 h3 hz1 hz2
  go_enter Try.func43, Try.ntmps43
  go_wp2_with fail
  refine (HN1.out _).mono ?_
  rintro e w' ⟨rfl, rfl⟩
  go_wp2_with fail
  refine (HN2.out _).mono ?_
  rintro e w' ⟨rfl, rfl⟩
  go_wp2_with fail
  refine (HU.out _).mono ?_
  rintro e w' ⟨rfl, rfl⟩
  go_wp2_with fail
  refine (HM.out _).mono ?_
  rintro e w' ⟨rfl, rfl⟩
  go_wp2
  go_ret
  exact ⟨rfl, HB.out⟩
theorem appendNumber_own (v : Value) (n : Nat) (bs : List Int) (x : Int) (B : Nat) (w : World) (h0 : 0 ≤ x) (hx : x ≤ 9223372036854775807) (hown : w.ownsRow B 5 1 v n (nums bs)) (hB : B ≤ w.heap.size) (hn : n ≤ 140737488355000) :
    Calls Try.prog 29 #[v, .int .i64 x] w fun e w' => ∃ v', e = .returned v' ∧ w'.ownsRow B 5 1 v' (n + (enc x.toNat).length) (nums (bs ++ enc x.toNat)) ∧ Below B w w' := by
  have H := hid (appendUint_own v n bs x B w h0 (by omega) hown hB hn)
  have hwr : IntKind.u64.wrap x = x := by rw [IntKind.wrap_u64]; omega
  clear hown
  go_enter Try.func29, Try.ntmps29
  go_wp2_with fail
  refine H.out.mono ?_
  rintro e w' ⟨v', rfl, h1, h2⟩
  have H1 := hid h1
  have H2 := hid h2
  clear h1 h2
  go_wp2
  go_ret
  exact ⟨v', rfl, H1.out, H2.out⟩
theorem appendVector_nil (v : Value) (n : Nat) (bs : List Int) (B : Nat) (w : World) (hown : w.ownsRow B 5 1 v n (nums bs)) (hB : B ≤ w.heap.size) (hn : n ≤ 140737488355000) :
    Calls Try.prog 34 #[v, .slice none 0 0] w fun e w' => ∃ v', e = .returned v' ∧ w'.ownsRow B 5 1 v' (n + (enc 0).length) (nums (bs ++ enc 0)) ∧ Below B w w' := by
  have HL : Hid (∀ f, Calls Try.prog 51 #[v, .slice none 0 0, f] w fun e w' => ∃ v', e = .returned v' ∧ w'.ownsRow B 5 1 v' (n + (enc 0).length) (nums (bs ++ enc 0)) ∧ Below B w w') := fun f => by
    have H := hid (appendUint_own v n bs 0 B w (Int.le_refl _) (by omega) hown hB hn)
    go_enter Try.func51, Try.ntmps51
    go_wp2_with fail
    refine H.out.mono ?_
    rintro e w' ⟨v', rfl, h1, h2⟩
    have H1 := hid h1
    have H2 := hid h2
    clear h1 h2
    go_wp2
    refine wp_loop_rounds 1 ?_
    rw [rounds_succ]
    go_wp2
    go_ret
    exact ⟨v', rfl, H1.out, H2.out⟩
  clear hown
  go_enter Try.func34, Try.ntmps34
  go_wp2_with fail
  refine (HL.out _).mono ?_
  rintro e w' ⟨v', rfl, h1, h2⟩
  have H1 := hid h1
  have H2 := hid h2
  clear h1 h2
  go_wp2
  go_ret
  exact ⟨v', rfl, H1.out, H2.out⟩
theorem appendSeal0_any (w : World) (tok cart : ByteArray) (h1 : tok.size ≤ 32) (h2 : cart.size ≤ 32) (ep : Int) (h3 : 0 ≤ ep ∧ ep ≤ 2147483647) :
    Calls Try.prog 50 #[.slice none 0 0, .agg #[.string tok, .string cart, .int .i64 ep, .slice none 0 0]] w fun e w' => (∃ o n c, e = .returned (.slice o n c) ∧ n ≤ 200) ∧ Below w.heap.size w w' := by
  obtain ⟨W, hW⟩ : ∃ W, W = w.alloc (.cells #[.string tok, .string cart, .int .i64 ep, .slice none 0 0] 26) := ⟨_, rfl⟩
  have HB : Hid (Below w.heap.size w W) := by rw [hW]; exact (Below.refl _ _).alloc (Nat.le_refl _) _
  have HK : Hid (Blk W w.heap.size 26 [.string tok, .string cart, .int .i64 ep, .slice none 0 0]) := by rw [hW]; exact Blk.new w _ _
  have l1 := encText_len tok
  have l2 := encText_len cart
  have m1 := enc_le10 (x := tok.size) (by omega)
  have m2 := enc_le10 (x := cart.size) (by omega)
  have m3 := enc_le10 (x := ep.toNat) (by omega)
  have m4 := enc_le10 (x := 0) (by omega)
  have HT1 := hid (appendText_own (.slice none 0 0) 0 [] tok W.heap.size W (World.ownsRow_nil _ _ _ _) (Nat.le_refl _) (by omega))
  obtain ⟨a1, ha1⟩ : ∃ a, a = (encText tok).length := ⟨_, rfl⟩
  obtain ⟨a2, ha2⟩ : ∃ a, a = (encText cart).length := ⟨_, rfl⟩
  obtain ⟨a3, ha3⟩ : ∃ a, a = (enc ep.toNat).length := ⟨_, rfl⟩
  obtain ⟨a4, ha4⟩ : ∃ a, a = (enc 0).length := ⟨_, rfl⟩
  have hs : a1 + a2 + a3 + a4 ≤ 104 := by omega
  rw [← ha1] at HT1
  have HT2 := hid (fun v bs V (hr : V.ownsRow W.heap.size 5 1 v (0 + a1) (nums bs)) (hV : W.heap.size ≤ V.heap.size) => appendText_own v (0 + a1) bs cart W.heap.size V hr hV (by omega))
  rw [← ha2] at HT2
  have HT3 := hid (fun v bs V (hr : V.ownsRow W.heap.size 5 1 v (0 + a1 + a2) (nums bs)) (hV : W.heap.size ≤ V.heap.size) => appendNumber_own v (0 + a1 + a2) bs ep W.heap.size V h3.1 (by omega) hr hV (by omega))
  rw [← ha3] at HT3
  have HT4 := hid (fun v bs V (hr : V.ownsRow W.heap.size 5 1 v (0 + a1 + a2 + a3) (nums bs)) (hV : W.heap.size ≤ V.heap.size) => appendVector_nil v (0 + a1 + a2 + a3) bs W.heap.size V hr hV (by omega))
  rw [← ha4] at HT4
  have c0 := HK.out.cell (i := 0) rfl
  have HW := hid hW
  clear hW l1 l2 m1 m2 m3 m4 ha1 ha2 ha3 ha4 h3
  rw [HW.out] at c0
  go_enter Try.func50, Try.ntmps50
  go_wp2_with fail
  rw [← HW.out]
  obtain ⟨p, hp⟩ : ∃ p, p = w.heap.size := ⟨_, rfl⟩
  rw [← hp] at HK ⊢
  have HPP := hid hp
  clear hp c0
  refine HT1.out.mono ?_
  rintro e w1 ⟨v1, rfl, hr1, hb1⟩
  have HR1 := hid hr1
  have HB1 := hid hb1
  have c1 := (HK.out.below hb1 HK.out.lt).cell (i := 1) rfl
  clear hr1 hb1 HT1
  go_wp2_with fail
  refine (HT2.out _ _ _ HR1.out HB1.out.size).mono ?_
  rintro e w2 ⟨v2, rfl, hr2, hb2⟩
  have HR2 := hid hr2
  have HB2 := hid (HB1.out.trans hb2)
  have c2 := (HK.out.below HB2.out HK.out.lt).cell (i := 2) rfl
  clear hr2 hb2 HT2
  go_wp2_with fail
  refine (HT3.out _ _ _ HR2.out HB2.out.size).mono ?_
  rintro e w3 ⟨v3, rfl, hr3, hb3⟩
  have HR3 := hid hr3
  have HB3 := hid (HB2.out.trans hb3)
  have c3 := (HK.out.below HB3.out HK.out.lt).cell (i := 3) rfl
  clear hr3 hb3 HT3
  go_wp2_with fail
  refine (HT4.out _ _ _ HR3.out HB3.out.size).mono ?_
  rintro e w4 ⟨v4, rfl, hr4, hb4⟩
  obtain ⟨o, c, hv⟩ := own_slice' hr4
  have HB4 := hid (HB3.out.trans hb4)
  subst hv
  clear hr4 hb4 HT4
  go_wp2
  go_ret
  exact ⟨⟨_, _, _, rfl, by omega⟩, bt HB.out HB4.out⟩
end Go.Proofs.Ytjjgojjllbdpkaa
