/-
  The document's Merge and Meet; With, the document's With.
-/
import Derived.Test.YtjemhigehlakeaaVvE
namespace Go.Proofs.Ytjemhigehlakeaa
open Go.RowKit Go.Maps

theorem join_snoc {f : Int → Int → Int} {a b : List Int} {k : Nat} (hk : k < max a.length b.length) : (joinOf f a b).take (k + 1) = (joinOf f a b).take k ++ [f (a.getD k 0) (b.getD k 0)] := by
  have hl : k < (joinOf f a b).length := by rw [join_len]; exact hk
  rw [List.take_succ_eq_append_getElem hl]
  simp [joinOf]

set_option maxRecDepth 100000 in
set_option maxHeartbeats 1000000 in
theorem rmerge_any (w : World) (ao bo : Option Addr) (ca cb : Nat) (a b : List Int) (m n : Nat) (hm : a.length = m) (hn : b.length = n) (ha : HV w ao ca a) (hb : HV w bo cb b) :
    Calls Try.prog 22 #[.slice ao m ca, .slice bo n cb] w (AnsV w (mergeOf a b)) := by
  have HA := hid ha
  have HB := hid hb
  have hfa := ha.few
  have hfb := hb.few
  obtain ⟨L, hL⟩ : ∃ L, L = max m n := ⟨_, rfl⟩
  have HL : Hid (L = max a.length b.length) := by show _ = _; rw [hL, hm, hn]
  have HP := hid (fun wr => longer_any wr ao bo ca cb m n)
  rw [← hL] at HP
  have HM := hid hm
  have HN := hid hn
  have hLs : L ≤ 17592186044416 := by omega
  have HRG : Hid (∀ x ∈ joinOf (fun x y => max x y) a b, -9223372036854775808 ≤ x ∧ x ≤ 9223372036854775807) := join_rng fun i => by
    have := HA.out.held.rng i
    have := HB.out.held.rng i
    show -9223372036854775808 ≤ max _ _ ∧ max _ _ ≤ 9223372036854775807
    omega
  clear ha hb hfa hfb hL hm hn
  go_enter Try.func22, Try.ntmps22
  go_wp2
  go_loopw [5, 6, 7] (fun v i _ wr => ∃ k : Nat, k ≤ L ∧ i = .int .i64 k ∧ Hid (wr.ownsRow w.heap.size 3 1 v k (ints ((joinOf (fun x y => max x y) a b).take k)) ∧ Below w.heap.size w wr)) (fun _ i _ _ => L - (intOf i).toNat)
  case atStart => exact ⟨0, Nat.zero_le _, rfl, ownI_nil _ _, Below.refl _ _⟩
  case round =>
    obtain ⟨k, hk, rfl, HR⟩ := hrel
    have HPL := hid (HP.out wr)
    go_wp2_with fail
    refine HPL.out.mono ?_
    rintro e w' ⟨rfl, rfl⟩
    by_cases hlt : k < L
    · have hlt' : (k : Int) < (L : Int) := by omega
      have HOA := hid (rof_any w' ao ca a m HM.out (k : Int) (HA.out.below HR.out.2).held)
      have HOB := hid (rof_any w' bo cb b n HN.out (k : Int) (HB.out.below HR.out.2).held)
      rw [ofV_nat] at HOA HOB
      obtain ⟨X, HX⟩ : ∃ X, Hid (a.getD k 0 = X) := ⟨_, hid rfl⟩
      obtain ⟨Y, HY⟩ : ∃ Y, Hid (b.getD k 0 = Y) := ⟨_, hid rfl⟩
      rw [HX.out] at HOA
      rw [HY.out] at HOB
      have htk : Hid ((joinOf (fun x y => max x y) a b).take (k + 1) = (joinOf (fun x y => max x y) a b).take k ++ [max X Y]) := by
        have := join_snoc (f := (fun x y => max x y)) (a := a) (b := b) (k := k) (by rw [← HL.out]; exact hlt)
        rw [HX.out, HY.out] at this
        exact this
      have hkl : Hid (((joinOf (fun x y => max x y) a b).take k).length = k) := by
        show _ = _
        rw [List.length_take, join_len, ← HL.out]
        omega
      go_wp2_with fail
      refine HOA.out.mono ?_
      rintro e w2 ⟨rfl, rfl⟩
      go_wp2_with fail
      refine HOB.out.mono ?_
      rintro e w3 ⟨rfl, rfl⟩
      by_cases hxy : X < Y
      · have HE : Hid (max X Y = Y) := (by omega : max X Y = Y)
        go_wp2_with fail
        refine HOB.out.mono ?_
        rintro e w4 ⟨rfl, rfl⟩
        go_wp2_with (at_builtin; refine wpList_append_one _ _ Y rfl rfl _ _ rfl w.heap.size _ ((joinOf (fun x y => max x y) a b).take k) rfl rfl (by rw [hkl.out]; exact HR.out.1) HR.out.2.size (by rw [hkl.out]; omega) ?_; intro v' w5 hown hb5)
        have HO5 := hid hown
        have HB5 := hid hb5
        clear hown hb5
        go_wp2
        go_roundw
        case rel =>
          refine ⟨k + 1, by omega, by go_num, ?_, HR.out.2.trans HB5.out⟩
          have := HO5.out
          rw [List.length_append, hkl.out] at this
          rw [htk.out, HE.out]
          exact this
        case measure => simp [intOf]; omega
      · have HE : Hid (max X Y = X) := (by omega : max X Y = X)
        go_wp2_with (at_builtin; refine wpList_append_one _ _ X rfl rfl _ _ rfl w.heap.size _ ((joinOf (fun x y => max x y) a b).take k) rfl rfl (by rw [hkl.out]; exact HR.out.1) HR.out.2.size (by rw [hkl.out]; omega) ?_; intro v' w5 hown hb5)
        have HO5 := hid hown
        have HB5 := hid hb5
        clear hown hb5
        go_wp2
        go_roundw
        case rel =>
          refine ⟨k + 1, by omega, by go_num, ?_, HR.out.2.trans HB5.out⟩
          have := HO5.out
          rw [List.length_append, hkl.out] at this
          rw [htk.out, HE.out]
          exact this
        case measure => simp [intOf]; omega
    · have hlt' : ¬ (k : Int) < (L : Int) := by omega
      have hkL : k = (joinOf (fun x y => max x y) a b).length := by rw [join_len, ← HL.out]; omega
      have h1 := HR.out.1
      rw [hkL, List.take_length] at h1
      obtain ⟨vo, vc, hv, hvv⟩ := hv_of_own h1 HRG.out (by rw [← hkL]; omega)
      subst hv
      have HU := hid (rplain_any w' vo vc (joinOf (fun x y => max x y) a b) _ rfl hvv)
      obtain ⟨z, HZ⟩ : ∃ z, Hid ((plainOf (joinOf (fun x y => max x y) a b)).length = z) := ⟨_, hid rfl⟩
      rw [← hkL] at HU
      have HKL := hid hkL
      have HBB := hid HR.out.2
      rw [← hkL]
      clear h1 hvv hkL HR
      go_wp2_with fail
      refine HU.out.mono ?_
      rintro e w2 ⟨co, cp, rfl, hv, hb2⟩
      rw [HZ.out]
      have HV' := hid hv
      have HB2 := hid hb2
      clear hv hb2 HU
      go_wp2
      go_ret
      exact ⟨co, cp, by show _ = Ending.returned (.slice co (plainOf (joinOf (fun x y => max x y) a b)).length cp); rw [HZ.out]; rfl, HV'.out, HBB.out.trans (HB2.out.mono HBB.out.size)⟩

set_option maxRecDepth 100000 in
set_option maxHeartbeats 1000000 in
theorem rmeet_any (w : World) (ao bo : Option Addr) (ca cb : Nat) (a b : List Int) (m n : Nat) (hm : a.length = m) (hn : b.length = n) (ha : HV w ao ca a) (hb : HV w bo cb b) :
    Calls Try.prog 24 #[.slice ao m ca, .slice bo n cb] w (AnsV w (meetOf a b)) := by
  have HA := hid ha
  have HB := hid hb
  have hfa := ha.few
  have hfb := hb.few
  obtain ⟨L, hL⟩ : ∃ L, L = max m n := ⟨_, rfl⟩
  have HL : Hid (L = max a.length b.length) := by show _ = _; rw [hL, hm, hn]
  have HP := hid (fun wr => longer_any wr ao bo ca cb m n)
  rw [← hL] at HP
  have HM := hid hm
  have HN := hid hn
  have hLs : L ≤ 17592186044416 := by omega
  have HRG : Hid (∀ x ∈ joinOf (fun x y => min x y) a b, -9223372036854775808 ≤ x ∧ x ≤ 9223372036854775807) := join_rng fun i => by
    have := HA.out.held.rng i
    have := HB.out.held.rng i
    show -9223372036854775808 ≤ min _ _ ∧ min _ _ ≤ 9223372036854775807
    omega
  clear ha hb hfa hfb hL hm hn
  go_enter Try.func24, Try.ntmps24
  go_wp2
  go_loopw [5, 6, 7] (fun v i _ wr => ∃ k : Nat, k ≤ L ∧ i = .int .i64 k ∧ Hid (wr.ownsRow w.heap.size 3 1 v k (ints ((joinOf (fun x y => min x y) a b).take k)) ∧ Below w.heap.size w wr)) (fun _ i _ _ => L - (intOf i).toNat)
  case atStart => exact ⟨0, Nat.zero_le _, rfl, ownI_nil _ _, Below.refl _ _⟩
  case round =>
    obtain ⟨k, hk, rfl, HR⟩ := hrel
    have HPL := hid (HP.out wr)
    go_wp2_with fail
    refine HPL.out.mono ?_
    rintro e w' ⟨rfl, rfl⟩
    by_cases hlt : k < L
    · have hlt' : (k : Int) < (L : Int) := by omega
      have HOA := hid (rof_any w' ao ca a m HM.out (k : Int) (HA.out.below HR.out.2).held)
      have HOB := hid (rof_any w' bo cb b n HN.out (k : Int) (HB.out.below HR.out.2).held)
      rw [ofV_nat] at HOA HOB
      obtain ⟨X, HX⟩ : ∃ X, Hid (a.getD k 0 = X) := ⟨_, hid rfl⟩
      obtain ⟨Y, HY⟩ : ∃ Y, Hid (b.getD k 0 = Y) := ⟨_, hid rfl⟩
      rw [HX.out] at HOA
      rw [HY.out] at HOB
      have htk : Hid ((joinOf (fun x y => min x y) a b).take (k + 1) = (joinOf (fun x y => min x y) a b).take k ++ [min X Y]) := by
        have := join_snoc (f := (fun x y => min x y)) (a := a) (b := b) (k := k) (by rw [← HL.out]; exact hlt)
        rw [HX.out, HY.out] at this
        exact this
      have hkl : Hid (((joinOf (fun x y => min x y) a b).take k).length = k) := by
        show _ = _
        rw [List.length_take, join_len, ← HL.out]
        omega
      go_wp2_with fail
      refine HOA.out.mono ?_
      rintro e w2 ⟨rfl, rfl⟩
      go_wp2_with fail
      refine HOB.out.mono ?_
      rintro e w3 ⟨rfl, rfl⟩
      by_cases hxy : Y < X
      · have HE : Hid (min X Y = Y) := (by omega : min X Y = Y)
        go_wp2_with fail
        refine HOB.out.mono ?_
        rintro e w4 ⟨rfl, rfl⟩
        go_wp2_with (at_builtin; refine wpList_append_one _ _ Y rfl rfl _ _ rfl w.heap.size _ ((joinOf (fun x y => min x y) a b).take k) rfl rfl (by rw [hkl.out]; exact HR.out.1) HR.out.2.size (by rw [hkl.out]; omega) ?_; intro v' w5 hown hb5)
        have HO5 := hid hown
        have HB5 := hid hb5
        clear hown hb5
        go_wp2
        go_roundw
        case rel =>
          refine ⟨k + 1, by omega, by go_num, ?_, HR.out.2.trans HB5.out⟩
          have := HO5.out
          rw [List.length_append, hkl.out] at this
          rw [htk.out, HE.out]
          exact this
        case measure => simp [intOf]; omega
      · have HE : Hid (min X Y = X) := (by omega : min X Y = X)
        go_wp2_with (at_builtin; refine wpList_append_one _ _ X rfl rfl _ _ rfl w.heap.size _ ((joinOf (fun x y => min x y) a b).take k) rfl rfl (by rw [hkl.out]; exact HR.out.1) HR.out.2.size (by rw [hkl.out]; omega) ?_; intro v' w5 hown hb5)
        have HO5 := hid hown
        have HB5 := hid hb5
        clear hown hb5
        go_wp2
        go_roundw
        case rel =>
          refine ⟨k + 1, by omega, by go_num, ?_, HR.out.2.trans HB5.out⟩
          have := HO5.out
          rw [List.length_append, hkl.out] at this
          rw [htk.out, HE.out]
          exact this
        case measure => simp [intOf]; omega
    · have hlt' : ¬ (k : Int) < (L : Int) := by omega
      have hkL : k = (joinOf (fun x y => min x y) a b).length := by rw [join_len, ← HL.out]; omega
      have h1 := HR.out.1
      rw [hkL, List.take_length] at h1
      obtain ⟨vo, vc, hv, hvv⟩ := hv_of_own h1 HRG.out (by rw [← hkL]; omega)
      subst hv
      have HU := hid (rplain_any w' vo vc (joinOf (fun x y => min x y) a b) _ rfl hvv)
      obtain ⟨z, HZ⟩ : ∃ z, Hid ((plainOf (joinOf (fun x y => min x y) a b)).length = z) := ⟨_, hid rfl⟩
      rw [← hkL] at HU
      have HKL := hid hkL
      have HBB := hid HR.out.2
      rw [← hkL]
      clear h1 hvv hkL HR
      go_wp2_with fail
      refine HU.out.mono ?_
      rintro e w2 ⟨co, cp, rfl, hv, hb2⟩
      rw [HZ.out]
      have HV' := hid hv
      have HB2 := hid hb2
      clear hv hb2 HU
      go_wp2
      go_ret
      exact ⟨co, cp, by show _ = Ending.returned (.slice co (plainOf (joinOf (fun x y => min x y) a b)).length cp); rw [HZ.out]; rfl, HV'.out, HBB.out.trans (HB2.out.mono HBB.out.size)⟩
end Go.Proofs.Ytjemhigehlakeaa
