/-
  pannierlaw08.VvPairs answers true for any two vectors.
-/
import Derived.Test.YtjemhigehlakeaaVvH
namespace Go.Proofs.Ytjemhigehlakeaa
open Go.RowKit Go.Maps

theorem len_of {xs ys : List Int} (h : xs = ys) : xs.length = ys.length := by rw [h]

set_option maxRecDepth 100000 in
set_option maxHeartbeats 4000000 in
theorem vvPairs_walk (ao : Option Addr) (ca : Nat) (a : List Int) (bo : Option Addr) (cb : Nat) (b : List Int) (w : World) (ha : HV w ao ca a) (hb : HV w bo cb b) :
    Calls Try.prog 4 #[.slice ao a.length ca, .slice bo b.length cb] w fun e w' => e = .returned (.bool true) ∧ Below w.heap.size w w' := by
  have HA := hid ha
  have HB := hid hb
  obtain ⟨m, hm⟩ : ∃ m, a.length = m := ⟨_, rfl⟩
  obtain ⟨n, hn⟩ : ∃ n, b.length = n := ⟨_, rfl⟩
  have HM := hid hm
  have HN := hid hn
  rw [hm, hn]
  clear ha hb hm hn
  go_enter Try.func4, Try.ntmps4
  go_wp2_with (first
    | (at_builtin; refine wpList_append_copy w rfl _ _ rfl rfl _ _ a m HM.out rfl HA.out.held HA.out.few ?_; intro xo xc w1 _ hx hb1; have HB1 := hid hb1; have HX1 := hid hx; have HBb := hid (HB.out.below hb1).held; clear hx hb1)
    | (at_builtin; refine wpList_append_copy w1 rfl _ _ rfl rfl _ _ b n HN.out rfl HBb.out HB.out.few ?_; intro yo yc w2 _ hy hb2; have HY := hid hy; have HX := hid (HX1.out.below hb2); have HW : Hid (Below w.heap.size w w2) := HB1.out.trans (hb2.mono HB1.out.size); clear hy hb2 HX1 HB1; have HA2 := hid (HA.out.below HW.out); have HB2 := hid (HB.out.below HW.out); clear HA HB)
    | fail)
  refine (lives_any w2).mono ?_
  rintro e w3 ⟨rfl, hb3⟩
  have H3 := hid hb3
  clear hb3
  have HC4 := hid (merge_any w3 xo yo xc yc a b m n HM.out HN.out (HX.out.below H3.out) (HY.out.below H3.out))
  go_wp2_with fail
  refine HC4.out.mono ?_
  rintro e w4 ⟨smergeo, smergec, rfl, hv, hb4⟩
  obtain ⟨smergel, HLsmerge⟩ : ∃ l, Hid ((mergeOf a b).length = l) := ⟨_, hid rfl⟩
  rw [HLsmerge.out]
  have HVsmerge := hid hv
  have HSsmerge := hid hb4
  have H4 : Hid (Below w2.heap.size w2 w4) := H3.out.trans (hb4.mono H3.out.size)
  clear hv hb4 HC4
  have HC5 := hid (rmerge_any w4 ao bo ca cb a b m n HM.out HN.out (HA2.out.below H4.out) (HB2.out.below H4.out))
  go_wp2_with fail
  refine HC5.out.mono ?_
  rintro e w5 ⟨tmergeo, tmergec, rfl, hv, hb5⟩
  obtain ⟨tmergel, HLtmerge⟩ : ∃ l, Hid ((mergeOf a b).length = l) := ⟨_, hid rfl⟩
  rw [HLtmerge.out]
  have HVtmerge := hid hv
  have HStmerge := hid hb5
  have H5 : Hid (Below w2.heap.size w2 w5) := H4.out.trans (hb5.mono H4.out.size)
  clear hv hb5 HC5
  have HC6 := hid (same_any w5 smergeo tmergeo smergec tmergec (mergeOf a b) (mergeOf a b) _ _ HLsmerge.out HLtmerge.out (HVsmerge.out.below HStmerge.out) HVtmerge.out)
  rw [decide_eq_true (show mergeOf a b = mergeOf a b by rfl)] at HC6
  go_wp2_with fail
  refine HC6.out.mono ?_
  rintro e w6 ⟨rfl, q6, rfl⟩
  have H6 : Hid (Below w2.heap.size w2 (w5.drewN q6)) := below_dn H5.out _
  clear HC6
  generalize w5.drewN q6 = w6 at *
  have HC7 := hid (meet_any w6 xo yo xc yc a b m n HM.out HN.out (HX.out.below H6.out) (HY.out.below H6.out))
  go_wp2_with fail
  refine HC7.out.mono ?_
  rintro e w7 ⟨smeeto, smeetc, rfl, hv, hb7⟩
  obtain ⟨smeetl, HLsmeet⟩ : ∃ l, Hid ((meetOf a b).length = l) := ⟨_, hid rfl⟩
  rw [HLsmeet.out]
  have HVsmeet := hid hv
  have HSsmeet := hid hb7
  have H7 : Hid (Below w2.heap.size w2 w7) := H6.out.trans (hb7.mono H6.out.size)
  clear hv hb7 HC7
  have HC8 := hid (rmeet_any w7 ao bo ca cb a b m n HM.out HN.out (HA2.out.below H7.out) (HB2.out.below H7.out))
  go_wp2_with fail
  refine HC8.out.mono ?_
  rintro e w8 ⟨tmeeto, tmeetc, rfl, hv, hb8⟩
  obtain ⟨tmeetl, HLtmeet⟩ : ∃ l, Hid ((meetOf a b).length = l) := ⟨_, hid rfl⟩
  rw [HLtmeet.out]
  have HVtmeet := hid hv
  have HStmeet := hid hb8
  have H8 : Hid (Below w2.heap.size w2 w8) := H7.out.trans (hb8.mono H7.out.size)
  clear hv hb8 HC8
  have HC9 := hid (same_any w8 smeeto tmeeto smeetc tmeetc (meetOf a b) (meetOf a b) _ _ HLsmeet.out HLtmeet.out (HVsmeet.out.below HStmeet.out) HVtmeet.out)
  rw [decide_eq_true (show meetOf a b = meetOf a b by rfl)] at HC9
  go_wp2_with fail
  refine HC9.out.mono ?_
  rintro e w9 ⟨rfl, q9, rfl⟩
  have H9 : Hid (Below w2.heap.size w2 (w8.drewN q9)) := below_dn H8.out _
  clear HC9
  generalize w8.drewN q9 = w9 at *
  obtain ⟨D, HD⟩ : ∃ D, Hid (decide (BelowV a b) = D) := ⟨_, hid rfl⟩
  obtain ⟨C, HCm⟩ : ∃ C, Hid (cmpOf a b = C) := ⟨_, hid rfl⟩
  have HC := hid (below_any w9 xo yo xc yc a b m n HM.out HN.out (HX.out.below H9.out) (HY.out.below H9.out))
  have HC' := hid (rbelow_any w9 ao bo ca cb a b m n HM.out HN.out (HA2.out.below H9.out) (HB2.out.below H9.out))
  have HE := hid (compare_any w9 xo yo xc yc a b m n HM.out HN.out (HX.out.below H9.out) (HY.out.below H9.out))
  have HE' := hid (rcompare_any w9 ao bo ca cb a b m n HM.out HN.out (HA2.out.below H9.out) (HB2.out.below H9.out))
  rw [HD.out] at HC HC'
  rw [HCm.out] at HE HE'
  go_wp2_with fail
  refine HC.out.mono ?_
  rintro e w9 ⟨rfl, rfl⟩
  go_wp2_with fail
  refine HC'.out.mono ?_
  rintro e w9 ⟨rfl, rfl⟩
  go_wp2_with fail
  refine HE.out.mono ?_
  rintro e w9 ⟨rfl, rfl⟩
  go_wp2_with fail
  refine HE'.out.mono ?_
  rintro e w9 ⟨rfl, rfl⟩
  clear HC HC' HE HE'
  have HF := hid (same_any _ xo ao xc ca a a m m HM.out HM.out (HX.out.below H9.out) (HA2.out.below H9.out))
  rw [decide_eq_true (show a = a by rfl)] at HF
  go_wp2_with fail
  refine HF.out.mono ?_
  rintro e w10 ⟨rfl, q10, rfl⟩
  have H10 := hid (below_dn H9.out q10)
  clear HF
  have HF := hid (same_any _ yo bo yc cb b b n n HN.out HN.out (HY.out.below H10.out) (HB2.out.below H10.out))
  rw [decide_eq_true (show b = b by rfl)] at HF
  go_wp2_with fail
  refine HF.out.mono ?_
  rintro e w11 ⟨rfl, q11, rfl⟩
  go_wp2
  go_ret
  exact ⟨rfl, HW.out.trans ((below_dn H9.out _).mono HW.out.size)⟩
end Go.Proofs.Ytjemhigehlakeaa
