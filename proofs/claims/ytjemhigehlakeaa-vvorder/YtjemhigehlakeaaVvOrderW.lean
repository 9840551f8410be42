/-
  pannierlaw08.VvOrder answers true for any three vectors.
-/
import Derived.Test.YtjemhigehlakeaaVvH
namespace Go.Proofs.Ytjemhigehlakeaa
open Go.RowKit Go.Maps

theorem vv_eq {x y : List Int} (hx : plainOf x = x) (hy : plainOf y = y) (h : ∀ i, x.getD i 0 = y.getD i 0) : x = y := (eq_iff_getD hx hy).2 h
theorem merge_comm (a b : List Int) : mergeOf a b = mergeOf b a := vv_eq (plain_merge _ _) (plain_merge _ _) fun i => by simp only [merge_getD]; omega
theorem meet_comm (a b : List Int) : meetOf a b = meetOf b a := vv_eq (plain_meet _ _) (plain_meet _ _) fun i => by simp only [meet_getD]; omega
theorem merge_self (a : List Int) : mergeOf a a = plainOf a := vv_eq (plain_merge _ _) (plain_plain _) fun i => by simp only [merge_getD, plain_getD]; omega
theorem meet_self (a : List Int) : meetOf a a = plainOf a := vv_eq (plain_meet _ _) (plain_plain _) fun i => by simp only [meet_getD, plain_getD]; omega
theorem merge_assoc (a b c : List Int) : mergeOf (mergeOf a b) c = mergeOf a (mergeOf b c) := vv_eq (plain_merge _ _) (plain_merge _ _) fun i => by simp only [merge_getD]; omega
theorem meet_assoc (a b c : List Int) : meetOf (meetOf a b) c = meetOf a (meetOf b c) := vv_eq (plain_meet _ _) (plain_meet _ _) fun i => by simp only [meet_getD]; omega
theorem meet_merge (a b : List Int) : meetOf a (mergeOf a b) = plainOf a := vv_eq (plain_meet _ _) (plain_plain _) fun i => by simp only [meet_getD, merge_getD, plain_getD]; omega
theorem merge_meet (a b : List Int) : mergeOf a (meetOf a b) = plainOf a := vv_eq (plain_merge _ _) (plain_plain _) fun i => by simp only [meet_getD, merge_getD, plain_getD]; omega
theorem below_merge1 (a b : List Int) : BelowV a (mergeOf a b) := belowV_iff.2 fun i => by rw [merge_getD]; omega
theorem below_merge2 (a b : List Int) : BelowV b (mergeOf a b) := belowV_iff.2 fun i => by rw [merge_getD]; omega
theorem meet_below1 (a b : List Int) : BelowV (meetOf a b) a := belowV_iff.2 fun i => by rw [meet_getD]; omega
theorem meet_below2 (a b : List Int) : BelowV (meetOf a b) b := belowV_iff.2 fun i => by rw [meet_getD]; omega
theorem merge_below (a b c : List Int) : decide (BelowV (mergeOf a b) c) = (decide (BelowV a c) && decide (BelowV b c)) := by
  rw [← Bool.decide_and]
  apply decide_eq_decide.2
  simp only [belowV_iff, merge_getD]
  exact ⟨fun h => ⟨fun i => by have := h i; omega, fun i => by have := h i; omega⟩, fun ⟨h1, h2⟩ i => by have := h1 i; have := h2 i; omega⟩
theorem below_meet (a b c : List Int) : decide (BelowV c (meetOf a b)) = (decide (BelowV c a) && decide (BelowV c b)) := by
  rw [← Bool.decide_and]
  apply decide_eq_decide.2
  simp only [belowV_iff, meet_getD]
  exact ⟨fun h => ⟨fun i => by have := h i; omega, fun i => by have := h i; omega⟩, fun ⟨h1, h2⟩ i => by have := h1 i; have := h2 i; omega⟩
theorem merge_eq (a b : List Int) : decide (mergeOf a b = plainOf b) = decide (BelowV a b) := by
  apply decide_eq_decide.2
  rw [eq_iff_getD (plain_merge _ _) (plain_plain _), belowV_iff]
  simp only [merge_getD, plain_getD]
  exact ⟨fun h i => by have := h i; omega, fun h i => by have := h i; omega⟩
theorem meet_eq (a b : List Int) : decide (meetOf a b = plainOf a) = decide (BelowV a b) := by
  apply decide_eq_decide.2
  rw [eq_iff_getD (plain_meet _ _) (plain_plain _), belowV_iff]
  simp only [meet_getD, plain_getD]
  exact ⟨fun h i => by have := h i; omega, fun h i => by have := h i; omega⟩

/-- One more call: what holds in w0 holds behind it. -/
theorem bt {w w0 w1 : World} (h : Below w.heap.size w w0) (hb : Below w0.heap.size w0 w1) : Below w.heap.size w w1 := h.trans (hb.mono h.size)

set_option linter.unusedSimpArgs false in
set_option maxRecDepth 100000 in
set_option maxHeartbeats 16000000 in
theorem vvOrder_walk (ao : Option Addr) (ca : Nat) (a : List Int) (bo : Option Addr) (cb : Nat) (b : List Int) (co : Option Addr) (cc : Nat) (c : List Int) (w : World) (ha : HV w ao ca a) (hb : HV w bo cb b) (hc : HV w co cc c) :
    Calls Try.prog 6 #[.slice ao a.length ca, .slice bo b.length cb, .slice co c.length cc] w fun e w' => e = .returned (.bool true) ∧ Below w.heap.size w w' := by
  have Va := hid ha
  have Vb := hid hb
  have Vc := hid hc
  obtain ⟨al, La⟩ : ∃ l, Hid (a.length = l) := ⟨_, hid rfl⟩
  obtain ⟨bl, Lb⟩ : ∃ l, Hid (b.length = l) := ⟨_, hid rfl⟩
  obtain ⟨cl, Lc⟩ : ∃ l, Hid (c.length = l) := ⟨_, hid rfl⟩
  rw [La.out, Lb.out, Lc.out]
  clear ha hb hc
  have HW := hid (Below.refl w.heap.size w)
  go_enter Try.func6, Try.ntmps6
  go_wp2_with fail
  refine (lives_any w).mono ?_
  rintro e w1 ⟨rfl, hb1⟩
  have HW := hid hb1
  replace Va := hid (Va.out.below hb1)
  replace Vb := hid (Vb.out.below hb1)
  replace Vc := hid (Vc.out.below hb1)
  clear hb1
  have HC := hid (rmay_any w1 ao ca a al La.out Va.out)
  by_cases hma : MayV a
  rotate_left 1
  · rw [decide_eq_false hma] at HC
    clear hma
    go_wp2_with fail
    refine HC.out.mono ?_
    rintro e w9 ⟨rfl, rfl⟩
    go_wp2
    go_ret
    exact ⟨rfl, HW.out⟩
  rw [decide_eq_true hma] at HC
  clear hma
  go_wp2_with fail
  refine HC.out.mono ?_
  rintro e w2 ⟨rfl, rfl⟩
  clear HC
  have HC := hid (rmay_any w2 bo cb b bl Lb.out Vb.out)
  by_cases hmb : MayV b
  rotate_left 1
  · rw [decide_eq_false hmb] at HC
    clear hmb
    go_wp2_with fail
    refine HC.out.mono ?_
    rintro e w9 ⟨rfl, rfl⟩
    go_wp2
    go_ret
    exact ⟨rfl, HW.out⟩
  rw [decide_eq_true hmb] at HC
  clear hmb
  go_wp2_with fail
  refine HC.out.mono ?_
  rintro e w3 ⟨rfl, rfl⟩
  clear HC
  have HC := hid (rmay_any w3 co cc c cl Lc.out Vc.out)
  by_cases hmc : MayV c
  rotate_left 1
  · rw [decide_eq_false hmc] at HC
    clear hmc
    go_wp2_with fail
    refine HC.out.mono ?_
    rintro e w9 ⟨rfl, rfl⟩
    go_wp2
    go_ret
    exact ⟨rfl, HW.out⟩
  rw [decide_eq_true hmc] at HC
  clear hmc
  go_wp2_with fail
  refine HC.out.mono ?_
  rintro e w4 ⟨rfl, rfl⟩
  clear HC
  have HC := hid (merge_any w4 ao bo ca cb (a) (b) al bl La.out Lb.out Va.out Vb.out)
  go_wp2_with fail
  refine HC.out.mono ?_
  rintro e w5 ⟨mo, mc, rfl, hv, hb1⟩
  obtain ⟨ml, Lm⟩ : ∃ l, Hid ((mergeOf a b).length = l) := ⟨_, hid rfl⟩
  rw [Lm.out]
  have Vm := hid hv
  replace HW := hid (bt HW.out hb1)
  replace Va := hid (Va.out.below hb1)
  replace Vb := hid (Vb.out.below hb1)
  replace Vc := hid (Vc.out.below hb1)
  clear hv hb1 HC
  have HC := hid (meet_any w5 ao bo ca cb (a) (b) al bl La.out Lb.out Va.out Vb.out)
  go_wp2_with fail
  refine HC.out.mono ?_
  rintro e w6 ⟨no, nc, rfl, hv, hb1⟩
  obtain ⟨nl, Ln⟩ : ∃ l, Hid ((meetOf a b).length = l) := ⟨_, hid rfl⟩
  rw [Ln.out]
  have Vn := hid hv
  replace HW := hid (bt HW.out hb1)
  replace Va := hid (Va.out.below hb1)
  replace Vb := hid (Vb.out.below hb1)
  replace Vc := hid (Vc.out.below hb1)
  replace Vm := hid (Vm.out.below hb1)
  clear hv hb1 HC
  have HC := hid (merge_any w6 bo ao cb ca (b) (a) bl al Lb.out La.out Vb.out Va.out)
  go_wp2_with fail
  refine HC.out.mono ?_
  rintro e w7 ⟨so, sc, rfl, hv, hb1⟩
  obtain ⟨sl, Ls⟩ : ∃ l, Hid ((mergeOf b a).length = l) := ⟨_, hid rfl⟩
  rw [Ls.out]
  have Vs := hid hv
  replace HW := hid (bt HW.out hb1)
  replace Va := hid (Va.out.below hb1)
  replace Vb := hid (Vb.out.below hb1)
  replace Vc := hid (Vc.out.below hb1)
  replace Vm := hid (Vm.out.below hb1)
  replace Vn := hid (Vn.out.below hb1)
  clear hv hb1 HC
  have HC := hid (same_any w7 mo so mc sc (mergeOf a b) (mergeOf b a) ml sl Lm.out Ls.out Vm.out Vs.out)
  rw [decide_eq_true (merge_comm a b)] at HC
  go_wp2_with fail
  refine HC.out.mono ?_
  rintro e w8 ⟨rfl, q, hq⟩
  have hb1 : Below w7.heap.size w7 w8 := by rw [hq]; exact below_dn (Below.refl _ _) q
  replace HW := hid (bt HW.out hb1)
  replace Va := hid (Va.out.below hb1)
  replace Vb := hid (Vb.out.below hb1)
  replace Vc := hid (Vc.out.below hb1)
  replace Vm := hid (Vm.out.below hb1)
  replace Vn := hid (Vn.out.below hb1)
  replace Vs := hid (Vs.out.below hb1)
  clear hb1 HC hq
  clear Vs Ls
  have HC := hid (meet_any w8 bo ao cb ca (b) (a) bl al Lb.out La.out Vb.out Va.out)
  go_wp2_with fail
  refine HC.out.mono ?_
  rintro e w9 ⟨so, sc, rfl, hv, hb1⟩
  obtain ⟨sl, Ls⟩ : ∃ l, Hid ((meetOf b a).length = l) := ⟨_, hid rfl⟩
  rw [Ls.out]
  have Vs := hid hv
  replace HW := hid (bt HW.out hb1)
  replace Va := hid (Va.out.below hb1)
  replace Vb := hid (Vb.out.below hb1)
  replace Vc := hid (Vc.out.below hb1)
  replace Vm := hid (Vm.out.below hb1)
  replace Vn := hid (Vn.out.below hb1)
  clear hv hb1 HC
  have HC := hid (same_any w9 no so nc sc (meetOf a b) (meetOf b a) nl sl Ln.out Ls.out Vn.out Vs.out)
  rw [decide_eq_true (meet_comm a b)] at HC
  go_wp2_with fail
  refine HC.out.mono ?_
  rintro e w10 ⟨rfl, q, hq⟩
  have hb1 : Below w9.heap.size w9 w10 := by rw [hq]; exact below_dn (Below.refl _ _) q
  replace HW := hid (bt HW.out hb1)
  replace Va := hid (Va.out.below hb1)
  replace Vb := hid (Vb.out.below hb1)
  replace Vc := hid (Vc.out.below hb1)
  replace Vm := hid (Vm.out.below hb1)
  replace Vn := hid (Vn.out.below hb1)
  replace Vs := hid (Vs.out.below hb1)
  clear hb1 HC hq
  clear Vs Ls
  have HC := hid (merge_any w10 ao ao ca ca (a) (a) al al La.out La.out Va.out Va.out)
  go_wp2_with fail
  refine HC.out.mono ?_
  rintro e w11 ⟨so, sc, rfl, hv, hb1⟩
  obtain ⟨sl, Ls⟩ : ∃ l, Hid ((mergeOf a a).length = l) := ⟨_, hid rfl⟩
  rw [Ls.out]
  have Vs := hid hv
  replace HW := hid (bt HW.out hb1)
  replace Va := hid (Va.out.below hb1)
  replace Vb := hid (Vb.out.below hb1)
  replace Vc := hid (Vc.out.below hb1)
  replace Vm := hid (Vm.out.below hb1)
  replace Vn := hid (Vn.out.below hb1)
  clear hv hb1 HC
  have HC := hid (plain_any w11 ao ca (a) al La.out Va.out)
  go_wp2_with fail
  refine HC.out.mono ?_
  rintro e w12 ⟨to, tc, rfl, hv, hb1⟩
  obtain ⟨tl, Lt⟩ : ∃ l, Hid ((plainOf a).length = l) := ⟨_, hid rfl⟩
  rw [Lt.out]
  have Vt := hid hv
  replace HW := hid (bt HW.out hb1)
  replace Va := hid (Va.out.below hb1)
  replace Vb := hid (Vb.out.below hb1)
  replace Vc := hid (Vc.out.below hb1)
  replace Vm := hid (Vm.out.below hb1)
  replace Vn := hid (Vn.out.below hb1)
  replace Vs := hid (Vs.out.below hb1)
  clear hv hb1 HC
  have HC := hid (same_any w12 so to sc tc (mergeOf a a) (plainOf a) sl tl Ls.out Lt.out Vs.out Vt.out)
  rw [decide_eq_true (merge_self a)] at HC
  go_wp2_with fail
  refine HC.out.mono ?_
  rintro e w13 ⟨rfl, q, hq⟩
  have hb1 : Below w12.heap.size w12 w13 := by rw [hq]; exact below_dn (Below.refl _ _) q
  replace HW := hid (bt HW.out hb1)
  replace Va := hid (Va.out.below hb1)
  replace Vb := hid (Vb.out.below hb1)
  replace Vc := hid (Vc.out.below hb1)
  replace Vm := hid (Vm.out.below hb1)
  replace Vn := hid (Vn.out.below hb1)
  replace Vs := hid (Vs.out.below hb1)
  replace Vt := hid (Vt.out.below hb1)
  clear hb1 HC hq
  clear Vs Ls
  clear Vt Lt
  have HC := hid (meet_any w13 ao ao ca ca (a) (a) al al La.out La.out Va.out Va.out)
  go_wp2_with fail
  refine HC.out.mono ?_
  rintro e w14 ⟨so, sc, rfl, hv, hb1⟩
  obtain ⟨sl, Ls⟩ : ∃ l, Hid ((meetOf a a).length = l) := ⟨_, hid rfl⟩
  rw [Ls.out]
  have Vs := hid hv
  replace HW := hid (bt HW.out hb1)
  replace Va := hid (Va.out.below hb1)
  replace Vb := hid (Vb.out.below hb1)
  replace Vc := hid (Vc.out.below hb1)
  replace Vm := hid (Vm.out.below hb1)
  replace Vn := hid (Vn.out.below hb1)
  clear hv hb1 HC
  have HC := hid (plain_any w14 ao ca (a) al La.out Va.out)
  go_wp2_with fail
  refine HC.out.mono ?_
  rintro e w15 ⟨to, tc, rfl, hv, hb1⟩
  obtain ⟨tl, Lt⟩ : ∃ l, Hid ((plainOf a).length = l) := ⟨_, hid rfl⟩
  rw [Lt.out]
  have Vt := hid hv
  replace HW := hid (bt HW.out hb1)
  replace Va := hid (Va.out.below hb1)
  replace Vb := hid (Vb.out.below hb1)
  replace Vc := hid (Vc.out.below hb1)
  replace Vm := hid (Vm.out.below hb1)
  replace Vn := hid (Vn.out.below hb1)
  replace Vs := hid (Vs.out.below hb1)
  clear hv hb1 HC
  have HC := hid (same_any w15 so to sc tc (meetOf a a) (plainOf a) sl tl Ls.out Lt.out Vs.out Vt.out)
  rw [decide_eq_true (meet_self a)] at HC
  go_wp2_with fail
  refine HC.out.mono ?_
  rintro e w16 ⟨rfl, q, hq⟩
  have hb1 : Below w15.heap.size w15 w16 := by rw [hq]; exact below_dn (Below.refl _ _) q
  replace HW := hid (bt HW.out hb1)
  replace Va := hid (Va.out.below hb1)
  replace Vb := hid (Vb.out.below hb1)
  replace Vc := hid (Vc.out.below hb1)
  replace Vm := hid (Vm.out.below hb1)
  replace Vn := hid (Vn.out.below hb1)
  replace Vs := hid (Vs.out.below hb1)
  replace Vt := hid (Vt.out.below hb1)
  clear hb1 HC hq
  clear Vs Ls
  clear Vt Lt
  have HC := hid (merge_any w16 mo co mc cc (mergeOf a b) (c) ml cl Lm.out Lc.out Vm.out Vc.out)
  go_wp2_with fail
  refine HC.out.mono ?_
  rintro e w17 ⟨so, sc, rfl, hv, hb1⟩
  obtain ⟨sl, Ls⟩ : ∃ l, Hid ((mergeOf (mergeOf a b) c).length = l) := ⟨_, hid rfl⟩
  rw [Ls.out]
  have Vs := hid hv
  replace HW := hid (bt HW.out hb1)
  replace Va := hid (Va.out.below hb1)
  replace Vb := hid (Vb.out.below hb1)
  replace Vc := hid (Vc.out.below hb1)
  replace Vm := hid (Vm.out.below hb1)
  replace Vn := hid (Vn.out.below hb1)
  clear hv hb1 HC
  have HC := hid (merge_any w17 bo co cb cc (b) (c) bl cl Lb.out Lc.out Vb.out Vc.out)
  go_wp2_with fail
  refine HC.out.mono ?_
  rintro e w18 ⟨to, tc, rfl, hv, hb1⟩
  obtain ⟨tl, Lt⟩ : ∃ l, Hid ((mergeOf b c).length = l) := ⟨_, hid rfl⟩
  rw [Lt.out]
  have Vt := hid hv
  replace HW := hid (bt HW.out hb1)
  replace Va := hid (Va.out.below hb1)
  replace Vb := hid (Vb.out.below hb1)
  replace Vc := hid (Vc.out.below hb1)
  replace Vm := hid (Vm.out.below hb1)
  replace Vn := hid (Vn.out.below hb1)
  replace Vs := hid (Vs.out.below hb1)
  clear hv hb1 HC
  have HC := hid (merge_any w18 ao to ca tc (a) (mergeOf b c) al tl La.out Lt.out Va.out Vt.out)
  go_wp2_with fail
  refine HC.out.mono ?_
  rintro e w19 ⟨uo, uc, rfl, hv, hb1⟩
  obtain ⟨ul, Lu⟩ : ∃ l, Hid ((mergeOf a (mergeOf b c)).length = l) := ⟨_, hid rfl⟩
  rw [Lu.out]
  have Vu := hid hv
  replace HW := hid (bt HW.out hb1)
  replace Va := hid (Va.out.below hb1)
  replace Vb := hid (Vb.out.below hb1)
  replace Vc := hid (Vc.out.below hb1)
  replace Vm := hid (Vm.out.below hb1)
  replace Vn := hid (Vn.out.below hb1)
  replace Vs := hid (Vs.out.below hb1)
  replace Vt := hid (Vt.out.below hb1)
  clear hv hb1 HC
  have HC := hid (same_any w19 so uo sc uc (mergeOf (mergeOf a b) c) (mergeOf a (mergeOf b c)) sl ul Ls.out Lu.out Vs.out Vu.out)
  rw [decide_eq_true (merge_assoc a b c)] at HC
  go_wp2_with fail
  refine HC.out.mono ?_
  rintro e w20 ⟨rfl, q, hq⟩
  have hb1 : Below w19.heap.size w19 w20 := by rw [hq]; exact below_dn (Below.refl _ _) q
  replace HW := hid (bt HW.out hb1)
  replace Va := hid (Va.out.below hb1)
  replace Vb := hid (Vb.out.below hb1)
  replace Vc := hid (Vc.out.below hb1)
  replace Vm := hid (Vm.out.below hb1)
  replace Vn := hid (Vn.out.below hb1)
  replace Vs := hid (Vs.out.below hb1)
  replace Vt := hid (Vt.out.below hb1)
  replace Vu := hid (Vu.out.below hb1)
  clear hb1 HC hq
  clear Vs Ls
  clear Vt Lt
  clear Vu Lu
  have HC := hid (meet_any w20 no co nc cc (meetOf a b) (c) nl cl Ln.out Lc.out Vn.out Vc.out)
  go_wp2_with fail
  refine HC.out.mono ?_
  rintro e w21 ⟨so, sc, rfl, hv, hb1⟩
  obtain ⟨sl, Ls⟩ : ∃ l, Hid ((meetOf (meetOf a b) c).length = l) := ⟨_, hid rfl⟩
  rw [Ls.out]
  have Vs := hid hv
  replace HW := hid (bt HW.out hb1)
  replace Va := hid (Va.out.below hb1)
  replace Vb := hid (Vb.out.below hb1)
  replace Vc := hid (Vc.out.below hb1)
  replace Vm := hid (Vm.out.below hb1)
  replace Vn := hid (Vn.out.below hb1)
  clear hv hb1 HC
  have HC := hid (meet_any w21 bo co cb cc (b) (c) bl cl Lb.out Lc.out Vb.out Vc.out)
  go_wp2_with fail
  refine HC.out.mono ?_
  rintro e w22 ⟨to, tc, rfl, hv, hb1⟩
  obtain ⟨tl, Lt⟩ : ∃ l, Hid ((meetOf b c).length = l) := ⟨_, hid rfl⟩
  rw [Lt.out]
  have Vt := hid hv
  replace HW := hid (bt HW.out hb1)
  replace Va := hid (Va.out.below hb1)
  replace Vb := hid (Vb.out.below hb1)
  replace Vc := hid (Vc.out.below hb1)
  replace Vm := hid (Vm.out.below hb1)
  replace Vn := hid (Vn.out.below hb1)
  replace Vs := hid (Vs.out.below hb1)
  clear hv hb1 HC
  have HC := hid (meet_any w22 ao to ca tc (a) (meetOf b c) al tl La.out Lt.out Va.out Vt.out)
  go_wp2_with fail
  refine HC.out.mono ?_
  rintro e w23 ⟨uo, uc, rfl, hv, hb1⟩
  obtain ⟨ul, Lu⟩ : ∃ l, Hid ((meetOf a (meetOf b c)).length = l) := ⟨_, hid rfl⟩
  rw [Lu.out]
  have Vu := hid hv
  replace HW := hid (bt HW.out hb1)
  replace Va := hid (Va.out.below hb1)
  replace Vb := hid (Vb.out.below hb1)
  replace Vc := hid (Vc.out.below hb1)
  replace Vm := hid (Vm.out.below hb1)
  replace Vn := hid (Vn.out.below hb1)
  replace Vs := hid (Vs.out.below hb1)
  replace Vt := hid (Vt.out.below hb1)
  clear hv hb1 HC
  have HC := hid (same_any w23 so uo sc uc (meetOf (meetOf a b) c) (meetOf a (meetOf b c)) sl ul Ls.out Lu.out Vs.out Vu.out)
  rw [decide_eq_true (meet_assoc a b c)] at HC
  go_wp2_with fail
  refine HC.out.mono ?_
  rintro e w24 ⟨rfl, q, hq⟩
  have hb1 : Below w23.heap.size w23 w24 := by rw [hq]; exact below_dn (Below.refl _ _) q
  replace HW := hid (bt HW.out hb1)
  replace Va := hid (Va.out.below hb1)
  replace Vb := hid (Vb.out.below hb1)
  replace Vc := hid (Vc.out.below hb1)
  replace Vm := hid (Vm.out.below hb1)
  replace Vn := hid (Vn.out.below hb1)
  replace Vs := hid (Vs.out.below hb1)
  replace Vt := hid (Vt.out.below hb1)
  replace Vu := hid (Vu.out.below hb1)
  clear hb1 HC hq
  clear Vs Ls
  clear Vt Lt
  clear Vu Lu
  have HC := hid (meet_any w24 ao mo ca mc (a) (mergeOf a b) al ml La.out Lm.out Va.out Vm.out)
  go_wp2_with fail
  refine HC.out.mono ?_
  rintro e w25 ⟨so, sc, rfl, hv, hb1⟩
  obtain ⟨sl, Ls⟩ : ∃ l, Hid ((meetOf a (mergeOf a b)).length = l) := ⟨_, hid rfl⟩
  rw [Ls.out]
  have Vs := hid hv
  replace HW := hid (bt HW.out hb1)
  replace Va := hid (Va.out.below hb1)
  replace Vb := hid (Vb.out.below hb1)
  replace Vc := hid (Vc.out.below hb1)
  replace Vm := hid (Vm.out.below hb1)
  replace Vn := hid (Vn.out.below hb1)
  clear hv hb1 HC
  have HC := hid (plain_any w25 ao ca (a) al La.out Va.out)
  go_wp2_with fail
  refine HC.out.mono ?_
  rintro e w26 ⟨to, tc, rfl, hv, hb1⟩
  obtain ⟨tl, Lt⟩ : ∃ l, Hid ((plainOf a).length = l) := ⟨_, hid rfl⟩
  rw [Lt.out]
  have Vt := hid hv
  replace HW := hid (bt HW.out hb1)
  replace Va := hid (Va.out.below hb1)
  replace Vb := hid (Vb.out.below hb1)
  replace Vc := hid (Vc.out.below hb1)
  replace Vm := hid (Vm.out.below hb1)
  replace Vn := hid (Vn.out.below hb1)
  replace Vs := hid (Vs.out.below hb1)
  clear hv hb1 HC
  have HC := hid (same_any w26 so to sc tc (meetOf a (mergeOf a b)) (plainOf a) sl tl Ls.out Lt.out Vs.out Vt.out)
  rw [decide_eq_true (meet_merge a b)] at HC
  go_wp2_with fail
  refine HC.out.mono ?_
  rintro e w27 ⟨rfl, q, hq⟩
  have hb1 : Below w26.heap.size w26 w27 := by rw [hq]; exact below_dn (Below.refl _ _) q
  replace HW := hid (bt HW.out hb1)
  replace Va := hid (Va.out.below hb1)
  replace Vb := hid (Vb.out.below hb1)
  replace Vc := hid (Vc.out.below hb1)
  replace Vm := hid (Vm.out.below hb1)
  replace Vn := hid (Vn.out.below hb1)
  replace Vs := hid (Vs.out.below hb1)
  replace Vt := hid (Vt.out.below hb1)
  clear hb1 HC hq
  clear Vs Ls
  clear Vt Lt
  have HC := hid (merge_any w27 ao no ca nc (a) (meetOf a b) al nl La.out Ln.out Va.out Vn.out)
  go_wp2_with fail
  refine HC.out.mono ?_
  rintro e w28 ⟨so, sc, rfl, hv, hb1⟩
  obtain ⟨sl, Ls⟩ : ∃ l, Hid ((mergeOf a (meetOf a b)).length = l) := ⟨_, hid rfl⟩
  rw [Ls.out]
  have Vs := hid hv
  replace HW := hid (bt HW.out hb1)
  replace Va := hid (Va.out.below hb1)
  replace Vb := hid (Vb.out.below hb1)
  replace Vc := hid (Vc.out.below hb1)
  replace Vm := hid (Vm.out.below hb1)
  replace Vn := hid (Vn.out.below hb1)
  clear hv hb1 HC
  have HC := hid (plain_any w28 ao ca (a) al La.out Va.out)
  go_wp2_with fail
  refine HC.out.mono ?_
  rintro e w29 ⟨to, tc, rfl, hv, hb1⟩
  obtain ⟨tl, Lt⟩ : ∃ l, Hid ((plainOf a).length = l) := ⟨_, hid rfl⟩
  rw [Lt.out]
  have Vt := hid hv
  replace HW := hid (bt HW.out hb1)
  replace Va := hid (Va.out.below hb1)
  replace Vb := hid (Vb.out.below hb1)
  replace Vc := hid (Vc.out.below hb1)
  replace Vm := hid (Vm.out.below hb1)
  replace Vn := hid (Vn.out.below hb1)
  replace Vs := hid (Vs.out.below hb1)
  clear hv hb1 HC
  have HC := hid (same_any w29 so to sc tc (mergeOf a (meetOf a b)) (plainOf a) sl tl Ls.out Lt.out Vs.out Vt.out)
  rw [decide_eq_true (merge_meet a b)] at HC
  go_wp2_with fail
  refine HC.out.mono ?_
  rintro e w30 ⟨rfl, q, hq⟩
  have hb1 : Below w29.heap.size w29 w30 := by rw [hq]; exact below_dn (Below.refl _ _) q
  replace HW := hid (bt HW.out hb1)
  replace Va := hid (Va.out.below hb1)
  replace Vb := hid (Vb.out.below hb1)
  replace Vc := hid (Vc.out.below hb1)
  replace Vm := hid (Vm.out.below hb1)
  replace Vn := hid (Vn.out.below hb1)
  replace Vs := hid (Vs.out.below hb1)
  replace Vt := hid (Vt.out.below hb1)
  clear hb1 HC hq
  clear Vs Ls
  clear Vt Lt
  have HC := hid (below_any w30 ao mo ca mc (a) (mergeOf a b) al ml La.out Lm.out Va.out Vm.out)
  rw [decide_eq_true (below_merge1 a b)] at HC
  go_wp2_with fail
  refine HC.out.mono ?_
  rintro e w31 ⟨rfl, rfl⟩
  clear HC
  have HC := hid (below_any w31 bo mo cb mc (b) (mergeOf a b) bl ml Lb.out Lm.out Vb.out Vm.out)
  rw [decide_eq_true (below_merge2 a b)] at HC
  go_wp2_with fail
  refine HC.out.mono ?_
  rintro e w32 ⟨rfl, rfl⟩
  clear HC
  have HC := hid (below_any w32 no ao nc ca (meetOf a b) (a) nl al Ln.out La.out Vn.out Va.out)
  rw [decide_eq_true (meet_below1 a b)] at HC
  go_wp2_with fail
  refine HC.out.mono ?_
  rintro e w33 ⟨rfl, rfl⟩
  clear HC
  have HC := hid (below_any w33 no bo nc cb (meetOf a b) (b) nl bl Ln.out Lb.out Vn.out Vb.out)
  rw [decide_eq_true (meet_below2 a b)] at HC
  go_wp2_with fail
  refine HC.out.mono ?_
  rintro e w34 ⟨rfl, rfl⟩
  clear HC
  have E1 := hid (below_any w34 ao co ca cc (a) (c) al cl La.out Lc.out Va.out Vc.out)
  have E2 := hid (below_any w34 bo co cb cc (b) (c) bl cl Lb.out Lc.out Vb.out Vc.out)
  have E3 := hid (below_any w34 mo co mc cc (mergeOf a b) (c) ml cl Lm.out Lc.out Vm.out Vc.out)
  have E4 := hid (below_any w34 co ao cc ca (c) (a) cl al Lc.out La.out Vc.out Va.out)
  have E5 := hid (below_any w34 co bo cc cb (c) (b) cl bl Lc.out Lb.out Vc.out Vb.out)
  have E6 := hid (below_any w34 co no cc nc (c) (meetOf a b) cl nl Lc.out Ln.out Vc.out Vn.out)
  rw [merge_below] at E3
  rw [below_meet] at E6
  generalize decide (BelowV a c) = D1 at E1 E3
  generalize decide (BelowV b c) = D2 at E2 E3
  generalize decide (BelowV c a) = D3 at E4 E6
  generalize decide (BelowV c b) = D4 at E5 E6
  have F1 := hid (below_any w34 ao bo ca cb (a) (b) al bl La.out Lb.out Va.out Vb.out)
  obtain ⟨D5, HD5⟩ : ∃ D, Hid (decide (BelowV a b) = D) := ⟨_, hid rfl⟩
  rw [HD5.out] at F1
  cases D1 <;> cases D2 <;> cases D3 <;> cases D4
  all_goals
    simp only [Bool.and_self, Bool.and_true, Bool.and_false] at E3 E6
    go_wp2_with (first | (go_at_call 25; with_reducible refine E1.out.mono ?_; rintro e w9 ⟨rfl, rfl⟩) | (go_at_call 25; with_reducible refine E2.out.mono ?_; rintro e w9 ⟨rfl, rfl⟩) | (go_at_call 25; with_reducible refine E3.out.mono ?_; rintro e w9 ⟨rfl, rfl⟩) | (go_at_call 25; with_reducible refine E4.out.mono ?_; rintro e w9 ⟨rfl, rfl⟩) | (go_at_call 25; with_reducible refine E5.out.mono ?_; rintro e w9 ⟨rfl, rfl⟩) | (go_at_call 25; with_reducible refine E6.out.mono ?_; rintro e w9 ⟨rfl, rfl⟩))
    refine F1.out.mono ?_
    rintro e w34 ⟨rfl, rfl⟩
    have HC := hid (plain_any w34 bo cb (b) bl Lb.out Vb.out)
    go_wp2_with fail
    refine HC.out.mono ?_
    rintro e w35 ⟨so, sc, rfl, hv, hb1⟩
    obtain ⟨sl, Ls⟩ : ∃ l, Hid ((plainOf b).length = l) := ⟨_, hid rfl⟩
    rw [Ls.out]
    have Vs := hid hv
    replace HW := hid (bt HW.out hb1)
    replace Va := hid (Va.out.below hb1)
    replace Vb := hid (Vb.out.below hb1)
    replace Vc := hid (Vc.out.below hb1)
    replace Vm := hid (Vm.out.below hb1)
    replace Vn := hid (Vn.out.below hb1)
    clear hv hb1 HC
    have HC := hid (same_any w35 mo so mc sc (mergeOf a b) (plainOf b) ml sl Lm.out Ls.out Vm.out Vs.out)
    rw [merge_eq a b, HD5.out] at HC
    go_wp2_with fail
    refine HC.out.mono ?_
    rintro e w36 ⟨rfl, q, hq⟩
    have hb1 : Below w35.heap.size w35 w36 := by rw [hq]; exact below_dn (Below.refl _ _) q
    replace HW := hid (bt HW.out hb1)
    replace Va := hid (Va.out.below hb1)
    replace Vb := hid (Vb.out.below hb1)
    replace Vc := hid (Vc.out.below hb1)
    replace Vm := hid (Vm.out.below hb1)
    replace Vn := hid (Vn.out.below hb1)
    replace Vs := hid (Vs.out.below hb1)
    clear hb1 HC hq
    clear Vs Ls
    have F2 := hid (below_any w36 ao bo ca cb a b al bl La.out Lb.out Va.out Vb.out)
    rw [HD5.out] at F2
    go_wp2_with fail
    refine F2.out.mono ?_
    rintro e w37 ⟨rfl, rfl⟩
    have HC := hid (plain_any w37 ao ca (a) al La.out Va.out)
    go_wp2_with fail
    refine HC.out.mono ?_
    rintro e w38 ⟨so, sc, rfl, hv, hb1⟩
    obtain ⟨sl, Ls⟩ : ∃ l, Hid ((plainOf a).length = l) := ⟨_, hid rfl⟩
    rw [Ls.out]
    have Vs := hid hv
    replace HW := hid (bt HW.out hb1)
    replace Va := hid (Va.out.below hb1)
    replace Vb := hid (Vb.out.below hb1)
    replace Vc := hid (Vc.out.below hb1)
    replace Vm := hid (Vm.out.below hb1)
    replace Vn := hid (Vn.out.below hb1)
    clear hv hb1 HC
    have HC := hid (same_any w38 no so nc sc (meetOf a b) (plainOf a) nl sl Ln.out Ls.out Vn.out Vs.out)
    rw [meet_eq a b, HD5.out] at HC
    go_wp2_with fail
    refine HC.out.mono ?_
    rintro e w39 ⟨rfl, q, hq⟩
    have hb1 : Below w38.heap.size w38 w39 := by rw [hq]; exact below_dn (Below.refl _ _) q
    replace HW := hid (bt HW.out hb1)
    replace Va := hid (Va.out.below hb1)
    replace Vb := hid (Vb.out.below hb1)
    replace Vc := hid (Vc.out.below hb1)
    replace Vm := hid (Vm.out.below hb1)
    replace Vn := hid (Vn.out.below hb1)
    replace Vs := hid (Vs.out.below hb1)
    clear hb1 HC hq
    go_wp2
    go_ret
    exact ⟨ret_bool (by simp), HW.out⟩
end Go.Proofs.Ytjemhigehlakeaa
