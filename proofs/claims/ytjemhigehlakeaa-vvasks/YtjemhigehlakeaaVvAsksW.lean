/-
  pannierlaw08.VvAsks answers true for any vector, numbers and dot.
-/
import Derived.Test.YtjemhigehlakeaaVvI
namespace Go.Proofs.Ytjemhigehlakeaa
open Go.RowKit Go.Maps

theorem below_dr {B : Nat} {a w : World} (h : Below B a w) : Below B a w.drew := ⟨h.os, h.tape, h.output, h.size, h.block⟩
theorem HV.dr {w : World} {ao : Option Addr} {cap : Nat} {xs : List Int} (h : HV w ao cap xs) : HV w.drew ao cap xs := h.below (below_dr (Below.refl _ _))
theorem bt {w w0 w1 : World} (h : Below w.heap.size w w0) (hb : Below w0.heap.size w0 w1) : Below w.heap.size w w1 := h.trans (hb.mono h.size)
def wOf (v : List Int) (o n : Int) : List Int := if WithOk o n then plainOf (withOf v o.toNat n) else []
def zOf (o n : Int) : Int := if WithOk o n then 0 else 1
def AnsAny (w : World) (v : List Int) (o n : Int) (e : Ending) (w' : World) : Prop := ∃ bo cp, e = .returned (.tuple #[.slice bo (wOf v o n).length cp, .int .i64 (zOf o n)]) ∧ HV w' bo cp (wOf v o n) ∧ Below w.heap.size w w'
theorem with_any (w : World) (ao : Option Addr) (ca : Nat) (v : List Int) (m : Nat) (hm : v.length = m) (h : HV w ao ca v) (o n : Int) : Calls Try.prog 9 #[.slice ao m ca, .int .i64 o, .int .i64 n] w (AnsAny w v o n) := by
  by_cases hok : WithOk o n
  · have hok' := hok
    unfold WithOk at hok'
    obtain ⟨k, rfl⟩ := Int.eq_ofNat_of_zero_le hok'.1
    refine (with_good w ao ca v m hm h k (by omega) n hok'.2.2).mono ?_
    rintro e w' ⟨bo, cp, rfl, hv, hb⟩
    refine ⟨bo, cp, ?_, ?_, hb⟩
    · simp [wOf, zOf, hok]
    · simpa [wOf, hok] using hv
  · refine (with_bad w _ o n hok).mono ?_
    rintro e w' ⟨rfl, rfl⟩
    refine ⟨none, 0, ?_, ?_, Below.refl _ _⟩
    · simp [wOf, zOf, hok]
    · simpa [wOf, hok] using hv_nil _
theorem rwith_any (w : World) (ao : Option Addr) (ca : Nat) (v : List Int) (m : Nat) (hm : v.length = m) (h : HV w ao ca v) (o n : Int) : Calls Try.prog 10 #[.slice ao m ca, .int .i64 o, .int .i64 n] w (AnsAny w v o n) := by
  by_cases hok : WithOk o n
  · have hok' := hok
    unfold WithOk at hok'
    obtain ⟨k, rfl⟩ := Int.eq_ofNat_of_zero_le hok'.1
    refine (rwith_good w ao ca v m hm h k (by omega) n hok'.2.2).mono ?_
    rintro e w' ⟨bo, cp, rfl, hv, hb⟩
    refine ⟨bo, cp, ?_, ?_, hb⟩
    · simp [wOf, zOf, hok]
    · simpa [wOf, hok] using hv
  · refine (rwith_bad w _ o n hok).mono ?_
    rintro e w' ⟨rfl, rfl⟩
    refine ⟨none, 0, ?_, ?_, Below.refl _ _⟩
    · simp [wOf, zOf, hok]
    · simpa [wOf, hok] using hv_nil _

set_option maxRecDepth 100000 in
set_option maxHeartbeats 4000000 in
theorem vvAsks_walk (vo : Option Addr) (vc : Nat) (v : List Int) (origin n o s : Int) (w : World) (hv : HV w vo vc v) (_ho : -9223372036854775808 ≤ origin ∧ origin ≤ 9223372036854775807) (_hn : -9223372036854775808 ≤ n ∧ n ≤ 9223372036854775807) :
    Calls Try.prog 3 #[.slice vo v.length vc, .int .i64 origin, .int .i64 n, .agg #[.int .i64 o, .int .i64 s]] w fun e w' => e = .returned (.bool true) ∧ Below w.heap.size w w' := by
  clear _ho _hn
  obtain ⟨m, HM⟩ : ∃ l, Hid (v.length = l) := ⟨_, hid rfl⟩
  rw [HM.out]
  obtain ⟨W, hW⟩ : ∃ W, W = w.alloc (.cells #[.int .i64 o, .int .i64 s] 24) := ⟨_, rfl⟩
  have HBW : Hid (Below w.heap.size w W) := (by rw [hW]; exact (Below.refl _ _).alloc (Nat.le_refl _) _ : Below w.heap.size w W)
  have hbk : Blk W w.heap.size 24 [.int .i64 o, .int .i64 s] := by rw [hW]; exact Blk.new w 24 [.int .i64 o, .int .i64 s]
  have HBK0 := hid hbk
  have HV0 := hid (hv.below HBW.out)
  clear hv hbk
  obtain ⟨p, hp⟩ : ∃ p, p = w.heap.size := ⟨_, rfl⟩
  rw [← hp] at HBK0
  have hst : W.heap.size = w.heap.size + 1 := by rw [hW]; simp
  have HAL : Hid (W.alloc (.cells #[] 3) = (w.alloc (.cells #[.int .i64 o, .int .i64 s] 24)).alloc (.cells #[] 3)) := (by rw [hW] : _ = _)
  have HST := hid hst
  clear hst
  go_enter Try.func3, Try.ntmps3
  go_wp2_with (at_builtin; rw [← HAL.out]; refine wpList_append_copy W rfl _ _ rfl ?_ _ _ v m HM.out rfl HV0.out.held HV0.out.few ?_; (show _ = Value.slice (some ⟨W.heap.size, 0, none⟩) 0 0; rw [HST.out]; rfl); intro xo xc w1 _ hx hb1; have HX := hid hx; have HB1 := hid hb1; clear hx hb1)
  rw [← hp]
  clear hp hW HAL HST
  obtain ⟨x, HXL⟩ : ∃ l, Hid ((wOf v origin n).length = l) := ⟨_, hid rfl⟩
  obtain ⟨z, HZL⟩ : ∃ l, Hid (zOf origin n = l) := ⟨_, hid rfl⟩
  refine (with_any w1 xo xc v m HM.out HX.out origin n).mono ?_
  rintro e w2 ⟨ao, ac, rfl, ha, hb2⟩
  rw [HXL.out, HZL.out]
  have HA0 := hid ha
  have HB2 := hid hb2
  clear ha hb2
  have HC := hid (rwith_any w2 vo vc v m HM.out ((HV0.out.below HB1.out).below HB2.out) origin n)
  go_wp2_with fail
  refine HC.out.mono ?_
  rintro e w3 ⟨bo, bc, rfl, hb, hb3⟩
  rw [HXL.out, HZL.out]
  have HB := hid hb
  have HA := hid (HA0.out.below hb3)
  have HXX := hid ((HX.out.below HB2.out).below hb3)
  have HVV := hid (((HV0.out.below HB1.out).below HB2.out).below hb3)
  have HBK := hid (((HBK0.out.below HB1.out HBK0.out.lt).below HB2.out (HBK0.out.below HB1.out HBK0.out.lt).lt).below hb3 ((HBK0.out.below HB1.out HBK0.out.lt).below HB2.out (HBK0.out.below HB1.out HBK0.out.lt).lt).lt)
  have HW3 := hid (bt (bt (bt HBW.out HB1.out) HB2.out) hb3)
  clear hb hb3 HC HA0 HX HV0 HBK0 HB1 HB2 HBW
  have c0 := HBK.out.cell (i := 0) rfl
  have c1 := HBK.out.cell (i := 1) rfl
  obtain ⟨DM, HDM⟩ : ∃ D, Hid (decide (MayV v) = D) := ⟨_, hid rfl⟩
  obtain ⟨X, HOX⟩ : ∃ D, Hid (ofV v origin = D) := ⟨_, hid rfl⟩
  obtain ⟨DH, HDH⟩ : ∃ D, Hid (decide (HasV v o s) = D) := ⟨_, hid rfl⟩
  obtain ⟨y, HYL⟩ : ∃ l, Hid ((plainOf v).length = l) := ⟨_, hid rfl⟩
  have C1 : Hid (∀ V, Below w3.heap.size w3 V → Calls Try.prog 11 #[] V fun e w' => e = .returned (.bool true) ∧ Below w3.heap.size w3 w') := fun V hV => (lives_any V).mono fun _ _ h => ⟨h.1, bt hV h.2⟩
  have C2 : Hid (∀ V, Below w3.heap.size w3 V → Calls Try.prog 12 #[.slice xo m xc] V fun e w' => e = .returned (.bool DM) ∧ Below w3.heap.size w3 w') := fun V hV => (may_any V xo xc v m HM.out (HXX.out.below hV)).mono fun _ _ h => ⟨by rw [← HDM.out]; exact h.1, by rw [h.2]; exact hV⟩
  have C3 : Hid (∀ V, Below w3.heap.size w3 V → Calls Try.prog 13 #[.slice vo m vc] V fun e w' => e = .returned (.bool DM) ∧ Below w3.heap.size w3 w') := fun V hV => (rmay_any V vo vc v m HM.out (HVV.out.below hV)).mono fun _ _ h => ⟨by rw [← HDM.out]; exact h.1, by rw [h.2]; exact hV⟩
  have C4 : Hid (∀ V, Below w3.heap.size w3 V → Calls Try.prog 14 #[.slice xo m xc, .int .i64 origin] V fun e w' => e = .returned (.int .i64 X) ∧ Below w3.heap.size w3 w') := fun V hV => (of_any V xo xc v m HM.out origin (HXX.out.below hV).held).mono fun _ _ h => ⟨by rw [← HOX.out]; exact h.1, by rw [h.2]; exact hV⟩
  have C5 : Hid (∀ V, Below w3.heap.size w3 V → Calls Try.prog 15 #[.slice vo m vc, .int .i64 origin] V fun e w' => e = .returned (.int .i64 X) ∧ Below w3.heap.size w3 w') := fun V hV => (rof_any V vo vc v m HM.out origin (HVV.out.below hV).held).mono fun _ _ h => ⟨by rw [← HOX.out]; exact h.1, by rw [h.2]; exact hV⟩
  have C6 : Hid (∀ V, Below w3.heap.size w3 V → Calls Try.prog 17 #[.slice xo m xc] V fun e w' => ∃ yo yc, e = .returned (.slice yo y yc) ∧ HV w' yo yc (plainOf v) ∧ Below w3.heap.size w3 w') := fun V hV => (plain_any V xo xc v m HM.out (HXX.out.below hV)).mono fun _ _ ⟨yo, yc, h1, h2, h3⟩ => ⟨yo, yc, by rw [← HYL.out]; exact h1, h2, bt hV h3⟩
  have C7 : Hid (∀ V yo yc, Below w3.heap.size w3 V → HV V yo yc (plainOf v) → Calls Try.prog 18 #[.slice vo m vc] V fun e w' => ∃ uo uc, e = .returned (.slice uo y uc) ∧ HV w' uo uc (plainOf v) ∧ HV w' yo yc (plainOf v) ∧ Below w3.heap.size w3 w') := fun V yo yc hV hy => (rplain_any V vo vc v m HM.out (HVV.out.below hV)).mono fun _ _ ⟨uo, uc, h1, h2, h3⟩ => ⟨uo, uc, by rw [← HYL.out]; exact h1, h2, hy.below h3, bt hV h3⟩
  have C8 : Hid (∀ V yo yc uo uc, Below w3.heap.size w3 V → HV V yo yc (plainOf v) → HV V uo uc (plainOf v) → Calls Try.prog 16 #[.slice yo y yc, .slice uo y uc] V fun e w' => e = .returned (.bool true) ∧ Below w3.heap.size w3 w') := fun V yo yc uo uc hV h1 h2 => (same_any V yo uo yc uc _ _ y y HYL.out HYL.out h1 h2).mono fun _ _ ⟨h3, q, h4⟩ => ⟨by rw [decide_eq_true rfl] at h3; exact h3, by rw [h4]; exact below_dn hV q⟩
  have C9 : Hid (∀ V, Below w3.heap.size w3 V → Calls Try.prog 16 #[.slice ao x ac, .slice bo x bc] V fun e w' => e = .returned (.bool true) ∧ Below w3.heap.size w3 w') := fun V hV => (same_any V ao bo ac bc _ _ x x HXL.out HXL.out (HA.out.below hV) (HB.out.below hV)).mono fun _ _ ⟨h3, q, h4⟩ => ⟨by rw [decide_eq_true rfl] at h3; exact h3, by rw [h4]; exact below_dn hV q⟩
  have C10 : Hid (∀ V, Below w3.heap.size w3 V → Calls Try.prog 19 #[.slice xo m xc, .agg #[.int .i64 o, .int .i64 s]] V fun e w' => e = .returned (.bool DH) ∧ Below w3.heap.size w3 w') := fun V hV => (has_any V xo xc v m HM.out (HXX.out.below hV) o s).mono fun _ _ h => ⟨by rw [← HDH.out]; exact h.1, bt hV h.2⟩
  have C11 : Hid (∀ V, Below w3.heap.size w3 V → Calls Try.prog 20 #[.slice vo m vc, .agg #[.int .i64 o, .int .i64 s]] V fun e w' => e = .returned (.bool DH) ∧ Below w3.heap.size w3 w') := fun V hV => (rhas_any V vo vc v m HM.out (HVV.out.below hV) o s).mono fun _ _ h => ⟨by rw [← HDH.out]; exact h.1, bt hV h.2⟩
  have C12 : Hid (∀ V, Below w3.heap.size w3 V → Calls Try.prog 16 #[.slice xo m xc, .slice vo m vc] V fun e w' => e = .returned (.bool true) ∧ Below w3.heap.size w3 w') := fun V hV => (same_any V xo vo xc vc v v m m HM.out HM.out (HXX.out.below hV) (HVV.out.below hV)).mono fun _ _ ⟨h3, q, h4⟩ => ⟨by rw [decide_eq_true rfl] at h3; exact h3, by rw [h4]; exact below_dn hV q⟩
  have HBc := hid (Below.refl w3.heap.size w3)
  go_wp2_with fail
  clear HA HB HXX HVV
  go_region_held3 (fun V => V.cell? ⟨p, 0, none⟩ = some (.int .i64 o) ∧ V.cell? ⟨p, 1, none⟩ = some (.int .i64 s)) (first | (refine ⟨?_, ?_⟩ <;> assumption) | go_keep)
    (first
      | (go_at_call 11; with_reducible refine (C1.out _ ?_).mono ?_; (first | exact HBc.out | exact below_dr HBc.out); rintro e wn ⟨rfl, hb3⟩; have HBc := hid hb3; have k0 := (HBK.out.below HBc.out HBK.out.lt).cell (i := 0) rfl; have k1 := (HBK.out.below HBc.out HBK.out.lt).cell (i := 1) rfl; clear hb3)
      | (go_at_call 12; with_reducible refine (C2.out _ ?_).mono ?_; (first | exact HBc.out | exact below_dr HBc.out); rintro e wn ⟨rfl, hb3⟩; have HBc := hid hb3; have k0 := (HBK.out.below HBc.out HBK.out.lt).cell (i := 0) rfl; have k1 := (HBK.out.below HBc.out HBK.out.lt).cell (i := 1) rfl; clear hb3)
      | (go_at_call 13; with_reducible refine (C3.out _ ?_).mono ?_; (first | exact HBc.out | exact below_dr HBc.out); rintro e wn ⟨rfl, hb3⟩; have HBc := hid hb3; have k0 := (HBK.out.below HBc.out HBK.out.lt).cell (i := 0) rfl; have k1 := (HBK.out.below HBc.out HBK.out.lt).cell (i := 1) rfl; clear hb3)
      | (go_at_call 14; with_reducible refine (C4.out _ ?_).mono ?_; (first | exact HBc.out | exact below_dr HBc.out); rintro e wn ⟨rfl, hb3⟩; have HBc := hid hb3; have k0 := (HBK.out.below HBc.out HBK.out.lt).cell (i := 0) rfl; have k1 := (HBK.out.below HBc.out HBK.out.lt).cell (i := 1) rfl; clear hb3)
      | (go_at_call 15; with_reducible refine (C5.out _ ?_).mono ?_; (first | exact HBc.out | exact below_dr HBc.out); rintro e wn ⟨rfl, hb3⟩; have HBc := hid hb3; have k0 := (HBK.out.below HBc.out HBK.out.lt).cell (i := 0) rfl; have k1 := (HBK.out.below HBc.out HBK.out.lt).cell (i := 1) rfl; clear hb3)
      | (go_at_call 17; with_reducible refine (C6.out _ ?_).mono ?_; (first | exact HBc.out | exact below_dr HBc.out); rintro e wn ⟨yo, yc, rfl, hy, hb3⟩; have HY := hid hy; have HBc := hid hb3; have k0 := (HBK.out.below HBc.out HBK.out.lt).cell (i := 0) rfl; have k1 := (HBK.out.below HBc.out HBK.out.lt).cell (i := 1) rfl; clear hb3 hy)
      | (go_at_call 18; with_reducible refine (C7.out _ yo yc ?_ ?_).mono ?_; (first | exact HBc.out | exact below_dr HBc.out); (first | exact HY.out | exact HY.out.dr); rintro e wn ⟨uo, uc, rfl, hu, hy, hb3⟩; have HY := hid hy; have HU := hid hu; have HBc := hid hb3; have k0 := (HBK.out.below HBc.out HBK.out.lt).cell (i := 0) rfl; have k1 := (HBK.out.below HBc.out HBK.out.lt).cell (i := 1) rfl; clear hb3 hy hu)
      | (go_at_call 16; with_reducible refine (C8.out _ _ _ _ _ ?_ ?_ ?_).mono ?_; (first | exact HBc.out | exact below_dr HBc.out); (first | exact HY.out | exact HY.out.dr); (first | exact HU.out | exact HU.out.dr); rintro e wn ⟨rfl, hb3⟩; have HBc := hid hb3; have k0 := (HBK.out.below HBc.out HBK.out.lt).cell (i := 0) rfl; have k1 := (HBK.out.below HBc.out HBK.out.lt).cell (i := 1) rfl; clear hb3)
      | (go_at_call 16; with_reducible refine (C9.out _ ?_).mono ?_; (first | exact HBc.out | exact below_dr HBc.out); rintro e wn ⟨rfl, hb3⟩; have HBc := hid hb3; have k0 := (HBK.out.below HBc.out HBK.out.lt).cell (i := 0) rfl; have k1 := (HBK.out.below HBc.out HBK.out.lt).cell (i := 1) rfl; clear hb3)
      | (go_at_call 19; with_reducible refine (C10.out _ ?_).mono ?_; (first | exact HBc.out | exact below_dr HBc.out); rintro e wn ⟨rfl, hb3⟩; have HBc := hid hb3; have k0 := (HBK.out.below HBc.out HBK.out.lt).cell (i := 0) rfl; have k1 := (HBK.out.below HBc.out HBK.out.lt).cell (i := 1) rfl; clear hb3)
      | (go_at_call 20; with_reducible refine (C11.out _ ?_).mono ?_; (first | exact HBc.out | exact below_dr HBc.out); rintro e wn ⟨rfl, hb3⟩; have HBc := hid hb3; have k0 := (HBK.out.below HBc.out HBK.out.lt).cell (i := 0) rfl; have k1 := (HBK.out.below HBc.out HBK.out.lt).cell (i := 1) rfl; clear hb3)
      | (go_at_call 16; with_reducible refine (C12.out _ ?_).mono ?_; (first | exact HBc.out | exact below_dr HBc.out); rintro e wn ⟨rfl, hb3⟩; have HBc := hid hb3; have k0 := (HBK.out.below HBc.out HBK.out.lt).cell (i := 0) rfl; have k1 := (HBK.out.below HBc.out HBK.out.lt).cell (i := 1) rfl; clear hb3))
  all_goals
    go_wp2
    go_ret
    exact ⟨ret_bool (by simp), bt HW3.out HBc.out⟩
end Go.Proofs.Ytjemhigehlakeaa
