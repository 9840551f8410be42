/-
  pannierlaw08.VvMerges answers true for any two vectors and any dot.
-/
import Derived.Test.YtjemhigehlakeaaVvH
namespace Go.Proofs.Ytjemhigehlakeaa
open Go.RowKit Go.Maps

attribute [local go_sem] undef
theorem below_dr {B : Nat} {a w : World} (h : Below B a w) : Below B a w.drew := ⟨h.os, h.tape, h.output, h.size, h.block⟩
theorem HV.dr {w : World} {ao : Option Addr} {cap : Nat} {xs : List Int} (h : HV w ao cap xs) : HV w.drew ao cap xs := h.below (below_dr (Below.refl _ _))
theorem has_merge (a b : List Int) (o s : Int) : decide (HasV (mergeOf a b) o s) = (decide (HasV a o s) || decide (HasV b o s)) := by
  rw [← Bool.decide_or]
  apply decide_eq_decide.2
  unfold HasV
  rw [ofV_merge]
  omega
theorem has_meet (a b : List Int) (o s : Int) : decide (HasV (meetOf a b) o s) = (decide (HasV a o s) && decide (HasV b o s)) := by
  rw [← Bool.decide_and]
  apply decide_eq_decide.2
  unfold HasV
  rw [ofV_meet]
  omega

set_option linter.unusedSimpArgs false in
set_option maxRecDepth 100000 in
set_option maxHeartbeats 4000000 in
theorem vvMerges_walk (ao : Option Addr) (ca : Nat) (a : List Int) (bo : Option Addr) (cb : Nat) (b : List Int) (o s : Int) (w : World) (ha : HV w ao ca a) (hb : HV w bo cb b) :
    Calls Try.prog 7 #[.slice ao a.length ca, .slice bo b.length cb, .agg #[.int .i64 o, .int .i64 s]] w fun e w' => e = .returned (.bool true) ∧ Below w.heap.size w w' := by
  obtain ⟨m, hm⟩ : ∃ m, a.length = m := ⟨_, rfl⟩
  obtain ⟨n, hn⟩ : ∃ n, b.length = n := ⟨_, rfl⟩
  have HM := hid hm
  have HN := hid hn
  rw [hm, hn]
  clear hm hn
  obtain ⟨W, hW⟩ : ∃ W, W = w.alloc (.cells #[.int .i64 o, .int .i64 s] 24) := ⟨_, rfl⟩
  have HBW : Hid (Below w.heap.size w W) := (by rw [hW]; exact (Below.refl _ _).alloc (Nat.le_refl _) _ : Below w.heap.size w W)
  have hbk : Blk W w.heap.size 24 [.int .i64 o, .int .i64 s] := by rw [hW]; exact Blk.new w 24 [.int .i64 o, .int .i64 s]
  have c0 := hbk.cell (i := 0) rfl
  have c1 := hbk.cell (i := 1) rfl
  have HBK := hid hbk
  have HA := hid (ha.below HBW.out)
  have HB := hid (hb.below HBW.out)
  clear ha hb hbk
  obtain ⟨p, hp⟩ : ∃ p, p = w.heap.size := ⟨_, rfl⟩
  rw [← hp] at c0 c1 HBK
  have HMA := hid (rmay_any W ao ca a m HM.out HA.out)
  have HMB := hid (rmay_any W bo cb b n HN.out HB.out)
  have HHA : Hid (∀ V, Below W.heap.size W V → Calls Try.prog 19 #[.slice ao m ca, .agg #[.int .i64 o, .int .i64 s]] V fun e w' => e = .returned (.bool (decide (HasV a o s))) ∧ Below W.heap.size W w') := fun V hV => (has_any V ao ca a m HM.out (HA.out.below hV) o s).mono fun _ _ h => ⟨h.1, hV.trans (h.2.mono hV.size)⟩
  have HHB : Hid (∀ V, Below W.heap.size W V → Calls Try.prog 19 #[.slice bo n cb, .agg #[.int .i64 o, .int .i64 s]] V fun e w' => e = .returned (.bool (decide (HasV b o s))) ∧ Below W.heap.size W w') := fun V hV => (has_any V bo cb b n HN.out (HB.out.below hV) o s).mono fun _ _ h => ⟨h.1, hV.trans (h.2.mono hV.size)⟩
  have HLV : Hid (∀ V, Below W.heap.size W V → Calls Try.prog 11 #[] V fun e w' => e = .returned (.bool true) ∧ Below W.heap.size W w') := fun V hV => (lives_any V).mono fun _ _ h => ⟨h.1, hV.trans (h.2.mono hV.size)⟩
  obtain ⟨L1, HL1⟩ : ∃ L, Hid ((mergeOf a b).length = L) := ⟨_, hid rfl⟩
  obtain ⟨L2, HL2⟩ : ∃ L, Hid ((meetOf a b).length = L) := ⟨_, hid rfl⟩
  have HMG : Hid (∀ V, Below W.heap.size W V → Calls Try.prog 21 #[.slice ao m ca, .slice bo n cb] V fun e w' => ∃ xo xc, e = .returned (.slice xo L1 xc) ∧ HV w' xo xc (mergeOf a b) ∧ Below W.heap.size W w') := fun V hV => (merge_any V ao bo ca cb a b m n HM.out HN.out (HA.out.below hV) (HB.out.below hV)).mono fun _ _ ⟨xo, xc, h1, h2, h3⟩ => ⟨xo, xc, by rw [← HL1.out]; exact h1, h2, hV.trans (h3.mono hV.size)⟩
  have HMT : Hid (∀ V, Below W.heap.size W V → Calls Try.prog 23 #[.slice ao m ca, .slice bo n cb] V fun e w' => ∃ xo xc, e = .returned (.slice xo L2 xc) ∧ HV w' xo xc (meetOf a b) ∧ Below W.heap.size W w') := fun V hV => (meet_any V ao bo ca cb a b m n HM.out HN.out (HA.out.below hV) (HB.out.below hV)).mono fun _ _ ⟨xo, xc, h1, h2, h3⟩ => ⟨xo, xc, by rw [← HL2.out]; exact h1, h2, hV.trans (h3.mono hV.size)⟩
  have HHX : Hid (∀ V xo xc, Below W.heap.size W V → HV V xo xc (mergeOf a b) → Calls Try.prog 19 #[.slice xo L1 xc, .agg #[.int .i64 o, .int .i64 s]] V fun e w' => e = .returned (.bool (decide (HasV a o s) || decide (HasV b o s))) ∧ Below W.heap.size W w') := fun V xo xc hV hx => (has_any V xo xc _ L1 HL1.out hx o s).mono fun _ _ h => ⟨by rw [← has_merge]; exact h.1, hV.trans (h.2.mono hV.size)⟩
  have HHY : Hid (∀ V xo xc, Below W.heap.size W V → HV V xo xc (meetOf a b) → Calls Try.prog 19 #[.slice xo L2 xc, .agg #[.int .i64 o, .int .i64 s]] V fun e w' => e = .returned (.bool (decide (HasV a o s) && decide (HasV b o s))) ∧ Below W.heap.size W w') := fun V xo xc hV hx => (has_any V xo xc _ L2 HL2.out hx o s).mono fun _ _ h => ⟨by rw [← has_meet]; exact h.1, hV.trans (h.2.mono hV.size)⟩
  obtain ⟨D1, HD1⟩ : ∃ D, Hid (decide (HasV a o s) = D) := ⟨_, hid rfl⟩
  obtain ⟨D2, HD2⟩ : ∃ D, Hid (decide (HasV b o s) = D) := ⟨_, hid rfl⟩
  rw [HD1.out] at HHA HHX HHY
  rw [HD2.out] at HHB HHX HHY
  by_cases h1 : MayV a
  · rw [decide_eq_true h1] at HMA
    by_cases h2 : MayV b
    · rw [decide_eq_true h2] at HMB
      clear h1 h2
      go_enter Try.func7, Try.ntmps7
      go_wp2_with fail
      rw [← hp, ← hW]
      clear hp hW
      refine HMA.out.mono ?_
      rintro e w1 ⟨rfl, rfl⟩
      go_wp2_with fail
      refine HMB.out.mono ?_
      rintro e w2 ⟨rfl, rfl⟩
      go_wp2_with fail
      have HBc := hid (Below.refl w2.heap.size w2)
      go_region_held3 (fun V => V.cell? ⟨p, 0, none⟩ = some (.int .i64 o) ∧ V.cell? ⟨p, 1, none⟩ = some (.int .i64 s)) (first | (refine ⟨?_, ?_⟩ <;> assumption) | go_keep)
        (first
          | (go_at_call 19; with_reducible refine (HHA.out _ ?_).mono ?_; (first | exact HBc.out | exact below_dr HBc.out); rintro e wn ⟨rfl, hb3⟩; have HBc := hid hb3; have k0 := (HBK.out.below HBc.out HBK.out.lt).cell (i := 0) rfl; have k1 := (HBK.out.below HBc.out HBK.out.lt).cell (i := 1) rfl; clear hb3)
          | (go_at_call 19; with_reducible refine (HHB.out _ ?_).mono ?_; (first | exact HBc.out | exact below_dr HBc.out); rintro e wn ⟨rfl, hb3⟩; have HBc := hid hb3; have k0 := (HBK.out.below HBc.out HBK.out.lt).cell (i := 0) rfl; have k1 := (HBK.out.below HBc.out HBK.out.lt).cell (i := 1) rfl; clear hb3))
      go_wp2_with fail
      clear HHA HHB HMA HMB HD1 HD2
      cases D1 <;> cases D2
      all_goals
        simp only [Bool.or_self, Bool.and_self, Bool.or_true, Bool.or_false, Bool.and_true, Bool.and_false] at HHX HHY
        refine wp_region_noPanic ?_
        first | (go_region_held (fun V => V.cell? ⟨p, 0, none⟩ = some (.int .i64 o) ∧ V.cell? ⟨p, 1, none⟩ = some (.int .i64 s)) (first | (refine ⟨?_, ?_⟩ <;> assumption) | go_keep)
        (first
          | (go_at_call 11; with_reducible refine (HLV.out _ ?_).mono ?_; (first | exact HBc.out | exact below_dr HBc.out); rintro e wn ⟨rfl, hb3⟩; have HBc := hid hb3; have k0 := (HBK.out.below HBc.out HBK.out.lt).cell (i := 0) rfl; have k1 := (HBK.out.below HBc.out HBK.out.lt).cell (i := 1) rfl; clear hb3)
          | (go_at_call 21; with_reducible refine (HMG.out _ ?_).mono ?_; (first | exact HBc.out | exact below_dr HBc.out); rintro e wn ⟨xo, xc, rfl, hv, hb3⟩; have HVX := hid hv; have HBc := hid hb3; have k0 := (HBK.out.below HBc.out HBK.out.lt).cell (i := 0) rfl; have k1 := (HBK.out.below HBc.out HBK.out.lt).cell (i := 1) rfl; clear hb3 hv)
          | (go_at_call 23; with_reducible refine (HMT.out _ ?_).mono ?_; (first | exact HBc.out | exact below_dr HBc.out); rintro e wn ⟨yo, yc, rfl, hv, hb3⟩; have HVX := hid hv; have HBc := hid hb3; have k0 := (HBK.out.below HBc.out HBK.out.lt).cell (i := 0) rfl; have k1 := (HBK.out.below HBc.out HBK.out.lt).cell (i := 1) rfl; clear hb3 hv)
          | (go_at_call 19; with_reducible refine (HHX.out _ _ _ ?_ ?_).mono ?_; (first | exact HBc.out | exact below_dr HBc.out); (first | exact HVX.out | exact HVX.out.dr); rintro e wn ⟨rfl, hb3⟩; have HBc := hid hb3; have k0 := (HBK.out.below HBc.out HBK.out.lt).cell (i := 0) rfl; have k1 := (HBK.out.below HBc.out HBK.out.lt).cell (i := 1) rfl; clear hb3)
          | (go_at_call 19; with_reducible refine (HHY.out _ _ _ ?_ ?_).mono ?_; (first | exact HBc.out | exact below_dr HBc.out); (first | exact HVX.out | exact HVX.out.dr); rintro e wn ⟨rfl, hb3⟩; have HBc := hid hb3; have k0 := (HBK.out.below HBc.out HBK.out.lt).cell (i := 0) rfl; have k1 := (HBK.out.below HBc.out HBK.out.lt).cell (i := 1) rfl; clear hb3))) | fail
        all_goals
          refine NoPanic.normal ?_
          go_wp2
          go_ret
          exact ⟨rfl, HBW.out.trans (HBc.out.mono HBW.out.size)⟩
    · rw [decide_eq_false h2] at HMB
      clear h1 h2
      go_enter Try.func7, Try.ntmps7
      go_wp2_with fail
      rw [← hp, ← hW]
      clear hp hW
      refine HMA.out.mono ?_
      rintro e w1 ⟨rfl, rfl⟩
      go_wp2_with fail
      refine HMB.out.mono ?_
      rintro e w2 ⟨rfl, rfl⟩
      go_wp2_with fail
      refine (lives_any _).mono ?_
      rintro e w3 ⟨rfl, hb3⟩
      go_wp2
      go_ret
      exact ⟨rfl, HBW.out.trans (hb3.mono HBW.out.size)⟩
  · rw [decide_eq_false h1] at HMA
    clear h1
    go_enter Try.func7, Try.ntmps7
    go_wp2_with fail
    rw [← hp, ← hW]
    clear hp hW
    refine HMA.out.mono ?_
    rintro e w1 ⟨rfl, rfl⟩
    go_wp2_with fail
    refine (lives_any _).mono ?_
    rintro e w3 ⟨rfl, hb3⟩
    go_wp2
    go_ret
    exact ⟨rfl, HBW.out.trans (hb3.mono HBW.out.size)⟩
end Go.Proofs.Ytjemhigehlakeaa
