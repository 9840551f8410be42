/-
  The laws' SameVoted of whatever two lists of votes.
-/
import Derived.Test.YtmpkbdhihdboiaaGreatSaB
namespace Go.Proofs.YtmpkbdhihdboiaaGreat
open Go.RowKit Go.Maps

def voK (y : VoM) : Int × (Int × Int) × En := (y.slot, y.bal, y.en.e)
set_option maxRecDepth 1000000 in
set_option maxHeartbeats 4000000 in
theorem sameVoted_A (w : World) (ao bo : Option Addr) (ca cb : Nat) (xs ys : List VoM) (m n : Nat) (hm : xs.length = m) (hn : ys.length = n) (hx : HeldVo w ao xs) (hy : HeldVo w bo ys) (hl : m ≤ 65536) :
    Calls Tryz.prog 21 #[.slice ao m ca, .slice bo n cb] w fun e w' => e = .returned (.bool (decide (xs.map voK = ys.map voK))) ∧ Below w.heap.size w w' := by
  by_cases hmn : m = n
  · subst hmn
    have HXL := hid hm
    have HYL := hid hn
    have HX := hid hx
    have HY := hid hy
    have HL := hid hl
    have hnn : ((m : Int) != (m : Int)) = false := by simp
    clear hm hn hx hy hl
    go_enter Tryz.func21, Tryz.ntmps21
    go_wp2
    go_loopw [5] (fun i wr => ∃ k : Nat, k ≤ m ∧ i = .int .i64 k ∧ Hid (Below w.heap.size w wr ∧ ∀ j (h1 : j < xs.length) (h2 : j < ys.length), j < k → voK xs[j] = voK ys[j])) (fun i _ => m - (intOf i).toNat)
    case atStart => exact ⟨0, Nat.zero_le _, rfl, Below.refl _ _, fun j _ _ hj => absurd hj (Nat.not_lt_zero _)⟩
    case round =>
      obtain ⟨k, hk, rfl, HR⟩ := hrel
      by_cases hlt : k < m
      · have hlt' : (k : Int) < (m : Int) := by omega
        have hkx : Hid (k < xs.length) := (by rw [HXL.out]; exact hlt : k < xs.length)
        have hky : Hid (k < ys.length) := (by rw [HYL.out]; exact hlt : k < ys.length)
        have HKM : Hid (k + 1 ≤ m) := (by omega : k + 1 ≤ m)
        have HST : Hid (voK (xs[k]'hkx.out) = voK (ys[k]'hky.out) → ∀ j (h1 : j < xs.length) (h2 : j < ys.length), j < k + 1 → voK xs[j] = voK ys[j]) := fun he => step_to (f := voK) HR.out.2 hkx.out hky.out he
        have HNO : Hid (voK (xs[k]'hkx.out) ≠ voK (ys[k]'hky.out) → decide (xs.map voK = ys.map voK) = false) := fun he => decide_eq_false (map_not (f := voK) hkx.out hky.out he)
        have HOX := hid ((HX.out.1 _ (List.getElem_mem hkx.out)).below HR.out.1)
        have HOY := hid ((HY.out.1 _ (List.getElem_mem hky.out)).below HR.out.1)
        obtain ⟨g1, f1, hao, hg1, e1⟩ := (HX.out.below HR.out.1).at hkx.out
        obtain ⟨g2, f2, hbo, hg2, e2⟩ := (HY.out.below HR.out.1).at hky.out
        subst hao hbo
        have HL1 := hid hg1
        have HL2 := hid hg2
        clear hg1 hg2
        obtain ⟨X, HXX⟩ : ∃ X, Hid (xs[k]'hkx.out = X) := ⟨_, hid rfl⟩
        obtain ⟨Y, HYY⟩ : ∃ Y, Hid (ys[k]'hky.out = Y) := ⟨_, hid rfl⟩
        rw [HXX.out] at e1 HOX HST HNO
        rw [HYY.out] at e2 HOY HST HNO
        obtain ⟨sl, ⟨r, n⟩, ⟨np, tk, ct, ep, dp⟩, ao1, cap1⟩ := X
        obtain ⟨sl', ⟨r', n'⟩, ⟨np', tk', ct', ep', dp'⟩, ao2, cap2⟩ := Y
        simp only [VoM.cells] at e1 e2
        simp only [voK] at HST HNO
        obtain ⟨XN, HXN⟩ : ∃ m, Hid (dp.length = m) := ⟨_, hid rfl⟩
        obtain ⟨YN, HYN⟩ : ∃ m, Hid (dp'.length = m) := ⟨_, hid rfl⟩
        rw [HXN.out] at e1
        rw [HYN.out] at e2
        have hw0 : wrap64 ((k : Int) + 1) = (k : Int) + 1 := wrapP (Nat.le_trans hk HL.out)
        by_cases h1 : sl = sl'
        · by_cases h2 : r = r'
          · by_cases h3 : n = n'
            · subst h1 h2 h3
              have HSE : Hid (∀ V, ScP wr V → Calls Tryz.prog 20 #[.agg #[.bool np, .string tk, .string ct, .int .i64 ep, .slice ao1 XN cap1], .agg #[.bool np', .string tk', .string ct', .int .i64 ep', .slice ao2 YN cap2]] V fun e w' => e = .returned (.bool (decide ((⟨np, tk, ct, ep, dp⟩ : En) = ⟨np', tk', ct', ep', dp'⟩))) ∧ ScP wr w') := fun V hV => by
                have q1 := sameEntry_A V ⟨⟨np, tk, ct, ep, dp⟩, ao1, cap1⟩ ⟨⟨np', tk', ct', ep', dp'⟩, ao2, cap2⟩ (HOX.out.en.below hV.out) (HOY.out.en.below hV.out)
                simp only [EnM.val] at q1
                rw [HXN.out, HYN.out] at q1
                exact q1.mono fun e w' ⟨q2, q3⟩ => ⟨q2, hV.go q3⟩
              obtain ⟨r0, HRR⟩ : ∃ r0, Hid (decide ((⟨np, tk, ct, ep, dp⟩ : En) = ⟨np', tk', ct', ep', dp'⟩) = r0) := ⟨_, hid rfl⟩
              rw [HRR.out] at HSE
              have HSA : Hid (∀ V, ScP wr V → (ScP wr V ∧ V.cell? ⟨g1, f1 + k * 8, none⟩ = some (.int .i64 sl) ∧ V.cell? ⟨g1, f1 + k * 8 + 1, none⟩ = some (.int .i64 r) ∧ V.cell? ⟨g1, f1 + k * 8 + 2, none⟩ = some (.int .i64 n) ∧ V.cell? ⟨g1, f1 + k * 8 + 3, none⟩ = some (.bool np) ∧ V.cell? ⟨g1, f1 + k * 8 + 4, none⟩ = some (.string tk) ∧ V.cell? ⟨g1, f1 + k * 8 + 5, none⟩ = some (.string ct) ∧ V.cell? ⟨g1, f1 + k * 8 + 6, none⟩ = some (.int .i64 ep) ∧ V.cell? ⟨g1, f1 + k * 8 + 7, none⟩ = some (.slice ao1 XN cap1) ∧ V.cell? ⟨g2, f2 + k * 8, none⟩ = some (.int .i64 sl) ∧ V.cell? ⟨g2, f2 + k * 8 + 1, none⟩ = some (.int .i64 r) ∧ V.cell? ⟨g2, f2 + k * 8 + 2, none⟩ = some (.int .i64 n) ∧ V.cell? ⟨g2, f2 + k * 8 + 3, none⟩ = some (.bool np') ∧ V.cell? ⟨g2, f2 + k * 8 + 4, none⟩ = some (.string tk') ∧ V.cell? ⟨g2, f2 + k * 8 + 5, none⟩ = some (.string ct') ∧ V.cell? ⟨g2, f2 + k * 8 + 6, none⟩ = some (.int .i64 ep') ∧ V.cell? ⟨g2, f2 + k * 8 + 7, none⟩ = some (.slice ao2 YN cap2))) := fun V hV => ⟨hV, (hV.out.cell (p := ⟨g1, _, none⟩) HL1.out).trans (e1 0 _ rfl), (hV.out.cell (p := ⟨g1, _, none⟩) HL1.out).trans (e1 1 _ rfl), (hV.out.cell (p := ⟨g1, _, none⟩) HL1.out).trans (e1 2 _ rfl), (hV.out.cell (p := ⟨g1, _, none⟩) HL1.out).trans (e1 3 _ rfl), (hV.out.cell (p := ⟨g1, _, none⟩) HL1.out).trans (e1 4 _ rfl), (hV.out.cell (p := ⟨g1, _, none⟩) HL1.out).trans (e1 5 _ rfl), (hV.out.cell (p := ⟨g1, _, none⟩) HL1.out).trans (e1 6 _ rfl), (hV.out.cell (p := ⟨g1, _, none⟩) HL1.out).trans (e1 7 _ rfl), (hV.out.cell (p := ⟨g2, _, none⟩) HL2.out).trans (e2 0 _ rfl), (hV.out.cell (p := ⟨g2, _, none⟩) HL2.out).trans (e2 1 _ rfl), (hV.out.cell (p := ⟨g2, _, none⟩) HL2.out).trans (e2 2 _ rfl), (hV.out.cell (p := ⟨g2, _, none⟩) HL2.out).trans (e2 3 _ rfl), (hV.out.cell (p := ⟨g2, _, none⟩) HL2.out).trans (e2 4 _ rfl), (hV.out.cell (p := ⟨g2, _, none⟩) HL2.out).trans (e2 5 _ rfl), (hV.out.cell (p := ⟨g2, _, none⟩) HL2.out).trans (e2 6 _ rfl), (hV.out.cell (p := ⟨g2, _, none⟩) HL2.out).trans (e2 7 _ rfl)⟩
              clear e1 e2 HOX HOY
              go_wp2
              apply wp_shareP (S := fun V => ScP wr V)
              · go_region_held3 (fun V => ScP wr V ∧ V.cell? ⟨g1, f1 + k * 8, none⟩ = some (.int .i64 sl) ∧ V.cell? ⟨g1, f1 + k * 8 + 1, none⟩ = some (.int .i64 r) ∧ V.cell? ⟨g1, f1 + k * 8 + 2, none⟩ = some (.int .i64 n) ∧ V.cell? ⟨g1, f1 + k * 8 + 3, none⟩ = some (.bool np) ∧ V.cell? ⟨g1, f1 + k * 8 + 4, none⟩ = some (.string tk) ∧ V.cell? ⟨g1, f1 + k * 8 + 5, none⟩ = some (.string ct) ∧ V.cell? ⟨g1, f1 + k * 8 + 6, none⟩ = some (.int .i64 ep) ∧ V.cell? ⟨g1, f1 + k * 8 + 7, none⟩ = some (.slice ao1 XN cap1) ∧ V.cell? ⟨g2, f2 + k * 8, none⟩ = some (.int .i64 sl) ∧ V.cell? ⟨g2, f2 + k * 8 + 1, none⟩ = some (.int .i64 r) ∧ V.cell? ⟨g2, f2 + k * 8 + 2, none⟩ = some (.int .i64 n) ∧ V.cell? ⟨g2, f2 + k * 8 + 3, none⟩ = some (.bool np') ∧ V.cell? ⟨g2, f2 + k * 8 + 4, none⟩ = some (.string tk') ∧ V.cell? ⟨g2, f2 + k * 8 + 5, none⟩ = some (.string ct') ∧ V.cell? ⟨g2, f2 + k * 8 + 6, none⟩ = some (.int .i64 ep') ∧ V.cell? ⟨g2, f2 + k * 8 + 7, none⟩ = some (.slice ao2 YN cap2))
                  ((refine HSA.out _ ?_; (repeat (first | with_reducible assumption | exact ScP.start _ | apply ScP.dr))))
                  (first
                    | (go_at_call 20; with_reducible refine (HSE.out _ (by (repeat (first | with_reducible assumption | exact ScP.start _ | apply ScP.dr)))).mono ?_; rintro e x5 ⟨rfl, hs5⟩))
                all_goals
                  rename_i hHeld
                  exact NoPanic.normal ⟨rfl, rfl, hHeld.1⟩
              rintro W2 hs2
              have HB2 : Hid (Below w.heap.size w W2) := bt' HR.out.1 hs2.out
              clear hs2 HSE HSA
              cases r0 with
              | true =>
                have HN2 := hid (HST.out (by rw [of_decide_eq_true HRR.out]))
                go_wp2
                go_roundw
                case rel => exact ⟨k + 1, HKM.out, by go_num, HB2.out, HN2.out⟩
                case measure => first | exact measP HKM.out hw0 | exact measP1 HKM.out
              | false =>
                have HN2 := hid (HNO.out (fun h => of_decide_eq_false HRR.out (congrArg (fun q => q.2.2) h)))
                go_wp2
                go_ret
                exact ⟨by rw [HN2.out]; rfl, HB2.out⟩
            · have HN2 := hid (HNO.out (fun h => h3 (congrArg (fun q => q.2.1.2) h)))
              subst h1 h2
              have c10 : wr.cell? ⟨g1, f1 + k * 8, none⟩ = some (.int .i64 sl) := e1 0 _ rfl
              have c11 : wr.cell? ⟨g1, f1 + k * 8 + 1, none⟩ = some (.int .i64 r) := e1 1 _ rfl
              have c12 : wr.cell? ⟨g1, f1 + k * 8 + 2, none⟩ = some (.int .i64 n) := e1 2 _ rfl
              have c20 : wr.cell? ⟨g2, f2 + k * 8, none⟩ = some (.int .i64 sl) := e2 0 _ rfl
              have c21 : wr.cell? ⟨g2, f2 + k * 8 + 1, none⟩ = some (.int .i64 r) := e2 1 _ rfl
              have c22 : wr.cell? ⟨g2, f2 + k * 8 + 2, none⟩ = some (.int .i64 n') := e2 2 _ rfl
              have hb3 : (n == n') = false := by simpa using h3
              have hb4 : (n != n') = true := by simpa using h3
              clear e1 e2 HOX HOY
              go_wp2
              go_quiet (fail)
              go_wp2
              go_ret
              exact ⟨by rw [HN2.out]; rfl, below_dn HR.out.1 _⟩
          · have HN2 := hid (HNO.out (fun h => h2 (congrArg (fun q => q.2.1.1) h)))
            subst h1
            have c10 : wr.cell? ⟨g1, f1 + k * 8, none⟩ = some (.int .i64 sl) := e1 0 _ rfl
            have c11 : wr.cell? ⟨g1, f1 + k * 8 + 1, none⟩ = some (.int .i64 r) := e1 1 _ rfl
            have c12 : wr.cell? ⟨g1, f1 + k * 8 + 2, none⟩ = some (.int .i64 n) := e1 2 _ rfl
            have c20 : wr.cell? ⟨g2, f2 + k * 8, none⟩ = some (.int .i64 sl) := e2 0 _ rfl
            have c21 : wr.cell? ⟨g2, f2 + k * 8 + 1, none⟩ = some (.int .i64 r') := e2 1 _ rfl
            have c22 : wr.cell? ⟨g2, f2 + k * 8 + 2, none⟩ = some (.int .i64 n') := e2 2 _ rfl
            have hb3 : (r == r') = false := by simpa using h2
            have hb4 : (r != r') = true := by simpa using h2
            clear e1 e2 HOX HOY
            go_wp2
            go_quiet (fail)
            go_wp2
            go_ret
            exact ⟨by rw [HN2.out]; rfl, below_dn HR.out.1 _⟩
        · have HN2 := hid (HNO.out (fun h => h1 (congrArg (fun q => q.1) h)))
          have c10 : wr.cell? ⟨g1, f1 + k * 8, none⟩ = some (.int .i64 sl) := e1 0 _ rfl
          have c11 : wr.cell? ⟨g1, f1 + k * 8 + 1, none⟩ = some (.int .i64 r) := e1 1 _ rfl
          have c12 : wr.cell? ⟨g1, f1 + k * 8 + 2, none⟩ = some (.int .i64 n) := e1 2 _ rfl
          have c20 : wr.cell? ⟨g2, f2 + k * 8, none⟩ = some (.int .i64 sl') := e2 0 _ rfl
          have c21 : wr.cell? ⟨g2, f2 + k * 8 + 1, none⟩ = some (.int .i64 r') := e2 1 _ rfl
          have c22 : wr.cell? ⟨g2, f2 + k * 8 + 2, none⟩ = some (.int .i64 n') := e2 2 _ rfl
          have hb3 : (sl == sl') = false := by simpa using h1
          have hb4 : (sl != sl') = true := by simpa using h1
          clear e1 e2 HOX HOY
          go_wp2
          go_quiet (fail)
          go_wp2
          go_ret
          exact ⟨by rw [HN2.out]; rfl, below_dn HR.out.1 _⟩
      · have hlt' : ¬ (k : Int) < (m : Int) := by omega
        have HE : Hid (decide (xs.map voK = ys.map voK) = true) := decide_eq_true (map_to (f := voK) HXL.out HYL.out hlt HR.out.2)
        go_wp2
        go_ret
        exact ⟨by rw [HE.out]; rfl, HR.out.1⟩
  · have hne : ((m : Int) != (n : Int)) = true := by simp; omega
    have HE : Hid (decide (xs.map voK = ys.map voK) = false) := decide_eq_false (map_len hm hn hmn)
    clear hm hn hx hy
    rw [HE.out]
    go_enter Tryz.func21, Tryz.ntmps21
    go_wp2
    go_ret
    exact ⟨rfl, Below.refl _ _⟩
end Go.Proofs.YtmpkbdhihdboiaaGreat
