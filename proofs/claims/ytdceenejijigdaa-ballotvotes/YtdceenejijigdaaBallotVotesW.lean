/-
  pannierlaw15.BallotVotes answers true at every input.
-/
import Derived.Test.YtdceenejijigdaaBalVM
import Derived.Deep.OwnRows
namespace Go.Proofs.Ytdceenejijigdaa
open Go.RowKit Go.Maps

theorem Try.infoBool : (Try.prog.info? 4).map (fun i => (i.zero, i.size, i.bytes)) = some (some (.bool false), 1, 1) := by kernel_rfl
theorem madeB (N : Nat) : madeCells #[.bool false] N = (boolsTo (fun _ => false) N).toArray := by
  apply Array.ext'
  simp [madeCells, boolsTo]
  intro a _
  rw [Nat.mod_one]
  rfl
set_option maxRecDepth 1000000 in
set_option maxHeartbeats 2000000 in
theorem ballotVotes_walk (n : Int) (ao : Option Addr) (cap : Nat) (xs : List Int) (ask : Int) (w : World) (_hn : -9223372036854775808 ≤ n ∧ n ≤ 9223372036854775807) (hx : HV w ao cap xs) (_ha : -9223372036854775808 ≤ ask ∧ ask ≤ 9223372036854775807) :
    Calls Try.prog 5 #[.int .i64 n, .slice ao xs.length cap, .int .i64 ask] w fun e w' => e = .returned (.bool true) ∧ Below w.heap.size w w' := by
  have HX := hid hx
  clear hx _hn _ha
  obtain ⟨lx, HLX⟩ : ∃ l, Hid (xs.length = l) := ⟨_, hid rfl⟩
  rw [HLX.out]
  have hlx : lx ≤ 17592186044416 := by have := HX.out.few; have := HLX.out; omega
  by_cases h17 : 1 ≤ n ∧ n ≤ 7
  · have HNV := hid (fun V : World => newVotes (w := V) h17)
    have H17 := hid h17
    obtain ⟨N, rfl⟩ := Int.eq_ofNat_of_zero_le (show 0 ≤ n by omega)
    have hN7 : N ≤ 7 := by omega
    have hn1 : ¬ (N : Int) < 1 := by omega
    have hn7 : ¬ 7 < (N : Int) := by omega
    clear h17
    have hmk := run_make_row' (P := Try.prog) 45 4 (.bool false) 1 Try.underlying45 Try.infoBool rfl .i64 .i64 N (by omega) (by omega)
    go_enter Try.func5, Try.ntmps5
    go_wp2_with fail
    refine (HNV.out _).mono ?_
    rintro e w1 ⟨rfl, hv1, hb1⟩
    have HV1 := hid hv1
    have HB1 := hid hb1
    clear hv1 hb1
    go_wp2_with fail
    refine (livesBal _).mono ?_
    rintro e w2 ⟨rfl, hb2⟩
    have HS2 : Hid (V15 w w.heap.size w2.heap.size N (fun _ => false) (w2.alloc (.cells (madeCells #[.bool false] N) 4))) := by
      have hb3 := bt' HB1.out hb2
      refine ⟨(HV1.out.below hb2).below ((Below.refl _ _).alloc (Nat.le_refl _) _), ?_, Nat.le_refl _, hb3.size, hb3.alloc hb3.size _⟩
      rw [madeB]
      exact Blk.new w2 _ _
    clear hb2
    obtain ⟨h, hh⟩ : ∃ p, p = w2.heap.size := ⟨_, rfl⟩
    rw [← hh] at HS2
    go_wp2
    rw [← hh]
    clear hh hmk
    go_loopw [7, 10, 11, 12, 13, 14] (fun v c i _ _ _ wz => ∃ (k p : Nat) (f : Nat → Bool), k ≤ lx ∧ v = .pointer (some ⟨p, 0, none⟩) ∧ c = .int .i64 (cntF f 7 : Nat) ∧ i = .int .i64 k ∧ Hid (V15 w p h N f wz)) (fun _ _ i _ _ _ _ => lx - (intOf i).toNat)
    case atStart => exact ⟨0, _, _, by omega, rfl, rfl, rfl, HS2⟩
    case round =>
      obtain ⟨k, p, f, hk, rfl, rfl, rfl, HR⟩ := hrel
      by_cases hlt : k < lx
      · have hlt' : (k : Int) < (lx : Int) := by omega
        have hkx : Hid (k < xs.length) := (HLX.out ▸ hlt : k < xs.length)
        have HXR := hid (HX.out.held.below HR.out.bel)
        obtain ⟨b, off, rfl, hc⟩ := HXR.out.cellAt hkx.out
        have hcell := hc k hkx.out
        obtain ⟨X, hX⟩ : ∃ X, X = xs.getD k 0 := ⟨_, rfl⟩
        rw [← hX] at hcell
        have HXE := hid hX
        clear hc hX
        by_cases hX0 : 0 ≤ X
        · by_cases hXN : X < (N : Int)
          · obtain ⟨x, rfl⟩ := Int.eq_ofNat_of_zero_le hX0
            have hxN : x < N := by omega
            have hb0 := HR.out.b.cell (boolsTo_get hxN)
            cases hfx : f x with
            | true =>
              rw [hfx] at hb0
              cases h4 : ((k : Int) % 4 == 3) with
              | false =>
                have HAD := hid (HR.out.add_had x hxN hfx)
                go_wp2_with fail
                refine HAD.out.mono ?_
                rintro e wa ⟨rfl, ha⟩
                have HSA := hid ha
                clear ha HAD hcell
                have HCT := hid (countV HSA.out.v)
                go_wp2_with fail
                refine HCT.out.mono ?_
                rintro e wc ⟨rfl, rfl⟩
                have HEN := hid (enoughV HSA.out.v)
                rw [enough_iff H17.out] at HEN
                go_wp2_with fail
                refine HEN.out.mono ?_
                rintro e we ⟨rfl, hqe⟩
                have HSE : Hid (V15 w p h N f we) := by obtain ⟨qe, hqe⟩ := hqe; rw [hqe]; exact HSA.out.below (below_dn (Below.refl _ _) qe)
                clear hqe HEN HCT
                go_wp2
                go_roundw
                case rel => exact ⟨k + 1, p, f, by omega, rfl, rfl, by go_num, HSE⟩
                case measure => simp [intOf]; omega
              | true =>
                have HFK := hid HR.out.fork
                go_wp2_with fail
                refine HFK.out.mono ?_
                rintro e wf ⟨q, rfl, h15⟩
                have HW0 := hid h15
                clear h15 HFK hcell
                go_wp2
                go_loopw [14] (fun i wz => ∃ j : Nat, j ≤ N ∧ i = .int .i64 j ∧ Hid (W15 w p q h N f wz)) (fun i _ => N - (intOf i).toNat)
                case atStart => exact ⟨0, by omega, rfl, HW0⟩
                case round =>
                  obtain ⟨j, hj, rfl, HJ⟩ := hrel
                  by_cases hjl : j < N
                  · have hjl' : (j : Int) < (N : Int) := by omega
                    have HAJ := hid (HJ.out.add j hjl)
                    go_wp2_with fail
                    refine HAJ.out.mono ?_
                    rintro e wj ⟨bj, rfl, hwj⟩
                    have HWJ := hid hwj
                    clear hwj HAJ
                    go_wp2
                    go_roundw
                    case rel => exact ⟨j + 1, by omega, by go_num, HWJ.out⟩
                    case measure => simp [intOf]; omega
                  · have hjl' : ¬ (j : Int) < (N : Int) := by omega
                    have HQ := hid HJ.out.x
                    have hcell : wr.cell? ⟨b, off + k, none⟩ = some (.int .i64 (x : Int)) := by
                      obtain ⟨b', off', e', hc'⟩ := (HX.out.held.below HQ.out.bel).cellAt hkx.out
                      cases e'
                      rw [HXE.out]
                      exact hc' k hkx.out
                    have HAD := hid (HQ.out.add_had x hxN hfx)
                    go_wp2_with fail
                    refine HAD.out.mono ?_
                    rintro e wa ⟨rfl, ha⟩
                    have HSA := hid ha
                    clear ha HAD hcell
                    have HCT := hid (countV HSA.out.v)
                    go_wp2_with fail
                    refine HCT.out.mono ?_
                    rintro e wc ⟨rfl, rfl⟩
                    have HEN := hid (enoughV HSA.out.v)
                    rw [enough_iff H17.out] at HEN
                    go_wp2_with fail
                    refine HEN.out.mono ?_
                    rintro e we ⟨rfl, hqe⟩
                    have HSE : Hid (V15 w q h N f we) := by obtain ⟨qe, hqe⟩ := hqe; rw [hqe]; exact HSA.out.below (below_dn (Below.refl _ _) qe)
                    clear hqe HEN HCT
                    go_wp2
                    go_roundw
                    case rel => exact ⟨k + 1, q, f, by omega, rfl, rfl, by go_num, HSE⟩
                    case measure => simp [intOf]; omega
            | false =>
              rw [hfx] at hb0
              cases h4 : ((k : Int) % 4 == 3) with
              | false =>
                have HAD := hid (HR.out.add_in x hxN)
                rw [hfx] at HAD
                simp only [Bool.not_false] at HAD
                go_wp2_with fail
                refine HAD.out.mono ?_
                rintro e wa ⟨rfl, hva, hba, hla⟩
                have hca : wa.cell? ⟨b, off + k, none⟩ = some (.int .i64 (x : Int)) := by
                  obtain ⟨b', off', e', hc'⟩ := (HX.out.held.below hla).cellAt hkx.out
                  cases e'
                  rw [HXE.out]
                  exact hc' k hkx.out
                have HSA := hid (HR.out.new_in hva hba hla)
                have y0 := hba.frozen x
                have y1 := hba.cell (boolsTo_get hxN)
                rw [hfx] at y1
                clear hva hba hla HAD hcell
                have HC1 : Hid (cntF (addV f x) 7 = cntF f 7 + 1) := by show _ = _; rw [cntF_add, if_pos ⟨by omega, hfx⟩]
                have HC7 := hid (cntF_le f 7)
                obtain ⟨c7, hc7⟩ : ∃ c, c = cntF f 7 := ⟨_, rfl⟩
                rw [← hc7] at HC1 HC7 ⊢
                have hw7 : wrap64 ((c7 : Int) + 1) = (c7 : Int) + 1 := by have := HC7.out; exact wrapS (by omega) (by omega)
                have HCT := hid (countV HSA.out.v)
                rw [HC1.out, Int.natCast_add, Int.natCast_one] at HCT
                clear hc7
                go_wp2_with fail
                refine HCT.out.mono ?_
                rintro e wc ⟨rfl, hwc⟩
                subst hwc
                have HEN := hid (enoughV HSA.out.v)
                rw [enough_iff H17.out, HC1.out, Int.natCast_add, Int.natCast_one] at HEN
                go_wp2_with fail
                refine HEN.out.mono ?_
                rintro e we ⟨rfl, hqe⟩
                have HSE : Hid (V15 w p h N (addV f x) we) := by obtain ⟨qe, hqe⟩ := hqe; rw [hqe]; exact HSA.out.below (below_dn (Below.refl _ _) qe)
                clear hqe HEN HCT
                go_wp2
                go_roundw
                case rel => exact ⟨k + 1, p, addV f x, by omega, rfl, by rw [HC1.out, Int.natCast_add, Int.natCast_one], by go_num, HSE⟩
                case measure => simp [intOf]; omega
              | true =>
                have HFK := hid HR.out.fork
                go_wp2_with fail
                refine HFK.out.mono ?_
                rintro e wf ⟨q, rfl, h15⟩
                have HW0 := hid h15
                clear h15 HFK hcell
                go_wp2
                go_loopw [14] (fun i wz => ∃ j : Nat, j ≤ N ∧ i = .int .i64 j ∧ Hid (W15 w p q h N f wz)) (fun i _ => N - (intOf i).toNat)
                case atStart => exact ⟨0, by omega, rfl, HW0⟩
                case round =>
                  obtain ⟨j, hj, rfl, HJ⟩ := hrel
                  by_cases hjl : j < N
                  · have hjl' : (j : Int) < (N : Int) := by omega
                    have HAJ := hid (HJ.out.add j hjl)
                    go_wp2_with fail
                    refine HAJ.out.mono ?_
                    rintro e wj ⟨bj, rfl, hwj⟩
                    have HWJ := hid hwj
                    clear hwj HAJ
                    go_wp2
                    go_roundw
                    case rel => exact ⟨j + 1, by omega, by go_num, HWJ.out⟩
                    case measure => simp [intOf]; omega
                  · have hjl' : ¬ (j : Int) < (N : Int) := by omega
                    have HQ := hid HJ.out.x
                    have hcell : wr.cell? ⟨b, off + k, none⟩ = some (.int .i64 (x : Int)) := by
                      obtain ⟨b', off', e', hc'⟩ := (HX.out.held.below HQ.out.bel).cellAt hkx.out
                      cases e'
                      rw [HXE.out]
                      exact hc' k hkx.out
                    have HAD := hid (HQ.out.add_in x hxN)
                    rw [hfx] at HAD
                    simp only [Bool.not_false] at HAD
                    go_wp2_with fail
                    refine HAD.out.mono ?_
                    rintro e wa ⟨rfl, hva, hba, hla⟩
                    have hca : wa.cell? ⟨b, off + k, none⟩ = some (.int .i64 (x : Int)) := by
                      obtain ⟨b', off', e', hc'⟩ := (HX.out.held.below hla).cellAt hkx.out
                      cases e'
                      rw [HXE.out]
                      exact hc' k hkx.out
                    have HSA := hid (HQ.out.new_in hva hba hla)
                    have y0 := hba.frozen x
                    have y1 := hba.cell (boolsTo_get hxN)
                    rw [hfx] at y1
                    clear hva hba hla HAD hcell
                    have HC1 : Hid (cntF (addV f x) 7 = cntF f 7 + 1) := by show _ = _; rw [cntF_add, if_pos ⟨by omega, hfx⟩]
                    have HC7 := hid (cntF_le f 7)
                    obtain ⟨c7, hc7⟩ : ∃ c, c = cntF f 7 := ⟨_, rfl⟩
                    rw [← hc7] at HC1 HC7 ⊢
                    have hw7 : wrap64 ((c7 : Int) + 1) = (c7 : Int) + 1 := by have := HC7.out; exact wrapS (by omega) (by omega)
                    have HCT := hid (countV HSA.out.v)
                    rw [HC1.out, Int.natCast_add, Int.natCast_one] at HCT
                    clear hc7
                    go_wp2_with fail
                    refine HCT.out.mono ?_
                    rintro e wc ⟨rfl, hwc⟩
                    subst hwc
                    have HEN := hid (enoughV HSA.out.v)
                    rw [enough_iff H17.out, HC1.out, Int.natCast_add, Int.natCast_one] at HEN
                    go_wp2_with fail
                    refine HEN.out.mono ?_
                    rintro e we ⟨rfl, hqe⟩
                    have HSE : Hid (V15 w q h N (addV f x) we) := by obtain ⟨qe, hqe⟩ := hqe; rw [hqe]; exact HSA.out.below (below_dn (Below.refl _ _) qe)
                    clear hqe HEN HCT
                    go_wp2
                    go_roundw
                    case rel => exact ⟨k + 1, q, addV f x, by omega, rfl, by rw [HC1.out, Int.natCast_add, Int.natCast_one], by go_num, HSE⟩
                    case measure => simp [intOf]; omega
          · skip
            cases h4 : ((k : Int) % 4 == 3) with
            | false =>
              have HAD := hid (HR.out.add_out X (by omega))
              go_wp2_with fail
              refine HAD.out.mono ?_
              rintro e wa ⟨rfl, ha⟩
              have HSA := hid ha
              clear ha HAD hcell
              have HCT := hid (countV HSA.out.v)
              go_wp2_with fail
              refine HCT.out.mono ?_
              rintro e wc ⟨rfl, rfl⟩
              have HEN := hid (enoughV HSA.out.v)
              rw [enough_iff H17.out] at HEN
              go_wp2_with fail
              refine HEN.out.mono ?_
              rintro e we ⟨rfl, hqe⟩
              have HSE : Hid (V15 w p h N f we) := by obtain ⟨qe, hqe⟩ := hqe; rw [hqe]; exact HSA.out.below (below_dn (Below.refl _ _) qe)
              clear hqe HEN HCT
              go_wp2
              go_roundw
              case rel => exact ⟨k + 1, p, f, by omega, rfl, rfl, by go_num, HSE⟩
              case measure => simp [intOf]; omega
            | true =>
              have HFK := hid HR.out.fork
              go_wp2_with fail
              refine HFK.out.mono ?_
              rintro e wf ⟨q, rfl, h15⟩
              have HW0 := hid h15
              clear h15 HFK hcell
              go_wp2
              go_loopw [14] (fun i wz => ∃ j : Nat, j ≤ N ∧ i = .int .i64 j ∧ Hid (W15 w p q h N f wz)) (fun i _ => N - (intOf i).toNat)
              case atStart => exact ⟨0, by omega, rfl, HW0⟩
              case round =>
                obtain ⟨j, hj, rfl, HJ⟩ := hrel
                by_cases hjl : j < N
                · have hjl' : (j : Int) < (N : Int) := by omega
                  have HAJ := hid (HJ.out.add j hjl)
                  go_wp2_with fail
                  refine HAJ.out.mono ?_
                  rintro e wj ⟨bj, rfl, hwj⟩
                  have HWJ := hid hwj
                  clear hwj HAJ
                  go_wp2
                  go_roundw
                  case rel => exact ⟨j + 1, by omega, by go_num, HWJ.out⟩
                  case measure => simp [intOf]; omega
                · have hjl' : ¬ (j : Int) < (N : Int) := by omega
                  have HQ := hid HJ.out.x
                  have hcell : wr.cell? ⟨b, off + k, none⟩ = some (.int .i64 X) := by
                    obtain ⟨b', off', e', hc'⟩ := (HX.out.held.below HQ.out.bel).cellAt hkx.out
                    cases e'
                    rw [HXE.out]
                    exact hc' k hkx.out
                  have HAD := hid (HQ.out.add_out X (by omega))
                  go_wp2_with fail
                  refine HAD.out.mono ?_
                  rintro e wa ⟨rfl, ha⟩
                  have HSA := hid ha
                  clear ha HAD hcell
                  have HCT := hid (countV HSA.out.v)
                  go_wp2_with fail
                  refine HCT.out.mono ?_
                  rintro e wc ⟨rfl, rfl⟩
                  have HEN := hid (enoughV HSA.out.v)
                  rw [enough_iff H17.out] at HEN
                  go_wp2_with fail
                  refine HEN.out.mono ?_
                  rintro e we ⟨rfl, hqe⟩
                  have HSE : Hid (V15 w q h N f we) := by obtain ⟨qe, hqe⟩ := hqe; rw [hqe]; exact HSA.out.below (below_dn (Below.refl _ _) qe)
                  clear hqe HEN HCT
                  go_wp2
                  go_roundw
                  case rel => exact ⟨k + 1, q, f, by omega, rfl, rfl, by go_num, HSE⟩
                  case measure => simp [intOf]; omega
        · skip
          cases h4 : ((k : Int) % 4 == 3) with
          | false =>
            have HAD := hid (HR.out.add_out X (by omega))
            go_wp2_with fail
            refine HAD.out.mono ?_
            rintro e wa ⟨rfl, ha⟩
            have HSA := hid ha
            clear ha HAD hcell
            have HCT := hid (countV HSA.out.v)
            go_wp2_with fail
            refine HCT.out.mono ?_
            rintro e wc ⟨rfl, rfl⟩
            have HEN := hid (enoughV HSA.out.v)
            rw [enough_iff H17.out] at HEN
            go_wp2_with fail
            refine HEN.out.mono ?_
            rintro e we ⟨rfl, hqe⟩
            have HSE : Hid (V15 w p h N f we) := by obtain ⟨qe, hqe⟩ := hqe; rw [hqe]; exact HSA.out.below (below_dn (Below.refl _ _) qe)
            clear hqe HEN HCT
            go_wp2
            go_roundw
            case rel => exact ⟨k + 1, p, f, by omega, rfl, rfl, by go_num, HSE⟩
            case measure => simp [intOf]; omega
          | true =>
            have HFK := hid HR.out.fork
            go_wp2_with fail
            refine HFK.out.mono ?_
            rintro e wf ⟨q, rfl, h15⟩
            have HW0 := hid h15
            clear h15 HFK hcell
            go_wp2
            go_loopw [14] (fun i wz => ∃ j : Nat, j ≤ N ∧ i = .int .i64 j ∧ Hid (W15 w p q h N f wz)) (fun i _ => N - (intOf i).toNat)
            case atStart => exact ⟨0, by omega, rfl, HW0⟩
            case round =>
              obtain ⟨j, hj, rfl, HJ⟩ := hrel
              by_cases hjl : j < N
              · have hjl' : (j : Int) < (N : Int) := by omega
                have HAJ := hid (HJ.out.add j hjl)
                go_wp2_with fail
                refine HAJ.out.mono ?_
                rintro e wj ⟨bj, rfl, hwj⟩
                have HWJ := hid hwj
                clear hwj HAJ
                go_wp2
                go_roundw
                case rel => exact ⟨j + 1, by omega, by go_num, HWJ.out⟩
                case measure => simp [intOf]; omega
              · have hjl' : ¬ (j : Int) < (N : Int) := by omega
                have HQ := hid HJ.out.x
                have hcell : wr.cell? ⟨b, off + k, none⟩ = some (.int .i64 X) := by
                  obtain ⟨b', off', e', hc'⟩ := (HX.out.held.below HQ.out.bel).cellAt hkx.out
                  cases e'
                  rw [HXE.out]
                  exact hc' k hkx.out
                have HAD := hid (HQ.out.add_out X (by omega))
                go_wp2_with fail
                refine HAD.out.mono ?_
                rintro e wa ⟨rfl, ha⟩
                have HSA := hid ha
                clear ha HAD hcell
                have HCT := hid (countV HSA.out.v)
                go_wp2_with fail
                refine HCT.out.mono ?_
                rintro e wc ⟨rfl, rfl⟩
                have HEN := hid (enoughV HSA.out.v)
                rw [enough_iff H17.out] at HEN
                go_wp2_with fail
                refine HEN.out.mono ?_
                rintro e we ⟨rfl, hqe⟩
                have HSE : Hid (V15 w q h N f we) := by obtain ⟨qe, hqe⟩ := hqe; rw [hqe]; exact HSA.out.below (below_dn (Below.refl _ _) qe)
                clear hqe HEN HCT
                go_wp2
                go_roundw
                case rel => exact ⟨k + 1, q, f, by omega, rfl, rfl, by go_num, HSE⟩
                case measure => simp [intOf]; omega
      · have hlt' : ¬ (k : Int) < (lx : Int) := by omega
        have HAL := hid (allV HR.out.v)
        go_wp2_with fail
        refine HAL.out.mono ?_
        rintro e wa ⟨v, rfl, hrow, hba⟩
        have HSA := hid (HR.out.below hba)
        obtain ⟨eo, ecap, rfl, _, hca⟩ := own_form' hrow
        have HCA := hid hca
        obtain ⟨la, HLA⟩ : ∃ l, Hid ((allTo f N).length = l) := ⟨_, hid rfl⟩
        have HLC : Hid (la = cntF f N) := by show _ = _; rw [← HLA.out, allTo_len]
        have hla : la ≤ 7 := by have := HLC.out; have := cntF_le f N; omega
        rw [HLA.out]
        clear hrow hba hca HAL HR
        go_wp2
        go_loopw [16, 17] (fun c i wz => ∃ j : Nat, j ≤ N ∧ i = .int .i64 j ∧ c = .int .i64 (cntF f j : Nat) ∧ Hid (Below wa.heap.size wa wz)) (fun _ i _ => N - (intOf i).toNat)
        case atStart => exact ⟨0, by omega, rfl, rfl, Below.refl _ _⟩
        case round =>
          obtain ⟨j, hj, rfl, rfl, HQ⟩ := hrel
          have HSJ := hid (HSA.out.below HQ.out)
          by_cases hjl : j < N
          · have hjl' : (j : Int) < (N : Int) := by omega
            have hbj := HSJ.out.b.cell (boolsTo_get hjl)
            have HHJ := hid (fun q' => hasVotes (HSJ.out.v.dn q') (j : Int))
            have e1 : hasV (N : Int) f (j : Int) = f j := by unfold hasV; rw [decide_eq_true ⟨by omega, hjl'⟩]; simp
            rw [e1] at HHJ
            have HST : Hid (cntF f (j + 1) = cntF f j + (if f j then 1 else 0)) := rfl
            cases hfj : f j with
            | false =>
              rw [hfj] at hbj HHJ HST
              clear e1
              go_wp2
              go_quiet (first | (go_at_call 27; refine Calls.quiet_of_same (HHJ.out _)))
              go_wp2
              go_roundw
              case rel => exact ⟨j + 1, by omega, by go_num, by rw [HST.out]; simp, below_dn HQ.out _⟩
              case measure => simp [intOf]; omega
            | true =>
              have hcj := allTo_at hjl hfj
              have hlt2 := cntF_mono f hjl hfj
              rw [hfj] at hbj HHJ HST
              have HCJ := hid hcj
              have HL2 := hid hlt2
              clear e1 hcj hlt2
              obtain ⟨g, hge, _, hgl, hgc⟩ := HCA.out (by have := HL2.out; rw [HLA.out, HLC.out]; omega)
              subst hge
              obtain ⟨cj, hcj⟩ : ∃ c, c = cntF f j := ⟨_, rfl⟩
              have hcc : wr.cell? ⟨g, cj, none⟩ = some (.int .i64 (j : Int)) := by
                refine (HQ.out.cell (p := ⟨g, cj, none⟩) hgl).trans (hgc cj _ ?_)
                rw [ints_get (by rw [HLA.out, HLC.out, hcj]; exact HL2.out)]
                have := HCJ.out
                rw [← hcj] at this
                simp [List.getD, this]
              have hcl : cj < la := by have := HL2.out; have := HLC.out; omega
              have hcl' : (cj : Int) < (la : Int) := by omega
              have hcl2 : ¬ (la : Int) ≤ (cj : Int) := by omega
              rw [← hcj] at HST ⊢
              clear hcj hgc HCJ HL2
              go_wp2
              go_quiet (first | (go_at_call 27; refine Calls.quiet_of_same (HHJ.out _)))
              go_wp2
              go_roundw
              case rel => exact ⟨j + 1, by omega, by go_num, by rw [HST.out]; go_num, below_dn HQ.out _⟩
              case measure => simp [intOf]; omega
          · have hjl' : ¬ (j : Int) < (N : Int) := by omega
            obtain rfl : j = N := by omega
            have HHA := hid (hasVotes HSJ.out.v ask)
            obtain ⟨cN, hcN⟩ : ∃ c, c = cntF f j := ⟨_, rfl⟩
            have hcl : (cN : Int) = (la : Int) := by have := HLC.out; omega
            rw [← hcN]
            have hcl3 : cN = la := by omega
            subst hcl3
            clear hcN hcl
            by_cases ha0 : 0 ≤ ask
            · by_cases haN : ask < (j : Int)
              · obtain ⟨x, rfl⟩ := Int.eq_ofNat_of_zero_le ha0
                have hxN : x < j := by omega
                have hbx := HSJ.out.b.cell (boolsTo_get hxN)
                have e1 : hasV (j : Int) f (x : Int) = f x := by unfold hasV; rw [decide_eq_true ⟨ha0, haN⟩]; simp
                rw [e1] at HHA
                clear e1
                obtain ⟨bx, hbx2⟩ : ∃ c, c = f x := ⟨_, rfl⟩
                rw [← hbx2] at hbx HHA
                clear hbx2
                go_wp2_with fail
                refine HHA.out.mono ?_
                rintro e wz ⟨rfl, rfl⟩
                go_wp2
                go_ret
                exact ⟨ret_bool (by cases bx <;> rfl), HSJ.out.bel⟩
              · have e1 : hasV (j : Int) f ask = false := by unfold hasV; rw [decide_eq_false (fun h => haN h.2)]; rfl
                rw [e1] at HHA
                clear e1
                go_wp2_with fail
                refine HHA.out.mono ?_
                rintro e wz ⟨rfl, rfl⟩
                go_wp2
                go_ret
                exact ⟨rfl, HSJ.out.bel⟩
            · have e1 : hasV (j : Int) f ask = false := by unfold hasV; rw [decide_eq_false (fun h => ha0 h.1)]; rfl
              rw [e1] at HHA
              clear e1
              go_wp2_with fail
              refine HHA.out.mono ?_
              rintro e wz ⟨rfl, rfl⟩
              go_wp2
              go_ret
              exact ⟨rfl, HSJ.out.bel⟩
  · have HNV := hid (fun V : World => newVotes_bad V n h17)
    by_cases h1 : n < 1
    · clear h17
      go_enter Try.func5, Try.ntmps5
      go_wp2_with fail
      refine (HNV.out _).mono ?_
      rintro e w1 ⟨rfl, rfl⟩
      go_wp2_with fail
      refine (livesBal _).mono ?_
      rintro e w3 ⟨rfl, hb3⟩
      have HB3 := hid hb3
      clear hb3
      go_wp2
      go_ret
      exact ⟨rfl, HB3.out⟩
    · have h7 : 7 < n := by omega
      clear h17
      go_enter Try.func5, Try.ntmps5
      go_wp2_with fail
      refine (HNV.out _).mono ?_
      rintro e w1 ⟨rfl, rfl⟩
      go_wp2_with fail
      refine (livesBal _).mono ?_
      rintro e w3 ⟨rfl, hb3⟩
      have HB3 := hid hb3
      clear hb3
      go_wp2
      go_ret
      exact ⟨rfl, HB3.out⟩
end Go.Proofs.Ytdceenejijigdaa
