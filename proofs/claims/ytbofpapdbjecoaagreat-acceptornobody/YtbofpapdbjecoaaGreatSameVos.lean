/-
  SameVoted of lists of votes that are the same.
-/
import Derived.Test.YtbofpapdbjecoaaGreatAcH
import Derived.Test.YtbofpapdbjecoaaGreatSameB
namespace Go.Proofs.YtbofpapdbjecoaaGreat
open Go.RowKit Go.Shelf Go.Maps

theorem sv_parts {x y : VoM} (h : x.sv = y.sv) : ∃ sl r n e ao1 c1 ao2 c2, x = ⟨sl, (r, n), ⟨e, ao1, c1⟩⟩ ∧ y = ⟨sl, (r, n), ⟨e, ao2, c2⟩⟩ := by
  obtain ⟨s1, ⟨r1, n1⟩, e1, ao1, c1⟩ := x
  obtain ⟨s2, ⟨r2, n2⟩, e2, ao2, c2⟩ := y
  simp only [VoM.sv, VoM.vt, Prod.mk.injEq] at h
  obtain ⟨rfl, ⟨rfl, rfl⟩, rfl⟩ := h
  exact ⟨_, _, _, _, _, _, _, _, rfl, rfl⟩
set_option maxRecDepth 1000000 in
set_option maxHeartbeats 4000000 in
theorem sameVos_B (w : World) (ao bo : Option Addr) (ca cb : Nat) (xs ys : List VoM) (N : Nat) (hn : xs.length = N) (hx : HeldVo w ao xs) (hy : HeldVo w bo ys) (he : xs.map VoM.sv = ys.map VoM.sv) (hl : N ≤ 4096) :
    Calls Tryz.prog 21 #[.slice ao N ca, .slice bo N cb] w fun e w' => e = .returned (.bool true) ∧ Below w.heap.size w w' := by
  have HN := hid hn
  have HM : Hid (ys.length = N) := by have := congrArg List.length he; simp at this; exact hid (by omega)
  have HX := hid hx
  have HY := hid hy
  have HE := hid he
  clear hn hx hy he
  go_enter Tryz.func21, Tryz.ntmps21
  go_wp2
  go_loopw [5] (fun x wr => ∃ i : Nat, i ≤ N ∧ x = .int .i64 i ∧ Hid (Below w.heap.size w wr)) (fun x _ => N - (intOf x).toNat)
  case atStart => exact ⟨0, Nat.zero_le _, rfl, Below.refl _ _⟩
  case round =>
    obtain ⟨i, hi, rfl, HB⟩ := hrel
    by_cases hlt : i < N
    · have hlt' : (i : Int) < (N : Int) := by omega
      have hix : Hid (i < xs.length) := (by rw [HN.out]; exact hlt : i < xs.length)
      have hiy : Hid (i < ys.length) := (by rw [HM.out]; exact hlt : i < ys.length)
      have HIM : Hid (i + 1 ≤ N) := (by omega : i + 1 ≤ N)
      obtain ⟨g1, f1, hao, hg1, e1⟩ := (HX.out.below HB.out).at hix.out
      obtain ⟨g2, f2, hbo, hg2, e2⟩ := (HY.out.below HB.out).at hiy.out
      subst hao hbo
      have HL1 := hid hg1
      have HL2 := hid hg2
      clear hg1 hg2
      have HOX := hid ((HX.out.1 _ (List.getElem_mem hix.out)).below HB.out)
      have HOY := hid ((HY.out.1 _ (List.getElem_mem hiy.out)).below HB.out)
      have hsv : (xs[i]'hix.out).sv = (ys[i]'hiy.out).sv := by
        have h1 : (xs.map VoM.sv)[i]? = (ys.map VoM.sv)[i]? := by rw [HE.out]
        rw [List.getElem?_map, List.getElem?_map, List.getElem?_eq_getElem hix.out, List.getElem?_eq_getElem hiy.out] at h1
        exact Option.some.inj h1
      obtain ⟨sl, r, n, ⟨np, tk, ct, ep, dp⟩, ao1, cap1, ao2, cap2, hX, hY⟩ := sv_parts hsv
      rw [hX] at e1 HOX
      rw [hY] at e2 HOY
      simp only [VoM.cells] at e1 e2
      obtain ⟨XN, HXN⟩ : ∃ m, Hid (dp.length = m) := ⟨_, hid rfl⟩
      rw [HXN.out] at e1 e2
      have HSE : Hid (∀ V, ScL wr V → Calls Tryz.prog 29 #[.agg #[.bool np, .string tk, .string ct, .int .i64 ep, .slice ao1 XN cap1], .agg #[.bool np, .string tk, .string ct, .int .i64 ep, .slice ao2 XN cap2]] V fun e w' => e = .returned (.bool true) ∧ ScL wr w') := fun V hV => by
        have h1 := sameEntry_B V ⟨np, tk, ct, ep, dp⟩ ao1 ao2 cap1 cap2 (HOX.out.en.cut.below hV.out) (HOY.out.en.cut.below hV.out)
        simp only [EnM.val] at h1
        rw [HXN.out] at h1
        exact h1.mono fun e w' ⟨h2, h3⟩ => ⟨h2, hV.go h3⟩
      have HSA : Hid (∀ V, ScL wr V → (ScL wr V ∧ V.cell? ⟨g1, f1 + i * 8, none⟩ = some (.int .i64 sl) ∧ V.cell? ⟨g1, f1 + i * 8 + 1, none⟩ = some (.int .i64 r) ∧ V.cell? ⟨g1, f1 + i * 8 + 2, none⟩ = some (.int .i64 n) ∧ V.cell? ⟨g1, f1 + i * 8 + 3, none⟩ = some (.bool np) ∧ V.cell? ⟨g1, f1 + i * 8 + 4, none⟩ = some (.string tk) ∧ V.cell? ⟨g1, f1 + i * 8 + 5, none⟩ = some (.string ct) ∧ V.cell? ⟨g1, f1 + i * 8 + 6, none⟩ = some (.int .i64 ep) ∧ V.cell? ⟨g1, f1 + i * 8 + 7, none⟩ = some (.slice ao1 XN cap1) ∧ V.cell? ⟨g2, f2 + i * 8, none⟩ = some (.int .i64 sl) ∧ V.cell? ⟨g2, f2 + i * 8 + 1, none⟩ = some (.int .i64 r) ∧ V.cell? ⟨g2, f2 + i * 8 + 2, none⟩ = some (.int .i64 n) ∧ V.cell? ⟨g2, f2 + i * 8 + 3, none⟩ = some (.bool np) ∧ V.cell? ⟨g2, f2 + i * 8 + 4, none⟩ = some (.string tk) ∧ V.cell? ⟨g2, f2 + i * 8 + 5, none⟩ = some (.string ct) ∧ V.cell? ⟨g2, f2 + i * 8 + 6, none⟩ = some (.int .i64 ep) ∧ V.cell? ⟨g2, f2 + i * 8 + 7, none⟩ = some (.slice ao2 XN cap2))) := fun V hV => ⟨hV, (hV.out.cell (p := ⟨g1, _, none⟩) HL1.out).trans (e1 0 _ rfl), (hV.out.cell (p := ⟨g1, _, none⟩) HL1.out).trans (e1 1 _ rfl), (hV.out.cell (p := ⟨g1, _, none⟩) HL1.out).trans (e1 2 _ rfl), (hV.out.cell (p := ⟨g1, _, none⟩) HL1.out).trans (e1 3 _ rfl), (hV.out.cell (p := ⟨g1, _, none⟩) HL1.out).trans (e1 4 _ rfl), (hV.out.cell (p := ⟨g1, _, none⟩) HL1.out).trans (e1 5 _ rfl), (hV.out.cell (p := ⟨g1, _, none⟩) HL1.out).trans (e1 6 _ rfl), (hV.out.cell (p := ⟨g1, _, none⟩) HL1.out).trans (e1 7 _ rfl), (hV.out.cell (p := ⟨g2, _, none⟩) HL2.out).trans (e2 0 _ rfl), (hV.out.cell (p := ⟨g2, _, none⟩) HL2.out).trans (e2 1 _ rfl), (hV.out.cell (p := ⟨g2, _, none⟩) HL2.out).trans (e2 2 _ rfl), (hV.out.cell (p := ⟨g2, _, none⟩) HL2.out).trans (e2 3 _ rfl), (hV.out.cell (p := ⟨g2, _, none⟩) HL2.out).trans (e2 4 _ rfl), (hV.out.cell (p := ⟨g2, _, none⟩) HL2.out).trans (e2 5 _ rfl), (hV.out.cell (p := ⟨g2, _, none⟩) HL2.out).trans (e2 6 _ rfl), (hV.out.cell (p := ⟨g2, _, none⟩) HL2.out).trans (e2 7 _ rfl)⟩
      clear e1 e2 hX hY hsv HOX HOY
      have hsc0 := ScL.start wr
      go_wp2
      go_region_held3 (fun V => ScL wr V ∧ V.cell? ⟨g1, f1 + i * 8, none⟩ = some (.int .i64 sl) ∧ V.cell? ⟨g1, f1 + i * 8 + 1, none⟩ = some (.int .i64 r) ∧ V.cell? ⟨g1, f1 + i * 8 + 2, none⟩ = some (.int .i64 n) ∧ V.cell? ⟨g1, f1 + i * 8 + 3, none⟩ = some (.bool np) ∧ V.cell? ⟨g1, f1 + i * 8 + 4, none⟩ = some (.string tk) ∧ V.cell? ⟨g1, f1 + i * 8 + 5, none⟩ = some (.string ct) ∧ V.cell? ⟨g1, f1 + i * 8 + 6, none⟩ = some (.int .i64 ep) ∧ V.cell? ⟨g1, f1 + i * 8 + 7, none⟩ = some (.slice ao1 XN cap1) ∧ V.cell? ⟨g2, f2 + i * 8, none⟩ = some (.int .i64 sl) ∧ V.cell? ⟨g2, f2 + i * 8 + 1, none⟩ = some (.int .i64 r) ∧ V.cell? ⟨g2, f2 + i * 8 + 2, none⟩ = some (.int .i64 n) ∧ V.cell? ⟨g2, f2 + i * 8 + 3, none⟩ = some (.bool np) ∧ V.cell? ⟨g2, f2 + i * 8 + 4, none⟩ = some (.string tk) ∧ V.cell? ⟨g2, f2 + i * 8 + 5, none⟩ = some (.string ct) ∧ V.cell? ⟨g2, f2 + i * 8 + 6, none⟩ = some (.int .i64 ep) ∧ V.cell? ⟨g2, f2 + i * 8 + 7, none⟩ = some (.slice ao2 XN cap2))
        (first | (refine HSA.out _ ?_; (repeat (first | with_reducible assumption | with_reducible exact ScL.start _ | with_reducible apply ScL.dr)); done))
        ((go_at_call 29; with_reducible refine (HSE.out _ (by (repeat (first | assumption | exact ScL.start _ | apply ScL.dr)))).mono ?_; rintro e w5 ⟨rfl, hs5⟩; have HS5 := hid hs5))
      all_goals
        go_wp2
        go_roundw
        case rel => exact ⟨i + 1, HIM.out, by go_num, bt' HB.out HS5.out.out⟩
        case measure => simp [intOf]; have := HIM.out; omega
    · have hlt' : ¬ (i : Int) < (N : Int) := by omega
      go_wp2
      go_ret
      exact ⟨rfl, HB.out⟩
end Go.Proofs.YtbofpapdbjecoaaGreat
