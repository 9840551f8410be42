/-
  The document's Pick.
-/
import Derived.Test.YtdceenejijigdaaBalF
namespace Go.Proofs.Ytdceenejijigdaa
open Go.RowKit Go.Maps

def RPickP (w : World) (xs : List VoM) (s : Int) (e : Ending) (w' : World) : Prop :=
  (bestTo xs s xs.length = -1 ∧ e = .returned (.tuple #[EnM.val ⟨noopEn, none, 0⟩, .bool false]) ∧ Below w.heap.size w w') ∨
  ∃ b : Nat, bestTo xs s xs.length = b ∧ b < xs.length ∧ e = .returned (.tuple #[EnM.val (xs.getD b default).en, .bool true]) ∧ Below w.heap.size w w'
set_option maxRecDepth 1000000 in
set_option maxHeartbeats 2000000 in
theorem rpickBal (w : World) (ao : Option Addr) (cap : Nat) (xs : List VoM) (n : Nat) (hn : xs.length = n) (s : Int) (h : HeldVo w ao xs) (hl : n ≤ 1466015503701) : Calls Try.prog 17 #[.slice ao n cap, .int .i64 s] w (RPickP w xs s) := by
  obtain ⟨W1, hW1⟩ : ∃ W, W = w.alloc (.cells #[.bool false, .string ⟨#[]⟩, .string ⟨#[]⟩, .int .i64 0, .slice none 0 0] 36) := ⟨_, rfl⟩
  have HB1 : Hid (Below w.heap.size w W1) := by rw [hW1]; exact (Below.refl _ _).alloc (Nat.le_refl _) _
  have HK1 : Hid (Blk W1 w.heap.size 36 [.bool false, .string ⟨#[]⟩, .string ⟨#[]⟩, .int .i64 0, .slice none 0 0]) := by rw [hW1]; exact Blk.new w _ _
  have H := hid (h.below HB1.out)
  have HN := hid hn
  have HW1 := hid hW1
  clear hW1 h hn
  go_enter Try.func17, Try.ntmps17
  go_wp2
  rw [← HW1.out]
  go_loopw [6, 7] (fun m i wr => ∃ k : Nat, k ≤ n ∧ i = .int .i64 k ∧ m = .int .i64 (bestTo xs s k) ∧ Hid (Below W1.heap.size W1 wr)) (fun _ i _ => n - (intOf i).toNat)
  case atStart => exact ⟨0, by omega, rfl, rfl, Below.refl _ _⟩
  case round =>
    obtain ⟨k, hk, rfl, rfl, HR⟩ := hrel
    by_cases hlt : k < n
    · have hlt' : (k : Int) < (n : Int) := by omega
      have hkx : Hid (k < xs.length) := (HN.out ▸ hlt : k < xs.length)
      have HH := hid (H.out.below HR.out)
      have HS : Hid (bestTo xs s (k + 1) = if (xs.getD k default).slot = s ∧ (bestTo xs s k < 0 ∨ 0 < cmpB (xs.getD k default).bal (xs.getD (bestTo xs s k).toNat default).bal) then (k : Int) else bestTo xs s k) := rfl
      have HIN := hid (bestTo_in xs s k)
      obtain ⟨bb, off, rfl, hbb, c0, c1, c2, c3, c4, c5, c6, c7⟩ := HH.out.cellsD hkx.out
      obtain ⟨X, hX⟩ : ∃ X, X = xs.getD k default := ⟨_, rfl⟩
      rw [← hX] at c0 c1 c2 c3 c4 c5 c6 c7 HS
      obtain ⟨bt, hbt⟩ : ∃ b, b = bestTo xs s k := ⟨_, rfl⟩
      rw [← hbt] at HS HIN ⊢
      have HX := hid hX
      have HBT := hid hbt
      clear hX hbt
      obtain ⟨sl, ⟨b1, b2⟩, ⟨np, tk, ct, ep, dp⟩, ao1, cap1⟩ := X
      simp only at c0 c1 c2 c3 c4 c5 c6 c7 HS
      obtain ⟨XN, HXN⟩ : ∃ m, Hid (dp.length = m) := ⟨_, hid rfl⟩
      rw [HXN.out] at c7
      have HCB := hid (fun (X : Beyond wr) y => bey_call X (rcompareB X.now (b1, b2) y))
      have hbb2 := hbb
      have k0 := fun X : Beyond wr => X.cell c0 hbb2
      have k1 := fun X : Beyond wr => X.cell c1 hbb2
      have k2 := fun X : Beyond wr => X.cell c2 hbb2
      clear c3 c4 c5 c6 c7
      by_cases hsl : sl = s
      · subst hsl
        rcases HIN.out with hm | ⟨h0, h1⟩
        · subst hm
          have HS' : Hid (bestTo xs sl (k + 1) = (k : Int)) := by have := HS.out; rw [if_pos ⟨rfl, .inl (by decide)⟩] at this; exact this
          go_wp2
          refine wp_region_bey wr (by kernel_rfl) (by kernel_rfl) (Below.refl _ _) ?_
          repeat (go_big_quiet_step (first | (go_at_call 13; exact HCB.out _ _)))
          refine wpQuiet_nil ?_
          rintro _ ⟨Y, rfl⟩
          have HBY := hid (bt' HR.out Y.is)
          go_wp2
          go_roundw
          case rel => exact ⟨k + 1, by omega, by go_num, by rw [HS'.out], HBY.out⟩
          case measure => simp [intOf]; omega
        · obtain ⟨j, rfl⟩ := Int.eq_ofNat_of_zero_le h0
          have hjk : j < k := by omega
          have hjx : Hid (j < xs.length) := Nat.lt_trans hjk hkx.out
          obtain ⟨bb', off', he, hbb', _, d1, d2, _⟩ := HH.out.cellsD hjx.out
          simp only [Option.some.injEq, Addr.mk.injEq] at he
          obtain ⟨rfl, rfl, _⟩ := he
          obtain ⟨y1, y2, HY⟩ : ∃ y1 y2, Hid ((xs.getD j default).bal = (y1, y2)) := ⟨_, _, hid rfl⟩
          rw [HY.out] at d1 d2
          have e1 := fun X : Beyond wr => X.cell d1 hbb'
          have e2 := fun X : Beyond wr => X.cell d2 hbb'
          obtain ⟨c, HC⟩ : ∃ c, Hid (cmpB (b1, b2) (y1, y2) = c) := ⟨_, hid rfl⟩
          have HCC := hid (fun X : Beyond wr => HCB.out X (y1, y2))
          rw [HC.out] at HCC
          have hnj : ¬ (j : Int) < 0 := by omega
          have hdj : decide ((j : Int) < 0) = false := decide_eq_false hnj
          have hjn : (j : Int) < (n : Int) := by omega
          rw [show ((j : Int)).toNat = j from rfl, HY.out, HC.out] at HS
          clear d1 d2 h0 h1
          by_cases hc : 0 < c
          · have HS' : Hid (bestTo xs sl (k + 1) = (k : Int)) := by have := HS.out; rw [if_pos ⟨rfl, .inr hc⟩] at this; exact this
            go_wp2
            refine wp_region_bey wr (by kernel_rfl) (by kernel_rfl) (Below.refl _ _) ?_
            repeat (go_big_quiet_step (first | (go_at_call 13; exact HCC.out _)))
            refine wpQuiet_nil ?_
            rintro _ ⟨Y, rfl⟩
            have HBY := hid (bt' HR.out Y.is)
            go_wp2
            go_roundw
            case rel => exact ⟨k + 1, by omega, by go_num, by rw [HS'.out], HBY.out⟩
            case measure => simp [intOf]; omega
          · have HS' : Hid (bestTo xs sl (k + 1) = (j : Int)) := by have := HS.out; rw [if_neg (by rintro ⟨_, h | h⟩ <;> omega)] at this; exact this
            go_wp2
            refine wp_region_bey wr (by kernel_rfl) (by kernel_rfl) (Below.refl _ _) ?_
            repeat (go_big_quiet_step (first | (go_at_call 13; exact HCC.out _)))
            refine wpQuiet_nil ?_
            rintro _ ⟨Y, rfl⟩
            have HBY := hid (bt' HR.out Y.is)
            go_wp2
            go_roundw
            case rel => exact ⟨k + 1, by omega, by go_num, by rw [HS'.out], HBY.out⟩
            case measure => simp [intOf]; omega
      · have hsb : (sl == s) = false := by simpa using hsl
        have HS' : Hid (bestTo xs s (k + 1) = bt) := by have := HS.out; rw [if_neg (fun h => hsl h.1)] at this; exact this
        clear hsl
        go_wp2
        refine wp_region_bey wr (by kernel_rfl) (by kernel_rfl) (Below.refl _ _) ?_
        repeat (go_big_quiet_step (first | (go_at_call 13; exact HCB.out _ _)))
        refine wpQuiet_nil ?_
        rintro _ ⟨Y, rfl⟩
        have HBY := hid (bt' HR.out Y.is)
        go_wp2
        go_roundw
        case rel => exact ⟨k + 1, by omega, by go_num, by rw [HS'.out], HBY.out⟩
        case measure => simp [intOf]; omega
    · have hlt' : ¬ (k : Int) < (n : Int) := by omega
      obtain rfl : k = n := by omega
      have HH := hid (H.out.below HR.out)
      have hk2 := HK1.out.below HR.out HK1.out.lt
      have f0 := hk2.frozen 0
      have f1 := hk2.frozen 1
      have f2 := hk2.frozen 2
      have f3 := hk2.frozen 3
      have f4 := hk2.frozen 4
      have c0 := hk2.cell (i := 0) rfl
      have c1 := hk2.cell (i := 1) rfl
      have c2 := hk2.cell (i := 2) rfl
      have c3 := hk2.cell (i := 3) rfl
      have c4 := hk2.cell (i := 4) rfl
      have HBS := hid (bestTo_in xs s k)
      obtain ⟨bt, hbt⟩ : ∃ b, b = bestTo xs s k := ⟨_, rfl⟩
      rw [← hbt] at HBS ⊢
      have HBT : Hid (bestTo xs s xs.length = bt) := by show _ = _; rw [HN.out, hbt]
      clear hbt
      rcases HBS.out with rfl | ⟨h0, h1⟩
      · go_wp2
        obtain ⟨W3, hW3⟩ : ∃ V, V = st5 wr w.heap.size (.bool true) (.string ⟨#[]⟩) (.string ⟨#[]⟩) (.int .i64 0) (.slice none 0 0) := ⟨_, rfl⟩
        have hk9 : Blk W3 w.heap.size 36 [.bool true, .string ⟨#[]⟩, .string ⟨#[]⟩, .int .i64 0, .slice none 0 0] := by rw [hW3]; exact st5_blk hk2 _ _ _ _ _
        have HBF : Hid (Below w.heap.size w W3) := by
          show Below _ _ _
          rw [hW3]
          exact (bt' HB1.out HR.out).trans ((st5_turns wr w.heap.size _ _ _ _ _).below (fun i hi => by omega) (bt' HB1.out HR.out).size)
        have k0 := hk9.cell (i := 0) rfl
        have k1 := hk9.cell (i := 1) rfl
        have k2 := hk9.cell (i := 2) rfl
        have k3 := hk9.cell (i := 3) rfl
        have k4 := hk9.cell (i := 4) rfl
        unfold st5 at hW3
        rw [← hW3]
        (try simp only [Exit.inBlock, Exit.then])
        refine bodyPost_ret (v := .tuple #[EnM.val ⟨noopEn, none, 0⟩, .bool false]) ?_ rfl (.inl ⟨HBT.out, rfl, HBF.out⟩)
        rw [results_cell_tmp rfl]
        go_simp
        exact ⟨rfl, rfl, rfl, rfl, rfl⟩
      · obtain ⟨j, rfl⟩ := Int.eq_ofNat_of_zero_le h0
        have hjk : j < k := by omega
        have hjx : Hid (j < xs.length) := (by rw [HN.out]; exact hjk : j < xs.length)
        obtain ⟨bb, off, rfl, hbb, d0, d1, d2, d3, d4, d5, d6, d7⟩ := HH.out.cellsD hjx.out
        have HXO : Hid (VoOk wr (xs.getD j default)) := by show VoOk _ _; rw [vo_getD hjx.out]; exact HH.out.1 _ (List.getElem_mem hjx.out)
        have hnj : ¬ (j : Int) < 0 := by omega
        have hjn : (j : Int) < (k : Int) := by omega
        obtain ⟨X, hX⟩ : ∃ X, X = xs.getD j default := ⟨_, rfl⟩
        rw [← hX] at d0 d1 d2 d3 d4 d5 d6 d7 HXO
        have HX := hid hX
        clear hX d0 d1 d2
        clear h0 h1
        obtain ⟨sl, ⟨b1, b2⟩, ⟨np, tk, ct, ep, dp⟩, ao1, cap1⟩ := X
        simp only at d3 d4 d5 d6 d7
        obtain ⟨XN, HXN⟩ : ∃ m, Hid (dp.length = m) := ⟨_, hid rfl⟩
        rw [HXN.out] at d7
        go_wp2
        obtain ⟨W3, hW3⟩ : ∃ V, V = st5 wr w.heap.size (.bool np) (.string tk) (.string ct) (.int .i64 ep) (.slice ao1 XN cap1) := ⟨_, rfl⟩
        have hk9 : Blk W3 w.heap.size 36 [.bool np, .string tk, .string ct, .int .i64 ep, .slice ao1 XN cap1] := by rw [hW3]; exact st5_blk hk2 _ _ _ _ _
        have HTU : Hid (Turns (fun i => i = w.heap.size) wr W3) := by show Turns _ _ _; rw [hW3]; exact st5_turns _ _ _ _ _ _ _
        have HBF : Hid (Below w.heap.size w W3) := (bt' HB1.out HR.out).trans (HTU.out.below (fun i hi => by omega) (bt' HB1.out HR.out).size)
        have k0 := hk9.cell (i := 0) rfl
        have k1 := hk9.cell (i := 1) rfl
        have k2 := hk9.cell (i := 2) rfl
        have k3 := hk9.cell (i := 3) rfl
        have k4 := hk9.cell (i := 4) rfl
        unfold st5 at hW3
        rw [← hW3]
        (try simp only [Exit.inBlock, Exit.then])
        refine bodyPost_ret (v := .tuple #[.agg #[.bool np, .string tk, .string ct, .int .i64 ep, .slice ao1 XN cap1], .bool true]) ?_ rfl (.inr ⟨j, HBT.out, hjx.out, ?_, HBF.out⟩)
        · rw [results_cell_tmp rfl]
          go_simp
        · rw [← HX.out]
          simp only [EnM.val]
          rw [HXN.out]
end Go.Proofs.Ytdceenejijigdaa
