/-
  RouterTokens' walk.
-/
import Derived.Test.YtppllbdoihfcbaaDoorRoI
namespace Go.Proofs.YtppllbdoihfcbaaDoor
open Go.RowKit Go.Maps

set_option maxRecDepth 100000 in
theorem tokens_bad1 (a b n : Int) (w : World) (hT : TbR w) (h : ¬ (0 ≤ a ∧ a ≤ 2147483647)) (hb : ¬ (0 ≤ b ∧ b ≤ 2147483647)) : Calls Tryd.prog 5 #[.int .i64 a, .int .i64 b, .int .i64 n] w fun e w' => e = .returned (.bool true) ∧ Below w.heap.size w w' := by
  have HT := hid hT
  have HNW := hid (newR_bad w a 3 (by omega))
  have HNV := hid (newR_bad w b 3 (by omega))
  clear hT h hb
  go_enter Tryd.func5, Tryd.ntmps5
  go_wp2_with fail
  refine HNW.out.mono ?_
  rintro e w' ⟨rfl, rfl⟩
  go_wp2_with fail
  refine HNV.out.mono ?_
  rintro e w' ⟨rfl, rfl⟩
  go_wp2_with fail
  refine (livesR _ HT.out).mono ?_
  rintro e w2 ⟨rfl, hb2⟩
  have HB := hid hb2
  clear hb2
  go_wp2
  go_ret
  exact ⟨rfl, HB.out⟩
set_option maxRecDepth 100000 in
theorem tokens_bad2 (a b n : Int) (w : World) (hT : TbR w) (h : ¬ (0 ≤ a ∧ a ≤ 2147483647)) (hb : 0 ≤ b ∧ b ≤ 2147483647) : Calls Tryd.prog 5 #[.int .i64 a, .int .i64 b, .int .i64 n] w fun e w' => e = .returned (.bool true) ∧ Below w.heap.size w w' := by
  have HT := hid hT
  have HNW := hid (newR_bad w a 3 (by omega))
  have HNV := hid (newR_good w b 3 (by omega))
  clear hT h hb
  go_enter Tryd.func5, Tryd.ntmps5
  go_wp2_with fail
  refine HNW.out.mono ?_
  rintro e w' ⟨rfl, rfl⟩
  go_wp2_with fail
  refine HNV.out.mono ?_
  rintro e w1 ⟨rfl, _, hb1⟩
  have HB1 := hid hb1
  clear hb1
  go_wp2_with fail
  refine (livesR _ (HT.out.below HB1.out)).mono ?_
  rintro e w2 ⟨rfl, hb2⟩
  have HB := hid (btR HB1.out hb2)
  clear hb2
  go_wp2
  go_ret
  exact ⟨rfl, HB.out⟩
set_option maxRecDepth 100000 in
theorem tokens_bad3 (a b n : Int) (w : World) (hT : TbR w) (h : 0 ≤ a ∧ a ≤ 2147483647) (hb : ¬ (0 ≤ b ∧ b ≤ 2147483647)) : Calls Tryd.prog 5 #[.int .i64 a, .int .i64 b, .int .i64 n] w fun e w' => e = .returned (.bool true) ∧ Below w.heap.size w w' := by
  have HT := hid hT
  have HNW := hid (newR_good w a 3 (by omega))
  have HNV := hid (fun V => newR_bad V b 3 (by omega))
  clear hT h hb
  go_enter Tryd.func5, Tryd.ntmps5
  go_wp2_with fail
  refine HNW.out.mono ?_
  rintro e w1 ⟨rfl, _, hb1⟩
  have HB1 := hid hb1
  clear hb1
  go_wp2_with fail
  refine (HNV.out _).mono ?_
  rintro e w' ⟨rfl, rfl⟩
  go_wp2_with fail
  refine (livesR _ (HT.out.below HB1.out)).mono ?_
  rintro e w2 ⟨rfl, hb2⟩
  have HB := hid (btR HB1.out hb2)
  clear hb2
  go_wp2
  go_ret
  exact ⟨rfl, HB.out⟩
theorem tmod50 (n : Int) : -50 < n.tmod 50 ∧ n.tmod 50 < 50 := ⟨Int.lt_tmod_of_pos n (by decide), Int.tmod_lt_of_pos n (by decide)⟩
set_option maxRecDepth 100000 in
set_option maxHeartbeats 4000000 in
theorem tokens_good (a b : Nat) (n : Int) (w : World) (hT : TbR w) (ha : a ≤ 2147483647) (hb : b ≤ 2147483647) : Calls Tryd.prog 5 #[.int .i64 (a : Int), .int .i64 (b : Int), .int .i64 n] w fun e w' => e = .returned (.bool true) ∧ Below w.heap.size w w' := by
  have HT := hid hT
  have HA := hid ha
  have HBB := hid hb
  have HNW := hid (newR_good w (a : Int) 3 (by omega))
  have HNV := hid (fun V => newR_good V (b : Int) 3 (by omega))
  clear hT ha hb
  go_enter Tryd.func5, Tryd.ntmps5
  go_wp2_with fail
  refine HNW.out.mono ?_
  rintro e w1 ⟨rfl, hs1, hb1⟩
  have HB1 := hid hb1
  have HS1 := hid hs1
  clear hb1 hs1
  go_wp2_with fail
  refine (HNV.out _).mono ?_
  rintro e w2 ⟨rfl, hs2, hb2⟩
  have H2 : Hid (TT w w2 w.heap.size w1.heap.size a b 0 0 (.slice none 0 0) []) := by
    refine ⟨(SR.new w HT.out HB1.out (Below.refl _ _) HS1.out).grow hb2, SR.new w HT.out hb2 HB1.out hs2, ?_, ⟨rfl, .inl ⟨rfl, rfl⟩⟩⟩
    have := HS1.out.blk.lt
    omega
  clear hs2 hb2 HNW HNV HB1 HS1
  obtain ⟨p, HP⟩ : ∃ p, Hid (w.heap.size = p) := ⟨_, hid rfl⟩
  obtain ⟨q, HQ⟩ : ∃ q, Hid (w1.heap.size = q) := ⟨_, hid rfl⟩
  rw [HQ.out] at H2 ⊢
  rw [HP.out] at H2 ⊢
  go_wp2_with fail
  refine (livesR _ H2.out.s.tb).mono ?_
  rintro e w3 ⟨rfl, hb3⟩
  have H3 := hid (H2.out.grow hb3)
  clear hb3 H2 HQ
  go_wp2
  go_loopw [11, 12] (fun v x wr => ∃ (i : Nat), i < 50 ∧ x = .int .i64 i ∧ Hid (TT w wr p q a b i (if a = b then 0 else i) v (gath a b i))) (fun _ x _ => 50 - (intOf x).toNat)
  case atStart => exact ⟨0, by omega, rfl, by rw [ite_self]; exact H3.out⟩
  case round =>
    obtain ⟨i, hi, rfl, HI⟩ := hrel
    clear H3
    have hm := tmod50 n
    by_cases hlt : (i : Int) < n.tmod 50
    · have HGL := hid (gath_len a b i)
      have HG1 : Hid (gath a b (i + 1) = gath a b i ++ (tokR (a : Int) (i : Int) :: if a = b then [] else [tokR (b : Int) (i : Int)])) := rfl
      have hi1 : i + 1 < 50 := by omega
      clear hm
      by_cases hab : a = b
      · rw [if_pos hab] at HI HG1
        subst hab
        go_wp2_with fail
        refine (HI.out.tokenS (by omega)).mono ?_
        rintro e w4 ⟨rfl, h4⟩
        have H4 := hid h4
        clear h4 HI
        go_wp2_with (at_builtin; refine wpList_append_strR _ _ (tokR (a : Int) (i : Int)) rfl rfl _ _ rfl w.heap.size _ (gath a a i) rfl rfl H4.out.row H4.out.s.bel.size (by have := HGL.out; omega) ?_; intro v' w5 hown ht5; have H5 := hid (H4.out.appended ht5 hown); clear hown ht5)
        go_wp2
        go_roundw
        case rel => exact ⟨i + 1, by omega, by go_num, by rw [HG1.out]; exact H5.out⟩
        case measure => simp [intOf]; omega
      · rw [if_neg hab] at HI HG1
        have hab' : ¬ (a : Int) = (b : Int) := by omega
        have HAB := hid hab
        clear hab
        go_wp2_with fail
        refine (HI.out.tokenS (by omega)).mono ?_
        rintro e w4 ⟨rfl, h4⟩
        have H4 := hid h4
        clear h4 HI
        go_wp2_with (at_builtin; refine wpList_append_strR _ _ (tokR (a : Int) (i : Int)) rfl rfl _ _ rfl w.heap.size _ (gath a b i) rfl rfl H4.out.row H4.out.s.bel.size (by have := HGL.out; omega) ?_; intro v' w5 hown ht5; have H5 := hid (H4.out.appended ht5 hown); clear hown ht5)
        go_wp2_with fail
        refine (H5.out.tokenT (by omega)).mono ?_
        rintro e w6 ⟨rfl, h6⟩
        have H6 := hid h6
        clear h6 H4 H5
        have HGL2 : Hid ((gath a b i ++ [tokR (a : Int) (i : Int)]).length < 1000) := by show _ < _; rw [List.length_append]; have := HGL.out; simp; omega
        go_wp2_with (at_builtin; refine wpList_append_strR _ _ (tokR (b : Int) (i : Int)) rfl rfl _ _ rfl w.heap.size _ (gath a b i ++ [tokR (a : Int) (i : Int)]) rfl rfl H6.out.row H6.out.s.bel.size HGL2.out ?_; intro v'' w7 hown ht7; have H7 := hid (H6.out.appended ht7 hown); clear hown ht7)
        go_wp2
        go_roundw
        case rel => exact ⟨i + 1, by omega, by go_num, by rw [if_neg HAB.out, HG1.out, show gath a b i ++ [tokR (a : Int) (i : Int), tokR (b : Int) (i : Int)] = (gath a b i ++ [tokR (a : Int) (i : Int)]) ++ [tokR (b : Int) (i : Int)] by simp]; exact H7.out⟩
        case measure => simp [intOf]; omega
    · clear hm
      obtain ⟨ls, hls⟩ : ∃ ls, ls = gath a b i := ⟨_, rfl⟩
      obtain ⟨eo, cap, hv, hnc, hcell⟩ := own_form' HI.out.row
      rw [← hls] at hv hcell hnc
      have HNM : Hid (∀ k (h : k < ls.length), nameS ls[k] = true ∧ ls[k].size ≤ maxLen) := fun k h => by
        obtain ⟨c, k', h1, h2, h3⟩ := gath_mem (by rw [← hls]; exact List.getElem_mem h : ls[k] ∈ gath a b i)
        have hcb : c ≤ 2147483647 := by have := HA.out; have := HBB.out; rcases h3 with h3 | h3 <;> omega
        rw [h1]
        exact ⟨tokR_name c k' hcb (by omega), by have := (tokR_size c k' hcb (by omega)).1; unfold maxLen; omega⟩
      have HND : Hid (∀ k m (hk : k < m) (hm : m < ls.length), ls[k] ≠ ls[m]) := fun k m hk hm e => by
        have hn := gath_nodup a b i
        rw [← hls] at hn
        exact (List.pairwise_iff_getElem.1 hn) k m (by omega) hm hk e
      have HLL : Hid (ls.length ≤ 100) := by have := gath_len a b i; rw [← hls] at this; show _ ≤ _; omega
      have HBI := hid HI.out.s.bel
      have HCL := hid hcell
      obtain ⟨LN, hLN⟩ : ∃ m, m = ls.length := ⟨_, rfl⟩
      rw [← hLN] at hv hnc HLL
      have HLN := hid hLN
      have hl100 : LN ≤ 100 := HLL.out
      have hnc' : LN ≤ cap := hnc
      clear hls hcell hLN HI hnc HLL
      subst hv
      obtain ⟨wA, rfl⟩ : ∃ V, V = wr := ⟨_, rfl⟩
      go_wp2
      go_loopw [13] (fun x wr => ∃ (m : Nat), m ≤ LN ∧ x = .int .i64 m ∧ Hid (Below wA.heap.size wA wr)) (fun x _ => LN - (intOf x).toNat)
      case atStart => exact ⟨0, by omega, rfl, Below.refl _ _⟩
      case round =>
        obtain ⟨m, hm, rfl, HQ⟩ := hrel
        obtain ⟨wq, rfl⟩ : ∃ V, V = wr := ⟨_, rfl⟩
        by_cases hlt2 : m < LN
        · have hlt2' : (m : Int) < (LN : Int) := by omega
          have hml : m < ls.length := by rw [← HLN.out]; exact hlt2
          obtain ⟨g, hg, _, hgl, hce⟩ := HCL.out (by omega)
          subst hg
          have HCV : Hid (∀ V, Below wA.heap.size wA V → ∀ k (h : k < ls.length), V.cell? ⟨g, k, none⟩ = some (.string ls[k])) := fun V hV k h => (hV.cell (p := ⟨g, k, none⟩) hgl).trans (hce k _ (textsR_get h))
          obtain ⟨X, hX⟩ : ∃ X, X = ls[m] := ⟨_, rfl⟩
          have cm := HCV.out _ HQ.out m hml
          rw [← hX] at cm
          have HX : Hid (∀ h : m < ls.length, X = ls[m]) := fun _ => hX
          have HNN : Hid (nameS X = true ∧ X.size ≤ maxLen) := by rw [hX]; exact HNM.out m hml
          have HNX := hid (codecName_any X wq HNN.out.2)
          rw [HNN.out.1] at HNX
          have HML := hid hml
          clear hce hgl hX hml
          go_wp2_with fail
          refine HNX.out.mono ?_
          rintro e w' ⟨rfl, rfl⟩
          go_wp2
          clear cm
          go_loopw [14] (fun x wr => ∃ (k : Nat), k ≤ m ∧ x = .int .i64 k ∧ Hid (Below wA.heap.size wA wr)) (fun x _ => m - (intOf x).toNat)
          case atStart => exact ⟨0, by omega, rfl, HQ.out⟩
          case round =>
            obtain ⟨k, hk, rfl, HZ⟩ := hrel
            by_cases hlt3 : k < m
            · have hlt3' : (k : Int) < (m : Int) := by omega
              have hkl : k < ls.length := by have := HML.out; omega
              obtain ⟨Y, hY⟩ : ∃ Y, Y = ls[k] := ⟨_, rfl⟩
              have ck := HCV.out _ HZ.out k hkl
              have cm := HCV.out _ HZ.out m HML.out
              rw [← hY] at ck
              rw [← HX.out HML.out] at cm
              have hne : ¬ Y = X := by rw [hY, HX.out HML.out]; exact HND.out k m hlt3 HML.out
              have hneb : (Y.toList == X.toList) = false := beq_eq_false_iff_ne.2 fun hh => hne (bytes_injR hh)
              have hkL : (k : Int) < (LN : Int) := by omega
              clear hY hkl
              go_wp2
              go_quiet (fail)
              have HZ2 : Hid (Below wA.heap.size wA (wr.drewN nq)) := below_dn HZ.out nq
              clear ck cm
              go_wp2
              go_roundw
              case rel => exact ⟨k + 1, by omega, by go_num, HZ2.out⟩
              case measure => simp [intOf]; omega
            · have hlt3' : ¬ (k : Int) < (m : Int) := by omega
              go_wp2
              go_roundw
              case rel => exact ⟨m + 1, by omega, by go_num, HZ.out⟩
              case measure => simp [intOf]; omega
        · have hlt2' : ¬ (m : Int) < (LN : Int) := by omega
          have HB := hid (HBI.out.trans (HQ.out.mono HBI.out.size))
          go_wp2
          go_ret
          exact ⟨rfl, HB.out⟩
theorem routerTokens_walk (a b n : Int) (w : World) (hT : TbR w) (_ : -9223372036854775808 ≤ a ∧ a ≤ 9223372036854775807) (_ : -9223372036854775808 ≤ b ∧ b ≤ 9223372036854775807) (_ : -9223372036854775808 ≤ n ∧ n ≤ 9223372036854775807) : Calls Tryd.prog 5 #[.int .i64 a, .int .i64 b, .int .i64 n] w fun e w' => e = .returned (.bool true) ∧ Below w.heap.size w w' := by
  by_cases h1 : 0 ≤ a ∧ a ≤ 2147483647
  · by_cases h2 : 0 ≤ b ∧ b ≤ 2147483647
    · obtain ⟨x, rfl⟩ : ∃ m : Nat, a = (m : Int) := ⟨a.toNat, by omega⟩
      obtain ⟨y, rfl⟩ : ∃ m : Nat, b = (m : Int) := ⟨b.toNat, by omega⟩
      exact tokens_good x y n w hT (by omega) (by omega)
    · exact tokens_bad3 a b n w hT h1 h2
  · by_cases h2 : 0 ≤ b ∧ b ≤ 2147483647
    · exact tokens_bad2 a b n w hT h1 h2
    · exact tokens_bad1 a b n w hT h1 h2
end Go.Proofs.YtppllbdoihfcbaaDoor
