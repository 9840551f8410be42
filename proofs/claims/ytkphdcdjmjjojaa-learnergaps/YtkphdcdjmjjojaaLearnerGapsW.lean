/-
  pannierlaw18.LearnerGaps answers true for whatever slots.
-/
import Derived.Test.YtkphdcdjmjjojaaLrJ
import Derived.Test.YtkphdcdjmjjojaaSlotOpen
namespace Go.Proofs.Ytkphdcdjmjjojaa
open Go.RowKit Go.Maps

/-- Between two rounds of the first loop. -/
def Gap1 (w : World) (p m : Nat) (wr : World) : Prop := ∃ g, LrIn w.heap.size wr p m g ∧ (∀ s ∈ g.ks, s < 3000) ∧ Below w.heap.size w wr
/-- Between two rounds of the second loop. -/
def Gap2 (w w2 : World) (p m : Nat) (ao : Option Addr) (g : Lr) (G : List Int) (k : Nat) (wr : World) : Prop := ∃ h, LrIn w.heap.size wr p m h ∧ Filled g G k h ∧ HeldInt wr ao G ∧ Below w.heap.size w wr ∧ w2.heap.size ≤ wr.heap.size
set_option maxRecDepth 1000000 in
set_option maxHeartbeats 4000000 in
theorem learnerGaps_walk (ao : Option Addr) (cap : Nat) (xs : List StM) (w : World) (hx : HeldSt w ao xs) (_ : xs.length ≤ 1759218604441) :
    Calls Try.prog 7 #[.slice ao xs.length cap] w fun e w' => e = .returned (.bool true) ∧ Below w.heap.size w w' := by
  have HX := hid hx
  obtain ⟨n, HN⟩ : ∃ n, Hid (xs.length = n) := ⟨_, hid rfl⟩
  rw [HN.out]
  have HNEW := hid (newLr w)
  clear hx
  go_enter Try.func7, Try.ntmps7
  go_wp2_with fail
  refine HNEW.out.mono ?_
  rintro e w1 ⟨p, m, rfl, hat, hb1, hp, hm⟩
  have HL1 : Hid (LrIn w.heap.size w1 p m noLr) := ⟨⟨_, _, hat⟩, hp, hm⟩
  have HB1 := hid hb1
  have HLV := hid (livesLr w1)
  clear hat hb1 hp hm HNEW
  go_wp2_with fail
  refine HLV.out.mono ?_
  rintro e w2 ⟨rfl, hb2⟩
  have HL2 := hid (HL1.out.below hb2)
  have HB2 := hid (bt' HB1.out hb2)
  clear hb2 HLV
  go_wp2
  go_loopw [4] (fun i wr => ∃ k : Nat, k ≤ n ∧ k ≤ 1000 ∧ i = .int .i64 k ∧ Hid (Gap1 w p m wr)) (fun i _ => n - (intOf i).toNat)
  case atStart => exact ⟨0, Nat.zero_le _, Nat.zero_le _, rfl, noLr, HL2.out, fun s hs => by simp [noLr] at hs, HB2.out⟩
  case round =>
    obtain ⟨k, hk, hk1, rfl, HR⟩ := hrel
    obtain ⟨g, hg, hg3, hbr⟩ := HR.out
    have HG := hid hg
    have HG3 := hid hg3
    have HBR := hid hbr
    clear hg hg3 hbr HR
    by_cases hlt : k < n ∧ k < 1000
    · have hlt' : decide ((k : Int) < (n : Int)) = true := decide_eq_true (by omega)
      have hlt2 : decide ((k : Int) < 1000) = true := decide_eq_true (by omega)
      have hkx : Hid (k < xs.length) := (HN.out ▸ hlt.1 : k < xs.length)
      have hkk : k + 1 ≤ n ∧ k + 1 ≤ 1000 := by omega
      have HOKX := hid (HX.out.okD hkx.out)
      obtain ⟨bb, off, hao, hbb, d0, d1, d2, d3, d4, d5⟩ := HX.out.cellsD hkx.out
      subst hao
      obtain ⟨X, hX⟩ : ∃ X, X = xs.getD k default := ⟨_, rfl⟩
      rw [← hX] at d0 d1 d2 d3 d4 d5 HOKX
      clear hX
      obtain ⟨sl, ⟨np, tk, ct, ep, dp⟩, ao1, cap1⟩ := X
      simp only at d0 d1 d2 d3 d4 d5
      obtain ⟨XN, HXN⟩ : ∃ m, Hid (dp.length = m) := ⟨_, hid rfl⟩
      rw [HXN.out] at d5
      have HSA : Hid (∀ V, Below w.heap.size w V → (Below w.heap.size w V ∧ V.cell? ⟨bb, off + k * 6, none⟩ = some (.int .i64 sl) ∧ V.cell? ⟨bb, off + k * 6 + 1, none⟩ = some (.bool np) ∧ V.cell? ⟨bb, off + k * 6 + 2, none⟩ = some (.string tk) ∧ V.cell? ⟨bb, off + k * 6 + 3, none⟩ = some (.string ct) ∧ V.cell? ⟨bb, off + k * 6 + 4, none⟩ = some (.int .i64 ep) ∧ V.cell? ⟨bb, off + k * 6 + 5, none⟩ = some (.slice ao1 XN cap1))) := fun V hV =>
        ⟨hV, (hV.cell (p := ⟨bb, _, none⟩) hbb).trans d0, (hV.cell (p := ⟨bb, _, none⟩) hbb).trans d1, (hV.cell (p := ⟨bb, _, none⟩) hbb).trans d2, (hV.cell (p := ⟨bb, _, none⟩) hbb).trans d3, (hV.cell (p := ⟨bb, _, none⟩) hbb).trans d4, (hV.cell (p := ⟨bb, _, none⟩) hbb).trans d5⟩
      obtain ⟨_, c0, c1, c2, c3, c4, c5⟩ := HSA.out wr HBR.out
      clear hlt d0 d1 d2 d3 d4 d5
      by_cases h3 : sl < 3000
      · have HH3 := hid h3
        have h3' : decide (sl < 3000) = true := decide_eq_true h3
        have HCH : Hid (∀ V, ScL wr V → Calls Try.prog 10 #[.pointer (some ⟨p, 0, none⟩), .int .i64 sl, .agg #[.bool np, .string tk, .string ct, .int .i64 ep, .slice ao1 XN cap1]] V fun e w' => (∃ c, e = .returned (.int .i64 c)) ∧ Hid (Gap1 w p m w') ∧ Below w.heap.size w w') := fun V hV => by
          have h1 := (HG.out.below hV.out).choose (Nat.le_trans HBR.out.size hV.out.size) sl HOKX.out.is ⟨⟨np, tk, ct, ep, dp⟩, ao1, cap1⟩ (HOKX.out.en.below (bt' HBR.out hV.out))
          simp only [EnM.val] at h1
          rw [HXN.out] at h1
          refine h1.mono ?_
          rintro e w' ⟨rfl, hl', ht', hb'⟩
          have hbf := (bt' HBR.out hV.out).trans hb'
          refine ⟨⟨_, rfl⟩, ⟨_, hl', fun s hs => ?_, hbf⟩, hbf⟩
          rcases chooseL_mem hs with h | h
          · exact HG3.out s h
          · rw [h]; exact HH3.out
        clear h3
        go_wp2
        clear c0 c1 c2 c3 c4 c5
        go_region_held3 (fun V => Below w.heap.size w V ∧ V.cell? ⟨bb, off + k * 6, none⟩ = some (.int .i64 sl) ∧ V.cell? ⟨bb, off + k * 6 + 1, none⟩ = some (.bool np) ∧ V.cell? ⟨bb, off + k * 6 + 2, none⟩ = some (.string tk) ∧ V.cell? ⟨bb, off + k * 6 + 3, none⟩ = some (.string ct) ∧ V.cell? ⟨bb, off + k * 6 + 4, none⟩ = some (.int .i64 ep) ∧ V.cell? ⟨bb, off + k * 6 + 5, none⟩ = some (.slice ao1 XN cap1))
          (first | (refine ⟨?_, ?_, ?_, ?_, ?_, ?_, ?_⟩ <;> assumption) | (refine HSA.out _ ?_; (repeat (first | assumption | exact HBR.out | apply Below.drew))))
          (first
            | (go_at_call 10; with_reducible refine (HCH.out _ (by (repeat (first | assumption | exact ScL.start _ | apply ScL.dr)))).mono ?_; rintro e w5 ⟨⟨c, rfl⟩, HG5, hb5⟩))
        all_goals
          go_wp2
          go_roundw
          case rel => exact ⟨k + 1, hkk.1, hkk.2, by go_num, HG5⟩
          case measure => simp [intOf]; omega
      · have h3' : decide (sl < 3000) = false := decide_eq_false h3
        have HGN : Hid (Gap1 w p m wr) := ⟨g, HG.out, HG3.out, HBR.out⟩
        clear h3
        go_wp2
        go_roundw
        case rel => exact ⟨k + 1, hkk.1, hkk.2, by go_num, HGN⟩
        case measure => simp [intOf]; omega
    · obtain ⟨pre, z, hat⟩ := HG.out.lr
      have HAT := hid hat
      have HZ3 : Hid (z ≤ 3000) := by
        show _ ≤ _
        rcases hat.fin.top with e | e
        · omega
        · have := HG3.out _ e
          omega
      have HMS := hid (hat.missing 4096)
      have HMM : Hid (missL g.ks pre z 4096 = gapsL g.ks pre (z - pre)) := by
        show _ = _
        unfold missL
        have := gaps_len g.ks pre (z - pre)
        have := HZ3.out
        exact List.take_of_length_le (by omega)
      rw [HMM.out] at HMS
      obtain ⟨G, hG⟩ : ∃ G, G = gapsL g.ks pre (z - pre) := ⟨_, rfl⟩
      rw [← hG] at HMS
      have HGG := hid hG
      obtain ⟨N, HGN⟩ : ∃ N, Hid (G.length = N) := ⟨_, hid rfl⟩
      have hgate : (k : Int) < (n : Int) ∧ ¬ (k : Int) < 1000 ∨ ¬ (k : Int) < (n : Int) := by
        by_cases h : k < n
        · left; exact ⟨by omega, by omega⟩
        · right; omega
      clear hat hG hlt
      have HRNG : Hid (∀ x ∈ G, (0 ≤ x ∧ x < 3000)) := fun x hx => by
        rw [HGG.out] at hx
        have := (gaps_mem.1 hx).1
        have := HZ3.out
        omega
      have HN3 : Hid (N ≤ 3000) := by
        show _ ≤ _
        have := gaps_len g.ks pre (z - pre)
        rw [← HGG.out, HGN.out] at this
        have := HZ3.out
        omega
      have HFILL : Hid (∀ h j, Filled g G j h → j < N → h.f (G.getD j 0) = none ∧ chooseC h (G.getD j 0) noopEn = 0 ∧ Filled g G (j + 1) (chooseL h (G.getD j 0) noopEn) ∧ 0 ≤ G.getD j 0 ∧ G.getD j 0 < 3000) := fun h j hf hj => by
        rw [HGG.out] at hf ⊢
        exact hf.next HZ3.out HG3.out (by rw [← HGG.out, HGN.out]; exact hj)
      have HRISE : Hid (Rises G) := by rw [HGG.out]; exact gaps_rises _ _ _
      have HEND : Hid (∀ h, Filled g G N h → h.ks = upto 0 z) := fun h hf => by
        rw [← HGN.out, HGG.out] at hf
        exact hf.all HAT.out.all HAT.out.toLrMid.pre_end HAT.out.fin (fun s hs => (HAT.out.ok.slot s hs).1)
      have HWP : Hid (∀ i, FootR p m i → i < wr.heap.size) := HAT.out.toLrMid.lt
      clear hk hk1
      rcases hgate with ⟨hga, hgb⟩ | hga
      · go_wp2_with fail
        refine HMS.out.mono ?_
        rintro e w4 ⟨mo, mcap, rfl, hmv, hmb, hb4⟩
        have HMV := hid hmv
        have HMB : Hid (∀ b off, mo = some ⟨b, off, none⟩ → G ≠ [] → ¬ FootR p m b) := fun b off e _ hf => by have h1 := hmb b off e; have := HWP.out b hf; omega
        have HB4 := hid (bt' HBR.out hb4)
        have HG4 := hid (HG.out.below hb4)
        rw [HGN.out]
        clear hmv hmb hb4
        go_wp2
        go_loopw [6] (fun i wq => ∃ j : Nat, j ≤ N ∧ i = .int .i64 j ∧ Hid (Gap2 w w4 p m mo g G j wq)) (fun i _ => N - (intOf i).toNat)
        case atStart => exact ⟨0, Nat.zero_le _, rfl, g, HG4.out, Filled.start HAT.out.ok G, HMV.out.held, HB4.out, Nat.le_refl _⟩
        case round =>
          obtain ⟨j, hj, rfl, HR2⟩ := hrel
          obtain ⟨h, hh, hfl, hmh, hbq, hsq⟩ := HR2.out
          have HH := hid hh
          have HFL := hid hfl
          have HMH := hid hmh
          have HBQ := hid hbq
          have HSQ := hid hsq
          clear hh hfl hmh hbq hsq HR2
          by_cases hjn : j < N
          · have hjn' : decide ((j : Int) < (N : Int)) = true := decide_eq_true (by omega)
            obtain ⟨hf0, hc0, hnx, hg0, hg3⟩ := HFILL.out h j HFL.out hjn
            have HC0 := hid hc0
            have HNX := hid hnx
            have HJN := hid hjn
            obtain ⟨pre2, z2, hat2⟩ := HH.out.lr
            have HGET := hid (hat2.get (G.getD j 0) (by unfold I64; omega))
            rw [hf0] at HGET
            have hjG : Hid (j < G.length) := by rw [HGN.out]; exact hjn
            obtain ⟨mb, mof, hmo, hcs⟩ := HMH.out.cellAt hjG.out
            subst hmo
            have e1 := hcs j hjG.out
            have HRD : Hid (∀ V, Turns (FootR p m) wr V → HeldInt V (some ⟨mb, mof, none⟩) G) := fun V hV => HMH.out.turned hV HMB.out
            have HNN : Hid (∀ V, ScL wr V → Calls Try.prog 22 #[] V fun e w' => e = .returned (.agg #[.bool true, .string ⟨#[]⟩, .string ⟨#[]⟩, .int .i64 0, .slice none 0 0]) ∧ ScL wr w') := fun V hV => (noopR V).mono (fun e w' (hh : _ ∧ _) => And.intro hh.1 (hV.go hh.2))
            have HCH : Hid (∀ V, ScL wr V → Calls Try.prog 10 #[.pointer (some ⟨p, 0, none⟩), .int .i64 (G.getD j 0), .agg #[.bool true, .string ⟨#[]⟩, .string ⟨#[]⟩, .int .i64 0, .slice none 0 0]] V fun e w' => e = .returned (.int .i64 0) ∧ Hid (Gap2 w w4 p m (some ⟨mb, mof, none⟩) g G (j + 1) w') ∧ Turns (FootR p m) wr w') := fun V hV => by
              have h1 := (HH.out.below hV.out).choose (Nat.le_trans HBQ.out.size hV.out.size) (G.getD j 0) (by unfold I64; omega) ⟨noopEn, none, 0⟩ (enOk_noop V)
              refine h1.mono ?_
              rintro e w' ⟨rfl, hl', ht', hb'⟩
              have ht2 : Turns (FootR p m) wr w' := (Turns.of_below (F := FootR p m) hV.out (Nat.le_refl _)).trans ht' (fun i hi => .inl hi)
              exact ⟨by rw [HC0.out], ⟨_, hl', HNX.out, HRD.out _ ht2, (bt' HBQ.out hV.out).trans hb', Nat.le_trans HSQ.out ht2.size⟩, ht2⟩
            have HTS : Hid (∀ U, ScL wr U → Turns (FootR p m) wr U) := fun U hU => Turns.of_below hU.out (Nat.le_refl _)
            have HCEL : Hid (∀ V, Turns (FootR p m) wr V → ∀ i, i < N → V.cell? ⟨mb, mof + i, none⟩ = some (.int .i64 (G.getD i 0))) := fun V hV i hi => by
              obtain ⟨mb', mof', e, hc⟩ := (HRD.out V hV).cellAt hjG.out
              cases e
              exact hc i (by rw [HGN.out]; exact hi)
            clear hcs hf0 hc0 hnx hat2
            go_wp2_with fail
            refine HGET.out.mono ?_
            rintro e w5 ⟨bo, cp, rfl, _, hb5⟩
            have HS5 : Hid (ScL wr w5) := ⟨hb5⟩
            simp only [Option.getD_none, Option.isSome_none, EnM.val, noopEn, List.length_nil]
            clear hb5 HGET
            obtain ⟨W6, hW6⟩ : ∃ V, V = w5.alloc (.cells #[.bool true, .string ⟨#[]⟩, .string ⟨#[]⟩, .int .i64 0, .slice bo 0 cp] 33) := ⟨_, rfl⟩
            have HS6 : Hid (ScL wr W6) := by rw [hW6]; exact HS5.out.alloc _
            have HW6 := hid hW6
            clear hW6 e1
            obtain ⟨y, HY⟩ : ∃ y, Hid (G.getD j 0 = y) := ⟨_, hid rfl⟩
            have HSA : Hid (∀ V, Turns (FootR p m) wr V → (Turns (FootR p m) wr V ∧ V.cell? ⟨mb, mof + j, none⟩ = some (.int .i64 y))) := fun V hV => ⟨hV, by rw [← HY.out]; exact HCEL.out V hV j HJN.out⟩
            rw [HY.out] at HCH
            have hj3 : j < 3000 := by have := HN3.out; omega
            rcases Nat.eq_zero_or_pos j with hj0 | hj0
            · have hj1 : decide (0 < j) = false := decide_eq_false (by omega)
              clear hj0
              go_wp2
              rw [← HW6.out]
              go_quiet (fail)
              all_goals
                go_wp2
                have HS7 : Hid (∀ q, ScL wr (W6.drewN q)) := fun q => ⟨below_dn HS6.out.out q⟩
                have HT0 : Hid (∀ q, Turns (FootR p m) wr (W6.drewN q)) := fun q => HTS.out _ (HS7.out q)
                go_region_held3 (fun V => Turns (FootR p m) wr V ∧ V.cell? ⟨mb, mof + j, none⟩ = some (.int .i64 y))
                  (first | (refine ⟨?_, ?_⟩ <;> assumption) | (refine HSA.out _ ?_; (repeat (first | assumption | exact HT0.out _ | apply Turns.drew))))
                  (first
                    | (go_at_call 22; with_reducible refine (HNN.out _ (by (repeat (first | assumption | exact HS7.out _ | apply ScL.dr)))).mono ?_; rintro e w8 ⟨rfl, hs8⟩; have hT8 := HTS.out _ hs8)
                    | (go_at_call 10; with_reducible refine (HCH.out _ (by (repeat (first | assumption | exact HS7.out _ | apply ScL.dr)))).mono ?_; rintro e w9 ⟨rfl, HG9, hT9⟩))
                all_goals
                  go_wp2
                  go_roundw
                  case rel => exact ⟨j + 1, HJN.out, by go_num, HG9⟩
                  case measure => have := HJN.out; simp [intOf]; omega
            · have hj1 : decide (0 < j) = true := decide_eq_true (by omega)
              obtain ⟨i, hi⟩ : ∃ i, i = j - 1 := ⟨_, rfl⟩
              have hji : (j : Int) - 1 = (i : Int) := by omega
              have hwr : IntKind.i64.wrap ((j : Int) - 1) = (i : Int) := by rw [hji]; exact wrapIL (by omega) (by omega)
              have f1 := HCEL.out W6 (HTS.out _ HS6.out) j HJN.out
              have f0 := HCEL.out W6 (HTS.out _ HS6.out) i (by omega)
              have hdec : decide (G.getD j 0 ≤ G.getD i 0) = false := decide_eq_false (by
                have h1 : i < G.length := by rw [HGN.out]; omega
                have := List.pairwise_iff_getElem.1 HRISE.out i j h1 hjG.out (by omega)
                rw [show G.getD j 0 = G[j]'hjG.out by simp [List.getD, List.getElem?_eq_getElem hjG.out], show G.getD i 0 = G[i] by simp [List.getD, List.getElem?_eq_getElem h1]]
                omega)
              have hiN : i < N := by omega
              obtain ⟨y0, HY0⟩ : ∃ y, Hid (G.getD i 0 = y) := ⟨_, hid rfl⟩
              rw [HY.out] at f1 hdec
              rw [HY0.out] at f0 hdec
              clear hj0 hji hi
              go_wp2
              rw [← HW6.out]
              go_quiet (fail)
              all_goals
                go_wp2
                have HS7 : Hid (∀ q, ScL wr (W6.drewN q)) := fun q => ⟨below_dn HS6.out.out q⟩
                have HT0 : Hid (∀ q, Turns (FootR p m) wr (W6.drewN q)) := fun q => HTS.out _ (HS7.out q)
                go_region_held3 (fun V => Turns (FootR p m) wr V ∧ V.cell? ⟨mb, mof + j, none⟩ = some (.int .i64 y))
                  (first | (refine ⟨?_, ?_⟩ <;> assumption) | (refine HSA.out _ ?_; (repeat (first | assumption | exact HT0.out _ | apply Turns.drew))))
                  (first
                    | (go_at_call 22; with_reducible refine (HNN.out _ (by (repeat (first | assumption | exact HS7.out _ | apply ScL.dr)))).mono ?_; rintro e w8 ⟨rfl, hs8⟩; have hT8 := HTS.out _ hs8)
                    | (go_at_call 10; with_reducible refine (HCH.out _ (by (repeat (first | assumption | exact HS7.out _ | apply ScL.dr)))).mono ?_; rintro e w9 ⟨rfl, HG9, hT9⟩))
                all_goals
                  go_wp2
                  go_roundw
                  case rel => exact ⟨j + 1, HJN.out, by go_num, HG9⟩
                  case measure => have := HJN.out; simp [intOf]; omega
          · obtain rfl : j = N := by omega
            have hjn' : ¬ (j : Int) < (j : Int) := by omega
            have hks := HEND.out h HFL.out
            obtain ⟨pre2, z2, hat2⟩ := HH.out.lr
            have hp2 : pre2 = z := hat2.pre_eq (by rw [hks]; exact pre_upto z)
            have hz2 : z2 = z := hat2.end_eq (by rw [hks]; exact end_upto z)
            subst hp2 hz2
            have HPR := hid hat2.toLrMid.prefix
            have HLE := hid hat2.toLrMid.len
            have HEX := hid hat2.extras
            have HMI : Hid (∀ V, Below wr.heap.size wr V → Calls Try.prog 20 #[.pointer (some ⟨p, 0, none⟩), .int .i64 1] V (RowP V [])) := fun V hV => by
              have h1 := (hat2.below hV).missing 1
              rw [miss_upto] at h1
              exact h1
            rw [hks, upto_len] at HLE
            rw [hks, extra_upto] at HEX
            clear hks hat2 hjn
            go_wp2_with fail
            refine HPR.out.mono ?_
            rintro e w5 ⟨rfl, rfl⟩
            go_wp2_with fail
            refine HLE.out.mono ?_
            rintro e w5 ⟨rfl, rfl⟩
            go_wp2_with fail
            refine HEX.out.mono ?_
            rintro e w6 ⟨eo, ecap, rfl, _, _, hb6⟩
            have HB6 := hid (bt' HBQ.out hb6)
            have HMI6 := hid (HMI.out w6 hb6)
            clear hb6
            simp only [List.length_nil]
            go_wp2_with fail
            refine HMI6.out.mono ?_
            rintro e w7 ⟨eo7, ecap7, rfl, _, _, hb7⟩
            have HB7 := hid (bt' HB6.out hb7)
            clear hb7
            simp only [List.length_nil]
            go_wp2
            go_ret
            exact ⟨rfl, HB7.out⟩
      · go_wp2_with fail
        refine HMS.out.mono ?_
        rintro e w4 ⟨mo, mcap, rfl, hmv, hmb, hb4⟩
        have HMV := hid hmv
        have HMB : Hid (∀ b off, mo = some ⟨b, off, none⟩ → G ≠ [] → ¬ FootR p m b) := fun b off e _ hf => by have h1 := hmb b off e; have := HWP.out b hf; omega
        have HB4 := hid (bt' HBR.out hb4)
        have HG4 := hid (HG.out.below hb4)
        rw [HGN.out]
        clear hmv hmb hb4
        go_wp2
        go_loopw [6] (fun i wq => ∃ j : Nat, j ≤ N ∧ i = .int .i64 j ∧ Hid (Gap2 w w4 p m mo g G j wq)) (fun i _ => N - (intOf i).toNat)
        case atStart => exact ⟨0, Nat.zero_le _, rfl, g, HG4.out, Filled.start HAT.out.ok G, HMV.out.held, HB4.out, Nat.le_refl _⟩
        case round =>
          obtain ⟨j, hj, rfl, HR2⟩ := hrel
          obtain ⟨h, hh, hfl, hmh, hbq, hsq⟩ := HR2.out
          have HH := hid hh
          have HFL := hid hfl
          have HMH := hid hmh
          have HBQ := hid hbq
          have HSQ := hid hsq
          clear hh hfl hmh hbq hsq HR2
          by_cases hjn : j < N
          · have hjn' : decide ((j : Int) < (N : Int)) = true := decide_eq_true (by omega)
            obtain ⟨hf0, hc0, hnx, hg0, hg3⟩ := HFILL.out h j HFL.out hjn
            have HC0 := hid hc0
            have HNX := hid hnx
            have HJN := hid hjn
            obtain ⟨pre2, z2, hat2⟩ := HH.out.lr
            have HGET := hid (hat2.get (G.getD j 0) (by unfold I64; omega))
            rw [hf0] at HGET
            have hjG : Hid (j < G.length) := by rw [HGN.out]; exact hjn
            obtain ⟨mb, mof, hmo, hcs⟩ := HMH.out.cellAt hjG.out
            subst hmo
            have e1 := hcs j hjG.out
            have HRD : Hid (∀ V, Turns (FootR p m) wr V → HeldInt V (some ⟨mb, mof, none⟩) G) := fun V hV => HMH.out.turned hV HMB.out
            have HNN : Hid (∀ V, ScL wr V → Calls Try.prog 22 #[] V fun e w' => e = .returned (.agg #[.bool true, .string ⟨#[]⟩, .string ⟨#[]⟩, .int .i64 0, .slice none 0 0]) ∧ ScL wr w') := fun V hV => (noopR V).mono (fun e w' (hh : _ ∧ _) => And.intro hh.1 (hV.go hh.2))
            have HCH : Hid (∀ V, ScL wr V → Calls Try.prog 10 #[.pointer (some ⟨p, 0, none⟩), .int .i64 (G.getD j 0), .agg #[.bool true, .string ⟨#[]⟩, .string ⟨#[]⟩, .int .i64 0, .slice none 0 0]] V fun e w' => e = .returned (.int .i64 0) ∧ Hid (Gap2 w w4 p m (some ⟨mb, mof, none⟩) g G (j + 1) w') ∧ Turns (FootR p m) wr w') := fun V hV => by
              have h1 := (HH.out.below hV.out).choose (Nat.le_trans HBQ.out.size hV.out.size) (G.getD j 0) (by unfold I64; omega) ⟨noopEn, none, 0⟩ (enOk_noop V)
              refine h1.mono ?_
              rintro e w' ⟨rfl, hl', ht', hb'⟩
              have ht2 : Turns (FootR p m) wr w' := (Turns.of_below (F := FootR p m) hV.out (Nat.le_refl _)).trans ht' (fun i hi => .inl hi)
              exact ⟨by rw [HC0.out], ⟨_, hl', HNX.out, HRD.out _ ht2, (bt' HBQ.out hV.out).trans hb', Nat.le_trans HSQ.out ht2.size⟩, ht2⟩
            have HTS : Hid (∀ U, ScL wr U → Turns (FootR p m) wr U) := fun U hU => Turns.of_below hU.out (Nat.le_refl _)
            have HCEL : Hid (∀ V, Turns (FootR p m) wr V → ∀ i, i < N → V.cell? ⟨mb, mof + i, none⟩ = some (.int .i64 (G.getD i 0))) := fun V hV i hi => by
              obtain ⟨mb', mof', e, hc⟩ := (HRD.out V hV).cellAt hjG.out
              cases e
              exact hc i (by rw [HGN.out]; exact hi)
            clear hcs hf0 hc0 hnx hat2
            go_wp2_with fail
            refine HGET.out.mono ?_
            rintro e w5 ⟨bo, cp, rfl, _, hb5⟩
            have HS5 : Hid (ScL wr w5) := ⟨hb5⟩
            simp only [Option.getD_none, Option.isSome_none, EnM.val, noopEn, List.length_nil]
            clear hb5 HGET
            obtain ⟨W6, hW6⟩ : ∃ V, V = w5.alloc (.cells #[.bool true, .string ⟨#[]⟩, .string ⟨#[]⟩, .int .i64 0, .slice bo 0 cp] 33) := ⟨_, rfl⟩
            have HS6 : Hid (ScL wr W6) := by rw [hW6]; exact HS5.out.alloc _
            have HW6 := hid hW6
            clear hW6 e1
            obtain ⟨y, HY⟩ : ∃ y, Hid (G.getD j 0 = y) := ⟨_, hid rfl⟩
            have HSA : Hid (∀ V, Turns (FootR p m) wr V → (Turns (FootR p m) wr V ∧ V.cell? ⟨mb, mof + j, none⟩ = some (.int .i64 y))) := fun V hV => ⟨hV, by rw [← HY.out]; exact HCEL.out V hV j HJN.out⟩
            rw [HY.out] at HCH
            have hj3 : j < 3000 := by have := HN3.out; omega
            rcases Nat.eq_zero_or_pos j with hj0 | hj0
            · have hj1 : decide (0 < j) = false := decide_eq_false (by omega)
              clear hj0
              go_wp2
              rw [← HW6.out]
              go_quiet (fail)
              all_goals
                go_wp2
                have HS7 : Hid (∀ q, ScL wr (W6.drewN q)) := fun q => ⟨below_dn HS6.out.out q⟩
                have HT0 : Hid (∀ q, Turns (FootR p m) wr (W6.drewN q)) := fun q => HTS.out _ (HS7.out q)
                go_region_held3 (fun V => Turns (FootR p m) wr V ∧ V.cell? ⟨mb, mof + j, none⟩ = some (.int .i64 y))
                  (first | (refine ⟨?_, ?_⟩ <;> assumption) | (refine HSA.out _ ?_; (repeat (first | assumption | exact HT0.out _ | apply Turns.drew))))
                  (first
                    | (go_at_call 22; with_reducible refine (HNN.out _ (by (repeat (first | assumption | exact HS7.out _ | apply ScL.dr)))).mono ?_; rintro e w8 ⟨rfl, hs8⟩; have hT8 := HTS.out _ hs8)
                    | (go_at_call 10; with_reducible refine (HCH.out _ (by (repeat (first | assumption | exact HS7.out _ | apply ScL.dr)))).mono ?_; rintro e w9 ⟨rfl, HG9, hT9⟩))
                all_goals
                  go_wp2
                  go_roundw
                  case rel => exact ⟨j + 1, HJN.out, by go_num, HG9⟩
                  case measure => have := HJN.out; simp [intOf]; omega
            · have hj1 : decide (0 < j) = true := decide_eq_true (by omega)
              obtain ⟨i, hi⟩ : ∃ i, i = j - 1 := ⟨_, rfl⟩
              have hji : (j : Int) - 1 = (i : Int) := by omega
              have hwr : IntKind.i64.wrap ((j : Int) - 1) = (i : Int) := by rw [hji]; exact wrapIL (by omega) (by omega)
              have f1 := HCEL.out W6 (HTS.out _ HS6.out) j HJN.out
              have f0 := HCEL.out W6 (HTS.out _ HS6.out) i (by omega)
              have hdec : decide (G.getD j 0 ≤ G.getD i 0) = false := decide_eq_false (by
                have h1 : i < G.length := by rw [HGN.out]; omega
                have := List.pairwise_iff_getElem.1 HRISE.out i j h1 hjG.out (by omega)
                rw [show G.getD j 0 = G[j]'hjG.out by simp [List.getD, List.getElem?_eq_getElem hjG.out], show G.getD i 0 = G[i] by simp [List.getD, List.getElem?_eq_getElem h1]]
                omega)
              have hiN : i < N := by omega
              obtain ⟨y0, HY0⟩ : ∃ y, Hid (G.getD i 0 = y) := ⟨_, hid rfl⟩
              rw [HY.out] at f1 hdec
              rw [HY0.out] at f0 hdec
              clear hj0 hji hi
              go_wp2
              rw [← HW6.out]
              go_quiet (fail)
              all_goals
                go_wp2
                have HS7 : Hid (∀ q, ScL wr (W6.drewN q)) := fun q => ⟨below_dn HS6.out.out q⟩
                have HT0 : Hid (∀ q, Turns (FootR p m) wr (W6.drewN q)) := fun q => HTS.out _ (HS7.out q)
                go_region_held3 (fun V => Turns (FootR p m) wr V ∧ V.cell? ⟨mb, mof + j, none⟩ = some (.int .i64 y))
                  (first | (refine ⟨?_, ?_⟩ <;> assumption) | (refine HSA.out _ ?_; (repeat (first | assumption | exact HT0.out _ | apply Turns.drew))))
                  (first
                    | (go_at_call 22; with_reducible refine (HNN.out _ (by (repeat (first | assumption | exact HS7.out _ | apply ScL.dr)))).mono ?_; rintro e w8 ⟨rfl, hs8⟩; have hT8 := HTS.out _ hs8)
                    | (go_at_call 10; with_reducible refine (HCH.out _ (by (repeat (first | assumption | exact HS7.out _ | apply ScL.dr)))).mono ?_; rintro e w9 ⟨rfl, HG9, hT9⟩))
                all_goals
                  go_wp2
                  go_roundw
                  case rel => exact ⟨j + 1, HJN.out, by go_num, HG9⟩
                  case measure => have := HJN.out; simp [intOf]; omega
          · obtain rfl : j = N := by omega
            have hjn' : ¬ (j : Int) < (j : Int) := by omega
            have hks := HEND.out h HFL.out
            obtain ⟨pre2, z2, hat2⟩ := HH.out.lr
            have hp2 : pre2 = z := hat2.pre_eq (by rw [hks]; exact pre_upto z)
            have hz2 : z2 = z := hat2.end_eq (by rw [hks]; exact end_upto z)
            subst hp2 hz2
            have HPR := hid hat2.toLrMid.prefix
            have HLE := hid hat2.toLrMid.len
            have HEX := hid hat2.extras
            have HMI : Hid (∀ V, Below wr.heap.size wr V → Calls Try.prog 20 #[.pointer (some ⟨p, 0, none⟩), .int .i64 1] V (RowP V [])) := fun V hV => by
              have h1 := (hat2.below hV).missing 1
              rw [miss_upto] at h1
              exact h1
            rw [hks, upto_len] at HLE
            rw [hks, extra_upto] at HEX
            clear hks hat2 hjn
            go_wp2_with fail
            refine HPR.out.mono ?_
            rintro e w5 ⟨rfl, rfl⟩
            go_wp2_with fail
            refine HLE.out.mono ?_
            rintro e w5 ⟨rfl, rfl⟩
            go_wp2_with fail
            refine HEX.out.mono ?_
            rintro e w6 ⟨eo, ecap, rfl, _, _, hb6⟩
            have HB6 := hid (bt' HBQ.out hb6)
            have HMI6 := hid (HMI.out w6 hb6)
            clear hb6
            simp only [List.length_nil]
            go_wp2_with fail
            refine HMI6.out.mono ?_
            rintro e w7 ⟨eo7, ecap7, rfl, _, _, hb7⟩
            have HB7 := hid (bt' HB6.out hb7)
            clear hb7
            simp only [List.length_nil]
            go_wp2
            go_ret
            exact ⟨rfl, HB7.out⟩
end Go.Proofs.Ytkphdcdjmjjojaa
