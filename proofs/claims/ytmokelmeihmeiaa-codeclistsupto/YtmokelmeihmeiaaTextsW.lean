/-
  The law CodecTexts: for every string, all bytes behind it and every most the Go text answers true, and writes nothing that was there; its condition: string and bytes are at most 1048576 long each.
-/
import Derived.Test.YtmokelmeihmeiaaReadsW
import Derived.Deep.RegionHeld3
namespace Go.Proofs.Ytmokelmeihmeiaa
open Go.RowKit
attribute [local go_sem ↓] Go.wp_at_zero Go.wp_at_succ

theorem strOf_nums (s : ByteArray) : strOfNums (strNums s) = s := by
  apply ByteArray.ext
  apply Array.toList_inj.1
  rw [strOfNums_data]
  unfold strNums
  rw [List.map_map]
  conv => rhs; rw [← List.map_id s.data.toList]
  apply List.map_congr_left
  intro c _
  simp

theorem rdText_enc (s : ByteArray) (behind : List Int) (most : Int) (hs : s.size < 18446744073709551616) :
    rdText (encText s ++ behind) most = if most < s.size then (ByteArray.empty, 0, 10) else (s, (encText s).length, 0) := by
  have hd : dec 0 0 (encText s ++ behind) = (s.size, (enc s.size).length, 0) := by
    unfold encText
    rw [List.append_assoc]
    exact dec_enc hs _
  by_cases hm : most < s.size
  · rw [if_pos hm]
    have hc : cntOf (encText s ++ behind) most = (0, 0, 10) := by
      unfold cntOf
      rw [hd, if_neg (by simp only; omega)]
    simp [rdText, hc]
  · rw [if_neg hm]
    have hc : cntOf (encText s ++ behind) most = (s.size, (enc s.size).length, 0) := by
      unfold cntOf
      rw [hd, if_pos ⟨rfl, by omega, by simp only; omega⟩]
    have hl := encText_len s
    unfold rdText
    rw [hc, if_pos ⟨rfl, by simp only [List.length_append]; omega⟩]
    simp only
    rw [← hl, List.take_left]
    unfold encText
    rw [List.drop_left, strOf_nums]

theorem refText_held (s : ByteArray) (w : World) (hm : s.size ≤ 140737488355000) :
    Calls Try.prog 16 #[.string s] w fun e w' => ∃ bo cp, e = .returned (.slice bo (encText s).length cp) ∧ Held w' bo (encText s).length cp (encText s) ∧ Below w.heap.size w w' := by
  refine (refText_any s w hm).mono ?_
  rintro e w' ⟨v, rfl, hown, hb⟩
  obtain ⟨bo, cp, rfl, hh⟩ := held_of_own hown (encText_byte s)
  exact ⟨bo, cp, rfl, hh, hb⟩

set_option maxRecDepth 100000 in
set_option maxHeartbeats 1000000 in
theorem texts_walk (s : ByteArray) (a1 : Option Addr) (len1 cap1 : Nat) (behind : List Int) (most : Int) (w : World) (hs : s.size ≤ 1048576)
    (h1 : Held w a1 len1 cap1 behind) (hl1 : len1 ≤ 1048576) (hm : -9223372036854775808 ≤ most ∧ most ≤ 9223372036854775807) :
    Calls Try.prog 5 #[.string s, .slice a1 len1 cap1, .int .i64 most] w fun e w' => e = .returned (.bool true) ∧ Below w.heap.size w w' := by
  obtain ⟨i0, hi, hz0, hz1, hz2⟩ := info_parts Try.info5
  obtain ⟨hm0, hm1⟩ := hm
  have HH1 := hid h1
  have h10 := enc_le10 (x := s.size) (by omega)
  obtain ⟨L, HL⟩ : ∃ L, Hid ((encText s).length = L) := ⟨_, rfl⟩
  have hL : L ≤ 1048586 := by have := encText_len s; have := HL.out; omega
  have hrt := rdText_enc s behind most (by omega)
  rw [HL.out] at hrt
  have HRT := hid hrt
  obtain ⟨T, HT⟩ : ∃ T, Hid (strOfNums (encText s) = T) := ⟨_, rfl⟩
  clear h1 hrt
  go_enter Try.func5, Try.ntmps5
  go_wp2_with fail
  refine (show Calls _ _ _ w (fun e w' => ∃ bo cp, e = .returned (.slice bo L cp) ∧ Held w' bo L cp (encText s) ∧ Below w.heap.size w w') from by have := text_nil s w (by omega); rwa [HL.out] at this).mono ?_
  rintro e w1 ⟨o1, c1, rfl, hh1, hb1⟩
  have HO1 := hid hh1
  have HB1 := hid hb1
  have s1 : w.heap.size ≤ w1.heap.size := hb1.size
  clear hh1 hb1
  have hba : Below w1.heap.size w1 (w1.alloc (.cells #[] 5)) := (Below.refl _ w1).alloc (Nat.le_refl _) _
  go_wp2_with (at_builtin; refine wpList_append_held _ rfl _ _ 23 rfl w1.heap.size 5 i0 Try.underlying23 hi hz0 hz1 hz2 _ 0 [] rfl (own_made w1 _ (Nat.le_refl _)) (by intro c hc; cases hc) o1 L c1 (encText s) rfl (HO1.out.below hba (Nat.le_refl _)) (by omega) (by simp) ?_)
  intro o2 c2 w2 hown2 hheld2 hb2 _
  have HO2 : Hid (w2.ownsRow w1.heap.size 5 1 (.slice o2 L c2) L (nums (encText s))) := hid (by simpa using hown2)
  have HB2 : Hid (Below w1.heap.size w1 w2) := hba.trans hb2
  have s2 : w1.heap.size ≤ w2.heap.size := HB2.out.size
  clear hown2 hheld2 hb2 hba
  have hbw2 : Below w.heap.size w w2 := HB1.out.trans (HB2.out.mono s1)
  go_wp2_with (at_builtin; refine wpList_append_held _ rfl _ _ 23 rfl w1.heap.size 5 i0 Try.underlying23 hi hz0 hz1 hz2 _ L (encText s) rfl HO2.out (encText_byte s) a1 len1 cap1 behind rfl (HH1.out.below hbw2 (Nat.le_refl _)) (by omega) (by omega) ?_)
  intro o3 c3 w3 hown3 hheld3 hb3 _
  have HO3 : Hid (Held w3 o3 (L + len1) c3 (encText s ++ behind)) := hheld3
  have HB13 : Hid (Below w1.heap.size w1 w3) := HB2.out.trans hb3
  have s3 : w2.heap.size ≤ w3.heap.size := hb3.size
  clear hown3 hheld3 hb3 hbw2
  have HBw3 : Hid (Below w.heap.size w w3) := HB1.out.trans (HB13.out.mono s1)
  by_cases hms : most < (s.size : Int)
  · have hrd := readText_any o3 (L + len1) c3 (encText s ++ behind) most w3 HO3.out hm0 hm1
    rw [HRT.out, if_pos hms] at hrd
    have HRD := hid hrd
    clear hrd HRT
    go_wp2_with fail
    refine HRD.out.mono ?_
    rintro e w3 ⟨rfl, rfl⟩
    go_wp2
    have hcv3 := run_convert_held (P := Try.prog) (HO1.out.below HB13.out.drew (Nat.le_refl _)) 23 5 9 Try.underlying23 Try.underlying5 Try.underlying9
    rw [HT.out] at hcv3
    refine wp_region_noPanic ?_
    go_region_held (fun w' => Sem.run Try.prog (convert 23 9 (Value.slice o1 L c1)) w' = Result.ok (Value.string T) w') (first | exact hcv3 | exact hcv4 | exact hcv5) (first | (go_at_call 10; refine (lives_any _).mono ?_; rintro e w4 ⟨rfl, hb4⟩; have hcv4 := run_convert_held (P := Try.prog) (HO1.out.below (HB13.out.drew.trans (hb4.mono HB13.out.size)) (Nat.le_refl _)) 23 5 9 Try.underlying23 Try.underlying5 Try.underlying9; rw [HT.out] at hcv4) | (go_at_call 16; refine (refText_held s _ (by omega)).mono ?_; rintro e w5 ⟨o5, c5, rfl, hh5, hb5⟩; have hcvr := run_convert_held (P := Try.prog) hh5 23 5 9 Try.underlying23 Try.underlying5 Try.underlying9; rw [HT.out] at hcvr; have hcv5 := run_convert_held (P := Try.prog) (HO1.out.below (HB13.out.drew.trans ((hb4.mono HB13.out.size).trans (hb5.mono (Nat.le_trans HB13.out.size hb4.size)))) (Nat.le_refl _)) 23 5 9 Try.underlying23 Try.underlying5 Try.underlying9; rw [HT.out] at hcv5) | (go_at_call 17; refine (codecName_any s _ (by unfold maxLen; omega)).mono ?_; rintro e w6 ⟨rfl, rfl⟩) | (go_at_call 18; refine (refName_any s _ (by unfold maxLen; omega)).mono ?_; rintro e w7 ⟨rfl, rfl⟩))
    all_goals
      refine NoPanic.normal ?_
      go_wp2
      go_ret
      exact ⟨ret_bool (by first | rfl | simp), HBw3.out.drew.trans ((hb4.mono HBw3.out.size).trans (hb5.mono (Nat.le_trans HBw3.out.size hb4.size)))⟩
  · have hms' : (s.size : Int) ≤ most := by omega
    have hrd := readText_any o3 (L + len1) c3 (encText s ++ behind) most w3 HO3.out hm0 hm1
    rw [HRT.out, if_neg hms] at hrd
    have HRD := hid hrd
    clear hrd HRT
    go_wp2_with fail
    refine HRD.out.mono ?_
    rintro e w3 ⟨rfl, rfl⟩
    go_wp2
    have hcv3 := run_convert_held (P := Try.prog) (HO1.out.below HB13.out.drew (Nat.le_refl _)) 23 5 9 Try.underlying23 Try.underlying5 Try.underlying9
    rw [HT.out] at hcv3
    refine wp_region_noPanic ?_
    go_region_held (fun w' => Sem.run Try.prog (convert 23 9 (Value.slice o1 L c1)) w' = Result.ok (Value.string T) w') (first | exact hcv3 | exact hcv4 | exact hcv5) (first | (go_at_call 10; refine (lives_any _).mono ?_; rintro e w4 ⟨rfl, hb4⟩; have hcv4 := run_convert_held (P := Try.prog) (HO1.out.below (HB13.out.drew.trans (hb4.mono HB13.out.size)) (Nat.le_refl _)) 23 5 9 Try.underlying23 Try.underlying5 Try.underlying9; rw [HT.out] at hcv4) | (go_at_call 16; refine (refText_held s _ (by omega)).mono ?_; rintro e w5 ⟨o5, c5, rfl, hh5, hb5⟩; have hcvr := run_convert_held (P := Try.prog) hh5 23 5 9 Try.underlying23 Try.underlying5 Try.underlying9; rw [HT.out] at hcvr; have hcv5 := run_convert_held (P := Try.prog) (HO1.out.below (HB13.out.drew.trans ((hb4.mono HB13.out.size).trans (hb5.mono (Nat.le_trans HB13.out.size hb4.size)))) (Nat.le_refl _)) 23 5 9 Try.underlying23 Try.underlying5 Try.underlying9; rw [HT.out] at hcv5) | (go_at_call 17; refine (codecName_any s _ (by unfold maxLen; omega)).mono ?_; rintro e w6 ⟨rfl, rfl⟩) | (go_at_call 18; refine (refName_any s _ (by unfold maxLen; omega)).mono ?_; rintro e w7 ⟨rfl, rfl⟩))
    all_goals
      refine NoPanic.normal ?_
      go_wp2
      go_ret
      exact ⟨ret_bool (by first | rfl | simp), HBw3.out.drew.trans ((hb4.mono HBw3.out.size).trans (hb5.mono (Nat.le_trans HBw3.out.size hb4.size)))⟩
end Go.Proofs.Ytmokelmeihmeiaa
