/-
  The law CodecReads: for all bytes and every most the Go text answers true, and writes nothing that was there; no condition but the form's own reach.
-/
import Derived.Test.YtmokelmeihmeiaaCounts
import Derived.Test.YtmokelmeihmeiaaLives
import Derived.Test.YtmokelmeihmeiaaNumbers
import Derived.Deep.DrawnRows
import Derived.Deep.RegionHeld3
namespace Go.Proofs.Ytmokelmeihmeiaa
open Go.RowKit
attribute [local go_sem ↓] Go.wp_at_zero Go.wp_at_succ

theorem strOf_len (l : List Int) : (strOfNums l).size = l.length := strOfNums_size l
theorem strNums_of {l : List Int} (h : AllB l) : strNums (strOfNums l) = l := by
  unfold strNums
  rw [strOfNums_data, List.map_map]
  conv => rhs; rw [← List.map_id l]
  apply List.map_congr_left
  intro c hc
  have := h c hc
  have h2 : c.toNat < 256 := by omega
  simp [Nat.mod_eq_of_lt h2]
  omega

theorem rdText_cases {bs : List Int} (hb : AllB bs) (most : Int) : rdText bs most = (ByteArray.empty, 0, 10) ∨ ∃ s k, rdText bs most = (s, k, 0) ∧ encText s = bs.take k ∧ k ≤ bs.length ∧ s.size ≤ bs.length := by
  rcases cnt_cases hb most with hc | ⟨x, n, hc, hd, _, _, hn, _⟩
  · left
    simp [rdText, hc]
  · by_cases hx : n + x ≤ bs.length
    · right
      refine ⟨_, _, by unfold rdText; rw [hc, if_pos ⟨rfl, hx⟩], ?_, hx, ?_⟩
      · have hk := dec_back hb hd
        unfold encText
        rw [strNums_of ((hb.take _).drop _), strOf_len, List.length_drop, List.length_take, Nat.min_eq_left hx, Nat.add_sub_cancel_left, hk.1]
        conv => rhs; rw [← List.take_append_drop n (bs.take (n + x))]
        rw [List.take_take, Nat.min_eq_left (by omega)]
      · rw [strOf_len, List.length_drop, List.length_take]
        omega
    · left
      unfold rdText
      rw [hc, if_neg (by simp only; omega)]

theorem held_take_string {P : Program} {w : World} {ao : Option Addr} {len cap n : Nat} {bs : List Int} (h : Held w ao len cap bs) (hn : n ≤ len) (src e dst : TypeId) (hs : P.underlying src = some (.slice e)) (he : P.underlying e = some (.int .u8)) (hd : P.underlying dst = some .string) :
    (convert src dst (.slice ao n cap)).run P w = .ok (.string (strOfNums (bs.take n))) w := run_convert_held (h.take hn) src e dst hs he hd

/-- Text and Uint behind nothing. -/
theorem text_nil (s : ByteArray) (w : World) (hm : s.size ≤ 140737488355000) :
    Calls Try.prog 15 #[.slice none 0 0, .string s] w fun e w' => ∃ bo cp, e = .returned (.slice bo (encText s).length cp) ∧ Held w' bo (encText s).length cp (encText s) ∧ Below w.heap.size w w' := by
  refine (codecText_held none 0 0 [] s w (held_nil w) (by omega)).mono ?_
  rintro e w' ⟨bo, cp, rfl, hh, _, hb⟩
  exact ⟨bo, cp, by simp, by simpa using hh, hb⟩
theorem uint_nil (x : Nat) (w : World) (hx : x < 18446744073709551616) :
    Calls Try.prog 8 #[.slice none 0 0, .int .u64 x] w fun e w' => ∃ bo cp, e = .returned (.slice bo (enc x).length cp) ∧ Held w' bo (enc x).length cp (enc x) ∧ Below w.heap.size w w' := by
  refine (codecUint_held none 0 0 [] x w (held_nil w) hx (by omega)).mono ?_
  rintro e w' ⟨bo, cp, rfl, hh, hb⟩
  exact ⟨bo, cp, by simp, by simpa using hh, hb⟩

set_option maxRecDepth 100000 in
set_option maxHeartbeats 1000000 in
theorem reads_full (b off len1 cap1 : Nat) (bs : List Int) (most : Int) (w : World)
    (hp1 : 0 < len1) (h1 : Held w (some ⟨b, off, none⟩) len1 cap1 bs) (hl1 : len1 ≤ 140737488351232) (hm : -9223372036854775808 ≤ most ∧ most ≤ 9223372036854775807) :
    Calls Try.prog 4 #[.slice (some ⟨b, off, none⟩) len1 cap1, .int .i64 most] w fun e w' => e = .returned (.bool true) ∧ Below w.heap.size w w' := by
  obtain ⟨i0, hi, hz0, hz1, hz2⟩ := info_parts Try.info5
  obtain ⟨hm0, hm1⟩ := hm
  have hlen := h1.hlen
  have hcap := h1.hcap
  have HH1 := hid h1
  have HDC := hid (dec_cases bs 0 0)
  have HTC := hid (rdText_cases h1.byte most)
  obtain ⟨X, N, E, HE⟩ : ∃ (X N : Nat) (E : Int), Hid (dec 0 0 bs = (X, N, E)) := ⟨_, _, _, rfl⟩
  obtain ⟨S, K, G, HG⟩ : ∃ (S : ByteArray) (K : Nat) (G : Int), Hid (rdText bs most = (S, K, G)) := ⟨_, _, _, rfl⟩
  clear h1
  go_enter Try.func4, Try.ntmps4
  have hba : Below w.heap.size w (w.alloc (.cells #[] 5)) := (Below.refl _ w).alloc (Nat.le_refl _) _
  go_wp2_with (at_builtin; refine wpList_append_held _ rfl _ _ 23 rfl w.heap.size 5 i0 Try.underlying23 hi hz0 hz1 hz2 _ 0 [] rfl (own_made w _ (Nat.le_refl _)) (by intro c hc; cases hc) (some ⟨b, off, none⟩) len1 cap1 bs rfl (HH1.out.below hba (Nat.le_refl _)) (by omega) (by simp) ?_)
  intro o1 c1 w1 hown1 hheld1 hb1 _
  have HO1 : Hid (Held w1 o1 len1 c1 bs) := hid (by simpa using hheld1)
  have HB1 : Hid (Below w.heap.size w w1) := hba.trans hb1
  have s1 : w.heap.size ≤ w1.heap.size := HB1.out.size
  clear hown1 hheld1 hb1 hba
  go_wp2_with fail
  refine (show Calls _ _ _ _ (fun e w' => e = .returned (.tuple #[.int .u64 X, .int .i64 N, .int .i64 E]) ∧ w' = w1) from by have := readUint_any o1 len1 c1 bs w1 HO1.out; rwa [HE.out] at this).mono ?_
  rintro e w1 ⟨rfl, rfl⟩
  go_wp2_with fail
  refine (show Calls _ _ _ w1 (fun e w' => e = .returned (.tuple #[.int .u64 X, .int .i64 N, .int .i64 E]) ∧ Below w1.heap.size w1 w') from by have := refRead_any (some ⟨b, off, none⟩) len1 cap1 bs w1 (HH1.out.below HB1.out (Nat.le_refl _)); rwa [HE.out] at this).mono ?_
  rintro e w2 ⟨rfl, hb2⟩
  have HB2 := hid hb2
  have s2 : w1.heap.size ≤ w2.heap.size := hb2.size
  clear hb2
  go_wp2_with fail
  refine (show Calls _ _ _ w2 (fun e w' => e = .returned (.tuple #[.string S, .int .i64 K, .int .i64 G]) ∧ w' = w2) from by have := readText_any o1 len1 c1 bs most w2 (HO1.out.below HB2.out (Nat.le_refl _)) hm0 hm1; rwa [HG.out] at this).mono ?_
  rintro e w2 ⟨rfl, rfl⟩
  go_wp2_with fail
  refine (show Calls _ _ _ w2 (fun e w' => e = .returned (.tuple #[.string S, .int .i64 K, .int .i64 G]) ∧ Below w2.heap.size w2 w') from by have := refText_read (some ⟨b, off, none⟩) len1 cap1 bs most w2 (HH1.out.below (HB1.out.trans (HB2.out.mono s1)) (Nat.le_refl _)) hm0 hm1; rwa [HG.out] at this).mono ?_
  rintro e w3 ⟨rfl, hb3⟩
  have HB3 := hid hb3
  have s3 : w2.heap.size ≤ w3.heap.size := hb3.size
  clear hb3
  go_wp2_with fail
  refine (lives_any w3).mono ?_
  rintro e w4 ⟨rfl, hb4⟩
  have s4 : w3.heap.size ≤ w4.heap.size := hb4.size
  have HB14 : Hid (Below w1.heap.size w1 w4) := (HB2.out.trans (HB3.out.mono s2)).trans (hb4.mono (by omega))
  have HBw4 : Hid (Below w.heap.size w w4) := HB1.out.trans (HB14.out.mono s1)
  have hcv1 := run_convert_held (P := Try.prog) (HO1.out.below HB14.out (Nat.le_refl _)) 23 5 9 Try.underlying23 Try.underlying5 Try.underlying9
  have hcva := run_convert_held (P := Try.prog) (HH1.out.below HBw4.out (Nat.le_refl _)) 23 5 9 Try.underlying23 Try.underlying5 Try.underlying9
  obtain ⟨R, hR⟩ : ∃ R, R = strOfNums bs := ⟨_, rfl⟩
  rw [← hR] at hcv1 hcva
  clear hR hb4
  rcases HDC.out with hd | ⟨x, n, hd⟩
  · rw [HE.out] at hd
    simp only [Prod.mk.injEq] at hd
    obtain ⟨rfl, rfl, rfl⟩ := hd
    go_wp2
    go_quiet (fail)
    rcases HTC.out with ht | ⟨s, k, ht, hek, hkl, hsl⟩
    · rw [HG.out] at ht
      simp only [Prod.mk.injEq] at ht
      obtain ⟨rfl, rfl, rfl⟩ := ht
      go_wp2
      go_quiet (fail)
      go_wp2
      go_ret
      exact ⟨rfl, below_dn (below_dn HBw4.out _) _⟩
    · rw [HG.out] at ht
      simp only [Prod.mk.injEq] at ht
      obtain ⟨rfl, rfl, rfl⟩ := ht
      obtain ⟨T, hT⟩ : ∃ T, T = strOfNums (bs.take K) := ⟨_, rfl⟩
      have HT := hid hT
      have HK : Hid (strOfNums (encText S) = T) := by show _ = _; rw [hek, hT]
      have hsl' := fun W => run_cut_h (P := Try.prog) W 23 5 Try.underlying23 Try.size5 (some ⟨b, off, none⟩) len1 cap1 K (K : Int) rfl (by omega)
      clear hT hek
      go_wp2
      have HB5 : Hid (Below w.heap.size w (w4.drewN nq)) := below_dn HBw4.out nq
      generalize w4.drewN nq = w5 at *
      have hcvb := held_take_string (P := Try.prog) (n := K) (HH1.out.below HB5.out.drew (Nat.le_refl _)) (by omega) 23 5 9 Try.underlying23 Try.underlying5 Try.underlying9
      rw [← HT.out] at hcvb
      refine wp_region_noPanic ?_
      go_region_held (fun w' => Sem.run Try.prog (convert 23 9 (Value.slice (some ⟨b, off, none⟩) K cap1)) w' = Result.ok (Value.string T) w') (first | exact hcvb | exact hcvb6) (first | (go_at_call 15; refine (text_nil S _ (by omega)).mono ?_; rintro e w6 ⟨bo, cp, rfl, hh6, hb6⟩; have hcv6 := run_convert_held (P := Try.prog) hh6 23 5 9 Try.underlying23 Try.underlying5 Try.underlying9; rw [HK.out] at hcv6; have hcvb6 := held_take_string (P := Try.prog) (n := K) (HH1.out.below (HB5.out.drew.trans (hb6.mono HB5.out.size)) (Nat.le_refl _)) (by omega) 23 5 9 Try.underlying23 Try.underlying5 Try.underlying9; rw [← HT.out] at hcvb6))
      all_goals
        refine NoPanic.normal ?_
        go_wp2
        go_ret
        exact ⟨ret_bool (by simp), HB5.out.drew.trans (hb6.mono HB5.out.size)⟩
  · have hk := dec_back HH1.out.byte hd
    rw [HE.out] at hd
    simp only [Prod.mk.injEq] at hd
    obtain ⟨rfl, rfl, rfl⟩ := hd
    have hx := hk.2.1
    have hn := hk.2.2.1
    obtain ⟨V, hV⟩ : ∃ V, V = strOfNums (bs.take N) := ⟨_, rfl⟩
    have HV := hid hV
    have HN : Hid (strOfNums (enc X) = V) := by show _ = _; rw [hk.1, hV]
    have hsl0 := fun W => run_cut_h (P := Try.prog) W 23 5 Try.underlying23 Try.size5 (some ⟨b, off, none⟩) len1 cap1 N (N : Int) rfl (by omega)
    have hcvn := held_take_string (P := Try.prog) (n := N) (HH1.out.below HBw4.out.drew (Nat.le_refl _)) (by omega) 23 5 9 Try.underlying23 Try.underlying5 Try.underlying9
    rw [← HV.out] at hcvn
    clear hV hk
    go_wp2
    refine wp_region_noPanic ?_
    go_region_held (fun w' => Sem.run Try.prog (convert 23 9 (Value.slice (some ⟨b, off, none⟩) N cap1)) w' = Result.ok (Value.string V) w') (first | exact hcvn | exact hcvn7) (first | (go_at_call 8; refine (uint_nil X _ hx).mono ?_; rintro e w7 ⟨bo7, cp7, rfl, hh7, hb7⟩; have hcv7 := run_convert_held (P := Try.prog) hh7 23 5 9 Try.underlying23 Try.underlying5 Try.underlying9; rw [HN.out] at hcv7; have hcvn7 := held_take_string (P := Try.prog) (n := N) (HH1.out.below (HBw4.out.drew.trans (hb7.mono HBw4.out.size)) (Nat.le_refl _)) (by omega) 23 5 9 Try.underlying23 Try.underlying5 Try.underlying9; rw [← HV.out] at hcvn7))
    all_goals
      refine NoPanic.normal ?_
      have HB7 : Hid (Below w.heap.size w w7) := HBw4.out.drew.trans (hb7.mono HBw4.out.size)
      clear hcv7 hcvn7 hcvn hcva hcv1 hh7 hb7 hsl0
      rcases HTC.out with ht | ⟨s, k, ht, hek, hkl, hsl⟩
      · rw [HG.out] at ht
        simp only [Prod.mk.injEq] at ht
        obtain ⟨rfl, rfl, rfl⟩ := ht
        go_wp2
        go_quiet (fail)
        go_wp2
        go_ret
        exact ⟨rfl, below_dn (HB7.out) _⟩
      · rw [HG.out] at ht
        simp only [Prod.mk.injEq] at ht
        obtain ⟨rfl, rfl, rfl⟩ := ht
        obtain ⟨T, hT⟩ : ∃ T, T = strOfNums (bs.take K) := ⟨_, rfl⟩
        have HT := hid hT
        have HK : Hid (strOfNums (encText S) = T) := by show _ = _; rw [hek, hT]
        have hsl' := fun W => run_cut_h (P := Try.prog) W 23 5 Try.underlying23 Try.size5 (some ⟨b, off, none⟩) len1 cap1 K (K : Int) rfl (by omega)
        clear hT hek
        go_wp2
        have HB5 : Hid (Below w.heap.size w (w7)) := HB7.out
        obtain ⟨w5, rfl⟩ : ∃ w5, w5 = w7 := ⟨_, rfl⟩
        have hcvb := held_take_string (P := Try.prog) (n := K) (HH1.out.below HB5.out.drew (Nat.le_refl _)) (by omega) 23 5 9 Try.underlying23 Try.underlying5 Try.underlying9
        rw [← HT.out] at hcvb
        refine wp_region_noPanic ?_
        go_region_held (fun w' => Sem.run Try.prog (convert 23 9 (Value.slice (some ⟨b, off, none⟩) K cap1)) w' = Result.ok (Value.string T) w') (first | exact hcvb | exact hcvb6) (first | (go_at_call 15; refine (text_nil S _ (by omega)).mono ?_; rintro e w6 ⟨bo, cp, rfl, hh6, hb6⟩; have hcv6 := run_convert_held (P := Try.prog) hh6 23 5 9 Try.underlying23 Try.underlying5 Try.underlying9; rw [HK.out] at hcv6; have hcvb6 := held_take_string (P := Try.prog) (n := K) (HH1.out.below (HB5.out.drew.trans (hb6.mono HB5.out.size)) (Nat.le_refl _)) (by omega) 23 5 9 Try.underlying23 Try.underlying5 Try.underlying9; rw [← HT.out] at hcvb6))
        all_goals
          refine NoPanic.normal ?_
          go_wp2
          go_ret
          exact ⟨ret_bool (by simp), HB5.out.drew.trans (hb6.mono HB5.out.size)⟩

set_option maxRecDepth 100000 in
set_option maxHeartbeats 1000000 in
theorem reads_none (a1 : Option Addr) (cap1 : Nat) (most : Int) (w : World)
    (h1 : Held w a1 0 cap1 []) (hm : -9223372036854775808 ≤ most ∧ most ≤ 9223372036854775807) :
    Calls Try.prog 4 #[.slice a1 0 cap1, .int .i64 most] w fun e w' => e = .returned (.bool true) ∧ Below w.heap.size w w' := by
  obtain ⟨i0, hi, hz0, hz1, hz2⟩ := info_parts Try.info5
  obtain ⟨hm0, hm1⟩ := hm
  have HH1 := hid h1
  have HE : Hid (dec 0 0 [] = (0, 0, 10)) := rfl
  have HG : Hid (rdText [] most = (ByteArray.empty, 0, 10)) := hid (by simp [rdText, cntOf, dec])
  clear h1
  go_enter Try.func4, Try.ntmps4
  have hba : Below w.heap.size w (w.alloc (.cells #[] 5)) := (Below.refl _ w).alloc (Nat.le_refl _) _
  go_wp2_with (at_builtin; refine wpList_append_held _ rfl _ _ 23 rfl w.heap.size 5 i0 Try.underlying23 hi hz0 hz1 hz2 _ 0 [] rfl (own_made w _ (Nat.le_refl _)) (by intro c hc; cases hc) a1 0 cap1 [] rfl (HH1.out.below hba (Nat.le_refl _)) (by omega) (by simp) ?_)
  intro o1 c1 w1 hown1 hheld1 hb1 _
  have HO1 : Hid (Held w1 o1 0 c1 []) := hid (by simpa using hheld1)
  have HB1 : Hid (Below w.heap.size w w1) := hba.trans hb1
  have s1 : w.heap.size ≤ w1.heap.size := HB1.out.size
  clear hown1 hheld1 hb1 hba
  go_wp2_with fail
  refine (show Calls _ _ _ _ (fun e w' => e = .returned (.tuple #[.int .u64 0, .int .i64 0, .int .i64 10]) ∧ w' = w1) from by have := readUint_any o1 0 c1 [] w1 HO1.out; rwa [HE.out] at this).mono ?_
  rintro e w1 ⟨rfl, rfl⟩
  go_wp2_with fail
  refine (show Calls _ _ _ w1 (fun e w' => e = .returned (.tuple #[.int .u64 0, .int .i64 0, .int .i64 10]) ∧ Below w1.heap.size w1 w') from by have := refRead_any a1 0 cap1 [] w1 (HH1.out.below HB1.out (Nat.le_refl _)); rwa [HE.out] at this).mono ?_
  rintro e w2 ⟨rfl, hb2⟩
  have HB2 := hid hb2
  have s2 : w1.heap.size ≤ w2.heap.size := hb2.size
  clear hb2
  go_wp2_with fail
  refine (show Calls _ _ _ w2 (fun e w' => e = .returned (.tuple #[.string ByteArray.empty, .int .i64 0, .int .i64 10]) ∧ w' = w2) from by have := readText_any o1 0 c1 [] most w2 (HO1.out.below HB2.out (Nat.le_refl _)) hm0 hm1; rwa [HG.out] at this).mono ?_
  rintro e w2 ⟨rfl, rfl⟩
  go_wp2_with fail
  refine (show Calls _ _ _ w2 (fun e w' => e = .returned (.tuple #[.string ByteArray.empty, .int .i64 0, .int .i64 10]) ∧ Below w2.heap.size w2 w') from by have := refText_read a1 0 cap1 [] most w2 (HH1.out.below (HB1.out.trans (HB2.out.mono s1)) (Nat.le_refl _)) hm0 hm1; rwa [HG.out] at this).mono ?_
  rintro e w3 ⟨rfl, hb3⟩
  have HB3 := hid hb3
  have s3 : w2.heap.size ≤ w3.heap.size := hb3.size
  clear hb3
  go_wp2_with fail
  refine (lives_any w3).mono ?_
  rintro e w4 ⟨rfl, hb4⟩
  have s4 : w3.heap.size ≤ w4.heap.size := hb4.size
  have HB14 : Hid (Below w1.heap.size w1 w4) := (HB2.out.trans (HB3.out.mono s2)).trans (hb4.mono (by omega))
  have HBw4 : Hid (Below w.heap.size w w4) := HB1.out.trans (HB14.out.mono s1)
  have hcv1 := run_convert_held (P := Try.prog) (HO1.out.below HB14.out (Nat.le_refl _)) 23 5 9 Try.underlying23 Try.underlying5 Try.underlying9
  have hcva := run_convert_held (P := Try.prog) (HH1.out.below HBw4.out (Nat.le_refl _)) 23 5 9 Try.underlying23 Try.underlying5 Try.underlying9
  obtain ⟨R, hR⟩ : ∃ R, R = strOfNums [] := ⟨_, rfl⟩
  rw [← hR] at hcv1 hcva
  clear hR hb4
  go_wp2
  go_quiet (fail)
  go_wp2
  go_quiet (fail)
  go_wp2
  go_ret
  exact ⟨rfl, below_dn (below_dn HBw4.out _) _⟩

theorem reads_walk (a1 : Option Addr) (len1 cap1 : Nat) (bs : List Int) (most : Int) (w : World)
    (h1 : Held w a1 len1 cap1 bs) (hl1 : len1 ≤ 140737488351232) (hm : -9223372036854775808 ≤ most ∧ most ≤ 9223372036854775807) :
    Calls Try.prog 4 #[.slice a1 len1 cap1, .int .i64 most] w fun e w' => e = .returned (.bool true) ∧ Below w.heap.size w w' := by
  by_cases hp : 0 < len1
  · obtain ⟨b, off, rfl, _, _⟩ := h1.at hp
    exact reads_full b off len1 cap1 bs most w hp h1 hl1 hm
  · obtain rfl : len1 = 0 := by omega
    have : bs = [] := List.eq_nil_of_length_eq_zero h1.hlen
    subst this
    exact reads_none a1 cap1 most w h1 hm
end Go.Proofs.Ytmokelmeihmeiaa
