/-
  The law CodecLists: for every list of strings, every most and every stop the Go text answers true, and writes nothing that was there; its condition: the items' bytes together are at most 100000000, the items at most 1048576.
-/
import Derived.Test.YtmokelmeihmeiaaListsD
namespace Go.Proofs.Ytmokelmeihmeiaa
open Go.RowKit
attribute [local go_sem ↓] Go.wp_at_zero Go.wp_at_succ

theorem own_nine (w : World) (B : Nat) (hB : B ≤ w.heap.size) : (w.alloc (.cells #[.int .u8 9] 5)).ownsRow B 5 1 (.slice (some ⟨w.heap.size, 0, none⟩) 1 1) 1 (nums [9]) :=
  ⟨rfl, .inr ⟨w.heap.size, 1, #[.int .u8 9], rfl, hB, heap_alloc_new w _, Nat.le_refl _, by decide, rfl, rfl⟩⟩

set_option maxRecDepth 100000 in
set_option maxHeartbeats 2000000 in
theorem lists_walk (a1 : Option Addr) (len1 cap1 : Nat) (ls : List ByteArray) (most stop : Int) (w : World)
    (h1 : HeldS w a1 len1 cap1 ls) (hsum : (encAll ls).length ≤ 100000000) (hll : len1 ≤ 1048576) (hm : -9223372036854775808 ≤ most ∧ most ≤ 9223372036854775807) (_hst : -9223372036854775808 ≤ stop ∧ stop ≤ 9223372036854775807) :
    Calls Try.prog 6 #[.slice a1 len1 cap1, .int .i64 most, .int .i64 stop] w fun e w' => e = .returned (.bool true) ∧ Below w.heap.size w w' := by
  obtain ⟨i0, hi, hz0, hz1, hz2⟩ := info_parts Try.info5
  obtain ⟨hm0, hm1⟩ := hm
  have hlen := h1.hlen
  have h10 := enc_le10 (x := len1) (by omega)
  have hep := enc_pos len1
  have HH1 := hid h1
  clear h1
  obtain ⟨T, HT⟩ : ∃ T, Hid (strOfNums ([9] ++ enc len1 ++ encAll ls) = T) := ⟨_, hid rfl⟩
  go_enter Try.func6, Try.ntmps6
  go_wp2_with fail
  have hbx : Below w.heap.size w ((w.alloc (.cells #[.int .i64 stop] 3)).alloc (.cells #[.int .u8 9] 5)) := ((Below.refl _ w).alloc (Nat.le_refl _) _).alloc (by simp) _
  have hgs1 : ((w.alloc (.cells #[.int .i64 stop] 3)).alloc (.cells #[.int .u8 9] 5)).heap[w.heap.size]? = some (.cells #[.int .i64 stop] 3 (0, 0)) := by
    rw [Below.heap_alloc _ _ _ (by simp)]
    exact heap_alloc_new w _
  have hh9 := held_new (w.alloc (.cells #[.int .i64 stop] 3)) [9] #[.int .u8 9] 5 rfl (by unfold AllB; decide) (by decide)
  have hsz1 : ((w.alloc (.cells #[.int .i64 stop] 3)).alloc (.cells #[.int .u8 9] 5)).heap.size = w.heap.size + 2 := by simp
  have hsz0 : (w.alloc (.cells #[.int .i64 stop] 3)).heap.size = w.heap.size + 1 := by simp
  rw [hsz0] at hh9
  generalize ((w.alloc (.cells #[.int .i64 stop] 3)).alloc (.cells #[.int .u8 9] 5)) = w1 at *
  refine (list_any (some ⟨w.heap.size + 1, 0, none⟩) 1 1 [9] a1 len1 cap1 ls w1 hh9 (HH1.out.below hbx (Nat.le_refl _)) (by omega) (by omega)).mono ?_
  rintro e w2 ⟨o2, N2, c2, rfl, hh2, hb2⟩
  have hN : N2 = 1 + (enc len1).length + (encAll ls).length := by have h3 := hh2.hlen; simp only [List.length_append, List.length_cons, List.length_nil] at h3; omega
  have HB2 : Hid (Below w.heap.size w w2) := hbx.trans (hb2.mono (by omega))
  have HGS : Hid (w2.heap[w.heap.size]? = some (.cells #[.int .i64 stop] 3 (0, 0))) := by
    show _ = _
    rw [hb2.block _ (by omega)]
    exact hgs1
  have HO2 := hid hh2
  have s2 : w.heap.size + 2 ≤ w2.heap.size := by have := hb2.size; omega
  have HN := hid hN
  have hNl : N2 ≤ 100000011 := by omega
  have hN1 : 2 ≤ N2 := by omega
  clear hN hbx hgs1 hh9 hsz1 hsz0 hh2 hb2
  go_wp2_with fail
  refine (refUint_heldN len1 _ (by omega)).mono ?_
  rintro e w4 ⟨o4, c4, rfl, hh4, _, hb4⟩
  have HO4 := hid hh4
  have hb4' : Below w2.heap.size w2 w4 := ((Below.refl _ w2).alloc (Nat.le_refl _) _).trans (hb4.mono (by simp))
  have HO3 : Hid (w4.ownsRow w2.heap.size 5 1 (.slice (some ⟨w2.heap.size, 0, none⟩) 1 1) 1 (nums [9])) := ownsRow_below (own_nine w2 _ (Nat.le_refl _)) hb4 (Nat.le_refl _)
  have HB4 := hid hb4'
  have s4 := hb4'.size
  clear hh4 hb4 hb4'
  go_wp2_with (at_builtin; refine wpList_append_held _ rfl _ _ 23 rfl w2.heap.size 5 i0 Try.underlying23 hi hz0 hz1 hz2 _ 1 [9] rfl HO3.out (by unfold AllB; decide) o4 (enc len1).length c4 (enc len1) rfl HO4.out (by omega) (by omega) ?_)
  intro o5 c5 w5 hown5 hheld5 hb5 _
  have HO5 := hid hown5
  have HB5 : Hid (Below w2.heap.size w2 w5) := HB4.out.trans hb5
  clear hown5 hheld5 hb5
  go_wp2_with fail
  go_loopw [8, 9] (fun v i wr => ∃ (k m : Nat) (bo : Option Addr) (cp : Nat), k ≤ len1 ∧ i = .int .i64 k ∧ v = .slice bo m cp ∧ wr.ownsRow w2.heap.size 5 1 (.slice bo m cp) m (nums ([9] ++ enc len1 ++ encAll (ls.take k))) ∧ Below w2.heap.size w2 wr) (fun _ i _ => len1 - (intOf i).toNat)
  case atStart => exact ⟨0, _, o5, c5, by omega, rfl, rfl, by simpa [encAll] using HO5.out, HB5.out⟩
  case round =>
    obtain ⟨k, m, bo, cp, hk, rfl, rfl, hown, hb⟩ := hrel
    have HO := hid hown
    have HB := hid hb
    have hml : m ≤ 11 + (encAll (ls.take k)).length := by
      have := hown.1
      simp only [nums_len, List.length_append, List.length_cons, List.length_nil] at this
      omega
    have sr := hb.size
    clear hown hb
    by_cases hkl : k < len1
    · obtain ⟨s, hs⟩ : ∃ s, s = ls.getD k ByteArray.empty := ⟨_, rfl⟩
      have hit := encAll_item (ls := ls) (k := k) (by omega)
      rw [← hs] at hit
      have hsz := encText_size s
      have hHr : HeldS wr a1 len1 cap1 ls := (HH1.out.below HB2.out (Nat.le_refl _)).below HB.out (Nat.le_refl _)
      obtain ⟨b0, off, ha1, _, hcells⟩ := hHr.at (by omega)
      subst ha1
      have hcell : wr.cell? ⟨b0, off + k, none⟩ = some (.string s) := by rw [hcells k hkl, hs]
      have HE : Hid ([9] ++ enc len1 ++ encAll (ls.take (k + 1)) = [9] ++ enc len1 ++ encAll (ls.take k) ++ encText s) := by
        show _ = _
        rw [encAll_snoc (by omega), ← hs]
        simp only [List.append_assoc]
      clear hs hHr hcells
      go_wp2_with fail
      refine (refText_held s wr (by omega)).mono ?_
      rintro e w6 ⟨o6, c6, rfl, hh6, hb6⟩
      have HO6 := hid hh6
      have HOr : Hid (w6.ownsRow w2.heap.size 5 1 (.slice bo m cp) m (nums ([9] ++ enc len1 ++ encAll (ls.take k)))) := ownsRow_below HO.out hb6 (Nat.le_refl _)
      have HB6 : Hid (Below w2.heap.size w2 w6) := HB.out.trans (hb6.mono sr)
      have s6 := HB6.out.size
      clear hh6 hb6
      have hab : AllB ([9] ++ enc len1 ++ encAll (ls.take k)) := AllB.append (AllB.append (by unfold AllB; decide) (enc_byte _)) (encAll_byte _)
      have HAB := hid hab
      clear hab
      go_wp2_with (at_builtin; refine wpList_append_held _ rfl _ _ 23 rfl w2.heap.size 5 i0 Try.underlying23 hi hz0 hz1 hz2 _ m _ rfl HOr.out HAB.out o6 (encText s).length c6 (encText s) rfl HO6.out (by omega) (by omega) ?_)
      intro o7 c7 w7 hown7 hheld7 hb7 _
      have HO7 : Hid (w7.ownsRow w2.heap.size 5 1 (.slice o7 (m + (encText s).length) c7) (m + (encText s).length) (nums ([9] ++ enc len1 ++ encAll (ls.take (k + 1))))) := by
        show World.ownsRow _ _ _ _ _ _ _
        rw [HE.out]
        simpa using hown7
      have HB7 : Hid (Below w2.heap.size w2 w7) := HB6.out.trans hb7
      clear hown7 hheld7 hb7
      go_wp2
      go_roundw
      case rel => exact ⟨k + 1, _, o7, c7, by omega, by go_num, rfl, HO7.out, HB7.out⟩
      case measure => simp [intOf]; omega
    · have hke : k = len1 := by omega
      have hfull := HO.out
      rw [List.take_of_length_le (by omega)] at hfull
      have hab : AllB ([9] ++ enc len1 ++ encAll ls) := AllB.append (AllB.append (by unfold AllB; decide) (enc_byte _)) (encAll_byte _)
      obtain ⟨bo', cp', hv, hheld⟩ := held_of_own hfull hab
      have HW : Hid (Held wr bo m cp ([9] ++ enc len1 ++ encAll ls)) := by
        cases hv
        exact hheld
      clear hke hfull hab hv hheld HO
      go_wp2_with fail
      refine (lives_any wr).mono ?_
      rintro e w8 ⟨rfl, hb8⟩
      have hb28 : Below w2.heap.size w2 w8 := HB.out.trans (hb8.mono sr)
      have HB28 := hid hb28
      have hcvb := run_convert_held (P := Try.prog) (HO2.out.below hb28 (Nat.le_refl _)) 23 5 9 Try.underlying23 Try.underlying5 Try.underlying9
      have hcvw := run_convert_held (P := Try.prog) (HW.out.below hb8 (Nat.le_refl _)) 23 5 9 Try.underlying23 Try.underlying5 Try.underlying9
      rw [HT.out] at hcvb hcvw
      have s8 := hb28.size
      clear hb8 hb28
      have HGS8 : Hid (w8.heap[w.heap.size]? = some (.cells #[.int .i64 stop] 3 (0, 0))) := by
        show _ = _
        rw [HB28.out.block _ (by omega)]
        exact HGS.out
      have hsl := fun W => run_cut_l (P := Try.prog) W 23 5 Try.underlying23 Try.size5 o2 N2 c2 1 1 rfl (by omega)
      go_wp2_with fail
      have ha9 : (w8.alloc (.cells #[.int .i64 0] 3)).heap[w8.heap.size]? = some (.cells #[.int .i64 0] 3 (0, 0)) := heap_alloc_new w8 _
      have hs9 : (w8.alloc (.cells #[.int .i64 0] 3)).heap[w.heap.size]? = some (.cells #[.int .i64 stop] 3 (0, 0)) := by
        rw [Below.heap_alloc _ _ _ (by omega)]
        exact HGS8.out
      have hcut : Held w8 (cutAt o2 c2 1) (N2 - 1) (c2 - 1) (enc ls.length ++ encAll ls) := by
        have := (HO2.out.below HB28.out (Nat.le_refl _)).cutl (l := 1) (by omega)
        rw [hlen]
        simpa using this
      have hba9 : Below w8.heap.size w8 (w8.alloc (.cells #[.int .i64 0] 3)) := (Below.refl _ w8).alloc (Nat.le_refl _) _
      have hheld9 := hcut.below hba9 (Nat.le_refl _)
      have hao : ∀ ad, cutAt o2 c2 1 = some ad → ad.block ≠ w8.heap.size := by
        intro ad had
        have := hcut.old ad had (by omega)
        omega
      have HBw9 : Hid (Below w.heap.size w (w8.alloc (.cells #[.int .i64 0] 3))) := ((HB2.out.trans (HB28.out.mono (by omega))).trans (hba9.mono (by omega)))
      have s9 : (w8.alloc (.cells #[.int .i64 0] 3)).heap.size = w8.heap.size + 1 := by simp
      clear hcvb hcvw hsl hba9
      by_cases hml1 : most < (len1 : Int)
      · have hc : cntOf (enc ls.length ++ encAll ls) most = (0, 0, 10) := by
          unfold cntOf
          rw [dec_enc (x := ls.length) (by omega), if_neg (by simp only; omega)]
        have HR := hid (readList_few _ _ _ _ most w8.heap.size w.heap.size _ hheld9 hm0 hm1 hc)
        clear hc hheld9 hao ha9 hs9 hcut s9
        refine HR.out.mono ?_
        rintro e w10 ⟨rfl, rfl⟩
        go_wp2
        go_ret
        exact ⟨rfl, HBw9.out⟩
      · have hml2 : (len1 : Int) ≤ most := by omega
        have hNb : N2 - 1 ≤ 1000000000 := by omega
        have HR := hid (readList_run _ _ _ ls len1 most stop w8.heap.size w.heap.size _ hheld9 hlen hm1 hml2 hNb hll (by omega) hao ha9 hs9)
        have HS9 := hid hs9
        clear hheld9 hao ha9 hs9 hcut
        generalize (w8.alloc (.cells #[.int .i64 0] 3)) = w9 at *
        refine HR.out.mono ?_
        intro e w10 hcase
        by_cases hst : 0 ≤ stop ∧ stop < (len1 : Int)
        · obtain ⟨rfl, hg, hat⟩ : e = .returned (.tuple #[.slice none 0 0, .int .i64 0, .int .i64 5]) ∧ w9.grownBy w10 (some w8.heap.size) ∧ w10.heap[w8.heap.size]? = some (.cells #[.int .i64 stop] 3 (0, 0)) := by
            rcases hcase with h | h
            · exact ⟨h.2.2.1, h.2.2.2.1, h.2.2.2.2⟩
            · exact absurd hst h.1
          have hcs := cell_of_one (one_kept HS9.out hg (by intro e; have := Option.some.inj e; omega))
          have hca := cell_of_one hat
          have HB10 : Hid (Below w.heap.size w w10) := HBw9.out.grown hg (by omega) (by intro k hk; cases hk; omega)
          obtain ⟨hst0, hst1⟩ := hst
          clear hcase hg hat
          go_wp2
          go_ret
          exact ⟨ret_bool (by first | rfl | simp), HB10.out⟩
        · obtain ⟨mo, mc, rfl, hhm, hg⟩ : ∃ mo mc, e = .returned (.tuple #[.slice mo len1 mc, .int .i64 ((N2 - 1 : Nat) : Int), .int .i64 0]) ∧ HeldS w10 mo len1 mc ls ∧ w9.grownBy w10 (some w8.heap.size) := by
            rcases hcase with h | h
            · exact absurd ⟨h.1, h.2.1⟩ hst
            · exact h.2
          have hcs := cell_of_one (one_kept HS9.out hg (by intro e; have := Option.some.inj e; omega))
          have HB10 : Hid (Below w.heap.size w w10) := HBw9.out.grown hg (by omega) (by intro k hk; cases hk; omega)
          have HM := hid hhm
          have hN2 : ((N2 - 1 : Nat) : Int) = (N2 : Int) - 1 := by omega
          rw [hN2]
          clear hcase hg hhm hN2
          by_cases hs0 : 0 ≤ stop
          · have hs1 : ¬ stop < (len1 : Int) := by omega
            clear hst
            go_wp2
            go_loopw [14] (fun i wq => ∃ j : Nat, j ≤ len1 ∧ i = .int .i64 j ∧ ∃ q, wq = w10.drewN q) (fun i _ => len1 - (intOf i).toNat)
            case atStart => exact ⟨0, by omega, rfl, 0, rfl⟩
            case round =>
              obtain ⟨j, hj, rfl, q, rfl⟩ := hrel
              by_cases hjl : j < len1
              · obtain ⟨x, HX⟩ : ∃ x, Hid (x = ls.getD j ByteArray.empty) := ⟨_, hid rfl⟩
                obtain ⟨g, go, hmo, _, hcm⟩ := HM.out.at (by omega)
                obtain ⟨b0, off, ha1, _, hcl⟩ := (HH1.out.below HB10.out (Nat.le_refl _)).at (by omega)
                subst hmo ha1
                have hc1 : w10.cell? ⟨g, go + j, none⟩ = some (.string x) := by rw [hcm j hjl, HX.out]
                have hc2 : w10.cell? ⟨b0, off + j, none⟩ = some (.string x) := by rw [hcl j hjl, HX.out]
                have hj0 : (0 : Int) ≤ (j : Int) := by omega
                have hjI : (j : Int) < (len1 : Int) := by omega
                clear hcm hcl
                go_wp2
                go_quiet (fail)
                go_wp2
                go_roundw
                case rel => exact ⟨j + 1, by omega, by go_num, _, rfl⟩
                case measure => simp [intOf]; omega
              · go_wp2
                go_ret
                exact ⟨rfl, below_dn HB10.out _⟩
          · clear hst
            go_wp2
            go_loopw [14] (fun i wq => ∃ j : Nat, j ≤ len1 ∧ i = .int .i64 j ∧ ∃ q, wq = w10.drewN q) (fun i _ => len1 - (intOf i).toNat)
            case atStart => exact ⟨0, by omega, rfl, 0, rfl⟩
            case round =>
              obtain ⟨j, hj, rfl, q, rfl⟩ := hrel
              by_cases hjl : j < len1
              · obtain ⟨x, HX⟩ : ∃ x, Hid (x = ls.getD j ByteArray.empty) := ⟨_, hid rfl⟩
                obtain ⟨g, go, hmo, _, hcm⟩ := HM.out.at (by omega)
                obtain ⟨b0, off, ha1, _, hcl⟩ := (HH1.out.below HB10.out (Nat.le_refl _)).at (by omega)
                subst hmo ha1
                have hc1 : w10.cell? ⟨g, go + j, none⟩ = some (.string x) := by rw [hcm j hjl, HX.out]
                have hc2 : w10.cell? ⟨b0, off + j, none⟩ = some (.string x) := by rw [hcl j hjl, HX.out]
                have hj0 : (0 : Int) ≤ (j : Int) := by omega
                have hjI : (j : Int) < (len1 : Int) := by omega
                clear hcm hcl
                go_wp2
                go_quiet (fail)
                go_wp2
                go_roundw
                case rel => exact ⟨j + 1, by omega, by go_num, _, rfl⟩
                case measure => simp [intOf]; omega
              · go_wp2
                go_ret
                exact ⟨rfl, below_dn HB10.out _⟩
end Go.Proofs.Ytmokelmeihmeiaa
