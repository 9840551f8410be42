/-
  pannierlaw02.FrameCuts answers true for any texts of bulk at most 1048576 and any number, in whatever memory in which the table of remainders lies; it writes nothing that was there.
-/
import Derived.Test.YtmokelmeihmeiabDoorFInts
import Derived.Test.YtmokelmeihmeiabDoorFLives
import Derived.Test.YtmokelmeihmeiabDoorFSame
namespace Go.Proofs.YtmokelmeihmeiabDoor
open Go.RowKit
attribute [local go_sem ↓] Go.wp_at_zero Go.wp_at_succ

theorem cut_mod (cut : Int) (N : Nat) : ∃ (κ : Nat) (t : Int), κ ≤ N ∧ cut.tmod ((N : Int) + 1) = t ∧ ((0 ≤ t ∧ t = κ) ∨ (t < 0 ∧ t + N + 1 = κ ∧ -((N : Int) + 1) < t)) := by
  have h1 := Int.tmod_lt_of_pos cut (show (0 : Int) < (N : Int) + 1 by omega)
  have h2 : -((N : Int) + 1) < cut.tmod ((N : Int) + 1) := by
    have := Int.lt_tmod_of_pos cut (show (0 : Int) < (N : Int) + 1 by omega)
    simpa using this
  by_cases h0 : 0 ≤ cut.tmod ((N : Int) + 1)
  · exact ⟨(cut.tmod ((N : Int) + 1)).toNat, _, by omega, rfl, .inl ⟨h0, by omega⟩⟩
  · exact ⟨(cut.tmod ((N : Int) + 1) + N + 1).toNat, _, by omega, rfl, .inr ⟨by omega, by omega, h2⟩⟩

set_option maxHeartbeats 3200000 in
theorem frameCuts_walk (lo : Option Addr) (m mc : Nat) (ls : List ByteArray) (cut : Int) (w : World) (ht : Tab w) (hS : HeldS w lo m mc ls) (hfr : (framesOf ls).length ≤ 100000000) (hm : m ≤ 1048576) (_hcut : -9223372036854775808 ≤ cut ∧ cut ≤ 9223372036854775807) :
    Calls Tryd.prog 5 #[.slice lo m mc, .int .i64 cut] w fun e w' => e = .returned (.bool true) ∧ Below w.heap.size w w' := by
  obtain ⟨iI, hj, hy0, hy1, hy2⟩ := info_parts Tryd.infoI
  have hml := hS.hlen
  have hmcc := hS.hcap
  have HT := hid ht
  have HS := hid hS
  clear ht hS
  go_enter Tryd.func5, Tryd.ntmps5
  go_wp2
  go_loopw [5, 6, 7] (fun b ends i wr => ∃ (k : Nat) (bo : Option Addr) (N cp : Nat), k ≤ m ∧ i = .int .i64 k ∧ b = .slice bo N cp ∧ Held wr bo N cp (framesOf (ls.take k)) ∧ (∀ s ∈ ls.take k, s.size ≤ 65536) ∧ Below w.heap.size w wr ∧ wr.ownsRow w.heap.size 3 1 ends k (endsV ls k)) (fun _ _ i _ => m - (intOf i).toNat)
  case atStart => exact ⟨0, none, 0, 0, by omega, rfl, rfl, held_nil _, by simp, Below.refl _ _, World.ownsRow_nil _ _ _ _⟩
  case round =>
    obtain ⟨k, bo, N, cp, hk, rfl, rfl, hb, hsm, hbl, hrow⟩ := hrel
    have HB := hid hb
    have HBL := hid hbl
    have HSM := hid hsm
    have HR := hid hrow
    have hN := hb.hlen
    have hNl := frames_len_bulk ls k
    clear hb hbl hsm hrow
    by_cases hkm : k < m
    · obtain ⟨c, HC⟩ : ∃ c, Hid (ls.getD k ByteArray.empty = c) := ⟨_, hid rfl⟩
      obtain ⟨b0, off0, hmo, _, _⟩ := HS.out.at (by omega : 0 < m)
      have hc1 : wr.cell? ⟨b0, off0 + k, none⟩ = some (.string c) := by rw [← HC.out]; exact HS.out.item HBL.out hkm hmo
      have hk0 : (0 : Int) ≤ (k : Int) := by omega
      have hkI : (k : Int) < (m : Int) := by omega
      by_cases hcs : c.size ≤ 65536
      · rw [hmo]
        go_wp2_with fail
        refine (put_new bo N cp (framesOf (ls.take k)) c wr (HT.out.here HBL.out) HB.out (by omega) hcs).mono ?_
        rintro e w3 ⟨bo3, N3, cp3, rfl, hh3, hb3, hn3⟩
        have HH3 : Hid (Held w3 bo3 N3 cp3 (framesOf (ls.take (k + 1)))) := by
          show Held _ _ _ _ _
          rw [framesOf_snoc (by omega), HC.out]; exact hh3
        have HB3 : Hid (Below w.heap.size w w3) := HBL.out.trans (hb3.mono HBL.out.size)
        have HSM3 : Hid (∀ s ∈ ls.take (k + 1), s.size ≤ 65536) := take_small (by omega) HSM.out (by rw [HC.out]; exact hcs)
        have HR3 : Hid (w3.ownsRow w.heap.size 3 1 u6 k (endsV ls k)) := ownsRow_below HR.out hb3 (Nat.le_refl _)
        have HN3 := hid hn3
        have hN3 := HH3.out.hlen
        have s3 := HB3.out.size
        clear hh3 hb3 hn3
        go_wp2_with (at_builtin; refine wpList_append_own_at _ rfl _ _ 38 rfl w.heap.size 3 iI (.int .i64 0) 1 8 Tryd.underlying38 hj hy0 hy1 hy2 rfl (by decide) _ _ _ rfl (HR3.out.alloc _) ⟨w3.heap.size, 0, none⟩ 1 1 [.int .i64 (N3 : Int)] rfl rfl (cell_one_new _ _ _) (by simp [Value.oneCell']) (by unfold maxLen; omega) (by omega) (by simp; omega) ?_)
        intro v' w4 hown4 hgrow4 _ _
        have HR4 : Hid (w4.ownsRow w.heap.size 3 1 v' (k + 1) (endsV ls (k + 1))) := by
          show World.ownsRow _ _ _ _ _ _ _
          rw [endsV_succ, hN3]; exact hown4
        have HB4 : Hid (Below w.heap.size w w4) := (HB3.out.alloc s3 _).grown hgrow4 (by simp; omega) (own_lt HR3.out)
        have HH4 : Hid (Held w4 bo3 N3 cp3 (framesOf (ls.take (k + 1)))) := (HH3.out.below ((Below.refl _ w3).alloc (Nat.le_refl _) _) (Nat.le_refl _)).grown hgrow4 (fun ad ha e => by
          have h1 := HN3.out ad ha
          have h2 := (HR.out.lt ad.block e.symm).2
          omega)
        clear hown4 hgrow4
        go_wp2
        go_roundw
        case rel =>
          exact ⟨k + 1, bo3, N3, cp3, by omega, by go_num, rfl, HH4.out, HSM3.out, HB4.out, HR4.out⟩
        case measure => simp [intOf]; omega
      · have hcmax : c.size ≤ 9223372036854775807 := by
          have := frames_len_take ls k (by omega)
          have h2 := frames_len_bulk ls (k + 1)
          rw [HC.out] at this
          omega
        have hcl : (65536 : Int) < (c.size : Int) := by omega
        rw [hmo]
        go_wp2_with fail
        refine (put_long _ c wr (by omega) hcmax).mono ?_
        rintro e w3 ⟨rfl, rfl⟩
        go_wp2_with fail
        refine (lives_any _ (HT.out.here HBL.out)).mono ?_
        rintro e w4 ⟨rfl, hb4⟩
        have HB4 : Hid (Below w.heap.size w w4) := HBL.out.trans (hb4.mono HBL.out.size)
        have hc4 : w4.cell? ⟨b0, off0 + k, none⟩ = some (.string c) := by rw [← HC.out]; exact HS.out.item HB4.out hkm hmo
        clear hb4 hc1
        go_wp2
        go_ret
        exact ⟨rfl, HB4.out⟩
    · have hkm' : k = m := by omega
      subst hkm'
      have hX : Held wr bo N cp (framesOf ls) := by
        have := HB.out
        rw [List.take_of_length_le (by omega)] at this
        exact this
      have hsmall : ∀ s ∈ ls, s.size ≤ 65536 := by
        have := HSM.out
        rw [List.take_of_length_le (by omega)] at this
        exact this
      have HX := hid hX
      have HSM' := hid hsmall
      have hNN := hX.hlen
      have sr := HBL.out.size
      clear hX hsmall HB HSM hN hNl
      obtain ⟨eo, ec, rfl, hec, hcells⟩ := own_form HR.out
      obtain ⟨g, hG⟩ : ∃ g, (0 < k → eo = some ⟨g, 0, none⟩ ∧ g < wr.heap.size ∧ ∀ j u, (endsV ls k)[j]? = some u → wr.cell? ⟨g, j, none⟩ = some u) := by
        by_cases h0 : 0 < k
        · obtain ⟨g, h1, _, h2, h3⟩ := hcells h0
          exact ⟨g, fun _ => ⟨h1, h2, h3⟩⟩
        · exact ⟨0, fun h => absurd h h0⟩
      have HCE := hid hG
      clear hcells HR hG
      obtain ⟨κ, t, hκ, htm, ht2⟩ : ∃ (κ : Nat) (t : Int), κ ≤ N ∧ cut.tmod ((N : Int) + 1) = t ∧ ((0 ≤ t ∧ t = κ) ∨ (t < 0 ∧ t + N + 1 = κ ∧ -((N : Int) + 1) < t)) := cut_mod cut N
      have hsl := fun W => run_cut_h (P := Tryd.prog) W 22 5 Tryd.underlying22 Tryd.size5 bo N cp κ κ rfl (by have := HX.out.hcap; omega)
      have HPC := hid (pays_cut ls κ HSM'.out)
      have HK := hid (HX.out.take hκ)
      rcases ht2 with ⟨h0, rfl⟩ | ⟨h0, h1, h2⟩
      all_goals
        go_wp2
        go_loop [11] (fun i => ∃ j : Nat, j ≤ k ∧ i = .int .i64 j ∧ (j = 0 ∨ (framesOf (ls.take j)).length ≤ κ)) (fun i => k - (intOf i).toNat)
        case atStart => exact ⟨0, by omega, rfl, .inl rfl⟩
        case round =>
          obtain ⟨j, hj, rfl, hjl⟩ := hrel
          obtain ⟨L, HL⟩ : ∃ L : Nat, Hid ((framesOf (ls.take (j + 1))).length = L) := ⟨_, hid rfl⟩
          have hj0 : (0 : Int) ≤ (j : Int) := by omega
          rcases (show (j < k ∧ L ≤ κ) ∨ (j < k ∧ ¬ L ≤ κ) ∨ j = k by omega) with ⟨hjk, hLk⟩ | hout
          · obtain ⟨heo, _, hc⟩ := HCE.out (by omega)
            have hcj : wr.cell? ⟨g, j, none⟩ = some (.int .i64 (L : Int)) := by rw [← HL.out]; exact hc j _ (endsV_get hjk)
            have hjI : (j : Int) < (k : Int) := by omega
            have hLI : (L : Int) ≤ (κ : Int) := by omega
            clear hc
            rw [heo]
            go_wp2
            go_round
            case rel => exact ⟨j + 1, by omega, by go_num, .inr (by rw [HL.out]; exact hLk)⟩
            case measure => simp [intOf]; omega
          · have hw : wholeN ls κ = j := wholeN_eq ls κ j (by omega) hjl (by rw [HL.out]; omega)
            have hscan := scan_plain bo κ cp ((framesOf ls).take κ) wr (HT.out.here HBL.out) HK.out (by omega)
            rw [HPC.out.1, HPC.out.2, hw] at hscan
            obtain ⟨E, HE⟩ : ∃ E : Nat, Hid ((framesOf (ls.take j)).length = E) := ⟨_, hid rfl⟩
            have hE := frames_len_bulk ls j
            rw [HE.out] at hscan hE
            have HSC := hid hscan
            have hsl2 := fun W => run_cut_h (P := Tryd.prog) W 30 9 Tryd.underlying30 Tryd.size9 lo k mc j j rfl (by omega)
            have HFIN : Hid (∀ W, Below wr.heap.size wr W → (j = 0 ∧ E = 0) ∨ ∃ i, j = i + 1 ∧ eo = some ⟨g, 0, none⟩ ∧ W.cell? ⟨g, i, none⟩ = some (.int .i64 (E : Int))) := by
              intro W hW
              rcases Nat.eq_zero_or_pos j with h0' | h0'
              · left
                refine ⟨h0', ?_⟩
                rw [← HE.out, h0']; rfl
              · right
                obtain ⟨heo, hg, hc⟩ := HCE.out (by omega)
                refine ⟨j - 1, by omega, heo, ?_⟩
                rw [hW.cell (by simpa using hg), hc (j - 1) _ (endsV_get (by omega)), show j - 1 + 1 = j by omega, HE.out]
            clear hscan hw
            rcases hout with ⟨hjk, hLk⟩ | hjk
            all_goals
              first
              | (obtain ⟨heo, _, hc⟩ := HCE.out (by omega)
                 have hcj : wr.cell? ⟨g, j, none⟩ = some (.int .i64 (L : Int)) := by rw [← HL.out]; exact hc j _ (endsV_get hjk)
                 have hjI : (j : Int) < (k : Int) := by omega
                 have hLI : ¬ (L : Int) ≤ (κ : Int) := by omega
                 have hd : decide (L ≤ κ) = false := by simpa using hLk
                 clear hc
                 go_wp2_with fail
                 clear hcj hjI hLI hd)
              | (have hd : decide (j < k) = false := by simp; omega
                 clear hjk
                 go_wp2_with fail
                 clear hd)
              refine HSC.out.mono ?_
              rintro e w3 ⟨mo, n3, c3, rfl, hs3, hb3⟩
              have HS3 := hid hs3
              have HB3r := hid hb3
              have HB3 : Hid (Below w.heap.size w w3) := HBL.out.trans (hb3.mono HBL.out.size)
              have s3r := hb3.size
              clear hs3 hb3 hsl
              go_wp2_with fail
              refine (lives_any _ (HT.out.here HB3.out)).mono ?_
              rintro e w4 ⟨rfl, hb4⟩
              have HB4 : Hid (Below w.heap.size w w4) := HB3.out.trans (hb4.mono HB3.out.size)
              have HB4r : Hid (Below wr.heap.size wr w4) := HB3r.out.trans (hb4.mono s3r)
              have HS4 : Hid (HeldS w4 mo n3 c3 (ls.take j)) := HS3.out.below hb4 (Nat.le_refl _)
              clear hb4
              go_wp2_with fail
              refine (sameTexts_eq mo lo n3 j c3 mc (ls.take j) w4 HS4.out ((HS.out.below HB4.out (Nat.le_refl _)).take hj)).mono ?_
              rintro e w5 ⟨rfl, q, rfl⟩
              clear hsl2
              rcases HFIN.out (w4.drewN q) (below_dn HB4r.out q) with ⟨hj1, hE1⟩ | ⟨i, hj1, heo', hcj⟩
              · subst hj1 hE1
                go_wp2
                go_ret
                exact ⟨rfl, below_dn HB4.out _⟩
              · subst hj1
                have hi0 : (0 : Int) ≤ (i : Int) := by omega
                have hiI : (i : Int) < (k : Int) := by omega
                go_wp2
                go_ret
                exact ⟨rfl, below_dn HB4.out _⟩
end Go.Proofs.YtmokelmeihmeiabDoor
