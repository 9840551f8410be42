/-
  pannierlaw02.FrameJoins answers true for any texts and any bytes of bulk at most 1048576, in whatever memory in which the table of remainders lies; it writes nothing that was there.
-/
import Derived.Test.YtmokelmeihmeiacDoorFApps
import Derived.Test.YtmokelmeihmeiacDoorFLives
import Derived.Test.YtmokelmeihmeiacDoorFSame
namespace Go.Proofs.YtmokelmeihmeiacDoor
open Go.RowKit
attribute [local go_sem ↓] Go.wp_at_zero Go.wp_at_succ

set_option maxHeartbeats 3200000 in
theorem frameJoins_walk (lo : Option Addr) (m mc : Nat) (ls : List ByteArray) (ao : Option Addr) (len cap : Nat) (bs : List Int) (w : World) (ht : Tab w) (hS : HeldS w lo m mc ls) (hfr : (framesOf ls).length ≤ 100000000) (hm : m ≤ 1048576) (h : Held w ao len cap bs) (hl : len ≤ 1048576) :
    Calls Tryd.prog 4 #[.slice lo m mc, .slice ao len cap] w fun e w' => e = .returned (.bool true) ∧ Below w.heap.size w w' := by
  obtain ⟨i0, hi, hz0, hz1, hz2⟩ := info_parts Tryd.info5
  obtain ⟨i9, hj, hy0, hy1, hy2⟩ := info_parts Tryd.info9
  have hlen := h.hlen
  have hml := hS.hlen
  have HH := hid h
  have HT := hid ht
  have HS := hid hS
  clear h ht hS
  go_enter Tryd.func4, Tryd.ntmps4
  go_wp2
  go_loopw [5, 6] (fun b i wr => ∃ (k : Nat) (bo : Option Addr) (N cp : Nat), k ≤ m ∧ i = .int .i64 k ∧ b = .slice bo N cp ∧ Held wr bo N cp (framesOf (ls.take k)) ∧ (∀ s ∈ ls.take k, s.size ≤ 65536) ∧ Below w.heap.size w wr) (fun _ i _ => m - (intOf i).toNat)
  case atStart => exact ⟨0, none, 0, 0, by omega, rfl, rfl, held_nil _, by simp, Below.refl _ _⟩
  case round =>
    obtain ⟨k, bo, N, cp, hk, rfl, rfl, hb, hsm, hbl⟩ := hrel
    have HB := hid hb
    have HBL := hid hbl
    have HSM := hid hsm
    have hN := hb.hlen
    have hNl := frames_len_bulk ls k
    clear hb hbl hsm
    by_cases hkm : k < m
    · obtain ⟨c, HC⟩ : ∃ c, Hid (ls.getD k ByteArray.empty = c) := ⟨_, hid rfl⟩
      obtain ⟨b0, off0, hmo, _, _⟩ := HS.out.at (by omega : 0 < m)
      have hc1 : wr.cell? ⟨b0, off0 + k, none⟩ = some (.string c) := by rw [← HC.out]; exact HS.out.item HBL.out hkm hmo
      have hk0 : (0 : Int) ≤ (k : Int) := by omega
      have hkI : (k : Int) < (m : Int) := by omega
      by_cases hcs : c.size ≤ 65536
      · rw [hmo]
        go_wp2_with fail
        refine (put_any bo N cp (framesOf (ls.take k)) c wr (HT.out.here HBL.out) HB.out (by omega) hcs).mono ?_
        rintro e w3 ⟨bo3, N3, cp3, rfl, hh3, hb3⟩
        have HH3 : Hid (Held w3 bo3 N3 cp3 (framesOf (ls.take (k + 1)))) := by
          show Held _ _ _ _ _
          rw [framesOf_snoc (by omega), HC.out]; exact hh3
        have HB3 : Hid (Below w.heap.size w w3) := HBL.out.trans (hb3.mono HBL.out.size)
        have HSM3 : Hid (∀ s ∈ ls.take (k + 1), s.size ≤ 65536) := take_small (by omega) HSM.out (by rw [HC.out]; exact hcs)
        clear hh3 hb3
        go_wp2
        go_roundw
        case rel =>
          exact ⟨k + 1, bo3, N3, cp3, by omega, by go_num, rfl, HH3.out, HSM3.out, HB3.out⟩
        case measure => simp [intOf]; omega
      · have hcmax : c.size ≤ 9223372036854775807 := by
          have := frames_len_take ls k (by omega)
          have h2 := frames_len_bulk ls (k + 1)
          rw [HC.out] at this
          omega
        have hcl : (65536 : Int) < (c.size : Int) := by omega
        rw [hmo]
        go_wp2_with fail
        refine (put_long _ c wr (by omega) hcmax).mono ?_
        rintro e w3 ⟨rfl, rfl⟩
        go_wp2_with fail
        refine (lives_any _ (HT.out.here HBL.out)).mono ?_
        rintro e w4 ⟨rfl, hb4⟩
        have HB4 : Hid (Below w.heap.size w w4) := HBL.out.trans (hb4.mono HBL.out.size)
        have hc4 : w4.cell? ⟨b0, off0 + k, none⟩ = some (.string c) := by rw [← HC.out]; exact HS.out.item HB4.out hkm hmo
        clear hb4 hc1
        go_wp2
        go_ret
        exact ⟨rfl, HB4.out⟩
    · have hkm' : k = m := by omega
      have hX : Held wr bo N cp (framesOf ls) := by
        have := HB.out
        rw [List.take_of_length_le (by omega)] at this
        exact this
      have hsmall : ∀ s ∈ ls, s.size ≤ 65536 := by
        have := HSM.out
        rw [List.take_of_length_le (by omega)] at this
        exact this
      have HX := hid hX
      have HSM' := hid hsmall
      have hNN := hX.hlen
      have sr := HBL.out.size
      clear hX hsmall HB HSM hN hNl
      have hba : Below w.heap.size w (wr.alloc (.cells #[] 5)) := HBL.out.alloc sr _
      have hbar : Below wr.heap.size wr (wr.alloc (.cells #[] 5)) := (Below.refl _ wr).alloc (Nat.le_refl _) _
      go_wp2_with (at_builtin; refine wpList_append_held _ rfl _ _ 23 rfl wr.heap.size 5 i0 Tryd.underlying23 hi hz0 hz1 hz2 _ 0 [] rfl (own_made wr _ (Nat.le_refl _)) allb_nil bo N cp (framesOf ls) rfl (HX.out.below hbar (Nat.le_refl _)) (by omega) (by simp) ?_)
      intro o1 c1 w1 hown1 hheld1 hb1 _
      have HO1 : Hid (w1.ownsRow wr.heap.size 5 1 (.slice o1 N c1) N (nums (framesOf ls))) := hid (by simpa using hown1)
      have HB1 : Hid (Below wr.heap.size wr w1) := hbar.trans hb1
      have s1 := HB1.out.size
      clear hown1 hheld1 hb1 hba hbar
      go_wp2_with (at_builtin; refine wpList_append_held _ rfl _ _ 23 rfl wr.heap.size 5 i0 Tryd.underlying23 hi hz0 hz1 hz2 _ N (framesOf ls) rfl HO1.out HX.out.byte ao len cap bs rfl (HH.out.below (HBL.out.trans (HB1.out.mono sr)) (Nat.le_refl _)) (by omega) (by omega) ?_)
      intro o2 c2 w2 hown2 hheld2 hb2 _
      have HH2 : Hid (Held w2 o2 (N + len) c2 (framesOf ls ++ bs)) := hid hheld2
      have HB2 : Hid (Below w.heap.size w w2) := HBL.out.trans ((HB1.out.trans hb2).mono sr)
      clear hown2 hheld2 hb2 HO1 HB1
      have hpj := pays_join ls bs HSM'.out
      have hsc := scan_plain o2 (N + len) c2 (framesOf ls ++ bs) w2 (HT.out.here HB2.out) HH2.out (by omega)
      rw [hpj.1, hpj.2, hNN] at hsc
      have HSC := hid hsc
      clear hsc hpj
      go_wp2_with fail
      refine HSC.out.mono ?_
      rintro e w3 ⟨mo, nn, mcc, rfl, hs3, hb3⟩
      have HS3 := hid hs3
      have HB3 : Hid (Below w.heap.size w w3) := HB2.out.trans (hb3.mono HB2.out.size)
      clear hs3 hb3 HSC
      have hsc := scan_plain ao len cap bs w3 (HT.out.here HB3.out) (HH.out.below HB3.out (Nat.le_refl _)) (by omega)
      have hpl : (pays bs).length ≤ len := by
        rw [← scan_pays, List.length_map]
        have := scanAll_len bs
        omega
      have hpe : endP bs ≤ len := by rw [← end_pays]; have := endN_le bs; omega
      obtain ⟨E, HE⟩ : ∃ E, Hid (endP bs = E) := ⟨_, hid rfl⟩
      obtain ⟨ps, HP⟩ : ∃ ps, Hid (pays bs = ps) := ⟨_, hid rfl⟩
      rw [HE.out, HP.out] at hsc
      rw [HP.out] at hpl HS3
      rw [HE.out] at hpe ⊢
      have HSC := hid hsc
      clear hsc
      go_wp2_with fail
      refine HSC.out.mono ?_
      rintro e w4 ⟨xo, xn, xc, rfl, hs4, hb4⟩
      have HS4 := hid hs4
      have hxn := hs4.hlen
      have HB34 := hid hb4
      have HB4 : Hid (Below w.heap.size w w4) := HB3.out.trans (hb4.mono HB3.out.size)
      clear hs4 hb4 HSC
      go_wp2_with fail
      refine (lives_any _ (HT.out.here HB4.out)).mono ?_
      rintro e w5 ⟨rfl, hb5⟩
      have HB45 := hid hb5
      have HB5 : Hid (Below w.heap.size w w5) := HB4.out.trans (hb5.mono HB4.out.size)
      have s5 := HB5.out.size
      clear hb5
      have hbar : Below w5.heap.size w5 (w5.alloc (.cells #[] 9)) := (Below.refl _ w5).alloc (Nat.le_refl _) _
      go_wp2_with (at_builtin; refine wpList_append_texts _ (by first | rfl | simp [Region.wanted, yielded]) _ _ 22 rfl w5.heap.size 9 i9 Tryd.underlying22 hj hy0 hy1 hy2 _ 0 [] rfl (ownS_made w5 _ (Nat.le_refl _)) lo m mc ls rfl ((HS.out.below HB5.out (Nat.le_refl _)).below hbar (Nat.le_refl _)) (by omega) (by simp) ?_)
      intro o6 c6 w6 hown6 _ hb6
      have HO6 : Hid (w6.ownsRow w5.heap.size 9 1 (.slice o6 m c6) m (texts ls)) := hid (by simpa using hown6)
      have HB56 : Hid (Below w5.heap.size w5 w6) := hbar.trans hb6
      have s6 := HB56.out.size
      clear hown6 hb6 hbar
      have HS45 : Hid (HeldS w6 xo xn xc ps) := (HS4.out.below HB45.out (Nat.le_refl _)).below HB56.out (Nat.le_refl _)
      go_wp2_with (at_builtin; refine wpList_append_texts _ (by first | rfl | simp [Region.wanted, yielded]) _ _ 22 rfl w5.heap.size 9 i9 Tryd.underlying22 hj hy0 hy1 hy2 _ m ls rfl HO6.out xo xn xc ps rfl HS45.out (by omega) s6 ?_)
      intro o7 c7 w7 _ hheld7 hb7
      have HS7 := hid hheld7
      have HB57 : Hid (Below w5.heap.size w5 w7) := HB56.out.trans hb7
      have HB7 : Hid (Below w.heap.size w w7) := HB5.out.trans (HB57.out.mono s5)
      have HM7 : Hid (HeldS w7 mo nn mcc (ls ++ ps)) := ((HS3.out.below HB34.out (Nat.le_refl _)).below HB45.out (Nat.le_refl _)).below HB57.out (Nat.le_refl _)
      clear hheld7 hb7 HB56 HO6 HS45
      go_wp2_with fail
      refine (sameTexts_eq mo o7 nn (m + xn) mcc c7 (ls ++ ps) w7 HM7.out HS7.out).mono ?_
      rintro e w8 ⟨rfl, q, rfl⟩
      go_wp2
      go_ret
      exact ⟨rfl, below_dn HB7.out _⟩
end Go.Proofs.YtmokelmeihmeiacDoor
