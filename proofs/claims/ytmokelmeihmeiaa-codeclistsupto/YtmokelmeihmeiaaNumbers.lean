/-
  The law CodecNumbers: for every uint64 x and all bytes ahead and behind the Go text answers true, and writes nothing that was there; no condition but the form's own reach (each argument takes fewer than 2^47 bytes).
-/
import Derived.Test.YtmokelmeihmeiaaSame
import Derived.Test.YtmokelmeihmeiaaLives
namespace Go.Proofs.Ytmokelmeihmeiaa
open Go.RowKit

theorem codecUint_held (ao : Option Addr) (len cap : Nat) (bs : List Int) (x : Nat) (w : World) (h : Held w ao len cap bs) (hx : x < 18446744073709551616) (hm : len ≤ 140737488355000) :
    Calls Try.prog 8 #[.slice ao len cap, .int .u64 x] w fun e w' => ∃ bo cp, e = .returned (.slice bo (len + (enc x).length) cp) ∧ Held w' bo (len + (enc x).length) cp (bs ++ enc x) ∧ Below w.heap.size w w' := by
  refine (codecUint_any ao len cap bs x w h (by omega) (by omega) hm).mono ?_
  rintro e w' ⟨v, rfl, hown, hb⟩
  rw [Int.toNat_natCast] at hown
  obtain ⟨bo, cp, rfl, hh⟩ := held_of_own hown (h.byte.append (enc_byte x))
  exact ⟨bo, cp, rfl, hh, hb⟩

/-- An empty row, just made. -/
theorem own_made (w : World) (B : Nat) (hB : B ≤ w.heap.size) : (w.alloc (.cells #[] 5)).ownsRow B 5 1 (.slice (some ⟨w.heap.size, 0, none⟩) 0 0) 0 (nums []) :=
  World.ownsRow_made w #[] 0 hB (Nat.zero_le _) rfl

set_option maxHeartbeats 1000000 in
theorem numbers_walk (x : Nat) (a1 : Option Addr) (len1 cap1 : Nat) (ahead : List Int) (a2 : Option Addr) (len2 cap2 : Nat) (behind : List Int) (w : World) (hx : x < 18446744073709551616)
    (h1 : Held w a1 len1 cap1 ahead) (hl1 : len1 ≤ 140737488351232) (h2 : Held w a2 len2 cap2 behind) (hl2 : len2 ≤ 140737488351232) :
    Calls Try.prog 3 #[.int .u64 x, .slice a1 len1 cap1, .slice a2 len2 cap2] w fun e w' => e = .returned (.bool true) ∧ Below w.heap.size w w' := by
  obtain ⟨i0, hi, hz0, hz1, hz2⟩ := info_parts Try.info5
  have HH1 := hid h1
  have HH2 := hid h2
  have h10 := enc_le10 hx
  have hp := enc_pos x
  clear h1 h2
  go_enter Try.func3, Try.ntmps3
  have hba : Below w.heap.size w (w.alloc (.cells #[] 5)) := (Below.refl _ w).alloc (Nat.le_refl _) _
  go_wp2_with (at_builtin; refine wpList_append_held _ rfl _ _ 23 rfl w.heap.size 5 i0 Try.underlying23 hi hz0 hz1 hz2 _ 0 [] rfl (own_made w _ (Nat.le_refl _)) (by intro c hc; cases hc) a1 len1 cap1 ahead rfl (HH1.out.below hba (Nat.le_refl _)) (by omega) (by simp) ?_)
  intro o1 c1 w1 hown1 hheld1 hb1 _
  have HO1 : Hid (Held w1 o1 len1 c1 ahead) := hid (by simpa using hheld1)
  have HB1 : Hid (Below w.heap.size w w1) := hba.trans hb1
  have s1 : w.heap.size ≤ w1.heap.size := HB1.out.size
  clear hown1 hheld1 hb1 hba
  go_wp2_with fail
  refine (codecUint_held o1 len1 c1 ahead x w1 HO1.out hx (by omega)).mono ?_
  rintro e w2 ⟨o2, c2, rfl, hheld2, hb2⟩
  have HO2 : Hid (Held w2 o2 (len1 + (enc x).length) c2 (ahead ++ enc x)) := hheld2
  have HB2 : Hid (Below w1.heap.size w1 w2) := hb2
  have HBw2 : Hid (Below w.heap.size w w2) := HB1.out.trans (hb2.mono s1)
  have s2 : w1.heap.size ≤ w2.heap.size := hb2.size
  clear hheld2 hb2
  have ha2 : Below w.heap.size w (w2.alloc (.cells #[] 5)) := HBw2.out.alloc (by omega) _
  go_wp2_with (at_builtin; refine wpList_append_held _ rfl _ _ 23 rfl w2.heap.size 5 i0 Try.underlying23 hi hz0 hz1 hz2 _ 0 [] rfl (own_made w2 _ (Nat.le_refl _)) (by intro c hc; cases hc) a1 len1 cap1 ahead rfl (HH1.out.below ha2 (Nat.le_refl _)) (by omega) (by simp) ?_)
  intro o3 c3 w3 hown3 hheld3 hb3 _
  have HO3 : Hid (w3.ownsRow w2.heap.size 5 1 (.slice o3 len1 c3) len1 (nums ahead)) := hid (by simpa using hown3)
  have HB3 : Hid (Below w2.heap.size w2 w3) := ((Below.refl _ w2).alloc (Nat.le_refl _) _).trans hb3
  have s3 : w2.heap.size ≤ w3.heap.size := HB3.out.size
  clear hown3 hheld3 hb3 ha2
  go_wp2_with fail
  refine (refUint_heldN x w3 hx).mono ?_
  rintro e w4 ⟨o4, c4, rfl, hh4, hown4, hb4⟩
  have HO4 : Hid (Held w4 o4 (enc x).length c4 (enc x)) := hh4
  have HB4 : Hid (Below w3.heap.size w3 w4) := hb4
  have s4 : w3.heap.size ≤ w4.heap.size := hb4.size
  clear hh4 hown4 hb4
  go_wp2_with (at_builtin; refine wpList_append_held _ rfl _ _ 23 rfl w2.heap.size 5 i0 Try.underlying23 hi hz0 hz1 hz2 _ len1 ahead rfl (ownsRow_below HO3.out HB4.out (Nat.le_refl _)) HH1.out.byte o4 (enc x).length c4 (enc x) rfl HO4.out (by omega) (by omega) ?_)
  intro o5 c5 w5 hown5 hheld5 hb5 _
  have HO5 : Hid (Held w5 o5 (len1 + (enc x).length) c5 (ahead ++ enc x)) := hheld5
  have HB5 : Hid (Below w2.heap.size w2 w5) := (HB3.out.trans (HB4.out.mono s3)).trans hb5
  have s5 : w4.heap.size ≤ w5.heap.size := hb5.size
  clear hown5 hheld5 hb5
  go_wp2_with fail
  refine (lives_any w5).mono ?_
  rintro e w6 ⟨rfl, hb6⟩
  have HB6 : Hid (Below w5.heap.size w5 w6) := hb6
  have s6 : w5.heap.size ≤ w6.heap.size := hb6.size
  have hb26 : Below w2.heap.size w2 w6 := HB5.out.trans (hb6.mono (by omega))
  have HB26 : Hid (Below w2.heap.size w2 w6) := hb26
  have hcv2 := run_convert_held (P := Try.prog) (HO2.out.below hb26 (Nat.le_refl _)) 23 5 9 Try.underlying23 Try.underlying5 Try.underlying9
  have hcv5 := run_convert_held (P := Try.prog) (HO5.out.below hb6 (Nat.le_refl _)) 23 5 9 Try.underlying23 Try.underlying5 Try.underlying9
  have hcv1 := run_convert_held (P := Try.prog) (HO1.out.below (HB2.out.trans (hb26.mono s2)) (Nat.le_refl _)) 23 5 9 Try.underlying23 Try.underlying5 Try.underlying9
  have hcva := run_convert_held (P := Try.prog) (HH1.out.below (HBw2.out.trans (hb26.mono (by omega))) (Nat.le_refl _)) 23 5 9 Try.underlying23 Try.underlying5 Try.underlying9
  clear hb6 hb26
  obtain ⟨S, hS⟩ : ∃ S, S = strOfNums (ahead ++ enc x) := ⟨_, rfl⟩
  obtain ⟨R, hR⟩ : ∃ R, R = strOfNums ahead := ⟨_, rfl⟩
  rw [← hS] at hcv2 hcv5
  rw [← hR] at hcv1 hcva
  clear hS hR
  have hsl : ∀ W, (Instr.slice 23 (.slice o2 (len1 + (enc x).length) c2) (some (.int .i64 (len1 : Int))) none none).run Try.prog W = .ok (.slice (cutAt o2 c2 len1) (enc x).length (c2 - len1)) W := by
    intro W
    have := run_cut_l (P := Try.prog) W 23 5 Try.underlying23 Try.size5 o2 (len1 + (enc x).length) c2 len1 len1 rfl (by omega)
    rwa [Nat.add_sub_cancel_left] at this
  have HC : Hid (Held w6 (cutAt o2 c2 len1) (enc x).length (c2 - len1) (enc x)) := by
    have := (HO2.out.below HB26.out (Nat.le_refl _)).cutl (l := len1) (by omega)
    rw [Nat.add_sub_cancel_left] at this
    have hl : ahead.length = len1 := HH1.out.hlen
    rw [← hl, List.drop_left, hl] at this
    exact this
  have ha6 : Below w6.heap.size w6 (w6.alloc (.cells #[] 5)) := (Below.refl _ w6).alloc (Nat.le_refl _) _
  have HBw6 : Hid (Below w.heap.size w w6) := HBw2.out.trans (HB26.out.mono (by omega))
  go_wp2_with (at_builtin; refine wpList_append_held _ rfl _ _ 23 rfl w6.heap.size 5 i0 Try.underlying23 hi hz0 hz1 hz2 _ 0 [] rfl (own_made w6 _ (Nat.le_refl _)) (by intro c hc; cases hc) (cutAt o2 c2 len1) (enc x).length (c2 - len1) (enc x) rfl (HC.out.below ha6 (Nat.le_refl _)) (by omega) (by simp) ?_)
  intro o7 c7 w7 hown7 hheld7 hb7 _
  have HO7 : Hid (w7.ownsRow w6.heap.size 5 1 (.slice o7 (enc x).length c7) (enc x).length (nums (enc x))) := hid (by simpa using hown7)
  have HB7 : Hid (Below w6.heap.size w6 w7) := ha6.trans hb7
  have s7 : w6.heap.size ≤ w7.heap.size := HB7.out.size
  clear hown7 hheld7 hb7 ha6 hsl hcv2 hcv5 hcv1 hcva
  have hb7w : Below w.heap.size w w7 := HBw6.out.trans (HB7.out.mono (by omega))
  go_wp2_with (at_builtin; refine wpList_append_held _ rfl _ _ 23 rfl w6.heap.size 5 i0 Try.underlying23 hi hz0 hz1 hz2 _ (enc x).length (enc x) rfl HO7.out (enc_byte x) a2 len2 cap2 behind rfl (HH2.out.below hb7w (Nat.le_refl _)) (by omega) (by omega) ?_)
  intro o8 c8 w8 hown8 hheld8 hb8 _
  have HO8 : Hid (Held w8 o8 ((enc x).length + len2) c8 (enc x ++ behind)) := hheld8
  have HB8 : Hid (Below w.heap.size w w8) := hb7w.trans (hb8.mono (by omega))
  clear hown8 hheld8 hb8 hb7w
  have hrd := readUint_any o8 ((enc x).length + len2) c8 (enc x ++ behind) w8 HO8.out
  rw [dec_enc hx] at hrd
  have HRD := hid hrd
  clear hrd
  go_wp2_with fail
  refine HRD.out.mono ?_
  rintro e w9 ⟨rfl, rfl⟩
  go_wp2
  go_ret
  exact ⟨ret_bool (beq_iff_eq.2 (by omega)), HB8.out⟩
end Go.Proofs.Ytmokelmeihmeiaa
