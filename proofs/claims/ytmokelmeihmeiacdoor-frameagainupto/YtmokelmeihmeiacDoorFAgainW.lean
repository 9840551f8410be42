/-
  pannierlaw02.FrameAgain answers true for any bytes of at most 1048576, in whatever memory in which the table of remainders lies; it writes nothing that was there.
-/
import Derived.Test.YtmokelmeihmeiacDoorFApps
import Derived.Test.YtmokelmeihmeiacDoorFLives
import Derived.Test.YtmokelmeihmeiacDoorFSame
namespace Go.Proofs.YtmokelmeihmeiacDoor
open Go.RowKit
attribute [local go_sem ↓] Go.wp_at_zero Go.wp_at_succ

set_option maxHeartbeats 1600000 in
theorem frameAgain_walk (ao : Option Addr) (len cap : Nat) (bs : List Int) (w : World) (ht : Tab w) (h : Held w ao len cap bs) (hl : len ≤ 1048576) :
    Calls Tryd.prog 5 #[.slice ao len cap] w fun e w' => e = .returned (.bool true) ∧ Below w.heap.size w w' := by
  have hlen := h.hlen
  have hcap := h.hcap
  have hag := again_pays bs.length bs (Nat.le_refl _) h.byte
  have hend : endP bs ≤ len := by rw [← end_pays]; have := endN_le bs; omega
  obtain ⟨n, hn⟩ : ∃ n, n = endP bs := ⟨_, rfl⟩
  have hscan := scan_plain ao len cap bs w ht h (by omega)
  rw [← hn] at hscan hend hag
  obtain ⟨ls, hls⟩ : ∃ ls, ls = pays bs := ⟨_, rfl⟩
  rw [← hls] at hscan hag
  have hlsl : ls.length ≤ len := by
    rw [hls, ← scan_pays, List.length_map]
    have := scanAll_len bs
    omega
  have hflen : (framesOf ls).length = n := by rw [hag.1]; simp; omega
  have HH := hid h
  have HT := hid ht
  have HSC := hid hscan
  have HAG := hid hag
  clear h ht hscan hag hls hn
  go_enter Tryd.func5, Tryd.ntmps5
  go_wp2_with fail
  refine HSC.out.mono ?_
  rintro e w1 ⟨mo, m, mc, rfl, hs1, hb1⟩
  have HS1 := hid hs1
  have HB1 := hid hb1
  have s1 := hb1.size
  have hm := hs1.hlen
  have hmx := hs1.hmax
  have hmc := hs1.hcap
  clear hs1 hb1 HSC
  go_wp2_with fail
  refine (lives_any w1 (HT.out.here HB1.out)).mono ?_
  rintro e w2 ⟨rfl, hb2⟩
  have HB2 : Hid (Below w.heap.size w w2) := HB1.out.trans (hb2.mono s1)
  have HS2 : Hid (HeldS w2 mo m mc ls) := HS1.out.below hb2 (Nat.le_refl _)
  have s2 := hb2.size
  clear hb2 HS1
  have hn0 : decide ((n : Int) < 0) = false := by simp
  have hn1 : decide (len < n) = false := by simp; omega
  go_wp2
  clear hn0 hn1
  go_loopw [5, 6] (fun b i wr => ∃ (k : Nat) (bo : Option Addr) (N cp : Nat), k ≤ m ∧ i = .int .i64 k ∧ b = .slice bo N cp ∧ Held wr bo N cp (framesOf (ls.take k)) ∧ Below w2.heap.size w2 wr) (fun _ i _ => m - (intOf i).toNat)
  case atStart => exact ⟨0, none, 0, 0, by omega, rfl, rfl, held_nil _, Below.refl _ _⟩
  case round =>
    obtain ⟨k, bo, N, cp, hk, rfl, rfl, hb, hbl⟩ := hrel
    have HB := hid hb
    have HBL := hid hbl
    have hN := hb.hlen
    have hNl := frames_len_bulk ls k
    clear hb hbl
    by_cases hkm : k < m
    · obtain ⟨c, HC⟩ : ∃ c, Hid (c = ls.getD k ByteArray.empty) := ⟨_, rfl⟩
      obtain ⟨b0, off0, hmo, hlt0, hcell⟩ := HS2.out.at (by omega : 0 < m)
      have hc1 : wr.cell? ⟨b0, off0 + k, none⟩ = some (.string c) := by rw [HBL.out.cell (by simpa using hlt0), HC.out]; exact hcell k hkm
      have hcs : c.size ≤ 65536 := by
        rw [HC.out]
        apply HAG.out.2
        have : k < ls.length := by omega
        simp [List.getD, List.getElem?_eq_getElem this]
      have hk0 : (0 : Int) ≤ (k : Int) := by omega
      have hkI : (k : Int) < (m : Int) := by omega
      clear hcell
      rw [hmo]
      go_wp2_with fail
      refine (put_any bo N cp (framesOf (ls.take k)) c wr (HT.out.here (HB2.out.trans (HBL.out.mono (by have := HB2.out.size; omega)))) HB.out (by omega) hcs).mono ?_
      rintro e w3 ⟨bo3, N3, cp3, rfl, hh3, hb3⟩
      have HH3 : Hid (Held w3 bo3 N3 cp3 (framesOf (ls.take (k + 1)))) := by
        show Held _ _ _ _ _
        rw [framesOf_snoc (by omega), ← HC.out]; exact hh3
      have HB3 : Hid (Below w2.heap.size w2 w3) := HBL.out.trans (hb3.mono HBL.out.size)
      clear hh3 hb3
      go_wp2
      go_roundw
      case rel =>
        exact ⟨k + 1, bo3, N3, cp3, by omega, by go_num, rfl, HH3.out, HB3.out⟩
      case measure => simp [intOf]; omega
    · have hkm' : k = m := by omega
      have hX : Held wr bo N cp (bs.take n) := by
        have := HB.out
        rw [List.take_of_length_le (by omega), HAG.out.1] at this
        exact this
      have hbr : Below w.heap.size w wr := HB2.out.trans (HBL.out.mono (by have := HB2.out.size; omega))
      have hY : Held wr ao n cap (bs.take n) := (HH.out.below hbr (Nat.le_refl _)).take hend
      have hcx := fun q => run_convert_held (P := Tryd.prog) (hX.drawn q) 23 5 9 Tryd.underlying23 Tryd.underlying5 Tryd.underlying9
      have hcy := fun q => run_convert_held (P := Tryd.prog) (hY.drawn q) 23 5 9 Tryd.underlying23 Tryd.underlying5 Tryd.underlying9
      have hsl := fun W => run_cut_h (P := Tryd.prog) W 23 5 Tryd.underlying23 Tryd.size5 ao len cap n n rfl (by omega)
      obtain ⟨X, HX⟩ : ∃ X, Hid (strOfNums (bs.take n) = X) := ⟨_, hid rfl⟩
      simp only [HX.out] at hcx hcy
      have HBR := hid hbr
      clear hX hY hbr
      go_wp2
      go_quiet (fail)
      go_wp2
      go_ret
      exact ⟨rfl, below_dn HBR.out _⟩
end Go.Proofs.YtmokelmeihmeiacDoor
