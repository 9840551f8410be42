/-
  The law's 'does', of Read, Stop, looks, for two disks that have the same.
-/
import Derived.Test.YtjfohnkfcfifeaaRzD
import Derived.Test.YtjfohnkfcfifeaaOpOpen4
import Derived.Deep.RegionHeld3
namespace Go.Proofs.Ytjfohnkfcfifeaa
open Go.RowKit Go.Maps
/-- Both disks, the same on them. -/
def DkS (w V : World) (p bm x : Nat) (size : Int) : Prop := ∃ c fs g, Dk w V p bm size c fs x size g ∧ Same3 fs c g
section
variable {w0 w : World} {p bm x : Nat} {size c : Int} {fs : List Fl} {g : Xd}
theorem DkS.below {V V' : World} (h : DkS w0 V p bm x size) (hb : Below V.heap.size V V') : DkS w0 V' p bm x size := by
  obtain ⟨c, fs, g, h1, h2⟩ := h
  exact ⟨c, fs, g, h1.below hb, h2⟩
set_option maxRecDepth 100000 in
set_option maxHeartbeats 2000000 in
theorem doesS_6 (hd : Dk w0 w p bm size c fs x size g) (hs : Same3 fs c g) (o : OpV) (hok : o.Ok) (hk : o.kind = 6) :
    Calls Try.prog 11 #[.pointer (some ⟨p, 0, none⟩), .pointer (some ⟨x, 0, none⟩), .agg o.cells.toArray] w fun e V => e = .returned (.bool true) ∧ DkS w0 V p bm x size := by
  have k1b : (o.kind == 1) = false := by simp [hk]
  have k2b : (o.kind == 2) = false := by simp [hk]
  have k3b : (o.kind == 3) = false := by simp [hk]
  have k4b : (o.kind == 4) = false := by simp [hk]
  have k5b : (o.kind == 5) = false := by simp [hk]
  have kb : (o.kind == 6) = true := by simp [hk]
  have hbx : Below w.heap.size w (w.alloc (.cells o.cells.toArray 34)) := (Below.refl _ w).alloc (Nat.le_refl _) _
  have HD := hid (hd.below hbx)
  have HS := hid hs
  obtain ⟨D, hda⟩ := HD.out.da
  obtain ⟨eo, cap, hxd⟩ := HD.out.xd
  have HRP := hid (read_p (s := o.name) hda hok.2.2.1)
  rw [hs.rd.1, hs.rd.2] at HRP
  have HRD := hid (hxd.read o.name)
  have k0 := (Blk.new w 34 o.cells).cell (i := 0) rfl
  have k1 := (Blk.new w 34 o.cells).cell (i := 1) rfl
  obtain ⟨rv, hrv⟩ : ∃ q, q = readV g o.name := ⟨_, rfl⟩
  obtain ⟨rc, hrc⟩ : ∃ q, q = readC g o.name := ⟨_, rfl⟩
  rw [← hrv, ← hrc] at HRP HRD
  have hvb : (rv.toList == rv.toList) = true := by simp
  have hcb : (rc == rc) = true := by simp
  unfold OpV.cells at *
  clear hd hs hok hk hbx hda hxd hrv hrc
  go_enter Try.func11, Try.ntmps11
  go_wp2_with fail
  refine HRP.out.mono ?_
  rintro e w9 ⟨rfl, rfl⟩
  go_wp2_with fail
  refine HRD.out.mono ?_
  rintro e w10 ⟨rfl, hb10⟩
  have HEND : Hid (DkS w0 w10 p bm x size) := ⟨_, _, _, HD.out.below hb10, HS.out⟩
  clear hb10
  go_wp2
  go_ret
  exact ⟨rfl, HEND.out⟩
set_option maxRecDepth 100000 in
set_option maxHeartbeats 2000000 in
theorem doesS_9 (hd : Dk w0 w p bm size c fs x size g) (hs : Same3 fs c g) (o : OpV) (hok : o.Ok) (hk : o.kind = 9) :
    Calls Try.prog 11 #[.pointer (some ⟨p, 0, none⟩), .pointer (some ⟨x, 0, none⟩), .agg o.cells.toArray] w fun e V => e = .returned (.bool true) ∧ DkS w0 V p bm x size := by
  have k1b : (o.kind == 1) = false := by simp [hk]
  have k2b : (o.kind == 2) = false := by simp [hk]
  have k3b : (o.kind == 3) = false := by simp [hk]
  have k4b : (o.kind == 4) = false := by simp [hk]
  have k5b : (o.kind == 5) = false := by simp [hk]
  have k6b : (o.kind == 6) = false := by simp [hk]
  have k7b : (o.kind == 7) = false := by simp [hk]
  have kb : (o.kind == 9) = true := by simp [hk]
  obtain ⟨Z, hZ⟩ : ∃ Z, Z = w.alloc (.cells o.cells.toArray 34) := ⟨_, rfl⟩
  have hbx : Below w.heap.size w Z := by rw [hZ]; exact (Below.refl _ w).alloc (Nat.le_refl _) _
  have hbk : Blk Z w.heap.size 34 o.cells := by rw [hZ]; exact Blk.new w 34 o.cells
  have HBK := hid hbk
  have HD := hid (hd.below hbx)
  have HS := hid hs
  have HIN : Hid (-9223372036854775808 ≤ o.n ∧ o.n ≤ 9223372036854775807) := hok.2.1
  obtain ⟨D, hda⟩ := HD.out.da
  have HST := hid (stop_chg hda o.n HIN.out)
  have hft : ¬ DFoot p bm fs w.heap.size := fun h => by
    obtain ⟨D, hda⟩ := hd.da
    exact Nat.lt_irrefl _ (hda.foot_lt _ h)
  have HFT := hid hft
  have k0 := (Blk.new w 34 o.cells).cell (i := 0) rfl
  have k4 := (Blk.new w 34 o.cells).cell (i := 4) rfl
  rw [hZ] at HST
  unfold OpV.cells at *
  clear hd hs hok hk hbx hbk hda hft
  go_enter Try.func11, Try.ntmps11
  go_wp2_with fail
  refine HST.out.mono ?_
  rintro e w9 ⟨rfl, hn9⟩
  rw [← hZ] at hn9
  have HD9 := hid (HD.out.prog hn9)
  have hb9 := now_blk hn9 HBK.out HFT.out
  have HBK9 := hid hb9
  have y4 := hb9.cell (i := 4) rfl
  have HS9 := hid (HD9.out.stop o.n HIN.out)
  clear hn9 hb9 k0 k4 HST
  go_wp2_with fail
  refine HS9.out.mono ?_
  rintro e w10 ⟨rfl, hd10, _⟩
  have HS10 : Hid (Same3 fs (if c = 0 then c else o.n) (stopX g o.n)) := HS.out.stop
  have HD10 := hid hd10
  have HLK := hid (looks_any hd10 HS10.out)
  clear hd10 HS9
  go_wp2_with fail
  refine HLK.out.mono ?_
  rintro e w11 ⟨rfl, hb11⟩
  have HEND : Hid (DkS w0 w11 p bm x size) := ⟨_, _, _, HD10.out.below hb11, HS10.out⟩
  clear hb11
  go_wp2
  go_ret
  exact ⟨rfl, HEND.out⟩
set_option maxRecDepth 100000 in
set_option maxHeartbeats 2000000 in
theorem doesS_else (hd : Dk w0 w p bm size c fs x size g) (hs : Same3 fs c g) (o : OpV) (hk : (o.kind < 1 ∨ 7 < o.kind) ∧ o.kind ≠ 9) :
    Calls Try.prog 11 #[.pointer (some ⟨p, 0, none⟩), .pointer (some ⟨x, 0, none⟩), .agg o.cells.toArray] w fun e V => e = .returned (.bool true) ∧ DkS w0 V p bm x size := by
  have k1b : (o.kind == 1) = false := by simp; omega
  have k2b : (o.kind == 2) = false := by simp; omega
  have k3b : (o.kind == 3) = false := by simp; omega
  have k4b : (o.kind == 4) = false := by simp; omega
  have k5b : (o.kind == 5) = false := by simp; omega
  have k6b : (o.kind == 6) = false := by simp; omega
  have k7b : (o.kind == 7) = false := by simp; omega
  have k9b : (o.kind == 9) = false := by simp; omega
  have hbx : Below w.heap.size w (w.alloc (.cells o.cells.toArray 34)) := (Below.refl _ w).alloc (Nat.le_refl _) _
  have HD := hid (hd.below hbx)
  have HS := hid hs
  have k0 := (Blk.new w 34 o.cells).cell (i := 0) rfl
  have HLK := hid (looks_any HD.out hs)
  unfold OpV.cells at *
  clear hd hs hk hbx
  go_enter Try.func11, Try.ntmps11
  go_wp2_with fail
  refine HLK.out.mono ?_
  rintro e w11 ⟨rfl, hb11⟩
  have HEND : Hid (DkS w0 w11 p bm x size) := ⟨_, _, _, HD.out.below hb11, HS.out⟩
  clear hb11
  go_wp2
  go_ret
  exact ⟨rfl, HEND.out⟩
end
end Go.Proofs.Ytjfohnkfcfifeaa
