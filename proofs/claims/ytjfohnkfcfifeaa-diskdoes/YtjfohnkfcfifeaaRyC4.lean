/-
  The law's 'does', of Sync, for any two disks.
-/
import Derived.Test.YtjfohnkfcfifeaaRyB
namespace Go.Proofs.Ytjfohnkfcfifeaa
open Go.RowKit Go.Maps
section
variable {w0 w : World} {p bm x : Nat} {size sz c : Int} {fs : List Fl} {g : Xd}
set_option maxRecDepth 100000 in
set_option maxHeartbeats 2000000 in
theorem doesR_2 (hd : Dk w0 w p bm size c fs x sz g) (o : OpV) (hok : o.Ok) (hk : o.kind = 2) :
    Calls Try.prog 11 #[.pointer (some ⟨p, 0, none⟩), .pointer (some ⟨x, 0, none⟩), .agg o.cells.toArray] w (Two (SynR c fs o.name) (syncC g o.name) (syncX g o.name) w0 p bm size x sz) := by
  have k1b : (o.kind == 1) = false := by simp [hk]
  have kb : (o.kind == 2) = true := by simp [hk]
  have HOK := hid hok
  have HB1 : Hid (∀ q, Below w.heap.size w ((w.alloc (.cells o.cells.toArray 34)).drewN q)) := fun q => below_dn ((Below.refl _ w).alloc (Nat.le_refl _) _) q
  have HBK : Hid (∀ q, Blk ((w.alloc (.cells o.cells.toArray 34)).drewN q) w.heap.size 34 o.cells) := fun q => (Blk.new w 34 o.cells).drewN q
  have HD : Hid (∀ q, Dk w0 ((w.alloc (.cells o.cells.toArray 34)).drewN q) p bm size c fs x sz g) := fun q => hd.below (HB1.out q)
  obtain ⟨D, hda⟩ := hd.da
  have HST : Hid (∀ q, Calls Try.prog 15 #[.pointer (some ⟨p, 0, none⟩), .string o.name] ((w.alloc (.cells o.cells.toArray 34)).drewN q) (Chg (SynR c fs o.name) ((w.alloc (.cells o.cells.toArray 34)).drewN q) p bm size fs)) := fun q => sync_chg (hda.below (HB1.out q) (Nat.le_refl _)) o.name HOK.out.2.2.1
  have HFT : Hid (¬ DFoot p bm fs w.heap.size) := fun h => Nat.lt_irrefl _ (hda.foot_lt _ h)
  have k0 := (HBK.out 0).cell (i := 0) rfl
  have k1 := (HBK.out 0).cell (i := 1) rfl
  unfold OpV.cells at *
  clear hd hda hok hk
  go_enter Try.func11, Try.ntmps11
  go_wp2_with fail
  go_region_held3 (fun V => V.cell? ⟨w.heap.size, 1, none⟩ = some (.string o.name)) (first | assumption | go_keep)
    (first
      | (go_at_call 15; refine (HST.out _).mono ?_; rintro e w9 ⟨er, fs9, c9, rfl, hn9, hr9⟩; have HR9 := hid hr9; have HD9 := hid ((HD.out _).prog hn9); have hb9 := now_blk hn9 (HBK.out _) HFT.out; have HB9 := hid hb9; have y1 := hb9.cell (i := 1) rfl; clear hn9 hb9 hr9)
      | (go_at_call 26; refine (HD9.out.sync o.name).mono ?_; rintro e w10 ⟨rfl, hd10, hk10⟩; have HD10 := hid hd10; have hb10 := hk10 _ _ _ HB9.out (by decide) (by decide); have z1 := hb10.cell (i := 1) rfl; clear hd10 hk10 hb10))
  all_goals
    go_wp2
    go_ret
    exact ⟨_, _, _, rfl, HR9.out, HD10.out⟩
end
end Go.Proofs.Ytjfohnkfcfifeaa
/-
  The law's 'does', of Cut, for any two disks.
-/
namespace Go.Proofs.Ytjfohnkfcfifeaa
open Go.RowKit Go.Maps
section
variable {w0 w : World} {p bm x : Nat} {size sz c : Int} {fs : List Fl} {g : Xd}
set_option maxRecDepth 100000 in
set_option maxHeartbeats 2000000 in
theorem doesR_3 (hd : Dk w0 w p bm size c fs x sz g) (o : OpV) (hok : o.Ok) (hk : o.kind = 3) :
    Calls Try.prog 11 #[.pointer (some ⟨p, 0, none⟩), .pointer (some ⟨x, 0, none⟩), .agg o.cells.toArray] w (Two (CutR c fs o.name o.n) (cutC g o.name o.n) (cutX g o.name o.n) w0 p bm size x sz) := by
  have k1b : (o.kind == 1) = false := by simp [hk]
  have k2b : (o.kind == 2) = false := by simp [hk]
  have kb : (o.kind == 3) = true := by simp [hk]
  have HOK := hid hok
  have HB1 : Hid (∀ q, Below w.heap.size w ((w.alloc (.cells o.cells.toArray 34)).drewN q)) := fun q => below_dn ((Below.refl _ w).alloc (Nat.le_refl _) _) q
  have HBK : Hid (∀ q, Blk ((w.alloc (.cells o.cells.toArray 34)).drewN q) w.heap.size 34 o.cells) := fun q => (Blk.new w 34 o.cells).drewN q
  have HD : Hid (∀ q, Dk w0 ((w.alloc (.cells o.cells.toArray 34)).drewN q) p bm size c fs x sz g) := fun q => hd.below (HB1.out q)
  obtain ⟨D, hda⟩ := hd.da
  have HST : Hid (∀ q, Calls Try.prog 27 #[.pointer (some ⟨p, 0, none⟩), .string o.name, .int .i64 o.n] ((w.alloc (.cells o.cells.toArray 34)).drewN q) (Chg (CutR c fs o.name o.n) ((w.alloc (.cells o.cells.toArray 34)).drewN q) p bm size fs)) := fun q => cut_chg (hda.below (HB1.out q) (Nat.le_refl _)) o.name HOK.out.2.2.1 o.n
  have HFT : Hid (¬ DFoot p bm fs w.heap.size) := fun h => Nat.lt_irrefl _ (hda.foot_lt _ h)
  have k0 := (HBK.out 0).cell (i := 0) rfl
  have k1 := (HBK.out 0).cell (i := 1) rfl
  have k4 := (HBK.out 0).cell (i := 4) rfl
  unfold OpV.cells at *
  clear hd hda hok hk
  go_enter Try.func11, Try.ntmps11
  go_wp2_with fail
  go_region_held3 (fun V => V.cell? ⟨w.heap.size, 1, none⟩ = some (.string o.name) ∧ V.cell? ⟨w.heap.size, 4, none⟩ = some (.int .i64 o.n)) (first | (refine ⟨?_, ?_⟩ <;> assumption) | go_keep)
    (first
      | (go_at_call 27; refine (HST.out _).mono ?_; rintro e w9 ⟨er, fs9, c9, rfl, hn9, hr9⟩; have HR9 := hid hr9; have HD9 := hid ((HD.out _).prog hn9); have hb9 := now_blk hn9 (HBK.out _) HFT.out; have HB9 := hid hb9; have y1 := hb9.cell (i := 1) rfl; have y4 := hb9.cell (i := 4) rfl; clear hn9 hb9 hr9)
      | (go_at_call 28; refine (HD9.out.cut o.name o.n).mono ?_; rintro e w10 ⟨rfl, hd10, hk10⟩; have HD10 := hid hd10; have hb10 := hk10 _ _ _ HB9.out (by decide) (by decide); have z1 := hb10.cell (i := 1) rfl; have z4 := hb10.cell (i := 4) rfl; clear hd10 hk10 hb10))
  all_goals
    go_wp2
    go_ret
    exact ⟨_, _, _, rfl, HR9.out, HD10.out⟩
end
end Go.Proofs.Ytjfohnkfcfifeaa
/-
  The law's 'does', of Rename, for any two disks.
-/
namespace Go.Proofs.Ytjfohnkfcfifeaa
open Go.RowKit Go.Maps
section
variable {w0 w : World} {p bm x : Nat} {size sz c : Int} {fs : List Fl} {g : Xd}
set_option maxRecDepth 100000 in
set_option maxHeartbeats 2000000 in
theorem doesR_4 (hd : Dk w0 w p bm size c fs x sz g) (o : OpV) (hok : o.Ok) (hk : o.kind = 4) :
    Calls Try.prog 11 #[.pointer (some ⟨p, 0, none⟩), .pointer (some ⟨x, 0, none⟩), .agg o.cells.toArray] w (Two (RenR c fs o.name o.to) (renC g o.name o.to) (renX g o.name o.to) w0 p bm size x sz) := by
  have k1b : (o.kind == 1) = false := by simp [hk]
  have k2b : (o.kind == 2) = false := by simp [hk]
  have k3b : (o.kind == 3) = false := by simp [hk]
  have kb : (o.kind == 4) = true := by simp [hk]
  have HOK := hid hok
  have HB1 : Hid (∀ q, Below w.heap.size w ((w.alloc (.cells o.cells.toArray 34)).drewN q)) := fun q => below_dn ((Below.refl _ w).alloc (Nat.le_refl _) _) q
  have HBK : Hid (∀ q, Blk ((w.alloc (.cells o.cells.toArray 34)).drewN q) w.heap.size 34 o.cells) := fun q => (Blk.new w 34 o.cells).drewN q
  have HD : Hid (∀ q, Dk w0 ((w.alloc (.cells o.cells.toArray 34)).drewN q) p bm size c fs x sz g) := fun q => hd.below (HB1.out q)
  obtain ⟨D, hda⟩ := hd.da
  have HST : Hid (∀ q, Calls Try.prog 29 #[.pointer (some ⟨p, 0, none⟩), .string o.name, .string o.to] ((w.alloc (.cells o.cells.toArray 34)).drewN q) (Chg (RenR c fs o.name o.to) ((w.alloc (.cells o.cells.toArray 34)).drewN q) p bm size fs)) := fun q => rename_chg (hda.below (HB1.out q) (Nat.le_refl _)) o.name o.to HOK.out.2.2.1 HOK.out.2.2.2
  have HFT : Hid (¬ DFoot p bm fs w.heap.size) := fun h => Nat.lt_irrefl _ (hda.foot_lt _ h)
  have k0 := (HBK.out 0).cell (i := 0) rfl
  have k1 := (HBK.out 0).cell (i := 1) rfl
  have k2 := (HBK.out 0).cell (i := 2) rfl
  unfold OpV.cells at *
  clear hd hda hok hk
  go_enter Try.func11, Try.ntmps11
  go_wp2_with fail
  go_region_held3 (fun V => V.cell? ⟨w.heap.size, 1, none⟩ = some (.string o.name) ∧ V.cell? ⟨w.heap.size, 2, none⟩ = some (.string o.to)) (first | (refine ⟨?_, ?_⟩ <;> assumption) | go_keep)
    (first
      | (go_at_call 29; refine (HST.out _).mono ?_; rintro e w9 ⟨er, fs9, c9, rfl, hn9, hr9⟩; have HR9 := hid hr9; have HD9 := hid ((HD.out _).prog hn9); have hb9 := now_blk hn9 (HBK.out _) HFT.out; have HB9 := hid hb9; have y1 := hb9.cell (i := 1) rfl; have y2 := hb9.cell (i := 2) rfl; clear hn9 hb9 hr9)
      | (go_at_call 30; refine (HD9.out.rename o.name o.to HOK.out.2.2.2).mono ?_; rintro e w10 ⟨rfl, hd10, hk10⟩; have HD10 := hid hd10; have hb10 := hk10 _ _ _ HB9.out (by decide) (by decide); have z1 := hb10.cell (i := 1) rfl; have z2 := hb10.cell (i := 2) rfl; clear hd10 hk10 hb10))
  all_goals
    go_wp2
    go_ret
    exact ⟨_, _, _, rfl, HR9.out, HD10.out⟩
end
end Go.Proofs.Ytjfohnkfcfifeaa
/-
  The law's 'does', of Remove, for any two disks.
-/
namespace Go.Proofs.Ytjfohnkfcfifeaa
open Go.RowKit Go.Maps
section
variable {w0 w : World} {p bm x : Nat} {size sz c : Int} {fs : List Fl} {g : Xd}
set_option maxRecDepth 100000 in
set_option maxHeartbeats 2000000 in
theorem doesR_5 (hd : Dk w0 w p bm size c fs x sz g) (o : OpV) (hok : o.Ok) (hk : o.kind = 5) :
    Calls Try.prog 11 #[.pointer (some ⟨p, 0, none⟩), .pointer (some ⟨x, 0, none⟩), .agg o.cells.toArray] w (Two (RemR c fs o.name) (remC g o.name) (remX g o.name) w0 p bm size x sz) := by
  have k1b : (o.kind == 1) = false := by simp [hk]
  have k2b : (o.kind == 2) = false := by simp [hk]
  have k3b : (o.kind == 3) = false := by simp [hk]
  have k4b : (o.kind == 4) = false := by simp [hk]
  have kb : (o.kind == 5) = true := by simp [hk]
  have HOK := hid hok
  have HB1 : Hid (∀ q, Below w.heap.size w ((w.alloc (.cells o.cells.toArray 34)).drewN q)) := fun q => below_dn ((Below.refl _ w).alloc (Nat.le_refl _) _) q
  have HBK : Hid (∀ q, Blk ((w.alloc (.cells o.cells.toArray 34)).drewN q) w.heap.size 34 o.cells) := fun q => (Blk.new w 34 o.cells).drewN q
  have HD : Hid (∀ q, Dk w0 ((w.alloc (.cells o.cells.toArray 34)).drewN q) p bm size c fs x sz g) := fun q => hd.below (HB1.out q)
  obtain ⟨D, hda⟩ := hd.da
  have HST : Hid (∀ q, Calls Try.prog 10 #[.pointer (some ⟨p, 0, none⟩), .string o.name] ((w.alloc (.cells o.cells.toArray 34)).drewN q) (Chg (RemR c fs o.name) ((w.alloc (.cells o.cells.toArray 34)).drewN q) p bm size fs)) := fun q => remove_chg (hda.below (HB1.out q) (Nat.le_refl _)) o.name HOK.out.2.2.1
  have HFT : Hid (¬ DFoot p bm fs w.heap.size) := fun h => Nat.lt_irrefl _ (hda.foot_lt _ h)
  have k0 := (HBK.out 0).cell (i := 0) rfl
  have k1 := (HBK.out 0).cell (i := 1) rfl
  unfold OpV.cells at *
  clear hd hda hok hk
  go_enter Try.func11, Try.ntmps11
  go_wp2_with fail
  go_region_held3 (fun V => V.cell? ⟨w.heap.size, 1, none⟩ = some (.string o.name)) (first | assumption | go_keep)
    (first
      | (go_at_call 10; refine (HST.out _).mono ?_; rintro e w9 ⟨er, fs9, c9, rfl, hn9, hr9⟩; have HR9 := hid hr9; have HD9 := hid ((HD.out _).prog hn9); have hb9 := now_blk hn9 (HBK.out _) HFT.out; have HB9 := hid hb9; have y1 := hb9.cell (i := 1) rfl; clear hn9 hb9 hr9)
      | (go_at_call 31; refine (HD9.out.remove o.name).mono ?_; rintro e w10 ⟨rfl, hd10, hk10⟩; have HD10 := hid hd10; have hb10 := hk10 _ _ _ HB9.out (by decide) (by decide); have z1 := hb10.cell (i := 1) rfl; clear hd10 hk10 hb10))
  all_goals
    go_wp2
    go_ret
    exact ⟨_, _, _, rfl, HR9.out, HD10.out⟩
end
end Go.Proofs.Ytjfohnkfcfifeaa
