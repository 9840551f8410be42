/-
  Package codec: readBounded of a message.
-/
import Derived.Test.YtmpkbdhihdboiaaRdT
namespace Go.Proofs.Ytmpkbdhihdboiaa
open Go.RowKit Go.Maps

set_option maxRecDepth 1000000 in
set_option maxHeartbeats 16000000 in
theorem boundedMs (ao : Option Addr) (len cap : Nat) (bs : List Int) (w : World) (h : Held w ao len cap bs) (hl : len ≤ 65536) : Calls Try.prog 31 #[.slice ao len cap, .func (.func 32) #[] #[]] w (ReadMs w len bs) := by
  obtain ⟨W, hW⟩ : ∃ W, W = w.alloc (.cells #[.int .i64 0, .int .i64 0, .int .i64 0, .int .i64 0, .int .i64 0, .int .i64 0, .bool false, .string ⟨#[]⟩, .string ⟨#[]⟩, .int .i64 0, .slice none 0 0, .slice none 0 0, .slice none 0 0, .slice none 0 0, .int .i64 0] 32) := ⟨_, rfl⟩
  have hb : Below w.heap.size w W := by rw [hW]; exact (Below.refl _ _).alloc (Nat.le_refl _) _
  obtain ⟨rs, hrs⟩ : ∃ q, q = w.heap.size := ⟨_, rfl⟩
  have HKR : Hid (Blk W rs 32 [.int .i64 0, .int .i64 0, .int .i64 0, .int .i64 0, .int .i64 0, .int .i64 0, .bool false, .string ⟨#[]⟩, .string ⟨#[]⟩, .int .i64 0, .slice none 0 0, .slice none 0 0, .slice none 0 0, .slice none 0 0, .int .i64 0]) := by rw [hrs, hW]; exact Blk.new w _ _
  have HR := hid (readByMs ao len cap bs W (h.below hb (Nat.le_refl _)))
  have HW := hid hW
  have HRS := hid hrs
  have HB := hid hb
  have hl' : ¬ ((65536 : Int) < (len : Int)) := by omega
  clear h hW hrs hb hl
  go_enter Try.func31, Try.ntmps31
  go_wp2_with fail
  rw [← HW.out]
  refine HR.out.mono ?_
  rintro e w1 ⟨⟨kd, fr, tt, ⟨br, bn⟩, sl, ⟨⟨np, tk, ct, ep, cut⟩, a, c⟩, va, vc, vs, sa, sc, seen, ea, ec, evs, ti⟩, n, E, rfl, hmn, hor, hb1⟩
  simp only [MsM.val]
  obtain ⟨XN, HXN⟩ : ∃ m, Hid (cut.length = m) := ⟨_, hid rfl⟩
  obtain ⟨VN, HVN⟩ : ∃ m, Hid (vs.length = m) := ⟨_, hid rfl⟩
  obtain ⟨SN, HSN⟩ : ∃ m, Hid (seen.length = m) := ⟨_, hid rfl⟩
  obtain ⟨EN, HEN⟩ : ∃ m, Hid (evs.length = m) := ⟨_, hid rfl⟩
  rw [HXN.out, HVN.out, HSN.out, HEN.out, ← HRS.out]
  have hkr1 := HKR.out.below hb1 HKR.out.lt
  have r0 := hkr1.cell (i := 0) rfl
  have f0 := hkr1.frozen 0
  have r1 := hkr1.cell (i := 1) rfl
  have f1 := hkr1.frozen 1
  have r2 := hkr1.cell (i := 2) rfl
  have f2 := hkr1.frozen 2
  have r3 := hkr1.cell (i := 3) rfl
  have f3 := hkr1.frozen 3
  have r4 := hkr1.cell (i := 4) rfl
  have f4 := hkr1.frozen 4
  have r5 := hkr1.cell (i := 5) rfl
  have f5 := hkr1.frozen 5
  have r6 := hkr1.cell (i := 6) rfl
  have f6 := hkr1.frozen 6
  have r7 := hkr1.cell (i := 7) rfl
  have f7 := hkr1.frozen 7
  have r8 := hkr1.cell (i := 8) rfl
  have f8 := hkr1.frozen 8
  have r9 := hkr1.cell (i := 9) rfl
  have f9 := hkr1.frozen 9
  have r10 := hkr1.cell (i := 10) rfl
  have f10 := hkr1.frozen 10
  have r11 := hkr1.cell (i := 11) rfl
  have f11 := hkr1.frozen 11
  have r12 := hkr1.cell (i := 12) rfl
  have f12 := hkr1.frozen 12
  have r13 := hkr1.cell (i := 13) rfl
  have f13 := hkr1.frozen 13
  have r14 := hkr1.cell (i := 14) rfl
  have f14 := hkr1.frozen 14
  obtain ⟨W9, hW9⟩ : ∃ V, V = (((((((((((((((w1.setCell ⟨rs, 0, none⟩ (.int .i64 kd)).setCell ⟨rs, 1, none⟩ (.int .i64 fr)).setCell ⟨rs, 2, none⟩ (.int .i64 tt)).setCell ⟨rs, 3, none⟩ (.int .i64 br)).setCell ⟨rs, 4, none⟩ (.int .i64 bn)).setCell ⟨rs, 5, none⟩ (.int .i64 sl)).setCell ⟨rs, 6, none⟩ (.bool np)).setCell ⟨rs, 7, none⟩ (.string tk)).setCell ⟨rs, 8, none⟩ (.string ct)).setCell ⟨rs, 9, none⟩ (.int .i64 ep)).setCell ⟨rs, 10, none⟩ (.slice a XN c)).setCell ⟨rs, 11, none⟩ (.slice va VN vc)).setCell ⟨rs, 12, none⟩ (.slice sa SN sc)).setCell ⟨rs, 13, none⟩ (.slice ea EN ec)).setCell ⟨rs, 14, none⟩ (.int .i64 ti)) := ⟨_, rfl⟩
  have hk9 : Blk W9 rs 32 [.int .i64 kd, .int .i64 fr, .int .i64 tt, .int .i64 br, .int .i64 bn, .int .i64 sl, .bool np, .string tk, .string ct, .int .i64 ep, .slice a XN c, .slice va VN vc, .slice sa SN sc, .slice ea EN ec, .int .i64 ti] := by rw [hW9]; exact (((((((((((((((hkr1.set 0 _).set 1 _).set 2 _).set 3 _).set 4 _).set 5 _).set 6 _).set 7 _).set 8 _).set 9 _).set 10 _).set 11 _).set 12 _).set 13 _).set 14 _)
  have hst : Turns (fun i => i = rs) w1 W9 := by rw [hW9]; exact ((((((((((((((((Turns.refl (fun i => i = rs) w1).setCell (p := ⟨rs, 0, none⟩) (.inl rfl) _).setCell (p := ⟨rs, 1, none⟩) (.inl rfl) _).setCell (p := ⟨rs, 2, none⟩) (.inl rfl) _).setCell (p := ⟨rs, 3, none⟩) (.inl rfl) _).setCell (p := ⟨rs, 4, none⟩) (.inl rfl) _).setCell (p := ⟨rs, 5, none⟩) (.inl rfl) _).setCell (p := ⟨rs, 6, none⟩) (.inl rfl) _).setCell (p := ⟨rs, 7, none⟩) (.inl rfl) _).setCell (p := ⟨rs, 8, none⟩) (.inl rfl) _).setCell (p := ⟨rs, 9, none⟩) (.inl rfl) _).setCell (p := ⟨rs, 10, none⟩) (.inl rfl) _).setCell (p := ⟨rs, 11, none⟩) (.inl rfl) _).setCell (p := ⟨rs, 12, none⟩) (.inl rfl) _).setCell (p := ⟨rs, 13, none⟩) (.inl rfl) _).setCell (p := ⟨rs, 14, none⟩) (.inl rfl) _)
  have HMF : Hid (MsNew w W9 ⟨kd, fr, tt, (br, bn), sl, ⟨⟨np, tk, ct, ep, cut⟩, a, c⟩, va, vc, vs, sa, sc, seen, ea, ec, evs, ti⟩) := (hmn.mono HB.out.size).turned hst (apart_blk hkr1 (by decide) (by decide) (by decide))
  have HBF : Hid (Below w.heap.size w W9) := (HB.out.trans (hb1.mono HB.out.size)).trans (hst.below (fun i hh => by rw [hh, HRS.out]; exact Nat.le_refl _) (HB.out.trans (hb1.mono HB.out.size)).size)
  have HOR := hid hor
  have k0 := hk9.cell (i := 0) rfl
  have k1 := hk9.cell (i := 1) rfl
  have k2 := hk9.cell (i := 2) rfl
  have k3 := hk9.cell (i := 3) rfl
  have k4 := hk9.cell (i := 4) rfl
  have k5 := hk9.cell (i := 5) rfl
  have k6 := hk9.cell (i := 6) rfl
  have k7 := hk9.cell (i := 7) rfl
  have k8 := hk9.cell (i := 8) rfl
  have k9 := hk9.cell (i := 9) rfl
  have k10 := hk9.cell (i := 10) rfl
  have k11 := hk9.cell (i := 11) rfl
  have k12 := hk9.cell (i := 12) rfl
  have k13 := hk9.cell (i := 13) rfl
  have k14 := hk9.cell (i := 14) rfl
  clear hk9 hst hkr1 hmn hor hb1 HR
  go_wp2
  rw [← hW9]
  (try simp only [Exit.inBlock, Exit.then])
  refine bodyPost_ret (v := .tuple #[.agg #[.int .i64 kd, .int .i64 fr, .int .i64 tt, .int .i64 br, .int .i64 bn, .int .i64 sl, .bool np, .string tk, .string ct, .int .i64 ep, .slice a XN c, .slice va VN vc, .slice sa SN sc, .slice ea EN ec, .int .i64 ti], .int .i64 (n : Int), .int .i64 E]) ?_ rfl ⟨⟨kd, fr, tt, (br, bn), sl, ⟨⟨np, tk, ct, ep, cut⟩, a, c⟩, va, vc, vs, sa, sc, seen, ea, ec, evs, ti⟩, n, E, by simp only [MsM.val]; rw [HXN.out, HVN.out, HSN.out, HEN.out], HMF.out, HOR.out, HBF.out⟩
  rw [results_cellR3 rfl]
  go_simp
end Go.Proofs.Ytmpkbdhihdboiaa
