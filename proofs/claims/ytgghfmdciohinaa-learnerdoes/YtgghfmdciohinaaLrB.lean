/-
  Package learner: told, kept.
-/
import Derived.Test.YtgghfmdciohinaaLrS
import Derived.Test.YtgghfmdciohinaaStrClone2
namespace Go.Proofs.Ytgghfmdciohinaa
open Go.RowKit Go.Maps

set_option maxRecDepth 100000 in
set_option maxHeartbeats 1000000 in
theorem toldLr (w : World) (x : EnM) (hx : EnOk w x) : Calls Try.prog 32 #[x.val] w (ToldEn w x) := by
  obtain ⟨⟨np, tk, ct, ep, dp⟩, ao1, cap1⟩ := x
  obtain ⟨XN, HXN⟩ : ∃ m, Hid (dp.length = m) := ⟨_, hid rfl⟩
  simp only [EnM.val]
  rw [HXN.out]
  obtain ⟨W0, hW0⟩ : ∃ W, W = w.alloc (.cells #[.bool np, .string tk, .string ct, .int .i64 ep, .slice ao1 XN cap1] 33) := ⟨_, rfl⟩
  obtain ⟨W, hW⟩ : ∃ W, W = W0.alloc (.cells #[.bool false, .string ⟨#[]⟩, .string ⟨#[]⟩, .int .i64 0, .slice none 0 0] 33) := ⟨_, rfl⟩
  have HB0 : Hid (Below w.heap.size w W0) := by rw [hW0]; exact (Below.refl _ _).alloc (Nat.le_refl _) _
  have hs0 : W0.heap.size = w.heap.size + 1 := by rw [hW0]; simp
  have HB : Hid (Below w.heap.size w W) := by rw [hW]; exact HB0.out.alloc HB0.out.size _
  have HK : Hid (Blk W w.heap.size 33 [.bool np, .string tk, .string ct, .int .i64 ep, .slice ao1 XN cap1]) := by rw [hW, hW0]; exact (Blk.new w _ _).alloc _
  have HR : Hid (Blk W (w.heap.size + 1) 33 [.bool false, .string ⟨#[]⟩, .string ⟨#[]⟩, .int .i64 0, .slice none 0 0]) := by rw [hW, ← hs0]; exact Blk.new W0 _ _
  have HDI := hid (hx.cut.held.below HB.out)
  have HDF : Hid (dp.length ≤ 17592186044416) := hx.cut.few
  have c2 := HK.out.cell (i := 4) rfl
  have HW : Hid (W = (w.alloc (.cells #[.bool np, .string tk, .string ct, .int .i64 ep, .slice ao1 XN cap1] 33)).alloc (.cells #[.bool false, .string ⟨#[]⟩, .string ⟨#[]⟩, .int .i64 0, .slice none 0 0] 33)) := by show _ = _; rw [hW, hW0]
  rw [HW.out] at c2
  clear hW hW0 hx hs0
  go_enter Try.func32, Try.ntmps32
  go_wp2_with (at_builtin; rw [← HW.out]; refine wpList_append_nilB _ rfl _ _ rfl rfl ao1 cap1 dp XN HXN.out rfl HDI.out HDF.out ?_; intro bo cp w2 hv2 hbo2 hb2; have HV2 := hid hv2; have HBO := hid hbo2; have HB2 := hid hb2; have hk2 := HK.out.below hb2 HK.out.lt; have d2 := hk2.cell (i := 4) rfl; have f2 := hk2.frozen 4; have hk3 := hk2.set 4 (.slice bo XN cp); have t0 := hk3.cell (i := 0) rfl; have t1 := hk3.cell (i := 1) rfl; have t2 := hk3.cell (i := 2) rfl; have t3 := hk3.cell (i := 3) rfl; have t4 := hk3.cell (i := 4) rfl; have hr3 := (HR.out.below hb2 HR.out.lt).other (C := w.heap.size) (by omega) 4 (.slice bo XN cp); have r0 := hr3.cell (i := 0) rfl; have r1 := hr3.cell (i := 1) rfl; have r2 := hr3.cell (i := 2) rfl; have r3 := hr3.cell (i := 3) rfl; have r4 := hr3.cell (i := 4) rfl; have q0 := hr3.frozen 0; have q1 := hr3.frozen 1; have q2 := hr3.frozen 2; have q3 := hr3.frozen 3; have q4 := hr3.frozen 4; clear hv2 hb2 hbo2 c2 hk2 hk3)
  obtain ⟨W3, hW3⟩ : ∃ V, V = st5 (w2.setCell ⟨w.heap.size, 4, none⟩ (.slice bo XN cp)) (w.heap.size + 1) (.bool np) (.string tk) (.string ct) (.int .i64 ep) (.slice bo XN cp) := ⟨_, rfl⟩
  have hk9 : Blk W3 (w.heap.size + 1) 33 [.bool np, .string tk, .string ct, .int .i64 ep, .slice bo XN cp] := by rw [hW3]; exact st5_blk hr3 _ _ _ _ _
  have hT3 : Turns (fun i => i = w.heap.size ∨ i = w.heap.size + 1) w2 W3 := by
    rw [hW3]
    exact (((Turns.refl (fun i => i = w.heap.size) w2).setCell (p := ⟨w.heap.size, 4, none⟩) (.inl rfl) _).mono (fun i hi => .inl hi)).trans (st5_turns _ _ _ _ _ _ _) (fun i hi => .inl (.inr hi))
  have HBF : Hid (Below w.heap.size w W3) := (HB.out.trans (HB2.out.mono HB.out.size)).trans (hT3.below (fun i hi => by omega) (bt' HB.out HB2.out).size)
  have HLW : Hid (w.heap.size + 1 < W.heap.size) := HR.out.lt
  have HV3 : Hid (HV W3 bo cp dp) := ⟨HV2.out.held.turned hT3 (fun b off e _ hF => by have := (HBO.out b off e).1; have := HLW.out; omega), HV2.out.room, HV2.out.few⟩
  have HN3 : Hid (∀ b off, bo = some ⟨b, off, none⟩ → w.heap.size ≤ b ∧ ∃ cs, Blk W3 b 3 cs) := fun b off e => by
    obtain ⟨h1, cs, h2⟩ := HBO.out b off e
    exact ⟨Nat.le_trans HB.out.size h1, cs, hT3.blk h2 (fun hF => by have := HLW.out; omega)⟩
  have k0 := hk9.cell (i := 0) rfl
  have k1 := hk9.cell (i := 1) rfl
  have k2 := hk9.cell (i := 2) rfl
  have k3 := hk9.cell (i := 3) rfl
  have k4 := hk9.cell (i := 4) rfl
  unfold st5 at hW3
  rw [← hW3]
  (try simp only [Exit.inBlock, Exit.then])
  refine bodyPost_ret (v := .agg #[.bool np, .string tk, .string ct, .int .i64 ep, .slice bo XN cp]) ?_ rfl ⟨bo, cp, ?_, HV3.out, HN3.out, HBF.out⟩
  · rw [results_cell1B rfl]
    go_simp
  · simp only [EnM.val]
    rw [HXN.out]

/-- A box of an entry that is stored into what it has. -/
structure BoxL (W : World) (p : Nat) (cs : List Value) (V : World) : Prop where
  turn : Turns (fun i => i = p) W V
  blk : Blk V p 33 cs
theorem BoxL.start {W : World} {p : Nat} {cs : List Value} (h : Blk W p 33 cs) : BoxL W p cs W := ⟨Turns.refl _ _, h⟩
theorem BoxL.dr {W V : World} {p : Nat} {cs : List Value} (h : BoxL W p cs V) : BoxL W p cs V.drew := ⟨h.turn.drew, h.blk.drew⟩
theorem BoxL.go {W V U : World} {p : Nat} {cs : List Value} (h : BoxL W p cs V) (hb : Below V.heap.size V U) : BoxL W p cs U := ⟨h.turn.trans (Turns.of_below (F := fun _ => False) hb (Nat.le_refl _)) (fun _ h => h.elim), h.blk.below hb h.blk.lt⟩
theorem BoxL.set {W V : World} {p : Nat} {cs : List Value} (h : BoxL W p cs V) (i : Nat) (v : Value) (hv : cs.set i v = cs) : BoxL W p cs (V.setCell ⟨p, i, none⟩ v) := ⟨h.turn.setCell (p := ⟨p, i, none⟩) (.inl rfl) v, by have := h.blk.set i v; rw [hv] at this; exact this⟩
/-- An entry kept: the same, its cut in new memory. -/
def KeptEn (w : World) (x : EnM) (e : Ending) (w' : World) : Prop := ∃ bo cp, e = .returned (EnM.val ⟨x.e, bo, cp⟩) ∧ EnKeep w' ⟨x.e, bo, cp⟩ ∧ Below w.heap.size w w' ∧ ∀ b off, bo = some ⟨b, off, none⟩ → w.heap.size ≤ b
set_option maxRecDepth 100000 in
set_option maxHeartbeats 1000000 in
theorem keptLr (w : World) (x : EnM) (hx : EnOk w x) (hc : x.e.tok.size ≤ 140737488355328) (hk : x.e.cart.size ≤ 140737488355328) : Calls Try.prog 20 #[x.val] w (KeptEn w x) := by
  have HX0 := hid hx
  obtain ⟨⟨np, tk, ct, ep, dp⟩, ao1, cap1⟩ := x
  obtain ⟨XN, HXN⟩ : ∃ m, Hid (dp.length = m) := ⟨_, hid rfl⟩
  obtain ⟨W0, hW0⟩ : ∃ W, W = w.alloc (.cells #[.bool np, .string tk, .string ct, .int .i64 ep, .slice ao1 XN cap1] 33) := ⟨_, rfl⟩
  obtain ⟨W, hW⟩ : ∃ W, W = W0.alloc (.cells #[.bool false, .string ⟨#[]⟩, .string ⟨#[]⟩, .int .i64 0, .slice none 0 0] 33) := ⟨_, rfl⟩
  have HB0 : Hid (Below w.heap.size w W0) := by rw [hW0]; exact (Below.refl _ _).alloc (Nat.le_refl _) _
  have hs0 : W0.heap.size = w.heap.size + 1 := by rw [hW0]; simp
  have HB : Hid (Below w.heap.size w W) := by rw [hW]; exact HB0.out.alloc HB0.out.size _
  have HK : Hid (Blk W w.heap.size 33 [.bool np, .string tk, .string ct, .int .i64 ep, .slice ao1 XN cap1]) := by rw [hW, hW0]; exact (Blk.new w _ _).alloc _
  have HR : Hid (Blk W (w.heap.size + 1) 33 [.bool false, .string ⟨#[]⟩, .string ⟨#[]⟩, .int .i64 0, .slice none 0 0]) := by rw [hW, ← hs0]; exact Blk.new W0 _ _
  have HW : Hid (W = (w.alloc (.cells #[.bool np, .string tk, .string ct, .int .i64 ep, .slice ao1 XN cap1] 33)).alloc (.cells #[.bool false, .string ⟨#[]⟩, .string ⟨#[]⟩, .int .i64 0, .slice none 0 0] 33)) := by show _ = _; rw [hW, hW0]
  obtain ⟨p, hp⟩ : ∃ q, q = w.heap.size := ⟨_, rfl⟩
  have HC1 := hid (fun V (hV : BoxL W p [.bool np, .string tk, .string ct, .int .i64 ep, .slice ao1 XN cap1] V) => (strClone_any tk V hc).mono (fun e w' (hh : _ ∧ _) => And.intro hh.1 (hV.go hh.2)))
  have HC2 := hid (fun V (hV : BoxL W p [.bool np, .string tk, .string ct, .int .i64 ep, .slice ao1 XN cap1] V) => (strClone_any ct V hk).mono (fun e w' (hh : _ ∧ _) => And.intro hh.1 (hV.go hh.2)))
  rw [← hp] at HK
  have HST := hid (BoxL.start HK.out)
  have HSA : Hid (∀ V, BoxL W p [.bool np, .string tk, .string ct, .int .i64 ep, .slice ao1 XN cap1] V → (BoxL W p [.bool np, .string tk, .string ct, .int .i64 ep, .slice ao1 XN cap1] V ∧ V.cell? ⟨p, 0, none⟩ = some (.bool np) ∧ V.cell? ⟨p, 1, none⟩ = some (.string tk) ∧ V.cell? ⟨p, 2, none⟩ = some (.string ct) ∧ V.cell? ⟨p, 3, none⟩ = some (.int .i64 ep) ∧ V.cell? ⟨p, 4, none⟩ = some (.slice ao1 XN cap1) ∧ V.frozen? ⟨p, 1, none⟩ = false ∧ V.frozen? ⟨p, 2, none⟩ = false)) := fun V hV =>
    ⟨hV, hV.blk.cell rfl, hV.blk.cell rfl, hV.blk.cell rfl, hV.blk.cell rfl, hV.blk.cell rfl, hV.blk.frozen 1, hV.blk.frozen 2⟩
  have HPP := hid hp
  simp only [EnM.val]
  rw [HXN.out]
  clear hW hW0 hx hs0 hc hk hp
  go_enter Try.func20, Try.ntmps20
  go_wp2
  rw [← HW.out, ← HPP.out]
  go_region_held3 (fun V => BoxL W p [.bool np, .string tk, .string ct, .int .i64 ep, .slice ao1 XN cap1] V ∧ V.cell? ⟨p, 0, none⟩ = some (.bool np) ∧ V.cell? ⟨p, 1, none⟩ = some (.string tk) ∧ V.cell? ⟨p, 2, none⟩ = some (.string ct) ∧ V.cell? ⟨p, 3, none⟩ = some (.int .i64 ep) ∧ V.cell? ⟨p, 4, none⟩ = some (.slice ao1 XN cap1) ∧ V.frozen? ⟨p, 1, none⟩ = false ∧ V.frozen? ⟨p, 2, none⟩ = false)
    (first | (refine ⟨?_, ?_, ?_, ?_, ?_, ?_, ?_, ?_⟩ <;> assumption) | (refine HSA.out _ ?_; (repeat (first | assumption | exact HST.out | apply BoxL.dr | refine BoxL.set ?_ 1 _ rfl | refine BoxL.set ?_ 2 _ rfl))))
    (first
      | (go_at_call 38; with_reducible refine (HC1.out _ (by (repeat (first | assumption | exact HST.out | apply BoxL.dr | refine BoxL.set ?_ 1 _ rfl | refine BoxL.set ?_ 2 _ rfl)))).mono ?_; rintro e w5 ⟨rfl, hs5⟩)
      | (go_at_call 38; with_reducible refine (HC2.out _ (by (repeat (first | assumption | exact HST.out | apply BoxL.dr | refine BoxL.set ?_ 1 _ rfl | refine BoxL.set ?_ 2 _ rfl)))).mono ?_; rintro e w6 ⟨rfl, hs6⟩))
  all_goals
    rename_i hHeld
    obtain ⟨hbx, e0, e1, e2, e3, e4, _, _⟩ := hHeld
    have HBX := hid hbx
    have HBV : Hid (Below w.heap.size w _) := HB.out.trans (hbx.turn.below (B := w.heap.size) (fun i hi => by rw [hi, HPP.out]; exact Nat.le_refl _) HB.out.size)
    have HOX := hid (HX0.out.below HBV.out)
    have HTD := hid (toldLr _ ⟨⟨np, tk, ct, ep, dp⟩, ao1, cap1⟩ HOX.out)
    simp only [EnM.val] at HTD
    rw [HXN.out] at HTD
    have HR3 := hid (hbx.turn.blk HR.out (fun e => by have := HPP.out; omega))
    clear hbx
    go_wp2_with fail
    refine HTD.out.mono ?_
    rintro e w7 ⟨bo, cp, rfl, hyv, hyb, hb7⟩
    have hr7 := HR3.out.below hb7 HR3.out.lt
    have HBF0 := hid (bt' HBV.out hb7)
    have HYO := hid hyv
    have HYB := hid hyb
    rw [← HPP.out] at hr7
    have r0 := hr7.cell (i := 0) rfl
    have r1 := hr7.cell (i := 1) rfl
    have r2 := hr7.cell (i := 2) rfl
    have r3 := hr7.cell (i := 3) rfl
    have r4 := hr7.cell (i := 4) rfl
    have q0 := hr7.frozen 0
    have q1 := hr7.frozen 1
    have q2 := hr7.frozen 2
    have q3 := hr7.frozen 3
    have q4 := hr7.frozen 4
    obtain ⟨W3, hW3⟩ : ∃ V, V = st5 w7 (p + 1) (.bool np) (.string tk) (.string ct) (.int .i64 ep) (.slice bo XN cp) := ⟨_, rfl⟩
    have hk9 : Blk W3 (p + 1) 33 [.bool np, .string tk, .string ct, .int .i64 ep, .slice bo XN cp] := by rw [hW3]; exact st5_blk hr7 _ _ _ _ _
    have hT3 : Turns (fun i => i = p + 1) w7 W3 := by rw [hW3]; exact st5_turns _ _ _ _ _ _ _
    have HBF : Hid (Below w.heap.size w W3) := HBF0.out.trans (hT3.below (fun i hi => by rw [hi, HPP.out]; omega) HBF0.out.size)
    have HV3 : Hid (EnKeep W3 ⟨⟨np, tk, ct, ep, dp⟩, bo, cp⟩) := (EnKeep.mk (x := ⟨⟨np, tk, ct, ep, dp⟩, bo, cp⟩) ⟨HYO.out, HX0.out.ie, HX0.out.ht, HX0.out.hc⟩ (fun b off e _ => (HYB.out b off e).2)).turned (noNum_blk hr7 (by decide)) hT3
    have k0 := hk9.cell (i := 0) rfl
    have k1 := hk9.cell (i := 1) rfl
    have k2 := hk9.cell (i := 2) rfl
    have k3 := hk9.cell (i := 3) rfl
    have k4 := hk9.cell (i := 4) rfl
    clear hyv hyb hb7
    simp only [EnM.val]
    rw [HXN.out]
    go_wp2
    unfold st5 at hW3
    rw [← hW3]
    (try simp only [Exit.inBlock, Exit.then])
    refine bodyPost_ret (v := .agg #[.bool np, .string tk, .string ct, .int .i64 ep, .slice bo XN cp]) ?_ rfl ⟨bo, cp, ?_, HV3.out, HBF.out, fun b off e => Nat.le_trans HBV.out.size (HYB.out b off e).1⟩
    · rw [results_cell1B rfl]
      go_simp
    · simp only [EnM.val]
      rw [HXN.out]
end Go.Proofs.Ytgghfmdciohinaa
