/-
  Package ballot: told, Pick.
-/
import Derived.Test.YtdceenejijigdaaBalD
import Derived.Test.YtdceenejijigdaaVoA
namespace Go.Proofs.Ytdceenejijigdaa
open Go.RowKit Go.Maps

set_option maxRecDepth 100000 in
set_option maxHeartbeats 1000000 in
theorem toldBal (w : World) (x : EnM) (hx : EnOk w x) : Calls Try.prog 31 #[x.val] w (ToldEn w x) := by
  obtain ⟨⟨np, tk, ct, ep, dp⟩, ao1, cap1⟩ := x
  obtain ⟨XN, HXN⟩ : ∃ m, Hid (dp.length = m) := ⟨_, hid rfl⟩
  simp only [EnM.val]
  rw [HXN.out]
  obtain ⟨W0, hW0⟩ : ∃ W, W = w.alloc (.cells #[.bool np, .string tk, .string ct, .int .i64 ep, .slice ao1 XN cap1] 36) := ⟨_, rfl⟩
  obtain ⟨W, hW⟩ : ∃ W, W = W0.alloc (.cells #[.bool false, .string ⟨#[]⟩, .string ⟨#[]⟩, .int .i64 0, .slice none 0 0] 36) := ⟨_, rfl⟩
  have HB0 : Hid (Below w.heap.size w W0) := by rw [hW0]; exact (Below.refl _ _).alloc (Nat.le_refl _) _
  have hs0 : W0.heap.size = w.heap.size + 1 := by rw [hW0]; simp
  have HB : Hid (Below w.heap.size w W) := by rw [hW]; exact HB0.out.alloc HB0.out.size _
  have HK : Hid (Blk W w.heap.size 36 [.bool np, .string tk, .string ct, .int .i64 ep, .slice ao1 XN cap1]) := by rw [hW, hW0]; exact (Blk.new w _ _).alloc _
  have HR : Hid (Blk W (w.heap.size + 1) 36 [.bool false, .string ⟨#[]⟩, .string ⟨#[]⟩, .int .i64 0, .slice none 0 0]) := by rw [hW, ← hs0]; exact Blk.new W0 _ _
  have HDI := hid (hx.cut.held.below HB.out)
  have HDF : Hid (dp.length ≤ 17592186044416) := hx.cut.few
  have c2 := HK.out.cell (i := 4) rfl
  have HW : Hid (W = (w.alloc (.cells #[.bool np, .string tk, .string ct, .int .i64 ep, .slice ao1 XN cap1] 36)).alloc (.cells #[.bool false, .string ⟨#[]⟩, .string ⟨#[]⟩, .int .i64 0, .slice none 0 0] 36)) := by show _ = _; rw [hW, hW0]
  rw [HW.out] at c2
  clear hW hW0 hx hs0
  go_enter Try.func31, Try.ntmps31
  go_wp2_with (at_builtin; rw [← HW.out]; refine wpList_append_nilB _ rfl _ _ rfl rfl ao1 cap1 dp XN HXN.out rfl HDI.out HDF.out ?_; intro bo cp w2 hv2 hbo2 hb2; have HV2 := hid hv2; have HBO := hid hbo2; have HB2 := hid hb2; have hk2 := HK.out.below hb2 HK.out.lt; have d2 := hk2.cell (i := 4) rfl; have f2 := hk2.frozen 4; have hk3 := hk2.set 4 (.slice bo XN cp); have t0 := hk3.cell (i := 0) rfl; have t1 := hk3.cell (i := 1) rfl; have t2 := hk3.cell (i := 2) rfl; have t3 := hk3.cell (i := 3) rfl; have t4 := hk3.cell (i := 4) rfl; have hr3 := (HR.out.below hb2 HR.out.lt).other (C := w.heap.size) (by omega) 4 (.slice bo XN cp); have r0 := hr3.cell (i := 0) rfl; have r1 := hr3.cell (i := 1) rfl; have r2 := hr3.cell (i := 2) rfl; have r3 := hr3.cell (i := 3) rfl; have r4 := hr3.cell (i := 4) rfl; have q0 := hr3.frozen 0; have q1 := hr3.frozen 1; have q2 := hr3.frozen 2; have q3 := hr3.frozen 3; have q4 := hr3.frozen 4; clear hv2 hb2 hbo2 c2 hk2 hk3)
  obtain ⟨W3, hW3⟩ : ∃ V, V = st5 (w2.setCell ⟨w.heap.size, 4, none⟩ (.slice bo XN cp)) (w.heap.size + 1) (.bool np) (.string tk) (.string ct) (.int .i64 ep) (.slice bo XN cp) := ⟨_, rfl⟩
  have hk9 : Blk W3 (w.heap.size + 1) 36 [.bool np, .string tk, .string ct, .int .i64 ep, .slice bo XN cp] := by rw [hW3]; exact st5_blk hr3 _ _ _ _ _
  have hT3 : Turns (fun i => i = w.heap.size ∨ i = w.heap.size + 1) w2 W3 := by
    rw [hW3]
    exact (((Turns.refl (fun i => i = w.heap.size) w2).setCell (p := ⟨w.heap.size, 4, none⟩) (.inl rfl) _).mono (fun i hi => .inl hi)).trans (st5_turns _ _ _ _ _ _ _) (fun i hi => .inl (.inr hi))
  have HBF : Hid (Below w.heap.size w W3) := (HB.out.trans (HB2.out.mono HB.out.size)).trans (hT3.below (fun i hi => by omega) (bt' HB.out HB2.out).size)
  have HLW : Hid (w.heap.size + 1 < W.heap.size) := HR.out.lt
  have HV3 : Hid (HV W3 bo cp dp) := ⟨HV2.out.held.turned hT3 (fun b off e _ hF => by have := (HBO.out b off e).1; have := HLW.out; omega), HV2.out.room, HV2.out.few⟩
  have HN3 : Hid (∀ b off, bo = some ⟨b, off, none⟩ → w.heap.size ≤ b ∧ ∃ cs, Blk W3 b 3 cs) := fun b off e => by
    obtain ⟨h1, cs, h2⟩ := HBO.out b off e
    exact ⟨Nat.le_trans HB.out.size h1, cs, hT3.blk h2 (fun hF => by have := HLW.out; omega)⟩
  have k0 := hk9.cell (i := 0) rfl
  have k1 := hk9.cell (i := 1) rfl
  have k2 := hk9.cell (i := 2) rfl
  have k3 := hk9.cell (i := 3) rfl
  have k4 := hk9.cell (i := 4) rfl
  unfold st5 at hW3
  rw [← hW3]
  (try simp only [Exit.inBlock, Exit.then])
  refine bodyPost_ret (v := .agg #[.bool np, .string tk, .string ct, .int .i64 ep, .slice bo XN cp]) ?_ rfl ⟨bo, cp, ?_, HV3.out, HN3.out, HBF.out⟩
  · rw [results_cell1B rfl]
    go_simp
  · simp only [EnM.val]
    rw [HXN.out]

/-- Which of the first k votes is the one of that slot with the greatest ballot. -/
def bestTo (xs : List VoM) (s : Int) : Nat → Int
  | 0 => -1
  | k + 1 => if (xs.getD k default).slot = s ∧ (bestTo xs s k < 0 ∨ 0 < cmpB (xs.getD k default).bal (xs.getD (bestTo xs s k).toNat default).bal) then (k : Int) else bestTo xs s k
theorem bestTo_in (xs : List VoM) (s : Int) : ∀ k, bestTo xs s k = -1 ∨ (0 ≤ bestTo xs s k ∧ bestTo xs s k < k)
  | 0 => .inl rfl
  | k + 1 => by
    have := bestTo_in xs s k
    unfold bestTo
    split
    · right; omega
    · rcases this with h | h
      · exact .inl h
      · right; omega
def PickP (w : World) (xs : List VoM) (s : Int) (e : Ending) (w' : World) : Prop :=
  (bestTo xs s xs.length = -1 ∧ e = .returned (.tuple #[EnM.val ⟨noopEn, none, 0⟩, .bool false]) ∧ Below w.heap.size w w') ∨
  ∃ b : Nat, bestTo xs s xs.length = b ∧ b < xs.length ∧ ∃ bo cp, e = .returned (.tuple #[EnM.val ⟨(xs.getD b default).en.e, bo, cp⟩, .bool true]) ∧ HV w' bo cp (xs.getD b default).en.e.cut ∧ Below w.heap.size w w'
end Go.Proofs.Ytdceenejijigdaa
