/-
  Package seal: Do, whatever entry comes.
-/
import Derived.Test.YtfokmldfnkonpaaSmC
import Derived.Deep.QuietTactic
import Derived.BigQuiet
namespace Go.Proofs.Ytfokmldfnkonpaa
open Go.RowKit Go.Maps

/-- What Do leaves and tells. -/
def DoP (B : Nat) (w : World) (p mi me : Nat) (v : Value) (g : Sm) (x : En) (e : Ending) (w' : World) : Prop := ∃ bo cp v', e = .returned (.tuple #[OrM.val ⟨doR g x, bo, cp⟩, .bool (decide (wayO g x = 5)), .int .i64 (codeO (wayO g x))]) ∧ HV w' bo cp (doR g x).cut ∧ (∀ b off, bo = some ⟨b, off, none⟩ → w.heap.size ≤ b ∧ ∃ cs, Blk w' b 3 cs) ∧ SmAt B w' p mi me v' (doS g x) ∧ Turns (FootM p mi me v) w w' ∧ (v'.ownBlock = v.ownBlock ∨ ∃ k, v'.ownBlock = some k ∧ w.heap.size ≤ k)
theorem doP_zero {B : Nat} {w w' : World} {p mi me : Nat} {v : Value} {g : Sm} {x : En} {n : Nat} {c : Int} (hn : wayO g x = n) (h2 : n ≠ 2) (h5 : n ≠ 5) (hc : codeO n = c) (hs : SmAt B w' p mi me v (doS g x)) (ht : Turns (FootM p mi me v) w w') : DoP B w p mi me v g x (.returned (.tuple #[.agg #[.int .i64 0, .string ⟨#[]⟩, .string ⟨#[]⟩, .int .i64 0, .slice none 0 0], .bool false, .int .i64 c])) w' := by
  have hr : doR g x = zeroOr := by unfold doR; rw [hn, if_neg h2, if_neg h5]
  refine ⟨none, 0, v, ?_, ?_, fun b off e => (by cases e), hs, ht, .inl rfl⟩
  · rw [hr, hn, decide_eq_false h5, hc]
    rfl
  · rw [hr]
    exact hv_nilS _
theorem SmAt.bump {B : Nat} {w w' : World} {p mi me : Nat} {v : Value} {g : Sm} (h : SmAt B w p mi me v g) (hw : w' = w.setCell ⟨p, 3, none⟩ (.int .i64 ((g.dn : Int) + 1))) : SmAt B w' p mi me v ⟨g.os, g.dn + 1⟩ ∧ Turns (fun i => i = p) w w' := by
  have ht : Turns (fun i => i = p) w w' := by rw [hw]; exact (Turns.refl (fun i => i = p) w).setCell (p := ⟨p, 3, none⟩) (.inl rfl) _
  obtain ⟨xs, h1, h2, h3⟩ := h.row
  obtain ⟨N, D, h4, h5⟩ := h.ids
  obtain ⟨N', D', h6, h7⟩ := h.eps
  have hno : NoN w (fun i => i = p) := noN_blk h.blk (by decide)
  refine ⟨⟨dn_ok h.ok _, ?_, ⟨xs, h1, ht.row h2 (fun k hk e => by subst e; exact h.blk.not_row (by decide) h2 hk.symm), h3.turned hno ht⟩, ⟨N, D, h4, h5.turned ht (fun e => h.blk.not_map h5.map e.symm)⟩, ⟨N', D', h6, h7.turned ht (fun e => h.blk.not_map h7.map e.symm)⟩, h.ne, h.bp, h.bi, h.be⟩, ht⟩
  rw [hw]
  exact h.blk.set 3 _
theorem do_fin {B : Nat} {w wX W3 : World} {p mi me pb : Nat} {v v0 : Value} {g : Sm} {cs : List Value} (hs : SmAt B wX p mi me v g) (hr : Blk wX pb 32 cs) (ht : Turns (FootM p mi me v0) w wX) (hq : w.heap.size ≤ pb) (hnf : ¬ FootM p mi me v pb) (h9 : Turns (fun i => i = pb) wX W3) : SmAt B W3 p mi me v g ∧ Turns (FootM p mi me v0) w W3 :=
  ⟨hs.turned h9 (fun i hi e => hnf (by rw [← e]; exact hi)) (noN_blk hr (by decide)), ht.trans h9 (fun i hi => .inr (by omega))⟩
theorem sizesO {e : En} (h : RightEn e = true) : e.tok.size ≤ 140737488355328 ∧ e.cart.size ≤ 140737488355328 := by
  unfold RightEn at h
  split at h
  · unfold EmptySe at h
    simp only [Bool.and_eq_true, decide_eq_true_eq] at h
    omega
  · unfold RightSe at h
    simp only [Bool.and_eq_true] at h
    have := nameS_sizeC h.1
    have := nameS_sizeC h.2.1
    omega
theorem doS_way {g : Sm} {x : En} {n : Nat} (h : wayO g x = n) (h0 : n ≠ 0) (h5 : n ≠ 5) : doS g x = ⟨g.os, g.dn + 1⟩ := by unfold doS; rw [h, if_neg h0, if_neg h5]
theorem doS_way0 {g : Sm} {x : En} (h : wayO g x = 0) : doS g x = g := by unfold doS; rw [if_pos h]
theorem doS_way5 {g : Sm} {x : En} (h : wayO g x = 5) : doS g x = ⟨g.os ++ [newO g x], g.dn + 1⟩ := by unfold doS; rw [h, if_neg (by decide), if_pos rfl]
set_option maxRecDepth 1000000 in
set_option maxHeartbeats 2000000 in
theorem SmAt.do0 {B : Nat} {w : World} {p mi me : Nat} {v : Value} {g : Sm} (h : SmAt B w p mi me v g) (np : Bool) (tk ct : ByteArray) (ep : Int) (dp : List Int) (ao1 : Option Addr) (cap1 : Nat) (hx : EnOk w ⟨⟨np, tk, ct, ep, dp⟩, ao1, cap1⟩) (hr : ¬ RightEn ⟨np, tk, ct, ep, dp⟩ = true) :
    Calls Try.prog 10 #[.pointer (some ⟨p, 0, none⟩), .agg #[.bool np, .string tk, .string ct, .int .i64 ep, .slice ao1 dp.length cap1]] w (DoP B w p mi me v g ⟨np, tk, ct, ep, dp⟩) := by
  obtain ⟨XN, HXN⟩ : ∃ m, Hid (dp.length = m) := ⟨_, hid rfl⟩
  obtain ⟨W0, hW0⟩ : ∃ W, W = w.alloc (.cells #[.bool np, .string tk, .string ct, .int .i64 ep, .slice ao1 XN cap1] 39) := ⟨_, rfl⟩
  obtain ⟨W, hW⟩ : ∃ W, W = W0.alloc (.cells #[.int .i64 0, .string ⟨#[]⟩, .string ⟨#[]⟩, .int .i64 0, .slice none 0 0] 32) := ⟨_, rfl⟩
  have hz0 : W0.heap.size = w.heap.size + 1 := by rw [hW0]; simp
  have hb0 : Below w.heap.size w W0 := by rw [hW0]; exact (Below.refl _ _).alloc (Nat.le_refl _) _
  have HB : Hid (Below w.heap.size w W) := by rw [hW]; exact hb0.alloc hb0.size _
  have HK : Hid (Blk W w.heap.size 39 [.bool np, .string tk, .string ct, .int .i64 ep, .slice ao1 XN cap1]) := by rw [hW, hW0]; exact (Blk.new w _ _).alloc _
  have HR : Hid (Blk W (w.heap.size + 1) 32 [.int .i64 0, .string ⟨#[]⟩, .string ⟨#[]⟩, .int .i64 0, .slice none 0 0]) := by rw [hW, ← hz0]; exact Blk.new W0 _ _
  have HW : Hid (W = (w.alloc (.cells #[.bool np, .string tk, .string ct, .int .i64 ep, .slice ao1 XN cap1] 39)).alloc (.cells #[.int .i64 0, .string ⟨#[]⟩, .string ⟨#[]⟩, .int .i64 0, .slice none 0 0] 32)) := by show _ = _; rw [hW, hW0]
  obtain ⟨q, hq⟩ : ∃ q, q = w.heap.size := ⟨_, rfl⟩
  have HQ := hid hq
  rw [← hq] at HK HR
  have H := hid h
  have HS := hid (h.below HB.out)
  have HX := hid hx
  have HCL := hid HS.out.closed
  have HMAY := hid (mayEntrySm W ⟨⟨np, tk, ct, ep, dp⟩, ao1, cap1⟩ (hx.below HB.out))
  have HLQ : Hid (∀ i, FootM p mi me v i → i < q) := fun i hi => by rw [HQ.out]; exact h.lt i hi
  simp only [EnM.val] at HMAY
  rw [HXN.out] at HMAY
  rw [HXN.out]
  have c0 := HK.out.cell (i := 0) rfl
  have c1 := HK.out.cell (i := 1) rfl
  have c2 := HK.out.cell (i := 2) rfl
  have c3 := HK.out.cell (i := 3) rfl
  have c4 := HK.out.cell (i := 4) rfl
  have HWY : Hid (wayO g ⟨np, tk, ct, ep, dp⟩ = 0) := way0 hr
  have hrf : RightEn ⟨np, tk, ct, ep, dp⟩ = false := by simpa using hr
  rw [hrf] at HMAY
  clear h hx hW hW0 hz0 hb0 hq hr hrf
  go_enter Try.func10, Try.ntmps10
  go_wp2_with fail
  rw [← HW.out, ← HQ.out]
  refine HCL.out.mono ?_
  rintro e w1 ⟨rfl, rfl⟩
  go_wp2_with fail
  refine HMAY.out.mono ?_
  rintro e w2 ⟨rfl, hb2⟩
  have HB2 := hid (bt' HB.out hb2)
  have HS2 := hid (HS.out.below hb2)
  have HK2 := hid (HK.out.below hb2 HK.out.lt)
  have HR2 := hid (HR.out.below hb2 HR.out.lt)
  have HTW2 : Hid (Turns (FootM p mi me v) w w2) := Turns.of_below HB2.out (Nat.le_refl _)
  clear c0 c1 c2 c3 c4 hb2
  have hr7 := HR2.out
  have r0 := hr7.cell (i := 0) rfl
  have r1 := hr7.cell (i := 1) rfl
  have r2 := hr7.cell (i := 2) rfl
  have r3 := hr7.cell (i := 3) rfl
  have r4 := hr7.cell (i := 4) rfl
  have q0 := hr7.frozen 0
  have q1 := hr7.frozen 1
  have q2 := hr7.frozen 2
  have q3 := hr7.frozen 3
  have q4 := hr7.frozen 4
  obtain ⟨W3, hW3⟩ : ∃ V, V = st5 w2 (q + 1) (.int .i64 0) (.string ⟨#[]⟩) (.string ⟨#[]⟩) (.int .i64 0) (.slice none 0 0) := ⟨_, rfl⟩
  have hk9 : Blk W3 (q + 1) 32 [.int .i64 0, .string ⟨#[]⟩, .string ⟨#[]⟩, .int .i64 0, .slice none 0 0] := by rw [hW3]; exact st5_blk hr7 _ _ _ _ _
  have HT9 : Hid (Turns (fun i => i = (q + 1)) w2 W3) := by rw [hW3]; exact st5_turns _ _ _ _ _ _ _
  have k0 := hk9.cell (i := 0) rfl
  have k1 := hk9.cell (i := 1) rfl
  have k2 := hk9.cell (i := 2) rfl
  have k3 := hk9.cell (i := 3) rfl
  have k4 := hk9.cell (i := 4) rfl
  have HFI := hid (do_fin HS2.out hr7 HTW2.out (by have := HQ.out; omega) (fun hf => by have := HLQ.out _ hf; omega) HT9.out)
  have HFS : Hid (SmAt B W3 p mi me v (doS g ⟨np, tk, ct, ep, dp⟩)) := by rw [doS_way0 HWY.out]; exact HFI.out.1
  clear hr7 hk9
  go_wp2
  unfold st5 at hW3
  rw [← hW3]
  (try simp only [Exit.inBlock, Exit.then])
  refine bodyPost_ret (v := .tuple #[.agg #[.int .i64 0, .string ⟨#[]⟩, .string ⟨#[]⟩, .int .i64 0, .slice none 0 0], .bool false, .int .i64 1]) ?_ rfl (doP_zero HWY.out (by decide) (by decide) rfl HFS.out HFI.out.2)
  rw [results_cell_tmp2 rfl]
  go_simp
set_option maxRecDepth 1000000 in
set_option maxHeartbeats 2000000 in
theorem SmAt.do1 {B : Nat} {w : World} {p mi me : Nat} {v : Value} {g : Sm} (h : SmAt B w p mi me v g) (hdn : g.dn ≤ 4611686018427387904) (np : Bool) (tk ct : ByteArray) (ep : Int) (dp : List Int) (ao1 : Option Addr) (cap1 : Nat) (hx : EnOk w ⟨⟨np, tk, ct, ep, dp⟩, ao1, cap1⟩) (hr : RightEn ⟨np, tk, ct, ep, dp⟩ = true) (hn : np = true) :
    Calls Try.prog 10 #[.pointer (some ⟨p, 0, none⟩), .agg #[.bool np, .string tk, .string ct, .int .i64 ep, .slice ao1 dp.length cap1]] w (DoP B w p mi me v g ⟨np, tk, ct, ep, dp⟩) := by
  subst hn
  obtain ⟨XN, HXN⟩ : ∃ m, Hid (dp.length = m) := ⟨_, hid rfl⟩
  obtain ⟨W0, hW0⟩ : ∃ W, W = w.alloc (.cells #[.bool true, .string tk, .string ct, .int .i64 ep, .slice ao1 XN cap1] 39) := ⟨_, rfl⟩
  obtain ⟨W, hW⟩ : ∃ W, W = W0.alloc (.cells #[.int .i64 0, .string ⟨#[]⟩, .string ⟨#[]⟩, .int .i64 0, .slice none 0 0] 32) := ⟨_, rfl⟩
  have hz0 : W0.heap.size = w.heap.size + 1 := by rw [hW0]; simp
  have hb0 : Below w.heap.size w W0 := by rw [hW0]; exact (Below.refl _ _).alloc (Nat.le_refl _) _
  have HB : Hid (Below w.heap.size w W) := by rw [hW]; exact hb0.alloc hb0.size _
  have HK : Hid (Blk W w.heap.size 39 [.bool true, .string tk, .string ct, .int .i64 ep, .slice ao1 XN cap1]) := by rw [hW, hW0]; exact (Blk.new w _ _).alloc _
  have HR : Hid (Blk W (w.heap.size + 1) 32 [.int .i64 0, .string ⟨#[]⟩, .string ⟨#[]⟩, .int .i64 0, .slice none 0 0]) := by rw [hW, ← hz0]; exact Blk.new W0 _ _
  have HW : Hid (W = (w.alloc (.cells #[.bool true, .string tk, .string ct, .int .i64 ep, .slice ao1 XN cap1] 39)).alloc (.cells #[.int .i64 0, .string ⟨#[]⟩, .string ⟨#[]⟩, .int .i64 0, .slice none 0 0] 32)) := by show _ = _; rw [hW, hW0]
  obtain ⟨q, hq⟩ : ∃ q, q = w.heap.size := ⟨_, rfl⟩
  have HQ := hid hq
  rw [← hq] at HK HR
  have H := hid h
  have HS := hid (h.below HB.out)
  have HX := hid hx
  have HCL := hid HS.out.closed
  have HMAY := hid (mayEntrySm W ⟨⟨true, tk, ct, ep, dp⟩, ao1, cap1⟩ (hx.below HB.out))
  have HLQ : Hid (∀ i, FootM p mi me v i → i < q) := fun i hi => by rw [HQ.out]; exact h.lt i hi
  simp only [EnM.val] at HMAY
  rw [HXN.out] at HMAY
  rw [HXN.out]
  have c0 := HK.out.cell (i := 0) rfl
  have c1 := HK.out.cell (i := 1) rfl
  have c2 := HK.out.cell (i := 2) rfl
  have c3 := HK.out.cell (i := 3) rfl
  have c4 := HK.out.cell (i := 4) rfl
  have HD0 := hid hdn
  have HWY : Hid (wayO g ⟨true, tk, ct, ep, dp⟩ = 1) := way1 hr rfl
  rw [hr] at HMAY
  clear h hx hdn hW hW0 hz0 hb0 hq hr
  go_enter Try.func10, Try.ntmps10
  go_wp2_with fail
  rw [← HW.out, ← HQ.out]
  refine HCL.out.mono ?_
  rintro e w1 ⟨rfl, rfl⟩
  go_wp2_with fail
  refine HMAY.out.mono ?_
  rintro e w2 ⟨rfl, hb2⟩
  have HB2 := hid (bt' HB.out hb2)
  have HS2 := hid (HS.out.below hb2)
  have HK2 := hid (HK.out.below hb2 HK.out.lt)
  have HR2 := hid (HR.out.below hb2 HR.out.lt)
  have HTW2 : Hid (Turns (FootM p mi me v) w w2) := Turns.of_below HB2.out (Nat.le_refl _)
  clear c0 c1 c2 c3 c4 hb2
  have a3 := HS2.out.cells.2.2.2
  have y3 := HS2.out.blk.frozen 3
  obtain ⟨DN, HDN⟩ : ∃ d, Hid (g.dn = d) := ⟨_, hid rfl⟩
  rw [HDN.out] at a3
  have hadd : wrap64 ((DN : Int) + 1) = (DN : Int) + 1 := by have := HD0.out; rw [HDN.out] at this; exact wrapO (by omega) (by omega)
  obtain ⟨W5, hW5⟩ : ∃ V, V = w2.setCell ⟨p, 3, none⟩ (.int .i64 ((DN : Int) + 1)) := ⟨_, rfl⟩
  have HW5 := hid hW5
  have HSB := hid (HS2.out.bump (w' := W5) (by rw [HDN.out]; exact hW5))
  have HS5 := hid HSB.out.1
  have HT5 : Hid (Turns (FootM p mi me v) w W5) := HTW2.out.trans HSB.out.2 (fun i hi => .inl (.inl hi))
  have HPQ : Hid (p < q) := HLQ.out p (.inl rfl)
  have HK5 := hid (HSB.out.2.blk HK2.out (fun e => by have := HPQ.out; omega))
  have HR5 := hid (HSB.out.2.blk HR2.out (fun e => by have := HPQ.out; omega))
  have k0 := HK5.out.cell (i := 0) rfl
  have k1 := HK5.out.cell (i := 1) rfl
  have k2 := HK5.out.cell (i := 2) rfl
  have k3 := HK5.out.cell (i := 3) rfl
  have k4 := HK5.out.cell (i := 4) rfl
  rw [hW5] at k0 k1 k2 k3 k4
  clear hW5
  have hr7 := HR5.out
  clear HSB
  have r0z := hr7.cell (i := 0) rfl
  have r1z := hr7.cell (i := 1) rfl
  have r2z := hr7.cell (i := 2) rfl
  have r3z := hr7.cell (i := 3) rfl
  have r4z := hr7.cell (i := 4) rfl
  have q0z := hr7.frozen 0
  have q1z := hr7.frozen 1
  have q2z := hr7.frozen 2
  have q3z := hr7.frozen 3
  have q4z := hr7.frozen 4
  obtain ⟨W3, hW3⟩ : ∃ V, V = st5 W5 (q + 1) (.int .i64 0) (.string ⟨#[]⟩) (.string ⟨#[]⟩) (.int .i64 0) (.slice none 0 0) := ⟨_, rfl⟩
  have hk9z : Blk W3 (q + 1) 32 [.int .i64 0, .string ⟨#[]⟩, .string ⟨#[]⟩, .int .i64 0, .slice none 0 0] := by rw [hW3]; exact st5_blk hr7 _ _ _ _ _
  have HT9z : Hid (Turns (fun i => i = (q + 1)) W5 W3) := by rw [hW3]; exact st5_turns _ _ _ _ _ _ _
  have k0z := hk9z.cell (i := 0) rfl
  have k1z := hk9z.cell (i := 1) rfl
  have k2z := hk9z.cell (i := 2) rfl
  have k3z := hk9z.cell (i := 3) rfl
  have k4z := hk9z.cell (i := 4) rfl
  have HFI := hid (do_fin HS5.out hr7 HT5.out (by have := HQ.out; omega) (fun hf => by have := HLQ.out _ hf; omega) HT9z.out)
  have HFS : Hid (SmAt B W3 p mi me v (doS g ⟨true, tk, ct, ep, dp⟩)) := by rw [doS_way HWY.out (by decide) (by decide)]; exact HFI.out.1
  clear hr7 hk9z
  rw [HW5.out] at r0z r1z r2z r3z r4z q0z q1z q2z q3z q4z hW3
  go_wp2
  unfold st5 at hW3
  rw [← hW3]
  (try simp only [Exit.inBlock, Exit.then])
  refine bodyPost_ret (v := .tuple #[.agg #[.int .i64 0, .string ⟨#[]⟩, .string ⟨#[]⟩, .int .i64 0, .slice none 0 0], .bool false, .int .i64 0]) ?_ rfl (doP_zero HWY.out (by decide) (by decide) rfl HFS.out HFI.out.2)
  rw [results_cell_tmp2 rfl]
  go_simp
set_option maxRecDepth 1000000 in
set_option maxHeartbeats 2000000 in
theorem SmAt.do2 {B : Nat} {w : World} {p mi me : Nat} {v : Value} {g : Sm} (h : SmAt B w p mi me v g) (hdn : g.dn ≤ 4611686018427387904) (np : Bool) (tk ct : ByteArray) (ep : Int) (dp : List Int) (ao1 : Option Addr) (cap1 : Nat) (hx : EnOk w ⟨⟨np, tk, ct, ep, dp⟩, ao1, cap1⟩) (hr : RightEn ⟨np, tk, ct, ep, dp⟩ = true) (hn : np = false) (oid oep : Int) (otk oct : ByteArray) (odp : List Int) (hf : findO tk g.os = some ⟨oid, otk, oct, oep, odp⟩) :
    Calls Try.prog 10 #[.pointer (some ⟨p, 0, none⟩), .agg #[.bool np, .string tk, .string ct, .int .i64 ep, .slice ao1 dp.length cap1]] w (DoP B w p mi me v g ⟨np, tk, ct, ep, dp⟩) := by
  subst hn
  obtain ⟨XN, HXN⟩ : ∃ m, Hid (dp.length = m) := ⟨_, hid rfl⟩
  obtain ⟨W0, hW0⟩ : ∃ W, W = w.alloc (.cells #[.bool false, .string tk, .string ct, .int .i64 ep, .slice ao1 XN cap1] 39) := ⟨_, rfl⟩
  obtain ⟨W, hW⟩ : ∃ W, W = W0.alloc (.cells #[.int .i64 0, .string ⟨#[]⟩, .string ⟨#[]⟩, .int .i64 0, .slice none 0 0] 32) := ⟨_, rfl⟩
  have hz0 : W0.heap.size = w.heap.size + 1 := by rw [hW0]; simp
  have hb0 : Below w.heap.size w W0 := by rw [hW0]; exact (Below.refl _ _).alloc (Nat.le_refl _) _
  have HB : Hid (Below w.heap.size w W) := by rw [hW]; exact hb0.alloc hb0.size _
  have HK : Hid (Blk W w.heap.size 39 [.bool false, .string tk, .string ct, .int .i64 ep, .slice ao1 XN cap1]) := by rw [hW, hW0]; exact (Blk.new w _ _).alloc _
  have HR : Hid (Blk W (w.heap.size + 1) 32 [.int .i64 0, .string ⟨#[]⟩, .string ⟨#[]⟩, .int .i64 0, .slice none 0 0]) := by rw [hW, ← hz0]; exact Blk.new W0 _ _
  have HW : Hid (W = (w.alloc (.cells #[.bool false, .string tk, .string ct, .int .i64 ep, .slice ao1 XN cap1] 39)).alloc (.cells #[.int .i64 0, .string ⟨#[]⟩, .string ⟨#[]⟩, .int .i64 0, .slice none 0 0] 32)) := by show _ = _; rw [hW, hW0]
  obtain ⟨q, hq⟩ : ∃ q, q = w.heap.size := ⟨_, rfl⟩
  have HQ := hid hq
  rw [← hq] at HK HR
  have H := hid h
  have HS := hid (h.below HB.out)
  have HX := hid hx
  have HCL := hid HS.out.closed
  have HMAY := hid (mayEntrySm W ⟨⟨false, tk, ct, ep, dp⟩, ao1, cap1⟩ (hx.below HB.out))
  have HLQ : Hid (∀ i, FootM p mi me v i → i < q) := fun i hi => by rw [HQ.out]; exact h.lt i hi
  simp only [EnM.val] at HMAY
  rw [HXN.out] at HMAY
  rw [HXN.out]
  have c0 := HK.out.cell (i := 0) rfl
  have c1 := HK.out.cell (i := 1) rfl
  have c2 := HK.out.cell (i := 2) rfl
  have c3 := HK.out.cell (i := 3) rfl
  have c4 := HK.out.cell (i := 4) rfl
  have HD0 := hid hdn
  have HWY : Hid (wayO g ⟨false, tk, ct, ep, dp⟩ = 2) := way2 hr rfl hf
  have HFO := hid hf
  have HTS : Hid (tk.size ≤ maxLen) := hx.ht
  obtain ⟨ON, HON⟩ : ∃ m, Hid (odp.length = m) := ⟨_, hid rfl⟩
  rw [hr] at HMAY
  clear h hx hdn hW hW0 hz0 hb0 hq hr hf
  go_enter Try.func10, Try.ntmps10
  go_wp2_with fail
  rw [← HW.out, ← HQ.out]
  refine HCL.out.mono ?_
  rintro e w1 ⟨rfl, rfl⟩
  go_wp2_with fail
  refine HMAY.out.mono ?_
  rintro e w2 ⟨rfl, hb2⟩
  have HB2 := hid (bt' HB.out hb2)
  have HS2 := hid (HS.out.below hb2)
  have HK2 := hid (HK.out.below hb2 HK.out.lt)
  have HR2 := hid (HR.out.below hb2 HR.out.lt)
  have HTW2 : Hid (Turns (FootM p mi me v) w w2) := Turns.of_below HB2.out (Nat.le_refl _)
  clear c0 c1 c2 c3 c4 hb2
  have a3 := HS2.out.cells.2.2.2
  have y3 := HS2.out.blk.frozen 3
  obtain ⟨DN, HDN⟩ : ∃ d, Hid (g.dn = d) := ⟨_, hid rfl⟩
  rw [HDN.out] at a3
  have hadd : wrap64 ((DN : Int) + 1) = (DN : Int) + 1 := by have := HD0.out; rw [HDN.out] at this; exact wrapO (by omega) (by omega)
  obtain ⟨W5, hW5⟩ : ∃ V, V = w2.setCell ⟨p, 3, none⟩ (.int .i64 ((DN : Int) + 1)) := ⟨_, rfl⟩
  have HW5 := hid hW5
  have HSB := hid (HS2.out.bump (w' := W5) (by rw [HDN.out]; exact hW5))
  have HS5 := hid HSB.out.1
  have HT5 : Hid (Turns (FootM p mi me v) w W5) := HTW2.out.trans HSB.out.2 (fun i hi => .inl (.inl hi))
  have HPQ : Hid (p < q) := HLQ.out p (.inl rfl)
  have HK5 := hid (HSB.out.2.blk HK2.out (fun e => by have := HPQ.out; omega))
  have HR5 := hid (HSB.out.2.blk HR2.out (fun e => by have := HPQ.out; omega))
  have k0 := HK5.out.cell (i := 0) rfl
  have k1 := HK5.out.cell (i := 1) rfl
  have k2 := HK5.out.cell (i := 2) rfl
  have k3 := HK5.out.cell (i := 3) rfl
  have k4 := HK5.out.cell (i := 4) rfl
  rw [hW5] at k0 k1 k2 k3 k4
  clear hW5
  have HTK : Hid (Calls Try.prog 16 #[.pointer (some ⟨p, 0, none⟩), .string tk] W5 fun e w' => ∃ bo cp, e = .returned (.tuple #[.agg #[.int .i64 oid, .string otk, .string oct, .int .i64 oep, .slice bo ON cp], .bool true]) ∧ Hid (HV w' bo cp odp ∧ ∀ b off, bo = some ⟨b, off, none⟩ → W5.heap.size ≤ b ∧ ∃ cs, Blk w' b 3 cs) ∧ Below W5.heap.size W5 w') := by
    have h1 := HS5.out.token tk HTS.out
    simp only at h1
    rw [HFO.out] at h1
    refine h1.mono ?_
    rintro e w' ⟨bo, cp, rfl, h2, h3, h4⟩
    refine ⟨bo, cp, ?_, ⟨h2, h3⟩, h4⟩
    simp only [OrM.val, Option.getD_some, Option.isSome_some]
    rw [HON.out]
  clear HSB
  go_wp2_with fail
  rw [← HW5.out]
  refine HTK.out.mono ?_
  rintro e w6 ⟨bo, cp, rfl, HV6, hb6⟩
  obtain ⟨W7, hW7⟩ : ∃ V, V = w6.alloc (.cells #[.int .i64 oid, .string otk, .string oct, .int .i64 oep, .slice bo ON cp] 32) := ⟨_, rfl⟩
  have hb7 : Below w6.heap.size w6 W7 := by rw [hW7]; exact (Below.refl _ _).alloc (Nat.le_refl _) _
  have hb57 := bt' hb6 hb7
  have HS7 := hid (HS5.out.below hb57)
  have hr7 := HR5.out.below hb57 HR5.out.lt
  have HQ5 : Hid (q + 1 < W5.heap.size) := HR5.out.lt
  have HT7 : Hid (Turns (FootM p mi me v) w W7) := HT5.out.trans (Turns.of_below (F := fun _ => False) hb57 (Nat.le_refl _)) (fun _ h => h.elim)
  have HV7 : Hid (HV W7 bo cp odp ∧ ∀ b off, bo = some ⟨b, off, none⟩ → W5.heap.size ≤ b ∧ ∃ cs, Blk W7 b 3 cs) := ⟨HV6.out.1.below hb7, fun b off e => by
    obtain ⟨h1, cs, h2⟩ := HV6.out.2 b off e
    exact ⟨h1, cs, h2.below hb7 h2.lt⟩⟩
  have HW7 := hid hW7
  have r0z := hr7.cell (i := 0) rfl
  have r1z := hr7.cell (i := 1) rfl
  have r2z := hr7.cell (i := 2) rfl
  have r3z := hr7.cell (i := 3) rfl
  have r4z := hr7.cell (i := 4) rfl
  have q0z := hr7.frozen 0
  have q1z := hr7.frozen 1
  have q2z := hr7.frozen 2
  have q3z := hr7.frozen 3
  have q4z := hr7.frozen 4
  obtain ⟨W3, hW3⟩ : ∃ V, V = st5 W7 (q + 1) (.int .i64 oid) (.string otk) (.string oct) (.int .i64 oep) (.slice bo ON cp) := ⟨_, rfl⟩
  have hk9z : Blk W3 (q + 1) 32 [.int .i64 oid, .string otk, .string oct, .int .i64 oep, .slice bo ON cp] := by rw [hW3]; exact st5_blk hr7 _ _ _ _ _
  have HT9z : Hid (Turns (fun i => i = (q + 1)) W7 W3) := by rw [hW3]; exact st5_turns _ _ _ _ _ _ _
  have k0z := hk9z.cell (i := 0) rfl
  have k1z := hk9z.cell (i := 1) rfl
  have k2z := hk9z.cell (i := 2) rfl
  have k3z := hk9z.cell (i := 3) rfl
  have k4z := hk9z.cell (i := 4) rfl
  have HFI := hid (do_fin HS7.out hr7 HT7.out (by have := HQ.out; omega) (fun hf => by have := HLQ.out _ hf; omega) HT9z.out)
  have HFS : Hid (SmAt B W3 p mi me v (doS g ⟨false, tk, ct, ep, dp⟩)) := by rw [doS_way HWY.out (by decide) (by decide)]; exact HFI.out.1
  have HPO : Hid (∀ e, e = Ending.returned (.tuple #[.agg #[.int .i64 oid, .string otk, .string oct, .int .i64 oep, .slice bo ON cp], .bool false, .int .i64 0]) → DoP B w p mi me v g ⟨false, tk, ct, ep, dp⟩ e W3) := fun e he => by
    have hdr : doR g ⟨false, tk, ct, ep, dp⟩ = ⟨oid, otk, oct, oep, odp⟩ := by unfold doR; rw [if_pos HWY.out, HFO.out]; rfl
    refine ⟨bo, cp, v, ?_, ?_, fun b off e => ?_, HFS.out, HFI.out.2, .inl rfl⟩
    · rw [he, hdr, HWY.out]
      simp only [OrM.val]
      rw [HON.out]
      rfl
    · rw [hdr]
      exact ⟨HV7.out.1.held.turned HT9z.out (fun b off e _ hF => by have := (HV7.out.2 b off e).1; have := HQ5.out; omega), HV7.out.1.room, HV7.out.1.few⟩
    · obtain ⟨h1, cs, h2⟩ := HV7.out.2 b off e
      exact ⟨by have := HT5.out.size; omega, cs, HT9z.out.blk h2 (fun hF => by have := HQ5.out; omega)⟩
  have m7 : Blk W7 w6.heap.size 32 [.int .i64 oid, .string otk, .string oct, .int .i64 oep, .slice bo ON cp] := by rw [hW7]; exact Blk.new w6 _ _
  rw [hW7] at m7 r0z r1z r2z r3z r4z q0z q1z q2z q3z q4z
  have l0 := m7.cell (i := 0) rfl
  have l1 := m7.cell (i := 1) rfl
  have l2 := m7.cell (i := 2) rfl
  have l3 := m7.cell (i := 3) rfl
  have l4 := m7.cell (i := 4) rfl
  clear hr7 hk9z hb6 hb7 hb57 m7
  rw [hW7] at hW3
  clear hW7
  go_wp2
  unfold st5 at hW3
  rw [← hW3]
  (try simp only [Exit.inBlock, Exit.then])
  refine bodyPost_ret (v := .tuple #[.agg #[.int .i64 oid, .string otk, .string oct, .int .i64 oep, .slice bo ON cp], .bool false, .int .i64 0]) ?_ rfl (HPO.out _ rfl)
  rw [results_cell_tmp2 rfl]
  go_simp
set_option maxRecDepth 1000000 in
set_option maxHeartbeats 2000000 in
theorem SmAt.do3 {B : Nat} {w : World} {p mi me : Nat} {v : Value} {g : Sm} (h : SmAt B w p mi me v g) (hdn : g.dn ≤ 4611686018427387904) (np : Bool) (tk ct : ByteArray) (ep : Int) (dp : List Int) (ao1 : Option Addr) (cap1 : Nat) (hx : EnOk w ⟨⟨np, tk, ct, ep, dp⟩, ao1, cap1⟩) (hr : RightEn ⟨np, tk, ct, ep, dp⟩ = true) (hn : np = false) (hf : findO tk g.os = none) (he : ep ≠ (cntO ct g.os : Int)) :
    Calls Try.prog 10 #[.pointer (some ⟨p, 0, none⟩), .agg #[.bool np, .string tk, .string ct, .int .i64 ep, .slice ao1 dp.length cap1]] w (DoP B w p mi me v g ⟨np, tk, ct, ep, dp⟩) := by
  subst hn
  obtain ⟨XN, HXN⟩ : ∃ m, Hid (dp.length = m) := ⟨_, hid rfl⟩
  obtain ⟨W0, hW0⟩ : ∃ W, W = w.alloc (.cells #[.bool false, .string tk, .string ct, .int .i64 ep, .slice ao1 XN cap1] 39) := ⟨_, rfl⟩
  obtain ⟨W, hW⟩ : ∃ W, W = W0.alloc (.cells #[.int .i64 0, .string ⟨#[]⟩, .string ⟨#[]⟩, .int .i64 0, .slice none 0 0] 32) := ⟨_, rfl⟩
  have hz0 : W0.heap.size = w.heap.size + 1 := by rw [hW0]; simp
  have hb0 : Below w.heap.size w W0 := by rw [hW0]; exact (Below.refl _ _).alloc (Nat.le_refl _) _
  have HB : Hid (Below w.heap.size w W) := by rw [hW]; exact hb0.alloc hb0.size _
  have HK : Hid (Blk W w.heap.size 39 [.bool false, .string tk, .string ct, .int .i64 ep, .slice ao1 XN cap1]) := by rw [hW, hW0]; exact (Blk.new w _ _).alloc _
  have HR : Hid (Blk W (w.heap.size + 1) 32 [.int .i64 0, .string ⟨#[]⟩, .string ⟨#[]⟩, .int .i64 0, .slice none 0 0]) := by rw [hW, ← hz0]; exact Blk.new W0 _ _
  have HW : Hid (W = (w.alloc (.cells #[.bool false, .string tk, .string ct, .int .i64 ep, .slice ao1 XN cap1] 39)).alloc (.cells #[.int .i64 0, .string ⟨#[]⟩, .string ⟨#[]⟩, .int .i64 0, .slice none 0 0] 32)) := by show _ = _; rw [hW, hW0]
  obtain ⟨q, hq⟩ : ∃ q, q = w.heap.size := ⟨_, rfl⟩
  have HQ := hid hq
  rw [← hq] at HK HR
  have H := hid h
  have HS := hid (h.below HB.out)
  have HX := hid hx
  have HCL := hid HS.out.closed
  have HMAY := hid (mayEntrySm W ⟨⟨false, tk, ct, ep, dp⟩, ao1, cap1⟩ (hx.below HB.out))
  have HLQ : Hid (∀ i, FootM p mi me v i → i < q) := fun i hi => by rw [HQ.out]; exact h.lt i hi
  simp only [EnM.val] at HMAY
  rw [HXN.out] at HMAY
  rw [HXN.out]
  have c0 := HK.out.cell (i := 0) rfl
  have c1 := HK.out.cell (i := 1) rfl
  have c2 := HK.out.cell (i := 2) rfl
  have c3 := HK.out.cell (i := 3) rfl
  have c4 := HK.out.cell (i := 4) rfl
  have HD0 := hid hdn
  have HWY : Hid (wayO g ⟨false, tk, ct, ep, dp⟩ = 3) := way3 hr rfl hf he
  have HFO := hid hf
  have HTS : Hid (tk.size ≤ maxLen) := hx.ht
  have HTC : Hid (ct.size ≤ maxLen) := hx.hc
  obtain ⟨cn, HCN⟩ : ∃ c : Nat, Hid (cntO ct g.os = c) := ⟨_, hid rfl⟩
  have hbn : (ep != (cn : Int)) = true := by rw [← HCN.out]; simpa using he
  rw [hr] at HMAY
  clear h hx hW hW0 hz0 hb0 hq hr hf hdn he
  go_enter Try.func10, Try.ntmps10
  go_wp2_with fail
  rw [← HW.out, ← HQ.out]
  refine HCL.out.mono ?_
  rintro e w1 ⟨rfl, rfl⟩
  go_wp2_with fail
  refine HMAY.out.mono ?_
  rintro e w2 ⟨rfl, hb2⟩
  have HB2 := hid (bt' HB.out hb2)
  have HS2 := hid (HS.out.below hb2)
  have HK2 := hid (HK.out.below hb2 HK.out.lt)
  have HR2 := hid (HR.out.below hb2 HR.out.lt)
  have HTW2 : Hid (Turns (FootM p mi me v) w w2) := Turns.of_below HB2.out (Nat.le_refl _)
  clear c0 c1 c2 c3 c4 hb2
  have a3 := HS2.out.cells.2.2.2
  have y3 := HS2.out.blk.frozen 3
  obtain ⟨DN, HDN⟩ : ∃ d, Hid (g.dn = d) := ⟨_, hid rfl⟩
  rw [HDN.out] at a3
  have hadd : wrap64 ((DN : Int) + 1) = (DN : Int) + 1 := by have := HD0.out; rw [HDN.out] at this; exact wrapO (by omega) (by omega)
  obtain ⟨W5, hW5⟩ : ∃ V, V = w2.setCell ⟨p, 3, none⟩ (.int .i64 ((DN : Int) + 1)) := ⟨_, rfl⟩
  have HW5 := hid hW5
  have HSB := hid (HS2.out.bump (w' := W5) (by rw [HDN.out]; exact hW5))
  have HS5 := hid HSB.out.1
  have HT5 : Hid (Turns (FootM p mi me v) w W5) := HTW2.out.trans HSB.out.2 (fun i hi => .inl (.inl hi))
  have HPQ : Hid (p < q) := HLQ.out p (.inl rfl)
  have HK5 := hid (HSB.out.2.blk HK2.out (fun e => by have := HPQ.out; omega))
  have HR5 := hid (HSB.out.2.blk HR2.out (fun e => by have := HPQ.out; omega))
  have k0 := HK5.out.cell (i := 0) rfl
  have k1 := HK5.out.cell (i := 1) rfl
  have k2 := HK5.out.cell (i := 2) rfl
  have k3 := HK5.out.cell (i := 3) rfl
  have k4 := HK5.out.cell (i := 4) rfl
  rw [hW5] at k0 k1 k2 k3 k4
  clear hW5
  have HTK : Hid (Calls Try.prog 16 #[.pointer (some ⟨p, 0, none⟩), .string tk] W5 fun e w' => ∃ bo cp, e = .returned (.tuple #[.agg #[.int .i64 0, .string ⟨#[]⟩, .string ⟨#[]⟩, .int .i64 0, .slice bo 0 cp], .bool false]) ∧ Below W5.heap.size W5 w') := by
    have h1 := HS5.out.token tk HTS.out
    simp only at h1
    rw [HFO.out] at h1
    refine h1.mono ?_
    rintro e w' ⟨bo, cp, rfl, _, _, h4⟩
    exact ⟨bo, cp, rfl, h4⟩
  clear HSB
  go_wp2_with fail
  rw [← HW5.out]
  refine HTK.out.mono ?_
  rintro e w6 ⟨bo, cp, rfl, hb6⟩
  obtain ⟨W7, hW7⟩ : ∃ V, V = w6.alloc (.cells #[.int .i64 0, .string ⟨#[]⟩, .string ⟨#[]⟩, .int .i64 0, .slice bo 0 cp] 32) := ⟨_, rfl⟩
  have hb7 : Below w6.heap.size w6 W7 := by rw [hW7]; exact (Below.refl _ _).alloc (Nat.le_refl _) _
  have hb57 := bt' hb6 hb7
  have HS7 := hid (HS5.out.below hb57)
  have HR7 := hid (HR5.out.below hb57 HR5.out.lt)
  have HK7 := hid (HK5.out.below hb57 HK5.out.lt)
  have HT7 : Hid (Turns (FootM p mi me v) w W7) := HT5.out.trans (Turns.of_below (F := fun _ => False) hb57 (Nat.le_refl _)) (fun _ h => h.elim)
  have HW7 := hid hW7
  clear hb6 hb7 hb57 hW7
  go_wp2
  rw [← HW7.out]
  have j1 := HK7.out.cell (i := 1) rfl
  have j2 := HK7.out.cell (i := 2) rfl
  have j3 := HK7.out.cell (i := 3) rfl
  have HEPO : Hid (∀ n, Calls Try.prog 20 #[.pointer (some ⟨p, 0, none⟩), .string ct] (W7.drewN n) fun e w' => e = .returned (.int .i64 cn) ∧ w' = W7.drewN n) := fun n => by
    have h1 := (HS7.out.below (below_dn (Below.refl _ _) n)).epoch ct HTC.out
    simp only at h1
    rw [HCN.out] at h1
    exact h1
  go_quiet (first | (go_at_call 20; refine Calls.quiet_of_same (HEPO.out _)))
  obtain ⟨W8, hW8⟩ : ∃ V, V = W7.drewN nq := ⟨_, rfl⟩
  have hb8 : Below W7.heap.size W7 W8 := by rw [hW8]; exact below_dn (Below.refl _ _) nq
  have HS8 := hid (HS7.out.below hb8)
  have HR8 := hid (HR7.out.below hb8 HR7.out.lt)
  have HK8 := hid (HK7.out.below hb8 HK7.out.lt)
  have HT8 : Hid (Turns (FootM p mi me v) w W8) := HT7.out.trans (Turns.of_below (F := fun _ => False) hb8 (Nat.le_refl _)) (fun _ h => h.elim)
  rw [← hW8]
  have j1 := HK8.out.cell (i := 1) rfl
  have j2 := HK8.out.cell (i := 2) rfl
  have j3 := HK8.out.cell (i := 3) rfl
  clear hW8 hb8
  have hr7 := HR8.out
  have r0z := hr7.cell (i := 0) rfl
  have r1z := hr7.cell (i := 1) rfl
  have r2z := hr7.cell (i := 2) rfl
  have r3z := hr7.cell (i := 3) rfl
  have r4z := hr7.cell (i := 4) rfl
  have q0z := hr7.frozen 0
  have q1z := hr7.frozen 1
  have q2z := hr7.frozen 2
  have q3z := hr7.frozen 3
  have q4z := hr7.frozen 4
  obtain ⟨W3, hW3⟩ : ∃ V, V = st5 W8 (q + 1) (.int .i64 0) (.string ⟨#[]⟩) (.string ⟨#[]⟩) (.int .i64 0) (.slice none 0 0) := ⟨_, rfl⟩
  have hk9z : Blk W3 (q + 1) 32 [.int .i64 0, .string ⟨#[]⟩, .string ⟨#[]⟩, .int .i64 0, .slice none 0 0] := by rw [hW3]; exact st5_blk hr7 _ _ _ _ _
  have HT9z : Hid (Turns (fun i => i = (q + 1)) W8 W3) := by rw [hW3]; exact st5_turns _ _ _ _ _ _ _
  have k0z := hk9z.cell (i := 0) rfl
  have k1z := hk9z.cell (i := 1) rfl
  have k2z := hk9z.cell (i := 2) rfl
  have k3z := hk9z.cell (i := 3) rfl
  have k4z := hk9z.cell (i := 4) rfl
  have HFI := hid (do_fin HS8.out hr7 HT8.out (by have := HQ.out; omega) (fun hf => by have := HLQ.out _ hf; omega) HT9z.out)
  have HFS : Hid (SmAt B W3 p mi me v (doS g ⟨false, tk, ct, ep, dp⟩)) := by rw [doS_way HWY.out (by decide) (by decide)]; exact HFI.out.1
  clear hr7 hk9z
  go_wp2
  unfold st5 at hW3
  rw [← hW3]
  (try simp only [Exit.inBlock, Exit.then])
  refine bodyPost_ret (v := .tuple #[.agg #[.int .i64 0, .string ⟨#[]⟩, .string ⟨#[]⟩, .int .i64 0, .slice none 0 0], .bool false, .int .i64 190]) ?_ rfl (doP_zero HWY.out (by decide) (by decide) rfl HFS.out HFI.out.2)
  rw [results_cell_tmp2 rfl]
  go_simp
set_option maxRecDepth 1000000 in
set_option maxHeartbeats 2000000 in
theorem SmAt.do4 {B : Nat} {w : World} {p mi me : Nat} {v : Value} {g : Sm} (h : SmAt B w p mi me v g) (hdn : g.dn ≤ 4611686018427387904) (np : Bool) (tk ct : ByteArray) (ep : Int) (dp : List Int) (ao1 : Option Addr) (cap1 : Nat) (hx : EnOk w ⟨⟨np, tk, ct, ep, dp⟩, ao1, cap1⟩) (hr : RightEn ⟨np, tk, ct, ep, dp⟩ = true) (hn : np = false) (hf : findO tk g.os = none) (he : ep = (cntO ct g.os : Int)) (hl : 65536 ≤ g.os.length) :
    Calls Try.prog 10 #[.pointer (some ⟨p, 0, none⟩), .agg #[.bool np, .string tk, .string ct, .int .i64 ep, .slice ao1 dp.length cap1]] w (DoP B w p mi me v g ⟨np, tk, ct, ep, dp⟩) := by
  obtain ⟨zs, ao, cap, hv, _, _, _, _⟩ := h.rowAt
  have HV0 := hid hv
  clear hv
  subst hn
  obtain ⟨XN, HXN⟩ : ∃ m, Hid (dp.length = m) := ⟨_, hid rfl⟩
  obtain ⟨W0, hW0⟩ : ∃ W, W = w.alloc (.cells #[.bool false, .string tk, .string ct, .int .i64 ep, .slice ao1 XN cap1] 39) := ⟨_, rfl⟩
  obtain ⟨W, hW⟩ : ∃ W, W = W0.alloc (.cells #[.int .i64 0, .string ⟨#[]⟩, .string ⟨#[]⟩, .int .i64 0, .slice none 0 0] 32) := ⟨_, rfl⟩
  have hz0 : W0.heap.size = w.heap.size + 1 := by rw [hW0]; simp
  have hb0 : Below w.heap.size w W0 := by rw [hW0]; exact (Below.refl _ _).alloc (Nat.le_refl _) _
  have HB : Hid (Below w.heap.size w W) := by rw [hW]; exact hb0.alloc hb0.size _
  have HK : Hid (Blk W w.heap.size 39 [.bool false, .string tk, .string ct, .int .i64 ep, .slice ao1 XN cap1]) := by rw [hW, hW0]; exact (Blk.new w _ _).alloc _
  have HR : Hid (Blk W (w.heap.size + 1) 32 [.int .i64 0, .string ⟨#[]⟩, .string ⟨#[]⟩, .int .i64 0, .slice none 0 0]) := by rw [hW, ← hz0]; exact Blk.new W0 _ _
  have HW : Hid (W = (w.alloc (.cells #[.bool false, .string tk, .string ct, .int .i64 ep, .slice ao1 XN cap1] 39)).alloc (.cells #[.int .i64 0, .string ⟨#[]⟩, .string ⟨#[]⟩, .int .i64 0, .slice none 0 0] 32)) := by show _ = _; rw [hW, hW0]
  obtain ⟨q, hq⟩ : ∃ q, q = w.heap.size := ⟨_, rfl⟩
  have HQ := hid hq
  rw [← hq] at HK HR
  have H := hid h
  have HS := hid (h.below HB.out)
  have HX := hid hx
  have HCL := hid HS.out.closed
  have HMAY := hid (mayEntrySm W ⟨⟨false, tk, ct, ep, dp⟩, ao1, cap1⟩ (hx.below HB.out))
  have HLQ : Hid (∀ i, FootM p mi me v i → i < q) := fun i hi => by rw [HQ.out]; exact h.lt i hi
  simp only [EnM.val] at HMAY
  rw [HXN.out] at HMAY
  rw [HXN.out]
  have c0 := HK.out.cell (i := 0) rfl
  have c1 := HK.out.cell (i := 1) rfl
  have c2 := HK.out.cell (i := 2) rfl
  have c3 := HK.out.cell (i := 3) rfl
  have c4 := HK.out.cell (i := 4) rfl
  have HD0 := hid hdn
  have HWY : Hid (wayO g ⟨false, tk, ct, ep, dp⟩ = 4) := way4 hr rfl hf he hl
  have HFO := hid hf
  have HTS : Hid (tk.size ≤ maxLen) := hx.ht
  have HTC : Hid (ct.size ≤ maxLen) := hx.hc
  obtain ⟨cn, HCN⟩ : ∃ c : Nat, Hid (cntO ct g.os = c) := ⟨_, hid rfl⟩
  have hbn : (ep != (cn : Int)) = false := by rw [← HCN.out]; simpa using he
  obtain ⟨N, HN⟩ : ∃ N, Hid (g.os.length = N) := ⟨_, hid rfl⟩
  have hle : (65536 : Int) ≤ (N : Int) := by rw [← HN.out]; omega
  rw [hr] at HMAY
  clear h hx hW hW0 hz0 hb0 hq hr hf hdn he hl
  go_enter Try.func10, Try.ntmps10
  go_wp2_with fail
  rw [← HW.out, ← HQ.out]
  refine HCL.out.mono ?_
  rintro e w1 ⟨rfl, rfl⟩
  go_wp2_with fail
  refine HMAY.out.mono ?_
  rintro e w2 ⟨rfl, hb2⟩
  have HB2 := hid (bt' HB.out hb2)
  have HS2 := hid (HS.out.below hb2)
  have HK2 := hid (HK.out.below hb2 HK.out.lt)
  have HR2 := hid (HR.out.below hb2 HR.out.lt)
  have HTW2 : Hid (Turns (FootM p mi me v) w w2) := Turns.of_below HB2.out (Nat.le_refl _)
  clear c0 c1 c2 c3 c4 hb2
  have a3 := HS2.out.cells.2.2.2
  have y3 := HS2.out.blk.frozen 3
  obtain ⟨DN, HDN⟩ : ∃ d, Hid (g.dn = d) := ⟨_, hid rfl⟩
  rw [HDN.out] at a3
  have hadd : wrap64 ((DN : Int) + 1) = (DN : Int) + 1 := by have := HD0.out; rw [HDN.out] at this; exact wrapO (by omega) (by omega)
  obtain ⟨W5, hW5⟩ : ∃ V, V = w2.setCell ⟨p, 3, none⟩ (.int .i64 ((DN : Int) + 1)) := ⟨_, rfl⟩
  have HW5 := hid hW5
  have HSB := hid (HS2.out.bump (w' := W5) (by rw [HDN.out]; exact hW5))
  have HS5 := hid HSB.out.1
  have HT5 : Hid (Turns (FootM p mi me v) w W5) := HTW2.out.trans HSB.out.2 (fun i hi => .inl (.inl hi))
  have HPQ : Hid (p < q) := HLQ.out p (.inl rfl)
  have HK5 := hid (HSB.out.2.blk HK2.out (fun e => by have := HPQ.out; omega))
  have HR5 := hid (HSB.out.2.blk HR2.out (fun e => by have := HPQ.out; omega))
  have k0 := HK5.out.cell (i := 0) rfl
  have k1 := HK5.out.cell (i := 1) rfl
  have k2 := HK5.out.cell (i := 2) rfl
  have k3 := HK5.out.cell (i := 3) rfl
  have k4 := HK5.out.cell (i := 4) rfl
  rw [hW5] at k0 k1 k2 k3 k4
  clear hW5
  have HTK : Hid (Calls Try.prog 16 #[.pointer (some ⟨p, 0, none⟩), .string tk] W5 fun e w' => ∃ bo cp, e = .returned (.tuple #[.agg #[.int .i64 0, .string ⟨#[]⟩, .string ⟨#[]⟩, .int .i64 0, .slice bo 0 cp], .bool false]) ∧ Below W5.heap.size W5 w') := by
    have h1 := HS5.out.token tk HTS.out
    simp only at h1
    rw [HFO.out] at h1
    refine h1.mono ?_
    rintro e w' ⟨bo, cp, rfl, _, _, h4⟩
    exact ⟨bo, cp, rfl, h4⟩
  clear HSB
  go_wp2_with fail
  rw [← HW5.out]
  refine HTK.out.mono ?_
  rintro e w6 ⟨bo, cp, rfl, hb6⟩
  obtain ⟨W7, hW7⟩ : ∃ V, V = w6.alloc (.cells #[.int .i64 0, .string ⟨#[]⟩, .string ⟨#[]⟩, .int .i64 0, .slice bo 0 cp] 32) := ⟨_, rfl⟩
  have hb7 : Below w6.heap.size w6 W7 := by rw [hW7]; exact (Below.refl _ _).alloc (Nat.le_refl _) _
  have hb57 := bt' hb6 hb7
  have HS7 := hid (HS5.out.below hb57)
  have HR7 := hid (HR5.out.below hb57 HR5.out.lt)
  have HK7 := hid (HK5.out.below hb57 HK5.out.lt)
  have HT7 : Hid (Turns (FootM p mi me v) w W7) := HT5.out.trans (Turns.of_below (F := fun _ => False) hb57 (Nat.le_refl _)) (fun _ h => h.elim)
  have HW7 := hid hW7
  clear hb6 hb7 hb57 hW7
  go_wp2
  rw [← HW7.out]
  have j1 := HK7.out.cell (i := 1) rfl
  have j2 := HK7.out.cell (i := 2) rfl
  have j3 := HK7.out.cell (i := 3) rfl
  have HEPO : Hid (∀ n, Calls Try.prog 20 #[.pointer (some ⟨p, 0, none⟩), .string ct] (W7.drewN n) fun e w' => e = .returned (.int .i64 cn) ∧ w' = W7.drewN n) := fun n => by
    have h1 := (HS7.out.below (below_dn (Below.refl _ _) n)).epoch ct HTC.out
    simp only at h1
    rw [HCN.out] at h1
    exact h1
  go_quiet (first | (go_at_call 20; refine Calls.quiet_of_same (HEPO.out _)))
  obtain ⟨W8, hW8⟩ : ∃ V, V = W7.drewN nq := ⟨_, rfl⟩
  have hb8 : Below W7.heap.size W7 W8 := by rw [hW8]; exact below_dn (Below.refl _ _) nq
  have HS8 := hid (HS7.out.below hb8)
  have HR8 := hid (HR7.out.below hb8 HR7.out.lt)
  have HK8 := hid (HK7.out.below hb8 HK7.out.lt)
  have HT8 : Hid (Turns (FootM p mi me v) w W8) := HT7.out.trans (Turns.of_below (F := fun _ => False) hb8 (Nat.le_refl _)) (fun _ h => h.elim)
  rw [← hW8]
  have j1 := HK8.out.cell (i := 1) rfl
  have j2 := HK8.out.cell (i := 2) rfl
  have j3 := HK8.out.cell (i := 3) rfl
  clear hW8 hb8
  have hr7 := HR8.out
  have r0z := hr7.cell (i := 0) rfl
  have r1z := hr7.cell (i := 1) rfl
  have r2z := hr7.cell (i := 2) rfl
  have r3z := hr7.cell (i := 3) rfl
  have r4z := hr7.cell (i := 4) rfl
  have q0z := hr7.frozen 0
  have q1z := hr7.frozen 1
  have q2z := hr7.frozen 2
  have q3z := hr7.frozen 3
  have q4z := hr7.frozen 4
  obtain ⟨W3, hW3⟩ : ∃ V, V = st5 W8 (q + 1) (.int .i64 0) (.string ⟨#[]⟩) (.string ⟨#[]⟩) (.int .i64 0) (.slice none 0 0) := ⟨_, rfl⟩
  have hk9z : Blk W3 (q + 1) 32 [.int .i64 0, .string ⟨#[]⟩, .string ⟨#[]⟩, .int .i64 0, .slice none 0 0] := by rw [hW3]; exact st5_blk hr7 _ _ _ _ _
  have HT9z : Hid (Turns (fun i => i = (q + 1)) W8 W3) := by rw [hW3]; exact st5_turns _ _ _ _ _ _ _
  have k0z := hk9z.cell (i := 0) rfl
  have k1z := hk9z.cell (i := 1) rfl
  have k2z := hk9z.cell (i := 2) rfl
  have k3z := hk9z.cell (i := 3) rfl
  have k4z := hk9z.cell (i := 4) rfl
  have HFI := hid (do_fin HS8.out hr7 HT8.out (by have := HQ.out; omega) (fun hf => by have := HLQ.out _ hf; omega) HT9z.out)
  have HFS : Hid (SmAt B W3 p mi me v (doS g ⟨false, tk, ct, ep, dp⟩)) := by rw [doS_way HWY.out (by decide) (by decide)]; exact HFI.out.1
  have a0 := HS8.out.cells.1
  rw [HV0.out, HN.out] at a0
  clear hr7 hk9z
  go_wp2
  unfold st5 at hW3
  rw [← hW3]
  (try simp only [Exit.inBlock, Exit.then])
  refine bodyPost_ret (v := .tuple #[.agg #[.int .i64 0, .string ⟨#[]⟩, .string ⟨#[]⟩, .int .i64 0, .slice none 0 0], .bool false, .int .i64 2]) ?_ rfl (doP_zero HWY.out (by decide) (by decide) rfl HFS.out HFI.out.2)
  rw [results_cell_tmp2 rfl]
  go_simp
set_option maxRecDepth 1000000 in
set_option maxHeartbeats 2000000 in
theorem SmAt.do5 {B : Nat} {w : World} {p mi me : Nat} {v : Value} {g : Sm} (h : SmAt B w p mi me v g) (hdn : g.dn ≤ 4611686018427387904) (np : Bool) (tk ct : ByteArray) (ep : Int) (dp : List Int) (ao1 : Option Addr) (cap1 : Nat) (hx : EnOk w ⟨⟨np, tk, ct, ep, dp⟩, ao1, cap1⟩) (hB : B ≤ w.heap.size) (hxb : ∀ b off, ao1 = some ⟨b, off, none⟩ → dp ≠ [] → ¬ FootM p mi me v b) (hr : RightEn ⟨np, tk, ct, ep, dp⟩ = true) (hn : np = false) (hf : findO tk g.os = none) (he : ep = (cntO ct g.os : Int)) (hl : ¬ 65536 ≤ g.os.length) :
    Calls Try.prog 10 #[.pointer (some ⟨p, 0, none⟩), .agg #[.bool np, .string tk, .string ct, .int .i64 ep, .slice ao1 dp.length cap1]] w (DoP B w p mi me v g ⟨np, tk, ct, ep, dp⟩) := by
  obtain ⟨zs, ao, cap, hv, _, _, _, _⟩ := h.rowAt
  have HV0 := hid hv
  clear hv
  subst hn
  obtain ⟨XN, HXN⟩ : ∃ m, Hid (dp.length = m) := ⟨_, hid rfl⟩
  obtain ⟨W0, hW0⟩ : ∃ W, W = w.alloc (.cells #[.bool false, .string tk, .string ct, .int .i64 ep, .slice ao1 XN cap1] 39) := ⟨_, rfl⟩
  obtain ⟨W, hW⟩ : ∃ W, W = W0.alloc (.cells #[.int .i64 0, .string ⟨#[]⟩, .string ⟨#[]⟩, .int .i64 0, .slice none 0 0] 32) := ⟨_, rfl⟩
  have hz0 : W0.heap.size = w.heap.size + 1 := by rw [hW0]; simp
  have hb0 : Below w.heap.size w W0 := by rw [hW0]; exact (Below.refl _ _).alloc (Nat.le_refl _) _
  have HB : Hid (Below w.heap.size w W) := by rw [hW]; exact hb0.alloc hb0.size _
  have HK : Hid (Blk W w.heap.size 39 [.bool false, .string tk, .string ct, .int .i64 ep, .slice ao1 XN cap1]) := by rw [hW, hW0]; exact (Blk.new w _ _).alloc _
  have HR : Hid (Blk W (w.heap.size + 1) 32 [.int .i64 0, .string ⟨#[]⟩, .string ⟨#[]⟩, .int .i64 0, .slice none 0 0]) := by rw [hW, ← hz0]; exact Blk.new W0 _ _
  have HW : Hid (W = (w.alloc (.cells #[.bool false, .string tk, .string ct, .int .i64 ep, .slice ao1 XN cap1] 39)).alloc (.cells #[.int .i64 0, .string ⟨#[]⟩, .string ⟨#[]⟩, .int .i64 0, .slice none 0 0] 32)) := by show _ = _; rw [hW, hW0]
  obtain ⟨q, hq⟩ : ∃ q, q = w.heap.size := ⟨_, rfl⟩
  have HQ := hid hq
  rw [← hq] at HK HR
  have H := hid h
  have HS := hid (h.below HB.out)
  have HX := hid hx
  have HCL := hid HS.out.closed
  have HMAY := hid (mayEntrySm W ⟨⟨false, tk, ct, ep, dp⟩, ao1, cap1⟩ (hx.below HB.out))
  have HLQ : Hid (∀ i, FootM p mi me v i → i < q) := fun i hi => by rw [HQ.out]; exact h.lt i hi
  simp only [EnM.val] at HMAY
  rw [HXN.out] at HMAY
  rw [HXN.out]
  have c0 := HK.out.cell (i := 0) rfl
  have c1 := HK.out.cell (i := 1) rfl
  have c2 := HK.out.cell (i := 2) rfl
  have c3 := HK.out.cell (i := 3) rfl
  have c4 := HK.out.cell (i := 4) rfl
  have HD0 := hid hdn
  have HWY : Hid (wayO g ⟨false, tk, ct, ep, dp⟩ = 5) := way5 hr rfl hf he hl
  have HFO := hid hf
  have HTS : Hid (tk.size ≤ maxLen) := hx.ht
  have HTC : Hid (ct.size ≤ maxLen) := hx.hc
  obtain ⟨cn, HCN⟩ : ∃ c : Nat, Hid (cntO ct g.os = c) := ⟨_, hid rfl⟩
  have hbn : (ep != (cn : Int)) = false := by rw [← HCN.out]; simpa using he
  obtain ⟨N, HN⟩ : ∃ N, Hid (g.os.length = N) := ⟨_, hid rfl⟩
  have hle : decide ((65536 : Int) ≤ (N : Int)) = false := by rw [← HN.out]; exact decide_eq_false (by omega)
  have HBB := hid hB
  have HXB := hid hxb
  have hsz := sizesO hr
  have HZ1 := hid hsz.1
  have HZ2 := hid hsz.2
  rw [hr] at HMAY
  clear h hx hW hW0 hz0 hb0 hq hr hf hdn he hl hB hxb hsz
  go_enter Try.func10, Try.ntmps10
  go_wp2_with fail
  rw [← HW.out, ← HQ.out]
  refine HCL.out.mono ?_
  rintro e w1 ⟨rfl, rfl⟩
  go_wp2_with fail
  refine HMAY.out.mono ?_
  rintro e w2 ⟨rfl, hb2⟩
  have HB2 := hid (bt' HB.out hb2)
  have HS2 := hid (HS.out.below hb2)
  have HK2 := hid (HK.out.below hb2 HK.out.lt)
  have HR2 := hid (HR.out.below hb2 HR.out.lt)
  have HTW2 : Hid (Turns (FootM p mi me v) w w2) := Turns.of_below HB2.out (Nat.le_refl _)
  clear c0 c1 c2 c3 c4 hb2
  have a3 := HS2.out.cells.2.2.2
  have y3 := HS2.out.blk.frozen 3
  obtain ⟨DN, HDN⟩ : ∃ d, Hid (g.dn = d) := ⟨_, hid rfl⟩
  rw [HDN.out] at a3
  have hadd : wrap64 ((DN : Int) + 1) = (DN : Int) + 1 := by have := HD0.out; rw [HDN.out] at this; exact wrapO (by omega) (by omega)
  obtain ⟨W5, hW5⟩ : ∃ V, V = w2.setCell ⟨p, 3, none⟩ (.int .i64 ((DN : Int) + 1)) := ⟨_, rfl⟩
  have HW5 := hid hW5
  have HSB := hid (HS2.out.bump (w' := W5) (by rw [HDN.out]; exact hW5))
  have HS5 := hid HSB.out.1
  have HT5 : Hid (Turns (FootM p mi me v) w W5) := HTW2.out.trans HSB.out.2 (fun i hi => .inl (.inl hi))
  have HPQ : Hid (p < q) := HLQ.out p (.inl rfl)
  have HK5 := hid (HSB.out.2.blk HK2.out (fun e => by have := HPQ.out; omega))
  have HR5 := hid (HSB.out.2.blk HR2.out (fun e => by have := HPQ.out; omega))
  have k0 := HK5.out.cell (i := 0) rfl
  have k1 := HK5.out.cell (i := 1) rfl
  have k2 := HK5.out.cell (i := 2) rfl
  have k3 := HK5.out.cell (i := 3) rfl
  have k4 := HK5.out.cell (i := 4) rfl
  rw [hW5] at k0 k1 k2 k3 k4
  clear hW5
  have HTK : Hid (Calls Try.prog 16 #[.pointer (some ⟨p, 0, none⟩), .string tk] W5 fun e w' => ∃ bo cp, e = .returned (.tuple #[.agg #[.int .i64 0, .string ⟨#[]⟩, .string ⟨#[]⟩, .int .i64 0, .slice bo 0 cp], .bool false]) ∧ Below W5.heap.size W5 w') := by
    have h1 := HS5.out.token tk HTS.out
    simp only at h1
    rw [HFO.out] at h1
    refine h1.mono ?_
    rintro e w' ⟨bo, cp, rfl, _, _, h4⟩
    exact ⟨bo, cp, rfl, h4⟩
  clear HSB
  go_wp2_with fail
  rw [← HW5.out]
  refine HTK.out.mono ?_
  rintro e w6 ⟨bo, cp, rfl, hb6⟩
  obtain ⟨W7, hW7⟩ : ∃ V, V = w6.alloc (.cells #[.int .i64 0, .string ⟨#[]⟩, .string ⟨#[]⟩, .int .i64 0, .slice bo 0 cp] 32) := ⟨_, rfl⟩
  have hb7 : Below w6.heap.size w6 W7 := by rw [hW7]; exact (Below.refl _ _).alloc (Nat.le_refl _) _
  have hb57 := bt' hb6 hb7
  have HS7 := hid (HS5.out.below hb57)
  have HR7 := hid (HR5.out.below hb57 HR5.out.lt)
  have HK7 := hid (HK5.out.below hb57 HK5.out.lt)
  have HT7 : Hid (Turns (FootM p mi me v) w W7) := HT5.out.trans (Turns.of_below (F := fun _ => False) hb57 (Nat.le_refl _)) (fun _ h => h.elim)
  have HW7 := hid hW7
  clear hb6 hb7 hb57 hW7
  go_wp2
  rw [← HW7.out]
  have j1 := HK7.out.cell (i := 1) rfl
  have j2 := HK7.out.cell (i := 2) rfl
  have j3 := HK7.out.cell (i := 3) rfl
  have HEPO : Hid (∀ n, Calls Try.prog 20 #[.pointer (some ⟨p, 0, none⟩), .string ct] (W7.drewN n) fun e w' => e = .returned (.int .i64 cn) ∧ w' = W7.drewN n) := fun n => by
    have h1 := (HS7.out.below (below_dn (Below.refl _ _) n)).epoch ct HTC.out
    simp only at h1
    rw [HCN.out] at h1
    exact h1
  go_quiet (first | (go_at_call 20; refine Calls.quiet_of_same (HEPO.out _)))
  obtain ⟨W8, hW8⟩ : ∃ V, V = W7.drewN nq := ⟨_, rfl⟩
  have hb8 : Below W7.heap.size W7 W8 := by rw [hW8]; exact below_dn (Below.refl _ _) nq
  have HS8 := hid (HS7.out.below hb8)
  have HR8 := hid (HR7.out.below hb8 HR7.out.lt)
  have HK8 := hid (HK7.out.below hb8 HK7.out.lt)
  have HT8 : Hid (Turns (FootM p mi me v) w W8) := HT7.out.trans (Turns.of_below (F := fun _ => False) hb8 (Nat.le_refl _)) (fun _ h => h.elim)
  rw [← hW8]
  have j1 := HK8.out.cell (i := 1) rfl
  have j2 := HK8.out.cell (i := 2) rfl
  have j3 := HK8.out.cell (i := 3) rfl
  clear hW8 hb8
  have a0 := HS8.out.cells.1
  rw [HV0.out, HN.out] at a0
  have j4 := HK8.out.cell (i := 4) rfl
  have HX8 : Hid (EnOk W8 ⟨⟨false, tk, ct, ep, dp⟩, ao1, cap1⟩) := ⟨⟨HX.out.cut.held.turned HT8.out (fun b off e hne => HXB.out b off e hne), HX.out.cut.room, HX.out.cut.few⟩, HX.out.ie, HX.out.ht, HX.out.hc⟩
  have HOR := hid (HS8.out.order (Nat.le_trans HBB.out HT8.out.size) tk ct ep dp ao1 cap1 HX8.out HWY.out HZ1.out HZ2.out)
  rw [HXN.out] at HOR
  go_wp2_with fail
  refine HOR.out.mono ?_
  rintro e w9 ⟨bo9, cp9, v9, rfl, hv9, hn9, hs9, ht9, ho9⟩
  have HV9 := hid hv9
  have HN9 := hid hn9
  have HS9 := hid hs9
  have HT9 := hid ht9
  have HO9 := hid ho9
  have hr7 := ht9.blk HR8.out (fun hf => by have := HLQ.out _ hf; omega)
  have HQ8 : Hid (q + 1 < W8.heap.size) := HR8.out.lt
  simp only [OrM.val, newO]
  rw [HXN.out, HN.out]
  have r0z := hr7.cell (i := 0) rfl
  have r1z := hr7.cell (i := 1) rfl
  have r2z := hr7.cell (i := 2) rfl
  have r3z := hr7.cell (i := 3) rfl
  have r4z := hr7.cell (i := 4) rfl
  have q0z := hr7.frozen 0
  have q1z := hr7.frozen 1
  have q2z := hr7.frozen 2
  have q3z := hr7.frozen 3
  have q4z := hr7.frozen 4
  obtain ⟨W3, hW3⟩ : ∃ V, V = st5 w9 (q + 1) (.int .i64 ((N : Int) + 1)) (.string tk) (.string ct) (.int .i64 ep) (.slice bo9 XN cp9) := ⟨_, rfl⟩
  have hk9z : Blk W3 (q + 1) 32 [.int .i64 ((N : Int) + 1), .string tk, .string ct, .int .i64 ep, .slice bo9 XN cp9] := by rw [hW3]; exact st5_blk hr7 _ _ _ _ _
  have HT9z : Hid (Turns (fun i => i = (q + 1)) w9 W3) := by rw [hW3]; exact st5_turns _ _ _ _ _ _ _
  have k0z := hk9z.cell (i := 0) rfl
  have k1z := hk9z.cell (i := 1) rfl
  have k2z := hk9z.cell (i := 2) rfl
  have k3z := hk9z.cell (i := 3) rfl
  have k4z := hk9z.cell (i := 4) rfl
  have HT89 : Hid (Turns (FootM p mi me v) w w9) := HT8.out.trans HT9.out (fun i hi => .inl hi)
  have HNF9 : Hid (¬ FootM p mi me v9 (q + 1)) := fun hf => by
    rcases hf with e | e | e | e
    · have := HLQ.out _ (.inl e); omega
    · have := HLQ.out _ (.inr (.inl e)); omega
    · have := HLQ.out _ (.inr (.inr (.inl e))); omega
    · rcases HO9.out with h3 | ⟨k, h3, h4⟩
      · rw [h3] at e
        have := HLQ.out _ (.inr (.inr (.inr e))); omega
      · rw [h3] at e
        have e1 : k = q + 1 := by simpa using e
        have := HQ8.out; omega
  have HFI := hid (do_fin HS9.out hr7 HT89.out (by have := HQ.out; omega) HNF9.out HT9z.out)
  have HPO : Hid (∀ e, e = Ending.returned (.tuple #[.agg #[.int .i64 ((N : Int) + 1), .string tk, .string ct, .int .i64 ep, .slice bo9 XN cp9], .bool true, .int .i64 0]) → DoP B w p mi me v g ⟨false, tk, ct, ep, dp⟩ e W3) := fun e he => by
    have hdr : doR g ⟨false, tk, ct, ep, dp⟩ = newO g ⟨false, tk, ct, ep, dp⟩ := by unfold doR; rw [HWY.out, if_neg (by decide), if_pos rfl]
    refine ⟨bo9, cp9, v9, ?_, ?_, fun b off e => ?_, ?_, HFI.out.2, ?_⟩
    · rw [he, hdr, HWY.out]
      simp only [OrM.val, newO]
      rw [HXN.out, HN.out]
      rfl
    · rw [hdr]
      exact ⟨HV9.out.held.turned HT9z.out (fun b off e _ hF => by have := (HN9.out b off e).1; have := HQ8.out; omega), HV9.out.room, HV9.out.few⟩
    · obtain ⟨h1, cs, h2⟩ := HN9.out b off e
      exact ⟨by have := HT8.out.size; omega, cs, HT9z.out.blk h2 (fun hF => by have := HQ8.out; omega)⟩
    · rw [doS_way5 HWY.out]
      exact HFI.out.1
    · rcases HO9.out with h3 | ⟨k, h3, h4⟩
      · exact .inl h3
      · exact .inr ⟨k, h3, by have := HT8.out.size; omega⟩
  clear hr7 hk9z hv9 hn9 hs9 ht9 ho9
  go_wp2
  unfold st5 at hW3
  rw [← hW3]
  (try simp only [Exit.inBlock, Exit.then])
  refine bodyPost_ret (v := .tuple #[.agg #[.int .i64 ((N : Int) + 1), .string tk, .string ct, .int .i64 ep, .slice bo9 XN cp9], .bool true, .int .i64 0]) ?_ rfl (HPO.out _ rfl)
  rw [results_cell_tmp2 rfl]
  go_simp
theorem SmAt.do {B : Nat} {w : World} {p mi me : Nat} {v : Value} {g : Sm} (h : SmAt B w p mi me v g) (hB : B ≤ w.heap.size) (hdn : g.dn ≤ 4611686018427387904) (x : EnM) (hx : EnOk w x) (hxb : ∀ b off, x.ao = some ⟨b, off, none⟩ → x.e.cut ≠ [] → ¬ FootM p mi me v b) :
    Calls Try.prog 10 #[.pointer (some ⟨p, 0, none⟩), x.val] w (DoP B w p mi me v g x.e) := by
  obtain ⟨⟨np, tk, ct, ep, dp⟩, ao1, cap1⟩ := x
  by_cases hr : RightEn ⟨np, tk, ct, ep, dp⟩ = true
  · cases np with
    | true => exact h.do1 hdn true tk ct ep dp ao1 cap1 hx hr rfl
    | false =>
      cases hf : findO tk g.os with
      | some o =>
        obtain ⟨oid, otk, oct, oep, odp⟩ := o
        exact h.do2 hdn false tk ct ep dp ao1 cap1 hx hr rfl oid oep otk oct odp hf
      | none =>
        by_cases he : ep = (cntO ct g.os : Int)
        · by_cases hl : 65536 ≤ g.os.length
          · exact h.do4 hdn false tk ct ep dp ao1 cap1 hx hr rfl hf he hl
          · exact h.do5 hdn false tk ct ep dp ao1 cap1 hx hB hxb hr rfl hf he hl
        · exact h.do3 hdn false tk ct ep dp ao1 cap1 hx hr rfl hf he
  · exact h.do0 np tk ct ep dp ao1 cap1 hx hr
end Go.Proofs.Ytfokmldfnkonpaa
