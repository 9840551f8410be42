/-
  A nil acceptor.
-/
import Derived.Test.YtbofpapdbjecoaaGreatAcJ
namespace Go.Proofs.YtbofpapdbjecoaaGreat
open Go.RowKit Go.Maps

set_option maxRecDepth 100000 in
theorem promisedA_nil (w : World) : Calls Tryz.prog 20 #[.pointer none] w fun e w' => e = .returned (.agg #[.int .i64 0, .int .i64 0]) ∧ Below w.heap.size w w' := by
  obtain ⟨W, hW⟩ : ∃ W, W = w.alloc (.cells #[.int .i64 0, .int .i64 0] 35) := ⟨_, rfl⟩
  have HB : Hid (Below w.heap.size w W) := by rw [hW]; exact (Below.refl _ _).alloc (Nat.le_refl _) _
  have hr7 : Blk W w.heap.size 35 [.int .i64 0, .int .i64 0] := by rw [hW]; exact Blk.new w _ _
  have HCL := hid (closedA_nil W)
  have HW := hid hW
  obtain ⟨pb, hp⟩ : ∃ q, q = w.heap.size := ⟨_, rfl⟩
  have HP := hid hp
  rw [← hp] at hr7
  have r0 := hr7.cell (i := 0) rfl
  have r1 := hr7.cell (i := 1) rfl
  have q0 := hr7.frozen 0
  have q1 := hr7.frozen 1
  obtain ⟨W3, hW3⟩ : ∃ V, V = (W.setCell ⟨pb, 0, none⟩ (.int .i64 0)).setCell ⟨pb, 1, none⟩ (.int .i64 0) := ⟨_, rfl⟩
  have hk9 : Blk W3 pb 35 [.int .i64 0, .int .i64 0] := by rw [hW3]; exact (hr7.set 0 _).set 1 _
  have HBF : Hid (Below w.heap.size w W3) := by
    rw [hW3]
    exact (HB.out.setCell (p := ⟨pb, 0, none⟩) (by rw [hp]; exact Nat.le_refl _) _).setCell (p := ⟨pb, 1, none⟩) (by rw [hp]; exact Nat.le_refl _) _
  have k0 := hk9.cell (i := 0) rfl
  have k1 := hk9.cell (i := 1) rfl
  clear hW hr7 hk9 hp
  go_enter Tryz.func20, Tryz.ntmps20
  go_wp2_with fail
  rw [← HW.out, ← HP.out]
  refine HCL.out.mono ?_
  rintro e w1 ⟨rfl, rfl⟩
  go_wp2
  rw [← hW3]
  (try simp only [Exit.inBlock, Exit.then])
  refine bodyPost_ret (v := .agg #[.int .i64 0, .int .i64 0]) ?_ rfl ⟨rfl, HBF.out⟩
  rw [results_cell1B rfl]
  go_simp
theorem votesA_nil (w : World) : Calls Tryz.prog 22 #[.pointer none] w fun e w' => e = .returned (.slice none 0 0) ∧ w' = w := by
  have HCL := hid (closedA_nil w)
  go_enter Tryz.func22, Tryz.ntmps22
  go_wp2_with fail
  refine HCL.out.mono ?_
  rintro e w1 ⟨rfl, rfl⟩
  go_wp2
  go_ret
  exact ⟨rfl, rfl⟩
theorem forkA_nil (w : World) : Calls Tryz.prog 14 #[.pointer none] w fun e w' => e = .returned (.pointer none) ∧ w' = w := by
  have HCL := hid (closedA_nil w)
  go_enter Tryz.func14, Tryz.ntmps14
  go_wp2_with fail
  refine HCL.out.mono ?_
  rintro e w1 ⟨rfl, rfl⟩
  go_wp2
  go_ret
  exact ⟨rfl, rfl⟩
theorem replayA_nil (w : World) (s : ByteArray) : Calls Tryz.prog 18 #[.pointer none, .string s] w fun e w' => e = .returned (.int .i64 6) ∧ Below w.heap.size w w' := by
  have HCL := hid (closedA_nil w)
  go_enter Tryz.func18, Tryz.ntmps18
  go_wp2_with fail
  refine HCL.out.mono ?_
  rintro e w1 ⟨rfl, rfl⟩
  go_wp2
  go_ret
  exact ⟨rfl, Below.refl _ _⟩
theorem dropA_nil (w : World) (n : Int) : Calls Tryz.prog 15 #[.pointer none, .int .i64 n] w fun e w' => e = .returned (.tuple #[]) ∧ Below w.heap.size w w' := by
  obtain ⟨W, hW⟩ : ∃ W, W = w.alloc (.cells #[.int .i64 n] 3) := ⟨_, rfl⟩
  have HB : Hid (Below w.heap.size w W) := by rw [hW]; exact (Below.refl _ _).alloc (Nat.le_refl _) _
  have HCL := hid (closedA_nil W)
  have HW := hid hW
  clear hW
  go_enter Tryz.func15, Tryz.ntmps15
  go_wp2_with fail
  rw [← HW.out]
  refine HCL.out.mono ?_
  rintro e w1 ⟨rfl, rfl⟩
  go_wp2
  (try simp only [Exit.inBlock, Exit.then])
  refine bodyPost_ret (v := .tuple #[]) (results_none rfl _ _ _) rfl ?_
  exact ⟨rfl, HB.out⟩
set_option maxRecDepth 1000000 in
set_option maxHeartbeats 4000000 in
theorem effectOfA_nil (w : World) (kd fr to br bn sl : Int) (np : Bool) (tk ct : ByteArray) (ep : Int) (ao1 : Option Addr) (XN cap1 : Nat) (vo : Option Addr) (VN vc : Nat) (so : Option Addr) (SN sc : Nat) (eo : Option Addr) (EN ec : Nat) (ti : Int) : Calls Tryz.prog 23 #[.pointer none, .agg #[.int .i64 kd, .int .i64 fr, .int .i64 to, .int .i64 br, .int .i64 bn, .int .i64 sl, .bool np, .string tk, .string ct, .int .i64 ep, .slice ao1 XN cap1, .slice vo VN vc, .slice so SN sc, .slice eo EN ec, .int .i64 ti]] w fun e w' => e = .returned (.tuple #[.agg #[.int .i64 0, .bool false, .string ⟨#[]⟩, .nilFunc], .bool false]) ∧ Below w.heap.size w w' := by
  obtain ⟨W1, hW1⟩ : ∃ W, W = w.alloc (.cells #[.int .i64 kd, .int .i64 fr, .int .i64 to, .int .i64 br, .int .i64 bn, .int .i64 sl, .bool np, .string tk, .string ct, .int .i64 ep, .slice ao1 XN cap1, .slice vo VN vc, .slice so SN sc, .slice eo EN ec, .int .i64 ti] 43) := ⟨_, rfl⟩
  obtain ⟨W, hW⟩ : ∃ W, W = W1.alloc (.cells #[.int .i64 0, .bool false, .string ⟨#[]⟩, .nilFunc] 66) := ⟨_, rfl⟩
  have hs1 : W1.heap.size = w.heap.size + 1 := by rw [hW1]; simp
  have hb1 : Below w.heap.size w W1 := by rw [hW1]; exact (Below.refl _ _).alloc (Nat.le_refl _) _
  have HB : Hid (Below w.heap.size w W) := by rw [hW]; exact hb1.alloc hb1.size _
  obtain ⟨bm, hbm⟩ : ∃ q, q = w.heap.size := ⟨_, rfl⟩
  obtain ⟨be, hbe⟩ : ∃ q, q = w.heap.size + 1 := ⟨_, rfl⟩
  have HKE : Hid (Blk W be 66 [.int .i64 0, .bool false, .string ⟨#[]⟩, .nilFunc]) := by rw [hbe, hW, ← hs1]; exact Blk.new W1 _ _
  have HW : Hid (W = (w.alloc (.cells #[.int .i64 kd, .int .i64 fr, .int .i64 to, .int .i64 br, .int .i64 bn, .int .i64 sl, .bool np, .string tk, .string ct, .int .i64 ep, .slice ao1 XN cap1, .slice vo VN vc, .slice so SN sc, .slice eo EN ec, .int .i64 ti] 43)).alloc (.cells #[.int .i64 0, .bool false, .string ⟨#[]⟩, .nilFunc] 66)) := by show _ = _; rw [hW, hW1]
  have HBM := hid hbm
  have HBE := hid hbe
  have HBS : Hid (w.heap.size ≤ be) := hid (by omega)
  have HC2 : Hid (∀ q, Calls Tryz.prog 32 #[.pointer none] (W.drewN q) fun e w' => e = .returned (.bool true) ∧ w' = W.drewN q) := fun q => closedA_nil _
  clear hW hW1 hs1 hb1 hbm hbe
  go_enter Tryz.func23, Tryz.ntmps23
  go_wp2
  rw [← HW.out, ← HBE.out, ← HBM.out]
  go_quiet (first | (go_at_call 32; refine Calls.quiet_of_same (HC2.out _)))
  all_goals
    obtain ⟨V1, hV1⟩ : ∃ V, V = W.drewN nq := ⟨_, rfl⟩
    rw [← hV1]
    have hb1 : Below w.heap.size w V1 := by rw [hV1]; exact below_dn HB.out _
    have hkE : Blk V1 be 66 [.int .i64 0, .bool false, .string ⟨#[]⟩, .nilFunc] := by rw [hV1]; exact HKE.out.drewN _
    clear hV1
    have f0 := hkE.cell (i := 0) rfl
    have f1 := hkE.cell (i := 1) rfl
    have f2 := hkE.cell (i := 2) rfl
    have f3 := hkE.cell (i := 3) rfl
    have g0 := hkE.frozen 0
    have g1 := hkE.frozen 1
    have g2 := hkE.frozen 2
    have g3 := hkE.frozen 3
    obtain ⟨W3, hW3⟩ : ∃ V, V = st4 V1 be (.int .i64 0) (.bool false) (.string ⟨#[]⟩) .nilFunc := ⟨_, rfl⟩
    have hk9 : Blk W3 be 66 [.int .i64 0, .bool false, .string ⟨#[]⟩, .nilFunc] := by rw [hW3]; exact st4_blk hkE _ _ _ _
    have HFI : Hid (Below w.heap.size w W3) := by rw [hW3]; exact hid (hb1.trans ((st4_turns V1 be _ _ _ _).below (fun i hi => by rw [hi]; exact HBS.out) hb1.size))
    have k0 := hk9.cell (i := 0) rfl
    have k1 := hk9.cell (i := 1) rfl
    have k2 := hk9.cell (i := 2) rfl
    have k3 := hk9.cell (i := 3) rfl
    clear hk9 hkE hb1
    go_wp2
    unfold st4 at hW3
    rw [← hW3]
    (try simp only [Exit.inBlock, Exit.then])
    refine bodyPost_ret (v := .tuple #[.agg #[.int .i64 0, .bool false, .string ⟨#[]⟩, .nilFunc], .bool false]) ?_ rfl ⟨rfl, HFI.out⟩
    rw [results_cell_tmp rfl]
    go_simp
set_option maxRecDepth 1000000 in
set_option maxHeartbeats 8000000 in
theorem onA_nil (w : World) (kd fr to br bn sl : Int) (np : Bool) (tk ct : ByteArray) (ep : Int) (ao1 : Option Addr) (XN cap1 : Nat) (vo : Option Addr) (VN vc : Nat) (so : Option Addr) (SN sc : Nat) (eo : Option Addr) (EN ec : Nat) (ti : Int) : Calls Tryz.prog 11 #[.pointer none, .agg #[.int .i64 kd, .int .i64 fr, .int .i64 to, .int .i64 br, .int .i64 bn, .int .i64 sl, .bool np, .string tk, .string ct, .int .i64 ep, .slice ao1 XN cap1, .slice vo VN vc, .slice so SN sc, .slice eo EN ec, .int .i64 ti]] w fun e w' => e = .returned (.tuple #[.agg #[.int .i64 0, .int .i64 0, .int .i64 0, .int .i64 0, .int .i64 0, .int .i64 0, .bool false, .string ⟨#[]⟩, .string ⟨#[]⟩, .int .i64 0, .slice none 0 0, .slice none 0 0, .slice none 0 0, .slice none 0 0, .int .i64 0], .string ⟨#[]⟩, .bool false]) ∧ Below w.heap.size w w' := by
  obtain ⟨W1, hW1⟩ : ∃ W, W = w.alloc (.cells #[.int .i64 kd, .int .i64 fr, .int .i64 to, .int .i64 br, .int .i64 bn, .int .i64 sl, .bool np, .string tk, .string ct, .int .i64 ep, .slice ao1 XN cap1, .slice vo VN vc, .slice so SN sc, .slice eo EN ec, .int .i64 ti] 43) := ⟨_, rfl⟩
  obtain ⟨W, hW⟩ : ∃ W, W = W1.alloc (.cells #[.int .i64 0, .int .i64 0, .int .i64 0, .int .i64 0, .int .i64 0, .int .i64 0, .bool false, .string ⟨#[]⟩, .string ⟨#[]⟩, .int .i64 0, .slice none 0 0, .slice none 0 0, .slice none 0 0, .slice none 0 0, .int .i64 0] 43) := ⟨_, rfl⟩
  have hs1 : W1.heap.size = w.heap.size + 1 := by rw [hW1]; simp
  have hb1 : Below w.heap.size w W1 := by rw [hW1]; exact (Below.refl _ _).alloc (Nat.le_refl _) _
  have HB : Hid (Below w.heap.size w W) := by rw [hW]; exact hb1.alloc hb1.size _
  obtain ⟨bm, hbm⟩ : ∃ q, q = w.heap.size := ⟨_, rfl⟩
  obtain ⟨be, hbe⟩ : ∃ q, q = w.heap.size + 1 := ⟨_, rfl⟩
  have hkm : Blk W bm 43 [.int .i64 kd, .int .i64 fr, .int .i64 to, .int .i64 br, .int .i64 bn, .int .i64 sl, .bool np, .string tk, .string ct, .int .i64 ep, .slice ao1 XN cap1, .slice vo VN vc, .slice so SN sc, .slice eo EN ec, .int .i64 ti] := by rw [hbm, hW, hW1]; exact (Blk.new w _ _).alloc _
  have HKE : Hid (Blk W be 43 [.int .i64 0, .int .i64 0, .int .i64 0, .int .i64 0, .int .i64 0, .int .i64 0, .bool false, .string ⟨#[]⟩, .string ⟨#[]⟩, .int .i64 0, .slice none 0 0, .slice none 0 0, .slice none 0 0, .slice none 0 0, .int .i64 0]) := by rw [hbe, hW, ← hs1]; exact Blk.new W1 _ _
  have HEF := hid (effectOfA_nil W kd fr to br bn sl np tk ct ep ao1 XN cap1 vo VN vc so SN sc eo EN ec ti)
  have HW : Hid (W = (w.alloc (.cells #[.int .i64 kd, .int .i64 fr, .int .i64 to, .int .i64 br, .int .i64 bn, .int .i64 sl, .bool np, .string tk, .string ct, .int .i64 ep, .slice ao1 XN cap1, .slice vo VN vc, .slice so SN sc, .slice eo EN ec, .int .i64 ti] 43)).alloc (.cells #[.int .i64 0, .int .i64 0, .int .i64 0, .int .i64 0, .int .i64 0, .int .i64 0, .bool false, .string ⟨#[]⟩, .string ⟨#[]⟩, .int .i64 0, .slice none 0 0, .slice none 0 0, .slice none 0 0, .slice none 0 0, .int .i64 0] 43)) := by show _ = _; rw [hW, hW1]
  have HBM := hid hbm
  have HBE := hid hbe
  have HBS : Hid (w.heap.size ≤ be) := hid (by omega)
  have q0 := hkm.cell (i := 0) rfl
  have q1 := hkm.cell (i := 1) rfl
  have q2 := hkm.cell (i := 2) rfl
  have q3 := hkm.cell (i := 3) rfl
  have q4 := hkm.cell (i := 4) rfl
  have q5 := hkm.cell (i := 5) rfl
  have q6 := hkm.cell (i := 6) rfl
  have q7 := hkm.cell (i := 7) rfl
  have q8 := hkm.cell (i := 8) rfl
  have q9 := hkm.cell (i := 9) rfl
  have q10 := hkm.cell (i := 10) rfl
  have q11 := hkm.cell (i := 11) rfl
  have q12 := hkm.cell (i := 12) rfl
  have q13 := hkm.cell (i := 13) rfl
  have q14 := hkm.cell (i := 14) rfl
  clear hW hW1 hs1 hb1 hbm hbe hkm
  go_enter Tryz.func11, Tryz.ntmps11
  go_wp2_with fail
  rw [← HW.out, ← HBE.out, ← HBM.out]
  refine HEF.out.mono ?_
  rintro e w2 ⟨rfl, hb2⟩
  have he2 := (HKE.out.below hb2 HKE.out.lt).alloc (.cells #[.int .i64 0, .bool false, .string ⟨#[]⟩, .nilFunc] 66)
  have HB2 := hid hb2
  have e0 := he2.cell (i := 0) rfl
  have e1 := he2.cell (i := 1) rfl
  have e2 := he2.cell (i := 2) rfl
  have e3 := he2.cell (i := 3) rfl
  have e4 := he2.cell (i := 4) rfl
  have e5 := he2.cell (i := 5) rfl
  have e6 := he2.cell (i := 6) rfl
  have e7 := he2.cell (i := 7) rfl
  have e8 := he2.cell (i := 8) rfl
  have e9 := he2.cell (i := 9) rfl
  have e10 := he2.cell (i := 10) rfl
  have e11 := he2.cell (i := 11) rfl
  have e12 := he2.cell (i := 12) rfl
  have e13 := he2.cell (i := 13) rfl
  have e14 := he2.cell (i := 14) rfl
  have g0 := he2.frozen 0
  have g1 := he2.frozen 1
  have g2 := he2.frozen 2
  have g3 := he2.frozen 3
  have g4 := he2.frozen 4
  have g5 := he2.frozen 5
  have g6 := he2.frozen 6
  have g7 := he2.frozen 7
  have g8 := he2.frozen 8
  have g9 := he2.frozen 9
  have g10 := he2.frozen 10
  have g11 := he2.frozen 11
  have g12 := he2.frozen 12
  have g13 := he2.frozen 13
  have g14 := he2.frozen 14
  obtain ⟨W3, hW3⟩ : ∃ V, V = st15 (w2.alloc (.cells #[.int .i64 0, .bool false, .string ⟨#[]⟩, .nilFunc] 66)) be (.int .i64 0) (.int .i64 0) (.int .i64 0) (.int .i64 0) (.int .i64 0) (.int .i64 0) (.bool false) (.string ⟨#[]⟩) (.string ⟨#[]⟩) (.int .i64 0) (.slice none 0 0) (.slice none 0 0) (.slice none 0 0) (.slice none 0 0) (.int .i64 0) := ⟨_, rfl⟩
  have hk9 : Blk W3 be 43 [.int .i64 0, .int .i64 0, .int .i64 0, .int .i64 0, .int .i64 0, .int .i64 0, .bool false, .string ⟨#[]⟩, .string ⟨#[]⟩, .int .i64 0, .slice none 0 0, .slice none 0 0, .slice none 0 0, .slice none 0 0, .int .i64 0] := by rw [hW3]; exact st15_blk he2 _ _ _ _ _ _ _ _ _ _ _ _ _ _ _
  have hT3 : Turns (fun i => i = be) w2 W3 := by rw [hW3]; exact ((Turns.refl _ _).alloc _).trans (st15_turns _ _ _ _ _ _ _ _ _ _ _ _ _ _ _ _ _) (fun i hi => .inl hi)
  have HFI : Hid (Below w.heap.size w W3) := hid ((bt' HB.out HB2.out).trans (hT3.below (fun i hi => by rw [hi]; exact HBS.out) (bt' HB.out HB2.out).size))
  have k0 := hk9.cell (i := 0) rfl
  have k1 := hk9.cell (i := 1) rfl
  have k2 := hk9.cell (i := 2) rfl
  have k3 := hk9.cell (i := 3) rfl
  have k4 := hk9.cell (i := 4) rfl
  have k5 := hk9.cell (i := 5) rfl
  have k6 := hk9.cell (i := 6) rfl
  have k7 := hk9.cell (i := 7) rfl
  have k8 := hk9.cell (i := 8) rfl
  have k9 := hk9.cell (i := 9) rfl
  have k10 := hk9.cell (i := 10) rfl
  have k11 := hk9.cell (i := 11) rfl
  have k12 := hk9.cell (i := 12) rfl
  have k13 := hk9.cell (i := 13) rfl
  have k14 := hk9.cell (i := 14) rfl
  clear hk9 hT3 he2 hb2 q0 q1 q2 q3 q4 q5 q6 q7 q8 q9 q10 q11 q12 q13 q14
  go_wp2
  unfold st15 at hW3
  rw [← hW3]
  (try simp only [Exit.inBlock, Exit.then])
  refine bodyPost_ret (v := .tuple #[.agg #[.int .i64 0, .int .i64 0, .int .i64 0, .int .i64 0, .int .i64 0, .int .i64 0, .bool false, .string ⟨#[]⟩, .string ⟨#[]⟩, .int .i64 0, .slice none 0 0, .slice none 0 0, .slice none 0 0, .slice none 0 0, .int .i64 0], .string ⟨#[]⟩, .bool false]) ?_ rfl ⟨rfl, HFI.out⟩
  rw [results_cellA3 rfl]
  go_simp
set_option maxRecDepth 1000000 in
set_option maxHeartbeats 4000000 in
theorem wouldA_nil (w : World) (kd fr to br bn sl : Int) (np : Bool) (tk ct : ByteArray) (ep : Int) (ao1 : Option Addr) (XN cap1 : Nat) (vo : Option Addr) (VN vc : Nat) (so : Option Addr) (SN sc : Nat) (eo : Option Addr) (EN ec : Nat) (ti : Int) : Calls Tryz.prog 10 #[.pointer none, .agg #[.int .i64 kd, .int .i64 fr, .int .i64 to, .int .i64 br, .int .i64 bn, .int .i64 sl, .bool np, .string tk, .string ct, .int .i64 ep, .slice ao1 XN cap1, .slice vo VN vc, .slice so SN sc, .slice eo EN ec, .int .i64 ti]] w fun e w' => e = .returned (.tuple #[.string ⟨#[]⟩, .bool false]) ∧ Below w.heap.size w w' := by
  obtain ⟨W, hW⟩ : ∃ W, W = w.alloc (.cells #[.int .i64 kd, .int .i64 fr, .int .i64 to, .int .i64 br, .int .i64 bn, .int .i64 sl, .bool np, .string tk, .string ct, .int .i64 ep, .slice ao1 XN cap1, .slice vo VN vc, .slice so SN sc, .slice eo EN ec, .int .i64 ti] 43) := ⟨_, rfl⟩
  have HB : Hid (Below w.heap.size w W) := by rw [hW]; exact (Below.refl _ _).alloc (Nat.le_refl _) _
  obtain ⟨bm, hbm⟩ : ∃ q, q = w.heap.size := ⟨_, rfl⟩
  have hkm : Blk W bm 43 [.int .i64 kd, .int .i64 fr, .int .i64 to, .int .i64 br, .int .i64 bn, .int .i64 sl, .bool np, .string tk, .string ct, .int .i64 ep, .slice ao1 XN cap1, .slice vo VN vc, .slice so SN sc, .slice eo EN ec, .int .i64 ti] := by rw [hbm, hW]; exact Blk.new w _ _
  have HEF := hid (effectOfA_nil W kd fr to br bn sl np tk ct ep ao1 XN cap1 vo VN vc so SN sc eo EN ec ti)
  have HW := hid hW
  have HBM := hid hbm
  have q0 := hkm.cell (i := 0) rfl
  have q1 := hkm.cell (i := 1) rfl
  have q2 := hkm.cell (i := 2) rfl
  have q3 := hkm.cell (i := 3) rfl
  have q4 := hkm.cell (i := 4) rfl
  have q5 := hkm.cell (i := 5) rfl
  have q6 := hkm.cell (i := 6) rfl
  have q7 := hkm.cell (i := 7) rfl
  have q8 := hkm.cell (i := 8) rfl
  have q9 := hkm.cell (i := 9) rfl
  have q10 := hkm.cell (i := 10) rfl
  have q11 := hkm.cell (i := 11) rfl
  have q12 := hkm.cell (i := 12) rfl
  have q13 := hkm.cell (i := 13) rfl
  have q14 := hkm.cell (i := 14) rfl
  clear hW hbm hkm
  go_enter Tryz.func10, Tryz.ntmps10
  go_wp2_with fail
  rw [← HW.out]
  refine HEF.out.mono ?_
  rintro e w2 ⟨rfl, hb2⟩
  have HB2 := hid (bt' HB.out hb2)
  have HBA : Hid (Below w.heap.size w (w2.alloc (.cells #[.int .i64 0, .bool false, .string ⟨#[]⟩, .nilFunc] 66))) := hid (HB2.out.alloc HB2.out.size _)
  clear hb2 q0 q1 q2 q3 q4 q5 q6 q7 q8 q9 q10 q11 q12 q13 q14
  go_wp2
  go_ret2
  exact ⟨rfl, HBA.out⟩
end Go.Proofs.YtbofpapdbjecoaaGreat
