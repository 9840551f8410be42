/-
  pannierref01.ReadMsg: what any bytes are.
-/
import Derived.Test.YtfmnbehopdmahaaGreatRqH
import Derived.Deep.CutBlock
import Derived.Deep.CutRange
namespace Go.Proofs.YtfmnbehopdmahaaGreat
open Go.RowKit Go.Maps

set_option maxRecDepth 1000000 in
theorem rreadMsg_big (ao : Option Addr) (len cap : Nat) (bs : List Int) (w : World) (hl : 65536 < len) : Calls Tryz.prog 35 #[.slice ao len cap] w (RMs w len bs) := by
  obtain ⟨W, hW⟩ : ∃ V, V = w.alloc (.cells #[.int .i64 0, .int .i64 0, .int .i64 0, .int .i64 0, .int .i64 0, .int .i64 0, .bool false, .string ⟨#[]⟩, .string ⟨#[]⟩, .int .i64 0, .slice none 0 0, .slice none 0 0, .slice none 0 0, .slice none 0 0, .int .i64 0] 43) := ⟨_, rfl⟩
  have HB : Hid (Below w.heap.size w W) := by rw [hW]; exact (Below.refl _ _).alloc (Nat.le_refl _) _
  obtain ⟨qy, hqy⟩ : ∃ q, q = w.heap.size := ⟨_, rfl⟩
  have hyx : Blk W qy 43 [.int .i64 0, .int .i64 0, .int .i64 0, .int .i64 0, .int .i64 0, .int .i64 0, .bool false, .string ⟨#[]⟩, .string ⟨#[]⟩, .int .i64 0, .slice none 0 0, .slice none 0 0, .slice none 0 0, .slice none 0 0, .int .i64 0] := by rw [hqy, hW]; exact Blk.new w _ _
  have hlI : (65536 : Int) < (len : Int) := by omega
  have HFI : Hid (RMs w len bs (.returned (.tuple #[.agg #[.int .i64 0, .int .i64 0, .int .i64 0, .int .i64 0, .int .i64 0, .int .i64 0, .bool false, .string ⟨#[]⟩, .string ⟨#[]⟩, .int .i64 0, .slice none 0 0, .slice none 0 0, .slice none 0 0, .slice none 0 0, .int .i64 0], .int .i64 10])) W) := ⟨_, 10, rfl, msNew_zero _ _, .inr ⟨rfl, rfl, fun h => by have := h.1; omega⟩, HB.out⟩
  have e0 := hyx.cell (i := 0) rfl
  have g0 := hyx.frozen 0
  have e1 := hyx.cell (i := 1) rfl
  have g1 := hyx.frozen 1
  have e2 := hyx.cell (i := 2) rfl
  have g2 := hyx.frozen 2
  have e3 := hyx.cell (i := 3) rfl
  have g3 := hyx.frozen 3
  have e4 := hyx.cell (i := 4) rfl
  have g4 := hyx.frozen 4
  have e5 := hyx.cell (i := 5) rfl
  have g5 := hyx.frozen 5
  have e6 := hyx.cell (i := 6) rfl
  have g6 := hyx.frozen 6
  have e7 := hyx.cell (i := 7) rfl
  have g7 := hyx.frozen 7
  have e8 := hyx.cell (i := 8) rfl
  have g8 := hyx.frozen 8
  have e9 := hyx.cell (i := 9) rfl
  have g9 := hyx.frozen 9
  have e10 := hyx.cell (i := 10) rfl
  have g10 := hyx.frozen 10
  have e11 := hyx.cell (i := 11) rfl
  have g11 := hyx.frozen 11
  have e12 := hyx.cell (i := 12) rfl
  have g12 := hyx.frozen 12
  have e13 := hyx.cell (i := 13) rfl
  have g13 := hyx.frozen 13
  have e14 := hyx.cell (i := 14) rfl
  have g14 := hyx.frozen 14
  have HW := hid hW
  have HQY := hid hqy
  rw [HW.out, HQY.out] at e0 g0 e1 g1 e2 g2 e3 g3 e4 g4 e5 g5 e6 g6 e7 g7 e8 g8 e9 g9 e10 g10 e11 g11 e12 g12 e13 g13 e14 g14
  clear hyx hl hW hqy
  go_enter Tryz.func35, Tryz.ntmps35
  go_wp2
  rw [← HQY.out, ← HW.out]
  (try simp only [Exit.inBlock, Exit.then])
  refine bodyPost_ret (v := .tuple #[.agg #[.int .i64 0, .int .i64 0, .int .i64 0, .int .i64 0, .int .i64 0, .int .i64 0, .bool false, .string ⟨#[]⟩, .string ⟨#[]⟩, .int .i64 0, .slice none 0 0, .slice none 0 0, .slice none 0 0, .slice none 0 0, .int .i64 0], .int .i64 10]) ?_ rfl HFI.out
  rw [HW.out, HQY.out, results_cellR2 rfl]
  go_simp
set_option maxRecDepth 1000000 in
set_option maxHeartbeats 16000000 in
theorem rreadMsg_small (ao : Option Addr) (len cap : Nat) (bs : List Int) (w : World) (h : Held w ao len cap bs) (hl : ¬ 65536 < len) : Calls Tryz.prog 35 #[.slice ao len cap] w (RMs w len bs) := by
  obtain ⟨U1, hU1⟩ : ∃ V, V = w.alloc (.cells #[.int .i64 0, .int .i64 0, .int .i64 0, .int .i64 0, .int .i64 0, .int .i64 0, .bool false, .string ⟨#[]⟩, .string ⟨#[]⟩, .int .i64 0, .slice none 0 0, .slice none 0 0, .slice none 0 0, .slice none 0 0, .int .i64 0] 43) := ⟨_, rfl⟩
  obtain ⟨U2, hU2⟩ : ∃ V, V = U1.alloc (.cells #[.slice ao len cap, .int .i64 0, .bool true] 104) := ⟨_, rfl⟩
  obtain ⟨W, hW⟩ : ∃ V, V = U2.alloc (.cells #[.int .i64 0, .int .i64 0, .int .i64 0, .int .i64 0, .int .i64 0, .int .i64 0, .bool false, .string ⟨#[]⟩, .string ⟨#[]⟩, .int .i64 0, .slice none 0 0, .slice none 0 0, .slice none 0 0, .slice none 0 0, .int .i64 0] 43) := ⟨_, rfl⟩
  have hs1 : U1.heap.size = w.heap.size + 1 := by rw [hU1]; simp
  have hs2 : U2.heap.size = w.heap.size + 1 + 1 := by rw [hU2]; simp [hs1]
  have hs3 : W.heap.size = w.heap.size + 1 + 1 + 1 := by rw [hW]; simp [hs2]
  have hb1 : Below w.heap.size w U1 := by rw [hU1]; exact (Below.refl _ _).alloc (Nat.le_refl _) _
  have hb2 : Below w.heap.size w U2 := by rw [hU2]; exact hb1.alloc hb1.size _
  have hb3 : Below w.heap.size w W := by rw [hW]; exact hb2.alloc hb2.size _
  obtain ⟨qy, hqy⟩ : ∃ q, q = w.heap.size := ⟨_, rfl⟩
  obtain ⟨rb, hrb⟩ : ∃ q, q = w.heap.size + 1 := ⟨_, rfl⟩
  obtain ⟨qx, hqx⟩ : ∃ q, q = w.heap.size + 1 + 1 := ⟨_, rfl⟩
  have hky : Blk W qy 43 [.int .i64 0, .int .i64 0, .int .i64 0, .int .i64 0, .int .i64 0, .int .i64 0, .bool false, .string ⟨#[]⟩, .string ⟨#[]⟩, .int .i64 0, .slice none 0 0, .slice none 0 0, .slice none 0 0, .slice none 0 0, .int .i64 0] := by rw [hqy, hW, hU2, hU1]; exact ((Blk.new w _ _).alloc _).alloc _
  have hkr : Blk W rb 104 [.slice ao len cap, .int .i64 ((0 : Nat) : Int), .bool true] := by rw [hrb, hW, hU2, ← hs1]; exact (Blk.new U1 _ _).alloc _
  have hkx : Blk W qx 43 [.int .i64 0, .int .i64 0, .int .i64 0, .int .i64 0, .int .i64 0, .int .i64 0, .bool false, .string ⟨#[]⟩, .string ⟨#[]⟩, .int .i64 0, .slice none 0 0, .slice none 0 0, .slice none 0 0, .slice none 0 0, .int .i64 0] := by rw [hqx, hW, ← hs2]; exact Blk.new U2 _ _
  have HLN : Hid (bs.length = len) := h.hlen
  have HM0 : Hid (MidM w W rb qx qy bs W [.int .i64 0, .int .i64 0, .int .i64 0, .int .i64 0, .int .i64 0, .int .i64 0, .bool false, .string ⟨#[]⟩, .string ⟨#[]⟩, .int .i64 0, .slice none 0 0, .slice none 0 0, .slice none 0 0, .slice none 0 0, .int .i64 0] (some bs)) := by
    refine ⟨⟨by rw [HLN.out]; omega, by omega, ao, len, cap, 0, true, hkr, ?_, h.old, Nat.zero_le _, .inl ⟨?_, rfl⟩⟩, Turns.refl _ _, hkx, hky, by omega, by omega, by omega, by omega⟩
    · rw [List.drop_zero]
      exact h.below hb3 (Nat.le_refl _)
    · rw [List.drop_zero]
  have HBW := hid hb3
  have HSZ : Hid (w.heap.size ≤ W.heap.size ∧ qy < W.heap.size ∧ w.heap.size ≤ qy ∧ w.heap.size ≤ rb ∧ w.heap.size ≤ qx) := ⟨by omega, by omega, by omega, by omega, by omega⟩
  have HW : Hid (W = ((w.alloc (.cells #[.int .i64 0, .int .i64 0, .int .i64 0, .int .i64 0, .int .i64 0, .int .i64 0, .bool false, .string ⟨#[]⟩, .string ⟨#[]⟩, .int .i64 0, .slice none 0 0, .slice none 0 0, .slice none 0 0, .slice none 0 0, .int .i64 0] 43)).alloc (.cells #[.slice ao len cap, .int .i64 0, .bool true] 104)).alloc (.cells #[.int .i64 0, .int .i64 0, .int .i64 0, .int .i64 0, .int .i64 0, .int .i64 0, .bool false, .string ⟨#[]⟩, .string ⟨#[]⟩, .int .i64 0, .slice none 0 0, .slice none 0 0, .slice none 0 0, .slice none 0 0, .int .i64 0] 43)) := by show _ = _; rw [hW, hU2, hU1]
  have HQY := hid hqy
  have HRB := hid hrb
  have HQX := hid hqx
  have hlI : ¬ (65536 : Int) < (len : Int) := by omega
  have HLE : Hid (len ≤ 65536) := hid (by omega)
  have HC0 := hid (HM0.out.rq.number 255 (by decide))
  clear h hl hU1 hU2 hW hs1 hs2 hs3 hb1 hb2 hb3 hqy hrb hqx hky hkr hkx
  go_enter Tryz.func35, Tryz.ntmps35
  go_wp2_with fail
  rw [← HW.out, ← HQX.out, ← HRB.out, ← HQY.out]
  refine HC0.out.mono ?_
  rintro e u0 ⟨⟨y0, rfl, hy0, hg0⟩, hr0, ht0⟩
  have HG0 := hid hg0
  have HI0 : Hid (I64 y0) := hid (i64_ofQ hy0 (by decide))
  clear hg0 hy0
  have hm0 := HM0.out.call hr0 ht0
  have s0 := hm0.bx.cell (i := 0) rfl
  have f0 := hm0.bx.frozen 0
  obtain ⟨V1, hV1⟩ : ∃ V, V = u0.setCell ⟨qx, 0, none⟩ (.int .i64 y0) := ⟨_, rfl⟩
  have HM1 : Hid (MidM w W rb qx qy bs V1 [.int .i64 y0, .int .i64 0, .int .i64 0, .int .i64 0, .int .i64 0, .int .i64 0, .bool false, .string ⟨#[]⟩, .string ⟨#[]⟩, .int .i64 0, .slice none 0 0, .slice none 0 0, .slice none 0 0, .slice none 0 0, .int .i64 0] (nxt (some bs) (pNum 255))) := by rw [hV1]; exact hid (hm0.set 0 (.int .i64 y0))
  clear hm0 hr0 ht0 HC0 HM0
  have HC1 := hid (HM1.out.rq.number 6 (by decide))
  go_wp2_with fail
  rw [← hV1]
  clear hV1 s0 f0
  refine HC1.out.mono ?_
  rintro e u1 ⟨⟨y1, rfl, hy1, hg1⟩, hr1, ht1⟩
  have HG1 := hid hg1
  have HI1 : Hid (I64 y1) := hid (i64_ofQ hy1 (by decide))
  clear hg1 hy1
  have hm1 := HM1.out.call hr1 ht1
  have s1 := hm1.bx.cell (i := 1) rfl
  have f1 := hm1.bx.frozen 1
  obtain ⟨V2, hV2⟩ : ∃ V, V = u1.setCell ⟨qx, 1, none⟩ (.int .i64 y1) := ⟨_, rfl⟩
  have HM2 : Hid (MidM w W rb qx qy bs V2 [.int .i64 y0, .int .i64 y1, .int .i64 0, .int .i64 0, .int .i64 0, .int .i64 0, .bool false, .string ⟨#[]⟩, .string ⟨#[]⟩, .int .i64 0, .slice none 0 0, .slice none 0 0, .slice none 0 0, .slice none 0 0, .int .i64 0] (nxt (nxt (some bs) (pNum 255)) (pNum 6))) := by rw [hV2]; exact hid (hm1.set 1 (.int .i64 y1))
  clear hm1 hr1 ht1 HC1 HM1
  have HC2 := hid (HM2.out.rq.number 6 (by decide))
  go_wp2_with fail
  rw [← hV2]
  clear hV2 s1 f1
  refine HC2.out.mono ?_
  rintro e u2 ⟨⟨y2, rfl, hy2, hg2⟩, hr2, ht2⟩
  have HG2 := hid hg2
  have HI2 : Hid (I64 y2) := hid (i64_ofQ hy2 (by decide))
  clear hg2 hy2
  have hm2 := HM2.out.call hr2 ht2
  have s2 := hm2.bx.cell (i := 2) rfl
  have f2 := hm2.bx.frozen 2
  obtain ⟨V3, hV3⟩ : ∃ V, V = u2.setCell ⟨qx, 2, none⟩ (.int .i64 y2) := ⟨_, rfl⟩
  have HM3 : Hid (MidM w W rb qx qy bs V3 [.int .i64 y0, .int .i64 y1, .int .i64 y2, .int .i64 0, .int .i64 0, .int .i64 0, .bool false, .string ⟨#[]⟩, .string ⟨#[]⟩, .int .i64 0, .slice none 0 0, .slice none 0 0, .slice none 0 0, .slice none 0 0, .int .i64 0] (nxt (nxt (nxt (some bs) (pNum 255)) (pNum 6)) (pNum 6))) := by rw [hV3]; exact hid (hm2.set 2 (.int .i64 y2))
  clear hm2 hr2 ht2 HC2 HM2
  have HC3 := hid (HM3.out.rq.ballotR)
  go_wp2_with fail
  rw [← hV3]
  clear hV3 s2 f2
  refine HC3.out.mono ?_
  rintro e u3 ⟨⟨y3, z3, rfl, hy3, hg3⟩, hr3, ht3⟩
  have HG3 := hid hg3
  have HI3 := hid hy3
  clear hg3 hy3
  have hm3 := HM3.out.call hr3 ht3
  have s3 := hm3.bx.cell (i := 3) rfl
  have f3 := hm3.bx.frozen 3
  have s4 := hm3.bx.cell (i := 4) rfl
  have f4 := hm3.bx.frozen 4
  obtain ⟨V4, hV4⟩ : ∃ V, V = (u3.setCell ⟨qx, 3, none⟩ (.int .i64 y3)).setCell ⟨qx, 4, none⟩ (.int .i64 z3) := ⟨_, rfl⟩
  have HM4 : Hid (MidM w W rb qx qy bs V4 [.int .i64 y0, .int .i64 y1, .int .i64 y2, .int .i64 y3, .int .i64 z3, .int .i64 0, .bool false, .string ⟨#[]⟩, .string ⟨#[]⟩, .int .i64 0, .slice none 0 0, .slice none 0 0, .slice none 0 0, .slice none 0 0, .int .i64 0] (nxt (nxt (nxt (nxt (some bs) (pNum 255)) (pNum 6)) (pNum 6)) pBal)) := by rw [hV4]; exact hid ((hm3.set 3 (.int .i64 y3)).set 4 (.int .i64 z3))
  clear hm3 hr3 ht3 HC3 HM3
  have HC4 := hid (HM4.out.rq.number 2147483647 (by decide))
  go_wp2_with fail
  rw [← hV4]
  clear hV4 s3 f3 s4 f4
  refine HC4.out.mono ?_
  rintro e u4 ⟨⟨y4, rfl, hy4, hg4⟩, hr4, ht4⟩
  have HG4 := hid hg4
  have HI4 : Hid (I64 y4) := hid (i64_ofQ hy4 (by decide))
  clear hg4 hy4
  have hm4 := HM4.out.call hr4 ht4
  have s5 := hm4.bx.cell (i := 5) rfl
  have f5 := hm4.bx.frozen 5
  obtain ⟨V5, hV5⟩ : ∃ V, V = u4.setCell ⟨qx, 5, none⟩ (.int .i64 y4) := ⟨_, rfl⟩
  have HM5 : Hid (MidM w W rb qx qy bs V5 [.int .i64 y0, .int .i64 y1, .int .i64 y2, .int .i64 y3, .int .i64 z3, .int .i64 y4, .bool false, .string ⟨#[]⟩, .string ⟨#[]⟩, .int .i64 0, .slice none 0 0, .slice none 0 0, .slice none 0 0, .slice none 0 0, .int .i64 0] (nxt (nxt (nxt (nxt (nxt (some bs) (pNum 255)) (pNum 6)) (pNum 6)) pBal) (pNum 2147483647))) := by rw [hV5]; exact hid (hm4.set 5 (.int .i64 y4))
  clear hm4 hr4 ht4 HC4 HM4
  have HC5 := hid (HM5.out.rq.entryR)
  go_wp2_with fail
  rw [← hV5]
  clear hV5 s5 f5
  refine HC5.out.mono ?_
  rintro e u5 ⟨⟨a5, c5, p5, t5, s5, q5, y5, rfl, hg5, hv5, hb5, hi5⟩, hr5, ht5⟩
  have HG5 := hid hg5
  have HI5 := hid hi5
  have HV5 := hid hv5
  have HB5 : Hid (∀ b off, a5 = some ⟨b, off, none⟩ → y5 ≠ [] → w.heap.size ≤ b) := fun b off e hne => Nat.le_trans (Nat.le_trans HSZ.out.1 HM5.out.tur.size) (hb5 b off e hne)
  obtain ⟨N5, HN5⟩ : ∃ n, Hid (y5.length = n) := ⟨_, hid rfl⟩
  rw [HN5.out]
  clear hg5 hv5 hb5 hi5
  have hm5 := HM5.out.call hr5 ht5
  have s6 := hm5.bx.cell (i := 6) rfl
  have f6 := hm5.bx.frozen 6
  have s7 := hm5.bx.cell (i := 7) rfl
  have f7 := hm5.bx.frozen 7
  have s8 := hm5.bx.cell (i := 8) rfl
  have f8 := hm5.bx.frozen 8
  have s9 := hm5.bx.cell (i := 9) rfl
  have f9 := hm5.bx.frozen 9
  have s10 := hm5.bx.cell (i := 10) rfl
  have f10 := hm5.bx.frozen 10
  obtain ⟨V6, hV6⟩ : ∃ V, V = ((((u5.setCell ⟨qx, 6, none⟩ (.bool p5)).setCell ⟨qx, 7, none⟩ (.string t5)).setCell ⟨qx, 8, none⟩ (.string s5)).setCell ⟨qx, 9, none⟩ (.int .i64 q5)).setCell ⟨qx, 10, none⟩ (.slice a5 N5 c5) := ⟨_, rfl⟩
  have HM6 : Hid (MidM w W rb qx qy bs V6 [.int .i64 y0, .int .i64 y1, .int .i64 y2, .int .i64 y3, .int .i64 z3, .int .i64 y4, .bool p5, .string t5, .string s5, .int .i64 q5, .slice a5 N5 c5, .slice none 0 0, .slice none 0 0, .slice none 0 0, .int .i64 0] (nxt (nxt (nxt (nxt (nxt (nxt (some bs) (pNum 255)) (pNum 6)) (pNum 6)) pBal) (pNum 2147483647)) pEntry)) := by rw [hV6]; exact hid (((((hm5.set 6 (.bool p5)).set 7 (.string t5)).set 8 (.string s5)).set 9 (.int .i64 q5)).set 10 (.slice a5 N5 c5))
  have HV5 : Hid (HN V6 a5 c5 y5) := by rw [hV6]; exact hid (((((hm5.set 6 (.bool p5)).set 7 (.string t5)).set 8 (.string s5)).set 9 (.int .i64 q5)).hn ((((hm5.set 6 (.bool p5)).set 7 (.string t5)).set 8 (.string s5)).hn (((hm5.set 6 (.bool p5)).set 7 (.string t5)).hn ((hm5.set 6 (.bool p5)).hn (hm5.hn HV5.out 6 (.bool p5)) 7 (.string t5)) 8 (.string s5)) 9 (.int .i64 q5)) 10 (.slice a5 N5 c5))
  clear hm5 hr5 ht5 HC5 HM5
  have HC6 := hid (HM6.out.rq.number 4096 (by decide))
  go_wp2_with fail
  rw [← hV6]
  clear hV6 s6 f6 s7 f7 s8 f8 s9 f9 s10 f10
  refine HC6.out.mono ?_
  rintro e u6 ⟨⟨y6, rfl, hy6, hg6⟩, hr6, ht6⟩
  obtain ⟨M1, rfl⟩ : ∃ n : Nat, y6 = (n : Int) := ⟨y6.toNat, by omega⟩
  have HM7 := hid (HM6.out.call hr6 ht6)
  have HV5 := hid (HM6.out.rq.hn HV5.out ht6)
  obtain ⟨st6, HST6⟩ : ∃ s, Hid ((nxt (nxt (nxt (nxt (nxt (nxt (some bs) (pNum 255)) (pNum 6)) (pNum 6)) pBal) (pNum 2147483647)) pEntry) = s) := ⟨_, hid rfl⟩
  rw [HST6.out] at hg6 HM7
  have HGL : Hid (st6.bind (pList 4096 pVoted) = (nxt st6 (pNum 4096)).bind (pRep pVoted M1)) := by have h1 := listQ_bind (p := pVoted) hg6; rw [Int.toNat_natCast] at h1; exact hid h1
  have hM1 : M1 ≤ 4096 := by omega
  have HM1 := hid hM1
  clear hg6 hr6 ht6 hy6 HC6 HM6
  go_upto_block 0 with fail
  go_cut [7, 8] from 38 to 64 (fun _ _ wx => Hid (∃ (l : List VoM) (vo : Option Addr) (vc N : Nat) (s : Option (List Int)), l.length = N ∧ N ≤ 4096 ∧ VosQ W l vo vc wx ∧ MidM w W rb qx qy bs wx [.int .i64 y0, .int .i64 y1, .int .i64 y2, .int .i64 y3, .int .i64 z3, .int .i64 y4, .bool p5, .string t5, .string s5, .int .i64 q5, .slice a5 N5 c5, .slice vo N vc, .slice none 0 0, .slice none 0 0, .int .i64 0] s ∧ HN wx a5 c5 y5 ∧ st6.bind (pList 4096 pVoted) = s.map (fun r => (l.map VoM.d, r))))
  case first =>
    go_wp2_with fail
    go_loopw [7, 8] (fun i _ wr => ∃ k : Nat, k ≤ M1 ∧ i = .int .i64 k ∧ Hid (∃ (l : List VoM) (s : Option (List Int)) (vo : Option Addr) (vc : Nat), l.length = k ∧ VosQ W l vo vc wr ∧ MidM w W rb qx qy bs wr [.int .i64 y0, .int .i64 y1, .int .i64 y2, .int .i64 y3, .int .i64 z3, .int .i64 y4, .bool p5, .string t5, .string s5, .int .i64 q5, .slice a5 N5 c5, .slice vo k vc, .slice none 0 0, .slice none 0 0, .int .i64 0] s ∧ HN wr a5 c5 y5 ∧ RepQ pVoted (nxt st6 (pNum 4096)) s M1 k (l.map VoM.d))) (fun i _ _ => M1 - (intOf i).toNat)
    case atStart => exact ⟨0, Nat.zero_le _, rfl, ⟨[], _, none, 0, rfl, vosQ_nil _ _, HM7.out, HV5.out, repQ_zero _ _ _⟩⟩
    case round =>
      obtain ⟨k, hk, rfl, HQ⟩ := hrel
      obtain ⟨l, s, vo, vc, hl, hv, hm, hn, hrep⟩ := HQ.out
      have HLL := hid hl
      have HVQ := hid hv
      have HM := hid hm
      have HNC := hid hn
      have HREP := hid hrep
      have HKM := hid hk
      obtain ⟨bo, L, C, at', ok, hblk, _, _, _, hst⟩ := hm.rq.blk
      have c2 := hblk.cell (i := 2) rfl
      have HS := hid hst
      clear hl hv hm hn hrep hblk hst HQ
      cases ok
      · have HSN : Hid (s = none) := by
          rcases HS.out with ⟨_, h0⟩ | ⟨h0, _⟩
          · cases h0
          · exact hid h0
        have HEX : Hid (∃ (l : List VoM) (vo : Option Addr) (vc N : Nat) (s : Option (List Int)), l.length = N ∧ N ≤ 4096 ∧ VosQ W l vo vc wr ∧ MidM w W rb qx qy bs wr [.int .i64 y0, .int .i64 y1, .int .i64 y2, .int .i64 y3, .int .i64 z3, .int .i64 y4, .bool p5, .string t5, .string s5, .int .i64 q5, .slice a5 N5 c5, .slice vo N vc, .slice none 0 0, .slice none 0 0, .int .i64 0] s ∧ HN wr a5 c5 y5 ∧ st6.bind (pList 4096 pVoted) = s.map (fun r => (l.map VoM.d, r))) := ⟨l, vo, vc, k, s, HLL.out, by have := HM1.out; have := HKM.out; omega, HVQ.out, HM.out, HNC.out, by rw [HGL.out]; exact HREP.out.broke HSN.out⟩
        by_cases hlt : k < M1
        · have hlt' : (k : Int) < (M1 : Int) := by omega
          go_wp2
          go_meet
          case rel => exact HEX
        · have hlt' : ¬ (k : Int) < (M1 : Int) := by omega
          go_wp2
          go_meet
          case rel => exact HEX
      · by_cases hlt : k < M1
        rotate_left 1
        · have hlt' : ¬ (k : Int) < (M1 : Int) := by omega
          have hkM : k = M1 := by omega
          have HEX : Hid (∃ (l : List VoM) (vo : Option Addr) (vc N : Nat) (s : Option (List Int)), l.length = N ∧ N ≤ 4096 ∧ VosQ W l vo vc wr ∧ MidM w W rb qx qy bs wr [.int .i64 y0, .int .i64 y1, .int .i64 y2, .int .i64 y3, .int .i64 z3, .int .i64 y4, .bool p5, .string t5, .string s5, .int .i64 q5, .slice a5 N5 c5, .slice vo N vc, .slice none 0 0, .slice none 0 0, .int .i64 0] s ∧ HN wr a5 c5 y5 ∧ st6.bind (pList 4096 pVoted) = s.map (fun r => (l.map VoM.d, r))) := ⟨l, vo, vc, k, s, HLL.out, by have := HM1.out; omega, HVQ.out, HM.out, HNC.out, by rw [HGL.out]; have h1 := HREP.out; rw [hkM] at h1; exact h1.whole⟩
          go_wp2
          go_meet
          case rel => exact HEX
        have hlt' : (k : Int) < (M1 : Int) := by omega
        have HLT := hid hlt
        have hkb : k ≤ 4096 := by omega
        have hwk : wrap64 ((k : Int) + 1) = (k : Int) + 1 := wrapS (by omega) (by omega)
        obtain ⟨q8, hq8⟩ : ∃ q, q = wr.heap.size := ⟨_, rfl⟩
        obtain ⟨X0, hX0⟩ : ∃ V, V = wr.alloc (.cells #[.int .i64 0, .int .i64 0, .int .i64 0, .bool false, .string ⟨#[]⟩, .string ⟨#[]⟩, .int .i64 0, .slice none 0 0] 73) := ⟨_, rfl⟩
        have hb0 : Below wr.heap.size wr X0 := by rw [hX0]; exact (Below.refl _ _).alloc (Nat.le_refl _) _
        have HQ0 : Hid (Blk X0 q8 73 [.int .i64 0, .int .i64 0, .int .i64 0, .bool false, .string ⟨#[]⟩, .string ⟨#[]⟩, .int .i64 0, .slice none 0 0]) := by rw [hX0, hq8]; exact Blk.new wr _ _
        have HMA := hid (HM.out.below hb0)
        have HVA := hid (HVQ.out.below hb0)
        have HNA := hid (HNC.out.below hb0)
        have HAGE : Hid (∀ j, (Value.slice vo l.length vc).ownBlock = some j → j ≠ q8) := fun j hj e => by have := (HVQ.out.old j hj).2; omega
        have HWQ : Hid (W.heap.size ≤ q8) := by rw [hq8]; exact HM.out.tur.size
        have HQN : Hid (q8 ≠ rb ∧ q8 ≠ qx) := by have h1 := HWQ.out; have h2 := HM.out.ne; exact ⟨by omega, by omega⟩
        have HX0 := hid hX0
        have HQ8 := hid hq8
        have HK0 := hid (HMA.out.rq.number 2147483647 (by decide))
        clear hlt hk hq8 hX0 hb0 HM HVQ HNC
        go_wp2_with fail
        rw [← HX0.out, ← HQ8.out]
        clear c2
        refine HK0.out.mono ?_
        rintro e x1 ⟨⟨z0, rfl, hz0, hz0g⟩, hr1, ht1⟩
        have HZ0 := hid hz0g
        have HI0b : Hid (I64 z0) := hid (i64_ofQ hz0 (by decide))
        obtain ⟨_, hkr1⟩ := HMA.out.rq.rblk
        have hvb := HVA.out.blk hkr1 (by decide) (by decide) ht1
        have hnb := HMA.out.rq.hn HNA.out ht1
        have hmb := HMA.out.call hr1 ht1
        have hqb := ht1.blk HQ0.out HQN.out.1
        have r0 := hqb.cell (i := 0) rfl
        have w0 := hqb.frozen 0
        obtain ⟨X1, hX1⟩ : ∃ V, V = x1.setCell ⟨q8, 0, none⟩ (.int .i64 z0) := ⟨_, rfl⟩
        have hs1 : Turns (fun i => i = q8) x1 X1 := by rw [hX1]; exact turns_ownQ (Turns.refl _ _)
        have HQ1 : Hid (Blk X1 q8 73 [.int .i64 z0, .int .i64 0, .int .i64 0, .bool false, .string ⟨#[]⟩, .string ⟨#[]⟩, .int .i64 0, .slice none 0 0]) := by rw [hX1]; exact hid (hqb.set 0 _)
        have HM1b := hid (hmb.far HSZ.out.2.1 (hs1.below (fun i hi => by rw [hi]; exact HWQ.out) hmb.tur.size))
        have HV1 := hid (hvb.turned hs1 (fun i hi cs hc => by subst hi; exact blk_neQ hqb hc (by decide) rfl) (fun j hj hf => HAGE.out j hj hf))
        have HN1 := hid (hnb.kept hqb (by decide) hs1)
        have HK1 := hid (HM1b.out.rq.ballotR)
        clear hz0 hz0g hr1 ht1 hkr1 hvb hnb hmb hqb hs1 HK0 HMA HVA HNA HQ0
        go_wp2_with fail
        rw [← hX1]
        clear hX1 r0 w0
        refine HK1.out.mono ?_
        rintro e x2 ⟨⟨z1, z2, rfl, hz1, hz1g⟩, hr1, ht1⟩
        have HZ1 := hid hz1g
        have HI1b := hid hz1
        obtain ⟨_, hkr1⟩ := HM1b.out.rq.rblk
        have hvb := HV1.out.blk hkr1 (by decide) (by decide) ht1
        have hnb := HM1b.out.rq.hn HN1.out ht1
        have hmb := HM1b.out.call hr1 ht1
        have hqb := ht1.blk HQ1.out HQN.out.1
        have r1 := hqb.cell (i := 1) rfl
        have w1 := hqb.frozen 1
        have r2 := hqb.cell (i := 2) rfl
        have w2 := hqb.frozen 2
        obtain ⟨X2, hX2⟩ : ∃ V, V = (x2.setCell ⟨q8, 1, none⟩ (.int .i64 z1)).setCell ⟨q8, 2, none⟩ (.int .i64 z2) := ⟨_, rfl⟩
        have hs1 : Turns (fun i => i = q8) x2 X2 := by rw [hX2]; exact turns_ownQ (turns_ownQ (Turns.refl _ _))
        have HQ2 : Hid (Blk X2 q8 73 [.int .i64 z0, .int .i64 z1, .int .i64 z2, .bool false, .string ⟨#[]⟩, .string ⟨#[]⟩, .int .i64 0, .slice none 0 0]) := by rw [hX2]; exact hid ((hqb.set 1 _).set 2 _)
        have HM2b := hid (hmb.far HSZ.out.2.1 (hs1.below (fun i hi => by rw [hi]; exact HWQ.out) hmb.tur.size))
        have HV2 := hid (hvb.turned hs1 (fun i hi cs hc => by subst hi; exact blk_neQ hqb hc (by decide) rfl) (fun j hj hf => HAGE.out j hj hf))
        have HN2 := hid (hnb.kept hqb (by decide) hs1)
        have HK2 := hid (HM2b.out.rq.entryR)
        clear hz1 hz1g hr1 ht1 hkr1 hvb hnb hmb hqb hs1 HK1 HM1b HV1 HN1 HQ1
        go_wp2_with fail
        rw [← hX2]
        clear hX2 r1 w1 r2 w2
        refine HK2.out.mono ?_
        rintro e x3 ⟨⟨a8, c8, p8, t8, s8, g8, y8, rfl, hz2g, hv8, hb8, hi8⟩, hr1, ht1⟩
        have HZ2 := hid hz2g
        have HI2b := hid hi8
        obtain ⟨N8, HN8⟩ : ∃ n, Hid (y8.length = n) := ⟨_, hid rfl⟩
        rw [HN8.out]
        obtain ⟨_, hkr1⟩ := HM2b.out.rq.rblk
        have hvb := HV2.out.blk hkr1 (by decide) (by decide) ht1
        have hnb := HM2b.out.rq.hn HN2.out ht1
        have hmb := HM2b.out.call hr1 ht1
        have hqb := ht1.blk HQ2.out HQN.out.1
        obtain ⟨X3, hX3⟩ : ∃ V, V = ((((x3.setCell ⟨q8, 3, none⟩ (.bool p8)).setCell ⟨q8, 4, none⟩ (.string t8)).setCell ⟨q8, 5, none⟩ (.string s8)).setCell ⟨q8, 6, none⟩ (.int .i64 g8)).setCell ⟨q8, 7, none⟩ (.slice a8 N8 c8) := ⟨_, rfl⟩
        have hs1 : Turns (fun i => i = q8) x3 X3 := by rw [hX3]; exact turns_ownQ (turns_ownQ (turns_ownQ (turns_ownQ (turns_ownQ (Turns.refl _ _)))))
        have hq3 : Blk X3 q8 73 [.int .i64 z0, .int .i64 z1, .int .i64 z2, .bool p8, .string t8, .string s8, .int .i64 g8, .slice a8 N8 c8] := by rw [hX3]; exact ((((hqb.set 3 _).set 4 _).set 5 _).set 6 _).set 7 _
        have HM3b := hid (hmb.far HSZ.out.2.1 (hs1.below (fun i hi => by rw [hi]; exact HWQ.out) hmb.tur.size))
        have HV3 := hid (hvb.turned hs1 (fun i hi cs hc => by subst hi; exact blk_neQ hqb hc (by decide) rfl) (fun j hj hf => HAGE.out j hj hf))
        have HN3 := hid (hnb.kept hqb (by decide) hs1)
        have HX8 := hid (hv8.kept hqb (by decide) hs1)
        have HOK8 : Hid (VoOk X3 ⟨z0, (z1, z2), ⟨⟨p8, t8, s8, g8, y8⟩, a8, c8⟩⟩) := ⟨⟨HX8.out.hv, HI2b.out.1, Nat.le_trans HI2b.out.2.1 (by decide), Nat.le_trans HI2b.out.2.2 (by decide)⟩, HI0b.out, HI1b.out.1, HI1b.out.2⟩
        have r0 := hq3.cell (i := 0) rfl
        have r1 := hq3.cell (i := 1) rfl
        have r2 := hq3.cell (i := 2) rfl
        have r3 := hq3.cell (i := 3) rfl
        have r4 := hq3.cell (i := 4) rfl
        have r5 := hq3.cell (i := 5) rfl
        have r6 := hq3.cell (i := 6) rfl
        have r7 := hq3.cell (i := 7) rfl
        have b11 := HM3b.out.bx.cell (i := 11) rfl
        have w11 := HM3b.out.bx.frozen 11
        have HGOT : Hid (Got s pVoted (VoM.d ⟨z0, (z1, z2), ⟨⟨p8, t8, s8, g8, y8⟩, a8, c8⟩⟩)) := got_seq HZ0.out (got_seq HZ1.out HZ2.out)
        have HNXS : Hid (nxt (nxt (nxt s (pNum 2147483647)) pBal) pEntry = nxt s pVoted) := by show _ = _; unfold pVoted; rw [← nxt_seq, ← nxt_seq]
        have HROWL : Hid (X3.ownsRow W.heap.size 73 8 (.slice vo k vc) k (flatVo l)) := by have h1 := HV3.out.row; rw [HLL.out] at h1; exact hid h1
        have HFEW : Hid (k < 1466015503701) := hid (by omega)
        rw [hX3] at r0 r1 r2 r3 r4 r5 r6 r7 b11 w11
        have HX3 := hid hX3
        have s3 := hqb.cell (i := 3) rfl
        have s4 := hqb.cell (i := 4) rfl
        have s5 := hqb.cell (i := 5) rfl
        have s6 := hqb.cell (i := 6) rfl
        have s7 := hqb.cell (i := 7) rfl
        have f3 := hqb.frozen 3
        have f4 := hqb.frozen 4
        have f5 := hqb.frozen 5
        have f6 := hqb.frozen 6
        have f7 := hqb.frozen 7
        have hq8x : q8 ≠ qx := HQN.out.2
        have hxq8 : qx ≠ q8 := fun e => HQN.out.2 e.symm
        clear hz2g hv8 hb8 hi8 hr1 ht1 hkr1 hvb hnb hmb hs1 HK2 HM2b HV2 HN2 HQ2 hq3 hX3 hqb
        have HCEL : Hid (∀ N, y8.length = N → (⟨z0, (z1, z2), ⟨⟨p8, t8, s8, g8, y8⟩, a8, c8⟩⟩ : VoM).cells = [.int .i64 z0, .int .i64 z1, .int .i64 z2, .bool p8, .string t8, .string s8, .int .i64 g8, .slice a8 N c8]) := hid (fun N h => by subst h; rfl)
        go_wp2_with (at_builtin; refine wpList_append_voR X3 _ ⟨z0, (z1, z2), ⟨⟨p8, t8, s8, g8, y8⟩, a8, c8⟩⟩ (by rw [HCEL.out N8 HN8.out, HX3.out]) rfl _ _ rfl W.heap.size _ l k HLL.out _ rfl rfl (by rw [HX3.out]; simp) HROWL.out HM3b.out.tur.size HFEW.out ?_; intro v' w7 hown hbel hgrow; obtain ⟨vo', vc', hv'⟩ := own_sliceC hown; subst hv'; have hmc := HM3b.out.far HSZ.out.2.1 hbel; have z11 := hmc.bx.cell (i := 11) rfl; have y11 := hmc.bx.frozen 11; have HM7c := hid hmc; have HO7 := hid hown; have HG7 := hid hgrow; clear hown hbel hgrow hmc r0 r1 r2 r3 r4 r5 r6 r7 b11 w11 s3 s4 s5 s6 s7 f3 f4 f5 f6 f7)
        have HNXT : Hid (∃ (l : List VoM) (s : Option (List Int)) (vo : Option Addr) (vc : Nat), l.length = k + 1 ∧ VosQ W l vo vc (w7.setCell ⟨qx, 11, none⟩ (.slice vo' (k + 1) vc')) ∧ MidM w W rb qx qy bs (w7.setCell ⟨qx, 11, none⟩ (.slice vo' (k + 1) vc')) [.int .i64 y0, .int .i64 y1, .int .i64 y2, .int .i64 y3, .int .i64 z3, .int .i64 y4, .bool p5, .string t5, .string s5, .int .i64 q5, .slice a5 N5 c5, .slice vo (k + 1) vc, .slice none 0 0, .slice none 0 0, .int .i64 0] s ∧ HN (w7.setCell ⟨qx, 11, none⟩ (.slice vo' (k + 1) vc')) a5 c5 y5 ∧ RepQ pVoted (nxt st6 (pNum 4096)) s M1 (k + 1) (l.map VoM.d)) := by
          have hg := HG7.out
          rw [← HX3.out, ← HLL.out] at hg
          have ho := HO7.out
          rw [← HLL.out] at ho
          obtain ⟨vo'', vc'', hv', hvq, hgo⟩ := HV3.out.push HOK8.out HX8.out ho hg
          rw [HLL.out] at hv'
          cases hv'
          have hm8 := HM7c.out.set 11 (.slice vo' (k + 1) vc')
          have hT : Turns (fun i => i = qx) w7 (w7.setCell ⟨qx, 11, none⟩ (.slice vo' (k + 1) vc')) := turns_ownQ (Turns.refl _ _)
          refine ⟨l ++ [⟨z0, (z1, z2), ⟨⟨p8, t8, s8, g8, y8⟩, a8, c8⟩⟩], nxt s pVoted, vo', vc', by rw [List.length_append, HLL.out]; rfl, hvq.blk HM7c.out.bx (by decide) (by decide) hT, ?_, HM7c.out.hn (hgo _ _ _ HN3.out) 11 _, ?_⟩
          · rw [← HNXS.out]
            exact hm8
          · rw [List.map_append]
            exact HREP.out.step HLT.out HGOT.out
        go_roundw
        case rel => exact ⟨k + 1, HLT.out, by go_num, HNXT⟩
        case measure => have := HLT.out; simp [intOf]; omega
  case rest =>
    obtain ⟨l6, vo6, vc6, M6, s6, hl6, hn6, hv6, hm6, hc6, hfin6⟩ := hcut.out
    obtain ⟨hnx6, hgt6⟩ := listQ_nxt hfin6
    have HL6 := hid hl6
    have HN6 := hid hn6
    have HV6 := hid hv6
    have HM8 := hid hm6
    have HV5 := hid hc6
    have HNX6 := hid hnx6
    have HGT6 := hid hgt6
    have HC7 := hid (HM8.out.rq.vector)
    clear hcut hl6 hn6 hv6 hm6 hc6 hfin6 hnx6 hgt6
    go_wp2_with fail
    refine HC7.out.mono ?_
    rintro e u7 ⟨⟨a7, c7, y7, rfl, hg7, hv7, hb7⟩, hr7, ht7⟩
    have HG7 := hid hg7
    have HB7 : Hid (∀ b off, a7 = some ⟨b, off, none⟩ → y7 ≠ [] → w.heap.size ≤ b) := fun b off e hne => Nat.le_trans (Nat.le_trans HSZ.out.1 HM8.out.tur.size) (hb7 b off e hne)
    obtain ⟨N7, HN7⟩ : ∃ n, Hid (y7.length = n) := ⟨_, hid rfl⟩
    rw [HN7.out]
    have hm7 := HM8.out.call hr7 ht7
    obtain ⟨_, hkr7⟩ := HM8.out.rq.rblk
    have hv6 := HV6.out.blk hkr7 (by decide) (by decide) ht7
    have hn5 := HM8.out.rq.hn HV5.out ht7
    have s12 := hm7.bx.cell (i := 12) rfl
    have f12 := hm7.bx.frozen 12
    obtain ⟨V8, hV8⟩ : ∃ V, V = u7.setCell ⟨qx, 12, none⟩ (.slice a7 N7 c7) := ⟨_, rfl⟩
    have hs8 : Turns (fun i => i = qx) u7 V8 := by rw [hV8]; exact turns_ownQ (Turns.refl _ _)
    have HM9 : Hid (MidM w W rb qx qy bs V8 [.int .i64 y0, .int .i64 y1, .int .i64 y2, .int .i64 y3, .int .i64 z3, .int .i64 y4, .bool p5, .string t5, .string s5, .int .i64 q5, .slice a5 N5 c5, .slice vo6 M6 vc6, .slice a7 N7 c7, .slice none 0 0, .int .i64 0] (nxt s6 pVec)) := by rw [hV8]; exact hid (hm7.set 12 _)
    have HV6 := hid (hv6.blk hm7.bx (by decide) (by decide) hs8)
    have HV5 : Hid (HN V8 a5 c5 y5) := by rw [hV8]; exact hid (hm7.hn hn5 12 _)
    have HV7 : Hid (HN V8 a7 c7 y7) := by rw [hV8]; exact hid (hm7.hn hv7 12 _)
    have HC8 := hid (HM9.out.rq.number 4096 (by decide))
    clear hg7 hv7 hb7 hr7 ht7 hkr7 hm7 hv6 hn5 hs8 HC7 HM8
    go_wp2_with fail
    rw [← hV8]
    clear hV8 s12 f12
    refine HC8.out.mono ?_
    rintro e u8 ⟨⟨y8, rfl, hy8, hg8⟩, hr8, ht8⟩
    obtain ⟨M2, rfl⟩ : ∃ n : Nat, y8 = (n : Int) := ⟨y8.toNat, by omega⟩
    obtain ⟨_, hkr8⟩ := HM9.out.rq.rblk
    have HM10 := hid (HM9.out.call hr8 ht8)
    have HV6 := hid (HV6.out.blk hkr8 (by decide) (by decide) ht8)
    have HV5 := hid (HM9.out.rq.hn HV5.out ht8)
    have HV7 := hid (HM9.out.rq.hn HV7.out ht8)
    obtain ⟨st8, HST8⟩ : ∃ s, Hid (nxt s6 pVec = s) := ⟨_, hid rfl⟩
    rw [HST8.out] at hg8 HM10
    have HGL8 : Hid (st8.bind (pList 4096 pEvent) = (nxt st8 (pNum 4096)).bind (pRep pEvent M2)) := by have h1 := listQ_bind (p := pEvent) hg8; rw [Int.toNat_natCast] at h1; exact hid h1
    have hM2 : M2 ≤ 4096 := by omega
    have HM2 := hid hM2
    clear hg8 hr8 ht8 hy8 hkr8 HC8 HM9
    go_upto_block 2 with fail
    go_cut [9] from 70 to 87 (fun _ wx => Hid (∃ (l : List EvM) (vo : Option Addr) (vc N : Nat) (s : Option (List Int)), l.length = N ∧ N ≤ 4096 ∧ EvsQ W l vo vc wx ∧ VosQ W l6 vo6 vc6 wx ∧ MidM w W rb qx qy bs wx [.int .i64 y0, .int .i64 y1, .int .i64 y2, .int .i64 y3, .int .i64 z3, .int .i64 y4, .bool p5, .string t5, .string s5, .int .i64 q5, .slice a5 N5 c5, .slice vo6 M6 vc6, .slice a7 N7 c7, .slice vo N vc, .int .i64 0] s ∧ HN wx a5 c5 y5 ∧ HN wx a7 c7 y7 ∧ st8.bind (pList 4096 pEvent) = s.map (fun r => (l.map EvM.e, r))))
    case first =>
      go_wp2_with fail
      go_loopw [9] (fun i wr => ∃ k : Nat, k ≤ M2 ∧ i = .int .i64 k ∧ Hid (∃ (l : List EvM) (s : Option (List Int)) (vo : Option Addr) (vc : Nat), l.length = k ∧ EvsQ W l vo vc wr ∧ VosQ W l6 vo6 vc6 wr ∧ MidM w W rb qx qy bs wr [.int .i64 y0, .int .i64 y1, .int .i64 y2, .int .i64 y3, .int .i64 z3, .int .i64 y4, .bool p5, .string t5, .string s5, .int .i64 q5, .slice a5 N5 c5, .slice vo6 M6 vc6, .slice a7 N7 c7, .slice vo k vc, .int .i64 0] s ∧ HN wr a5 c5 y5 ∧ HN wr a7 c7 y7 ∧ RepQ pEvent (nxt st8 (pNum 4096)) s M2 k (l.map EvM.e))) (fun i _ => M2 - (intOf i).toNat)
      case atStart => exact ⟨0, Nat.zero_le _, rfl, ⟨[], _, none, 0, rfl, evsQ_nil _ _, HV6.out, HM10.out, HV5.out, HV7.out, repQ_zero _ _ _⟩⟩
      case round =>
        obtain ⟨k, hk, rfl, HQ⟩ := hrel
        obtain ⟨l, s, vo, vc, hl, hv, hv6, hm, hn5, hn7, hrep⟩ := HQ.out
        have HLL := hid hl
        have HVQ := hid hv
        have HVW := hid hv6
        have HM := hid hm
        have HN5c := hid hn5
        have HN7c := hid hn7
        have HREP := hid hrep
        have HKM := hid hk
        obtain ⟨bo, L, C, at', ok, hblk, _, _, _, hst⟩ := hm.rq.blk
        have c2 := hblk.cell (i := 2) rfl
        have HS := hid hst
        clear hl hv hv6 hm hn5 hn7 hrep hblk hst HQ
        cases ok
        · have HSN : Hid (s = none) := by
            rcases HS.out with ⟨_, h0⟩ | ⟨h0, _⟩
            · cases h0
            · exact hid h0
          have HEX : Hid (∃ (l : List EvM) (vo : Option Addr) (vc N : Nat) (s : Option (List Int)), l.length = N ∧ N ≤ 4096 ∧ EvsQ W l vo vc wr ∧ VosQ W l6 vo6 vc6 wr ∧ MidM w W rb qx qy bs wr [.int .i64 y0, .int .i64 y1, .int .i64 y2, .int .i64 y3, .int .i64 z3, .int .i64 y4, .bool p5, .string t5, .string s5, .int .i64 q5, .slice a5 N5 c5, .slice vo6 M6 vc6, .slice a7 N7 c7, .slice vo N vc, .int .i64 0] s ∧ HN wr a5 c5 y5 ∧ HN wr a7 c7 y7 ∧ st8.bind (pList 4096 pEvent) = s.map (fun r => (l.map EvM.e, r))) := ⟨l, vo, vc, k, s, HLL.out, by have := HM2.out; have := HKM.out; omega, HVQ.out, HVW.out, HM.out, HN5c.out, HN7c.out, by rw [HGL8.out]; exact HREP.out.broke HSN.out⟩
          by_cases hlt : k < M2
          · have hlt' : (k : Int) < (M2 : Int) := by omega
            go_wp2
            go_meet
            case rel => exact HEX
          · have hlt' : ¬ (k : Int) < (M2 : Int) := by omega
            go_wp2
            go_meet
            case rel => exact HEX
        · by_cases hlt : k < M2
          rotate_left 1
          · have hlt' : ¬ (k : Int) < (M2 : Int) := by omega
            have hkM : k = M2 := by omega
            have HEX : Hid (∃ (l : List EvM) (vo : Option Addr) (vc N : Nat) (s : Option (List Int)), l.length = N ∧ N ≤ 4096 ∧ EvsQ W l vo vc wr ∧ VosQ W l6 vo6 vc6 wr ∧ MidM w W rb qx qy bs wr [.int .i64 y0, .int .i64 y1, .int .i64 y2, .int .i64 y3, .int .i64 z3, .int .i64 y4, .bool p5, .string t5, .string s5, .int .i64 q5, .slice a5 N5 c5, .slice vo6 M6 vc6, .slice a7 N7 c7, .slice vo N vc, .int .i64 0] s ∧ HN wr a5 c5 y5 ∧ HN wr a7 c7 y7 ∧ st8.bind (pList 4096 pEvent) = s.map (fun r => (l.map EvM.e, r))) := ⟨l, vo, vc, k, s, HLL.out, by have := HM2.out; omega, HVQ.out, HVW.out, HM.out, HN5c.out, HN7c.out, by rw [HGL8.out]; have h1 := HREP.out; rw [hkM] at h1; exact h1.whole⟩
            go_wp2
            go_meet
            case rel => exact HEX
          have hlt' : (k : Int) < (M2 : Int) := by omega
          have HLT := hid hlt
          have hkb : k ≤ 4096 := by omega
          have HKB := hid hkb
          have hwk : wrap64 ((k : Int) + 1) = (k : Int) + 1 := wrapS (by omega) (by omega)
          have hd : Below wr.heap.size wr wr.drew := (Below.refl _ _).drew
          have HMD := hid (HM.out.below hd)
          have HVD := hid (HVQ.out.below hd)
          have HWD := hid (HVW.out.below hd)
          have HND5 := hid (HN5c.out.below hd)
          have HND7 := hid (HN7c.out.below hd)
          have HEV := hid (HMD.out.rq.eventR)
          clear hlt hk hd HM HVQ HVW HN5c HN7c
          go_wp2
          clear c2
          refine wp_region_noPanic ?_
          refine wp_region_K 7 (fun V => V.cell? ⟨qx, 13, none⟩ = some (.slice vo k vc)) (by kernel_rfl) (HMD.out.bx.cell (i := 13) rfl) (fun hHeld => ?_)
          refine wpAnyK_take (i := 0) (oi := { dst := some 81, op := Go.Op.fieldAddr 43 (Go.Operand.tmp 5) 8, type := 0, pos := "ref.go:318", after := #[], guard := none }) (v := ?vqq0) [] rfl (by kernel_rfl) (by kernel_rfl) (by kernel_rfl) (by kernel_rfl) (by kernel_rfl) (fun _ _ _ h => h) (Or.inl ⟨by rfl, ?hyqq0⟩) (by assumption) ?restqq0
          case hyqq0 => (intro w0 hSw; (try dsimp only at hSw); go_simp; try with_reducible rfl)
          simp only [Act.put, List.setIfInBounds_toArray, List.set_cons_zero, List.set_cons_succ]
          refine wpAnyK_take (i := 1) (oi := { dst := some 82, op := Go.Op.load 41 (Go.Operand.tmp 81), type := 41, pos := "ref.go:318", after := #[{ on := 0, ground := Go.Ground.data }], guard := none }) (v := ?vqq1) [] rfl (by kernel_rfl) (by kernel_rfl) (by kernel_rfl) (by kernel_rfl) (by kernel_rfl) (fun _ _ _ h => h) (Or.inl ⟨by rfl, ?hyqq1⟩) (by assumption) ?restqq1
          case hyqq1 => (intro w0 hSw; (try dsimp only at hSw); go_simp; try with_reducible rfl)
          simp only [Act.put, List.setIfInBounds_toArray, List.set_cons_zero, List.set_cons_succ]
          refine wpAnyK_take (i := 2) (oi := { dst := some 83, op := Go.Op.move (Go.Operand.tmp 4), type := 102, pos := "ref.go:318", after := #[], guard := none }) (v := ?vqq2) [] rfl (by kernel_rfl) (by kernel_rfl) (by kernel_rfl) (by kernel_rfl) (by kernel_rfl) (fun _ _ _ h => h) (Or.inl ⟨by rfl, ?hyqq2⟩) (by assumption) ?restqq2
          case hyqq2 => (intro w0 hSw; (try dsimp only at hSw); go_simp; try with_reducible rfl)
          simp only [Act.put, List.setIfInBounds_toArray, List.set_cons_zero, List.set_cons_succ]
          refine wpAnyK_ready (rs := [3]) (by kernel_rfl) (by simp) ?_
          refine AllReadyK.cons (o := { dst := some 84, op := Go.Op.call { callee := Go.Callee.value (Go.Operand.func 53), args := #[Go.Operand.tmp 83], argTypes := #[102] }, type := 97, pos := "ref.go:318", after := #[{ on := 2, ground := Go.Ground.data }], guard := none }) rfl (fun K hK => ?_) AllReadyK.nil
          go_simp
          refine HEV.out.mono ?_
          rintro e x1 ⟨⟨e0, e1, ea, ec, ey, es, e4, ek, e6, et, rfl, hge, hve, hbe, he0, he1, he4, he6, hes, hek⟩, hr1, ht1⟩
          obtain ⟨EN, HEN⟩ : ∃ n, Hid (ey.length = n) := ⟨_, hid rfl⟩
          rw [HEN.out]
          obtain ⟨_, hkr1⟩ := HMD.out.rq.rblk
          have HM1 := hid (HMD.out.call hr1 ht1)
          have HV1 := hid (HVD.out.blk hkr1 (by decide) (by decide) ht1)
          have HW1 := hid (HWD.out.blk hkr1 (by decide) (by decide) ht1)
          have HN51 := hid (HMD.out.rq.hn HND5.out ht1)
          have HN71 := hid (HMD.out.rq.hn HND7.out ht1)
          have HNE1 := hid hve
          have HGE := hid hge
          have HOKE : Hid (EvOk x1 ⟨⟨e0, e1, ey, es, e4, ek, e6, et⟩, ea, ec⟩) := ⟨hve.hv, he0, he1, he4, he6, Nat.le_trans hes (by decide), Nat.le_trans hek (by decide)⟩
          clear hge hve hbe he0 he1 he4 he6 hes hek hr1 ht1 hkr1 HEV HMD HVD HWD HND5 HND7
          go_simp
          refine hK.out _ _ (.inr (HM1.out.bx.cell (i := 13) rfl)) (fun hHeld => ?_)
          have hHeld := hHeld.resolve_right (by decide)
          clear hK K
          try simp only [Act.put, List.setIfInBounds_toArray, List.set_cons_zero, List.set_cons_succ]
          refine wpAnyK_ready (rs := [4]) (by kernel_rfl) (by simp) ?_
          refine AllReadyK.cons (o := { dst := some 85, op := Go.Op.buildSlice 41 1 #[(0, Go.Operand.tmp 84)], type := 41, pos := "ref.go:318", after := #[{ on := 3, ground := Go.Ground.data }], guard := none }) rfl (fun K hK => ?_) AllReadyK.nil
          go_simp
          obtain ⟨X2, hX2⟩ : ∃ V, V = x1.alloc (.cells #[.int .i64 e0, .int .i64 e1, .slice ea EN ec, .string es, .int .i64 e4, .string ek, .int .i64 e6, .bool et] 97) := ⟨_, rfl⟩
          have hb2 : Below x1.heap.size x1 X2 := by rw [hX2]; exact (Below.refl _ _).alloc (Nat.le_refl _) _
          have HM2x := hid (HM1.out.below hb2)
          have HV2 := hid (HV1.out.below hb2)
          have HW2 := hid (HW1.out.below hb2)
          have HN52 := hid (HN51.out.below hb2)
          have HN72 := hid (HN71.out.below hb2)
          have HNE2 := hid (HNE1.out.below hb2)
          have HOK2 : Hid (EvOk X2 ⟨⟨e0, e1, ey, es, e4, ek, e6, et⟩, ea, ec⟩) := hid (HOKE.out.below hb2)
          have HCEL : Hid ((⟨⟨e0, e1, ey, es, e4, ek, e6, et⟩, ea, ec⟩ : EvM).cells = [.int .i64 e0, .int .i64 e1, .slice ea EN ec, .string es, .int .i64 e4, .string ek, .int .i64 e6, .bool et]) := by show _ = _; unfold EvM.cells; rw [HEN.out]
          have HH2 : Hid (HeldE8 X2 (some ⟨x1.heap.size, 0, none⟩) [⟨⟨e0, e1, ey, es, e4, ek, e6, et⟩, ea, ec⟩]) := by have h1 := held_newE8 x1 ⟨⟨e0, e1, ey, es, e4, ek, e6, et⟩, ea, ec⟩; rw [HCEL.out] at h1; rw [hX2]; exact hid h1
          have HROW2 : Hid (X2.ownsRow W.heap.size 97 8 (.slice vo k vc) k (flatE l)) := by have h1 := HV2.out.row; rw [HLL.out] at h1; exact hid h1
          rw [← hX2]
          refine hK.out _ _ (.inr (HM2x.out.bx.cell (i := 13) rfl)) (fun hHeld => ?_)
          have hHeld := hHeld.resolve_right (by decide)
          clear hK K
          try simp only [Act.put, List.setIfInBounds_toArray, List.set_cons_zero, List.set_cons_succ]
          refine wpAnyK_ready (rs := [5]) (by kernel_rfl) (by simp) ?_
          refine AllReadyK.cons (o := { dst := some 86, op := Go.Op.call { callee := Go.Callee.builtin Go.Builtin.append, args := #[Go.Operand.tmp 82, Go.Operand.tmp 85], argTypes := #[41, 41] }, type := 41, pos := "ref.go:318", after := #[{ on := 1, ground := Go.Ground.data }, { on := 4, ground := Go.Ground.data }, { on := 3, ground := Go.Ground.chain }], guard := none }) rfl (fun K hK => ?_) AllReadyK.nil
          refine step_append_e8 rfl _ _ rfl W.heap.size _ k l HLL.out rfl HROW2.out _ 1 1 [⟨⟨e0, e1, ey, es, e4, ek, e6, et⟩, ea, ec⟩] rfl rfl HH2.out (by omega) HM2x.out.tur.size ?_
          intro vo7 vc7 w7 hown hbel hgrow
          have HM7c := hid (HM2x.out.far HSZ.out.2.1 hbel)
          have HO7 := hid hown
          have HG7c := hid hgrow
          have HB7c := hid hbel
          clear hown hbel hgrow
          refine hK.out _ _ (.inr (HM7c.out.bx.cell (i := 13) rfl)) (fun hHeld => ?_)
          have hHeld := hHeld.resolve_right (by decide)
          clear hK K
          try simp only [Act.put, List.setIfInBounds_toArray, List.set_cons_zero, List.set_cons_succ]
          have z13 := HM7c.out.bx.cell (i := 13) rfl
          have y13 := HM7c.out.bx.frozen 13
          refine wpAnyK_take (i := 6) (oi := { dst := some 87, op := Go.Op.fieldAddr 43 (Go.Operand.tmp 5) 8, type := 0, pos := "ref.go:318", after := #[{ on := 0, ground := Go.Ground.phase }, { on := 1, ground := Go.Ground.phase }, { on := 2, ground := Go.Ground.phase }, { on := 3, ground := Go.Ground.phase }, { on := 4, ground := Go.Ground.phase }, { on := 5, ground := Go.Ground.phase }], guard := none }) (v := ?vqq6) [] rfl (by kernel_rfl) (by kernel_rfl) (by kernel_rfl) (by kernel_rfl) (by kernel_rfl) (fun _ _ _ h => h) (Or.inl ⟨by rfl, ?hyqq6⟩) (by assumption) ?restqq6
          case hyqq6 => (intro w0 hSw; (try dsimp only at hSw); go_simp; try with_reducible rfl)
          simp only [Act.put, List.setIfInBounds_toArray, List.set_cons_zero, List.set_cons_succ]
          refine wpAnyK_ready (rs := [7]) (by kernel_rfl) (by simp) ?_
          refine AllReadyK.cons (o := { dst := none, op := Go.Op.store 41 (Go.Operand.tmp 87) (Go.Operand.tmp 86), type := 0, pos := "ref.go:318", after := #[{ on := 6, ground := Go.Ground.data }, { on := 5, ground := Go.Ground.data }, { on := 5, ground := Go.Ground.chain }, { on := 0, ground := Go.Ground.phase }, { on := 1, ground := Go.Ground.phase }, { on := 2, ground := Go.Ground.phase }, { on := 3, ground := Go.Ground.phase }, { on := 4, ground := Go.Ground.phase }, { on := 5, ground := Go.Ground.phase }], guard := none }) rfl (fun K hK => ?_) AllReadyK.nil
          go_simp
          refine hK.out _ _ (.inl rfl) (fun _ => ?_)
          clear hK K
          try simp only [Act.put, List.setIfInBounds_toArray, List.set_cons_zero, List.set_cons_succ]
          have HNXT : Hid (∃ (l : List EvM) (s : Option (List Int)) (vo : Option Addr) (vc : Nat), l.length = (k + 1) ∧ EvsQ W l vo vc (w7.setCell ⟨qx, 13, none⟩ (.slice vo7 (k + 1) vc7)) ∧ VosQ W l6 vo6 vc6 (w7.setCell ⟨qx, 13, none⟩ (.slice vo7 (k + 1) vc7)) ∧ MidM w W rb qx qy bs (w7.setCell ⟨qx, 13, none⟩ (.slice vo7 (k + 1) vc7)) [.int .i64 y0, .int .i64 y1, .int .i64 y2, .int .i64 y3, .int .i64 z3, .int .i64 y4, .bool p5, .string t5, .string s5, .int .i64 q5, .slice a5 N5 c5, .slice vo6 M6 vc6, .slice a7 N7 c7, .slice vo (k + 1) vc, .int .i64 0] s ∧ HN (w7.setCell ⟨qx, 13, none⟩ (.slice vo7 (k + 1) vc7)) a5 c5 y5 ∧ HN (w7.setCell ⟨qx, 13, none⟩ (.slice vo7 (k + 1) vc7)) a7 c7 y7 ∧ RepQ pEvent (nxt st8 (pNum 4096)) s M2 (k + 1) (l.map EvM.e)) := by
            obtain ⟨vo8, vc8, hv8, hvq, hgo⟩ := HV2.out.push2 HOK2.out HNE2.out (by rw [HLL.out]; exact HO7.out) (by rw [HLL.out]; exact HG7c.out)
            rw [HLL.out] at hv8
            cases hv8
            have hT : Turns (fun i => i = qx) w7 (w7.setCell ⟨qx, 13, none⟩ (.slice vo7 (k + 1) vc7)) := turns_ownQ (Turns.refl _ _)
            have hgv : VosQ W l6 vo6 vc6 w7 := HV2.out.other HW2.out (by rw [HLL.out]; exact HG7c.out)
            refine ⟨l ++ [⟨⟨e0, e1, ey, es, e4, ek, e6, et⟩, ea, ec⟩], nxt s pEvent, vo7, vc7, by rw [List.length_append, HLL.out]; rfl, hvq.blk HM7c.out.bx (by decide) (by decide) hT, hgv.blk HM7c.out.bx (by decide) (by decide) hT, HM7c.out.set 13 _, HM7c.out.hn (hgo _ _ _ HN52.out) 13 _, HM7c.out.hn (hgo _ _ _ HN72.out) 13 _, ?_⟩
            rw [List.map_append]
            exact HREP.out.step HLT.out HGE.out
          refine wpAnyK_done (by kernel_rfl) ?_ _
          refine NoPanic.normal ?_
          go_wp2
          go_roundw
          case rel => exact ⟨k + 1, HLT.out, by go_num, HNXT⟩
          case measure => have := HLT.out; simp [intOf]; omega
    case rest =>
      obtain ⟨l8, vo8, vc8, M8, s8, hl8, hn8, he8, hv8, hm8, h58, h78, hfin8⟩ := hcut.out
      obtain ⟨hnx8, hgt8⟩ := listQ_nxt hfin8
      have HL8 := hid hl8
      have HN8 := hid hn8
      have HE8 := hid he8
      have HV8v := hid hv8
      have HM11 := hid hm8
      have HV5 := hid h58
      have HV7 := hid h78
      have HNX8 := hid hnx8
      have HGT8 := hid hgt8
      have HC9 := hid (HM11.out.rq.number 4611686018427387904 (by decide))
      clear hcut hl8 hn8 he8 hv8 hm8 h58 h78 hfin8 hnx8 hgt8
      go_wp2_with fail
      refine HC9.out.mono ?_
      rintro e u9 ⟨⟨y9, rfl, hy9, hg9⟩, hr9, ht9⟩
      have HG9 := hid hg9
      have HI9 : Hid (I64 y9) := hid (i64_ofQ hy9 (by decide))
      have hm9 := HM11.out.call hr9 ht9
      obtain ⟨_, hkr9⟩ := HM11.out.rq.rblk
      have he9 := HE8.out.blk hkr9 (by decide) (by decide) ht9
      have hv9 := HV8v.out.blk hkr9 (by decide) (by decide) ht9
      have hn5 := HM11.out.rq.hn HV5.out ht9
      have hn7 := HM11.out.rq.hn HV7.out ht9
      have s14 := hm9.bx.cell (i := 14) rfl
      have f14 := hm9.bx.frozen 14
      obtain ⟨V10, hV10⟩ : ∃ V, V = u9.setCell ⟨qx, 14, none⟩ (.int .i64 y9) := ⟨_, rfl⟩
      have hs10 : Turns (fun i => i = qx) u9 V10 := by rw [hV10]; exact turns_ownQ (Turns.refl _ _)
      have HMX : Hid (MidM w W rb qx qy bs V10 [.int .i64 y0, .int .i64 y1, .int .i64 y2, .int .i64 y3, .int .i64 z3, .int .i64 y4, .bool p5, .string t5, .string s5, .int .i64 q5, .slice a5 N5 c5, .slice vo6 M6 vc6, .slice a7 N7 c7, .slice vo8 M8 vc8, .int .i64 y9] (nxt s8 (pNum 4611686018427387904))) := by rw [hV10]; exact hid (hm9.set 14 _)
      have HEX := hid (he9.blk hm9.bx (by decide) (by decide) hs10)
      have HVX := hid (hv9.blk hm9.bx (by decide) (by decide) hs10)
      have HX5 := hid (hn5.kept hm9.bx (by decide) hs10)
      have HX7 := hid (hn7.kept hm9.bx (by decide) hs10)
      have HTOT : Hid (Got (some bs) pMsg (MsM.d ⟨y0, y1, y2, (y3, z3), y4, ⟨⟨p5, t5, s5, q5, y5⟩, a5, c5⟩, vo6, vc6, l6, a7, c7, y7, vo8, vc8, l8, y9⟩) ∧ nxt s8 (pNum 4611686018427387904) = nxt (some bs) pMsg) := by
        have e6 := HST6.out
        have e6b := HNX6.out
        have e8 := HST8.out
        have e8b := HNX8.out
        have g6 := HGT6.out
        have g7 := HG7.out
        have g8 := HGT8.out
        have g9 := HG9.out
        rw [← e8b, ← e8, ← e6b, ← e6] at g9
        rw [← e8, ← e6b, ← e6] at g8
        rw [← e6b, ← e6] at g7
        rw [← e6] at g6
        refine ⟨got_map _ (got_seq HG0.out (got_seq HG1.out (got_seq HG2.out (got_seq HG3.out (got_seq HG4.out (got_seq HG5.out (got_seq g6 (got_seq g7 (got_seq g8 g9))))))))), ?_⟩
        rw [← e8b, ← e8, ← e6b, ← e6]
        unfold pMsg
        rw [nxt_map, ← nxt_seq, ← nxt_seq, ← nxt_seq, ← nxt_seq, ← nxt_seq, ← nxt_seq, ← nxt_seq, ← nxt_seq, ← nxt_seq]
      have HBX : Hid (Below w.heap.size w V10) := HBW.out.trans (HMX.out.tur.below (fun i hi => by rcases hi with hi | hi; rw [hi]; exact HSZ.out.2.2.2.1; rw [hi]; exact HSZ.out.2.2.2.2) HSZ.out.1)
      obtain ⟨bo, L, C, at', ok, hblk, hhd, _, _, hst⟩ := HMX.out.rq.blk
      have c0 := hblk.cell (i := 0) rfl
      have c2 := hblk.cell (i := 2) rfl
      have HS := hid hst
      have HHL : Hid (L = (bs.drop at').length) := hid hhd.hlen.symm
      have hrx : rb ≠ qx := by have := HMX.out.ne.1; omega
      have hxr : qx ≠ rb := fun e => hrx e.symm
      have hxy : qx ≠ qy := fun e => HMX.out.ne.2.1 e.symm
      have hyxn : qy ≠ qx := HMX.out.ne.2.1
      clear hg9 hy9 hr9 ht9 hkr9 hm9 he9 hv9 hn5 hn7 hs10 hblk hst hhd HC9 HM11
      cases ok
      · have HNM : Hid (¬ IsMsg len bs) := hid (fun hmm => by
          obtain ⟨_, y, hy⟩ := hmm
          rcases HS.out with ⟨_, h0⟩ | ⟨h0, _⟩
          · cases h0
          · rw [HTOT.out.2, nxt_ok hy] at h0
            cases h0)
        obtain ⟨W3, hW3⟩ : ∃ V, V = stQ15 V10 qy (.int .i64 0) (.int .i64 0) (.int .i64 0) (.int .i64 0) (.int .i64 0) (.int .i64 0) (.bool false) (.string ⟨#[]⟩) (.string ⟨#[]⟩) (.int .i64 0) (.slice none 0 0) (.slice none 0 0) (.slice none 0 0) (.slice none 0 0) (.int .i64 0) := ⟨_, rfl⟩
        have hk9 : Blk W3 qy 43 [.int .i64 0, .int .i64 0, .int .i64 0, .int .i64 0, .int .i64 0, .int .i64 0, .bool false, .string ⟨#[]⟩, .string ⟨#[]⟩, .int .i64 0, .slice none 0 0, .slice none 0 0, .slice none 0 0, .slice none 0 0, .int .i64 0] := by rw [hW3]; exact stQ15_blk HMX.out.by' _ _ _ _ _ _ _ _ _ _ _ _ _ _ _
        have HFI : Hid (RMs w len bs (.returned (.tuple #[.agg #[.int .i64 0, .int .i64 0, .int .i64 0, .int .i64 0, .int .i64 0, .int .i64 0, .bool false, .string ⟨#[]⟩, .string ⟨#[]⟩, .int .i64 0, .slice none 0 0, .slice none 0 0, .slice none 0 0, .slice none 0 0, .int .i64 0], .int .i64 10])) W3) := by
          refine ⟨_, 10, rfl, msNew_zero _ _, .inr ⟨rfl, rfl, HNM.out⟩, ?_⟩
          exact HBX.out.trans (by rw [hW3]; exact (stQ15_turns _ _ _ _ _ _ _ _ _ _ _ _ _ _ _ _ _).below (fun i hi => by rw [hi]; exact HSZ.out.2.2.1) HBX.out.size)
        have k0 := hk9.cell (i := 0) rfl
        have k1 := hk9.cell (i := 1) rfl
        have k2 := hk9.cell (i := 2) rfl
        have k3 := hk9.cell (i := 3) rfl
        have k4 := hk9.cell (i := 4) rfl
        have k5 := hk9.cell (i := 5) rfl
        have k6 := hk9.cell (i := 6) rfl
        have k7 := hk9.cell (i := 7) rfl
        have k8 := hk9.cell (i := 8) rfl
        have k9 := hk9.cell (i := 9) rfl
        have k10 := hk9.cell (i := 10) rfl
        have k11 := hk9.cell (i := 11) rfl
        have k12 := hk9.cell (i := 12) rfl
        have k13 := hk9.cell (i := 13) rfl
        have k14 := hk9.cell (i := 14) rfl
        clear hk9
        have hyx := HMX.out.by'
        have e0 := hyx.cell (i := 0) rfl
        have g0 := hyx.frozen 0
        have e1 := hyx.cell (i := 1) rfl
        have g1 := hyx.frozen 1
        have e2 := hyx.cell (i := 2) rfl
        have g2 := hyx.frozen 2
        have e3 := hyx.cell (i := 3) rfl
        have g3 := hyx.frozen 3
        have e4 := hyx.cell (i := 4) rfl
        have g4 := hyx.frozen 4
        have e5 := hyx.cell (i := 5) rfl
        have g5 := hyx.frozen 5
        have e6 := hyx.cell (i := 6) rfl
        have g6 := hyx.frozen 6
        have e7 := hyx.cell (i := 7) rfl
        have g7 := hyx.frozen 7
        have e8 := hyx.cell (i := 8) rfl
        have g8 := hyx.frozen 8
        have e9 := hyx.cell (i := 9) rfl
        have g9 := hyx.frozen 9
        have e10 := hyx.cell (i := 10) rfl
        have g10 := hyx.frozen 10
        have e11 := hyx.cell (i := 11) rfl
        have g11 := hyx.frozen 11
        have e12 := hyx.cell (i := 12) rfl
        have g12 := hyx.frozen 12
        have e13 := hyx.cell (i := 13) rfl
        have g13 := hyx.frozen 13
        have e14 := hyx.cell (i := 14) rfl
        have g14 := hyx.frozen 14
        rw [hV10] at e0 g0 e1 g1 e2 g2 e3 g3 e4 g4 e5 g5 e6 g6 e7 g7 e8 g8 e9 g9 e10 g10 e11 g11 e12 g12 e13 g13 e14 g14 c0 c2
        rw [hV10] at hW3
        go_wp2
        unfold stQ15 at hW3
        rw [← hW3]
        (try simp only [Exit.inBlock, Exit.then])
        refine bodyPost_ret (v := .tuple #[.agg #[.int .i64 0, .int .i64 0, .int .i64 0, .int .i64 0, .int .i64 0, .int .i64 0, .bool false, .string ⟨#[]⟩, .string ⟨#[]⟩, .int .i64 0, .slice none 0 0, .slice none 0 0, .slice none 0 0, .slice none 0 0, .int .i64 0], .int .i64 10]) ?_ rfl HFI.out
        rw [results_cellR2 rfl]
        go_simp
      · have HSS : Hid (nxt (some bs) pMsg = some (bs.drop at')) := by
          rcases HS.out with ⟨h0, _⟩ | ⟨_, h0⟩
          · rw [HTOT.out.2] at h0; exact hid h0
          · cases h0
        obtain ⟨d0, hd0⟩ := nxt_some HSS.out
        by_cases hL : 0 < L
        · have hLI : (0 : Int) < (L : Int) := by omega
          have HNM : Hid (¬ IsMsg len bs) := hid (fun hmm => by
            obtain ⟨_, y, hy⟩ := hmm
            rw [hd0] at hy
            injection hy with hy
            injection hy with _ hy
            have h1 := HHL.out
            rw [hy] at h1
            simp at h1
            omega)
          clear hd0
          obtain ⟨W3, hW3⟩ : ∃ V, V = stQ15 V10 qy (.int .i64 0) (.int .i64 0) (.int .i64 0) (.int .i64 0) (.int .i64 0) (.int .i64 0) (.bool false) (.string ⟨#[]⟩) (.string ⟨#[]⟩) (.int .i64 0) (.slice none 0 0) (.slice none 0 0) (.slice none 0 0) (.slice none 0 0) (.int .i64 0) := ⟨_, rfl⟩
          have hk9 : Blk W3 qy 43 [.int .i64 0, .int .i64 0, .int .i64 0, .int .i64 0, .int .i64 0, .int .i64 0, .bool false, .string ⟨#[]⟩, .string ⟨#[]⟩, .int .i64 0, .slice none 0 0, .slice none 0 0, .slice none 0 0, .slice none 0 0, .int .i64 0] := by rw [hW3]; exact stQ15_blk HMX.out.by' _ _ _ _ _ _ _ _ _ _ _ _ _ _ _
          have HFI : Hid (RMs w len bs (.returned (.tuple #[.agg #[.int .i64 0, .int .i64 0, .int .i64 0, .int .i64 0, .int .i64 0, .int .i64 0, .bool false, .string ⟨#[]⟩, .string ⟨#[]⟩, .int .i64 0, .slice none 0 0, .slice none 0 0, .slice none 0 0, .slice none 0 0, .int .i64 0], .int .i64 10])) W3) := by
            refine ⟨_, 10, rfl, msNew_zero _ _, .inr ⟨rfl, rfl, HNM.out⟩, ?_⟩
            exact HBX.out.trans (by rw [hW3]; exact (stQ15_turns _ _ _ _ _ _ _ _ _ _ _ _ _ _ _ _ _).below (fun i hi => by rw [hi]; exact HSZ.out.2.2.1) HBX.out.size)
          have k0 := hk9.cell (i := 0) rfl
          have k1 := hk9.cell (i := 1) rfl
          have k2 := hk9.cell (i := 2) rfl
          have k3 := hk9.cell (i := 3) rfl
          have k4 := hk9.cell (i := 4) rfl
          have k5 := hk9.cell (i := 5) rfl
          have k6 := hk9.cell (i := 6) rfl
          have k7 := hk9.cell (i := 7) rfl
          have k8 := hk9.cell (i := 8) rfl
          have k9 := hk9.cell (i := 9) rfl
          have k10 := hk9.cell (i := 10) rfl
          have k11 := hk9.cell (i := 11) rfl
          have k12 := hk9.cell (i := 12) rfl
          have k13 := hk9.cell (i := 13) rfl
          have k14 := hk9.cell (i := 14) rfl
          clear hk9
          have hyx := HMX.out.by'
          have e0 := hyx.cell (i := 0) rfl
          have g0 := hyx.frozen 0
          have e1 := hyx.cell (i := 1) rfl
          have g1 := hyx.frozen 1
          have e2 := hyx.cell (i := 2) rfl
          have g2 := hyx.frozen 2
          have e3 := hyx.cell (i := 3) rfl
          have g3 := hyx.frozen 3
          have e4 := hyx.cell (i := 4) rfl
          have g4 := hyx.frozen 4
          have e5 := hyx.cell (i := 5) rfl
          have g5 := hyx.frozen 5
          have e6 := hyx.cell (i := 6) rfl
          have g6 := hyx.frozen 6
          have e7 := hyx.cell (i := 7) rfl
          have g7 := hyx.frozen 7
          have e8 := hyx.cell (i := 8) rfl
          have g8 := hyx.frozen 8
          have e9 := hyx.cell (i := 9) rfl
          have g9 := hyx.frozen 9
          have e10 := hyx.cell (i := 10) rfl
          have g10 := hyx.frozen 10
          have e11 := hyx.cell (i := 11) rfl
          have g11 := hyx.frozen 11
          have e12 := hyx.cell (i := 12) rfl
          have g12 := hyx.frozen 12
          have e13 := hyx.cell (i := 13) rfl
          have g13 := hyx.frozen 13
          have e14 := hyx.cell (i := 14) rfl
          have g14 := hyx.frozen 14
          rw [hV10] at e0 g0 e1 g1 e2 g2 e3 g3 e4 g4 e5 g5 e6 g6 e7 g7 e8 g8 e9 g9 e10 g10 e11 g11 e12 g12 e13 g13 e14 g14 c0 c2
          rw [hV10] at hW3
          go_wp2
          unfold stQ15 at hW3
          rw [← hW3]
          (try simp only [Exit.inBlock, Exit.then])
          refine bodyPost_ret (v := .tuple #[.agg #[.int .i64 0, .int .i64 0, .int .i64 0, .int .i64 0, .int .i64 0, .int .i64 0, .bool false, .string ⟨#[]⟩, .string ⟨#[]⟩, .int .i64 0, .slice none 0 0, .slice none 0 0, .slice none 0 0, .slice none 0 0, .int .i64 0], .int .i64 10]) ?_ rfl HFI.out
          rw [results_cellR2 rfl]
          go_simp
        · have hLI : ¬ (0 : Int) < (L : Int) := by omega
          have hnil : bs.drop at' = [] := List.eq_nil_of_length_eq_zero (by have := HHL.out; omega)
          have HPM : Hid (pMsg bs = some (MsM.d ⟨y0, y1, y2, (y3, z3), y4, ⟨⟨p5, t5, s5, q5, y5⟩, a5, c5⟩, vo6, vc6, l6, a7, c7, y7, vo8, vc8, l8, y9⟩, [])) := by
            have h1 := HTOT.out.1 d0 (bs.drop at') hd0
            rw [h1, hd0, hnil]
            exact hid rfl
          obtain ⟨W3, hW3⟩ : ∃ V, V = stQ15 V10 qy (.int .i64 y0) (.int .i64 y1) (.int .i64 y2) (.int .i64 y3) (.int .i64 z3) (.int .i64 y4) (.bool p5) (.string t5) (.string s5) (.int .i64 q5) (.slice a5 N5 c5) (.slice vo6 M6 vc6) (.slice a7 N7 c7) (.slice vo8 M8 vc8) (.int .i64 y9) := ⟨_, rfl⟩
          have hk9 : Blk W3 qy 43 [.int .i64 y0, .int .i64 y1, .int .i64 y2, .int .i64 y3, .int .i64 z3, .int .i64 y4, .bool p5, .string t5, .string s5, .int .i64 q5, .slice a5 N5 c5, .slice vo6 M6 vc6, .slice a7 N7 c7, .slice vo8 M8 vc8, .int .i64 y9] := by rw [hW3]; exact stQ15_blk HMX.out.by' _ _ _ _ _ _ _ _ _ _ _ _ _ _ _
          have hT3 : Turns (fun i => i = qy) V10 W3 := by rw [hW3]; exact stQ15_turns _ _ _ _ _ _ _ _ _ _ _ _ _ _ _ _ _
          have HFI : Hid (RMs w len bs (.returned (.tuple #[.agg #[.int .i64 y0, .int .i64 y1, .int .i64 y2, .int .i64 y3, .int .i64 z3, .int .i64 y4, .bool p5, .string t5, .string s5, .int .i64 q5, .slice a5 N5 c5, .slice vo6 M6 vc6, .slice a7 N7 c7, .slice vo8 M8 vc8, .int .i64 y9], .int .i64 0])) W3) := by
            have hv := HVX.out.blk HMX.out.by' (by decide) (by decide) hT3
            have he := HEX.out.blk HMX.out.by' (by decide) (by decide) hT3
            have h5 := HX5.out.kept HMX.out.by' (by decide) hT3
            have h7 := HX7.out.kept HMX.out.by' (by decide) hT3
            have hva := hv.at' (by rw [HL6.out]; exact HN6.out) (w := w) HSZ.out.1
            have hea := he.at' (by rw [HL8.out]; exact HN8.out) (w := w) HSZ.out.1
            refine ⟨⟨y0, y1, y2, (y3, z3), y4, ⟨⟨p5, t5, s5, q5, y5⟩, a5, c5⟩, vo6, vc6, l6, a7, c7, y7, vo8, vc8, l8, y9⟩, 0, ?_, ⟨⟨⟨h5.hv, HI5.out.1, Nat.le_trans HI5.out.2.1 (by decide), Nat.le_trans HI5.out.2.2 (by decide)⟩, hva.held.held, Nat.le_trans hva.few (by decide), h7.hv, hea.held.held, Nat.le_trans hea.few (by decide), HI0.out, HI1.out, HI2.out, HI3.out.1, HI3.out.2, HI4.out, HI9.out⟩, h5, HB5.out, hva, h7, HB7.out, hea⟩, .inl ⟨rfl, HLE.out, HPM.out⟩, HBX.out.trans (hT3.below (fun i hi => by rw [hi]; exact HSZ.out.2.2.1) HBX.out.size)⟩
            simp only [MsM.val]
            rw [HN5.out, HL6.out, HN7.out, HL8.out]
          have k0 := hk9.cell (i := 0) rfl
          have k1 := hk9.cell (i := 1) rfl
          have k2 := hk9.cell (i := 2) rfl
          have k3 := hk9.cell (i := 3) rfl
          have k4 := hk9.cell (i := 4) rfl
          have k5 := hk9.cell (i := 5) rfl
          have k6 := hk9.cell (i := 6) rfl
          have k7 := hk9.cell (i := 7) rfl
          have k8 := hk9.cell (i := 8) rfl
          have k9 := hk9.cell (i := 9) rfl
          have k10 := hk9.cell (i := 10) rfl
          have k11 := hk9.cell (i := 11) rfl
          have k12 := hk9.cell (i := 12) rfl
          have k13 := hk9.cell (i := 13) rfl
          have k14 := hk9.cell (i := 14) rfl
          clear hk9 hT3 hd0
          have hyx := HMX.out.by'
          have hxx := HMX.out.bx
          have e0 := hyx.cell (i := 0) rfl
          have g0 := hyx.frozen 0
          have v0 := hxx.cell (i := 0) rfl
          have e1 := hyx.cell (i := 1) rfl
          have g1 := hyx.frozen 1
          have v1 := hxx.cell (i := 1) rfl
          have e2 := hyx.cell (i := 2) rfl
          have g2 := hyx.frozen 2
          have v2 := hxx.cell (i := 2) rfl
          have e3 := hyx.cell (i := 3) rfl
          have g3 := hyx.frozen 3
          have v3 := hxx.cell (i := 3) rfl
          have e4 := hyx.cell (i := 4) rfl
          have g4 := hyx.frozen 4
          have v4 := hxx.cell (i := 4) rfl
          have e5 := hyx.cell (i := 5) rfl
          have g5 := hyx.frozen 5
          have v5 := hxx.cell (i := 5) rfl
          have e6 := hyx.cell (i := 6) rfl
          have g6 := hyx.frozen 6
          have v6 := hxx.cell (i := 6) rfl
          have e7 := hyx.cell (i := 7) rfl
          have g7 := hyx.frozen 7
          have v7 := hxx.cell (i := 7) rfl
          have e8 := hyx.cell (i := 8) rfl
          have g8 := hyx.frozen 8
          have v8 := hxx.cell (i := 8) rfl
          have e9 := hyx.cell (i := 9) rfl
          have g9 := hyx.frozen 9
          have v9 := hxx.cell (i := 9) rfl
          have e10 := hyx.cell (i := 10) rfl
          have g10 := hyx.frozen 10
          have v10 := hxx.cell (i := 10) rfl
          have e11 := hyx.cell (i := 11) rfl
          have g11 := hyx.frozen 11
          have v11 := hxx.cell (i := 11) rfl
          have e12 := hyx.cell (i := 12) rfl
          have g12 := hyx.frozen 12
          have v12 := hxx.cell (i := 12) rfl
          have e13 := hyx.cell (i := 13) rfl
          have g13 := hyx.frozen 13
          have v13 := hxx.cell (i := 13) rfl
          have e14 := hyx.cell (i := 14) rfl
          have g14 := hyx.frozen 14
          have v14 := hxx.cell (i := 14) rfl
          rw [hV10] at e0 g0 v0 e1 g1 v1 e2 g2 v2 e3 g3 v3 e4 g4 v4 e5 g5 v5 e6 g6 v6 e7 g7 v7 e8 g8 v8 e9 g9 v9 e10 g10 v10 e11 g11 v11 e12 g12 v12 e13 g13 v13 e14 g14 v14 c0 c2
          rw [hV10] at hW3
          go_wp2
          unfold stQ15 at hW3
          rw [← hW3]
          (try simp only [Exit.inBlock, Exit.then])
          refine bodyPost_ret (v := .tuple #[.agg #[.int .i64 y0, .int .i64 y1, .int .i64 y2, .int .i64 y3, .int .i64 z3, .int .i64 y4, .bool p5, .string t5, .string s5, .int .i64 q5, .slice a5 N5 c5, .slice vo6 M6 vc6, .slice a7 N7 c7, .slice vo8 M8 vc8, .int .i64 y9], .int .i64 0]) ?_ rfl HFI.out
          rw [results_cellR2 rfl]
          go_simp
theorem rreadMsg_any (ao : Option Addr) (len cap : Nat) (bs : List Int) (w : World) (h : Held w ao len cap bs) : Calls Tryz.prog 35 #[.slice ao len cap] w (RMs w len bs) := by
  by_cases hl : 65536 < len
  · exact rreadMsg_big ao len cap bs w hl
  · exact rreadMsg_small ao len cap bs w h hl
end Go.Proofs.YtfmnbehopdmahaaGreat
