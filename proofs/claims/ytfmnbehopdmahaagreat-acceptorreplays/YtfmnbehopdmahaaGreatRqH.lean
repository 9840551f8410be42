/-
  pannierref01's reader: event.
-/
import Derived.Test.YtfmnbehopdmahaaGreatRqD
import Derived.Test.YtfmnbehopdmahaaGreatRdJ
import Derived.Test.YtfmnbehopdmahaaGreatRdV
import Derived.Test.YtfmnbehopdmahaaGreatOrdK
import Derived.Deep.AppendLies
import Derived.Deep.RegionLaw
namespace Go.Proofs.YtfmnbehopdmahaaGreat
open Go.RowKit Go.Maps

def stQ8 (w : World) (p : Nat) (v0 v1 v2 v3 v4 v5 v6 v7 : Value) : World := (((((((w.setCell ⟨p, 0, none⟩ v0).setCell ⟨p, 1, none⟩ v1).setCell ⟨p, 2, none⟩ v2).setCell ⟨p, 3, none⟩ v3).setCell ⟨p, 4, none⟩ v4).setCell ⟨p, 5, none⟩ v5).setCell ⟨p, 6, none⟩ v6).setCell ⟨p, 7, none⟩ v7
theorem stQ8_blk {w : World} {p : Nat} {t : TypeId} {a0 a1 a2 a3 a4 a5 a6 a7 : Value} (h : Blk w p t [a0, a1, a2, a3, a4, a5, a6, a7]) (v0 v1 v2 v3 v4 v5 v6 v7 : Value) : Blk (stQ8 w p v0 v1 v2 v3 v4 v5 v6 v7) p t [v0, v1, v2, v3, v4, v5, v6, v7] := (((((((h.set 0 v0).set 1 v1).set 2 v2).set 3 v3).set 4 v4).set 5 v5).set 6 v6).set 7 v7
theorem stQ8_turns (w : World) (p : Nat) (v0 v1 v2 v3 v4 v5 v6 v7 : Value) : Turns (fun i => i = p) w (stQ8 w p v0 v1 v2 v3 v4 v5 v6 v7) := turns_ownQ (turns_ownQ (turns_ownQ (turns_ownQ (turns_ownQ (turns_ownQ (turns_ownQ (turns_ownQ (Turns.refl _ _))))))))
def PqEvent (B : Nat) (w : World) (rb : Nat) (bs : List Int) (st : Option (List Int)) (e : Ending) (w' : World) : Prop := (∃ (y0 : Int) (y1 : Int) (a2 : Option Addr) (c2 : Nat) (y2 : List Int) (y3 : ByteArray) (y4 : Int) (y5 : ByteArray) (y6 : Int) (y7 : Int), e = .returned (.agg #[.int .i64 y0, .int .i64 y1, .slice a2 y2.length c2, .string y3, .int .i64 y4, .string y5, .int .i64 y6, .bool (decide (y7 = 1))]) ∧ Got st (pNum 6) y0 ∧ (0 ≤ y0 ∧ y0 ≤ 6) ∧ Got (nxt st (pNum 6)) (pNum 2147483647) y1 ∧ (0 ≤ y1 ∧ y1 ≤ 2147483647) ∧ Got (nxt (nxt st (pNum 6)) (pNum 2147483647)) pVec y2 ∧ HN w' a2 c2 y2 ∧ (∀ b off, a2 = some ⟨b, off, none⟩ → y2 ≠ [] → w.heap.size ≤ b) ∧ Got (nxt (nxt (nxt st (pNum 6)) (pNum 2147483647)) pVec) pName y3 ∧ y3.size ≤ 32 ∧ Got (nxt (nxt (nxt (nxt st (pNum 6)) (pNum 2147483647)) pVec) pName) (pNum 2147483647) y4 ∧ (0 ≤ y4 ∧ y4 ≤ 2147483647) ∧ Got (nxt (nxt (nxt (nxt (nxt st (pNum 6)) (pNum 2147483647)) pVec) pName) (pNum 2147483647)) pName y5 ∧ y5.size ≤ 32 ∧ Got (nxt (nxt (nxt (nxt (nxt (nxt st (pNum 6)) (pNum 2147483647)) pVec) pName) (pNum 2147483647)) pName) (pNum 1000) y6 ∧ (0 ≤ y6 ∧ y6 ≤ 1000) ∧ Got (nxt (nxt (nxt (nxt (nxt (nxt (nxt st (pNum 6)) (pNum 2147483647)) pVec) pName) (pNum 2147483647)) pName) (pNum 1000)) (pNum 1) y7) ∧ RqAt B w' rb bs (nxt (nxt (nxt (nxt (nxt (nxt (nxt (nxt st (pNum 6)) (pNum 2147483647)) pVec) pName) (pNum 2147483647)) pName) (pNum 1000)) (pNum 1)) ∧ Turns (fun i => i = rb) w w'
set_option maxRecDepth 1000000 in
set_option maxHeartbeats 8000000 in
theorem RqAt.pqEvent {B : Nat} {w : World} {rb : Nat} {bs : List Int} {st : Option (List Int)} (h : RqAt B w rb bs st) : Calls Tryz.prog 53 #[.pointer (some ⟨rb, 0, none⟩)] w (PqEvent B w rb bs st) := by
  obtain ⟨W1, hW1⟩ : ∃ V, V = w.alloc (.cells #[.int .i64 0, .int .i64 0, .slice none 0 0, .string ⟨#[]⟩, .int .i64 0, .string ⟨#[]⟩, .int .i64 0, .bool false] 97) := ⟨_, rfl⟩
  obtain ⟨W, hW⟩ : ∃ V, V = W1.alloc (.cells #[.int .i64 0, .int .i64 0, .slice none 0 0, .string ⟨#[]⟩, .int .i64 0, .string ⟨#[]⟩, .int .i64 0, .bool false] 97) := ⟨_, rfl⟩
  have hs1 : W1.heap.size = w.heap.size + 1 := by rw [hW1]; simp
  have hb1 : Below w.heap.size w W1 := by rw [hW1]; exact (Below.refl _ _).alloc (Nat.le_refl _) _
  have hb0 : Below w.heap.size w W := by rw [hW]; exact hb1.alloc hb1.size _
  obtain ⟨qy, hqy⟩ : ∃ q, q = w.heap.size := ⟨_, rfl⟩
  obtain ⟨qx, hqx⟩ : ∃ q, q = w.heap.size + 1 := ⟨_, rfl⟩
  have HY0 : Hid (Blk W qy 97 [.int .i64 0, .int .i64 0, .slice none 0 0, .string ⟨#[]⟩, .int .i64 0, .string ⟨#[]⟩, .int .i64 0, .bool false]) := by rw [hqy, hW, hW1]; exact (Blk.new w _ _).alloc _
  have HX0 : Hid (Blk W qx 97 [.int .i64 0, .int .i64 0, .slice none 0 0, .string ⟨#[]⟩, .int .i64 0, .string ⟨#[]⟩, .int .i64 0, .bool false]) := by rw [hqx, hW, ← hs1]; exact Blk.new W1 _ _
  have HLT := hid h.lt
  have HR0 := hid (h.far HLT.out hb0)
  have HT0 : Hid (Turns (fun i => i = rb) w W) := Turns.of_below hb0 (Nat.le_refl _)
  have HW : Hid (W = (w.alloc (.cells #[.int .i64 0, .int .i64 0, .slice none 0 0, .string ⟨#[]⟩, .int .i64 0, .string ⟨#[]⟩, .int .i64 0, .bool false] 97)).alloc (.cells #[.int .i64 0, .int .i64 0, .slice none 0 0, .string ⟨#[]⟩, .int .i64 0, .string ⟨#[]⟩, .int .i64 0, .bool false] 97)) := by show _ = _; rw [hW, hW1]
  have HQY := hid hqy
  have HQX := hid hqx
  have HNE : Hid (qx ≠ rb ∧ qy ≠ rb ∧ qy ≠ qx ∧ w.heap.size ≤ qx ∧ w.heap.size ≤ qy) := by have := HLT.out; exact ⟨by omega, by omega, by omega, by omega, by omega⟩
  have HC0 := hid (HR0.out.number 6 (by decide))
  clear h hW hW1 hs1 hb1 hb0 hqy hqx
  go_enter Tryz.func53, Tryz.ntmps53
  go_wp2_with fail
  rw [← HW.out, ← HQX.out, ← HQY.out]
  refine HC0.out.mono ?_
  rintro e u0 ⟨⟨y0, rfl, hy0, hg0⟩, hr0, ht0⟩
  have HG0 := hid hg0
  have HI0 := hid hy0
  clear hg0 hy0
  have hx0 := ht0.blk HX0.out HNE.out.1
  have hyy0 := ht0.blk HY0.out HNE.out.2.1
  have s0 := hx0.cell (i := 0) rfl
  have f0 := hx0.frozen 0
  obtain ⟨V1, hV1⟩ : ∃ V, V = u0.setCell ⟨qx, 0, none⟩ (.int .i64 y0) := ⟨_, rfl⟩
  have hs0 : Turns (fun i => i = qx) u0 V1 := by rw [hV1]; exact turns_ownQ (Turns.refl _ _)
  have HX1 := hid (hx0.set 0 (.int .i64 y0))
  rw [← hV1] at HX1
  have HY1 := hid (hs0.blk hyy0 HNE.out.2.2.1)
  have HR1 : Hid (RqAt B V1 rb bs _) := hid (hr0.far HLT.out (by rw [hV1]; exact below_setQ _ HNE.out.2.2.2.1 _))
  have HT1 : Hid (Turns (fun i => i = rb) w V1) := (turns_oneQ HT0.out ht0).trans hs0 (fun i hi => .inr (by rw [hi]; exact HNE.out.2.2.2.1))
  clear hx0 hyy0 hs0 hr0 ht0 HX0 HY0 HR0 HT0 HC0
  have HC1 := hid (HR1.out.number 2147483647 (by decide))
  go_wp2_with fail
  rw [← hV1]
  clear hV1 s0 f0
  refine HC1.out.mono ?_
  rintro e u1 ⟨⟨y1, rfl, hy1, hg1⟩, hr1, ht1⟩
  have HG1 := hid hg1
  have HI1 := hid hy1
  clear hg1 hy1
  have hx1 := ht1.blk HX1.out HNE.out.1
  have hyy1 := ht1.blk HY1.out HNE.out.2.1
  have s1 := hx1.cell (i := 1) rfl
  have f1 := hx1.frozen 1
  obtain ⟨V2, hV2⟩ : ∃ V, V = u1.setCell ⟨qx, 1, none⟩ (.int .i64 y1) := ⟨_, rfl⟩
  have hs1 : Turns (fun i => i = qx) u1 V2 := by rw [hV2]; exact turns_ownQ (Turns.refl _ _)
  have HX2 := hid (hx1.set 1 (.int .i64 y1))
  rw [← hV2] at HX2
  have HY2 := hid (hs1.blk hyy1 HNE.out.2.2.1)
  have HR2 : Hid (RqAt B V2 rb bs _) := hid (hr1.far HLT.out (by rw [hV2]; exact below_setQ _ HNE.out.2.2.2.1 _))
  have HT2 : Hid (Turns (fun i => i = rb) w V2) := (turns_oneQ HT1.out ht1).trans hs1 (fun i hi => .inr (by rw [hi]; exact HNE.out.2.2.2.1))
  clear hx1 hyy1 hs1 hr1 ht1 HX1 HY1 HR1 HT1 HC1
  have HC2 := hid (HR2.out.vector)
  go_wp2_with fail
  rw [← hV2]
  clear hV2 s1 f1
  refine HC2.out.mono ?_
  rintro e u2 ⟨⟨a2, c2, y2, rfl, hg2, hn2, hn2b⟩, hr2, ht2⟩
  have HG2 := hid hg2
  have HV2 := hid hn2
  obtain ⟨N2, HN2⟩ : ∃ n, Hid (y2.length = n) := ⟨_, hid rfl⟩
  rw [HN2.out]
  have HB2 : Hid (∀ b off, a2 = some ⟨b, off, none⟩ → y2 ≠ [] → w.heap.size ≤ b) := fun b off e hne => Nat.le_trans HT2.out.size (hn2b b off e hne)
  clear hg2 hn2 hn2b
  have hx2 := ht2.blk HX2.out HNE.out.1
  have hyy2 := ht2.blk HY2.out HNE.out.2.1
  have s2 := hx2.cell (i := 2) rfl
  have f2 := hx2.frozen 2
  obtain ⟨V3, hV3⟩ : ∃ V, V = u2.setCell ⟨qx, 2, none⟩ (.slice a2 N2 c2) := ⟨_, rfl⟩
  have hs2 : Turns (fun i => i = qx) u2 V3 := by rw [hV3]; exact turns_ownQ (Turns.refl _ _)
  have HX3 := hid (hx2.set 2 (.slice a2 N2 c2))
  rw [← hV3] at HX3
  have HY3 := hid (hs2.blk hyy2 HNE.out.2.2.1)
  have HR3 : Hid (RqAt B V3 rb bs _) := hid (hr2.far HLT.out (by rw [hV3]; exact below_setQ _ HNE.out.2.2.2.1 _))
  have HT3 : Hid (Turns (fun i => i = rb) w V3) := (turns_oneQ HT2.out ht2).trans hs2 (fun i hi => .inr (by rw [hi]; exact HNE.out.2.2.2.1))
  have HV2 := hid (HV2.out.kept hx2 (by decide) hs2)
  clear hx2 hyy2 hs2 hr2 ht2 HX2 HY2 HR2 HT2 HC2
  have HC3 := hid (HR3.out.name)
  go_wp2_with fail
  rw [← hV3]
  clear hV3 s2 f2
  refine HC3.out.mono ?_
  rintro e u3 ⟨⟨y3, rfl, hy3, hg3⟩, hr3, ht3⟩
  have HG3 := hid hg3
  have HI3 := hid hy3
  clear hg3 hy3
  have HV2 := hid (HR3.out.hn HV2.out ht3)
  have hx3 := ht3.blk HX3.out HNE.out.1
  have hyy3 := ht3.blk HY3.out HNE.out.2.1
  have s3 := hx3.cell (i := 3) rfl
  have f3 := hx3.frozen 3
  obtain ⟨V4, hV4⟩ : ∃ V, V = u3.setCell ⟨qx, 3, none⟩ (.string y3) := ⟨_, rfl⟩
  have hs3 : Turns (fun i => i = qx) u3 V4 := by rw [hV4]; exact turns_ownQ (Turns.refl _ _)
  have HX4 := hid (hx3.set 3 (.string y3))
  rw [← hV4] at HX4
  have HY4 := hid (hs3.blk hyy3 HNE.out.2.2.1)
  have HR4 : Hid (RqAt B V4 rb bs _) := hid (hr3.far HLT.out (by rw [hV4]; exact below_setQ _ HNE.out.2.2.2.1 _))
  have HT4 : Hid (Turns (fun i => i = rb) w V4) := (turns_oneQ HT3.out ht3).trans hs3 (fun i hi => .inr (by rw [hi]; exact HNE.out.2.2.2.1))
  have HV2 := hid (HV2.out.kept hx3 (by decide) hs3)
  clear hx3 hyy3 hs3 hr3 ht3 HX3 HY3 HR3 HT3 HC3
  have HC4 := hid (HR4.out.number 2147483647 (by decide))
  go_wp2_with fail
  rw [← hV4]
  clear hV4 s3 f3
  refine HC4.out.mono ?_
  rintro e u4 ⟨⟨y4, rfl, hy4, hg4⟩, hr4, ht4⟩
  have HG4 := hid hg4
  have HI4 := hid hy4
  clear hg4 hy4
  have HV2 := hid (HR4.out.hn HV2.out ht4)
  have hx4 := ht4.blk HX4.out HNE.out.1
  have hyy4 := ht4.blk HY4.out HNE.out.2.1
  have s4 := hx4.cell (i := 4) rfl
  have f4 := hx4.frozen 4
  obtain ⟨V5, hV5⟩ : ∃ V, V = u4.setCell ⟨qx, 4, none⟩ (.int .i64 y4) := ⟨_, rfl⟩
  have hs4 : Turns (fun i => i = qx) u4 V5 := by rw [hV5]; exact turns_ownQ (Turns.refl _ _)
  have HX5 := hid (hx4.set 4 (.int .i64 y4))
  rw [← hV5] at HX5
  have HY5 := hid (hs4.blk hyy4 HNE.out.2.2.1)
  have HR5 : Hid (RqAt B V5 rb bs _) := hid (hr4.far HLT.out (by rw [hV5]; exact below_setQ _ HNE.out.2.2.2.1 _))
  have HT5 : Hid (Turns (fun i => i = rb) w V5) := (turns_oneQ HT4.out ht4).trans hs4 (fun i hi => .inr (by rw [hi]; exact HNE.out.2.2.2.1))
  have HV2 := hid (HV2.out.kept hx4 (by decide) hs4)
  clear hx4 hyy4 hs4 hr4 ht4 HX4 HY4 HR4 HT4 HC4
  have HC5 := hid (HR5.out.name)
  go_wp2_with fail
  rw [← hV5]
  clear hV5 s4 f4
  refine HC5.out.mono ?_
  rintro e u5 ⟨⟨y5, rfl, hy5, hg5⟩, hr5, ht5⟩
  have HG5 := hid hg5
  have HI5 := hid hy5
  clear hg5 hy5
  have HV2 := hid (HR5.out.hn HV2.out ht5)
  have hx5 := ht5.blk HX5.out HNE.out.1
  have hyy5 := ht5.blk HY5.out HNE.out.2.1
  have s5 := hx5.cell (i := 5) rfl
  have f5 := hx5.frozen 5
  obtain ⟨V6, hV6⟩ : ∃ V, V = u5.setCell ⟨qx, 5, none⟩ (.string y5) := ⟨_, rfl⟩
  have hs5 : Turns (fun i => i = qx) u5 V6 := by rw [hV6]; exact turns_ownQ (Turns.refl _ _)
  have HX6 := hid (hx5.set 5 (.string y5))
  rw [← hV6] at HX6
  have HY6 := hid (hs5.blk hyy5 HNE.out.2.2.1)
  have HR6 : Hid (RqAt B V6 rb bs _) := hid (hr5.far HLT.out (by rw [hV6]; exact below_setQ _ HNE.out.2.2.2.1 _))
  have HT6 : Hid (Turns (fun i => i = rb) w V6) := (turns_oneQ HT5.out ht5).trans hs5 (fun i hi => .inr (by rw [hi]; exact HNE.out.2.2.2.1))
  have HV2 := hid (HV2.out.kept hx5 (by decide) hs5)
  clear hx5 hyy5 hs5 hr5 ht5 HX5 HY5 HR5 HT5 HC5
  have HC6 := hid (HR6.out.number 1000 (by decide))
  go_wp2_with fail
  rw [← hV6]
  clear hV6 s5 f5
  refine HC6.out.mono ?_
  rintro e u6 ⟨⟨y6, rfl, hy6, hg6⟩, hr6, ht6⟩
  have HG6 := hid hg6
  have HI6 := hid hy6
  clear hg6 hy6
  have HV2 := hid (HR6.out.hn HV2.out ht6)
  have hx6 := ht6.blk HX6.out HNE.out.1
  have hyy6 := ht6.blk HY6.out HNE.out.2.1
  have s6 := hx6.cell (i := 6) rfl
  have f6 := hx6.frozen 6
  obtain ⟨V7, hV7⟩ : ∃ V, V = u6.setCell ⟨qx, 6, none⟩ (.int .i64 y6) := ⟨_, rfl⟩
  have hs6 : Turns (fun i => i = qx) u6 V7 := by rw [hV7]; exact turns_ownQ (Turns.refl _ _)
  have HX7 := hid (hx6.set 6 (.int .i64 y6))
  rw [← hV7] at HX7
  have HY7 := hid (hs6.blk hyy6 HNE.out.2.2.1)
  have HR7 : Hid (RqAt B V7 rb bs _) := hid (hr6.far HLT.out (by rw [hV7]; exact below_setQ _ HNE.out.2.2.2.1 _))
  have HT7 : Hid (Turns (fun i => i = rb) w V7) := (turns_oneQ HT6.out ht6).trans hs6 (fun i hi => .inr (by rw [hi]; exact HNE.out.2.2.2.1))
  have HV2 := hid (HV2.out.kept hx6 (by decide) hs6)
  clear hx6 hyy6 hs6 hr6 ht6 HX6 HY6 HR6 HT6 HC6
  have HC7 := hid (HR7.out.number 1 (by decide))
  go_wp2_with fail
  rw [← hV7]
  clear hV7 s6 f6
  refine HC7.out.mono ?_
  rintro e u7 ⟨⟨y7, rfl, hy7, hg7⟩, hr7, ht7⟩
  have HG7 := hid hg7
  clear hg7 hy7
  obtain ⟨T7, HF7⟩ : ∃ t : Bool, Hid (decide (y7 = 1) = t) := ⟨_, hid rfl⟩
  have hfl7 : (y7 == 1) = T7 := by rw [← HF7.out]; exact Bool.eq_iff_iff.2 (by simp)
  have HV2 := hid (HR7.out.hn HV2.out ht7)
  have hx7 := ht7.blk HX7.out HNE.out.1
  have hyy7 := ht7.blk HY7.out HNE.out.2.1
  have s7 := hx7.cell (i := 7) rfl
  have f7 := hx7.frozen 7
  obtain ⟨V8, hV8⟩ : ∃ V, V = u7.setCell ⟨qx, 7, none⟩ (.bool T7) := ⟨_, rfl⟩
  have hs7 : Turns (fun i => i = qx) u7 V8 := by rw [hV8]; exact turns_ownQ (Turns.refl _ _)
  have HX8 := hid (hx7.set 7 (.bool T7))
  rw [← hV8] at HX8
  have HY8 := hid (hs7.blk hyy7 HNE.out.2.2.1)
  have HR8 : Hid (RqAt B V8 rb bs _) := hid (hr7.far HLT.out (by rw [hV8]; exact below_setQ _ HNE.out.2.2.2.1 _))
  have HT8 : Hid (Turns (fun i => i = rb) w V8) := (turns_oneQ HT7.out ht7).trans hs7 (fun i hi => .inr (by rw [hi]; exact HNE.out.2.2.2.1))
  have HV2 := hid (HV2.out.kept hx7 (by decide) hs7)
  clear hx7 hyy7 hs7 hr7 ht7 HX7 HY7 HR7 HT7 HC7
  obtain ⟨W3, hW3⟩ : ∃ V, V = stQ8 V8 qy (.int .i64 y0) (.int .i64 y1) (.slice a2 N2 c2) (.string y3) (.int .i64 y4) (.string y5) (.int .i64 y6) (.bool T7) := ⟨_, rfl⟩
  have hk9 : Blk W3 qy 97 [.int .i64 y0, .int .i64 y1, .slice a2 N2 c2, .string y3, .int .i64 y4, .string y5, .int .i64 y6, .bool T7] := by rw [hW3]; exact stQ8_blk HY8.out _ _ _ _ _ _ _ _ 
  have hT3 : Turns (fun i => i = qy) V8 W3 := by rw [hW3]; exact stQ8_turns _ _ _ _ _ _ _ _ _ _ 
  have HV2 := hid (HV2.out.kept HY8.out (by decide) hT3)
  have HFI : Hid (PqEvent B w rb bs st (.returned (.agg #[.int .i64 y0, .int .i64 y1, .slice a2 N2 c2, .string y3, .int .i64 y4, .string y5, .int .i64 y6, .bool T7])) W3) := by
    refine ⟨⟨y0, y1, a2, c2, y2, y3, y4, y5, y6, y7, by rw [HN2.out, HF7.out], HG0.out, HI0.out, HG1.out, HI1.out, HG2.out, HV2.out, HB2.out, HG3.out, HI3.out, HG4.out, HI4.out, HG5.out, HI5.out, HG6.out, HI6.out, HG7.out⟩, HR8.out.far HLT.out (by rw [hW3]; exact (stQ8_turns _ _ _ _ _ _ _ _ _ _ ).below (fun i hi => by rw [hi]; exact HNE.out.2.2.2.2) HT8.out.size), HT8.out.trans hT3 (fun i hi => .inr (by rw [hi]; exact HNE.out.2.2.2.2))⟩
  have k0 := hk9.cell (i := 0) rfl
  have k1 := hk9.cell (i := 1) rfl
  have k2 := hk9.cell (i := 2) rfl
  have k3 := hk9.cell (i := 3) rfl
  have k4 := hk9.cell (i := 4) rfl
  have k5 := hk9.cell (i := 5) rfl
  have k6 := hk9.cell (i := 6) rfl
  have k7 := hk9.cell (i := 7) rfl
  have hxx := HX8.out
  have hyx := HY8.out
  have e0 := hyx.cell (i := 0) rfl
  have g0 := hyx.frozen 0
  have v0 := hxx.cell (i := 0) rfl
  have e1 := hyx.cell (i := 1) rfl
  have g1 := hyx.frozen 1
  have v1 := hxx.cell (i := 1) rfl
  have e2 := hyx.cell (i := 2) rfl
  have g2 := hyx.frozen 2
  have v2 := hxx.cell (i := 2) rfl
  have e3 := hyx.cell (i := 3) rfl
  have g3 := hyx.frozen 3
  have v3 := hxx.cell (i := 3) rfl
  have e4 := hyx.cell (i := 4) rfl
  have g4 := hyx.frozen 4
  have v4 := hxx.cell (i := 4) rfl
  have e5 := hyx.cell (i := 5) rfl
  have g5 := hyx.frozen 5
  have v5 := hxx.cell (i := 5) rfl
  have e6 := hyx.cell (i := 6) rfl
  have g6 := hyx.frozen 6
  have v6 := hxx.cell (i := 6) rfl
  have e7 := hyx.cell (i := 7) rfl
  have g7 := hyx.frozen 7
  have v7 := hxx.cell (i := 7) rfl
  have hxy : qx ≠ qy := fun e => HNE.out.2.2.1 e.symm
  have hyx2 : qy ≠ qx := HNE.out.2.2.1
  clear hk9 hT3 hxx hyx
  rw [hV8] at e0 g0 v0 e1 g1 v1 e2 g2 v2 e3 g3 v3 e4 g4 v4 e5 g5 v5 e6 g6 v6 e7 g7 v7
  rw [hV8] at hW3
  go_wp2
  unfold stQ8 at hW3
  rw [← hW3]
  (try simp only [Exit.inBlock, Exit.then])
  refine bodyPost_ret (v := .agg #[.int .i64 y0, .int .i64 y1, .slice a2 N2 c2, .string y3, .int .i64 y4, .string y5, .int .i64 y6, .bool T7]) ?_ rfl HFI.out
  rw [results_cell1Q rfl]
  go_simp
end Go.Proofs.YtfmnbehopdmahaaGreat
/-
  pannierref01's reader: ballot, seal, event as one; entry.
-/
namespace Go.Proofs.YtfmnbehopdmahaaGreat
open Go.RowKit Go.Maps

theorem i64_ofQ {y : Int} {m : Int} (h : 0 ≤ y ∧ y ≤ m) (hm : m ≤ 9223372036854775807) : I64 y := by unfold I64; exact ⟨by omega, by omega⟩
section
variable {B : Nat} {w : World} {rb : Nat} {bs : List Int} {st : Option (List Int)}
theorem RqAt.ballotR (h : RqAt B w rb bs st) : Calls Tryz.prog 50 #[.pointer (some ⟨rb, 0, none⟩)] w fun e w' => (∃ y z : Int, e = .returned (.agg #[.int .i64 y, .int .i64 z]) ∧ (I64 y ∧ I64 z) ∧ Got st pBal (y, z)) ∧ RqAt B w' rb bs (nxt st pBal) ∧ Turns (fun i => i = rb) w w' := by
  refine h.pqBal.mono ?_
  rintro e w' ⟨⟨y, z, he, hg, hi, hg2, hi2⟩, hr, ht⟩
  refine ⟨⟨y, z, he, ⟨i64_ofQ hi (by decide), i64_ofQ hi2 (by decide)⟩, got_seq hg hg2⟩, ?_, ht⟩
  unfold pBal
  rw [← nxt_seq]
  exact hr
theorem RqAt.sealR (h : RqAt B w rb bs st) : Calls Tryz.prog 82 #[.pointer (some ⟨rb, 0, none⟩)] w fun e w' => (∃ (t s : ByteArray) (q : Int) (a : Option Addr) (c : Nat) (y : List Int), e = .returned (.agg #[.string t, .string s, .int .i64 q, .slice a y.length c]) ∧ Got st pSeal ⟨false, t, s, q, y⟩ ∧ HN w' a c y ∧ (∀ b off, a = some ⟨b, off, none⟩ → y ≠ [] → w.heap.size ≤ b) ∧ I64 q ∧ t.size ≤ 32 ∧ s.size ≤ 32) ∧ RqAt B w' rb bs (nxt st pSeal) ∧ Turns (fun i => i = rb) w w' := by
  refine h.pqSeal.mono ?_
  rintro e w' ⟨⟨t, s, q, a, c, y, he, hg0, hs0, hg1, hs1, hg2, hi2, hg3, hv, hb⟩, hr, ht⟩
  refine ⟨⟨t, s, q, a, c, y, he, got_map (fun t : ByteArray × ByteArray × Int × List Int => (⟨false, t.1, t.2.1, t.2.2.1, t.2.2.2⟩ : En)) (got_seq hg0 (got_seq hg1 (got_seq hg2 hg3))), hv, hb, i64_ofQ hi2 (by decide), hs0, hs1⟩, ?_, ht⟩
  unfold pSeal
  rw [nxt_map, ← nxt_seq, ← nxt_seq, ← nxt_seq]
  exact hr
theorem RqAt.eventR (h : RqAt B w rb bs st) : Calls Tryz.prog 53 #[.pointer (some ⟨rb, 0, none⟩)] w fun e w' => (∃ (y0 y1 : Int) (a : Option Addr) (c : Nat) (y : List Int) (s : ByteArray) (y4 : Int) (k : ByteArray) (y6 : Int) (t : Bool), e = .returned (.agg #[.int .i64 y0, .int .i64 y1, .slice a y.length c, .string s, .int .i64 y4, .string k, .int .i64 y6, .bool t]) ∧ Got st pEvent ⟨y0, y1, y, s, y4, k, y6, t⟩ ∧ HN w' a c y ∧ (∀ b off, a = some ⟨b, off, none⟩ → y ≠ [] → w.heap.size ≤ b) ∧ I64 y0 ∧ I64 y1 ∧ I64 y4 ∧ I64 y6 ∧ s.size ≤ 32 ∧ k.size ≤ 32) ∧ RqAt B w' rb bs (nxt st pEvent) ∧ Turns (fun i => i = rb) w w' := by
  refine h.pqEvent.mono ?_
  rintro e w' ⟨⟨y0, y1, a, c, y, s, y4, k, y6, y7, he, hg0, hi0, hg1, hi1, hg2, hv, hb, hg3, hs3, hg4, hi4, hg5, hs5, hg6, hi6, hg7⟩, hr, ht⟩
  have h7 := got_map (fun x : Int => decide (x = 1)) hg7
  refine ⟨⟨y0, y1, a, c, y, s, y4, k, y6, decide (y7 = 1), he, got_map (fun t : Int × Int × List Int × ByteArray × Int × ByteArray × Int × Bool => (⟨t.1, t.2.1, t.2.2.1, t.2.2.2.1, t.2.2.2.2.1, t.2.2.2.2.2.1, t.2.2.2.2.2.2.1, t.2.2.2.2.2.2.2⟩ : Ev)) (got_seq hg0 (got_seq hg1 (got_seq hg2 (got_seq hg3 (got_seq hg4 (got_seq hg5 (got_seq hg6 h7))))))), hv, hb, i64_ofQ hi0 (by decide), i64_ofQ hi1 (by decide), i64_ofQ hi4 (by decide), i64_ofQ hi6 (by decide), hs3, hs5⟩, ?_, ht⟩
  unfold pEvent pBool
  rw [nxt_map, ← nxt_seq, ← nxt_seq, ← nxt_seq, ← nxt_seq, ← nxt_seq, ← nxt_seq, ← nxt_seq, nxt_map]
  exact hr
end
def stQ5 (w : World) (p : Nat) (v0 v1 v2 v3 v4 : Value) : World := ((((w.setCell ⟨p, 0, none⟩ v0).setCell ⟨p, 1, none⟩ v1).setCell ⟨p, 2, none⟩ v2).setCell ⟨p, 3, none⟩ v3).setCell ⟨p, 4, none⟩ v4
theorem stQ5_blk {w : World} {p : Nat} {t : TypeId} {a0 a1 a2 a3 a4 : Value} (h : Blk w p t [a0, a1, a2, a3, a4]) (v0 v1 v2 v3 v4 : Value) : Blk (stQ5 w p v0 v1 v2 v3 v4) p t [v0, v1, v2, v3, v4] := ((((h.set 0 v0).set 1 v1).set 2 v2).set 3 v3).set 4 v4
theorem stQ5_turns (w : World) (p : Nat) (v0 v1 v2 v3 v4 : Value) : Turns (fun i => i = p) w (stQ5 w p v0 v1 v2 v3 v4) := turns_ownQ (turns_ownQ (turns_ownQ (turns_ownQ (turns_ownQ (Turns.refl _ _)))))
set_option maxRecDepth 1000000 in
set_option maxHeartbeats 4000000 in
theorem RqAt.entryR {B : Nat} {w : World} {rb : Nat} {bs : List Int} {st : Option (List Int)} (h : RqAt B w rb bs st) : Calls Tryz.prog 51 #[.pointer (some ⟨rb, 0, none⟩)] w fun e w' => (∃ (a : Option Addr) (c : Nat) (p : Bool) (t s : ByteArray) (q : Int) (y : List Int), e = .returned (.agg #[.bool p, .string t, .string s, .int .i64 q, .slice a y.length c]) ∧ Got st pEntry ⟨p, t, s, q, y⟩ ∧ HN w' a c y ∧ (∀ b off, a = some ⟨b, off, none⟩ → y ≠ [] → w.heap.size ≤ b) ∧ I64 q ∧ t.size ≤ 32 ∧ s.size ≤ 32) ∧ RqAt B w' rb bs (nxt st pEntry) ∧ Turns (fun i => i = rb) w w' := by
  obtain ⟨W, hW⟩ : ∃ V, V = w.alloc (.cells #[.bool false, .string ⟨#[]⟩, .string ⟨#[]⟩, .int .i64 0, .slice none 0 0] 39) := ⟨_, rfl⟩
  have hb0 : Below w.heap.size w W := by rw [hW]; exact (Below.refl _ _).alloc (Nat.le_refl _) _
  obtain ⟨qy, hqy⟩ : ∃ q, q = w.heap.size := ⟨_, rfl⟩
  have HY0 : Hid (Blk W qy 39 [.bool false, .string ⟨#[]⟩, .string ⟨#[]⟩, .int .i64 0, .slice none 0 0]) := by rw [hqy, hW]; exact Blk.new w _ _
  have HLT := hid h.lt
  have HR0 := hid (h.far HLT.out hb0)
  have HT0 : Hid (Turns (fun i => i = rb) w W) := Turns.of_below hb0 (Nat.le_refl _)
  have HW := hid hW
  have HQY := hid hqy
  have HNE : Hid (qy ≠ rb ∧ w.heap.size ≤ qy) := by have := HLT.out; exact ⟨by omega, by omega⟩
  have HC0 := hid (HR0.out.number 1 (by decide))
  clear h hW hb0 hqy
  go_enter Tryz.func51, Tryz.ntmps51
  go_wp2_with fail
  rw [← HW.out, ← HQY.out]
  refine HC0.out.mono ?_
  rintro e u0 ⟨⟨y0, rfl, hy0, hg0⟩, hr0, ht0⟩
  have hgb := got_map (fun x : Int => decide (x = 1)) hg0
  have hrb : RqAt B u0 rb bs (nxt st pBool) := by unfold pBool; rw [nxt_map]; exact hr0
  have HRB := hid hrb
  have HGB : Hid (Got st pBool (decide (y0 = 1))) := hgb
  have HYU := hid (ht0.blk HY0.out HNE.out.1)
  have HTU := hid (turns_oneQ HT0.out ht0)
  clear hy0 hg0 hr0 ht0 hgb hrb HC0
  by_cases h1 : y0 = 1
  · subst h1
    have HG1 : Hid (Got st pBool true) := HGB.out
    obtain ⟨hn, hg⟩ := entry_yes HG1.out
    obtain ⟨W3, hW3⟩ : ∃ V, V = stQ5 u0 qy (.bool true) (.string ⟨#[]⟩) (.string ⟨#[]⟩) (.int .i64 0) (.slice none 0 0) := ⟨_, rfl⟩
    have hk9 : Blk W3 qy 39 [.bool true, .string ⟨#[]⟩, .string ⟨#[]⟩, .int .i64 0, .slice none 0 0] := by rw [hW3]; exact stQ5_blk HYU.out _ _ _ _ _
    have hT3 : Turns (fun i => i = qy) u0 W3 := by rw [hW3]; exact stQ5_turns _ _ _ _ _ _ _
    have HFI : Hid ((∃ (a : Option Addr) (c : Nat) (p : Bool) (t s : ByteArray) (q : Int) (y : List Int), (Ending.returned (.agg #[.bool true, .string ⟨#[]⟩, .string ⟨#[]⟩, .int .i64 0, .slice none 0 0]) : Ending) = .returned (.agg #[.bool p, .string t, .string s, .int .i64 q, .slice a y.length c]) ∧ Got st pEntry ⟨p, t, s, q, y⟩ ∧ HN W3 a c y ∧ (∀ b off, a = some ⟨b, off, none⟩ → y ≠ [] → w.heap.size ≤ b) ∧ I64 q ∧ t.size ≤ 32 ∧ s.size ≤ 32) ∧ RqAt B W3 rb bs (nxt st pEntry) ∧ Turns (fun i => i = rb) w W3) := by
      refine ⟨⟨none, 0, true, ⟨#[]⟩, ⟨#[]⟩, 0, [], rfl, hg, hn_nilE _, fun b off e => (by cases e), by unfold I64; decide, Nat.zero_le _, Nat.zero_le _⟩, ?_, HTU.out.trans hT3 (fun i hi => .inr (by rw [hi]; exact HNE.out.2))⟩
      rw [hn]
      exact HRB.out.far HLT.out (hT3.below (fun i hi => by rw [hi]; exact HNE.out.2) HTU.out.size)
    have k0 := hk9.cell (i := 0) rfl
    have k1 := hk9.cell (i := 1) rfl
    have k2 := hk9.cell (i := 2) rfl
    have k3 := hk9.cell (i := 3) rfl
    have k4 := hk9.cell (i := 4) rfl
    have hyx := HYU.out
    have e0 := hyx.cell (i := 0) rfl
    have e1 := hyx.cell (i := 1) rfl
    have e2 := hyx.cell (i := 2) rfl
    have e3 := hyx.cell (i := 3) rfl
    have e4 := hyx.cell (i := 4) rfl
    have g0 := hyx.frozen 0
    have g1 := hyx.frozen 1
    have g2 := hyx.frozen 2
    have g3 := hyx.frozen 3
    have g4 := hyx.frozen 4
    clear hk9 hT3 hyx hn hg
    go_wp2
    unfold stQ5 at hW3
    rw [← hW3]
    (try simp only [Exit.inBlock, Exit.then])
    refine bodyPost_ret (v := .agg #[.bool true, .string ⟨#[]⟩, .string ⟨#[]⟩, .int .i64 0, .slice none 0 0]) ?_ rfl HFI.out
    rw [results_cell1Q rfl]
    go_simp
  · have h1b : (y0 == 1) = false := beq_eq_false_iff_ne.2 h1
    have HG1 : Hid (Got st pBool false) := by have h2 := HGB.out; rw [decide_eq_false h1] at h2; exact hid h2
    obtain ⟨hn, hg⟩ := entry_no HG1.out
    have HN1 := hid hn
    have HGG := hid hg
    have HC1 := hid (HRB.out.sealR)
    clear hn hg h1
    go_wp2_with fail
    refine HC1.out.mono ?_
    rintro e u1 ⟨⟨t, s, q, a, c, y, rfl, hgs, hv, hb, hq, hz1, hz2⟩, hr1, ht1⟩
    obtain ⟨N, HNN⟩ : ∃ n, Hid (y.length = n) := ⟨_, hid rfl⟩
    rw [HNN.out]
    have hyx := ht1.blk HYU.out HNE.out.1
    obtain ⟨W3, hW3⟩ : ∃ V, V = stQ5 u1 qy (.bool false) (.string t) (.string s) (.int .i64 q) (.slice a N c) := ⟨_, rfl⟩
    have hk9 : Blk W3 qy 39 [.bool false, .string t, .string s, .int .i64 q, .slice a N c] := by rw [hW3]; exact stQ5_blk hyx _ _ _ _ _
    have hT3 : Turns (fun i => i = qy) u1 W3 := by rw [hW3]; exact stQ5_turns _ _ _ _ _ _ _
    have HFI : Hid ((∃ (a' : Option Addr) (c' : Nat) (p : Bool) (t' s' : ByteArray) (q' : Int) (y' : List Int), (Ending.returned (.agg #[.bool false, .string t, .string s, .int .i64 q, .slice a N c]) : Ending) = .returned (.agg #[.bool p, .string t', .string s', .int .i64 q', .slice a' y'.length c']) ∧ Got st pEntry ⟨p, t', s', q', y'⟩ ∧ HN W3 a' c' y' ∧ (∀ b off, a' = some ⟨b, off, none⟩ → y' ≠ [] → w.heap.size ≤ b) ∧ I64 q' ∧ t'.size ≤ 32 ∧ s'.size ≤ 32) ∧ RqAt B W3 rb bs (nxt st pEntry) ∧ Turns (fun i => i = rb) w W3) := by
      have ht2 := turns_oneQ HTU.out ht1
      refine ⟨⟨a, c, false, t, s, q, y, by rw [HNN.out], HGG.out _ hgs, hv.kept hyx (by decide) hT3, fun b off e hne => Nat.le_trans HTU.out.size (hb b off e hne), hq, hz1, hz2⟩, ?_, ht2.trans hT3 (fun i hi => .inr (by rw [hi]; exact HNE.out.2))⟩
      rw [HN1.out]
      exact hr1.far HLT.out (hT3.below (fun i hi => by rw [hi]; exact HNE.out.2) ht2.size)
    have k0 := hk9.cell (i := 0) rfl
    have k1 := hk9.cell (i := 1) rfl
    have k2 := hk9.cell (i := 2) rfl
    have k3 := hk9.cell (i := 3) rfl
    have k4 := hk9.cell (i := 4) rfl
    have e0 := hyx.cell (i := 0) rfl
    have e1 := hyx.cell (i := 1) rfl
    have e2 := hyx.cell (i := 2) rfl
    have e3 := hyx.cell (i := 3) rfl
    have e4 := hyx.cell (i := 4) rfl
    have g0 := hyx.frozen 0
    have g1 := hyx.frozen 1
    have g2 := hyx.frozen 2
    have g3 := hyx.frozen 3
    have g4 := hyx.frozen 4
    clear hk9 hT3 hyx hgs hv hb hr1 ht1 HC1
    go_wp2
    unfold stQ5 at hW3
    rw [← hW3]
    (try simp only [Exit.inBlock, Exit.then])
    refine bodyPost_ret (v := .agg #[.bool false, .string t, .string s, .int .i64 q, .slice a N c]) ?_ rfl HFI.out
    rw [results_cell1Q rfl]
    go_simp
end Go.Proofs.YtfmnbehopdmahaaGreat
/-
  pannierref01.ReadMsg: its frame; votes and events of a reader that grow.
-/
namespace Go.Proofs.YtfmnbehopdmahaaGreat
open Go.RowKit Go.Maps

def stQ15 (w : World) (p : Nat) (v0 v1 v2 v3 v4 v5 v6 v7 v8 v9 v10 v11 v12 v13 v14 : Value) : World := ((((((((((((((w.setCell ⟨p, 0, none⟩ v0).setCell ⟨p, 1, none⟩ v1).setCell ⟨p, 2, none⟩ v2).setCell ⟨p, 3, none⟩ v3).setCell ⟨p, 4, none⟩ v4).setCell ⟨p, 5, none⟩ v5).setCell ⟨p, 6, none⟩ v6).setCell ⟨p, 7, none⟩ v7).setCell ⟨p, 8, none⟩ v8).setCell ⟨p, 9, none⟩ v9).setCell ⟨p, 10, none⟩ v10).setCell ⟨p, 11, none⟩ v11).setCell ⟨p, 12, none⟩ v12).setCell ⟨p, 13, none⟩ v13).setCell ⟨p, 14, none⟩ v14
theorem stQ15_blk {w : World} {p : Nat} {t : TypeId} {a0 a1 a2 a3 a4 a5 a6 a7 a8 a9 a10 a11 a12 a13 a14 : Value} (h : Blk w p t [a0, a1, a2, a3, a4, a5, a6, a7, a8, a9, a10, a11, a12, a13, a14]) (v0 v1 v2 v3 v4 v5 v6 v7 v8 v9 v10 v11 v12 v13 v14 : Value) : Blk (stQ15 w p v0 v1 v2 v3 v4 v5 v6 v7 v8 v9 v10 v11 v12 v13 v14) p t [v0, v1, v2, v3, v4, v5, v6, v7, v8, v9, v10, v11, v12, v13, v14] := ((((((((((((((h.set 0 v0).set 1 v1).set 2 v2).set 3 v3).set 4 v4).set 5 v5).set 6 v6).set 7 v7).set 8 v8).set 9 v9).set 10 v10).set 11 v11).set 12 v12).set 13 v13).set 14 v14
theorem stQ15_turns (w : World) (p : Nat) (v0 v1 v2 v3 v4 v5 v6 v7 v8 v9 v10 v11 v12 v13 v14 : Value) : Turns (fun i => i = p) w (stQ15 w p v0 v1 v2 v3 v4 v5 v6 v7 v8 v9 v10 v11 v12 v13 v14) := turns_ownQ (turns_ownQ (turns_ownQ (turns_ownQ (turns_ownQ (turns_ownQ (turns_ownQ (turns_ownQ (turns_ownQ (turns_ownQ (turns_ownQ (turns_ownQ (turns_ownQ (turns_ownQ (turns_ownQ (Turns.refl _ _)))))))))))))))
/-- A message under way: reader, message, the answer's cell. -/
structure MidM (w W : World) (rb qx qy : Nat) (bs : List Int) (V : World) (cs : List Value) (s : Option (List Int)) : Prop where
  rq : RqAt w.heap.size V rb bs s
  tur : Turns (fun i => i = rb ∨ i = qx) W V
  bx : Blk V qx 43 cs
  by' : Blk V qy 43 [.int .i64 0, .int .i64 0, .int .i64 0, .int .i64 0, .int .i64 0, .int .i64 0, .bool false, .string ⟨#[]⟩, .string ⟨#[]⟩, .int .i64 0, .slice none 0 0, .slice none 0 0, .slice none 0 0, .slice none 0 0, .int .i64 0]
  ne : rb < qx ∧ qy ≠ qx ∧ qy ≠ rb ∧ qx < W.heap.size
section
variable {w W : World} {rb qx qy : Nat} {bs : List Int} {V V' : World} {cs : List Value} {s s' : Option (List Int)}
theorem MidM.call (h : MidM w W rb qx qy bs V cs s) (hr : RqAt w.heap.size V' rb bs s') (ht : Turns (fun i => i = rb) V V') : MidM w W rb qx qy bs V' cs s' :=
  ⟨hr, h.tur.trans ht (fun _ hi => .inl (.inl hi)), ht.blk h.bx (fun e => by have := h.ne.1; omega), ht.blk h.by' h.ne.2.2.1, h.ne⟩
theorem MidM.set (h : MidM w W rb qx qy bs V cs s) (f : Nat) (v : Value) : MidM w W rb qx qy bs (V.setCell ⟨qx, f, none⟩ v) (cs.set f v) s := by
  have ht : Turns (fun i => i = qx) V (V.setCell ⟨qx, f, none⟩ v) := turns_ownQ (Turns.refl _ _)
  exact ⟨h.rq.far (V := qx) h.ne.1 (below_setQ V (a := ⟨qx, f, none⟩) (Nat.le_refl _) v), h.tur.trans ht (fun _ hi => .inl (.inr hi)), h.bx.set f v, ht.blk h.by' h.ne.2.1, h.ne⟩
theorem MidM.far (h : MidM w W rb qx qy bs V cs s) (hqy : qy < W.heap.size) (hb : Below W.heap.size V V') : MidM w W rb qx qy bs V' cs s := by
  have ht := Turns.of_far hb
  have hl := h.ne.2.2.2
  exact ⟨h.rq.far (V := W.heap.size) (by have := h.ne.1; omega) hb, h.tur.trans ht (fun _ hi => .inr hi), ht.blk h.bx (by omega), ht.blk h.by' (by omega), h.ne⟩
theorem MidM.below (h : MidM w W rb qx qy bs V cs s) (hb : Below V.heap.size V V') : MidM w W rb qx qy bs V' cs s :=
  ⟨h.rq.below hb, h.tur.trans (Turns.of_below (F := fun _ => False) hb (Nat.le_refl _)) (fun _ hf => hf.elim), h.bx.below hb h.bx.lt, h.by'.below hb h.by'.lt, h.ne⟩
theorem RqAt.rblk {B : Nat} (h : RqAt B V rb bs s) : ∃ cs, Blk V rb 104 cs := by
  obtain ⟨_, _, _, _, _, h1, _⟩ := h.blk
  exact ⟨_, h1⟩
theorem MidM.hn (h : MidM w W rb qx qy bs V cs s) {a : Option Addr} {c : Nat} {y : List Int} (hn : HN V a c y) (f : Nat) (v : Value) : HN (V.setCell ⟨qx, f, none⟩ v) a c y := hn.kept h.bx (by decide) (turns_ownQ (Turns.refl _ _))
end
theorem nxt_some {α : Type} {p : Rdr α} {b r : List Int} (h : nxt (some b) p = some r) : ∃ y, p b = some (y, r) := by
  unfold nxt at h
  rw [Option.bind_some] at h
  cases hp : p b with
  | none => rw [hp] at h; cases h
  | some t =>
    rw [hp] at h
    obtain ⟨y, r'⟩ := t
    cases h
    exact ⟨y, rfl⟩
theorem own_blkQ {w : World} {B n sz : Nat} {v : Value} {xs : List Value} {t : TypeId} (h : w.ownsRow B t sz v n xs) {i : Nat} (e : v.ownBlock = some i) : B ≤ i ∧ ∃ cs, Blk w i t cs := by
  rcases h.2 with ⟨h1, _⟩ | ⟨g, cap, cur, h1, hB, hg, _⟩
  · rw [h1] at e; cases e
  · rw [h1] at e
    cases e
    exact ⟨hB, cur.toList, by unfold Blk; exact hg⟩
/-- Votes that are read so far. -/
structure VosQ (W : World) (l : List VoM) (vo : Option Addr) (vc : Nat) (V : World) : Prop where
  all : AllVo V l
  num : ∀ y ∈ l, HN V y.en.ao y.en.cap y.en.e.cut
  row : V.ownsRow W.heap.size 73 8 (.slice vo l.length vc) l.length (flatVo l)
theorem vosQ_nil (W V : World) : VosQ W [] none 0 V := ⟨fun y hy => (by cases hy), fun y hy => (by cases hy), World.ownsRow_nil _ _ _ _⟩
/-- Other blocks are turned. -/
theorem VosQ.turned {F : Nat → Prop} {W V V' : World} {l : List VoM} {vo : Option Addr} {vc : Nat} (h : VosQ W l vo vc V) (ht : Turns F V V') (hi : ∀ i, F i → ∀ cs, ¬ Blk V i 3 cs) (hv : ∀ k, (Value.slice vo l.length vc).ownBlock = some k → ¬ F k) : VosQ W l vo vc V' := by
  have hn : ∀ y ∈ l, HN V' y.en.ao y.en.cap y.en.e.cut := fun y hy => hnK ht (h.num y hy) (fun b off e _ hf => by
    obtain ⟨cs, hc⟩ := (h.num y hy).num b off e
    exact hi b hf cs hc)
  exact ⟨fun y hy => (h.all y hy).at' (hn y hy), hn, ht.row h.row hv⟩
theorem VosQ.old {W V : World} {l : List VoM} {vo : Option Addr} {vc : Nat} (h : VosQ W l vo vc V) : ∀ k, (Value.slice vo l.length vc).ownBlock = some k → W.heap.size ≤ k ∧ k < V.heap.size := fun k hk => ⟨(h.row.lt k hk).1, (h.row.lt k hk).2⟩
theorem VosQ.below {W V V' : World} {l : List VoM} {vo : Option Addr} {vc : Nat} (h : VosQ W l vo vc V) (hb : Below V.heap.size V V') : VosQ W l vo vc V' := h.turned (F := fun _ => False) (Turns.of_below hb (Nat.le_refl _)) (fun _ hf => hf.elim) (fun _ _ hf => hf.elim)
theorem VosQ.blk {W V V' : World} {l : List VoM} {vo : Option Addr} {vc b : Nat} {t : TypeId} {cs : List Value} (h : VosQ W l vo vc V) (hk : Blk V b t cs) (h1 : t ≠ 3) (h2 : t ≠ 73) (ht : Turns (fun i => i = b) V V') : VosQ W l vo vc V' :=
  h.turned ht (fun i hi cs hc => by subst hi; exact blk_neQ hk hc h1 rfl) (fun k hk2 hf => by subst hf; obtain ⟨_, cs', hc⟩ := own_blkQ h.row hk2; exact blk_neQ hk hc h2 rfl)
theorem VosQ.at' {W V : World} {l : List VoM} {vo : Option Addr} {vc : Nat} (h : VosQ W l vo vc V) (hl : l.length ≤ 4096) {w : World} (hw : w.heap.size ≤ W.heap.size) : VosAt w 4096 V vo vc l := by
  obtain ⟨ao, c, e, hc, hh⟩ := heldVo_of_own rfl h.row h.all
  cases e
  refine ⟨⟨hh, h.num⟩, hc, hl, fun b off e => ?_⟩
  obtain ⟨h1, h2⟩ := own_numV h.row (by rw [e])
  exact ⟨Nat.le_trans hw h1, h2⟩
/-- Events that are read so far. -/
structure EvsQ (W : World) (l : List EvM) (vo : Option Addr) (vc : Nat) (V : World) : Prop where
  all : ∀ y ∈ l, EvOk V y
  num : ∀ y ∈ l, HN V y.ao y.cap y.e.deps
  row : V.ownsRow W.heap.size 97 8 (.slice vo l.length vc) l.length (flatE l)
theorem evsQ_nil (W V : World) : EvsQ W [] none 0 V := ⟨fun y hy => (by cases hy), fun y hy => (by cases hy), World.ownsRow_nil _ _ _ _⟩
theorem EvsQ.turned {F : Nat → Prop} {W V V' : World} {l : List EvM} {vo : Option Addr} {vc : Nat} (h : EvsQ W l vo vc V) (ht : Turns F V V') (hi : ∀ i, F i → ∀ cs, ¬ Blk V i 3 cs) (hv : ∀ k, (Value.slice vo l.length vc).ownBlock = some k → ¬ F k) : EvsQ W l vo vc V' := by
  have hn : ∀ y ∈ l, HN V' y.ao y.cap y.e.deps := fun y hy => hnK ht (h.num y hy) (fun b off e _ hf => by
    obtain ⟨cs, hc⟩ := (h.num y hy).num b off e
    exact hi b hf cs hc)
  exact ⟨fun y hy => (h.all y hy).at' (hn y hy), hn, ht.row h.row hv⟩
theorem EvsQ.old {W V : World} {l : List EvM} {vo : Option Addr} {vc : Nat} (h : EvsQ W l vo vc V) : ∀ k, (Value.slice vo l.length vc).ownBlock = some k → W.heap.size ≤ k ∧ k < V.heap.size := fun k hk => ⟨(h.row.lt k hk).1, (h.row.lt k hk).2⟩
theorem EvsQ.below {W V V' : World} {l : List EvM} {vo : Option Addr} {vc : Nat} (h : EvsQ W l vo vc V) (hb : Below V.heap.size V V') : EvsQ W l vo vc V' := h.turned (F := fun _ => False) (Turns.of_below hb (Nat.le_refl _)) (fun _ hf => hf.elim) (fun _ _ hf => hf.elim)
theorem EvsQ.blk {W V V' : World} {l : List EvM} {vo : Option Addr} {vc b : Nat} {t : TypeId} {cs : List Value} (h : EvsQ W l vo vc V) (hk : Blk V b t cs) (h1 : t ≠ 3) (h2 : t ≠ 97) (ht : Turns (fun i => i = b) V V') : EvsQ W l vo vc V' :=
  h.turned ht (fun i hi cs hc => by subst hi; exact blk_neQ hk hc h1 rfl) (fun k hk2 hf => by subst hf; obtain ⟨_, cs', hc⟩ := own_blkQ h.row hk2; exact blk_neQ hk hc h2 rfl)
theorem EvsQ.at' {W V : World} {l : List EvM} {vo : Option Addr} {vc : Nat} (h : EvsQ W l vo vc V) (hl : l.length ≤ 4096) {w : World} (hw : w.heap.size ≤ W.heap.size) : EvsAt w 4096 V vo vc l := by
  obtain ⟨ao, c, e, hc, hh⟩ := heldE_of_own rfl h.row h.all
  cases e
  refine ⟨⟨hh, h.num⟩, hc, hl, fun b off e => ?_⟩
  obtain ⟨h1, h2⟩ := own_numV h.row (by rw [e])
  exact ⟨Nat.le_trans hw h1, h2⟩
/-- One more. -/
theorem VosQ.push {W X6 w7 : World} {l : List VoM} {vo : Option Addr} {vc : Nat} {o : Obj} {v' : Value} {x : VoM} (h : VosQ W l vo vc X6) (hx : VoOk X6 x) (hn : HN X6 x.en.ao x.en.cap x.en.e.cut) (hown : w7.ownsRow W.heap.size 73 8 v' (l.length + 1) (flatVo (l ++ [x]))) (hg : (X6.alloc o).grownBy w7 (Value.slice vo l.length vc).ownBlock) :
    ∃ vo' vc', v' = .slice vo' (l.length + 1) vc' ∧ VosQ W (l ++ [x]) vo' vc' w7 ∧ (∀ a c y, HN X6 a c y → HN w7 a c y) := by
  have hT : Turns (fun i => (Value.slice vo l.length vc).ownBlock = some i) X6 w7 := ((Turns.refl _ X6).alloc _).grown hg (fun k hk => .inl hk)
  have hgo : ∀ a c y, HN X6 a c y → HN w7 a c y := fun a c y hn => hnK hT hn (fun b off e _ hF => by
    obtain ⟨cs, hc⟩ := hn.num b off e
    obtain ⟨_, cs', hc'⟩ := own_blkQ h.row hF
    exact blk_neQ hc' hc (by decide) rfl)
  obtain ⟨vo', vc', hv⟩ := own_sliceC hown
  refine ⟨vo', vc', hv, ⟨fun y hy => ?_, fun y hy => ?_, ?_⟩, hgo⟩
  · rcases List.mem_append.1 hy with hy | hy
    · exact (h.all y hy).at' (hgo _ _ _ (h.num y hy))
    · rw [List.mem_singleton.1 hy]
      exact hx.at' (hgo _ _ _ hn)
  · rcases List.mem_append.1 hy with hy | hy
    · exact hgo _ _ _ (h.num y hy)
    · rw [List.mem_singleton.1 hy]
      exact hgo _ _ _ hn
  · rw [List.length_append]
    rw [hv] at hown
    exact hown
/-- One more. -/
theorem EvsQ.push {W X6 w7 : World} {l : List EvM} {vo : Option Addr} {vc : Nat} {o : Obj} {v' : Value} {x : EvM} (h : EvsQ W l vo vc X6) (hx : EvOk X6 x) (hn : HN X6 x.ao x.cap x.e.deps) (hown : w7.ownsRow W.heap.size 97 8 v' (l.length + 1) (flatE (l ++ [x]))) (hg : (X6.alloc o).grownBy w7 (Value.slice vo l.length vc).ownBlock) :
    ∃ vo' vc', v' = .slice vo' (l.length + 1) vc' ∧ EvsQ W (l ++ [x]) vo' vc' w7 ∧ (∀ a c y, HN X6 a c y → HN w7 a c y) := by
  have hT : Turns (fun i => (Value.slice vo l.length vc).ownBlock = some i) X6 w7 := ((Turns.refl _ X6).alloc _).grown hg (fun k hk => .inl hk)
  have hgo : ∀ a c y, HN X6 a c y → HN w7 a c y := fun a c y hn => hnK hT hn (fun b off e _ hF => by
    obtain ⟨cs, hc⟩ := hn.num b off e
    obtain ⟨_, cs', hc'⟩ := own_blkQ h.row hF
    exact blk_neQ hc' hc (by decide) rfl)
  obtain ⟨vo', vc', hv⟩ := own_sliceC hown
  refine ⟨vo', vc', hv, ⟨fun y hy => ?_, fun y hy => ?_, ?_⟩, hgo⟩
  · rcases List.mem_append.1 hy with hy | hy
    · exact (h.all y hy).at' (hgo _ _ _ (h.num y hy))
    · rw [List.mem_singleton.1 hy]
      exact hx.at' (hgo _ _ _ hn)
  · rcases List.mem_append.1 hy with hy | hy
    · exact hgo _ _ _ (h.num y hy)
    · rw [List.mem_singleton.1 hy]
      exact hgo _ _ _ hn
  · rw [List.length_append]
    rw [hv] at hown
    exact hown
theorem EvsQ.push2 {W X6 w7 : World} {l : List EvM} {vo : Option Addr} {vc : Nat} {v' : Value} {x : EvM} (h : EvsQ W l vo vc X6) (hx : EvOk X6 x) (hn : HN X6 x.ao x.cap x.e.deps) (hown : w7.ownsRow W.heap.size 97 8 v' (l.length + 1) (flatE (l ++ [x]))) (hg : X6.grownBy w7 (Value.slice vo l.length vc).ownBlock) :
    ∃ vo' vc', v' = .slice vo' (l.length + 1) vc' ∧ EvsQ W (l ++ [x]) vo' vc' w7 ∧ (∀ a c y, HN X6 a c y → HN w7 a c y) := by
  have hT : Turns (fun i => (Value.slice vo l.length vc).ownBlock = some i) X6 w7 := (Turns.refl _ X6).grown hg (fun k hk => .inl hk)
  have hgo : ∀ a c y, HN X6 a c y → HN w7 a c y := fun a c y hn => hnK hT hn (fun b off e _ hF => by
    obtain ⟨cs, hc⟩ := hn.num b off e
    obtain ⟨_, cs', hc'⟩ := own_blkQ h.row hF
    exact blk_neQ hc' hc (by decide) rfl)
  obtain ⟨vo', vc', hv⟩ := own_sliceC hown
  refine ⟨vo', vc', hv, ⟨fun y hy => ?_, fun y hy => ?_, ?_⟩, hgo⟩
  · rcases List.mem_append.1 hy with hy | hy
    · exact (h.all y hy).at' (hgo _ _ _ (h.num y hy))
    · rw [List.mem_singleton.1 hy]
      exact hx.at' (hgo _ _ _ hn)
  · rcases List.mem_append.1 hy with hy | hy
    · exact hgo _ _ _ (h.num y hy)
    · rw [List.mem_singleton.1 hy]
      exact hgo _ _ _ hn
  · rw [List.length_append]
    rw [hv] at hown
    exact hown
theorem EvsQ.other {W X6 w7 : World} {l : List EvM} {vo vo6 : Option Addr} {vc vc6 : Nat} {l6 : List VoM} (h : EvsQ W l vo vc X6) (k : VosQ W l6 vo6 vc6 X6) (hg : X6.grownBy w7 (Value.slice vo l.length vc).ownBlock) : VosQ W l6 vo6 vc6 w7 := by
  have hT : Turns (fun i => (Value.slice vo l.length vc).ownBlock = some i) X6 w7 := (Turns.refl _ X6).grown hg (fun k hk => .inl hk)
  refine k.turned hT (fun i hi cs hc => ?_) (fun j hj hf => ?_)
  · obtain ⟨_, cs', hc'⟩ := own_blkQ h.row hi
    exact blk_neQ hc' hc (by decide) rfl
  · obtain ⟨_, cs', hc'⟩ := own_blkQ h.row hf
    obtain ⟨_, cs, hc⟩ := own_blkQ k.row hj
    exact blk_neQ hc' hc (by decide) rfl
end Go.Proofs.YtfmnbehopdmahaaGreat
/-
  append of an event in a region that draws its order.
-/
namespace Go.Proofs.YtfmnbehopdmahaaGreat
open Go.RowKit Go.Maps

/-- The cells of a row of slots. -/
def HeldE8 (w : World) (ao : Option Addr) (xs : List EvM) : Prop :=
  xs = [] ∨ ∃ b off, ao = some ⟨b, off, none⟩ ∧ b < w.heap.size ∧ ∀ j (hj : j < xs.length) c u, xs[j].cells[c]? = some u → w.cell? ⟨b, off + j * 8 + c, none⟩ = some u
theorem HeldE8.below {w w' : World} {ao : Option Addr} {xs : List EvM} (h : HeldE8 w ao xs) (hb : Below w.heap.size w w') : HeldE8 w' ao xs := by
  rcases h with h0 | ⟨b, off, h1, h2, h3⟩
  · exact .inl h0
  · exact .inr ⟨b, off, h1, Nat.lt_of_lt_of_le h2 hb.size, fun j hj c u hu => (hb.cell (p := ⟨b, off + j * 8 + c, none⟩) h2).trans (h3 j hj c u hu)⟩
theorem heldE8_of_own {w : World} {B : Nat} {v : Value} {xs : List EvM} {n : Nat} (hn : xs.length = n) (h : w.ownsRow B 97 8 v n (flatE xs)) : ∃ ao cap, v = .slice ao n cap ∧ n ≤ cap ∧ HeldE8 w ao xs := by
  subst hn
  obtain ⟨eo, cap, rfl, hnc, hc⟩ := own_form8 h
  refine ⟨eo, cap, rfl, hnc, ?_⟩
  by_cases h0 : xs = []
  · exact .inl h0
  · obtain ⟨g, rfl, _, hg, hcell⟩ := hc (List.length_pos_iff.2 h0)
    refine .inr ⟨g, 0, rfl, hg, fun j hj c u hu => ?_⟩
    rw [Nat.zero_add]
    exact hcell _ _ (flatE_get xs j hj c u hu)
theorem HeldE8.news {w : World} {ad : Addr} {xs : List EvM} (h : HeldE8 w (some ad) xs) : ∀ j u, (flatE xs)[j]? = some u → w.cell? (ad.add j) = some u := by
  intro i u hu
  have hlt := (List.getElem?_eq_some_iff.1 hu).1
  rw [flatE_len] at hlt
  rcases h with h0 | ⟨b, off, e, _, h3⟩
  · subst h0
    simp at hlt
  · cases e
    have hj : i / 8 < xs.length := by omega
    have hc : xs[i / 8].cells[i % 8]? = some u := by
      have hlen : i % 8 < xs[i / 8].cells.length := by show _ < 8; omega
      have h4 := flatE_get xs (i / 8) hj (i % 8) _ (List.getElem?_eq_getElem hlen)
      rw [show i / 8 * 8 + i % 8 = i by omega] at h4
      rw [hu] at h4
      rw [List.getElem?_eq_getElem hlen, h4]
    have h5 := h3 (i / 8) hj (i % 8) u hc
    rw [Addr.add_lit]
    rw [show off + i / 8 * 8 + i % 8 = off + i by omega] at h5
    exact h5
theorem flatE8_one (xs : List EvM) : ∀ u ∈ flatE xs, u.oneCell' = true := by
  intro u hu
  obtain ⟨x, _, hx⟩ := List.mem_flatMap.1 hu
  exact ev_one x u hx
/-- append of orders to a row of the call's own, in a region that draws its order. -/
theorem step_append_e8 {ops : Array Oper} {o : Oper} {a : Act} {w : World} {K : Act → World → Prop} {Q : Exit → Act → World → Prop} {E : Prop} (hgd : o.guard = none) (s x : Operand)
    (ho : o.op = .call { callee := .builtin .append, args := #[s, x], argTypes := #[41, 41] })
    (base : Nat) (v : Value) (n : Nat) (ds : List EvM) (hn : ds.length = n) (hs : a.eval s = v) (hown : w.ownsRow base 97 8 v n (flatE ds))
    (ao : Option Addr) (m c : Nat) (xs : List EvM) (hm : xs.length = m) (hx : a.eval x = .slice ao m c) (hh : HeldE8 w ao xs) (hsum : n + m ≤ 100000000) (hbase : base ≤ w.heap.size)
    (h : ∀ bo cp w', w'.ownsRow base 97 8 (.slice bo (n + m) cp) (n + m) (flatE (ds ++ xs)) → Below base w w' → w.grownBy w' v.ownBlock → K (a.put o.dst (.slice bo (n + m) cp)) w') :
    if Region.wanted o (yielded ops a.tmps) = true then Oper.wp Tryz.prog o a w K Q else E := by
  have hw : Region.wanted o (yielded ops a.tmps) = true := by simp [Region.wanted, hgd]
  rw [if_pos hw]
  obtain ⟨iI, hj, hy0, hy1, hy2⟩ := info_parts Tryz.infoEv
  cases ao with
  | none =>
    have hx0 : xs = [] := by
      rcases hh with h0 | ⟨b, off, e, _⟩
      · exact h0
      · cases e
    subst hx0
    obtain rfl : 0 = m := hm
    have hr := run_append_noneI (P := Tryz.prog) w base 41 o.type 97 iI 8 Tryz.underlying41 hj v n c _ hown
    rw [List.append_nil] at h
    simp only [Nat.add_zero] at h
    obtain ⟨eo, cap, hv, _, _⟩ := heldE8_of_own hn hown
    unfold Oper.wp execOp
    simp only [ho, resolve, invoke, builtin, Sem.run_bind, Sem.run_pure, Result.andThen_ok, List.map_toArray, List.map_cons, List.map_nil, hs, hx, hr]
    have := h eo cap w (by rw [← hv]; exact hown) (Below.refl _ _) (World.grownBy.refl _ _)
    rw [← hv] at this
    exact this
  | some ad =>
    obtain ⟨v', w', hr, hown', hgrow, _, _⟩ := run_append_own_at (P := Tryz.prog) w base 41 o.type 97 iI _ 8 96 Tryz.underlying41 hj hy0 hy1 hy2 rfl (by decide) v n (flatE ds) hown ad m c (flatE xs) (by rw [flatE_len, hm]) hh.news (flatE8_one xs) (by unfold maxLen; omega) (by omega) hbase
    unfold Oper.wp execOp
    simp only [ho, resolve, invoke, builtin, Sem.run_bind, Sem.run_pure, Result.andThen_ok, List.map_toArray, List.map_cons, List.map_nil, hs, hx, hr]
    rw [show flatE ds ++ flatE xs = flatE (ds ++ xs) by simp [flatE]] at hown'
    have hb : Below base w w' := (Below.refl _ _).grown hgrow hbase (fun k hk => (hown.lt k hk).1)
    obtain ⟨bo, cp, rfl, _, _⟩ := heldE8_of_own (by rw [List.length_append, hn, hm]) hown'
    exact h bo cp w' hown' hb hgrow
theorem held_newE8 (V : World) (x : EvM) : HeldE8 (V.alloc (.cells x.cells.toArray 97)) (some ⟨V.heap.size, 0, none⟩) [x] := .inr ⟨V.heap.size, 0, rfl, by simp, fun j hj c u hu => by
  have hj0 : j = 0 := by simp at hj; exact hj
  subst hj0
  have h1 := (Blk.new V 97 x.cells).cell hu
  simpa using h1⟩
end Go.Proofs.YtfmnbehopdmahaaGreat
