/-
  SameMsg of two empty messages.
-/
import Derived.Test.YtbofpapdbjecoaaGreatSameVos
namespace Go.Proofs.YtbofpapdbjecoaaGreat
open Go.RowKit Go.Shelf Go.Maps

theorem hv_none0 (w : World) : HV w none 0 [] := ⟨⟨fun x h => (by cases h), .inl rfl⟩, Nat.le_refl _, Nat.zero_le _⟩
set_option maxRecDepth 1000000 in
theorem sameEvs_0 (w : World) : Calls Tryz.prog 31 #[.slice none 0 0, .slice none 0 0] w fun e w' => e = .returned (.bool true) ∧ Below w.heap.size w w' := by
  go_enter Tryz.func31, Tryz.ntmps31
  go_wp2
  go_loopw [5] (fun x wr => x = .int .i64 0 ∧ Hid (Below w.heap.size w wr)) (fun _ _ => 0)
  case atStart => exact ⟨rfl, Below.refl _ _⟩
  case round =>
    obtain ⟨rfl, HB⟩ := hrel
    go_wp2
    go_ret
    exact ⟨rfl, HB.out⟩
set_option maxRecDepth 1000000 in
set_option maxHeartbeats 4000000 in
theorem sameMs_0 (w : World) : Calls Tryz.prog 13 #[.agg #[.int .i64 0, .int .i64 0, .int .i64 0, .int .i64 0, .int .i64 0, .int .i64 0, .bool false, .string ⟨#[]⟩, .string ⟨#[]⟩, .int .i64 0, .slice none 0 0, .slice none 0 0, .slice none 0 0, .slice none 0 0, .int .i64 0], .agg #[.int .i64 0, .int .i64 0, .int .i64 0, .int .i64 0, .int .i64 0, .int .i64 0, .bool false, .string ⟨#[]⟩, .string ⟨#[]⟩, .int .i64 0, .slice none 0 0, .slice none 0 0, .slice none 0 0, .slice none 0 0, .int .i64 0]] w fun e w' => e = .returned (.bool true) ∧ Below w.heap.size w w' := by
  obtain ⟨W1, hW1⟩ : ∃ W, W = w.alloc (.cells #[.int .i64 0, .int .i64 0, .int .i64 0, .int .i64 0, .int .i64 0, .int .i64 0, .bool false, .string ⟨#[]⟩, .string ⟨#[]⟩, .int .i64 0, .slice none 0 0, .slice none 0 0, .slice none 0 0, .slice none 0 0, .int .i64 0] 43) := ⟨_, rfl⟩
  obtain ⟨W, hW⟩ : ∃ W, W = W1.alloc (.cells #[.int .i64 0, .int .i64 0, .int .i64 0, .int .i64 0, .int .i64 0, .int .i64 0, .bool false, .string ⟨#[]⟩, .string ⟨#[]⟩, .int .i64 0, .slice none 0 0, .slice none 0 0, .slice none 0 0, .slice none 0 0, .int .i64 0] 43) := ⟨_, rfl⟩
  have hs1 : W1.heap.size = w.heap.size + 1 := by rw [hW1]; simp
  have hb1 : Below w.heap.size w W1 := by rw [hW1]; exact (Below.refl _ _).alloc (Nat.le_refl _) _
  have HB : Hid (Below w.heap.size w W) := by rw [hW]; exact hb1.alloc hb1.size _
  obtain ⟨ba, hba⟩ : ∃ q, q = w.heap.size := ⟨_, rfl⟩
  obtain ⟨bb, hbb⟩ : ∃ q, q = w.heap.size + 1 := ⟨_, rfl⟩
  have HKA : Hid (Blk W ba 43 [.int .i64 0, .int .i64 0, .int .i64 0, .int .i64 0, .int .i64 0, .int .i64 0, .bool false, .string ⟨#[]⟩, .string ⟨#[]⟩, .int .i64 0, .slice none 0 0, .slice none 0 0, .slice none 0 0, .slice none 0 0, .int .i64 0]) := by rw [hba, hW, hW1]; exact (Blk.new w _ _).alloc _
  have HKB : Hid (Blk W bb 43 [.int .i64 0, .int .i64 0, .int .i64 0, .int .i64 0, .int .i64 0, .int .i64 0, .bool false, .string ⟨#[]⟩, .string ⟨#[]⟩, .int .i64 0, .slice none 0 0, .slice none 0 0, .slice none 0 0, .slice none 0 0, .int .i64 0]) := by rw [hbb, hW, ← hs1]; exact Blk.new W1 _ _
  have HW : Hid (W = (w.alloc (.cells #[.int .i64 0, .int .i64 0, .int .i64 0, .int .i64 0, .int .i64 0, .int .i64 0, .bool false, .string ⟨#[]⟩, .string ⟨#[]⟩, .int .i64 0, .slice none 0 0, .slice none 0 0, .slice none 0 0, .slice none 0 0, .int .i64 0] 43)).alloc (.cells #[.int .i64 0, .int .i64 0, .int .i64 0, .int .i64 0, .int .i64 0, .int .i64 0, .bool false, .string ⟨#[]⟩, .string ⟨#[]⟩, .int .i64 0, .slice none 0 0, .slice none 0 0, .slice none 0 0, .slice none 0 0, .int .i64 0] 43)) := by show _ = _; rw [hW, hW1]
  have HBA := hid hba
  have HBB := hid hbb
  have HSE := hid (sameEntry_B W ⟨false, ⟨#[]⟩, ⟨#[]⟩, 0, []⟩ none none 0 0 (hv_none0 _) (hv_none0 _))
  simp only [EnM.val, List.length_nil] at HSE
  have p0 := HKA.out.cell (i := 0) rfl
  have p1 := HKA.out.cell (i := 1) rfl
  have p2 := HKA.out.cell (i := 2) rfl
  have p3 := HKA.out.cell (i := 3) rfl
  have p4 := HKA.out.cell (i := 4) rfl
  have p5 := HKA.out.cell (i := 5) rfl
  have p6 := HKA.out.cell (i := 6) rfl
  have p7 := HKA.out.cell (i := 7) rfl
  have p8 := HKA.out.cell (i := 8) rfl
  have p9 := HKA.out.cell (i := 9) rfl
  have p10 := HKA.out.cell (i := 10) rfl
  have p11 := HKA.out.cell (i := 11) rfl
  have p12 := HKA.out.cell (i := 12) rfl
  have p13 := HKA.out.cell (i := 13) rfl
  have p14 := HKA.out.cell (i := 14) rfl
  have q0 := HKB.out.cell (i := 0) rfl
  have q1 := HKB.out.cell (i := 1) rfl
  have q2 := HKB.out.cell (i := 2) rfl
  have q3 := HKB.out.cell (i := 3) rfl
  have q4 := HKB.out.cell (i := 4) rfl
  have q5 := HKB.out.cell (i := 5) rfl
  have q6 := HKB.out.cell (i := 6) rfl
  have q7 := HKB.out.cell (i := 7) rfl
  have q8 := HKB.out.cell (i := 8) rfl
  have q9 := HKB.out.cell (i := 9) rfl
  have q10 := HKB.out.cell (i := 10) rfl
  have q11 := HKB.out.cell (i := 11) rfl
  have q12 := HKB.out.cell (i := 12) rfl
  have q13 := HKB.out.cell (i := 13) rfl
  have q14 := HKB.out.cell (i := 14) rfl
  clear hW hW1 hs1 hb1 hba hbb
  go_enter Tryz.func13, Tryz.ntmps13
  go_wp2_with fail
  rw [← HW.out, ← HBB.out, ← HBA.out]
  refine HSE.out.mono ?_
  rintro e w2 ⟨rfl, hb2⟩
  have HB2 := hid (bt' HB.out hb2)
  have HKA2 := hid (HKA.out.below hb2 HKA.out.lt)
  have HKB2 := hid (HKB.out.below hb2 HKB.out.lt)
  have HSV2 := hid (sameVos_B w2 none none 0 0 [] [] 0 rfl ⟨fun x h => (by cases h), .inl rfl⟩ ⟨fun x h => (by cases h), .inl rfl⟩ rfl (Nat.zero_le _))
  skip
  clear hb2 p0 p1 p2 p3 p4 p5 p6 p7 p8 p9 p10 p11 p12 p13 p14 q0 q1 q2 q3 q4 q5 q6 q7 q8 q9 q10 q11 q12 q13 q14
  have p0 := HKA2.out.cell (i := 0) rfl
  have p1 := HKA2.out.cell (i := 1) rfl
  have p2 := HKA2.out.cell (i := 2) rfl
  have p3 := HKA2.out.cell (i := 3) rfl
  have p4 := HKA2.out.cell (i := 4) rfl
  have p5 := HKA2.out.cell (i := 5) rfl
  have p6 := HKA2.out.cell (i := 6) rfl
  have p7 := HKA2.out.cell (i := 7) rfl
  have p8 := HKA2.out.cell (i := 8) rfl
  have p9 := HKA2.out.cell (i := 9) rfl
  have p10 := HKA2.out.cell (i := 10) rfl
  have p11 := HKA2.out.cell (i := 11) rfl
  have p12 := HKA2.out.cell (i := 12) rfl
  have p13 := HKA2.out.cell (i := 13) rfl
  have p14 := HKA2.out.cell (i := 14) rfl
  have q0 := HKB2.out.cell (i := 0) rfl
  have q1 := HKB2.out.cell (i := 1) rfl
  have q2 := HKB2.out.cell (i := 2) rfl
  have q3 := HKB2.out.cell (i := 3) rfl
  have q4 := HKB2.out.cell (i := 4) rfl
  have q5 := HKB2.out.cell (i := 5) rfl
  have q6 := HKB2.out.cell (i := 6) rfl
  have q7 := HKB2.out.cell (i := 7) rfl
  have q8 := HKB2.out.cell (i := 8) rfl
  have q9 := HKB2.out.cell (i := 9) rfl
  have q10 := HKB2.out.cell (i := 10) rfl
  have q11 := HKB2.out.cell (i := 11) rfl
  have q12 := HKB2.out.cell (i := 12) rfl
  have q13 := HKB2.out.cell (i := 13) rfl
  have q14 := HKB2.out.cell (i := 14) rfl
  go_wp2_with fail
  refine HSV2.out.mono ?_
  rintro e w3 ⟨rfl, hb3⟩
  have HB3 := hid (bt' HB2.out hb3)
  have HKA3 := hid (HKA2.out.below hb3 HKA2.out.lt)
  have HKB3 := hid (HKB2.out.below hb3 HKB2.out.lt)
  have HSV3 := hid (sameVec_B w3 none none 0 0 [] [] 0 0 rfl rfl (hv_none0 _) (hv_none0 _))
  simp only [decide_true] at HSV3
  clear hb3 p0 p1 p2 p3 p4 p5 p6 p7 p8 p9 p10 p11 p12 p13 p14 q0 q1 q2 q3 q4 q5 q6 q7 q8 q9 q10 q11 q12 q13 q14
  have p0 := HKA3.out.cell (i := 0) rfl
  have p1 := HKA3.out.cell (i := 1) rfl
  have p2 := HKA3.out.cell (i := 2) rfl
  have p3 := HKA3.out.cell (i := 3) rfl
  have p4 := HKA3.out.cell (i := 4) rfl
  have p5 := HKA3.out.cell (i := 5) rfl
  have p6 := HKA3.out.cell (i := 6) rfl
  have p7 := HKA3.out.cell (i := 7) rfl
  have p8 := HKA3.out.cell (i := 8) rfl
  have p9 := HKA3.out.cell (i := 9) rfl
  have p10 := HKA3.out.cell (i := 10) rfl
  have p11 := HKA3.out.cell (i := 11) rfl
  have p12 := HKA3.out.cell (i := 12) rfl
  have p13 := HKA3.out.cell (i := 13) rfl
  have p14 := HKA3.out.cell (i := 14) rfl
  have q0 := HKB3.out.cell (i := 0) rfl
  have q1 := HKB3.out.cell (i := 1) rfl
  have q2 := HKB3.out.cell (i := 2) rfl
  have q3 := HKB3.out.cell (i := 3) rfl
  have q4 := HKB3.out.cell (i := 4) rfl
  have q5 := HKB3.out.cell (i := 5) rfl
  have q6 := HKB3.out.cell (i := 6) rfl
  have q7 := HKB3.out.cell (i := 7) rfl
  have q8 := HKB3.out.cell (i := 8) rfl
  have q9 := HKB3.out.cell (i := 9) rfl
  have q10 := HKB3.out.cell (i := 10) rfl
  have q11 := HKB3.out.cell (i := 11) rfl
  have q12 := HKB3.out.cell (i := 12) rfl
  have q13 := HKB3.out.cell (i := 13) rfl
  have q14 := HKB3.out.cell (i := 14) rfl
  go_wp2_with fail
  refine HSV3.out.mono ?_
  rintro e w4 ⟨rfl, q4, hq4⟩
  have hb4 : Below w3.heap.size w3 w4 := by rw [hq4]; exact below_dn (Below.refl _ _) _
  clear hq4
  have HB4 := hid (bt' HB3.out hb4)
  have HKA4 := hid (HKA3.out.below hb4 HKA3.out.lt)
  have HKB4 := hid (HKB3.out.below hb4 HKB3.out.lt)
  have HSV4 := hid (sameEvs_0 w4)
  skip
  clear hb4 p0 p1 p2 p3 p4 p5 p6 p7 p8 p9 p10 p11 p12 p13 p14 q0 q1 q2 q3 q4 q5 q6 q7 q8 q9 q10 q11 q12 q13 q14
  have p0 := HKA4.out.cell (i := 0) rfl
  have p1 := HKA4.out.cell (i := 1) rfl
  have p2 := HKA4.out.cell (i := 2) rfl
  have p3 := HKA4.out.cell (i := 3) rfl
  have p4 := HKA4.out.cell (i := 4) rfl
  have p5 := HKA4.out.cell (i := 5) rfl
  have p6 := HKA4.out.cell (i := 6) rfl
  have p7 := HKA4.out.cell (i := 7) rfl
  have p8 := HKA4.out.cell (i := 8) rfl
  have p9 := HKA4.out.cell (i := 9) rfl
  have p10 := HKA4.out.cell (i := 10) rfl
  have p11 := HKA4.out.cell (i := 11) rfl
  have p12 := HKA4.out.cell (i := 12) rfl
  have p13 := HKA4.out.cell (i := 13) rfl
  have p14 := HKA4.out.cell (i := 14) rfl
  have q0 := HKB4.out.cell (i := 0) rfl
  have q1 := HKB4.out.cell (i := 1) rfl
  have q2 := HKB4.out.cell (i := 2) rfl
  have q3 := HKB4.out.cell (i := 3) rfl
  have q4 := HKB4.out.cell (i := 4) rfl
  have q5 := HKB4.out.cell (i := 5) rfl
  have q6 := HKB4.out.cell (i := 6) rfl
  have q7 := HKB4.out.cell (i := 7) rfl
  have q8 := HKB4.out.cell (i := 8) rfl
  have q9 := HKB4.out.cell (i := 9) rfl
  have q10 := HKB4.out.cell (i := 10) rfl
  have q11 := HKB4.out.cell (i := 11) rfl
  have q12 := HKB4.out.cell (i := 12) rfl
  have q13 := HKB4.out.cell (i := 13) rfl
  have q14 := HKB4.out.cell (i := 14) rfl
  go_wp2_with fail
  refine HSV4.out.mono ?_
  rintro e w5 ⟨rfl, hb5⟩
  have HB5 := hid (bt' HB4.out hb5)
  have HKA5 := hid (HKA4.out.below hb5 HKA4.out.lt)
  have HKB5 := hid (HKB4.out.below hb5 HKB4.out.lt)
  clear hb5 p0 p1 p2 p3 p4 p5 p6 p7 p8 p9 p10 p11 p12 p13 p14 q0 q1 q2 q3 q4 q5 q6 q7 q8 q9 q10 q11 q12 q13 q14
  have p0 := HKA5.out.cell (i := 0) rfl
  have p1 := HKA5.out.cell (i := 1) rfl
  have p2 := HKA5.out.cell (i := 2) rfl
  have p3 := HKA5.out.cell (i := 3) rfl
  have p4 := HKA5.out.cell (i := 4) rfl
  have p5 := HKA5.out.cell (i := 5) rfl
  have p6 := HKA5.out.cell (i := 6) rfl
  have p7 := HKA5.out.cell (i := 7) rfl
  have p8 := HKA5.out.cell (i := 8) rfl
  have p9 := HKA5.out.cell (i := 9) rfl
  have p10 := HKA5.out.cell (i := 10) rfl
  have p11 := HKA5.out.cell (i := 11) rfl
  have p12 := HKA5.out.cell (i := 12) rfl
  have p13 := HKA5.out.cell (i := 13) rfl
  have p14 := HKA5.out.cell (i := 14) rfl
  have q0 := HKB5.out.cell (i := 0) rfl
  have q1 := HKB5.out.cell (i := 1) rfl
  have q2 := HKB5.out.cell (i := 2) rfl
  have q3 := HKB5.out.cell (i := 3) rfl
  have q4 := HKB5.out.cell (i := 4) rfl
  have q5 := HKB5.out.cell (i := 5) rfl
  have q6 := HKB5.out.cell (i := 6) rfl
  have q7 := HKB5.out.cell (i := 7) rfl
  have q8 := HKB5.out.cell (i := 8) rfl
  have q9 := HKB5.out.cell (i := 9) rfl
  have q10 := HKB5.out.cell (i := 10) rfl
  have q11 := HKB5.out.cell (i := 11) rfl
  have q12 := HKB5.out.cell (i := 12) rfl
  have q13 := HKB5.out.cell (i := 13) rfl
  have q14 := HKB5.out.cell (i := 14) rfl
  go_wp2
  go_ret
  exact ⟨rfl, HB5.out⟩
end Go.Proofs.YtbofpapdbjecoaaGreat
