/-
  pannierlaw16.AcceptorNobody answers true for any message and number.
-/
import Derived.Test.YtbofpapdbjecoaaGreatAcN
import Derived.Test.YtbofpapdbjecoaaGreatAcY
import Derived.Test.YtbofpapdbjecoaaGreatSameMs0
import Derived.Test.YtbofpapdbjecoaaGreatMsgOpen
namespace Go.Proofs.YtbofpapdbjecoaaGreat
open Go.RowKit Go.Maps

set_option maxRecDepth 1000000 in
set_option maxHeartbeats 4000000 in
theorem acceptorNobody_walk (x : MsM) (n : Int) (w : World) (_ : MsOk w x) (_ : -9223372036854775808 ≤ n ∧ n ≤ 9223372036854775807) :
    Calls Tryz.prog 6 #[x.val, .int .i64 n] w fun e w' => e = .returned (.bool true) ∧ Below w.heap.size w w' := by
  obtain ⟨kd, fr, to, ⟨br, bn⟩, sl, ⟨⟨np, tk, ct, ep, cut⟩, ao1, cap1⟩, vo, vc, vs, so, sc, seen, eo, ec, evs, ti⟩ := x
  obtain ⟨XN, HXN⟩ : ∃ m, Hid (cut.length = m) := ⟨_, hid rfl⟩
  obtain ⟨VN, HVN⟩ : ∃ m, Hid (vs.length = m) := ⟨_, hid rfl⟩
  obtain ⟨SN, HSN⟩ : ∃ m, Hid (seen.length = m) := ⟨_, hid rfl⟩
  obtain ⟨EN, HEN⟩ : ∃ m, Hid (evs.length = m) := ⟨_, hid rfl⟩
  simp only [MsM.val]
  rw [HXN.out, HVN.out, HSN.out, HEN.out]
  obtain ⟨W, hW⟩ : ∃ W, W = w.alloc (.cells #[.int .i64 kd, .int .i64 fr, .int .i64 to, .int .i64 br, .int .i64 bn, .int .i64 sl, .bool np, .string tk, .string ct, .int .i64 ep, .slice ao1 XN cap1, .slice vo VN vc, .slice so SN sc, .slice eo EN ec, .int .i64 ti] 43) := ⟨_, rfl⟩
  have HB : Hid (Below w.heap.size w W) := by rw [hW]; exact (Below.refl _ _).alloc (Nat.le_refl _) _
  obtain ⟨bm, hbm⟩ : ∃ q, q = w.heap.size := ⟨_, rfl⟩
  have HKM : Hid (Blk W bm 43 [.int .i64 kd, .int .i64 fr, .int .i64 to, .int .i64 br, .int .i64 bn, .int .i64 sl, .bool np, .string tk, .string ct, .int .i64 ep, .slice ao1 XN cap1, .slice vo VN vc, .slice so SN sc, .slice eo EN ec, .int .i64 ti]) := by rw [hbm, hW]; exact Blk.new w _ _
  have HON := hid (onA_nil W kd fr to br bn sl np tk ct ep ao1 XN cap1 vo VN vc so SN sc eo EN ec ti)
  have q0 := HKM.out.cell (i := 0) rfl
  have q1 := HKM.out.cell (i := 1) rfl
  have q2 := HKM.out.cell (i := 2) rfl
  have q3 := HKM.out.cell (i := 3) rfl
  have q4 := HKM.out.cell (i := 4) rfl
  have q5 := HKM.out.cell (i := 5) rfl
  have q6 := HKM.out.cell (i := 6) rfl
  have q7 := HKM.out.cell (i := 7) rfl
  have q8 := HKM.out.cell (i := 8) rfl
  have q9 := HKM.out.cell (i := 9) rfl
  have q10 := HKM.out.cell (i := 10) rfl
  have q11 := HKM.out.cell (i := 11) rfl
  have q12 := HKM.out.cell (i := 12) rfl
  have q13 := HKM.out.cell (i := 13) rfl
  have q14 := HKM.out.cell (i := 14) rfl
  rw [hW, hbm] at q0 q1 q2 q3 q4 q5 q6 q7 q8 q9 q10 q11 q12 q13 q14
  have HW := hid hW
  have HBM := hid hbm
  clear hW hbm
  go_enter Tryz.func6, Tryz.ntmps6
  go_wp2_with fail
  rw [← HW.out, ← HBM.out]
  refine HON.out.mono ?_
  rintro e w2 ⟨rfl, hb2⟩
  obtain ⟨W3, hW3⟩ : ∃ V, V = w2.alloc (.cells #[.int .i64 0, .int .i64 0, .int .i64 0, .int .i64 0, .int .i64 0, .int .i64 0, .bool false, .string ⟨#[]⟩, .string ⟨#[]⟩, .int .i64 0, .slice none 0 0, .slice none 0 0, .slice none 0 0, .slice none 0 0, .int .i64 0] 43) := ⟨_, rfl⟩
  have hb3 : Below w2.heap.size w2 W3 := by rw [hW3]; exact (Below.refl _ _).alloc (Nat.le_refl _) _
  obtain ⟨bz, hbz⟩ : ∃ q, q = w2.heap.size := ⟨_, rfl⟩
  have HKZ : Hid (Blk W3 bz 43 [.int .i64 0, .int .i64 0, .int .i64 0, .int .i64 0, .int .i64 0, .int .i64 0, .bool false, .string ⟨#[]⟩, .string ⟨#[]⟩, .int .i64 0, .slice none 0 0, .slice none 0 0, .slice none 0 0, .slice none 0 0, .int .i64 0]) := by rw [hbz, hW3]; exact Blk.new w2 _ _
  have HB3 := hid (bt' (bt' HB.out hb2) hb3)
  have HKM3 := hid ((HKM.out.below hb2 HKM.out.lt).below hb3 (HKM.out.below hb2 HKM.out.lt).lt)
  have HWD := hid (wouldA_nil W3 kd fr to br bn sl np tk ct ep ao1 XN cap1 vo VN vc so SN sc eo EN ec ti)
  clear q0 q1 q2 q3 q4 q5 q6 q7 q8 q9 q10 q11 q12 q13 q14
  have q0 := HKM3.out.cell (i := 0) rfl
  have q1 := HKM3.out.cell (i := 1) rfl
  have q2 := HKM3.out.cell (i := 2) rfl
  have q3 := HKM3.out.cell (i := 3) rfl
  have q4 := HKM3.out.cell (i := 4) rfl
  have q5 := HKM3.out.cell (i := 5) rfl
  have q6 := HKM3.out.cell (i := 6) rfl
  have q7 := HKM3.out.cell (i := 7) rfl
  have q8 := HKM3.out.cell (i := 8) rfl
  have q9 := HKM3.out.cell (i := 9) rfl
  have q10 := HKM3.out.cell (i := 10) rfl
  have q11 := HKM3.out.cell (i := 11) rfl
  have q12 := HKM3.out.cell (i := 12) rfl
  have q13 := HKM3.out.cell (i := 13) rfl
  have q14 := HKM3.out.cell (i := 14) rfl
  rw [hW3] at q0 q1 q2 q3 q4 q5 q6 q7 q8 q9 q10 q11 q12 q13 q14
  have HW3 := hid hW3
  have HBZ := hid hbz
  clear hb2 hb3 hW3 hbz HON
  go_wp2_with fail
  rw [← HW3.out, ← HBZ.out]
  refine HWD.out.mono ?_
  rintro e w4 ⟨rfl, hb4⟩
  have HB4 := hid (bt' HB3.out hb4)
  have HKZ4 := hid (HKZ.out.below hb4 HKZ.out.lt)
  have HDR := hid (dropA_nil w4 n)
  clear hb4 HWD q0 q1 q2 q3 q4 q5 q6 q7 q8 q9 q10 q11 q12 q13 q14
  go_wp2_with fail
  refine HDR.out.mono ?_
  rintro e w5 ⟨rfl, hb5⟩
  have HB5 := hid (bt' HB4.out hb5)
  have HKZ5 := hid (HKZ4.out.below hb5 HKZ4.out.lt)
  have HLV := hid (livesAc w5)
  clear hb5 HDR
  go_wp2_with fail
  refine HLV.out.mono ?_
  rintro e w6 ⟨rfl, hb6⟩
  have HB6 := hid (bt' HB5.out hb6)
  have HKZ6 := hid (HKZ5.out.below hb6 HKZ5.out.lt)
  have HSM := hid (sameMs_0 w6)
  have q0 := HKZ6.out.cell (i := 0) rfl
  have q1 := HKZ6.out.cell (i := 1) rfl
  have q2 := HKZ6.out.cell (i := 2) rfl
  have q3 := HKZ6.out.cell (i := 3) rfl
  have q4 := HKZ6.out.cell (i := 4) rfl
  have q5 := HKZ6.out.cell (i := 5) rfl
  have q6 := HKZ6.out.cell (i := 6) rfl
  have q7 := HKZ6.out.cell (i := 7) rfl
  have q8 := HKZ6.out.cell (i := 8) rfl
  have q9 := HKZ6.out.cell (i := 9) rfl
  have q10 := HKZ6.out.cell (i := 10) rfl
  have q11 := HKZ6.out.cell (i := 11) rfl
  have q12 := HKZ6.out.cell (i := 12) rfl
  have q13 := HKZ6.out.cell (i := 13) rfl
  have q14 := HKZ6.out.cell (i := 14) rfl
  clear hb6 HLV
  go_wp2_with fail
  refine HSM.out.mono ?_
  rintro e w7 ⟨rfl, hb7⟩
  have HB7 := hid (bt' HB6.out hb7)
  have HRP := hid (replayA_nil w7 ⟨#[]⟩)
  clear hb7 HSM q0 q1 q2 q3 q4 q5 q6 q7 q8 q9 q10 q11 q12 q13 q14
  go_wp2_with fail
  refine HRP.out.mono ?_
  rintro e w8 ⟨rfl, hb8⟩
  have HB8 := hid (bt' HB7.out hb8)
  have HPD := hid (promisedA_nil w8)
  clear hb8 HRP
  go_wp2_with fail
  refine HPD.out.mono ?_
  rintro e w9 ⟨rfl, hb9⟩
  have HB9 := hid (bt' HB8.out hb9)
  have HVT := hid (votesA_nil w9)
  have HFK := hid (forkA_nil w9)
  clear hb9 HPD
  go_wp2_with fail
  refine HVT.out.mono ?_
  rintro e w10 ⟨rfl, rfl⟩
  go_wp2_with fail
  refine HFK.out.mono ?_
  rintro e w11 ⟨rfl, rfl⟩
  go_wp2
  go_ret
  exact ⟨rfl, HB9.out⟩
end Go.Proofs.YtbofpapdbjecoaaGreat
