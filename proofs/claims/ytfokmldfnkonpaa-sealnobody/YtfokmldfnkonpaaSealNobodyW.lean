/-
  pannierlaw19.SealNobody answers true for whatever entry and text.
-/
import Derived.Test.YtfokmldfnkonpaaSmH0
import Derived.Test.YtfokmldfnkonpaaEnsOpen
namespace Go.Proofs.Ytfokmldfnkonpaa
open Go.RowKit Go.Maps

set_option maxRecDepth 1000000 in
set_option maxHeartbeats 2000000 in
theorem doS_nil (w : World) (np : Bool) (tk ct : ByteArray) (ep : Int) (ao1 : Option Addr) (XN cap1 : Nat) : Calls Try.prog 10 #[.pointer none, .agg #[.bool np, .string tk, .string ct, .int .i64 ep, .slice ao1 XN cap1]] w fun e w' => e = .returned (.tuple #[.agg #[.int .i64 0, .string ⟨#[]⟩, .string ⟨#[]⟩, .int .i64 0, .slice none 0 0], .bool false, .int .i64 6]) ∧ Below w.heap.size w w' := by
  obtain ⟨W0, hW0⟩ : ∃ W, W = w.alloc (.cells #[.bool np, .string tk, .string ct, .int .i64 ep, .slice ao1 XN cap1] 39) := ⟨_, rfl⟩
  obtain ⟨W, hW⟩ : ∃ W, W = W0.alloc (.cells #[.int .i64 0, .string ⟨#[]⟩, .string ⟨#[]⟩, .int .i64 0, .slice none 0 0] 32) := ⟨_, rfl⟩
  have hz0 : W0.heap.size = w.heap.size + 1 := by rw [hW0]; simp
  have hb0 : Below w.heap.size w W0 := by rw [hW0]; exact (Below.refl _ _).alloc (Nat.le_refl _) _
  have HB : Hid (Below w.heap.size w W) := by rw [hW]; exact hb0.alloc hb0.size _
  have hr7 : Blk W (w.heap.size + 1) 32 [.int .i64 0, .string ⟨#[]⟩, .string ⟨#[]⟩, .int .i64 0, .slice none 0 0] := by rw [hW, ← hz0]; exact Blk.new W0 _ _
  have HW : Hid (W = (w.alloc (.cells #[.bool np, .string tk, .string ct, .int .i64 ep, .slice ao1 XN cap1] 39)).alloc (.cells #[.int .i64 0, .string ⟨#[]⟩, .string ⟨#[]⟩, .int .i64 0, .slice none 0 0] 32)) := by show _ = _; rw [hW, hW0]
  obtain ⟨q, hq⟩ : ∃ q, q = w.heap.size := ⟨_, rfl⟩
  have HQ := hid hq
  rw [← hq] at hr7
  have HCL := hid (closedS_nil W)
  have r0 := hr7.cell (i := 0) rfl
  have r1 := hr7.cell (i := 1) rfl
  have r2 := hr7.cell (i := 2) rfl
  have r3 := hr7.cell (i := 3) rfl
  have r4 := hr7.cell (i := 4) rfl
  have q0 := hr7.frozen 0
  have q1 := hr7.frozen 1
  have q2 := hr7.frozen 2
  have q3 := hr7.frozen 3
  have q4 := hr7.frozen 4
  obtain ⟨W3, hW3⟩ : ∃ V, V = st5 W (q + 1) (.int .i64 0) (.string ⟨#[]⟩) (.string ⟨#[]⟩) (.int .i64 0) (.slice none 0 0) := ⟨_, rfl⟩
  have hk9 : Blk W3 (q + 1) 32 [.int .i64 0, .string ⟨#[]⟩, .string ⟨#[]⟩, .int .i64 0, .slice none 0 0] := by rw [hW3]; exact st5_blk hr7 _ _ _ _ _
  have HT9 : Hid (Turns (fun i => i = (q + 1)) W W3) := by rw [hW3]; exact st5_turns _ _ _ _ _ _ _
  have k0 := hk9.cell (i := 0) rfl
  have k1 := hk9.cell (i := 1) rfl
  have k2 := hk9.cell (i := 2) rfl
  have k3 := hk9.cell (i := 3) rfl
  have k4 := hk9.cell (i := 4) rfl
  have HBF : Hid (Below w.heap.size w W3) := HB.out.trans (HT9.out.below (fun i hi => by omega) HB.out.size)
  clear hW hW0 hz0 hb0 hq hr7 hk9
  go_enter Try.func10, Try.ntmps10
  go_wp2_with fail
  rw [← HW.out, ← HQ.out]
  refine HCL.out.mono ?_
  rintro e w1 ⟨rfl, rfl⟩
  go_wp2
  unfold st5 at hW3
  rw [← hW3]
  (try simp only [Exit.inBlock, Exit.then])
  refine bodyPost_ret (v := .tuple #[.agg #[.int .i64 0, .string ⟨#[]⟩, .string ⟨#[]⟩, .int .i64 0, .slice none 0 0], .bool false, .int .i64 6]) ?_ rfl (⟨rfl, HBF.out⟩)
  rw [results_cell_tmp2 rfl]
  go_simp
set_option maxRecDepth 1000000 in
set_option maxHeartbeats 4000000 in
theorem sealNobody_walk (x : EnM) (s : ByteArray) (w : World) (_ : EnOk w x) (_ : s.size ≤ maxLen) :
    Calls Try.prog 6 #[x.val, .string s] w fun e w' => e = .returned (.bool true) ∧ Below w.heap.size w w' := by
  obtain ⟨⟨np, tk, ct, ep, dp⟩, ao1, cap1⟩ := x
  obtain ⟨XN, HXN⟩ : ∃ m, Hid (dp.length = m) := ⟨_, hid rfl⟩
  simp only [EnM.val]
  rw [HXN.out]
  have HBA := hid (fun (V U : World) o (hb : Below w.heap.size w V) (hU : U = V.alloc o) => (by rw [hU]; exact hb.alloc hb.size o : Below w.heap.size w U))
  have HDO := hid (fun V => doS_nil V np tk ct ep ao1 XN cap1)
  have HTK := hid (fun V => tokenS_nil V s)
  have HGE := hid (fun V => getS_nil V 1)
  have HLV := hid livesSm
  have HSO := hid (fun V => sameOrder_any V 0 ⟨#[]⟩ ⟨#[]⟩ 0 [] none none 0 0 0 rfl (hv_nilS V) (hv_nilS V))
  have HDN := hid doneS_nil
  have HEP := hid (fun V => epochS_nil V s)
  have HOR := hid ordersS_nil
  have HSE := hid sealsS_nil
  have HFO := hid forkS_nil
  obtain ⟨W0, hW0⟩ : ∃ W, W = w.alloc (.cells #[.bool np, .string tk, .string ct, .int .i64 ep, .slice ao1 XN cap1] 39) := ⟨_, rfl⟩
  have HB0 : Hid (Below w.heap.size w W0) := by rw [hW0]; exact (Below.refl _ _).alloc (Nat.le_refl _) _
  have HW0 := hid hW0
  clear hW0
  go_enter Try.func6, Try.ntmps6
  go_wp2_with fail
  rw [← HW0.out]
  refine (HDO.out _).mono ?_
  rintro e w1 ⟨rfl, hb1⟩
  obtain ⟨W1, hW1⟩ : ∃ V, V = w1.alloc (.cells #[.int .i64 0, .string ⟨#[]⟩, .string ⟨#[]⟩, .int .i64 0, .slice none 0 0] 32) := ⟨_, rfl⟩
  have HB1 := hid (HBA.out w1 W1 _ (bt' HB0.out hb1) hW1)
  have HK1 : Hid (Blk W1 w1.heap.size 32 [.int .i64 0, .string ⟨#[]⟩, .string ⟨#[]⟩, .int .i64 0, .slice none 0 0]) := by rw [hW1]; exact Blk.new _ _ _
  obtain ⟨q, hq⟩ : ∃ q, q = w1.heap.size := ⟨_, rfl⟩
  rw [← hq] at HK1
  have HW1 := hid hW1
  have HQ := hid hq
  clear hb1 hW1 hq
  go_wp2_with fail
  rw [← HW1.out, ← HQ.out]
  refine (HTK.out _).mono ?_
  rintro e w2 ⟨bo2, cp2, rfl, _, _, hb2⟩
  simp only [Option.getD_none, Option.isSome_none, OrM.val, zeroOr, List.length_nil]
  obtain ⟨W2, hW2⟩ : ∃ V, V = w2.alloc (.cells #[.int .i64 0, .string ⟨#[]⟩, .string ⟨#[]⟩, .int .i64 0, .slice bo2 0 cp2] 32) := ⟨_, rfl⟩
  have hb2' : Below W1.heap.size W1 W2 := by rw [hW2]; exact hb2.alloc hb2.size _
  have HB2 := hid (bt' HB1.out hb2')
  have HK2 := hid (HK1.out.below hb2' HK1.out.lt)
  have HW2 := hid hW2
  clear hb2 hb2' hW2
  go_wp2_with fail
  rw [← HW2.out]
  refine (HGE.out _).mono ?_
  rintro e w3 ⟨bo3, cp3, rfl, _, _, hb3⟩
  simp only [Option.getD_none, Option.isSome_none, OrM.val, zeroOr, List.length_nil]
  obtain ⟨W3, hW3⟩ : ∃ V, V = w3.alloc (.cells #[.int .i64 0, .string ⟨#[]⟩, .string ⟨#[]⟩, .int .i64 0, .slice bo3 0 cp3] 32) := ⟨_, rfl⟩
  have hb3' : Below W2.heap.size W2 W3 := by rw [hW3]; exact hb3.alloc hb3.size _
  have HB3 := hid (bt' HB2.out hb3')
  have HK3 := hid (HK2.out.below hb3' HK2.out.lt)
  have HW3 := hid hW3
  clear hb3 hb3' hW3
  go_wp2_with fail
  rw [← HW3.out]
  refine (HLV.out _).mono ?_
  rintro e w4 ⟨rfl, hb4⟩
  have HB4 := hid (bt' HB3.out hb4)
  have hk4 := HK3.out.below hb4 HK3.out.lt
  have c0 := hk4.cell (i := 0) rfl
  have c1 := hk4.cell (i := 1) rfl
  have c2 := hk4.cell (i := 2) rfl
  have c3 := hk4.cell (i := 3) rfl
  have c4 := hk4.cell (i := 4) rfl
  clear hb4 hk4
  go_wp2_with fail
  refine (HSO.out _).mono ?_
  rintro e w5 ⟨rfl, hb5⟩
  have HB5 := hid (bt' HB4.out hb5)
  clear hb5
  go_wp2_with fail
  refine (HDN.out _).mono ?_
  rintro e x1 ⟨rfl, rfl⟩
  go_wp2_with fail
  refine (HEP.out _).mono ?_
  rintro e x2 ⟨rfl, rfl⟩
  go_wp2_with fail
  refine (HOR.out _).mono ?_
  rintro e x3 ⟨rfl, rfl⟩
  go_wp2_with fail
  refine (HSE.out _).mono ?_
  rintro e x4 ⟨rfl, rfl⟩
  go_wp2_with fail
  refine (HFO.out _).mono ?_
  rintro e x5 ⟨rfl, rfl⟩
  go_wp2
  go_ret
  exact ⟨rfl, HB5.out⟩
end Go.Proofs.Ytfokmldfnkonpaa
