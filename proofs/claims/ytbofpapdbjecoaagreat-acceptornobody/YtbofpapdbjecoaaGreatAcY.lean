/-
  What must come of every acceptor: the laws' lives.
-/
import Derived.Test.YtbofpapdbjecoaaGreatAcX
namespace Go.Proofs.YtbofpapdbjecoaaGreat
open Go.RowKit Go.Maps

/-- A message to node 1 with a Noop. -/
def mkMs (k fr : Int) (b : Int × Int) (sl : Int) : MsM := ⟨k, fr, 1, b, sl, ⟨noopEn, none, 0⟩, none, 0, [], none, 0, [], none, 0, [], 0⟩
theorem hv_noneY (w : World) : HV w none 0 [] := ⟨⟨fun x h => (by cases h), .inl rfl⟩, Nat.le_refl _, Nat.zero_le _⟩
theorem i64_0Y : I64 0 := by unfold I64; decide
theorem i64_1Y : I64 1 := by unfold I64; decide
theorem mkMs_ok (w : World) (k fr : Int) (b : Int × Int) (sl : Int) (hk : I64 k) (hf : I64 fr) (h1 : I64 b.1) (h2 : I64 b.2) (hs : I64 sl) : MsOk w (mkMs k fr b sl) :=
  ⟨⟨hv_noneY w, i64_0Y, Nat.zero_le _, Nat.zero_le _⟩, ⟨fun x h => (by cases h), .inl rfl⟩, Nat.zero_le _, hv_noneY w, ⟨fun x h => (by cases h), .inl rfl⟩, Nat.zero_le _, hk, hf, i64_1Y, h1, h2, hs, i64_0Y⟩
theorem mkMs_b (B : Nat) (k fr : Int) (b : Int × Int) (sl : Int) : MsB B (mkMs k fr b sl) := fun _ _ e _ => by cases e
def ms1 : MsM := mkMs 1 0 (2, 0) 0
def ms2 : MsM := mkMs 3 2 (1, 2) 0
def ms3 : MsM := mkMs 3 0 (2, 0) 3
def ac0 : Ac := newAc 1
def ac1 : Ac := promA ac0 (2, 0)
def ac3 : Ac := voteA ac1 3 ((2, 0), noopEn)
theorem takes_1 : takesA ac0 ms1 = true := by decide +kernel
theorem kind_1 : kindA ac0 ms1 = 2 := by decide +kernel
theorem after_1 : afterA ac0 ms1 = ac1 := by unfold afterA; rw [if_pos kind_1]; rfl
theorem rec_1 : ¬ (if changesA ac0 ms1 = true then recOf ms1 else ⟨#[]⟩ : ByteArray).toList = [] := by decide +kernel
theorem takes_2 : takesA ac1 ms2 = true := by decide +kernel
theorem kind_2 : kindA ac1 ms2 = 5 := by decide +kernel
theorem after_2 : afterA ac1 ms2 = ac1 := kind5_after kind_2
theorem rec_2 : (if changesA ac1 ms2 = true then recOf ms2 else ⟨#[]⟩) = (⟨#[]⟩ : ByteArray) := kind5_rec kind_2
theorem takes_3 : takesA ac1 ms3 = true := by decide +kernel
theorem kind_3 : kindA ac1 ms3 = 4 := by decide +kernel
theorem after_3 : afterA ac1 ms3 = ac3 := by unfold afterA; rw [if_neg (by rw [kind_3]; decide), if_pos kind_3]; rfl
theorem rec_3 : ¬ (if changesA ac1 ms3 = true then recOf ms3 else ⟨#[]⟩ : ByteArray).toList = [] := by decide +kernel
theorem votes_3 : (fromTo ac3 0 ac3.ks.length).length = 1 := by decide +kernel
set_option maxRecDepth 1000000 in
set_option maxHeartbeats 4000000 in
theorem livesAc (w : World) : Calls Tryz.prog 9 #[] w fun e w' => e = .returned (.bool true) ∧ Below w.heap.size w w' := by
  have HNEW := hid (newA_good w 1 (by omega) (by omega))
  go_enter Tryz.func9, Tryz.ntmps9
  go_wp2_with fail
  refine HNEW.out.mono ?_
  rintro e w1 ⟨p, m, rfl, hat, hb1, hp, hm⟩
  obtain ⟨W2, hW2⟩ : ∃ V, V = w1.alloc (.cells #[.bool true, .string ⟨#[]⟩, .string ⟨#[]⟩, .int .i64 0, .slice none 0 0] 39) := ⟨_, rfl⟩
  have hb2 : Below w1.heap.size w1 W2 := by rw [hW2]; exact (Below.refl _ _).alloc (Nat.le_refl _) _
  obtain ⟨be, hbe⟩ : ∃ q, q = w1.heap.size := ⟨_, rfl⟩
  have HL2 : Hid (AcIn w.heap.size W2 p m ac0) := ⟨hat.below hb2, hp, hm⟩
  have HB2 := hid (bt' hb1 hb2)
  have HK2 : Hid (Blk W2 be 39 [.bool true, .string ⟨#[]⟩, .string ⟨#[]⟩, .int .i64 0, .slice none 0 0]) := by rw [hW2, hbe]; exact Blk.new w1 _ _
  have HPF : Hid (¬ FootA p m be) := fun hf => by have := hat.lt _ hf; omega
  have HW2 := hid hW2
  have HBE := hid hbe
  obtain ⟨R1, HR1⟩ : ∃ R, Hid ((if changesA ac0 ms1 = true then recOf ms1 else ⟨#[]⟩) = R) := ⟨_, hid rfl⟩
  have hR1 : ¬ R1.toList = [] := by rw [← HR1.out]; exact rec_1
  obtain ⟨R3, HR3⟩ : ∃ R, Hid ((if changesA ac1 ms3 = true then recOf ms3 else ⟨#[]⟩) = R) := ⟨_, hid rfl⟩
  have hR3 : ¬ R3.toList = [] := by rw [← HR3.out]; exact rec_3
  have HC1 := hid (HL2.out.on_yes HB2.out.size ms1 (mkMs_ok _ _ _ _ _ (by unfold I64; decide) (by unfold I64; decide) (by unfold I64; decide) (by unfold I64; decide) (by unfold I64; decide)) (mkMs_b _ _ _ _ _) takes_1 after_1 kind_1 HR1.out (r := 2) (n := 0) (nd := 1) rfl rfl)
  simp only [ms1, mkMs, MsM.val, noopEn, List.length_nil] at HC1
  have c0 := HK2.out.cell (i := 0) rfl
  have c1 := HK2.out.cell (i := 1) rfl
  have c2 := HK2.out.cell (i := 2) rfl
  have c3 := HK2.out.cell (i := 3) rfl
  have c4 := HK2.out.cell (i := 4) rfl
  rw [HW2.out] at c0 c1 c2 c3 c4
  rw [HBE.out] at c0 c1 c2 c3 c4
  clear hat hb1 hb2 hp hm hW2 hbe HNEW
  go_wp2_with fail
  rw [← HW2.out, ← HBE.out]
  refine HC1.out.mono ?_
  rintro e v1 ⟨⟨vo1, vc1, N1, rfl⟩, hac1, ht1, hb1⟩
  obtain ⟨V1, hV1⟩ : ∃ V, V = v1.alloc (.cells #[.int .i64 2, .int .i64 1, .int .i64 0, .int .i64 2, .int .i64 0, .int .i64 0, .bool true, .string ⟨#[]⟩, .string ⟨#[]⟩, .int .i64 0, .slice none 0 0, .slice vo1 N1 vc1, .slice none 0 0, .slice none 0 0, .int .i64 0] 43) := ⟨_, rfl⟩
  have hc1 : Below v1.heap.size v1 V1 := by rw [hV1]; exact (Below.refl _ _).alloc (Nat.le_refl _) _
  obtain ⟨z1, hz1⟩ : ∃ q, q = v1.heap.size := ⟨_, rfl⟩
  have HZ1 : Hid (Blk V1 z1 43 [.int .i64 2, .int .i64 1, .int .i64 0, .int .i64 2, .int .i64 0, .int .i64 0, .bool true, .string ⟨#[]⟩, .string ⟨#[]⟩, .int .i64 0, .slice none 0 0, .slice vo1 N1 vc1, .slice none 0 0, .slice none 0 0, .int .i64 0]) := by rw [hV1, hz1]; exact Blk.new v1 _ _
  have HLV1 := hid (hac1.below hc1)
  have HBV1 := hid (bt' (HB2.out.trans hb1) hc1)
  have HPZ1 : Hid (¬ FootA p m z1) := fun hf => by have := hac1.at'.lt _ hf; omega
  have HVE1 := hid hV1
  have HZE1 := hid hz1
  have HEB1 := hid ((ht1.blk HK2.out HPF.out).below hc1 (ht1.blk HK2.out HPF.out).lt)
  have HC2 := hid (HLV1.out.on_yes HBV1.out.size ms2 (mkMs_ok _ _ _ _ _ (by unfold I64; decide) (by unfold I64; decide) (by unfold I64; decide) (by unfold I64; decide) (by unfold I64; decide)) (mkMs_b _ _ _ _ _) takes_2 after_2 kind_2 rec_2 (r := 2) (n := 0) (nd := 1) rfl rfl)
  simp only [ms2, mkMs, MsM.val, noopEn, List.length_nil] at HC2
  clear c0 c1 c2 c3 c4
  have c0 := HEB1.out.cell (i := 0) rfl
  have c1 := HEB1.out.cell (i := 1) rfl
  have c2 := HEB1.out.cell (i := 2) rfl
  have c3 := HEB1.out.cell (i := 3) rfl
  have c4 := HEB1.out.cell (i := 4) rfl
  rw [HVE1.out] at c0 c1 c2 c3 c4
  clear hac1 ht1 hb1 hc1 hV1 hz1 HC1
  go_wp2_with fail
  rw [← HVE1.out, ← HZE1.out]
  refine HC2.out.mono ?_
  rintro e v2 ⟨⟨vo2, vc2, N2, rfl⟩, hac2, ht2, hb2⟩
  obtain ⟨V2, hV2⟩ : ∃ V, V = v2.alloc (.cells #[.int .i64 5, .int .i64 1, .int .i64 2, .int .i64 2, .int .i64 0, .int .i64 0, .bool true, .string ⟨#[]⟩, .string ⟨#[]⟩, .int .i64 0, .slice none 0 0, .slice vo2 N2 vc2, .slice none 0 0, .slice none 0 0, .int .i64 0] 43) := ⟨_, rfl⟩
  have hc2 : Below v2.heap.size v2 V2 := by rw [hV2]; exact (Below.refl _ _).alloc (Nat.le_refl _) _
  obtain ⟨z2, hz2⟩ : ∃ q, q = v2.heap.size := ⟨_, rfl⟩
  have HZ2 : Hid (Blk V2 z2 43 [.int .i64 5, .int .i64 1, .int .i64 2, .int .i64 2, .int .i64 0, .int .i64 0, .bool true, .string ⟨#[]⟩, .string ⟨#[]⟩, .int .i64 0, .slice none 0 0, .slice vo2 N2 vc2, .slice none 0 0, .slice none 0 0, .int .i64 0]) := by rw [hV2, hz2]; exact Blk.new v2 _ _
  have HLV2 := hid (hac2.below hc2)
  have HBV2 := hid (bt' (HBV1.out.trans hb2) hc2)
  have HPZ2 : Hid (¬ FootA p m z2) := fun hf => by have := hac2.at'.lt _ hf; omega
  have HVE2 := hid hV2
  have HZE2 := hid hz2
  have HEB2 := hid ((ht2.blk HEB1.out HPF.out).below hc2 (ht2.blk HEB1.out HPF.out).lt)
  have HZ1b := hid ((ht2.blk HZ1.out HPZ1.out).below hc2 (ht2.blk HZ1.out HPZ1.out).lt)
  have HC3 := hid (HLV2.out.on_yes HBV2.out.size ms3 (mkMs_ok _ _ _ _ _ (by unfold I64; decide) (by unfold I64; decide) (by unfold I64; decide) (by unfold I64; decide) (by unfold I64; decide)) (mkMs_b _ _ _ _ _) takes_3 after_3 kind_3 HR3.out (r := 2) (n := 0) (nd := 1) rfl rfl)
  simp only [ms3, mkMs, MsM.val, noopEn, List.length_nil] at HC3
  clear c0 c1 c2 c3 c4
  have c0 := HEB2.out.cell (i := 0) rfl
  have c1 := HEB2.out.cell (i := 1) rfl
  have c2 := HEB2.out.cell (i := 2) rfl
  have c3 := HEB2.out.cell (i := 3) rfl
  have c4 := HEB2.out.cell (i := 4) rfl
  rw [HVE2.out] at c0 c1 c2 c3 c4
  clear hac2 ht2 hb2 hc2 hV2 hz2 HC2
  go_wp2_with fail
  rw [← HVE2.out, ← HZE2.out]
  refine HC3.out.mono ?_
  rintro e v3 ⟨⟨vo3, vc3, N3, rfl⟩, hac3, ht3, hb3⟩
  obtain ⟨V3, hV3⟩ : ∃ V, V = v3.alloc (.cells #[.int .i64 4, .int .i64 1, .int .i64 0, .int .i64 2, .int .i64 0, .int .i64 3, .bool true, .string ⟨#[]⟩, .string ⟨#[]⟩, .int .i64 0, .slice none 0 0, .slice vo3 N3 vc3, .slice none 0 0, .slice none 0 0, .int .i64 0] 43) := ⟨_, rfl⟩
  have hc3 : Below v3.heap.size v3 V3 := by rw [hV3]; exact (Below.refl _ _).alloc (Nat.le_refl _) _
  obtain ⟨z3, hz3⟩ : ∃ q, q = v3.heap.size := ⟨_, rfl⟩
  have HZ3 : Hid (Blk V3 z3 43 [.int .i64 4, .int .i64 1, .int .i64 0, .int .i64 2, .int .i64 0, .int .i64 3, .bool true, .string ⟨#[]⟩, .string ⟨#[]⟩, .int .i64 0, .slice none 0 0, .slice vo3 N3 vc3, .slice none 0 0, .slice none 0 0, .int .i64 0]) := by rw [hV3, hz3]; exact Blk.new v3 _ _
  have HLV3 := hid (hac3.below hc3)
  have HBV3 := hid (bt' (HBV2.out.trans hb3) hc3)
  have HPZ3 : Hid (¬ FootA p m z3) := fun hf => by have := hac3.at'.lt _ hf; omega
  have HVE3 := hid hV3
  have HZE3 := hid hz3
  have HZ1c3 := hid ((ht3.blk HZ1b.out HPZ1.out).below hc3 (ht3.blk HZ1b.out HPZ1.out).lt)
  have HZ2c3 := hid ((ht3.blk HZ2.out HPZ2.out).below hc3 (ht3.blk HZ2.out HPZ2.out).lt)
  have HVO := hid HLV3.out.at'.votes
  have a0 := HZ1c3.out.cell (i := 0) rfl
  have b0 := HZ2c3.out.cell (i := 0) rfl
  have b3 := HZ2c3.out.cell (i := 3) rfl
  have d0 := HZ3.out.cell (i := 0) rfl
  rw [HVE3.out] at a0 b0 b3 d0
  rw [HZE3.out] at d0
  clear hac3 ht3 hb3 hc3 hV3 hz3 HC3 c0 c1 c2 c3 c4
  go_wp2_with fail
  rw [← HVE3.out]
  refine HVO.out.mono ?_
  rintro e w9 ⟨vo, vc, vs, rfl, hmap, _, _, _, hb9⟩
  have hlen : vs.length = 1 := by have := congrArg List.length hmap; rw [votes_3] at this; simpa using this
  rw [hlen]
  have HB9 := hid (bt' HBV3.out hb9)
  clear hmap hb9 hlen
  go_wp2
  go_ret
  have hE1 : R1.toList.isEmpty = false := by simpa using hR1
  have hE3 : R3.toList.isEmpty = false := by simpa using hR3
  refine ⟨?_, HB9.out⟩
  show Ending.returned (.bool (!R1.toList.isEmpty && !R3.toList.isEmpty)) = _
  rw [hE1, hE3]
  rfl
end Go.Proofs.YtbofpapdbjecoaaGreat
