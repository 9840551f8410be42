/-
  Package codec: a reader's ballots and seals.
-/
import Derived.Test.YtmpkbdhihdboiaaGreatRdF
namespace Go.Proofs.YtmpkbdhihdboiaaGreat
open Go.RowKit Go.Maps

theorem RdAt.turned {F : Nat → Prop} {w w' : World} {rb : Nat} {ao : Option Addr} {len cap : Nat} {bs : List Int} {st : Option (List Int)} (h : RdAt w rb ao len cap bs st) (ht : Turns F w w') (hr : ¬ F rb) (ho : ∀ ad, ao = some ad → 0 < len → ¬ F ad.block) : RdAt w' rb ao len cap bs st := by
  obtain ⟨at', er, h1, h2⟩ := h.blk
  exact ⟨h.held.turned ht ho, at', er, ht.blk h1 hr, h2⟩
/-- What codec.ballotOf leaves. -/
def PartBal (w : World) (rb : Nat) (ao : Option Addr) (len cap : Nat) (bs : List Int) (st : Option (List Int)) (e : Ending) (w' : World) : Prop := (∃ (y0 : Int) (y1 : Int) , e = .returned (.agg #[.int .i64 y0, .int .i64 y1]) ∧ Got st (pNum 2147483647) y0 ∧ I64 y0 ∧ Got (nxt st (pNum 2147483647)) (pNum 6) y1 ∧ I64 y1) ∧ RdAt w' rb ao len cap bs (nxt (nxt st (pNum 2147483647)) (pNum 6)) ∧ Turns (fun i => i = rb) w w'
set_option maxRecDepth 1000000 in
set_option maxHeartbeats 4000000 in
theorem RdAt.partBal {w : World} {rb : Nat} {ao : Option Addr} {len cap : Nat} {bs : List Int} {st : Option (List Int)} (h : RdAt w rb ao len cap bs st) : Calls Tryz.prog 56 #[.pointer (some ⟨rb, 0, none⟩)] w (PartBal w rb ao len cap bs st) := by
  obtain ⟨W1, hW1⟩ : ∃ W, W = w.alloc (.cells #[.int .i64 0, .int .i64 0] 23) := ⟨_, rfl⟩
  obtain ⟨W, hW⟩ : ∃ W, W = W1.alloc (.cells #[.int .i64 0, .int .i64 0] 23) := ⟨_, rfl⟩
  have hs1 : W1.heap.size = w.heap.size + 1 := by rw [hW1]; simp
  have hb1 : Below w.heap.size w W1 := by rw [hW1]; exact (Below.refl _ _).alloc (Nat.le_refl _) _
  have hb : Below w.heap.size w W := by rw [hW]; exact hb1.alloc hb1.size _
  obtain ⟨rs, hrs⟩ : ∃ q, q = w.heap.size := ⟨_, rfl⟩
  obtain ⟨vb, hvb⟩ : ∃ q, q = w.heap.size + 1 := ⟨_, rfl⟩
  have HKR0 : Hid (Blk W rs 23 [.int .i64 0, .int .i64 0]) := by rw [hrs, hW, hW1]; exact (Blk.new w _ _).alloc _
  have HKV0 : Hid (Blk W vb 23 [.int .i64 0, .int .i64 0]) := by rw [hvb, hW, ← hs1]; exact Blk.new W1 _ _
  have hlt : rb < w.heap.size := by obtain ⟨_, _, hk, _⟩ := h.blk; exact hk.lt
  have HNE : Hid (vb ≠ rb ∧ rs ≠ rb ∧ w.heap.size ≤ vb ∧ w.heap.size ≤ rs ∧ rs < vb ∧ rb < w.heap.size) := ⟨by omega, by omega, by omega, by omega, by omega, hlt⟩
  have HOFF : Hid (∀ ad, ao = some ad → 0 < len → ad.block < w.heap.size) := fun ad e hl => h.held.old ad e hl
  have HR0 := hid (h.below hb)
  have HT0 : Hid (Turns (fun i => i = rb) w W) := Turns.of_below hb (Nat.le_refl _)
  have HW : Hid (W = (w.alloc (.cells #[.int .i64 0, .int .i64 0] 23)).alloc (.cells #[.int .i64 0, .int .i64 0] 23)) := by show _ = _; rw [hW, hW1]
  have HRS := hid hrs
  have HVB := hid hvb
  have HC0 := hid (fun V (hV : RdAt V rb ao len cap bs st) => hV.number 2147483647 (by decide))
  have HC1 := hid (fun V (hV : RdAt V rb ao len cap bs (nxt st (pNum 2147483647))) => hV.number 6 (by decide))
  clear h hW hW1 hs1 hb1 hb hrs hvb hlt
  go_enter Tryz.func56, Tryz.ntmps56
  go_wp2_with fail
  rw [← HW.out, ← HVB.out, ← HRS.out]
  refine (HC0.out _ HR0.out).mono ?_
  rintro e u0 ⟨⟨y0, rfl, hi, hg⟩, hr, ht⟩
  have HI0 := hid hi
  have HG0 := hid hg
  have hkv := ht.blk HKV0.out HNE.out.1
  have hkr := ht.blk HKR0.out HNE.out.2.1
  obtain ⟨X0, hX0⟩ : ∃ V, V = u0.setCell ⟨vb, 0, none⟩ (.int .i64 y0) := ⟨_, rfl⟩
  have hst : Turns (fun i => i = vb) u0 X0 := by rw [hX0]; exact (Turns.refl (fun i => i = vb) u0).setCell (p := ⟨vb, 0, none⟩) (.inl rfl) _
  have HKV1 : Hid (Blk X0 vb 23 [.int .i64 y0, .int .i64 0]) := by rw [hX0]; exact hkv.set 0 _
  have HKR1 : Hid (Blk X0 rs 23 [.int .i64 0, .int .i64 0]) := hst.blk hkr (by have := HNE.out.2.2.2.2.1; omega)
  have HR1 : Hid (RdAt X0 rb ao len cap bs (nxt st (pNum 2147483647))) := hr.turned hst (fun e => HNE.out.1 e.symm) (fun ad e hl hh => by have h1 := HOFF.out ad e hl; have h2 := HNE.out.2.2.1; omega)
  have HT1 : Hid (Turns (fun i => i = rb) w X0) := (turns_one HT0.out ht).trans hst (fun i hi => .inr (by rw [hi]; exact HNE.out.2.2.1))
  have e0 := hkv.cell (i := 0) rfl
  have g0 := hkv.frozen 0
  have HX0 := hid hX0
  clear hi hg hkv hkr hr ht hst hX0
  go_wp2_with fail
  rw [← HX0.out]
  refine (HC1.out _ HR1.out).mono ?_
  rintro e u1 ⟨⟨y1, rfl, hi, hg⟩, hr, ht⟩
  have HI1 := hid hi
  have HG1 := hid hg
  have hkv := ht.blk HKV1.out HNE.out.1
  have hkr := ht.blk HKR1.out HNE.out.2.1
  obtain ⟨X1, hX1⟩ : ∃ V, V = u1.setCell ⟨vb, 1, none⟩ (.int .i64 y1) := ⟨_, rfl⟩
  have hst : Turns (fun i => i = vb) u1 X1 := by rw [hX1]; exact (Turns.refl (fun i => i = vb) u1).setCell (p := ⟨vb, 1, none⟩) (.inl rfl) _
  have HKV2 : Hid (Blk X1 vb 23 [.int .i64 y0, .int .i64 y1]) := by rw [hX1]; exact hkv.set 1 _
  have HKR2 : Hid (Blk X1 rs 23 [.int .i64 0, .int .i64 0]) := hst.blk hkr (by have := HNE.out.2.2.2.2.1; omega)
  have HR2 : Hid (RdAt X1 rb ao len cap bs (nxt (nxt st (pNum 2147483647)) (pNum 6))) := hr.turned hst (fun e => HNE.out.1 e.symm) (fun ad e hl hh => by have h1 := HOFF.out ad e hl; have h2 := HNE.out.2.2.1; omega)
  have HT2 : Hid (Turns (fun i => i = rb) w X1) := (turns_one HT1.out ht).trans hst (fun i hi => .inr (by rw [hi]; exact HNE.out.2.2.1))
  have e1 := hkv.cell (i := 1) rfl
  have g1 := hkv.frozen 1
  have HX1 := hid hX1
  clear hi hg hkv hkr hr ht hst hX1 e0 g0
  have q0 := HKV2.out.cell (i := 0) rfl
  have q1 := HKV2.out.cell (i := 1) rfl
  have r0 := HKR2.out.cell (i := 0) rfl
  have f0 := HKR2.out.frozen 0
  have r1 := HKR2.out.cell (i := 1) rfl
  have f1 := HKR2.out.frozen 1
  rw [HX1.out] at q0 r0 f0 q1 r1 f1
  obtain ⟨W9, hW9⟩ : ∃ V, V = ((X1.setCell ⟨rs, 0, none⟩ (.int .i64 y0)).setCell ⟨rs, 1, none⟩ (.int .i64 y1)) := ⟨_, rfl⟩
  have hk9 : Blk W9 rs 23 [.int .i64 y0, .int .i64 y1] := by rw [hW9]; exact ((HKR2.out.set 0 _).set 1 _)
  have hst : Turns (fun i => i = rs) X1 W9 := by rw [hW9]; exact (((Turns.refl (fun i => i = rs) X1).setCell (p := ⟨rs, 0, none⟩) (.inl rfl) _).setCell (p := ⟨rs, 1, none⟩) (.inl rfl) _)
  have HR9 : Hid (RdAt W9 rb ao len cap bs (nxt (nxt st (pNum 2147483647)) (pNum 6))) := HR2.out.turned hst (fun e => HNE.out.2.1 e.symm) (fun ad e hl hh => by have h1 := HOFF.out ad e hl; have h2 := HNE.out.2.2.2.1; omega)
  have HT9 : Hid (Turns (fun i => i = rb) w W9) := HT2.out.trans hst (fun i hi => .inr (by rw [hi]; exact HNE.out.2.2.2.1))
  have k0 := hk9.cell (i := 0) rfl
  have k1 := hk9.cell (i := 1) rfl
  rw [HX1.out] at hW9
  clear hk9 hst
  go_wp2
  rw [← hW9]
  (try simp only [Exit.inBlock, Exit.then])
  refine bodyPost_ret (v := .agg #[.int .i64 y0, .int .i64 y1]) ?_ rfl ⟨⟨y0, y1, rfl, HG0.out, HI0.out, HG1.out, HI1.out⟩, HR9.out, HT9.out⟩
  rw [results_cell1B rfl]
  go_simp
/-- What codec.sealOf leaves. -/
def PartSeal (w : World) (rb : Nat) (ao : Option Addr) (len cap : Nat) (bs : List Int) (st : Option (List Int)) (e : Ending) (w' : World) : Prop := (∃ (y0 : ByteArray) (y1 : ByteArray) (y2 : Int) (a3 : Option Addr) (c3 : Nat) (y3 : List Int) , e = .returned (.agg #[.string y0, .string y1, .int .i64 y2, .slice a3 y3.length c3]) ∧ Got st pName y0 ∧ y0.size ≤ 32 ∧ Got (nxt st pName) pName y1 ∧ y1.size ≤ 32 ∧ Got (nxt (nxt st pName) pName) (pNum 2147483647) y2 ∧ I64 y2 ∧ Got (nxt (nxt (nxt st pName) pName) (pNum 2147483647)) pVec y3 ∧ HN w' a3 c3 y3 ∧ (∀ b off, a3 = some ⟨b, off, none⟩ → y3 ≠ [] → w.heap.size ≤ b)) ∧ RdAt w' rb ao len cap bs (nxt (nxt (nxt (nxt st pName) pName) (pNum 2147483647)) pVec) ∧ Turns (fun i => i = rb) w w'
set_option maxRecDepth 1000000 in
set_option maxHeartbeats 4000000 in
theorem RdAt.partSeal {w : World} {rb : Nat} {ao : Option Addr} {len cap : Nat} {bs : List Int} {st : Option (List Int)} (h : RdAt w rb ao len cap bs st) : Calls Tryz.prog 84 #[.pointer (some ⟨rb, 0, none⟩)] w (PartSeal w rb ao len cap bs st) := by
  obtain ⟨W1, hW1⟩ : ∃ W, W = w.alloc (.cells #[.string ⟨#[]⟩, .string ⟨#[]⟩, .int .i64 0, .slice none 0 0] 26) := ⟨_, rfl⟩
  obtain ⟨W, hW⟩ : ∃ W, W = W1.alloc (.cells #[.string ⟨#[]⟩, .string ⟨#[]⟩, .int .i64 0, .slice none 0 0] 26) := ⟨_, rfl⟩
  have hs1 : W1.heap.size = w.heap.size + 1 := by rw [hW1]; simp
  have hb1 : Below w.heap.size w W1 := by rw [hW1]; exact (Below.refl _ _).alloc (Nat.le_refl _) _
  have hb : Below w.heap.size w W := by rw [hW]; exact hb1.alloc hb1.size _
  obtain ⟨rs, hrs⟩ : ∃ q, q = w.heap.size := ⟨_, rfl⟩
  obtain ⟨vb, hvb⟩ : ∃ q, q = w.heap.size + 1 := ⟨_, rfl⟩
  have HKR0 : Hid (Blk W rs 26 [.string ⟨#[]⟩, .string ⟨#[]⟩, .int .i64 0, .slice none 0 0]) := by rw [hrs, hW, hW1]; exact (Blk.new w _ _).alloc _
  have HKV0 : Hid (Blk W vb 26 [.string ⟨#[]⟩, .string ⟨#[]⟩, .int .i64 0, .slice none 0 0]) := by rw [hvb, hW, ← hs1]; exact Blk.new W1 _ _
  have hlt : rb < w.heap.size := by obtain ⟨_, _, hk, _⟩ := h.blk; exact hk.lt
  have HNE : Hid (vb ≠ rb ∧ rs ≠ rb ∧ w.heap.size ≤ vb ∧ w.heap.size ≤ rs ∧ rs < vb ∧ rb < w.heap.size) := ⟨by omega, by omega, by omega, by omega, by omega, hlt⟩
  have HOFF : Hid (∀ ad, ao = some ad → 0 < len → ad.block < w.heap.size) := fun ad e hl => h.held.old ad e hl
  have HR0 := hid (h.below hb)
  have HT0 : Hid (Turns (fun i => i = rb) w W) := Turns.of_below hb (Nat.le_refl _)
  have HW : Hid (W = (w.alloc (.cells #[.string ⟨#[]⟩, .string ⟨#[]⟩, .int .i64 0, .slice none 0 0] 26)).alloc (.cells #[.string ⟨#[]⟩, .string ⟨#[]⟩, .int .i64 0, .slice none 0 0] 26)) := by show _ = _; rw [hW, hW1]
  have HRS := hid hrs
  have HVB := hid hvb
  have HC0 := hid (fun V (hV : RdAt V rb ao len cap bs st) => hV.name)
  have HC1 := hid (fun V (hV : RdAt V rb ao len cap bs (nxt st pName)) => hV.name)
  have HC2 := hid (fun V (hV : RdAt V rb ao len cap bs (nxt (nxt st pName) pName)) => hV.number 2147483647 (by decide))
  have HC3 := hid (fun V (hV : RdAt V rb ao len cap bs (nxt (nxt (nxt st pName) pName) (pNum 2147483647))) => hV.vector)
  clear h hW hW1 hs1 hb1 hb hrs hvb hlt
  go_enter Tryz.func84, Tryz.ntmps84
  go_wp2_with fail
  rw [← HW.out, ← HVB.out, ← HRS.out]
  refine (HC0.out _ HR0.out).mono ?_
  rintro e u0 ⟨⟨y0, rfl, hg, hi⟩, hr, ht⟩
  have HI0 := hid hi
  have HG0 := hid hg
  have hkv := ht.blk HKV0.out HNE.out.1
  have hkr := ht.blk HKR0.out HNE.out.2.1
  obtain ⟨X0, hX0⟩ : ∃ V, V = u0.setCell ⟨vb, 0, none⟩ (.string y0) := ⟨_, rfl⟩
  have hst : Turns (fun i => i = vb) u0 X0 := by rw [hX0]; exact (Turns.refl (fun i => i = vb) u0).setCell (p := ⟨vb, 0, none⟩) (.inl rfl) _
  have HKV1 : Hid (Blk X0 vb 26 [.string y0, .string ⟨#[]⟩, .int .i64 0, .slice none 0 0]) := by rw [hX0]; exact hkv.set 0 _
  have HKR1 : Hid (Blk X0 rs 26 [.string ⟨#[]⟩, .string ⟨#[]⟩, .int .i64 0, .slice none 0 0]) := hst.blk hkr (by have := HNE.out.2.2.2.2.1; omega)
  have HR1 : Hid (RdAt X0 rb ao len cap bs (nxt st pName)) := hr.turned hst (fun e => HNE.out.1 e.symm) (fun ad e hl hh => by have h1 := HOFF.out ad e hl; have h2 := HNE.out.2.2.1; omega)
  have HT1 : Hid (Turns (fun i => i = rb) w X0) := (turns_one HT0.out ht).trans hst (fun i hi => .inr (by rw [hi]; exact HNE.out.2.2.1))
  have e0 := hkv.cell (i := 0) rfl
  have g0 := hkv.frozen 0
  have HX0 := hid hX0
  clear hi hg hkv hkr hr ht hst hX0
  go_wp2_with fail
  rw [← HX0.out]
  refine (HC1.out _ HR1.out).mono ?_
  rintro e u1 ⟨⟨y1, rfl, hg, hi⟩, hr, ht⟩
  have HI1 := hid hi
  have HG1 := hid hg
  have hkv := ht.blk HKV1.out HNE.out.1
  have hkr := ht.blk HKR1.out HNE.out.2.1
  obtain ⟨X1, hX1⟩ : ∃ V, V = u1.setCell ⟨vb, 1, none⟩ (.string y1) := ⟨_, rfl⟩
  have hst : Turns (fun i => i = vb) u1 X1 := by rw [hX1]; exact (Turns.refl (fun i => i = vb) u1).setCell (p := ⟨vb, 1, none⟩) (.inl rfl) _
  have HKV2 : Hid (Blk X1 vb 26 [.string y0, .string y1, .int .i64 0, .slice none 0 0]) := by rw [hX1]; exact hkv.set 1 _
  have HKR2 : Hid (Blk X1 rs 26 [.string ⟨#[]⟩, .string ⟨#[]⟩, .int .i64 0, .slice none 0 0]) := hst.blk hkr (by have := HNE.out.2.2.2.2.1; omega)
  have HR2 : Hid (RdAt X1 rb ao len cap bs (nxt (nxt st pName) pName)) := hr.turned hst (fun e => HNE.out.1 e.symm) (fun ad e hl hh => by have h1 := HOFF.out ad e hl; have h2 := HNE.out.2.2.1; omega)
  have HT2 : Hid (Turns (fun i => i = rb) w X1) := (turns_one HT1.out ht).trans hst (fun i hi => .inr (by rw [hi]; exact HNE.out.2.2.1))
  have e1 := hkv.cell (i := 1) rfl
  have g1 := hkv.frozen 1
  have HX1 := hid hX1
  clear hi hg hkv hkr hr ht hst hX1
  clear e0 g0
  go_wp2_with fail
  rw [← HX1.out]
  refine (HC2.out _ HR2.out).mono ?_
  rintro e u2 ⟨⟨y2, rfl, hi, hg⟩, hr, ht⟩
  have HI2 := hid hi
  have HG2 := hid hg
  have hkv := ht.blk HKV2.out HNE.out.1
  have hkr := ht.blk HKR2.out HNE.out.2.1
  obtain ⟨X2, hX2⟩ : ∃ V, V = u2.setCell ⟨vb, 2, none⟩ (.int .i64 y2) := ⟨_, rfl⟩
  have hst : Turns (fun i => i = vb) u2 X2 := by rw [hX2]; exact (Turns.refl (fun i => i = vb) u2).setCell (p := ⟨vb, 2, none⟩) (.inl rfl) _
  have HKV3 : Hid (Blk X2 vb 26 [.string y0, .string y1, .int .i64 y2, .slice none 0 0]) := by rw [hX2]; exact hkv.set 2 _
  have HKR3 : Hid (Blk X2 rs 26 [.string ⟨#[]⟩, .string ⟨#[]⟩, .int .i64 0, .slice none 0 0]) := hst.blk hkr (by have := HNE.out.2.2.2.2.1; omega)
  have HR3 : Hid (RdAt X2 rb ao len cap bs (nxt (nxt (nxt st pName) pName) (pNum 2147483647))) := hr.turned hst (fun e => HNE.out.1 e.symm) (fun ad e hl hh => by have h1 := HOFF.out ad e hl; have h2 := HNE.out.2.2.1; omega)
  have HT3 : Hid (Turns (fun i => i = rb) w X2) := (turns_one HT2.out ht).trans hst (fun i hi => .inr (by rw [hi]; exact HNE.out.2.2.1))
  have e2 := hkv.cell (i := 2) rfl
  have g2 := hkv.frozen 2
  have HX2 := hid hX2
  clear hi hg hkv hkr hr ht hst hX2
  clear e1 g1
  go_wp2_with fail
  rw [← HX2.out]
  refine (HC3.out _ HR3.out).mono ?_
  rintro e u3 ⟨⟨a3, c3, y3, rfl, hg, hi, hab⟩, hr, ht⟩
  obtain ⟨n3, HN3⟩ : ∃ n, Hid (y3.length = n) := ⟨_, hid rfl⟩
  rw [HN3.out]
  have HAB3 : Hid (∀ b off, a3 = some ⟨b, off, none⟩ → y3 ≠ [] → vb < b) := fun b off e hne => Nat.lt_of_lt_of_le HKV3.out.lt (hab b off e hne)
  clear hab
  have HI3 := hid hi
  have HG3 := hid hg
  have hkv := ht.blk HKV3.out HNE.out.1
  have hkr := ht.blk HKR3.out HNE.out.2.1
  obtain ⟨X3, hX3⟩ : ∃ V, V = u3.setCell ⟨vb, 3, none⟩ (.slice a3 n3 c3) := ⟨_, rfl⟩
  have hst : Turns (fun i => i = vb) u3 X3 := by rw [hX3]; exact (Turns.refl (fun i => i = vb) u3).setCell (p := ⟨vb, 3, none⟩) (.inl rfl) _
  have HKV4 : Hid (Blk X3 vb 26 [.string y0, .string y1, .int .i64 y2, .slice a3 n3 c3]) := by rw [hX3]; exact hkv.set 3 _
  have HKR4 : Hid (Blk X3 rs 26 [.string ⟨#[]⟩, .string ⟨#[]⟩, .int .i64 0, .slice none 0 0]) := hst.blk hkr (by have := HNE.out.2.2.2.2.1; omega)
  have HR4 : Hid (RdAt X3 rb ao len cap bs (nxt (nxt (nxt (nxt st pName) pName) (pNum 2147483647)) pVec)) := hr.turned hst (fun e => HNE.out.1 e.symm) (fun ad e hl hh => by have h1 := HOFF.out ad e hl; have h2 := HNE.out.2.2.1; omega)
  have HT4 : Hid (Turns (fun i => i = rb) w X3) := (turns_one HT3.out ht).trans hst (fun i hi => .inr (by rw [hi]; exact HNE.out.2.2.1))
  have HV3x4 : Hid (HN X3 a3 c3 y3) := hnK hst HI3.out (fun b off e hne hh => by have h1 := HAB3.out b off e hne; omega)
  have e3 := hkv.cell (i := 3) rfl
  have g3 := hkv.frozen 3
  have HX3 := hid hX3
  clear hi hg hkv hkr hr ht hst hX3 e2 g2
  have q0 := HKV4.out.cell (i := 0) rfl
  have q1 := HKV4.out.cell (i := 1) rfl
  have q2 := HKV4.out.cell (i := 2) rfl
  have q3 := HKV4.out.cell (i := 3) rfl
  have r0 := HKR4.out.cell (i := 0) rfl
  have f0 := HKR4.out.frozen 0
  have r1 := HKR4.out.cell (i := 1) rfl
  have f1 := HKR4.out.frozen 1
  have r2 := HKR4.out.cell (i := 2) rfl
  have f2 := HKR4.out.frozen 2
  have r3 := HKR4.out.cell (i := 3) rfl
  have f3 := HKR4.out.frozen 3
  rw [HX3.out] at q0 r0 f0 q1 r1 f1 q2 r2 f2 q3 r3 f3
  obtain ⟨W9, hW9⟩ : ∃ V, V = ((((X3.setCell ⟨rs, 0, none⟩ (.string y0)).setCell ⟨rs, 1, none⟩ (.string y1)).setCell ⟨rs, 2, none⟩ (.int .i64 y2)).setCell ⟨rs, 3, none⟩ (.slice a3 n3 c3)) := ⟨_, rfl⟩
  have hk9 : Blk W9 rs 26 [.string y0, .string y1, .int .i64 y2, .slice a3 n3 c3] := by rw [hW9]; exact ((((HKR4.out.set 0 _).set 1 _).set 2 _).set 3 _)
  have hst : Turns (fun i => i = rs) X3 W9 := by rw [hW9]; exact (((((Turns.refl (fun i => i = rs) X3).setCell (p := ⟨rs, 0, none⟩) (.inl rfl) _).setCell (p := ⟨rs, 1, none⟩) (.inl rfl) _).setCell (p := ⟨rs, 2, none⟩) (.inl rfl) _).setCell (p := ⟨rs, 3, none⟩) (.inl rfl) _)
  have HR9 : Hid (RdAt W9 rb ao len cap bs (nxt (nxt (nxt (nxt st pName) pName) (pNum 2147483647)) pVec)) := HR4.out.turned hst (fun e => HNE.out.2.1 e.symm) (fun ad e hl hh => by have h1 := HOFF.out ad e hl; have h2 := HNE.out.2.2.2.1; omega)
  have HT9 : Hid (Turns (fun i => i = rb) w W9) := HT4.out.trans hst (fun i hi => .inr (by rw [hi]; exact HNE.out.2.2.2.1))
  have HVF3 : Hid (HN W9 a3 c3 y3) := hnK hst HV3x4.out (fun b off e hne hh => by have h1 := HAB3.out b off e hne; have h2 := HNE.out.2.2.2.2.1; omega)
  have k0 := hk9.cell (i := 0) rfl
  have k1 := hk9.cell (i := 1) rfl
  have k2 := hk9.cell (i := 2) rfl
  have k3 := hk9.cell (i := 3) rfl
  rw [HX3.out] at hW9
  clear hk9 hst
  go_wp2
  rw [← hW9]
  (try simp only [Exit.inBlock, Exit.then])
  refine bodyPost_ret (v := .agg #[.string y0, .string y1, .int .i64 y2, .slice a3 n3 c3]) ?_ rfl ⟨⟨y0, y1, y2, a3, c3, y3, by rw [HN3.out], HG0.out, HI0.out, HG1.out, HI1.out, HG2.out, HI2.out, HG3.out, HVF3.out, (fun b off e hne => by have h1 := HAB3.out b off e hne; have h2 := HNE.out.2.2.1; omega)⟩, HR9.out, HT9.out⟩
  rw [results_cell1B rfl]
  go_simp
end Go.Proofs.YtmpkbdhihdboiaaGreat
