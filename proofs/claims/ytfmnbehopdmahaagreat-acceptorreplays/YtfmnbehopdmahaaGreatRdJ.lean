/-
  Package codec: a reader's ballots and seals.
-/
import Derived.Test.YtfmnbehopdmahaaGreatRdF
namespace Go.Proofs.YtfmnbehopdmahaaGreat
open Go.RowKit Go.Maps

theorem RdAt.turned {F : Nat → Prop} {w w' : World} {rb : Nat} {ao : Option Addr} {len cap : Nat} {bs : List Int} {st : Option (List Int)} (h : RdAt w rb ao len cap bs st) (ht : Turns F w w') (hr : ¬ F rb) (ho : ∀ ad, ao = some ad → 0 < len → ¬ F ad.block) : RdAt w' rb ao len cap bs st := by
  obtain ⟨at', er, h1, h2⟩ := h.blk
  exact ⟨h.held.turned ht ho, at', er, ht.blk h1 hr, h2⟩
/-- What codec.ballotOf leaves. -/
def PartBal (w : World) (rb : Nat) (ao : Option Addr) (len cap : Nat) (bs : List Int) (st : Option (List Int)) (e : Ending) (w' : World) : Prop := (∃ (y0 : Int) (y1 : Int) , e = .returned (.agg #[.int .i64 y0, .int .i64 y1]) ∧ Got st (pNum 2147483647) y0 ∧ I64 y0 ∧ Got (nxt st (pNum 2147483647)) (pNum 6) y1 ∧ I64 y1) ∧ RdAt w' rb ao len cap bs (nxt (nxt st (pNum 2147483647)) (pNum 6)) ∧ Turns (fun i => i = rb) w w'
set_option maxRecDepth 1000000 in
set_option maxHeartbeats 4000000 in
theorem RdAt.partBal {w : World} {rb : Nat} {ao : Option Addr} {len cap : Nat} {bs : List Int} {st : Option (List Int)} (h : RdAt w rb ao len cap bs st) : Calls Tryz.prog 74 #[.pointer (some ⟨rb, 0, none⟩)] w (PartBal w rb ao len cap bs st) := by
  obtain ⟨W1, hW1⟩ : ∃ W, W = w.alloc (.cells #[.int .i64 0, .int .i64 0] 35) := ⟨_, rfl⟩
  obtain ⟨W, hW⟩ : ∃ W, W = W1.alloc (.cells #[.int .i64 0, .int .i64 0] 35) := ⟨_, rfl⟩
  have hs1 : W1.heap.size = w.heap.size + 1 := by rw [hW1]; simp
  have hb1 : Below w.heap.size w W1 := by rw [hW1]; exact (Below.refl _ _).alloc (Nat.le_refl _) _
  have hb : Below w.heap.size w W := by rw [hW]; exact hb1.alloc hb1.size _
  obtain ⟨rs, hrs⟩ : ∃ q, q = w.heap.size := ⟨_, rfl⟩
  obtain ⟨vb, hvb⟩ : ∃ q, q = w.heap.size + 1 := ⟨_, rfl⟩
  have HKR0 : Hid (Blk W rs 35 [.int .i64 0, .int .i64 0]) := by rw [hrs, hW, hW1]; exact (Blk.new w _ _).alloc _
  have HKV0 : Hid (Blk W vb 35 [.int .i64 0, .int .i64 0]) := by rw [hvb, hW, ← hs1]; exact Blk.new W1 _ _
  have hlt : rb < w.heap.size := by obtain ⟨_, _, hk, _⟩ := h.blk; exact hk.lt
  have HNE : Hid (vb ≠ rb ∧ rs ≠ rb ∧ w.heap.size ≤ vb ∧ w.heap.size ≤ rs ∧ rs < vb ∧ rb < w.heap.size) := ⟨by omega, by omega, by omega, by omega, by omega, hlt⟩
  have HOFF : Hid (∀ ad, ao = some ad → 0 < len → ad.block < w.heap.size) := fun ad e hl => h.held.old ad e hl
  have HR0 := hid (h.below hb)
  have HT0 : Hid (Turns (fun i => i = rb) w W) := Turns.of_below hb (Nat.le_refl _)
  have HW : Hid (W = (w.alloc (.cells #[.int .i64 0, .int .i64 0] 35)).alloc (.cells #[.int .i64 0, .int .i64 0] 35)) := by show _ = _; rw [hW, hW1]
  have HRS := hid hrs
  have HVB := hid hvb
  have HC0 := hid (fun V (hV : RdAt V rb ao len cap bs st) => hV.number 2147483647 (by decide))
  have HC1 := hid (fun V (hV : RdAt V rb ao len cap bs (nxt st (pNum 2147483647))) => hV.number 6 (by decide))
  clear h hW hW1 hs1 hb1 hb hrs hvb hlt
  go_enter Tryz.func74, Tryz.ntmps74
  go_wp2_with fail
  rw [← HW.out, ← HVB.out, ← HRS.out]
  refine (HC0.out _ HR0.out).mono ?_
  rintro e u0 ⟨⟨y0, rfl, hi, hg⟩, hr, ht⟩
  have HI0 := hid hi
  have HG0 := hid hg
  have hkv := ht.blk HKV0.out HNE.out.1
  have hkr := ht.blk HKR0.out HNE.out.2.1
  obtain ⟨X0, hX0⟩ : ∃ V, V = u0.setCell ⟨vb, 0, none⟩ (.int .i64 y0) := ⟨_, rfl⟩
  have hst : Turns (fun i => i = vb) u0 X0 := by rw [hX0]; exact (Turns.refl (fun i => i = vb) u0).setCell (p := ⟨vb, 0, none⟩) (.inl rfl) _
  have HKV1 : Hid (Blk X0 vb 35 [.int .i64 y0, .int .i64 0]) := by rw [hX0]; exact hkv.set 0 _
  have HKR1 : Hid (Blk X0 rs 35 [.int .i64 0, .int .i64 0]) := hst.blk hkr (by have := HNE.out.2.2.2.2.1; omega)
  have HR1 : Hid (RdAt X0 rb ao len cap bs (nxt st (pNum 2147483647))) := hr.turned hst (fun e => HNE.out.1 e.symm) (fun ad e hl hh => by have h1 := HOFF.out ad e hl; have h2 := HNE.out.2.2.1; omega)
  have HT1 : Hid (Turns (fun i => i = rb) w X0) := (turns_one HT0.out ht).trans hst (fun i hi => .inr (by rw [hi]; exact HNE.out.2.2.1))
  have e0 := hkv.cell (i := 0) rfl
  have g0 := hkv.frozen 0
  have HX0 := hid hX0
  clear hi hg hkv hkr hr ht hst hX0
  go_wp2_with fail
  rw [← HX0.out]
  refine (HC1.out _ HR1.out).mono ?_
  rintro e u1 ⟨⟨y1, rfl, hi, hg⟩, hr, ht⟩
  have HI1 := hid hi
  have HG1 := hid hg
  have hkv := ht.blk HKV1.out HNE.out.1
  have hkr := ht.blk HKR1.out HNE.out.2.1
  obtain ⟨X1, hX1⟩ : ∃ V, V = u1.setCell ⟨vb, 1, none⟩ (.int .i64 y1) := ⟨_, rfl⟩
  have hst : Turns (fun i => i = vb) u1 X1 := by rw [hX1]; exact (Turns.refl (fun i => i = vb) u1).setCell (p := ⟨vb, 1, none⟩) (.inl rfl) _
  have HKV2 : Hid (Blk X1 vb 35 [.int .i64 y0, .int .i64 y1]) := by rw [hX1]; exact hkv.set 1 _
  have HKR2 : Hid (Blk X1 rs 35 [.int .i64 0, .int .i64 0]) := hst.blk hkr (by have := HNE.out.2.2.2.2.1; omega)
  have HR2 : Hid (RdAt X1 rb ao len cap bs (nxt (nxt st (pNum 2147483647)) (pNum 6))) := hr.turned hst (fun e => HNE.out.1 e.symm) (fun ad e hl hh => by have h1 := HOFF.out ad e hl; have h2 := HNE.out.2.2.1; omega)
  have HT2 : Hid (Turns (fun i => i = rb) w X1) := (turns_one HT1.out ht).trans hst (fun i hi => .inr (by rw [hi]; exact HNE.out.2.2.1))
  have e1 := hkv.cell (i := 1) rfl
  have g1 := hkv.frozen 1
  have HX1 := hid hX1
  clear hi hg hkv hkr hr ht hst hX1 e0 g0
  have q0 := HKV2.out.cell (i := 0) rfl
  have q1 := HKV2.out.cell (i := 1) rfl
  have r0 := HKR2.out.cell (i := 0) rfl
  have f0 := HKR2.out.frozen 0
  have r1 := HKR2.out.cell (i := 1) rfl
  have f1 := HKR2.out.frozen 1
  rw [HX1.out] at q0 r0 f0 q1 r1 f1
  obtain ⟨W9, hW9⟩ : ∃ V, V = ((X1.setCell ⟨rs, 0, none⟩ (.int .i64 y0)).setCell ⟨rs, 1, none⟩ (.int .i64 y1)) := ⟨_, rfl⟩
  have hk9 : Blk W9 rs 35 [.int .i64 y0, .int .i64 y1] := by rw [hW9]; exact ((HKR2.out.set 0 _).set 1 _)
  have hst : Turns (fun i => i = rs) X1 W9 := by rw [hW9]; exact (((Turns.refl (fun i => i = rs) X1).setCell (p := ⟨rs, 0, none⟩) (.inl rfl) _).setCell (p := ⟨rs, 1, none⟩) (.inl rfl) _)
  have HR9 : Hid (RdAt W9 rb ao len cap bs (nxt (nxt st (pNum 2147483647)) (pNum 6))) := HR2.out.turned hst (fun e => HNE.out.2.1 e.symm) (fun ad e hl hh => by have h1 := HOFF.out ad e hl; have h2 := HNE.out.2.2.2.1; omega)
  have HT9 : Hid (Turns (fun i => i = rb) w W9) := HT2.out.trans hst (fun i hi => .inr (by rw [hi]; exact HNE.out.2.2.2.1))
  have k0 := hk9.cell (i := 0) rfl
  have k1 := hk9.cell (i := 1) rfl
  rw [HX1.out] at hW9
  clear hk9 hst
  go_wp2
  rw [← hW9]
  (try simp only [Exit.inBlock, Exit.then])
  refine bodyPost_ret (v := .agg #[.int .i64 y0, .int .i64 y1]) ?_ rfl ⟨⟨y0, y1, rfl, HG0.out, HI0.out, HG1.out, HI1.out⟩, HR9.out, HT9.out⟩
  rw [results_cell1B rfl]
  go_simp
/-- What codec.sealOf leaves. -/
def PartSeal (w : World) (rb : Nat) (ao : Option Addr) (len cap : Nat) (bs : List Int) (st : Option (List Int)) (e : Ending) (w' : World) : Prop := (∃ (y0 : ByteArray) (y1 : ByteArray) (y2 : Int) (a3 : Option Addr) (c3 : Nat) (y3 : List Int) , e = .returned (.agg #[.string y0, .string y1, .int .i64 y2, .slice a3 y3.length c3]) ∧ Got st pName y0 ∧ y0.size ≤ 32 ∧ Got (nxt st pName) pName y1 ∧ y1.size ≤ 32 ∧ Got (nxt (nxt st pName) pName) (pNum 2147483647) y2 ∧ I64 y2 ∧ Got (nxt (nxt (nxt st pName) pName) (pNum 2147483647)) pVec y3 ∧ HN w' a3 c3 y3 ∧ (∀ b off, a3 = some ⟨b, off, none⟩ → y3 ≠ [] → w.heap.size ≤ b)) ∧ RdAt w' rb ao len cap bs (nxt (nxt (nxt (nxt st pName) pName) (pNum 2147483647)) pVec) ∧ Turns (fun i => i = rb) w w'
set_option maxRecDepth 1000000 in
set_option maxHeartbeats 4000000 in
theorem RdAt.partSeal {w : World} {rb : Nat} {ao : Option Addr} {len cap : Nat} {bs : List Int} {st : Option (List Int)} (h : RdAt w rb ao len cap bs st) : Calls Tryz.prog 118 #[.pointer (some ⟨rb, 0, none⟩)] w (PartSeal w rb ao len cap bs st) := by
  obtain ⟨W1, hW1⟩ : ∃ W, W = w.alloc (.cells #[.string ⟨#[]⟩, .string ⟨#[]⟩, .int .i64 0, .slice none 0 0] 37) := ⟨_, rfl⟩
  obtain ⟨W, hW⟩ : ∃ W, W = W1.alloc (.cells #[.string ⟨#[]⟩, .string ⟨#[]⟩, .int .i64 0, .slice none 0 0] 37) := ⟨_, rfl⟩
  have hs1 : W1.heap.size = w.heap.size + 1 := by rw [hW1]; simp
  have hb1 : Below w.heap.size w W1 := by rw [hW1]; exact (Below.refl _ _).alloc (Nat.le_refl _) _
  have hb : Below w.heap.size w W := by rw [hW]; exact hb1.alloc hb1.size _
  obtain ⟨rs, hrs⟩ : ∃ q, q = w.heap.size := ⟨_, rfl⟩
  obtain ⟨vb, hvb⟩ : ∃ q, q = w.heap.size + 1 := ⟨_, rfl⟩
  have HKR0 : Hid (Blk W rs 37 [.string ⟨#[]⟩, .string ⟨#[]⟩, .int .i64 0, .slice none 0 0]) := by rw [hrs, hW, hW1]; exact (Blk.new w _ _).alloc _
  have HKV0 : Hid (Blk W vb 37 [.string ⟨#[]⟩, .string ⟨#[]⟩, .int .i64 0, .slice none 0 0]) := by rw [hvb, hW, ← hs1]; exact Blk.new W1 _ _
  have hlt : rb < w.heap.size := by obtain ⟨_, _, hk, _⟩ := h.blk; exact hk.lt
  have HNE : Hid (vb ≠ rb ∧ rs ≠ rb ∧ w.heap.size ≤ vb ∧ w.heap.size ≤ rs ∧ rs < vb ∧ rb < w.heap.size) := ⟨by omega, by omega, by omega, by omega, by omega, hlt⟩
  have HOFF : Hid (∀ ad, ao = some ad → 0 < len → ad.block < w.heap.size) := fun ad e hl => h.held.old ad e hl
  have HR0 := hid (h.below hb)
  have HT0 : Hid (Turns (fun i => i = rb) w W) := Turns.of_below hb (Nat.le_refl _)
  have HW : Hid (W = (w.alloc (.cells #[.string ⟨#[]⟩, .string ⟨#[]⟩, .int .i64 0, .slice none 0 0] 37)).alloc (.cells #[.string ⟨#[]⟩, .string ⟨#[]⟩, .int .i64 0, .slice none 0 0] 37)) := by show _ = _; rw [hW, hW1]
  have HRS := hid hrs
  have HVB := hid hvb
  have HC0 := hid (fun V (hV : RdAt V rb ao len cap bs st) => hV.name)
  have HC1 := hid (fun V (hV : RdAt V rb ao len cap bs (nxt st pName)) => hV.name)
  have HC2 := hid (fun V (hV : RdAt V rb ao len cap bs (nxt (nxt st pName) pName)) => hV.number 2147483647 (by decide))
  have HC3 := hid (fun V (hV : RdAt V rb ao len cap bs (nxt (nxt (nxt st pName) pName) (pNum 2147483647))) => hV.vector)
  clear h hW hW1 hs1 hb1 hb hrs hvb hlt
  go_enter Tryz.func118, Tryz.ntmps118
  go_wp2_with fail
  rw [← HW.out, ← HVB.out, ← HRS.out]
  refine (HC0.out _ HR0.out).mono ?_
  rintro e u0 ⟨⟨y0, rfl, hg, hi⟩, hr, ht⟩
  have HI0 := hid hi
  have HG0 := hid hg
  have hkv := ht.blk HKV0.out HNE.out.1
  have hkr := ht.blk HKR0.out HNE.out.2.1
  obtain ⟨X0, hX0⟩ : ∃ V, V = u0.setCell ⟨vb, 0, none⟩ (.string y0) := ⟨_, rfl⟩
  have hst : Turns (fun i => i = vb) u0 X0 := by rw [hX0]; exact (Turns.refl (fun i => i = vb) u0).setCell (p := ⟨vb, 0, none⟩) (.inl rfl) _
  have HKV1 : Hid (Blk X0 vb 37 [.string y0, .string ⟨#[]⟩, .int .i64 0, .slice none 0 0]) := by rw [hX0]; exact hkv.set 0 _
  have HKR1 : Hid (Blk X0 rs 37 [.string ⟨#[]⟩, .string ⟨#[]⟩, .int .i64 0, .slice none 0 0]) := hst.blk hkr (by have := HNE.out.2.2.2.2.1; omega)
  have HR1 : Hid (RdAt X0 rb ao len cap bs (nxt st pName)) := hr.turned hst (fun e => HNE.out.1 e.symm) (fun ad e hl hh => by have h1 := HOFF.out ad e hl; have h2 := HNE.out.2.2.1; omega)
  have HT1 : Hid (Turns (fun i => i = rb) w X0) := (turns_one HT0.out ht).trans hst (fun i hi => .inr (by rw [hi]; exact HNE.out.2.2.1))
  have e0 := hkv.cell (i := 0) rfl
  have g0 := hkv.frozen 0
  have HX0 := hid hX0
  clear hi hg hkv hkr hr ht hst hX0
  go_wp2_with fail
  rw [← HX0.out]
  refine (HC1.out _ HR1.out).mono ?_
  rintro e u1 ⟨⟨y1, rfl, hg, hi⟩, hr, ht⟩
  have HI1 := hid hi
  have HG1 := hid hg
  have hkv := ht.blk HKV1.out HNE.out.1
  have hkr := ht.blk HKR1.out HNE.out.2.1
  obtain ⟨X1, hX1⟩ : ∃ V, V = u1.setCell ⟨vb, 1, none⟩ (.string y1) := ⟨_, rfl⟩
  have hst : Turns (fun i => i = vb) u1 X1 := by rw [hX1]; exact (Turns.refl (fun i => i = vb) u1).setCell (p := ⟨vb, 1, none⟩) (.inl rfl) _
  have HKV2 : Hid (Blk X1 vb 37 [.string y0, .string y1, .int .i64 0, .slice none 0 0]) := by rw [hX1]; exact hkv.set 1 _
  have HKR2 : Hid (Blk X1 rs 37 [.string ⟨#[]⟩, .string ⟨#[]⟩, .int .i64 0, .slice none 0 0]) := hst.blk hkr (by have := HNE.out.2.2.2.2.1; omega)
  have HR2 : Hid (RdAt X1 rb ao len cap bs (nxt (nxt st pName) pName)) := hr.turned hst (fun e => HNE.out.1 e.symm) (fun ad e hl hh => by have h1 := HOFF.out ad e hl; have h2 := HNE.out.2.2.1; omega)
  have HT2 : Hid (Turns (fun i => i = rb) w X1) := (turns_one HT1.out ht).trans hst (fun i hi => .inr (by rw [hi]; exact HNE.out.2.2.1))
  have e1 := hkv.cell (i := 1) rfl
  have g1 := hkv.frozen 1
  have HX1 := hid hX1
  clear hi hg hkv hkr hr ht hst hX1
  clear e0 g0
  go_wp2_with fail
  rw [← HX1.out]
  refine (HC2.out _ HR2.out).mono ?_
  rintro e u2 ⟨⟨y2, rfl, hi, hg⟩, hr, ht⟩
  have HI2 := hid hi
  have HG2 := hid hg
  have hkv := ht.blk HKV2.out HNE.out.1
  have hkr := ht.blk HKR2.out HNE.out.2.1
  obtain ⟨X2, hX2⟩ : ∃ V, V = u2.setCell ⟨vb, 2, none⟩ (.int .i64 y2) := ⟨_, rfl⟩
  have hst : Turns (fun i => i = vb) u2 X2 := by rw [hX2]; exact (Turns.refl (fun i => i = vb) u2).setCell (p := ⟨vb, 2, none⟩) (.inl rfl) _
  have HKV3 : Hid (Blk X2 vb 37 [.string y0, .string y1, .int .i64 y2, .slice none 0 0]) := by rw [hX2]; exact hkv.set 2 _
  have HKR3 : Hid (Blk X2 rs 37 [.string ⟨#[]⟩, .string ⟨#[]⟩, .int .i64 0, .slice none 0 0]) := hst.blk hkr (by have := HNE.out.2.2.2.2.1; omega)
  have HR3 : Hid (RdAt X2 rb ao len cap bs (nxt (nxt (nxt st pName) pName) (pNum 2147483647))) := hr.turned hst (fun e => HNE.out.1 e.symm) (fun ad e hl hh => by have h1 := HOFF.out ad e hl; have h2 := HNE.out.2.2.1; omega)
  have HT3 : Hid (Turns (fun i => i = rb) w X2) := (turns_one HT2.out ht).trans hst (fun i hi => .inr (by rw [hi]; exact HNE.out.2.2.1))
  have e2 := hkv.cell (i := 2) rfl
  have g2 := hkv.frozen 2
  have HX2 := hid hX2
  clear hi hg hkv hkr hr ht hst hX2
  clear e1 g1
  go_wp2_with fail
  rw [← HX2.out]
  refine (HC3.out _ HR3.out).mono ?_
  rintro e u3 ⟨⟨a3, c3, y3, rfl, hg, hi, hab⟩, hr, ht⟩
  obtain ⟨n3, HN3⟩ : ∃ n, Hid (y3.length = n) := ⟨_, hid rfl⟩
  rw [HN3.out]
  have HAB3 : Hid (∀ b off, a3 = some ⟨b, off, none⟩ → y3 ≠ [] → vb < b) := fun b off e hne => Nat.lt_of_lt_of_le HKV3.out.lt (hab b off e hne)
  clear hab
  have HI3 := hid hi
  have HG3 := hid hg
  have hkv := ht.blk HKV3.out HNE.out.1
  have hkr := ht.blk HKR3.out HNE.out.2.1
  obtain ⟨X3, hX3⟩ : ∃ V, V = u3.setCell ⟨vb, 3, none⟩ (.slice a3 n3 c3) := ⟨_, rfl⟩
  have hst : Turns (fun i => i = vb) u3 X3 := by rw [hX3]; exact (Turns.refl (fun i => i = vb) u3).setCell (p := ⟨vb, 3, none⟩) (.inl rfl) _
  have HKV4 : Hid (Blk X3 vb 37 [.string y0, .string y1, .int .i64 y2, .slice a3 n3 c3]) := by rw [hX3]; exact hkv.set 3 _
  have HKR4 : Hid (Blk X3 rs 37 [.string ⟨#[]⟩, .string ⟨#[]⟩, .int .i64 0, .slice none 0 0]) := hst.blk hkr (by have := HNE.out.2.2.2.2.1; omega)
  have HR4 : Hid (RdAt X3 rb ao len cap bs (nxt (nxt (nxt (nxt st pName) pName) (pNum 2147483647)) pVec)) := hr.turned hst (fun e => HNE.out.1 e.symm) (fun ad e hl hh => by have h1 := HOFF.out ad e hl; have h2 := HNE.out.2.2.1; omega)
  have HT4 : Hid (Turns (fun i => i = rb) w X3) := (turns_one HT3.out ht).trans hst (fun i hi => .inr (by rw [hi]; exact HNE.out.2.2.1))
  have HV3x4 : Hid (HN X3 a3 c3 y3) := hnK hst HI3.out (fun b off e hne hh => by have h1 := HAB3.out b off e hne; omega)
  have e3 := hkv.cell (i := 3) rfl
  have g3 := hkv.frozen 3
  have HX3 := hid hX3
  clear hi hg hkv hkr hr ht hst hX3 e2 g2
  have q0 := HKV4.out.cell (i := 0) rfl
  have q1 := HKV4.out.cell (i := 1) rfl
  have q2 := HKV4.out.cell (i := 2) rfl
  have q3 := HKV4.out.cell (i := 3) rfl
  have r0 := HKR4.out.cell (i := 0) rfl
  have f0 := HKR4.out.frozen 0
  have r1 := HKR4.out.cell (i := 1) rfl
  have f1 := HKR4.out.frozen 1
  have r2 := HKR4.out.cell (i := 2) rfl
  have f2 := HKR4.out.frozen 2
  have r3 := HKR4.out.cell (i := 3) rfl
  have f3 := HKR4.out.frozen 3
  rw [HX3.out] at q0 r0 f0 q1 r1 f1 q2 r2 f2 q3 r3 f3
  obtain ⟨W9, hW9⟩ : ∃ V, V = ((((X3.setCell ⟨rs, 0, none⟩ (.string y0)).setCell ⟨rs, 1, none⟩ (.string y1)).setCell ⟨rs, 2, none⟩ (.int .i64 y2)).setCell ⟨rs, 3, none⟩ (.slice a3 n3 c3)) := ⟨_, rfl⟩
  have hk9 : Blk W9 rs 37 [.string y0, .string y1, .int .i64 y2, .slice a3 n3 c3] := by rw [hW9]; exact ((((HKR4.out.set 0 _).set 1 _).set 2 _).set 3 _)
  have hst : Turns (fun i => i = rs) X3 W9 := by rw [hW9]; exact (((((Turns.refl (fun i => i = rs) X3).setCell (p := ⟨rs, 0, none⟩) (.inl rfl) _).setCell (p := ⟨rs, 1, none⟩) (.inl rfl) _).setCell (p := ⟨rs, 2, none⟩) (.inl rfl) _).setCell (p := ⟨rs, 3, none⟩) (.inl rfl) _)
  have HR9 : Hid (RdAt W9 rb ao len cap bs (nxt (nxt (nxt (nxt st pName) pName) (pNum 2147483647)) pVec)) := HR4.out.turned hst (fun e => HNE.out.2.1 e.symm) (fun ad e hl hh => by have h1 := HOFF.out ad e hl; have h2 := HNE.out.2.2.2.1; omega)
  have HT9 : Hid (Turns (fun i => i = rb) w W9) := HT4.out.trans hst (fun i hi => .inr (by rw [hi]; exact HNE.out.2.2.2.1))
  have HVF3 : Hid (HN W9 a3 c3 y3) := hnK hst HV3x4.out (fun b off e hne hh => by have h1 := HAB3.out b off e hne; have h2 := HNE.out.2.2.2.2.1; omega)
  have k0 := hk9.cell (i := 0) rfl
  have k1 := hk9.cell (i := 1) rfl
  have k2 := hk9.cell (i := 2) rfl
  have k3 := hk9.cell (i := 3) rfl
  rw [HX3.out] at hW9
  clear hk9 hst
  go_wp2
  rw [← hW9]
  (try simp only [Exit.inBlock, Exit.then])
  refine bodyPost_ret (v := .agg #[.string y0, .string y1, .int .i64 y2, .slice a3 n3 c3]) ?_ rfl ⟨⟨y0, y1, y2, a3, c3, y3, by rw [HN3.out], HG0.out, HI0.out, HG1.out, HI1.out, HG2.out, HI2.out, HG3.out, HVF3.out, (fun b off e hne => by have h1 := HAB3.out b off e hne; have h2 := HNE.out.2.2.1; omega)⟩, HR9.out, HT9.out⟩
  rw [results_cell1B rfl]
  go_simp
end Go.Proofs.YtfmnbehopdmahaaGreat
/-
  Package codec: a reader's entries.
-/
namespace Go.Proofs.YtfmnbehopdmahaaGreat
open Go.RowKit Go.Maps

theorem nxt_seq {α β : Type} (st : Option (List Int)) (p : Rdr α) (q : Rdr β) : nxt (nxt st p) q = nxt st (pSeq p q) := by
  unfold nxt pSeq
  cases st with
  | none => rfl
  | some b =>
    simp only [Option.bind_some]
    cases p b with
    | none => rfl
    | some r =>
      obtain ⟨x, s⟩ := r
      simp only [Option.map_some, Option.bind_some]
      cases q s with
      | none => rfl
      | some t => rfl
theorem got_seq {α β : Type} {st : Option (List Int)} {p : Rdr α} {q : Rdr β} {x : α} {y : β} (h : Got st p x) (k : Got (nxt st p) q y) : Got st (pSeq p q) (x, y) := by
  intro z r hz
  cases st with
  | none => cases hz
  | some b =>
    simp only [Option.bind_some, pSeq] at hz
    cases hp : p b with
    | none => rw [hp] at hz; cases hz
    | some t =>
      obtain ⟨u, s⟩ := t
      rw [hp] at hz
      simp only [Option.bind_some] at hz
      cases hq : q s with
      | none => rw [hq] at hz; cases hz
      | some v =>
        obtain ⟨v1, v2⟩ := v
        rw [hq] at hz
        cases hz
        have h1 : x = u := h u s (by rw [Option.bind_some]; exact hp)
        have h2 : y = v1 := k v1 v2 (by unfold nxt; rw [Option.bind_some, hp]; exact hq)
        rw [h1, h2]
theorem entry_yes {st : Option (List Int)} (h : Got st pBool true) : nxt st pEntry = nxt st pBool ∧ Got st pEntry noopEn := by
  unfold nxt Got pEntry
  cases st with
  | none => exact ⟨rfl, fun x r hx => by cases hx⟩
  | some b =>
    simp only [Option.bind_some]
    cases hp : pBool b with
    | none => exact ⟨rfl, fun x r hx => by cases hx⟩
    | some t =>
      obtain ⟨u, s⟩ := t
      have hu : true = u := h u s (by rw [Option.bind_some]; exact hp)
      subst hu
      refine ⟨rfl, fun x r hx => ?_⟩
      simp only [Option.bind_some] at hx
      cases hx
      rfl
theorem entry_no {st : Option (List Int)} (h : Got st pBool false) : nxt st pEntry = nxt (nxt st pBool) pSeal ∧ ∀ y, Got (nxt st pBool) pSeal y → Got st pEntry y := by
  cases st with
  | none => exact ⟨rfl, fun y _ x r hx => by cases hx⟩
  | some b =>
    cases hp : pBool b with
    | none =>
      refine ⟨by unfold nxt pEntry; rw [Option.bind_some, Option.bind_some, hp]; rfl, fun y _ x r hx => ?_⟩
      unfold pEntry at hx
      rw [Option.bind_some, hp] at hx
      cases hx
    | some t =>
      obtain ⟨u, s⟩ := t
      have hu : false = u := h u s (by rw [Option.bind_some]; exact hp)
      subst hu
      have he : pEntry b = pSeal s := by unfold pEntry; rw [hp]; rfl
      have hn : nxt (some b) pBool = some s := by unfold nxt; rw [Option.bind_some, hp]; rfl
      rw [hn]
      refine ⟨by unfold nxt; rw [Option.bind_some, Option.bind_some, he], fun y hy x r hx => ?_⟩
      rw [Option.bind_some, he] at hx
      exact hy x r (by rw [Option.bind_some]; exact hx)
/-- What entryOf leaves. -/
def PartEn (w : World) (rb : Nat) (ao : Option Addr) (len cap : Nat) (bs : List Int) (st : Option (List Int)) (e : Ending) (w' : World) : Prop := (∃ (a : Option Addr) (c : Nat) (y : En), e = .returned (.agg #[.bool y.noop, .string y.tok, .string y.cart, .int .i64 y.ep, .slice a y.cut.length c]) ∧ Got st pEntry y ∧ HN w' a c y.cut ∧ (∀ b off, a = some ⟨b, off, none⟩ → y.cut ≠ [] → w.heap.size ≤ b) ∧ I64 y.ep ∧ y.tok.size ≤ 32 ∧ y.cart.size ≤ 32) ∧ RdAt w' rb ao len cap bs (nxt st pEntry) ∧ Turns (fun i => i = rb) w w'
set_option maxRecDepth 1000000 in
set_option maxHeartbeats 4000000 in
theorem RdAt.partEn {w : World} {rb : Nat} {ao : Option Addr} {len cap : Nat} {bs : List Int} {st : Option (List Int)} (h : RdAt w rb ao len cap bs st) : Calls Tryz.prog 75 #[.pointer (some ⟨rb, 0, none⟩)] w (PartEn w rb ao len cap bs st) := by
  obtain ⟨W, hW⟩ : ∃ W, W = w.alloc (.cells #[.bool false, .string ⟨#[]⟩, .string ⟨#[]⟩, .int .i64 0, .slice none 0 0] 39) := ⟨_, rfl⟩
  have hb : Below w.heap.size w W := by rw [hW]; exact (Below.refl _ _).alloc (Nat.le_refl _) _
  obtain ⟨rs, hrs⟩ : ∃ q, q = w.heap.size := ⟨_, rfl⟩
  have HKR0 : Hid (Blk W rs 39 [.bool false, .string ⟨#[]⟩, .string ⟨#[]⟩, .int .i64 0, .slice none 0 0]) := by rw [hrs, hW]; exact Blk.new w _ _
  have hlt : rb < w.heap.size := by obtain ⟨_, _, hk, _⟩ := h.blk; exact hk.lt
  have HNE : Hid (rs ≠ rb ∧ w.heap.size ≤ rs ∧ rb < w.heap.size) := ⟨by omega, by omega, hlt⟩
  have HOFF : Hid (∀ ad, ao = some ad → 0 < len → ad.block < w.heap.size) := fun ad e hl => h.held.old ad e hl
  have HTR := hid (h.below hb).truth
  have HT0 : Hid (Turns (fun i => i = rb) w W) := Turns.of_below hb (Nat.le_refl _)
  have HW := hid hW
  have HRS := hid hrs
  clear h hW hb hrs hlt
  go_enter Tryz.func75, Tryz.ntmps75
  go_wp2_with fail
  rw [← HW.out, ← HRS.out]
  refine HTR.out.mono ?_
  rintro e u ⟨⟨t, rfl, hg⟩, hr, ht⟩
  have HKR1 := hid (ht.blk HKR0.out HNE.out.1)
  have HT1 := hid (turns_one HT0.out ht)
  have HR1 := hid hr
  have HG := hid hg
  clear hg hr ht HTR
  cases t
  case true =>
    obtain ⟨hn, hge⟩ := entry_yes HG.out
    have r0 := HKR1.out.cell (i := 0) rfl
    have r1 := HKR1.out.cell (i := 1) rfl
    have r2 := HKR1.out.cell (i := 2) rfl
    have r3 := HKR1.out.cell (i := 3) rfl
    have r4 := HKR1.out.cell (i := 4) rfl
    have f0 := HKR1.out.frozen 0
    have f1 := HKR1.out.frozen 1
    have f2 := HKR1.out.frozen 2
    have f3 := HKR1.out.frozen 3
    have f4 := HKR1.out.frozen 4
    obtain ⟨W9, hW9⟩ : ∃ V, V = ((((u.setCell ⟨rs, 0, none⟩ (.bool true)).setCell ⟨rs, 1, none⟩ (.string ⟨#[]⟩)).setCell ⟨rs, 2, none⟩ (.string ⟨#[]⟩)).setCell ⟨rs, 3, none⟩ (.int .i64 0)).setCell ⟨rs, 4, none⟩ (.slice none 0 0) := ⟨_, rfl⟩
    have hk9 : Blk W9 rs 39 [.bool true, .string ⟨#[]⟩, .string ⟨#[]⟩, .int .i64 0, .slice none 0 0] := by rw [hW9]; exact ((((HKR1.out.set 0 _).set 1 _).set 2 _).set 3 _).set 4 _
    have hst : Turns (fun i => i = rs) u W9 := by rw [hW9]; exact (((((Turns.refl (fun i => i = rs) u).setCell (p := ⟨rs, 0, none⟩) (.inl rfl) _).setCell (p := ⟨rs, 1, none⟩) (.inl rfl) _).setCell (p := ⟨rs, 2, none⟩) (.inl rfl) _).setCell (p := ⟨rs, 3, none⟩) (.inl rfl) _).setCell (p := ⟨rs, 4, none⟩) (.inl rfl) _
    have HR9 : Hid (RdAt W9 rb ao len cap bs (nxt st pEntry)) := by rw [hn]; exact HR1.out.turned hst (fun e => HNE.out.1 e.symm) (fun ad e hl hh => by have h1 := HOFF.out ad e hl; have h2 := HNE.out.2.1; omega)
    have HT9 : Hid (Turns (fun i => i = rb) w W9) := HT1.out.trans hst (fun i hi => .inr (by rw [hi]; exact HNE.out.2.1))
    have HGE := hid hge
    have k0 := hk9.cell (i := 0) rfl
    have k1 := hk9.cell (i := 1) rfl
    have k2 := hk9.cell (i := 2) rfl
    have k3 := hk9.cell (i := 3) rfl
    have k4 := hk9.cell (i := 4) rfl
    clear hk9 hst hn hge
    go_wp2
    rw [← hW9]
    (try simp only [Exit.inBlock, Exit.then])
    refine bodyPost_ret (v := .agg #[.bool true, .string ⟨#[]⟩, .string ⟨#[]⟩, .int .i64 0, .slice none 0 0]) ?_ rfl ⟨⟨none, 0, noopEn, rfl, HGE.out, hn_nilE _, fun b off e => (by cases e), by show I64 0; unfold I64; decide, by decide, by decide⟩, HR9.out, HT9.out⟩
    rw [results_cell1B rfl]
    go_simp
  case false =>
    obtain ⟨hn, hge⟩ := entry_no HG.out
    have HGE := hid hge
    have HNo := hid hn
    have HSE := hid HR1.out.partSeal
    clear hn hge
    go_wp2_with fail
    refine HSE.out.mono ?_
    rintro e v ⟨⟨tk, ct, ep, a, c, cut, rfl, hg0, hz0, hg1, hz1, hg2, hi2, hg3, hv, hab⟩, hr, ht⟩
    obtain ⟨XN, HXN⟩ : ∃ m, Hid (cut.length = m) := ⟨_, hid rfl⟩
    rw [HXN.out]
    have hkr := ht.blk HKR1.out HNE.out.1
    have HGS : Hid (Got (nxt st pBool) pSeal ⟨false, tk, ct, ep, cut⟩) := got_map (fun t : ByteArray × ByteArray × Int × List Int => (⟨false, t.1, t.2.1, t.2.2.1, t.2.2.2⟩ : En)) (got_seq hg0 (got_seq hg1 (got_seq hg2 hg3)))
    have hrr : RdAt v rb ao len cap bs (nxt st pEntry) := by
      rw [HNo.out]
      unfold pSeal
      rw [nxt_map, ← nxt_seq, ← nxt_seq, ← nxt_seq]
      exact hr
    have r0 := hkr.cell (i := 0) rfl
    have r1 := hkr.cell (i := 1) rfl
    have r2 := hkr.cell (i := 2) rfl
    have r3 := hkr.cell (i := 3) rfl
    have r4 := hkr.cell (i := 4) rfl
    have f0 := hkr.frozen 0
    have f1 := hkr.frozen 1
    have f2 := hkr.frozen 2
    have f3 := hkr.frozen 3
    have f4 := hkr.frozen 4
    obtain ⟨W9, hW9⟩ : ∃ V, V = ((((v.setCell ⟨rs, 0, none⟩ (.bool false)).setCell ⟨rs, 1, none⟩ (.string tk)).setCell ⟨rs, 2, none⟩ (.string ct)).setCell ⟨rs, 3, none⟩ (.int .i64 ep)).setCell ⟨rs, 4, none⟩ (.slice a XN c) := ⟨_, rfl⟩
    have hk9 : Blk W9 rs 39 [.bool false, .string tk, .string ct, .int .i64 ep, .slice a XN c] := by rw [hW9]; exact ((((hkr.set 0 _).set 1 _).set 2 _).set 3 _).set 4 _
    have hst : Turns (fun i => i = rs) v W9 := by rw [hW9]; exact (((((Turns.refl (fun i => i = rs) v).setCell (p := ⟨rs, 0, none⟩) (.inl rfl) _).setCell (p := ⟨rs, 1, none⟩) (.inl rfl) _).setCell (p := ⟨rs, 2, none⟩) (.inl rfl) _).setCell (p := ⟨rs, 3, none⟩) (.inl rfl) _).setCell (p := ⟨rs, 4, none⟩) (.inl rfl) _
    have HR9 : Hid (RdAt W9 rb ao len cap bs (nxt st pEntry)) := hrr.turned hst (fun e => HNE.out.1 e.symm) (fun ad e hl hh => by have h1 := HOFF.out ad e hl; have h2 := HNE.out.2.1; omega)
    have HT9 : Hid (Turns (fun i => i = rb) w W9) := (turns_one HT1.out ht).trans hst (fun i hi => .inr (by rw [hi]; exact HNE.out.2.1))
    have HV9 : Hid (HN W9 a c cut) := hnK hst hv (fun b off e hne hh => by have h1 := hab b off e hne; have h2 := HKR1.out.lt; omega)
    have HAB : Hid (∀ b off, a = some ⟨b, off, none⟩ → cut ≠ [] → w.heap.size ≤ b) := fun b off e hne => Nat.le_trans HT1.out.size (hab b off e hne)
    have HSZ := hid (And.intro hi2 (And.intro hz0 hz1))
    have k0 := hk9.cell (i := 0) rfl
    have k1 := hk9.cell (i := 1) rfl
    have k2 := hk9.cell (i := 2) rfl
    have k3 := hk9.cell (i := 3) rfl
    have k4 := hk9.cell (i := 4) rfl
    clear hk9 hst hg0 hz0 hg1 hz1 hg2 hi2 hg3 hv hab hr ht hkr hrr HSE
    go_wp2
    rw [← hW9]
    (try simp only [Exit.inBlock, Exit.then])
    refine bodyPost_ret (v := .agg #[.bool false, .string tk, .string ct, .int .i64 ep, .slice a XN c]) ?_ rfl ⟨⟨a, c, ⟨false, tk, ct, ep, cut⟩, by rw [HXN.out], HGE.out _ HGS.out, HV9.out, HAB.out, HSZ.out.1, HSZ.out.2.1, HSZ.out.2.2⟩, HR9.out, HT9.out⟩
    rw [results_cell1B rfl]
    go_simp
end Go.Proofs.YtfmnbehopdmahaaGreat
/-
  Package codec: a reader's votes.
-/
namespace Go.Proofs.YtfmnbehopdmahaaGreat
open Go.RowKit Go.Maps

theorem RdAt.ballotR {w : World} {rb : Nat} {ao : Option Addr} {len cap : Nat} {bs : List Int} {st : Option (List Int)} (h : RdAt w rb ao len cap bs st) : Calls Tryz.prog 74 #[.pointer (some ⟨rb, 0, none⟩)] w fun e w' => (∃ y z : Int, e = .returned (.agg #[.int .i64 y, .int .i64 z]) ∧ (I64 y ∧ I64 z) ∧ Got st pBal (y, z)) ∧ RdAt w' rb ao len cap bs (nxt st pBal) ∧ Turns (fun i => i = rb) w w' := by
  refine h.partBal.mono ?_
  rintro e w' ⟨⟨y, z, he, hg, hi, hg2, hi2⟩, hr, ht⟩
  refine ⟨⟨y, z, he, ⟨hi, hi2⟩, got_seq hg hg2⟩, ?_, ht⟩
  unfold pBal
  rw [← nxt_seq]
  exact hr
theorem RdAt.entryR {w : World} {rb : Nat} {ao : Option Addr} {len cap : Nat} {bs : List Int} {st : Option (List Int)} (h : RdAt w rb ao len cap bs st) : Calls Tryz.prog 75 #[.pointer (some ⟨rb, 0, none⟩)] w fun e w' => (∃ (a : Option Addr) (c : Nat) (p : Bool) (t s : ByteArray) (q : Int) (y : List Int), e = .returned (.agg #[.bool p, .string t, .string s, .int .i64 q, .slice a y.length c]) ∧ Got st pEntry ⟨p, t, s, q, y⟩ ∧ HN w' a c y ∧ (∀ b off, a = some ⟨b, off, none⟩ → y ≠ [] → w.heap.size ≤ b) ∧ (I64 q ∧ t.size ≤ 32 ∧ s.size ≤ 32)) ∧ RdAt w' rb ao len cap bs (nxt st pEntry) ∧ Turns (fun i => i = rb) w w' := by
  refine h.partEn.mono ?_
  rintro e w' ⟨⟨a, c, ⟨p, t, s, q, y⟩, he, hg, hv, hab, h1, h2, h3⟩, hr, ht⟩
  exact ⟨⟨a, c, p, t, s, q, y, he, hg, hv, hab, h1, h2, h3⟩, hr, ht⟩
/-- What codec.votedOf leaves. -/
def PartVoted (w : World) (rb : Nat) (ao : Option Addr) (len cap : Nat) (bs : List Int) (st : Option (List Int)) (e : Ending) (w' : World) : Prop := (∃ (y0 : Int) (y1 : Int) (z1 : Int) (a2 : Option Addr) (c2 : Nat) (p2 : Bool) (t2 s2 : ByteArray) (q2 : Int) (y2 : List Int) , e = .returned (.agg #[.int .i64 y0, .int .i64 y1, .int .i64 z1, .bool p2, .string t2, .string s2, .int .i64 q2, .slice a2 y2.length c2]) ∧ Got st (pNum 2147483647) y0 ∧ I64 y0 ∧ Got (nxt st (pNum 2147483647)) pBal (y1, z1) ∧ (I64 y1 ∧ I64 z1) ∧ Got (nxt (nxt st (pNum 2147483647)) pBal) pEntry ⟨p2, t2, s2, q2, y2⟩ ∧ (I64 q2 ∧ t2.size ≤ 32 ∧ s2.size ≤ 32) ∧ HN w' a2 c2 y2 ∧ (∀ b off, a2 = some ⟨b, off, none⟩ → y2 ≠ [] → w.heap.size ≤ b)) ∧ RdAt w' rb ao len cap bs (nxt (nxt (nxt st (pNum 2147483647)) pBal) pEntry) ∧ Turns (fun i => i = rb) w w'
set_option maxRecDepth 1000000 in
set_option maxHeartbeats 4000000 in
theorem RdAt.partVoted {w : World} {rb : Nat} {ao : Option Addr} {len cap : Nat} {bs : List Int} {st : Option (List Int)} (h : RdAt w rb ao len cap bs st) : Calls Tryz.prog 77 #[.pointer (some ⟨rb, 0, none⟩)] w (PartVoted w rb ao len cap bs st) := by
  obtain ⟨W1, hW1⟩ : ∃ W, W = w.alloc (.cells #[.int .i64 0, .int .i64 0, .int .i64 0, .bool false, .string ⟨#[]⟩, .string ⟨#[]⟩, .int .i64 0, .slice none 0 0] 73) := ⟨_, rfl⟩
  obtain ⟨W, hW⟩ : ∃ W, W = W1.alloc (.cells #[.int .i64 0, .int .i64 0, .int .i64 0, .bool false, .string ⟨#[]⟩, .string ⟨#[]⟩, .int .i64 0, .slice none 0 0] 73) := ⟨_, rfl⟩
  have hs1 : W1.heap.size = w.heap.size + 1 := by rw [hW1]; simp
  have hb1 : Below w.heap.size w W1 := by rw [hW1]; exact (Below.refl _ _).alloc (Nat.le_refl _) _
  have hb : Below w.heap.size w W := by rw [hW]; exact hb1.alloc hb1.size _
  obtain ⟨rs, hrs⟩ : ∃ q, q = w.heap.size := ⟨_, rfl⟩
  obtain ⟨vb, hvb⟩ : ∃ q, q = w.heap.size + 1 := ⟨_, rfl⟩
  have HKR0 : Hid (Blk W rs 73 [.int .i64 0, .int .i64 0, .int .i64 0, .bool false, .string ⟨#[]⟩, .string ⟨#[]⟩, .int .i64 0, .slice none 0 0]) := by rw [hrs, hW, hW1]; exact (Blk.new w _ _).alloc _
  have HKV0 : Hid (Blk W vb 73 [.int .i64 0, .int .i64 0, .int .i64 0, .bool false, .string ⟨#[]⟩, .string ⟨#[]⟩, .int .i64 0, .slice none 0 0]) := by rw [hvb, hW, ← hs1]; exact Blk.new W1 _ _
  have hlt : rb < w.heap.size := by obtain ⟨_, _, hk, _⟩ := h.blk; exact hk.lt
  have HNE : Hid (vb ≠ rb ∧ rs ≠ rb ∧ w.heap.size ≤ vb ∧ w.heap.size ≤ rs ∧ rs < vb ∧ rb < w.heap.size) := ⟨by omega, by omega, by omega, by omega, by omega, hlt⟩
  have HOFF : Hid (∀ ad, ao = some ad → 0 < len → ad.block < w.heap.size) := fun ad e hl => h.held.old ad e hl
  have HR0 := hid (h.below hb)
  have HT0 : Hid (Turns (fun i => i = rb) w W) := Turns.of_below hb (Nat.le_refl _)
  have HW : Hid (W = (w.alloc (.cells #[.int .i64 0, .int .i64 0, .int .i64 0, .bool false, .string ⟨#[]⟩, .string ⟨#[]⟩, .int .i64 0, .slice none 0 0] 73)).alloc (.cells #[.int .i64 0, .int .i64 0, .int .i64 0, .bool false, .string ⟨#[]⟩, .string ⟨#[]⟩, .int .i64 0, .slice none 0 0] 73)) := by show _ = _; rw [hW, hW1]
  have HRS := hid hrs
  have HVB := hid hvb
  have HC0 := hid (fun V (hV : RdAt V rb ao len cap bs st) => hV.number 2147483647 (by decide))
  have HC1 := hid (fun V (hV : RdAt V rb ao len cap bs (nxt st (pNum 2147483647))) => hV.ballotR)
  have HC2 := hid (fun V (hV : RdAt V rb ao len cap bs (nxt (nxt st (pNum 2147483647)) pBal)) => hV.entryR)
  clear h hW hW1 hs1 hb1 hb hrs hvb hlt
  go_enter Tryz.func77, Tryz.ntmps77
  go_wp2_with fail
  rw [← HW.out, ← HVB.out, ← HRS.out]
  refine (HC0.out _ HR0.out).mono ?_
  rintro e u0 ⟨⟨y0, rfl, hi, hg⟩, hr, ht⟩
  have HI0 := hid hi
  have HG0 := hid hg
  have hkv := ht.blk HKV0.out HNE.out.1
  have hkr := ht.blk HKR0.out HNE.out.2.1
  obtain ⟨X0, hX0⟩ : ∃ V, V = (u0.setCell ⟨vb, 0, none⟩ (.int .i64 y0)) := ⟨_, rfl⟩
  have hst : Turns (fun i => i = vb) u0 X0 := by rw [hX0]; exact ((Turns.refl (fun i => i = vb) u0).setCell (p := ⟨vb, 0, none⟩) (.inl rfl) _)
  have HKV1 : Hid (Blk X0 vb 73 [.int .i64 y0, .int .i64 0, .int .i64 0, .bool false, .string ⟨#[]⟩, .string ⟨#[]⟩, .int .i64 0, .slice none 0 0]) := by rw [hX0]; exact (hkv.set 0 _)
  have HKR1 : Hid (Blk X0 rs 73 [.int .i64 0, .int .i64 0, .int .i64 0, .bool false, .string ⟨#[]⟩, .string ⟨#[]⟩, .int .i64 0, .slice none 0 0]) := hst.blk hkr (by have := HNE.out.2.2.2.2.1; omega)
  have HR1 : Hid (RdAt X0 rb ao len cap bs (nxt st (pNum 2147483647))) := hr.turned hst (fun e => HNE.out.1 e.symm) (fun ad e hl hh => by have h1 := HOFF.out ad e hl; have h2 := HNE.out.2.2.1; omega)
  have HT1 : Hid (Turns (fun i => i = rb) w X0) := (turns_one HT0.out ht).trans hst (fun i hi => .inr (by rw [hi]; exact HNE.out.2.2.1))
  have e0 := hkv.cell (i := 0) rfl
  have g0 := hkv.frozen 0
  have HX0 := hid hX0
  clear hi hg hkv hkr hr ht hst hX0
  go_wp2_with fail
  rw [← HX0.out]
  refine (HC1.out _ HR1.out).mono ?_
  rintro e u1 ⟨⟨y1, z1, rfl, hi, hg⟩, hr, ht⟩
  have HI1 := hid hi
  have HG1 := hid hg
  have hkv := ht.blk HKV1.out HNE.out.1
  have hkr := ht.blk HKR1.out HNE.out.2.1
  obtain ⟨X1, hX1⟩ : ∃ V, V = ((u1.setCell ⟨vb, 1, none⟩ (.int .i64 y1)).setCell ⟨vb, 2, none⟩ (.int .i64 z1)) := ⟨_, rfl⟩
  have hst : Turns (fun i => i = vb) u1 X1 := by rw [hX1]; exact (((Turns.refl (fun i => i = vb) u1).setCell (p := ⟨vb, 1, none⟩) (.inl rfl) _).setCell (p := ⟨vb, 2, none⟩) (.inl rfl) _)
  have HKV2 : Hid (Blk X1 vb 73 [.int .i64 y0, .int .i64 y1, .int .i64 z1, .bool false, .string ⟨#[]⟩, .string ⟨#[]⟩, .int .i64 0, .slice none 0 0]) := by rw [hX1]; exact ((hkv.set 1 _).set 2 _)
  have HKR2 : Hid (Blk X1 rs 73 [.int .i64 0, .int .i64 0, .int .i64 0, .bool false, .string ⟨#[]⟩, .string ⟨#[]⟩, .int .i64 0, .slice none 0 0]) := hst.blk hkr (by have := HNE.out.2.2.2.2.1; omega)
  have HR2 : Hid (RdAt X1 rb ao len cap bs (nxt (nxt st (pNum 2147483647)) pBal)) := hr.turned hst (fun e => HNE.out.1 e.symm) (fun ad e hl hh => by have h1 := HOFF.out ad e hl; have h2 := HNE.out.2.2.1; omega)
  have HT2 : Hid (Turns (fun i => i = rb) w X1) := (turns_one HT1.out ht).trans hst (fun i hi => .inr (by rw [hi]; exact HNE.out.2.2.1))
  have e1 := hkv.cell (i := 1) rfl
  have g1 := hkv.frozen 1
  have e2 := hkv.cell (i := 2) rfl
  have g2 := hkv.frozen 2
  have HX1 := hid hX1
  clear hi hg hkv hkr hr ht hst hX1 e0 g0
  go_wp2_with fail
  rw [← HX1.out]
  refine (HC2.out _ HR2.out).mono ?_
  rintro e u2 ⟨⟨a2, c2, p2, t2, s2, q2, y2, rfl, hg, hvv, hab, hi⟩, hr, ht⟩
  have HVV2 := hid hvv
  clear hvv
  obtain ⟨n2, HN2⟩ : ∃ n, Hid (y2.length = n) := ⟨_, hid rfl⟩
  rw [HN2.out]
  have HAB2 : Hid (∀ b off, a2 = some ⟨b, off, none⟩ → y2 ≠ [] → vb < b) := fun b off e hne => Nat.lt_of_lt_of_le HKV2.out.lt (hab b off e hne)
  clear hab
  have HI2 := hid hi
  have HG2 := hid hg
  have hkv := ht.blk HKV2.out HNE.out.1
  have hkr := ht.blk HKR2.out HNE.out.2.1
  obtain ⟨X2, hX2⟩ : ∃ V, V = (((((u2.setCell ⟨vb, 3, none⟩ (.bool p2)).setCell ⟨vb, 4, none⟩ (.string t2)).setCell ⟨vb, 5, none⟩ (.string s2)).setCell ⟨vb, 6, none⟩ (.int .i64 q2)).setCell ⟨vb, 7, none⟩ (.slice a2 n2 c2)) := ⟨_, rfl⟩
  have hst : Turns (fun i => i = vb) u2 X2 := by rw [hX2]; exact ((((((Turns.refl (fun i => i = vb) u2).setCell (p := ⟨vb, 3, none⟩) (.inl rfl) _).setCell (p := ⟨vb, 4, none⟩) (.inl rfl) _).setCell (p := ⟨vb, 5, none⟩) (.inl rfl) _).setCell (p := ⟨vb, 6, none⟩) (.inl rfl) _).setCell (p := ⟨vb, 7, none⟩) (.inl rfl) _)
  have HKV3 : Hid (Blk X2 vb 73 [.int .i64 y0, .int .i64 y1, .int .i64 z1, .bool p2, .string t2, .string s2, .int .i64 q2, .slice a2 n2 c2]) := by rw [hX2]; exact (((((hkv.set 3 _).set 4 _).set 5 _).set 6 _).set 7 _)
  have HKR3 : Hid (Blk X2 rs 73 [.int .i64 0, .int .i64 0, .int .i64 0, .bool false, .string ⟨#[]⟩, .string ⟨#[]⟩, .int .i64 0, .slice none 0 0]) := hst.blk hkr (by have := HNE.out.2.2.2.2.1; omega)
  have HR3 : Hid (RdAt X2 rb ao len cap bs (nxt (nxt (nxt st (pNum 2147483647)) pBal) pEntry)) := hr.turned hst (fun e => HNE.out.1 e.symm) (fun ad e hl hh => by have h1 := HOFF.out ad e hl; have h2 := HNE.out.2.2.1; omega)
  have HT3 : Hid (Turns (fun i => i = rb) w X2) := (turns_one HT2.out ht).trans hst (fun i hi => .inr (by rw [hi]; exact HNE.out.2.2.1))
  have HV2x3 : Hid (HN X2 a2 c2 y2) := hnK hst HVV2.out (fun b off e hne hh => by have h1 := HAB2.out b off e hne; omega)
  have e3 := hkv.cell (i := 3) rfl
  have g3 := hkv.frozen 3
  have e4 := hkv.cell (i := 4) rfl
  have g4 := hkv.frozen 4
  have e5 := hkv.cell (i := 5) rfl
  have g5 := hkv.frozen 5
  have e6 := hkv.cell (i := 6) rfl
  have g6 := hkv.frozen 6
  have e7 := hkv.cell (i := 7) rfl
  have g7 := hkv.frozen 7
  have HX2 := hid hX2
  clear hi hg hkv hkr hr ht hst hX2 e1 g1 e2 g2
  have qq0 := HKV3.out.cell (i := 0) rfl
  have qq1 := HKV3.out.cell (i := 1) rfl
  have qq2 := HKV3.out.cell (i := 2) rfl
  have qq3 := HKV3.out.cell (i := 3) rfl
  have qq4 := HKV3.out.cell (i := 4) rfl
  have qq5 := HKV3.out.cell (i := 5) rfl
  have qq6 := HKV3.out.cell (i := 6) rfl
  have qq7 := HKV3.out.cell (i := 7) rfl
  have r0 := HKR3.out.cell (i := 0) rfl
  have f0 := HKR3.out.frozen 0
  have r1 := HKR3.out.cell (i := 1) rfl
  have f1 := HKR3.out.frozen 1
  have r2 := HKR3.out.cell (i := 2) rfl
  have f2 := HKR3.out.frozen 2
  have r3 := HKR3.out.cell (i := 3) rfl
  have f3 := HKR3.out.frozen 3
  have r4 := HKR3.out.cell (i := 4) rfl
  have f4 := HKR3.out.frozen 4
  have r5 := HKR3.out.cell (i := 5) rfl
  have f5 := HKR3.out.frozen 5
  have r6 := HKR3.out.cell (i := 6) rfl
  have f6 := HKR3.out.frozen 6
  have r7 := HKR3.out.cell (i := 7) rfl
  have f7 := HKR3.out.frozen 7
  rw [HX2.out] at qq0 r0 f0 qq1 r1 f1 qq2 r2 f2 qq3 r3 f3 qq4 r4 f4 qq5 r5 f5 qq6 r6 f6 qq7 r7 f7
  obtain ⟨W9, hW9⟩ : ∃ V, V = ((((((((X2.setCell ⟨rs, 0, none⟩ (.int .i64 y0)).setCell ⟨rs, 1, none⟩ (.int .i64 y1)).setCell ⟨rs, 2, none⟩ (.int .i64 z1)).setCell ⟨rs, 3, none⟩ (.bool p2)).setCell ⟨rs, 4, none⟩ (.string t2)).setCell ⟨rs, 5, none⟩ (.string s2)).setCell ⟨rs, 6, none⟩ (.int .i64 q2)).setCell ⟨rs, 7, none⟩ (.slice a2 n2 c2)) := ⟨_, rfl⟩
  have hk9 : Blk W9 rs 73 [.int .i64 y0, .int .i64 y1, .int .i64 z1, .bool p2, .string t2, .string s2, .int .i64 q2, .slice a2 n2 c2] := by rw [hW9]; exact ((((((((HKR3.out.set 0 _).set 1 _).set 2 _).set 3 _).set 4 _).set 5 _).set 6 _).set 7 _)
  have hst : Turns (fun i => i = rs) X2 W9 := by rw [hW9]; exact (((((((((Turns.refl (fun i => i = rs) X2).setCell (p := ⟨rs, 0, none⟩) (.inl rfl) _).setCell (p := ⟨rs, 1, none⟩) (.inl rfl) _).setCell (p := ⟨rs, 2, none⟩) (.inl rfl) _).setCell (p := ⟨rs, 3, none⟩) (.inl rfl) _).setCell (p := ⟨rs, 4, none⟩) (.inl rfl) _).setCell (p := ⟨rs, 5, none⟩) (.inl rfl) _).setCell (p := ⟨rs, 6, none⟩) (.inl rfl) _).setCell (p := ⟨rs, 7, none⟩) (.inl rfl) _)
  have HR9 : Hid (RdAt W9 rb ao len cap bs (nxt (nxt (nxt st (pNum 2147483647)) pBal) pEntry)) := HR3.out.turned hst (fun e => HNE.out.2.1 e.symm) (fun ad e hl hh => by have h1 := HOFF.out ad e hl; have h2 := HNE.out.2.2.2.1; omega)
  have HT9 : Hid (Turns (fun i => i = rb) w W9) := HT3.out.trans hst (fun i hi => .inr (by rw [hi]; exact HNE.out.2.2.2.1))
  have HVF2 : Hid (HN W9 a2 c2 y2) := hnK hst HV2x3.out (fun b off e hne hh => by have h1 := HAB2.out b off e hne; have h2 := HNE.out.2.2.2.2.1; omega)
  have k0 := hk9.cell (i := 0) rfl
  have k1 := hk9.cell (i := 1) rfl
  have k2 := hk9.cell (i := 2) rfl
  have k3 := hk9.cell (i := 3) rfl
  have k4 := hk9.cell (i := 4) rfl
  have k5 := hk9.cell (i := 5) rfl
  have k6 := hk9.cell (i := 6) rfl
  have k7 := hk9.cell (i := 7) rfl
  rw [HX2.out] at hW9
  clear hk9 hst
  go_wp2
  rw [← hW9]
  (try simp only [Exit.inBlock, Exit.then])
  refine bodyPost_ret (v := .agg #[.int .i64 y0, .int .i64 y1, .int .i64 z1, .bool p2, .string t2, .string s2, .int .i64 q2, .slice a2 n2 c2]) ?_ rfl ⟨⟨y0, y1, z1, a2, c2, p2, t2, s2, q2, y2, by rw [HN2.out], HG0.out, HI0.out, HG1.out, HI1.out, HG2.out, HI2.out, HVF2.out, (fun b off e hne => by have h1 := HAB2.out b off e hne; have h2 := HNE.out.2.2.1; omega)⟩, HR9.out, HT9.out⟩
  rw [results_cell1B rfl]
  go_simp
end Go.Proofs.YtfmnbehopdmahaaGreat
