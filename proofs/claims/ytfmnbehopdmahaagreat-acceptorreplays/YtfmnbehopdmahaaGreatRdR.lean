/-
  Package codec: a reader's messages.
-/
import Derived.Test.YtfmnbehopdmahaaGreatRdQ
namespace Go.Proofs.YtfmnbehopdmahaaGreat
open Go.RowKit Go.Maps

theorem VosAt.rd {w : World} {most : Nat} {w' w2 : World} {ao : Option Addr} {cap : Nat} {y : List VoM} {rb : Nat} {ro : Option Addr} {rl rc : Nat} {bs : List Int} {st : Option (List Int)} (h : VosAt w most w' ao cap y) (hr : RdAt w' rb ro rl rc bs st) (ht : Turns (fun i => i = rb) w' w2) : VosAt w most w2 ao cap y := by
  obtain ⟨_, _, hk, _⟩ := hr.blk
  exact h.turned ht hk
theorem EvsAt.rd {w : World} {most : Nat} {w' w2 : World} {ao : Option Addr} {cap : Nat} {y : List EvM} {rb : Nat} {ro : Option Addr} {rl rc : Nat} {bs : List Int} {st : Option (List Int)} (h : EvsAt w most w' ao cap y) (hr : RdAt w' rb ro rl rc bs st) (ht : Turns (fun i => i = rb) w' w2) : EvsAt w most w2 ao cap y := by
  obtain ⟨_, _, hk, _⟩ := hr.blk
  exact h.turned ht hk
/-- What codec.msgOf leaves. -/
def PartMsg (w : World) (rb : Nat) (ao : Option Addr) (len cap : Nat) (bs : List Int) (st : Option (List Int)) (e : Ending) (w' : World) : Prop := (∃ (y0 : Int) (y1 : Int) (y2 : Int) (y3 : Int) (z3 : Int) (y4 : Int) (a5 : Option Addr) (c5 : Nat) (p5 : Bool) (t5 s5 : ByteArray) (q5 : Int) (y5 : List Int) (a6 : Option Addr) (c6 : Nat) (y6 : List VoM) (a7 : Option Addr) (c7 : Nat) (y7 : List Int) (a8 : Option Addr) (c8 : Nat) (y8 : List EvM) (y9 : Int) , e = .returned (.agg #[.int .i64 y0, .int .i64 y1, .int .i64 y2, .int .i64 y3, .int .i64 z3, .int .i64 y4, .bool p5, .string t5, .string s5, .int .i64 q5, .slice a5 y5.length c5, .slice a6 y6.length c6, .slice a7 y7.length c7, .slice a8 y8.length c8, .int .i64 y9]) ∧ Got st (pNum 255) y0 ∧ I64 y0 ∧ Got (nxt st (pNum 255)) (pNum 6) y1 ∧ I64 y1 ∧ Got (nxt (nxt st (pNum 255)) (pNum 6)) (pNum 6) y2 ∧ I64 y2 ∧ Got (nxt (nxt (nxt st (pNum 255)) (pNum 6)) (pNum 6)) pBal (y3, z3) ∧ (I64 y3 ∧ I64 z3) ∧ Got (nxt (nxt (nxt (nxt st (pNum 255)) (pNum 6)) (pNum 6)) pBal) (pNum 2147483647) y4 ∧ I64 y4 ∧ Got (nxt (nxt (nxt (nxt (nxt st (pNum 255)) (pNum 6)) (pNum 6)) pBal) (pNum 2147483647)) pEntry ⟨p5, t5, s5, q5, y5⟩ ∧ (I64 q5 ∧ t5.size ≤ 32 ∧ s5.size ≤ 32) ∧ HN w' a5 c5 y5 ∧ (∀ b off, a5 = some ⟨b, off, none⟩ → y5 ≠ [] → w.heap.size ≤ b) ∧ Got (nxt (nxt (nxt (nxt (nxt (nxt st (pNum 255)) (pNum 6)) (pNum 6)) pBal) (pNum 2147483647)) pEntry) (pList 4096 pVoted) (y6.map VoM.d) ∧ VosAt w 4096 w' a6 c6 y6 ∧ Got (nxt (nxt (nxt (nxt (nxt (nxt (nxt st (pNum 255)) (pNum 6)) (pNum 6)) pBal) (pNum 2147483647)) pEntry) (pList 4096 pVoted)) pVec y7 ∧ HN w' a7 c7 y7 ∧ (∀ b off, a7 = some ⟨b, off, none⟩ → y7 ≠ [] → w.heap.size ≤ b) ∧ Got (nxt (nxt (nxt (nxt (nxt (nxt (nxt (nxt st (pNum 255)) (pNum 6)) (pNum 6)) pBal) (pNum 2147483647)) pEntry) (pList 4096 pVoted)) pVec) (pList 4096 pEvent) (y8.map EvM.e) ∧ EvsAt w 4096 w' a8 c8 y8 ∧ Got (nxt (nxt (nxt (nxt (nxt (nxt (nxt (nxt (nxt st (pNum 255)) (pNum 6)) (pNum 6)) pBal) (pNum 2147483647)) pEntry) (pList 4096 pVoted)) pVec) (pList 4096 pEvent)) (pNum 4611686018427387904) y9 ∧ I64 y9) ∧ RdAt w' rb ao len cap bs (nxt (nxt (nxt (nxt (nxt (nxt (nxt (nxt (nxt (nxt st (pNum 255)) (pNum 6)) (pNum 6)) pBal) (pNum 2147483647)) pEntry) (pList 4096 pVoted)) pVec) (pList 4096 pEvent)) (pNum 4611686018427387904)) ∧ Turns (fun i => i = rb) w w'
set_option maxRecDepth 1000000 in
set_option maxHeartbeats 16000000 in
theorem RdAt.partMsg {w : World} {rb : Nat} {ao : Option Addr} {len cap : Nat} {bs : List Int} {st : Option (List Int)} (h : RdAt w rb ao len cap bs st) : Calls Tryz.prog 48 #[.pointer (some ⟨rb, 0, none⟩)] w (PartMsg w rb ao len cap bs st) := by
  obtain ⟨W1, hW1⟩ : ∃ W, W = w.alloc (.cells #[.int .i64 0, .int .i64 0, .int .i64 0, .int .i64 0, .int .i64 0, .int .i64 0, .bool false, .string ⟨#[]⟩, .string ⟨#[]⟩, .int .i64 0, .slice none 0 0, .slice none 0 0, .slice none 0 0, .slice none 0 0, .int .i64 0] 43) := ⟨_, rfl⟩
  obtain ⟨W, hW⟩ : ∃ W, W = W1.alloc (.cells #[.int .i64 0, .int .i64 0, .int .i64 0, .int .i64 0, .int .i64 0, .int .i64 0, .bool false, .string ⟨#[]⟩, .string ⟨#[]⟩, .int .i64 0, .slice none 0 0, .slice none 0 0, .slice none 0 0, .slice none 0 0, .int .i64 0] 43) := ⟨_, rfl⟩
  have hs1 : W1.heap.size = w.heap.size + 1 := by rw [hW1]; simp
  have hb1 : Below w.heap.size w W1 := by rw [hW1]; exact (Below.refl _ _).alloc (Nat.le_refl _) _
  have hb : Below w.heap.size w W := by rw [hW]; exact hb1.alloc hb1.size _
  obtain ⟨rs, hrs⟩ : ∃ q, q = w.heap.size := ⟨_, rfl⟩
  obtain ⟨vb, hvb⟩ : ∃ q, q = w.heap.size + 1 := ⟨_, rfl⟩
  have HKR0 : Hid (Blk W rs 43 [.int .i64 0, .int .i64 0, .int .i64 0, .int .i64 0, .int .i64 0, .int .i64 0, .bool false, .string ⟨#[]⟩, .string ⟨#[]⟩, .int .i64 0, .slice none 0 0, .slice none 0 0, .slice none 0 0, .slice none 0 0, .int .i64 0]) := by rw [hrs, hW, hW1]; exact (Blk.new w _ _).alloc _
  have HKV0 : Hid (Blk W vb 43 [.int .i64 0, .int .i64 0, .int .i64 0, .int .i64 0, .int .i64 0, .int .i64 0, .bool false, .string ⟨#[]⟩, .string ⟨#[]⟩, .int .i64 0, .slice none 0 0, .slice none 0 0, .slice none 0 0, .slice none 0 0, .int .i64 0]) := by rw [hvb, hW, ← hs1]; exact Blk.new W1 _ _
  have hlt : rb < w.heap.size := by obtain ⟨_, _, hk, _⟩ := h.blk; exact hk.lt
  have HNE : Hid (vb ≠ rb ∧ rs ≠ rb ∧ w.heap.size ≤ vb ∧ w.heap.size ≤ rs ∧ rs < vb ∧ rb < w.heap.size) := ⟨by omega, by omega, by omega, by omega, by omega, hlt⟩
  have HOFF : Hid (∀ ad, ao = some ad → 0 < len → ad.block < w.heap.size) := fun ad e hl => h.held.old ad e hl
  have HR0 := hid (h.below hb)
  have HT0 : Hid (Turns (fun i => i = rb) w W) := Turns.of_below hb (Nat.le_refl _)
  have HW : Hid (W = (w.alloc (.cells #[.int .i64 0, .int .i64 0, .int .i64 0, .int .i64 0, .int .i64 0, .int .i64 0, .bool false, .string ⟨#[]⟩, .string ⟨#[]⟩, .int .i64 0, .slice none 0 0, .slice none 0 0, .slice none 0 0, .slice none 0 0, .int .i64 0] 43)).alloc (.cells #[.int .i64 0, .int .i64 0, .int .i64 0, .int .i64 0, .int .i64 0, .int .i64 0, .bool false, .string ⟨#[]⟩, .string ⟨#[]⟩, .int .i64 0, .slice none 0 0, .slice none 0 0, .slice none 0 0, .slice none 0 0, .int .i64 0] 43)) := by show _ = _; rw [hW, hW1]
  have HRS := hid hrs
  have HVB := hid hvb
  have HC0 := hid (fun V (hV : RdAt V rb ao len cap bs st) => hV.number 255 (by decide))
  have HC1 := hid (fun V (hV : RdAt V rb ao len cap bs (nxt st (pNum 255))) => hV.number 6 (by decide))
  have HC2 := hid (fun V (hV : RdAt V rb ao len cap bs (nxt (nxt st (pNum 255)) (pNum 6))) => hV.number 6 (by decide))
  have HC3 := hid (fun V (hV : RdAt V rb ao len cap bs (nxt (nxt (nxt st (pNum 255)) (pNum 6)) (pNum 6))) => hV.ballotR)
  have HC4 := hid (fun V (hV : RdAt V rb ao len cap bs (nxt (nxt (nxt (nxt st (pNum 255)) (pNum 6)) (pNum 6)) pBal)) => hV.number 2147483647 (by decide))
  have HC5 := hid (fun V (hV : RdAt V rb ao len cap bs (nxt (nxt (nxt (nxt (nxt st (pNum 255)) (pNum 6)) (pNum 6)) pBal) (pNum 2147483647))) => hV.entryR)
  have HC6 := hid (fun V (hV : RdAt V rb ao len cap bs (nxt (nxt (nxt (nxt (nxt (nxt st (pNum 255)) (pNum 6)) (pNum 6)) pBal) (pNum 2147483647)) pEntry)) => hV.listVo 4096 (by decide))
  have HC7 := hid (fun V (hV : RdAt V rb ao len cap bs (nxt (nxt (nxt (nxt (nxt (nxt (nxt st (pNum 255)) (pNum 6)) (pNum 6)) pBal) (pNum 2147483647)) pEntry) (pList 4096 pVoted))) => hV.vector)
  have HC8 := hid (fun V (hV : RdAt V rb ao len cap bs (nxt (nxt (nxt (nxt (nxt (nxt (nxt (nxt st (pNum 255)) (pNum 6)) (pNum 6)) pBal) (pNum 2147483647)) pEntry) (pList 4096 pVoted)) pVec)) => hV.listEv 4096 (by decide))
  have HC9 := hid (fun V (hV : RdAt V rb ao len cap bs (nxt (nxt (nxt (nxt (nxt (nxt (nxt (nxt (nxt st (pNum 255)) (pNum 6)) (pNum 6)) pBal) (pNum 2147483647)) pEntry) (pList 4096 pVoted)) pVec) (pList 4096 pEvent))) => hV.number 4611686018427387904 (by decide))
  clear h hW hW1 hs1 hb1 hb hrs hvb hlt
  go_enter Tryz.func48, Tryz.ntmps48
  go_wp2_with fail
  rw [← HW.out, ← HVB.out, ← HRS.out]
  refine (HC0.out _ HR0.out).mono ?_
  rintro e u0 ⟨⟨y0, rfl, hi, hg⟩, hr, ht⟩
  have HI0 := hid hi
  have HG0 := hid hg
  have hkv := ht.blk HKV0.out HNE.out.1
  have hkr := ht.blk HKR0.out HNE.out.2.1
  obtain ⟨X0, hX0⟩ : ∃ V, V = (u0.setCell ⟨vb, 0, none⟩ (.int .i64 y0)) := ⟨_, rfl⟩
  have hst : Turns (fun i => i = vb) u0 X0 := by rw [hX0]; exact ((Turns.refl (fun i => i = vb) u0).setCell (p := ⟨vb, 0, none⟩) (.inl rfl) _)
  have HKV1 : Hid (Blk X0 vb 43 [.int .i64 y0, .int .i64 0, .int .i64 0, .int .i64 0, .int .i64 0, .int .i64 0, .bool false, .string ⟨#[]⟩, .string ⟨#[]⟩, .int .i64 0, .slice none 0 0, .slice none 0 0, .slice none 0 0, .slice none 0 0, .int .i64 0]) := by rw [hX0]; exact (hkv.set 0 _)
  have HKR1 : Hid (Blk X0 rs 43 [.int .i64 0, .int .i64 0, .int .i64 0, .int .i64 0, .int .i64 0, .int .i64 0, .bool false, .string ⟨#[]⟩, .string ⟨#[]⟩, .int .i64 0, .slice none 0 0, .slice none 0 0, .slice none 0 0, .slice none 0 0, .int .i64 0]) := hst.blk hkr (by have := HNE.out.2.2.2.2.1; omega)
  have HR1 : Hid (RdAt X0 rb ao len cap bs (nxt st (pNum 255))) := hr.turned hst (fun e => HNE.out.1 e.symm) (fun ad e hl hh => by have h1 := HOFF.out ad e hl; have h2 := HNE.out.2.2.1; omega)
  have HT1 : Hid (Turns (fun i => i = rb) w X0) := (turns_one HT0.out ht).trans hst (fun i hi => .inr (by rw [hi]; exact HNE.out.2.2.1))
  have e0 := hkv.cell (i := 0) rfl
  have g0 := hkv.frozen 0
  have HX0 := hid hX0
  clear hi hg hkv hkr hr ht hst hX0
  go_wp2_with fail
  rw [← HX0.out]
  refine (HC1.out _ HR1.out).mono ?_
  rintro e u1 ⟨⟨y1, rfl, hi, hg⟩, hr, ht⟩
  have HI1 := hid hi
  have HG1 := hid hg
  have hkv := ht.blk HKV1.out HNE.out.1
  have hkr := ht.blk HKR1.out HNE.out.2.1
  obtain ⟨X1, hX1⟩ : ∃ V, V = (u1.setCell ⟨vb, 1, none⟩ (.int .i64 y1)) := ⟨_, rfl⟩
  have hst : Turns (fun i => i = vb) u1 X1 := by rw [hX1]; exact ((Turns.refl (fun i => i = vb) u1).setCell (p := ⟨vb, 1, none⟩) (.inl rfl) _)
  have HKV2 : Hid (Blk X1 vb 43 [.int .i64 y0, .int .i64 y1, .int .i64 0, .int .i64 0, .int .i64 0, .int .i64 0, .bool false, .string ⟨#[]⟩, .string ⟨#[]⟩, .int .i64 0, .slice none 0 0, .slice none 0 0, .slice none 0 0, .slice none 0 0, .int .i64 0]) := by rw [hX1]; exact (hkv.set 1 _)
  have HKR2 : Hid (Blk X1 rs 43 [.int .i64 0, .int .i64 0, .int .i64 0, .int .i64 0, .int .i64 0, .int .i64 0, .bool false, .string ⟨#[]⟩, .string ⟨#[]⟩, .int .i64 0, .slice none 0 0, .slice none 0 0, .slice none 0 0, .slice none 0 0, .int .i64 0]) := hst.blk hkr (by have := HNE.out.2.2.2.2.1; omega)
  have HR2 : Hid (RdAt X1 rb ao len cap bs (nxt (nxt st (pNum 255)) (pNum 6))) := hr.turned hst (fun e => HNE.out.1 e.symm) (fun ad e hl hh => by have h1 := HOFF.out ad e hl; have h2 := HNE.out.2.2.1; omega)
  have HT2 : Hid (Turns (fun i => i = rb) w X1) := (turns_one HT1.out ht).trans hst (fun i hi => .inr (by rw [hi]; exact HNE.out.2.2.1))
  have e1 := hkv.cell (i := 1) rfl
  have g1 := hkv.frozen 1
  have HX1 := hid hX1
  clear hi hg hkv hkr hr ht hst hX1 e0 g0
  go_wp2_with fail
  rw [← HX1.out]
  refine (HC2.out _ HR2.out).mono ?_
  rintro e u2 ⟨⟨y2, rfl, hi, hg⟩, hr, ht⟩
  have HI2 := hid hi
  have HG2 := hid hg
  have hkv := ht.blk HKV2.out HNE.out.1
  have hkr := ht.blk HKR2.out HNE.out.2.1
  obtain ⟨X2, hX2⟩ : ∃ V, V = (u2.setCell ⟨vb, 2, none⟩ (.int .i64 y2)) := ⟨_, rfl⟩
  have hst : Turns (fun i => i = vb) u2 X2 := by rw [hX2]; exact ((Turns.refl (fun i => i = vb) u2).setCell (p := ⟨vb, 2, none⟩) (.inl rfl) _)
  have HKV3 : Hid (Blk X2 vb 43 [.int .i64 y0, .int .i64 y1, .int .i64 y2, .int .i64 0, .int .i64 0, .int .i64 0, .bool false, .string ⟨#[]⟩, .string ⟨#[]⟩, .int .i64 0, .slice none 0 0, .slice none 0 0, .slice none 0 0, .slice none 0 0, .int .i64 0]) := by rw [hX2]; exact (hkv.set 2 _)
  have HKR3 : Hid (Blk X2 rs 43 [.int .i64 0, .int .i64 0, .int .i64 0, .int .i64 0, .int .i64 0, .int .i64 0, .bool false, .string ⟨#[]⟩, .string ⟨#[]⟩, .int .i64 0, .slice none 0 0, .slice none 0 0, .slice none 0 0, .slice none 0 0, .int .i64 0]) := hst.blk hkr (by have := HNE.out.2.2.2.2.1; omega)
  have HR3 : Hid (RdAt X2 rb ao len cap bs (nxt (nxt (nxt st (pNum 255)) (pNum 6)) (pNum 6))) := hr.turned hst (fun e => HNE.out.1 e.symm) (fun ad e hl hh => by have h1 := HOFF.out ad e hl; have h2 := HNE.out.2.2.1; omega)
  have HT3 : Hid (Turns (fun i => i = rb) w X2) := (turns_one HT2.out ht).trans hst (fun i hi => .inr (by rw [hi]; exact HNE.out.2.2.1))
  have e2 := hkv.cell (i := 2) rfl
  have g2 := hkv.frozen 2
  have HX2 := hid hX2
  clear hi hg hkv hkr hr ht hst hX2 e1 g1
  go_wp2_with fail
  rw [← HX2.out]
  refine (HC3.out _ HR3.out).mono ?_
  rintro e u3 ⟨⟨y3, z3, rfl, hi, hg⟩, hr, ht⟩
  have HI3 := hid hi
  have HG3 := hid hg
  have hkv := ht.blk HKV3.out HNE.out.1
  have hkr := ht.blk HKR3.out HNE.out.2.1
  obtain ⟨X3, hX3⟩ : ∃ V, V = ((u3.setCell ⟨vb, 3, none⟩ (.int .i64 y3)).setCell ⟨vb, 4, none⟩ (.int .i64 z3)) := ⟨_, rfl⟩
  have hst : Turns (fun i => i = vb) u3 X3 := by rw [hX3]; exact (((Turns.refl (fun i => i = vb) u3).setCell (p := ⟨vb, 3, none⟩) (.inl rfl) _).setCell (p := ⟨vb, 4, none⟩) (.inl rfl) _)
  have HKV4 : Hid (Blk X3 vb 43 [.int .i64 y0, .int .i64 y1, .int .i64 y2, .int .i64 y3, .int .i64 z3, .int .i64 0, .bool false, .string ⟨#[]⟩, .string ⟨#[]⟩, .int .i64 0, .slice none 0 0, .slice none 0 0, .slice none 0 0, .slice none 0 0, .int .i64 0]) := by rw [hX3]; exact ((hkv.set 3 _).set 4 _)
  have HKR4 : Hid (Blk X3 rs 43 [.int .i64 0, .int .i64 0, .int .i64 0, .int .i64 0, .int .i64 0, .int .i64 0, .bool false, .string ⟨#[]⟩, .string ⟨#[]⟩, .int .i64 0, .slice none 0 0, .slice none 0 0, .slice none 0 0, .slice none 0 0, .int .i64 0]) := hst.blk hkr (by have := HNE.out.2.2.2.2.1; omega)
  have HR4 : Hid (RdAt X3 rb ao len cap bs (nxt (nxt (nxt (nxt st (pNum 255)) (pNum 6)) (pNum 6)) pBal)) := hr.turned hst (fun e => HNE.out.1 e.symm) (fun ad e hl hh => by have h1 := HOFF.out ad e hl; have h2 := HNE.out.2.2.1; omega)
  have HT4 : Hid (Turns (fun i => i = rb) w X3) := (turns_one HT3.out ht).trans hst (fun i hi => .inr (by rw [hi]; exact HNE.out.2.2.1))
  have e3 := hkv.cell (i := 3) rfl
  have g3 := hkv.frozen 3
  have e4 := hkv.cell (i := 4) rfl
  have g4 := hkv.frozen 4
  have HX3 := hid hX3
  clear hi hg hkv hkr hr ht hst hX3 e2 g2
  go_wp2_with fail
  rw [← HX3.out]
  refine (HC4.out _ HR4.out).mono ?_
  rintro e u4 ⟨⟨y4, rfl, hi, hg⟩, hr, ht⟩
  have HI4 := hid hi
  have HG4 := hid hg
  have hkv := ht.blk HKV4.out HNE.out.1
  have hkr := ht.blk HKR4.out HNE.out.2.1
  obtain ⟨X4, hX4⟩ : ∃ V, V = (u4.setCell ⟨vb, 5, none⟩ (.int .i64 y4)) := ⟨_, rfl⟩
  have hst : Turns (fun i => i = vb) u4 X4 := by rw [hX4]; exact ((Turns.refl (fun i => i = vb) u4).setCell (p := ⟨vb, 5, none⟩) (.inl rfl) _)
  have HKV5 : Hid (Blk X4 vb 43 [.int .i64 y0, .int .i64 y1, .int .i64 y2, .int .i64 y3, .int .i64 z3, .int .i64 y4, .bool false, .string ⟨#[]⟩, .string ⟨#[]⟩, .int .i64 0, .slice none 0 0, .slice none 0 0, .slice none 0 0, .slice none 0 0, .int .i64 0]) := by rw [hX4]; exact (hkv.set 5 _)
  have HKR5 : Hid (Blk X4 rs 43 [.int .i64 0, .int .i64 0, .int .i64 0, .int .i64 0, .int .i64 0, .int .i64 0, .bool false, .string ⟨#[]⟩, .string ⟨#[]⟩, .int .i64 0, .slice none 0 0, .slice none 0 0, .slice none 0 0, .slice none 0 0, .int .i64 0]) := hst.blk hkr (by have := HNE.out.2.2.2.2.1; omega)
  have HR5 : Hid (RdAt X4 rb ao len cap bs (nxt (nxt (nxt (nxt (nxt st (pNum 255)) (pNum 6)) (pNum 6)) pBal) (pNum 2147483647))) := hr.turned hst (fun e => HNE.out.1 e.symm) (fun ad e hl hh => by have h1 := HOFF.out ad e hl; have h2 := HNE.out.2.2.1; omega)
  have HT5 : Hid (Turns (fun i => i = rb) w X4) := (turns_one HT4.out ht).trans hst (fun i hi => .inr (by rw [hi]; exact HNE.out.2.2.1))
  have e5 := hkv.cell (i := 5) rfl
  have g5 := hkv.frozen 5
  have HX4 := hid hX4
  clear hi hg hkv hkr hr ht hst hX4 e3 g3 e4 g4
  go_wp2_with fail
  rw [← HX4.out]
  refine (HC5.out _ HR5.out).mono ?_
  rintro e u5 ⟨⟨a5, c5, p5, t5, s5, q5, y5, rfl, hg, hvv, hab, hi⟩, hr, ht⟩
  have HVV5 := hid hvv
  clear hvv
  obtain ⟨n5, HN5⟩ : ∃ n, Hid (y5.length = n) := ⟨_, hid rfl⟩
  rw [HN5.out]
  have HAB5 : Hid (∀ b off, a5 = some ⟨b, off, none⟩ → y5 ≠ [] → vb < b) := fun b off e hne => Nat.lt_of_lt_of_le HKV5.out.lt (hab b off e hne)
  clear hab
  have HI5 := hid hi
  have HG5 := hid hg
  have hkv := ht.blk HKV5.out HNE.out.1
  have hkr := ht.blk HKR5.out HNE.out.2.1
  obtain ⟨X5, hX5⟩ : ∃ V, V = (((((u5.setCell ⟨vb, 6, none⟩ (.bool p5)).setCell ⟨vb, 7, none⟩ (.string t5)).setCell ⟨vb, 8, none⟩ (.string s5)).setCell ⟨vb, 9, none⟩ (.int .i64 q5)).setCell ⟨vb, 10, none⟩ (.slice a5 n5 c5)) := ⟨_, rfl⟩
  have hst : Turns (fun i => i = vb) u5 X5 := by rw [hX5]; exact ((((((Turns.refl (fun i => i = vb) u5).setCell (p := ⟨vb, 6, none⟩) (.inl rfl) _).setCell (p := ⟨vb, 7, none⟩) (.inl rfl) _).setCell (p := ⟨vb, 8, none⟩) (.inl rfl) _).setCell (p := ⟨vb, 9, none⟩) (.inl rfl) _).setCell (p := ⟨vb, 10, none⟩) (.inl rfl) _)
  have HKV6 : Hid (Blk X5 vb 43 [.int .i64 y0, .int .i64 y1, .int .i64 y2, .int .i64 y3, .int .i64 z3, .int .i64 y4, .bool p5, .string t5, .string s5, .int .i64 q5, .slice a5 n5 c5, .slice none 0 0, .slice none 0 0, .slice none 0 0, .int .i64 0]) := by rw [hX5]; exact (((((hkv.set 6 _).set 7 _).set 8 _).set 9 _).set 10 _)
  have HKR6 : Hid (Blk X5 rs 43 [.int .i64 0, .int .i64 0, .int .i64 0, .int .i64 0, .int .i64 0, .int .i64 0, .bool false, .string ⟨#[]⟩, .string ⟨#[]⟩, .int .i64 0, .slice none 0 0, .slice none 0 0, .slice none 0 0, .slice none 0 0, .int .i64 0]) := hst.blk hkr (by have := HNE.out.2.2.2.2.1; omega)
  have HR6 : Hid (RdAt X5 rb ao len cap bs (nxt (nxt (nxt (nxt (nxt (nxt st (pNum 255)) (pNum 6)) (pNum 6)) pBal) (pNum 2147483647)) pEntry)) := hr.turned hst (fun e => HNE.out.1 e.symm) (fun ad e hl hh => by have h1 := HOFF.out ad e hl; have h2 := HNE.out.2.2.1; omega)
  have HT6 : Hid (Turns (fun i => i = rb) w X5) := (turns_one HT5.out ht).trans hst (fun i hi => .inr (by rw [hi]; exact HNE.out.2.2.1))
  have HV5x6 : Hid (HN X5 a5 c5 y5) := hnK hst HVV5.out (fun b off e hne hh => by have h1 := HAB5.out b off e hne; omega)
  have e6 := hkv.cell (i := 6) rfl
  have g6 := hkv.frozen 6
  have e7 := hkv.cell (i := 7) rfl
  have g7 := hkv.frozen 7
  have e8 := hkv.cell (i := 8) rfl
  have g8 := hkv.frozen 8
  have e9 := hkv.cell (i := 9) rfl
  have g9 := hkv.frozen 9
  have e10 := hkv.cell (i := 10) rfl
  have g10 := hkv.frozen 10
  have HX5 := hid hX5
  clear hi hg hkv hkr hr ht hst hX5 e5 g5
  go_wp2_with fail
  rw [← HX5.out]
  refine (HC6.out _ HR6.out).mono ?_
  rintro e u6 ⟨⟨a6, c6, y6, rfl, hg, hvv⟩, hr, ht⟩
  have HVV6 := hid hvv
  clear hvv
  obtain ⟨n6, HN6⟩ : ∃ n, Hid (y6.length = n) := ⟨_, hid rfl⟩
  rw [HN6.out]
  have hi := trivial
  have HI6 := hid hi
  have HG6 := hid hg
  have hkv := ht.blk HKV6.out HNE.out.1
  have hkr := ht.blk HKR6.out HNE.out.2.1
  obtain ⟨X6, hX6⟩ : ∃ V, V = (u6.setCell ⟨vb, 11, none⟩ (.slice a6 n6 c6)) := ⟨_, rfl⟩
  have hst : Turns (fun i => i = vb) u6 X6 := by rw [hX6]; exact ((Turns.refl (fun i => i = vb) u6).setCell (p := ⟨vb, 11, none⟩) (.inl rfl) _)
  have HKV7 : Hid (Blk X6 vb 43 [.int .i64 y0, .int .i64 y1, .int .i64 y2, .int .i64 y3, .int .i64 z3, .int .i64 y4, .bool p5, .string t5, .string s5, .int .i64 q5, .slice a5 n5 c5, .slice a6 n6 c6, .slice none 0 0, .slice none 0 0, .int .i64 0]) := by rw [hX6]; exact (hkv.set 11 _)
  have HKR7 : Hid (Blk X6 rs 43 [.int .i64 0, .int .i64 0, .int .i64 0, .int .i64 0, .int .i64 0, .int .i64 0, .bool false, .string ⟨#[]⟩, .string ⟨#[]⟩, .int .i64 0, .slice none 0 0, .slice none 0 0, .slice none 0 0, .slice none 0 0, .int .i64 0]) := hst.blk hkr (by have := HNE.out.2.2.2.2.1; omega)
  have HR7 : Hid (RdAt X6 rb ao len cap bs (nxt (nxt (nxt (nxt (nxt (nxt (nxt st (pNum 255)) (pNum 6)) (pNum 6)) pBal) (pNum 2147483647)) pEntry) (pList 4096 pVoted))) := hr.turned hst (fun e => HNE.out.1 e.symm) (fun ad e hl hh => by have h1 := HOFF.out ad e hl; have h2 := HNE.out.2.2.1; omega)
  have HT7 : Hid (Turns (fun i => i = rb) w X6) := (turns_one HT6.out ht).trans hst (fun i hi => .inr (by rw [hi]; exact HNE.out.2.2.1))
  have HV5x7 : Hid (HN X6 a5 c5 y5) := hnK hst (hnK ht HV5x6.out (fun b off e hne hh => by have h1 := HAB5.out b off e hne; have h2 := HNE.out.2.2.1; have h3 := HNE.out.2.2.2.2.2; omega)) (fun b off e hne hh => by have h1 := HAB5.out b off e hne; omega)
  have HV6x7 : Hid (VosAt w 4096 X6 a6 c6 y6) := (HVV6.out.mono HT6.out.size).other hst hkv (by decide) (by decide)
  have e11 := hkv.cell (i := 11) rfl
  have g11 := hkv.frozen 11
  have HX6 := hid hX6
  clear hi hg hkv hkr hr ht hst hX6 e6 g6 e7 g7 e8 g8 e9 g9 e10 g10
  go_wp2_with fail
  rw [← HX6.out]
  refine (HC7.out _ HR7.out).mono ?_
  rintro e u7 ⟨⟨a7, c7, y7, rfl, hg, hvv, hab⟩, hr, ht⟩
  have HVV7 := hid hvv
  clear hvv
  obtain ⟨n7, HN7⟩ : ∃ n, Hid (y7.length = n) := ⟨_, hid rfl⟩
  rw [HN7.out]
  have HAB7 : Hid (∀ b off, a7 = some ⟨b, off, none⟩ → y7 ≠ [] → vb < b) := fun b off e hne => Nat.lt_of_lt_of_le HKV7.out.lt (hab b off e hne)
  clear hab
  have hi := trivial
  have HI7 := hid hi
  have HG7 := hid hg
  have hkv := ht.blk HKV7.out HNE.out.1
  have hkr := ht.blk HKR7.out HNE.out.2.1
  obtain ⟨X7, hX7⟩ : ∃ V, V = (u7.setCell ⟨vb, 12, none⟩ (.slice a7 n7 c7)) := ⟨_, rfl⟩
  have hst : Turns (fun i => i = vb) u7 X7 := by rw [hX7]; exact ((Turns.refl (fun i => i = vb) u7).setCell (p := ⟨vb, 12, none⟩) (.inl rfl) _)
  have HKV8 : Hid (Blk X7 vb 43 [.int .i64 y0, .int .i64 y1, .int .i64 y2, .int .i64 y3, .int .i64 z3, .int .i64 y4, .bool p5, .string t5, .string s5, .int .i64 q5, .slice a5 n5 c5, .slice a6 n6 c6, .slice a7 n7 c7, .slice none 0 0, .int .i64 0]) := by rw [hX7]; exact (hkv.set 12 _)
  have HKR8 : Hid (Blk X7 rs 43 [.int .i64 0, .int .i64 0, .int .i64 0, .int .i64 0, .int .i64 0, .int .i64 0, .bool false, .string ⟨#[]⟩, .string ⟨#[]⟩, .int .i64 0, .slice none 0 0, .slice none 0 0, .slice none 0 0, .slice none 0 0, .int .i64 0]) := hst.blk hkr (by have := HNE.out.2.2.2.2.1; omega)
  have HR8 : Hid (RdAt X7 rb ao len cap bs (nxt (nxt (nxt (nxt (nxt (nxt (nxt (nxt st (pNum 255)) (pNum 6)) (pNum 6)) pBal) (pNum 2147483647)) pEntry) (pList 4096 pVoted)) pVec)) := hr.turned hst (fun e => HNE.out.1 e.symm) (fun ad e hl hh => by have h1 := HOFF.out ad e hl; have h2 := HNE.out.2.2.1; omega)
  have HT8 : Hid (Turns (fun i => i = rb) w X7) := (turns_one HT7.out ht).trans hst (fun i hi => .inr (by rw [hi]; exact HNE.out.2.2.1))
  have HV5x8 : Hid (HN X7 a5 c5 y5) := hnK hst (hnK ht HV5x7.out (fun b off e hne hh => by have h1 := HAB5.out b off e hne; have h2 := HNE.out.2.2.1; have h3 := HNE.out.2.2.2.2.2; omega)) (fun b off e hne hh => by have h1 := HAB5.out b off e hne; omega)
  have HV6x8 : Hid (VosAt w 4096 X7 a6 c6 y6) := (HV6x7.out.rd HR7.out ht).other hst hkv (by decide) (by decide)
  have HV7x8 : Hid (HN X7 a7 c7 y7) := hnK hst HVV7.out (fun b off e hne hh => by have h1 := HAB7.out b off e hne; omega)
  have e12 := hkv.cell (i := 12) rfl
  have g12 := hkv.frozen 12
  have HX7 := hid hX7
  clear hi hg hkv hkr hr ht hst hX7 e11 g11
  go_wp2_with fail
  rw [← HX7.out]
  refine (HC8.out _ HR8.out).mono ?_
  rintro e u8 ⟨⟨a8, c8, y8, rfl, hg, hvv⟩, hr, ht⟩
  have HVV8 := hid hvv
  clear hvv
  obtain ⟨n8, HN8⟩ : ∃ n, Hid (y8.length = n) := ⟨_, hid rfl⟩
  rw [HN8.out]
  have hi := trivial
  have HI8 := hid hi
  have HG8 := hid hg
  have hkv := ht.blk HKV8.out HNE.out.1
  have hkr := ht.blk HKR8.out HNE.out.2.1
  obtain ⟨X8, hX8⟩ : ∃ V, V = (u8.setCell ⟨vb, 13, none⟩ (.slice a8 n8 c8)) := ⟨_, rfl⟩
  have hst : Turns (fun i => i = vb) u8 X8 := by rw [hX8]; exact ((Turns.refl (fun i => i = vb) u8).setCell (p := ⟨vb, 13, none⟩) (.inl rfl) _)
  have HKV9 : Hid (Blk X8 vb 43 [.int .i64 y0, .int .i64 y1, .int .i64 y2, .int .i64 y3, .int .i64 z3, .int .i64 y4, .bool p5, .string t5, .string s5, .int .i64 q5, .slice a5 n5 c5, .slice a6 n6 c6, .slice a7 n7 c7, .slice a8 n8 c8, .int .i64 0]) := by rw [hX8]; exact (hkv.set 13 _)
  have HKR9 : Hid (Blk X8 rs 43 [.int .i64 0, .int .i64 0, .int .i64 0, .int .i64 0, .int .i64 0, .int .i64 0, .bool false, .string ⟨#[]⟩, .string ⟨#[]⟩, .int .i64 0, .slice none 0 0, .slice none 0 0, .slice none 0 0, .slice none 0 0, .int .i64 0]) := hst.blk hkr (by have := HNE.out.2.2.2.2.1; omega)
  have HR9 : Hid (RdAt X8 rb ao len cap bs (nxt (nxt (nxt (nxt (nxt (nxt (nxt (nxt (nxt st (pNum 255)) (pNum 6)) (pNum 6)) pBal) (pNum 2147483647)) pEntry) (pList 4096 pVoted)) pVec) (pList 4096 pEvent))) := hr.turned hst (fun e => HNE.out.1 e.symm) (fun ad e hl hh => by have h1 := HOFF.out ad e hl; have h2 := HNE.out.2.2.1; omega)
  have HT9 : Hid (Turns (fun i => i = rb) w X8) := (turns_one HT8.out ht).trans hst (fun i hi => .inr (by rw [hi]; exact HNE.out.2.2.1))
  have HV5x9 : Hid (HN X8 a5 c5 y5) := hnK hst (hnK ht HV5x8.out (fun b off e hne hh => by have h1 := HAB5.out b off e hne; have h2 := HNE.out.2.2.1; have h3 := HNE.out.2.2.2.2.2; omega)) (fun b off e hne hh => by have h1 := HAB5.out b off e hne; omega)
  have HV6x9 : Hid (VosAt w 4096 X8 a6 c6 y6) := (HV6x8.out.rd HR8.out ht).other hst hkv (by decide) (by decide)
  have HV7x9 : Hid (HN X8 a7 c7 y7) := hnK hst (hnK ht HV7x8.out (fun b off e hne hh => by have h1 := HAB7.out b off e hne; have h2 := HNE.out.2.2.1; have h3 := HNE.out.2.2.2.2.2; omega)) (fun b off e hne hh => by have h1 := HAB7.out b off e hne; omega)
  have HV8x9 : Hid (EvsAt w 4096 X8 a8 c8 y8) := (HVV8.out.mono HT8.out.size).other hst hkv (by decide) (by decide)
  have e13 := hkv.cell (i := 13) rfl
  have g13 := hkv.frozen 13
  have HX8 := hid hX8
  clear hi hg hkv hkr hr ht hst hX8 e12 g12
  go_wp2_with fail
  rw [← HX8.out]
  refine (HC9.out _ HR9.out).mono ?_
  rintro e u9 ⟨⟨y9, rfl, hi, hg⟩, hr, ht⟩
  have HI9 := hid hi
  have HG9 := hid hg
  have hkv := ht.blk HKV9.out HNE.out.1
  have hkr := ht.blk HKR9.out HNE.out.2.1
  obtain ⟨X9, hX9⟩ : ∃ V, V = (u9.setCell ⟨vb, 14, none⟩ (.int .i64 y9)) := ⟨_, rfl⟩
  have hst : Turns (fun i => i = vb) u9 X9 := by rw [hX9]; exact ((Turns.refl (fun i => i = vb) u9).setCell (p := ⟨vb, 14, none⟩) (.inl rfl) _)
  have HKV10 : Hid (Blk X9 vb 43 [.int .i64 y0, .int .i64 y1, .int .i64 y2, .int .i64 y3, .int .i64 z3, .int .i64 y4, .bool p5, .string t5, .string s5, .int .i64 q5, .slice a5 n5 c5, .slice a6 n6 c6, .slice a7 n7 c7, .slice a8 n8 c8, .int .i64 y9]) := by rw [hX9]; exact (hkv.set 14 _)
  have HKR10 : Hid (Blk X9 rs 43 [.int .i64 0, .int .i64 0, .int .i64 0, .int .i64 0, .int .i64 0, .int .i64 0, .bool false, .string ⟨#[]⟩, .string ⟨#[]⟩, .int .i64 0, .slice none 0 0, .slice none 0 0, .slice none 0 0, .slice none 0 0, .int .i64 0]) := hst.blk hkr (by have := HNE.out.2.2.2.2.1; omega)
  have HR10 : Hid (RdAt X9 rb ao len cap bs (nxt (nxt (nxt (nxt (nxt (nxt (nxt (nxt (nxt (nxt st (pNum 255)) (pNum 6)) (pNum 6)) pBal) (pNum 2147483647)) pEntry) (pList 4096 pVoted)) pVec) (pList 4096 pEvent)) (pNum 4611686018427387904))) := hr.turned hst (fun e => HNE.out.1 e.symm) (fun ad e hl hh => by have h1 := HOFF.out ad e hl; have h2 := HNE.out.2.2.1; omega)
  have HT10 : Hid (Turns (fun i => i = rb) w X9) := (turns_one HT9.out ht).trans hst (fun i hi => .inr (by rw [hi]; exact HNE.out.2.2.1))
  have HV5x10 : Hid (HN X9 a5 c5 y5) := hnK hst (hnK ht HV5x9.out (fun b off e hne hh => by have h1 := HAB5.out b off e hne; have h2 := HNE.out.2.2.1; have h3 := HNE.out.2.2.2.2.2; omega)) (fun b off e hne hh => by have h1 := HAB5.out b off e hne; omega)
  have HV6x10 : Hid (VosAt w 4096 X9 a6 c6 y6) := (HV6x9.out.rd HR9.out ht).other hst hkv (by decide) (by decide)
  have HV7x10 : Hid (HN X9 a7 c7 y7) := hnK hst (hnK ht HV7x9.out (fun b off e hne hh => by have h1 := HAB7.out b off e hne; have h2 := HNE.out.2.2.1; have h3 := HNE.out.2.2.2.2.2; omega)) (fun b off e hne hh => by have h1 := HAB7.out b off e hne; omega)
  have HV8x10 : Hid (EvsAt w 4096 X9 a8 c8 y8) := (HV8x9.out.rd HR9.out ht).other hst hkv (by decide) (by decide)
  have e14 := hkv.cell (i := 14) rfl
  have g14 := hkv.frozen 14
  have HX9 := hid hX9
  clear hi hg hkv hkr hr ht hst hX9 e13 g13
  have qq0 := HKV10.out.cell (i := 0) rfl
  have qq1 := HKV10.out.cell (i := 1) rfl
  have qq2 := HKV10.out.cell (i := 2) rfl
  have qq3 := HKV10.out.cell (i := 3) rfl
  have qq4 := HKV10.out.cell (i := 4) rfl
  have qq5 := HKV10.out.cell (i := 5) rfl
  have qq6 := HKV10.out.cell (i := 6) rfl
  have qq7 := HKV10.out.cell (i := 7) rfl
  have qq8 := HKV10.out.cell (i := 8) rfl
  have qq9 := HKV10.out.cell (i := 9) rfl
  have qq10 := HKV10.out.cell (i := 10) rfl
  have qq11 := HKV10.out.cell (i := 11) rfl
  have qq12 := HKV10.out.cell (i := 12) rfl
  have qq13 := HKV10.out.cell (i := 13) rfl
  have qq14 := HKV10.out.cell (i := 14) rfl
  have r0 := HKR10.out.cell (i := 0) rfl
  have f0 := HKR10.out.frozen 0
  have r1 := HKR10.out.cell (i := 1) rfl
  have f1 := HKR10.out.frozen 1
  have r2 := HKR10.out.cell (i := 2) rfl
  have f2 := HKR10.out.frozen 2
  have r3 := HKR10.out.cell (i := 3) rfl
  have f3 := HKR10.out.frozen 3
  have r4 := HKR10.out.cell (i := 4) rfl
  have f4 := HKR10.out.frozen 4
  have r5 := HKR10.out.cell (i := 5) rfl
  have f5 := HKR10.out.frozen 5
  have r6 := HKR10.out.cell (i := 6) rfl
  have f6 := HKR10.out.frozen 6
  have r7 := HKR10.out.cell (i := 7) rfl
  have f7 := HKR10.out.frozen 7
  have r8 := HKR10.out.cell (i := 8) rfl
  have f8 := HKR10.out.frozen 8
  have r9 := HKR10.out.cell (i := 9) rfl
  have f9 := HKR10.out.frozen 9
  have r10 := HKR10.out.cell (i := 10) rfl
  have f10 := HKR10.out.frozen 10
  have r11 := HKR10.out.cell (i := 11) rfl
  have f11 := HKR10.out.frozen 11
  have r12 := HKR10.out.cell (i := 12) rfl
  have f12 := HKR10.out.frozen 12
  have r13 := HKR10.out.cell (i := 13) rfl
  have f13 := HKR10.out.frozen 13
  have r14 := HKR10.out.cell (i := 14) rfl
  have f14 := HKR10.out.frozen 14
  rw [HX9.out] at qq0 r0 f0 qq1 r1 f1 qq2 r2 f2 qq3 r3 f3 qq4 r4 f4 qq5 r5 f5 qq6 r6 f6 qq7 r7 f7 qq8 r8 f8 qq9 r9 f9 qq10 r10 f10 qq11 r11 f11 qq12 r12 f12 qq13 r13 f13 qq14 r14 f14
  obtain ⟨W9, hW9⟩ : ∃ V, V = (((((((((((((((X9.setCell ⟨rs, 0, none⟩ (.int .i64 y0)).setCell ⟨rs, 1, none⟩ (.int .i64 y1)).setCell ⟨rs, 2, none⟩ (.int .i64 y2)).setCell ⟨rs, 3, none⟩ (.int .i64 y3)).setCell ⟨rs, 4, none⟩ (.int .i64 z3)).setCell ⟨rs, 5, none⟩ (.int .i64 y4)).setCell ⟨rs, 6, none⟩ (.bool p5)).setCell ⟨rs, 7, none⟩ (.string t5)).setCell ⟨rs, 8, none⟩ (.string s5)).setCell ⟨rs, 9, none⟩ (.int .i64 q5)).setCell ⟨rs, 10, none⟩ (.slice a5 n5 c5)).setCell ⟨rs, 11, none⟩ (.slice a6 n6 c6)).setCell ⟨rs, 12, none⟩ (.slice a7 n7 c7)).setCell ⟨rs, 13, none⟩ (.slice a8 n8 c8)).setCell ⟨rs, 14, none⟩ (.int .i64 y9)) := ⟨_, rfl⟩
  have hk9 : Blk W9 rs 43 [.int .i64 y0, .int .i64 y1, .int .i64 y2, .int .i64 y3, .int .i64 z3, .int .i64 y4, .bool p5, .string t5, .string s5, .int .i64 q5, .slice a5 n5 c5, .slice a6 n6 c6, .slice a7 n7 c7, .slice a8 n8 c8, .int .i64 y9] := by rw [hW9]; exact (((((((((((((((HKR10.out.set 0 _).set 1 _).set 2 _).set 3 _).set 4 _).set 5 _).set 6 _).set 7 _).set 8 _).set 9 _).set 10 _).set 11 _).set 12 _).set 13 _).set 14 _)
  have hst : Turns (fun i => i = rs) X9 W9 := by rw [hW9]; exact ((((((((((((((((Turns.refl (fun i => i = rs) X9).setCell (p := ⟨rs, 0, none⟩) (.inl rfl) _).setCell (p := ⟨rs, 1, none⟩) (.inl rfl) _).setCell (p := ⟨rs, 2, none⟩) (.inl rfl) _).setCell (p := ⟨rs, 3, none⟩) (.inl rfl) _).setCell (p := ⟨rs, 4, none⟩) (.inl rfl) _).setCell (p := ⟨rs, 5, none⟩) (.inl rfl) _).setCell (p := ⟨rs, 6, none⟩) (.inl rfl) _).setCell (p := ⟨rs, 7, none⟩) (.inl rfl) _).setCell (p := ⟨rs, 8, none⟩) (.inl rfl) _).setCell (p := ⟨rs, 9, none⟩) (.inl rfl) _).setCell (p := ⟨rs, 10, none⟩) (.inl rfl) _).setCell (p := ⟨rs, 11, none⟩) (.inl rfl) _).setCell (p := ⟨rs, 12, none⟩) (.inl rfl) _).setCell (p := ⟨rs, 13, none⟩) (.inl rfl) _).setCell (p := ⟨rs, 14, none⟩) (.inl rfl) _)
  have HR9 : Hid (RdAt W9 rb ao len cap bs (nxt (nxt (nxt (nxt (nxt (nxt (nxt (nxt (nxt (nxt st (pNum 255)) (pNum 6)) (pNum 6)) pBal) (pNum 2147483647)) pEntry) (pList 4096 pVoted)) pVec) (pList 4096 pEvent)) (pNum 4611686018427387904))) := HR10.out.turned hst (fun e => HNE.out.2.1 e.symm) (fun ad e hl hh => by have h1 := HOFF.out ad e hl; have h2 := HNE.out.2.2.2.1; omega)
  have HT9 : Hid (Turns (fun i => i = rb) w W9) := HT10.out.trans hst (fun i hi => .inr (by rw [hi]; exact HNE.out.2.2.2.1))
  have HVF5 : Hid (HN W9 a5 c5 y5) := hnK hst HV5x10.out (fun b off e hne hh => by have h1 := HAB5.out b off e hne; have h2 := HNE.out.2.2.2.2.1; omega)
  have HVF6 : Hid (VosAt w 4096 W9 a6 c6 y6) := HV6x10.out.other hst HKR10.out (by decide) (by decide)
  have HVF7 : Hid (HN W9 a7 c7 y7) := hnK hst HV7x10.out (fun b off e hne hh => by have h1 := HAB7.out b off e hne; have h2 := HNE.out.2.2.2.2.1; omega)
  have HVF8 : Hid (EvsAt w 4096 W9 a8 c8 y8) := HV8x10.out.other hst HKR10.out (by decide) (by decide)
  have k0 := hk9.cell (i := 0) rfl
  have k1 := hk9.cell (i := 1) rfl
  have k2 := hk9.cell (i := 2) rfl
  have k3 := hk9.cell (i := 3) rfl
  have k4 := hk9.cell (i := 4) rfl
  have k5 := hk9.cell (i := 5) rfl
  have k6 := hk9.cell (i := 6) rfl
  have k7 := hk9.cell (i := 7) rfl
  have k8 := hk9.cell (i := 8) rfl
  have k9 := hk9.cell (i := 9) rfl
  have k10 := hk9.cell (i := 10) rfl
  have k11 := hk9.cell (i := 11) rfl
  have k12 := hk9.cell (i := 12) rfl
  have k13 := hk9.cell (i := 13) rfl
  have k14 := hk9.cell (i := 14) rfl
  rw [HX9.out] at hW9
  clear hk9 hst
  go_wp2
  rw [← hW9]
  (try simp only [Exit.inBlock, Exit.then])
  refine bodyPost_ret (v := .agg #[.int .i64 y0, .int .i64 y1, .int .i64 y2, .int .i64 y3, .int .i64 z3, .int .i64 y4, .bool p5, .string t5, .string s5, .int .i64 q5, .slice a5 n5 c5, .slice a6 n6 c6, .slice a7 n7 c7, .slice a8 n8 c8, .int .i64 y9]) ?_ rfl ⟨⟨y0, y1, y2, y3, z3, y4, a5, c5, p5, t5, s5, q5, y5, a6, c6, y6, a7, c7, y7, a8, c8, y8, y9, by rw [HN5.out, HN6.out, HN7.out, HN8.out], HG0.out, HI0.out, HG1.out, HI1.out, HG2.out, HI2.out, HG3.out, HI3.out, HG4.out, HI4.out, HG5.out, HI5.out, HVF5.out, (fun b off e hne => by have h1 := HAB5.out b off e hne; have h2 := HNE.out.2.2.1; omega), HG6.out, HVF6.out, HG7.out, HVF7.out, (fun b off e hne => by have h1 := HAB7.out b off e hne; have h2 := HNE.out.2.2.1; omega), HG8.out, HVF8.out, HG9.out, HI9.out⟩, HR9.out, HT9.out⟩
  rw [results_cell1B rfl]
  go_simp
end Go.Proofs.YtfmnbehopdmahaaGreat
