/-
  Package codec: ReadEvent, ReadSeal of bytes that begin with no event, no seal.
-/
import Derived.Test.YtmpkbdhihdboiaaRdV
namespace Go.Proofs.Ytmpkbdhihdboiaa
open Go.RowKit Go.Maps

/-- What a read answers: where these bytes say nothing, ErrCode. -/
def WkEv (w : World) (bs : List Int) (e : Ending) (w' : World) : Prop := ∃ (oo ss : Int) (a : Option Addr) (XN c : Nat) (ct : ByteArray) (ep : Int) (sk : ByteArray) (qy : Int) (cl : Bool) (n : Nat) (E : Int), e = .returned (.tuple #[.agg #[.int .i64 oo, .int .i64 ss, .slice a XN c, .string ct, .int .i64 ep, .string sk, .int .i64 qy, .bool cl], .int .i64 (n : Int), .int .i64 E]) ∧ (pEvent bs = none → E = 10) ∧ Below w.heap.size w w'

/-- What a read answers: where these bytes say nothing, ErrCode. -/
def WkSl (w : World) (bs : List Int) (e : Ending) (w' : World) : Prop := ∃ (tk ct : ByteArray) (ep : Int) (a : Option Addr) (XN c : Nat) (n : Nat) (E : Int), e = .returned (.tuple #[.agg #[.string tk, .string ct, .int .i64 ep, .slice a XN c], .int .i64 (n : Int), .int .i64 E]) ∧ (pSeal bs = none → E = 10) ∧ Below w.heap.size w w'

set_option maxRecDepth 1000000 in
set_option maxHeartbeats 8000000 in
theorem readBySl (ao : Option Addr) (len cap : Nat) (bs : List Int) (w : World) (h : Held w ao len cap bs) : Calls Try.prog 67 #[.slice ao len cap, .func (.func 36) #[] #[]] w (WkSl w bs) := by
  obtain ⟨W1, hW1⟩ : ∃ W, W = w.alloc (.cells #[.string ⟨#[]⟩, .string ⟨#[]⟩, .int .i64 0, .slice none 0 0] 26) := ⟨_, rfl⟩
  obtain ⟨W, hW⟩ : ∃ W, W = W1.alloc (.cells #[.slice ao len cap, .int .i64 0, .int .i64 0] 107) := ⟨_, rfl⟩
  have hs1 : W1.heap.size = w.heap.size + 1 := by rw [hW1]; simp
  have hb1 : Below w.heap.size w W1 := by rw [hW1]; exact (Below.refl _ _).alloc (Nat.le_refl _) _
  have hb : Below w.heap.size w W := by rw [hW]; exact hb1.alloc hb1.size _
  obtain ⟨rs, hrs⟩ : ∃ q, q = w.heap.size := ⟨_, rfl⟩
  obtain ⟨rb, hrb⟩ : ∃ q, q = w.heap.size + 1 := ⟨_, rfl⟩
  have HKS : Hid (Blk W rs 26 [.string ⟨#[]⟩, .string ⟨#[]⟩, .int .i64 0, .slice none 0 0]) := by rw [hrs, hW, hW1]; exact (Blk.new w _ _).alloc _
  have hk : Blk W rb 107 [.slice ao len cap, .int .i64 0, .int .i64 0] := by rw [hrb, hW, ← hs1]; exact Blk.new W1 _ _
  have HRD : Hid (RdAt W rb ao len cap bs (some bs)) := ⟨h.below hb (Nat.le_refl _), 0, 0, hk, Nat.zero_le _, .inl ⟨rfl, rfl⟩⟩
  have HPT := hid HRD.out.partSeal
  have HNE : Hid (rs ≠ rb ∧ w.heap.size ≤ rs ∧ w.heap.size ≤ rb ∧ rs < rb) := ⟨by omega, by omega, by omega, by omega⟩
  have HW : Hid (W = (w.alloc (.cells #[.string ⟨#[]⟩, .string ⟨#[]⟩, .int .i64 0, .slice none 0 0] 26)).alloc (.cells #[.slice ao len cap, .int .i64 0, .int .i64 0] 107)) := by show _ = _; rw [hW, hW1]
  have HRS := hid hrs
  have HRB := hid hrb
  have HB := hid hb
  clear h hk hW hW1 hs1 hb1 hb hrs hrb
  go_enter Try.func67, Try.ntmps67
  go_wp2_with fail
  rw [← HW.out, ← HRB.out, ← HRS.out]
  refine HPT.out.mono ?_
  rintro e u ⟨⟨tk, ct, ep, a, c, cut, rfl, _⟩, hr, ht⟩
  obtain ⟨XN, HXN⟩ : ∃ m, Hid (cut.length = m) := ⟨_, hid rfl⟩
  rw [HXN.out]
  have hrr : RdAt u rb ao len cap bs (nxt (some bs) pSeal) := by
    unfold pSeal
    rw [nxt_map, ← nxt_seq, ← nxt_seq, ← nxt_seq]
    exact hr
  have hku := ht.blk HKS.out HNE.out.1
  have HBU : Hid (Below w.heap.size w u) := HB.out.trans (ht.below (fun i hh => by rw [hh]; exact HNE.out.2.2.1) HB.out.size)
  obtain ⟨U, hU⟩ : ∃ V, V = u.alloc (.cells #[.string tk, .string ct, .int .i64 ep, .slice a XN c] 26) := ⟨_, rfl⟩
  obtain ⟨xb, hxb⟩ : ∃ q, q = u.heap.size := ⟨_, rfl⟩
  have hbU : Below u.heap.size u U := by rw [hU]; exact (Below.refl _ _).alloc (Nat.le_refl _) _
  have HKX : Hid (Blk U xb 26 [.string tk, .string ct, .int .i64 ep, .slice a XN c]) := by rw [hU, hxb]; exact Blk.new u _ _
  have HKS2 := hid (hku.below hbU hku.lt)
  have HRU := hid (hrr.below hbU)
  have HBX := hid (bt' HBU.out hbU)
  have HXS : Hid (rs < xb ∧ rb < xb) := by obtain ⟨_, _, hkk, _⟩ := hrr.blk; have h1 := hku.lt; have h2 := hkk.lt; exact ⟨by omega, by omega⟩
  have HU := hid hU
  have HXB := hid hxb
  obtain ⟨at', er, hkk, hat, hst⟩ := HRU.out.blk
  have HKB := hid hkk
  clear hr ht hrr hku hbU hU hxb hat hkk HPT
  rcases hst with ⟨h1, rfl⟩ | ⟨h1, rfl⟩
  · have HP : Hid (pSeal bs = none → (0 : Int) = 10) := fun hp => by
      unfold nxt at h1
      rw [Option.bind_some, hp] at h1
      cases h1
    clear h1
    have q0 := HKX.out.cell (i := 0) rfl
    have q1 := HKX.out.cell (i := 1) rfl
    have q2 := HKX.out.cell (i := 2) rfl
    have q3 := HKX.out.cell (i := 3) rfl
    have r0 := HKS2.out.cell (i := 0) rfl
    have f0 := HKS2.out.frozen 0
    have r1 := HKS2.out.cell (i := 1) rfl
    have f1 := HKS2.out.frozen 1
    have r2 := HKS2.out.cell (i := 2) rfl
    have f2 := HKS2.out.frozen 2
    have r3 := HKS2.out.cell (i := 3) rfl
    have f3 := HKS2.out.frozen 3
    have b1 := HKB.out.cell (i := 1) rfl
    have b2 := HKB.out.cell (i := 2) rfl
    have HSA : Hid (∀ V, Turns (fun i => i = rs) U V → (Turns (fun i => i = rs) U V ∧ V.cell? ⟨xb, 0, none⟩ = some (.string tk) ∧ V.cell? ⟨xb, 1, none⟩ = some (.string ct) ∧ V.cell? ⟨xb, 2, none⟩ = some (.int .i64 ep) ∧ V.cell? ⟨xb, 3, none⟩ = some (.slice a XN c) ∧ V.cell? ⟨rb, 1, none⟩ = some (.int .i64 (at' : Int)))) := fun V hV => by
      have h1 := hV.blk HKX.out (by have := HXS.out.1; omega)
      have h2 := hV.blk HKB.out (fun e => HNE.out.1 e.symm)
      exact ⟨hV, h1.cell rfl, h1.cell rfl, h1.cell rfl, h1.cell rfl, h2.cell rfl⟩
    have HTU : Hid (Turns (fun i => i = rs) U U) := Turns.refl _ _
    rw [HU.out] at q0 q1 q2 q3 r0 f0 r1 f1 r2 f2 r3 f3 b1 b2
    go_wp2
    rw [← HU.out, ← HXB.out]
    clear q0 q1 q2 q3 r0 f0 r1 f1 r2 f2 r3 f3 b1 b2
    have q0 := HKX.out.cell (i := 0) rfl
    have q1 := HKX.out.cell (i := 1) rfl
    have q2 := HKX.out.cell (i := 2) rfl
    have q3 := HKX.out.cell (i := 3) rfl
    have r0 := HKS2.out.cell (i := 0) rfl
    have f0 := HKS2.out.frozen 0
    have r1 := HKS2.out.cell (i := 1) rfl
    have f1 := HKS2.out.frozen 1
    have r2 := HKS2.out.cell (i := 2) rfl
    have f2 := HKS2.out.frozen 2
    have r3 := HKS2.out.cell (i := 3) rfl
    have f3 := HKS2.out.frozen 3
    have b1 := HKB.out.cell (i := 1) rfl
    have b2 := HKB.out.cell (i := 2) rfl
    go_region_held3 (fun V => Turns (fun i => i = rs) U V ∧ V.cell? ⟨xb, 0, none⟩ = some (.string tk) ∧ V.cell? ⟨xb, 1, none⟩ = some (.string ct) ∧ V.cell? ⟨xb, 2, none⟩ = some (.int .i64 ep) ∧ V.cell? ⟨xb, 3, none⟩ = some (.slice a XN c) ∧ V.cell? ⟨rb, 1, none⟩ = some (.int .i64 (at' : Int)))
      (first | (refine HSA.out _ ?_; (repeat (first | with_reducible assumption | with_reducible exact HTU.out | with_reducible apply Turns.drew | with_reducible apply turns_rs)); done))
      (fail)
    all_goals
      obtain ⟨W9, hW9⟩ : ∃ V, V = ((((U.setCell ⟨rs, 0, none⟩ (.string tk)).setCell ⟨rs, 1, none⟩ (.string ct)).setCell ⟨rs, 2, none⟩ (.int .i64 ep)).setCell ⟨rs, 3, none⟩ (.slice a XN c)) := ⟨_, rfl⟩
      have hk9 : Blk W9 rs 26 [.string tk, .string ct, .int .i64 ep, .slice a XN c] := by rw [hW9]; exact ((((HKS2.out.set 0 _).set 1 _).set 2 _).set 3 _)
      have hst : Turns (fun i => i = rs) U W9 := by rw [hW9]; exact (((((Turns.refl (fun i => i = rs) U).setCell (p := ⟨rs, 0, none⟩) (.inl rfl) _).setCell (p := ⟨rs, 1, none⟩) (.inl rfl) _).setCell (p := ⟨rs, 2, none⟩) (.inl rfl) _).setCell (p := ⟨rs, 3, none⟩) (.inl rfl) _)
      have HBF : Hid (Below w.heap.size w W9) := HBX.out.trans (hst.below (fun i hh => by rw [hh]; exact HNE.out.2.1) HBX.out.size)
      have k0 := hk9.cell (i := 0) rfl
      have k1 := hk9.cell (i := 1) rfl
      have k2 := hk9.cell (i := 2) rfl
      have k3 := hk9.cell (i := 3) rfl
      clear hk9 hst
      go_wp2
      rw [← hW9]
      (try simp only [Exit.inBlock, Exit.then])
      refine bodyPost_ret (v := .tuple #[.agg #[.string tk, .string ct, .int .i64 ep, .slice a XN c], .int .i64 (at' : Int), .int .i64 0]) ?_ rfl ⟨tk, ct, ep, a, XN, c, at', 0, rfl, HP.out, HBF.out.drew⟩
      rw [results_cellR3 rfl]
      go_simp
  · clear h1
    obtain ⟨U2, hU2⟩ : ∃ V, V = U.alloc (.cells #[.string ⟨#[]⟩, .string ⟨#[]⟩, .int .i64 0, .slice none 0 0] 26) := ⟨_, rfl⟩
    obtain ⟨zb, hzb⟩ : ∃ q, q = u.heap.size + 1 := ⟨_, rfl⟩
    have hUs : U.heap.size = u.heap.size + 1 := by rw [HU.out]; simp
    have hbz : Below U.heap.size U U2 := by rw [hU2]; exact (Below.refl _ _).alloc (Nat.le_refl _) _
    have HKZ : Hid (Blk U2 zb 26 [.string ⟨#[]⟩, .string ⟨#[]⟩, .int .i64 0, .slice none 0 0]) := by rw [hU2, hzb, ← hUs]; exact Blk.new U _ _
    have HKS3 := hid (HKS2.out.below hbz HKS2.out.lt)
    have HKB3 := hid (HKB.out.below hbz HKB.out.lt)
    have HBZ := hid (bt' HBX.out hbz)
    have HZS : Hid (rs < zb) := by have h1 := HKS2.out.lt; exact hid (by omega)
    have HSA : Hid (∀ V, Turns (fun i => i = rs) U2 V → (Turns (fun i => i = rs) U2 V ∧ V.cell? ⟨zb, 0, none⟩ = some (.string ⟨#[]⟩) ∧ V.cell? ⟨zb, 1, none⟩ = some (.string ⟨#[]⟩) ∧ V.cell? ⟨zb, 2, none⟩ = some (.int .i64 0) ∧ V.cell? ⟨zb, 3, none⟩ = some (.slice none 0 0) ∧ V.cell? ⟨rb, 2, none⟩ = some (.int .i64 10))) := fun V hV => by
      have h1 := hV.blk HKZ.out (by have := HZS.out; omega)
      have h2 := hV.blk HKB3.out (fun e => HNE.out.1 e.symm)
      exact ⟨hV, h1.cell rfl, h1.cell rfl, h1.cell rfl, h1.cell rfl, h2.cell rfl⟩
    have HTU : Hid (Turns (fun i => i = rs) U2 U2) := Turns.refl _ _
    have HU2 := hid hU2
    have HZB := hid hzb
    have b2 := HKB.out.cell (i := 2) rfl
    rw [HU.out] at b2
    clear hU2 hzb hbz hUs
    go_wp2
    rw [← HU.out, ← HU2.out, ← HZB.out]
    clear b2
    have r0 := HKS3.out.cell (i := 0) rfl
    have f0 := HKS3.out.frozen 0
    have r1 := HKS3.out.cell (i := 1) rfl
    have f1 := HKS3.out.frozen 1
    have r2 := HKS3.out.cell (i := 2) rfl
    have f2 := HKS3.out.frozen 2
    have r3 := HKS3.out.cell (i := 3) rfl
    have f3 := HKS3.out.frozen 3
    go_region_held3 (fun V => Turns (fun i => i = rs) U2 V ∧ V.cell? ⟨zb, 0, none⟩ = some (.string ⟨#[]⟩) ∧ V.cell? ⟨zb, 1, none⟩ = some (.string ⟨#[]⟩) ∧ V.cell? ⟨zb, 2, none⟩ = some (.int .i64 0) ∧ V.cell? ⟨zb, 3, none⟩ = some (.slice none 0 0) ∧ V.cell? ⟨rb, 2, none⟩ = some (.int .i64 10))
      (first | (refine HSA.out _ ?_; (repeat (first | with_reducible assumption | with_reducible exact HTU.out | with_reducible apply Turns.drew | with_reducible apply turns_rs)); done))
      (fail)
    all_goals
      obtain ⟨W9, hW9⟩ : ∃ V, V = ((((U2.setCell ⟨rs, 0, none⟩ (.string ⟨#[]⟩)).setCell ⟨rs, 1, none⟩ (.string ⟨#[]⟩)).setCell ⟨rs, 2, none⟩ (.int .i64 0)).setCell ⟨rs, 3, none⟩ (.slice none 0 0)) := ⟨_, rfl⟩
      have hk9 : Blk W9 rs 26 [.string ⟨#[]⟩, .string ⟨#[]⟩, .int .i64 0, .slice none 0 0] := by rw [hW9]; exact ((((HKS3.out.set 0 _).set 1 _).set 2 _).set 3 _)
      have hst : Turns (fun i => i = rs) U2 W9 := by rw [hW9]; exact (((((Turns.refl (fun i => i = rs) U2).setCell (p := ⟨rs, 0, none⟩) (.inl rfl) _).setCell (p := ⟨rs, 1, none⟩) (.inl rfl) _).setCell (p := ⟨rs, 2, none⟩) (.inl rfl) _).setCell (p := ⟨rs, 3, none⟩) (.inl rfl) _)
      have HBF : Hid (Below w.heap.size w W9) := HBZ.out.trans (hst.below (fun i hh => by rw [hh]; exact HNE.out.2.1) HBZ.out.size)
      have k0 := hk9.cell (i := 0) rfl
      have k1 := hk9.cell (i := 1) rfl
      have k2 := hk9.cell (i := 2) rfl
      have k3 := hk9.cell (i := 3) rfl
      clear hk9 hst
      go_wp2
      rw [← hW9]
      (try simp only [Exit.inBlock, Exit.then])
      refine bodyPost_ret (v := .tuple #[.agg #[.string ⟨#[]⟩, .string ⟨#[]⟩, .int .i64 0, .slice none 0 0], .int .i64 0, .int .i64 10]) ?_ rfl ⟨⟨#[]⟩, ⟨#[]⟩, 0, none, 0, 0, 0, 10, rfl, fun _ => rfl, HBF.out.drew⟩
      rw [results_cellR3 rfl]
      go_simp
theorem readByEvW (ao : Option Addr) (len cap : Nat) (bs : List Int) (w : World) (h : Held w ao len cap bs) : Calls Try.prog 64 #[.slice ao len cap, .func (.func 34) #[] #[]] w (WkEv w bs) := by
  refine (readByEv ao len cap bs w h).mono ?_
  rintro e w' ⟨⟨⟨oo, ss, dp, ct, ep, sk, qy, cl⟩, a, c⟩, n, E, rfl, _, _, _, hor, hb⟩
  refine ⟨oo, ss, a, dp.length, c, ct, ep, sk, qy, cl, n, E, rfl, fun hp => ?_, hb⟩
  rcases hor with ⟨_, _, h1⟩ | ⟨h1, _⟩
  · rw [hp] at h1; cases h1
  · exact h1

set_option maxRecDepth 1000000 in
set_option maxHeartbeats 8000000 in
theorem boundEvS (ao : Option Addr) (len cap : Nat) (bs : List Int) (w : World) (h : Held w ao len cap bs) (hl : len ≤ 65536) : Calls Try.prog 33 #[.slice ao len cap, .func (.func 34) #[] #[]] w (WkEv w bs) := by
  obtain ⟨W, hW⟩ : ∃ W, W = w.alloc (.cells #[.int .i64 0, .int .i64 0, .slice none 0 0, .string ⟨#[]⟩, .int .i64 0, .string ⟨#[]⟩, .int .i64 0, .bool false] 36) := ⟨_, rfl⟩
  have hb : Below w.heap.size w W := by rw [hW]; exact (Below.refl _ _).alloc (Nat.le_refl _) _
  obtain ⟨rs, hrs⟩ : ∃ q, q = w.heap.size := ⟨_, rfl⟩
  have HKR : Hid (Blk W rs 36 [.int .i64 0, .int .i64 0, .slice none 0 0, .string ⟨#[]⟩, .int .i64 0, .string ⟨#[]⟩, .int .i64 0, .bool false]) := by rw [hrs, hW]; exact Blk.new w _ _
  have HR := hid (readByEvW ao len cap bs W (h.below hb (Nat.le_refl _)))
  have HW := hid hW
  have HRS := hid hrs
  have HB := hid hb
  have hl' : ¬ ((65536 : Int) < (len : Int)) := by omega
  clear hl
  clear h hW hrs hb
  go_enter Try.func33, Try.ntmps33
  go_wp2_with fail
  rw [← HW.out]
  refine HR.out.mono ?_
  rintro e w1 ⟨oo, ss, a, XN, c, ct, ep, sk, qy, cl, n, E, rfl, hno, hb1⟩
  rw [← HRS.out]
  have hkr1 := HKR.out.below hb1 HKR.out.lt
  have r0 := hkr1.cell (i := 0) rfl
  have f0 := hkr1.frozen 0
  have r1 := hkr1.cell (i := 1) rfl
  have f1 := hkr1.frozen 1
  have r2 := hkr1.cell (i := 2) rfl
  have f2 := hkr1.frozen 2
  have r3 := hkr1.cell (i := 3) rfl
  have f3 := hkr1.frozen 3
  have r4 := hkr1.cell (i := 4) rfl
  have f4 := hkr1.frozen 4
  have r5 := hkr1.cell (i := 5) rfl
  have f5 := hkr1.frozen 5
  have r6 := hkr1.cell (i := 6) rfl
  have f6 := hkr1.frozen 6
  have r7 := hkr1.cell (i := 7) rfl
  have f7 := hkr1.frozen 7
  obtain ⟨W9, hW9⟩ : ∃ V, V = ((((((((w1.setCell ⟨rs, 0, none⟩ (.int .i64 oo)).setCell ⟨rs, 1, none⟩ (.int .i64 ss)).setCell ⟨rs, 2, none⟩ (.slice a XN c)).setCell ⟨rs, 3, none⟩ (.string ct)).setCell ⟨rs, 4, none⟩ (.int .i64 ep)).setCell ⟨rs, 5, none⟩ (.string sk)).setCell ⟨rs, 6, none⟩ (.int .i64 qy)).setCell ⟨rs, 7, none⟩ (.bool cl)) := ⟨_, rfl⟩
  have hk9 : Blk W9 rs 36 [.int .i64 oo, .int .i64 ss, .slice a XN c, .string ct, .int .i64 ep, .string sk, .int .i64 qy, .bool cl] := by rw [hW9]; exact ((((((((hkr1.set 0 _).set 1 _).set 2 _).set 3 _).set 4 _).set 5 _).set 6 _).set 7 _)
  have hst : Turns (fun i => i = rs) w1 W9 := by rw [hW9]; exact (((((((((Turns.refl (fun i => i = rs) w1).setCell (p := ⟨rs, 0, none⟩) (.inl rfl) _).setCell (p := ⟨rs, 1, none⟩) (.inl rfl) _).setCell (p := ⟨rs, 2, none⟩) (.inl rfl) _).setCell (p := ⟨rs, 3, none⟩) (.inl rfl) _).setCell (p := ⟨rs, 4, none⟩) (.inl rfl) _).setCell (p := ⟨rs, 5, none⟩) (.inl rfl) _).setCell (p := ⟨rs, 6, none⟩) (.inl rfl) _).setCell (p := ⟨rs, 7, none⟩) (.inl rfl) _)
  have HBF : Hid (Below w.heap.size w W9) := (HB.out.trans (hb1.mono HB.out.size)).trans (hst.below (fun i hh => by rw [hh, HRS.out]; exact Nat.le_refl _) (HB.out.trans (hb1.mono HB.out.size)).size)
  have HNO := hid hno
  have k0 := hk9.cell (i := 0) rfl
  have k1 := hk9.cell (i := 1) rfl
  have k2 := hk9.cell (i := 2) rfl
  have k3 := hk9.cell (i := 3) rfl
  have k4 := hk9.cell (i := 4) rfl
  have k5 := hk9.cell (i := 5) rfl
  have k6 := hk9.cell (i := 6) rfl
  have k7 := hk9.cell (i := 7) rfl
  clear hk9 hst hkr1 hno hb1 HR
  go_wp2
  rw [← hW9]
  clear hW9 r0 f0 r1 f1 r2 f2 r3 f3 r4 f4 r5 f5 r6 f6 r7 f7
  (try simp only [Exit.inBlock, Exit.then])
  refine bodyPost_ret (v := .tuple #[.agg #[.int .i64 oo, .int .i64 ss, .slice a XN c, .string ct, .int .i64 ep, .string sk, .int .i64 qy, .bool cl], .int .i64 (n : Int), .int .i64 E]) ?_ rfl ⟨oo, ss, a, XN, c, ct, ep, sk, qy, cl, n, E, rfl, HNO.out, HBF.out⟩
  rw [results_cellR3 rfl]
  go_simp

set_option maxRecDepth 1000000 in
set_option maxHeartbeats 8000000 in
theorem boundEvB (ao : Option Addr) (len cap : Nat) (bs : List Int) (w : World) (hl : 65536 < len) : Calls Try.prog 33 #[.slice ao len cap, .func (.func 34) #[] #[]] w (WkEv w bs) := by
  have hl' : (65536 : Int) < (len : Int) := by omega
  clear hl
  go_enter Try.func33, Try.ntmps33
  go_wp2
  refine bodyPost_ret (v := .tuple #[.agg #[.int .i64 0, .int .i64 0, .slice none 0 0, .string ⟨#[]⟩, .int .i64 0, .string ⟨#[]⟩, .int .i64 0, .bool false], .int .i64 0, .int .i64 10]) ?_ rfl ⟨0, 0, none, 0, 0, ⟨#[]⟩, 0, ⟨#[]⟩, 0, false, 0, 10, rfl, fun _ => rfl, ((Below.refl _ _).alloc (Nat.le_refl _) _).alloc (by simp) _⟩
  rw [results_cellR3 rfl]
  go_simp
theorem boundEvW (ao : Option Addr) (len cap : Nat) (bs : List Int) (w : World) (h : Held w ao len cap bs) : Calls Try.prog 33 #[.slice ao len cap, .func (.func 34) #[] #[]] w (WkEv w bs) := by
  by_cases hl : len ≤ 65536
  · exact boundEvS ao len cap bs w h hl
  · exact boundEvB ao len cap bs w (by omega)
set_option maxRecDepth 1000000 in
set_option maxHeartbeats 8000000 in
theorem readEvW (ao : Option Addr) (len cap : Nat) (bs : List Int) (w : World) (h : Held w ao len cap bs) : Calls Try.prog 12 #[.slice ao len cap] w (WkEv w bs) := by
  obtain ⟨W, hW⟩ : ∃ W, W = w.alloc (.cells #[.int .i64 0, .int .i64 0, .slice none 0 0, .string ⟨#[]⟩, .int .i64 0, .string ⟨#[]⟩, .int .i64 0, .bool false] 36) := ⟨_, rfl⟩
  have hb : Below w.heap.size w W := by rw [hW]; exact (Below.refl _ _).alloc (Nat.le_refl _) _
  obtain ⟨rs, hrs⟩ : ∃ q, q = w.heap.size := ⟨_, rfl⟩
  have HKR : Hid (Blk W rs 36 [.int .i64 0, .int .i64 0, .slice none 0 0, .string ⟨#[]⟩, .int .i64 0, .string ⟨#[]⟩, .int .i64 0, .bool false]) := by rw [hrs, hW]; exact Blk.new w _ _
  have HR := hid (boundEvW ao len cap bs W (h.below hb (Nat.le_refl _)))
  have HW := hid hW
  have HRS := hid hrs
  have HB := hid hb
  clear h hW hrs hb
  go_enter Try.func12, Try.ntmps12
  go_wp2_with fail
  rw [← HW.out]
  refine HR.out.mono ?_
  rintro e w1 ⟨oo, ss, a, XN, c, ct, ep, sk, qy, cl, n, E, rfl, hno, hb1⟩
  rw [← HRS.out]
  have hkr1 := HKR.out.below hb1 HKR.out.lt
  have r0 := hkr1.cell (i := 0) rfl
  have f0 := hkr1.frozen 0
  have r1 := hkr1.cell (i := 1) rfl
  have f1 := hkr1.frozen 1
  have r2 := hkr1.cell (i := 2) rfl
  have f2 := hkr1.frozen 2
  have r3 := hkr1.cell (i := 3) rfl
  have f3 := hkr1.frozen 3
  have r4 := hkr1.cell (i := 4) rfl
  have f4 := hkr1.frozen 4
  have r5 := hkr1.cell (i := 5) rfl
  have f5 := hkr1.frozen 5
  have r6 := hkr1.cell (i := 6) rfl
  have f6 := hkr1.frozen 6
  have r7 := hkr1.cell (i := 7) rfl
  have f7 := hkr1.frozen 7
  obtain ⟨W9, hW9⟩ : ∃ V, V = ((((((((w1.setCell ⟨rs, 0, none⟩ (.int .i64 oo)).setCell ⟨rs, 1, none⟩ (.int .i64 ss)).setCell ⟨rs, 2, none⟩ (.slice a XN c)).setCell ⟨rs, 3, none⟩ (.string ct)).setCell ⟨rs, 4, none⟩ (.int .i64 ep)).setCell ⟨rs, 5, none⟩ (.string sk)).setCell ⟨rs, 6, none⟩ (.int .i64 qy)).setCell ⟨rs, 7, none⟩ (.bool cl)) := ⟨_, rfl⟩
  have hk9 : Blk W9 rs 36 [.int .i64 oo, .int .i64 ss, .slice a XN c, .string ct, .int .i64 ep, .string sk, .int .i64 qy, .bool cl] := by rw [hW9]; exact ((((((((hkr1.set 0 _).set 1 _).set 2 _).set 3 _).set 4 _).set 5 _).set 6 _).set 7 _)
  have hst : Turns (fun i => i = rs) w1 W9 := by rw [hW9]; exact (((((((((Turns.refl (fun i => i = rs) w1).setCell (p := ⟨rs, 0, none⟩) (.inl rfl) _).setCell (p := ⟨rs, 1, none⟩) (.inl rfl) _).setCell (p := ⟨rs, 2, none⟩) (.inl rfl) _).setCell (p := ⟨rs, 3, none⟩) (.inl rfl) _).setCell (p := ⟨rs, 4, none⟩) (.inl rfl) _).setCell (p := ⟨rs, 5, none⟩) (.inl rfl) _).setCell (p := ⟨rs, 6, none⟩) (.inl rfl) _).setCell (p := ⟨rs, 7, none⟩) (.inl rfl) _)
  have HBF : Hid (Below w.heap.size w W9) := (HB.out.trans (hb1.mono HB.out.size)).trans (hst.below (fun i hh => by rw [hh, HRS.out]; exact Nat.le_refl _) (HB.out.trans (hb1.mono HB.out.size)).size)
  have HNO := hid hno
  have k0 := hk9.cell (i := 0) rfl
  have k1 := hk9.cell (i := 1) rfl
  have k2 := hk9.cell (i := 2) rfl
  have k3 := hk9.cell (i := 3) rfl
  have k4 := hk9.cell (i := 4) rfl
  have k5 := hk9.cell (i := 5) rfl
  have k6 := hk9.cell (i := 6) rfl
  have k7 := hk9.cell (i := 7) rfl
  clear hk9 hst hkr1 hno hb1 HR
  go_wp2
  rw [← hW9]
  clear hW9 r0 f0 r1 f1 r2 f2 r3 f3 r4 f4 r5 f5 r6 f6 r7 f7
  (try simp only [Exit.inBlock, Exit.then])
  refine bodyPost_ret (v := .tuple #[.agg #[.int .i64 oo, .int .i64 ss, .slice a XN c, .string ct, .int .i64 ep, .string sk, .int .i64 qy, .bool cl], .int .i64 (n : Int), .int .i64 E]) ?_ rfl ⟨oo, ss, a, XN, c, ct, ep, sk, qy, cl, n, E, rfl, HNO.out, HBF.out⟩
  rw [results_cellR3 rfl]
  go_simp

set_option maxRecDepth 1000000 in
set_option maxHeartbeats 8000000 in
theorem boundSlS (ao : Option Addr) (len cap : Nat) (bs : List Int) (w : World) (h : Held w ao len cap bs) (hl : len ≤ 65536) : Calls Try.prog 35 #[.slice ao len cap, .func (.func 36) #[] #[]] w (WkSl w bs) := by
  obtain ⟨W, hW⟩ : ∃ W, W = w.alloc (.cells #[.string ⟨#[]⟩, .string ⟨#[]⟩, .int .i64 0, .slice none 0 0] 26) := ⟨_, rfl⟩
  have hb : Below w.heap.size w W := by rw [hW]; exact (Below.refl _ _).alloc (Nat.le_refl _) _
  obtain ⟨rs, hrs⟩ : ∃ q, q = w.heap.size := ⟨_, rfl⟩
  have HKR : Hid (Blk W rs 26 [.string ⟨#[]⟩, .string ⟨#[]⟩, .int .i64 0, .slice none 0 0]) := by rw [hrs, hW]; exact Blk.new w _ _
  have HR := hid (readBySl ao len cap bs W (h.below hb (Nat.le_refl _)))
  have HW := hid hW
  have HRS := hid hrs
  have HB := hid hb
  have hl' : ¬ ((65536 : Int) < (len : Int)) := by omega
  clear hl
  clear h hW hrs hb
  go_enter Try.func35, Try.ntmps35
  go_wp2_with fail
  rw [← HW.out]
  refine HR.out.mono ?_
  rintro e w1 ⟨tk, ct, ep, a, XN, c, n, E, rfl, hno, hb1⟩
  rw [← HRS.out]
  have hkr1 := HKR.out.below hb1 HKR.out.lt
  have r0 := hkr1.cell (i := 0) rfl
  have f0 := hkr1.frozen 0
  have r1 := hkr1.cell (i := 1) rfl
  have f1 := hkr1.frozen 1
  have r2 := hkr1.cell (i := 2) rfl
  have f2 := hkr1.frozen 2
  have r3 := hkr1.cell (i := 3) rfl
  have f3 := hkr1.frozen 3
  obtain ⟨W9, hW9⟩ : ∃ V, V = ((((w1.setCell ⟨rs, 0, none⟩ (.string tk)).setCell ⟨rs, 1, none⟩ (.string ct)).setCell ⟨rs, 2, none⟩ (.int .i64 ep)).setCell ⟨rs, 3, none⟩ (.slice a XN c)) := ⟨_, rfl⟩
  have hk9 : Blk W9 rs 26 [.string tk, .string ct, .int .i64 ep, .slice a XN c] := by rw [hW9]; exact ((((hkr1.set 0 _).set 1 _).set 2 _).set 3 _)
  have hst : Turns (fun i => i = rs) w1 W9 := by rw [hW9]; exact (((((Turns.refl (fun i => i = rs) w1).setCell (p := ⟨rs, 0, none⟩) (.inl rfl) _).setCell (p := ⟨rs, 1, none⟩) (.inl rfl) _).setCell (p := ⟨rs, 2, none⟩) (.inl rfl) _).setCell (p := ⟨rs, 3, none⟩) (.inl rfl) _)
  have HBF : Hid (Below w.heap.size w W9) := (HB.out.trans (hb1.mono HB.out.size)).trans (hst.below (fun i hh => by rw [hh, HRS.out]; exact Nat.le_refl _) (HB.out.trans (hb1.mono HB.out.size)).size)
  have HNO := hid hno
  have k0 := hk9.cell (i := 0) rfl
  have k1 := hk9.cell (i := 1) rfl
  have k2 := hk9.cell (i := 2) rfl
  have k3 := hk9.cell (i := 3) rfl
  clear hk9 hst hkr1 hno hb1 HR
  go_wp2
  rw [← hW9]
  clear hW9 r0 f0 r1 f1 r2 f2 r3 f3
  (try simp only [Exit.inBlock, Exit.then])
  refine bodyPost_ret (v := .tuple #[.agg #[.string tk, .string ct, .int .i64 ep, .slice a XN c], .int .i64 (n : Int), .int .i64 E]) ?_ rfl ⟨tk, ct, ep, a, XN, c, n, E, rfl, HNO.out, HBF.out⟩
  rw [results_cellR3 rfl]
  go_simp

set_option maxRecDepth 1000000 in
set_option maxHeartbeats 8000000 in
theorem boundSlB (ao : Option Addr) (len cap : Nat) (bs : List Int) (w : World) (hl : 65536 < len) : Calls Try.prog 35 #[.slice ao len cap, .func (.func 36) #[] #[]] w (WkSl w bs) := by
  have hl' : (65536 : Int) < (len : Int) := by omega
  clear hl
  go_enter Try.func35, Try.ntmps35
  go_wp2
  refine bodyPost_ret (v := .tuple #[.agg #[.string ⟨#[]⟩, .string ⟨#[]⟩, .int .i64 0, .slice none 0 0], .int .i64 0, .int .i64 10]) ?_ rfl ⟨⟨#[]⟩, ⟨#[]⟩, 0, none, 0, 0, 0, 10, rfl, fun _ => rfl, ((Below.refl _ _).alloc (Nat.le_refl _) _).alloc (by simp) _⟩
  rw [results_cellR3 rfl]
  go_simp
theorem boundSlW (ao : Option Addr) (len cap : Nat) (bs : List Int) (w : World) (h : Held w ao len cap bs) : Calls Try.prog 35 #[.slice ao len cap, .func (.func 36) #[] #[]] w (WkSl w bs) := by
  by_cases hl : len ≤ 65536
  · exact boundSlS ao len cap bs w h hl
  · exact boundSlB ao len cap bs w (by omega)
set_option maxRecDepth 1000000 in
set_option maxHeartbeats 8000000 in
theorem readSlW (ao : Option Addr) (len cap : Nat) (bs : List Int) (w : World) (h : Held w ao len cap bs) : Calls Try.prog 13 #[.slice ao len cap] w (WkSl w bs) := by
  obtain ⟨W, hW⟩ : ∃ W, W = w.alloc (.cells #[.string ⟨#[]⟩, .string ⟨#[]⟩, .int .i64 0, .slice none 0 0] 26) := ⟨_, rfl⟩
  have hb : Below w.heap.size w W := by rw [hW]; exact (Below.refl _ _).alloc (Nat.le_refl _) _
  obtain ⟨rs, hrs⟩ : ∃ q, q = w.heap.size := ⟨_, rfl⟩
  have HKR : Hid (Blk W rs 26 [.string ⟨#[]⟩, .string ⟨#[]⟩, .int .i64 0, .slice none 0 0]) := by rw [hrs, hW]; exact Blk.new w _ _
  have HR := hid (boundSlW ao len cap bs W (h.below hb (Nat.le_refl _)))
  have HW := hid hW
  have HRS := hid hrs
  have HB := hid hb
  clear h hW hrs hb
  go_enter Try.func13, Try.ntmps13
  go_wp2_with fail
  rw [← HW.out]
  refine HR.out.mono ?_
  rintro e w1 ⟨tk, ct, ep, a, XN, c, n, E, rfl, hno, hb1⟩
  rw [← HRS.out]
  have hkr1 := HKR.out.below hb1 HKR.out.lt
  have r0 := hkr1.cell (i := 0) rfl
  have f0 := hkr1.frozen 0
  have r1 := hkr1.cell (i := 1) rfl
  have f1 := hkr1.frozen 1
  have r2 := hkr1.cell (i := 2) rfl
  have f2 := hkr1.frozen 2
  have r3 := hkr1.cell (i := 3) rfl
  have f3 := hkr1.frozen 3
  obtain ⟨W9, hW9⟩ : ∃ V, V = ((((w1.setCell ⟨rs, 0, none⟩ (.string tk)).setCell ⟨rs, 1, none⟩ (.string ct)).setCell ⟨rs, 2, none⟩ (.int .i64 ep)).setCell ⟨rs, 3, none⟩ (.slice a XN c)) := ⟨_, rfl⟩
  have hk9 : Blk W9 rs 26 [.string tk, .string ct, .int .i64 ep, .slice a XN c] := by rw [hW9]; exact ((((hkr1.set 0 _).set 1 _).set 2 _).set 3 _)
  have hst : Turns (fun i => i = rs) w1 W9 := by rw [hW9]; exact (((((Turns.refl (fun i => i = rs) w1).setCell (p := ⟨rs, 0, none⟩) (.inl rfl) _).setCell (p := ⟨rs, 1, none⟩) (.inl rfl) _).setCell (p := ⟨rs, 2, none⟩) (.inl rfl) _).setCell (p := ⟨rs, 3, none⟩) (.inl rfl) _)
  have HBF : Hid (Below w.heap.size w W9) := (HB.out.trans (hb1.mono HB.out.size)).trans (hst.below (fun i hh => by rw [hh, HRS.out]; exact Nat.le_refl _) (HB.out.trans (hb1.mono HB.out.size)).size)
  have HNO := hid hno
  have k0 := hk9.cell (i := 0) rfl
  have k1 := hk9.cell (i := 1) rfl
  have k2 := hk9.cell (i := 2) rfl
  have k3 := hk9.cell (i := 3) rfl
  clear hk9 hst hkr1 hno hb1 HR
  go_wp2
  rw [← hW9]
  clear hW9 r0 f0 r1 f1 r2 f2 r3 f3
  (try simp only [Exit.inBlock, Exit.then])
  refine bodyPost_ret (v := .tuple #[.agg #[.string tk, .string ct, .int .i64 ep, .slice a XN c], .int .i64 (n : Int), .int .i64 E]) ?_ rfl ⟨tk, ct, ep, a, XN, c, n, E, rfl, HNO.out, HBF.out⟩
  rw [results_cellR3 rfl]
  go_simp

end Go.Proofs.Ytmpkbdhihdboiaa
