/-
  Package codec: readBy of an event.
-/
import Derived.Test.YtmpkbdhihdboiaaGreatRdK
import Derived.Test.YtmpkbdhihdboiaaGreatRdH
namespace Go.Proofs.YtmpkbdhihdboiaaGreat
open Go.RowKit Go.Maps

/-- What a read of an event answers. -/
def ReadEv (w : World) (len : Nat) (bs : List Int) (e : Ending) (w' : World) : Prop := ∃ (x : EvM) (n : Nat) (E : Int), e = .returned (.tuple #[x.val, .int .i64 (n : Int), .int .i64 E]) ∧ EvOk w' x ∧ HN w' x.ao x.cap x.e.deps ∧ (∀ b off, x.ao = some ⟨b, off, none⟩ → x.e.deps ≠ [] → w.heap.size ≤ b) ∧ ((E = 0 ∧ n ≤ len ∧ pEvent bs = some (x.e, bs.drop n)) ∨ (E = 10 ∧ pEvent bs = none)) ∧ Below w.heap.size w w'
set_option maxRecDepth 1000000 in
set_option maxHeartbeats 8000000 in
theorem readByEv (ao : Option Addr) (len cap : Nat) (bs : List Int) (w : World) (h : Held w ao len cap bs) : Calls Tryz.prog 96 #[.slice ao len cap, .func (.func 62) #[] #[]] w (ReadEv w len bs) := by
  obtain ⟨W1, hW1⟩ : ∃ W, W = w.alloc (.cells #[.int .i64 0, .int .i64 0, .slice none 0 0, .string ⟨#[]⟩, .int .i64 0, .string ⟨#[]⟩, .int .i64 0, .bool false] 70) := ⟨_, rfl⟩
  obtain ⟨W, hW⟩ : ∃ W, W = W1.alloc (.cells #[.slice ao len cap, .int .i64 0, .int .i64 0] 111) := ⟨_, rfl⟩
  have hs1 : W1.heap.size = w.heap.size + 1 := by rw [hW1]; simp
  have hb1 : Below w.heap.size w W1 := by rw [hW1]; exact (Below.refl _ _).alloc (Nat.le_refl _) _
  have hb : Below w.heap.size w W := by rw [hW]; exact hb1.alloc hb1.size _
  obtain ⟨rs, hrs⟩ : ∃ q, q = w.heap.size := ⟨_, rfl⟩
  obtain ⟨rb, hrb⟩ : ∃ q, q = w.heap.size + 1 := ⟨_, rfl⟩
  have HKS : Hid (Blk W rs 70 [.int .i64 0, .int .i64 0, .slice none 0 0, .string ⟨#[]⟩, .int .i64 0, .string ⟨#[]⟩, .int .i64 0, .bool false]) := by rw [hrs, hW, hW1]; exact (Blk.new w _ _).alloc _
  have hk : Blk W rb 111 [.slice ao len cap, .int .i64 0, .int .i64 0] := by rw [hrb, hW, ← hs1]; exact Blk.new W1 _ _
  have HRD : Hid (RdAt W rb ao len cap bs (some bs)) := ⟨h.below hb (Nat.le_refl _), 0, 0, hk, Nat.zero_le _, .inl ⟨rfl, rfl⟩⟩
  have HPT := hid HRD.out.partEvent
  have HNE : Hid (rs ≠ rb ∧ w.heap.size ≤ rs ∧ w.heap.size ≤ rb ∧ rs < rb) := ⟨by omega, by omega, by omega, by omega⟩
  have HW : Hid (W = (w.alloc (.cells #[.int .i64 0, .int .i64 0, .slice none 0 0, .string ⟨#[]⟩, .int .i64 0, .string ⟨#[]⟩, .int .i64 0, .bool false] 70)).alloc (.cells #[.slice ao len cap, .int .i64 0, .int .i64 0] 111)) := by show _ = _; rw [hW, hW1]
  have HRS := hid hrs
  have HRB := hid hrb
  have HB := hid hb
  clear h hk hW hW1 hs1 hb1 hb hrs hrb
  go_enter Tryz.func96, Tryz.ntmps96
  go_wp2_with fail
  rw [← HW.out, ← HRB.out, ← HRS.out]
  refine HPT.out.mono ?_
  rintro e u ⟨⟨oo, ss, a, c, cut, ct, ep, sk, qy, cl, rfl, hg0, hi0, hg1, hi1, hg2, hv, hab, hg3, hi3, hg4, hi4, hg5, hi5, hg6, hi6, hg7⟩, hr, ht⟩
  obtain ⟨XN, HXN⟩ : ∃ m, Hid (cut.length = m) := ⟨_, hid rfl⟩
  rw [HXN.out]
  have HGV : Hid (Got (some bs) pEvent (⟨oo, ss, cut, ct, ep, sk, qy, cl⟩ : Ev)) := got_map (fun t : Int × Int × List Int × ByteArray × Int × ByteArray × Int × Bool => (⟨t.1, t.2.1, t.2.2.1, t.2.2.2.1, t.2.2.2.2.1, t.2.2.2.2.2.1, t.2.2.2.2.2.2.1, t.2.2.2.2.2.2.2⟩ : Ev)) (got_seq hg0 (got_seq hg1 (got_seq hg2 (got_seq hg3 (got_seq hg4 (got_seq hg5 (got_seq hg6 hg7)))))))
  have hrr : RdAt u rb ao len cap bs (nxt (some bs) pEvent) := by
    unfold pEvent
    rw [nxt_map, ← nxt_seq, ← nxt_seq, ← nxt_seq, ← nxt_seq, ← nxt_seq, ← nxt_seq, ← nxt_seq]
    exact hr
  have hku := ht.blk HKS.out HNE.out.1
  have HBU : Hid (Below w.heap.size w u) := HB.out.trans (ht.below (fun i hh => by rw [hh]; exact HNE.out.2.2.1) HB.out.size)
  obtain ⟨U, hU⟩ : ∃ V, V = u.alloc (.cells #[.int .i64 oo, .int .i64 ss, .slice a XN c, .string ct, .int .i64 ep, .string sk, .int .i64 qy, .bool cl] 70) := ⟨_, rfl⟩
  obtain ⟨xb, hxb⟩ : ∃ q, q = u.heap.size := ⟨_, rfl⟩
  have hbU : Below u.heap.size u U := by rw [hU]; exact (Below.refl _ _).alloc (Nat.le_refl _) _
  have HKX : Hid (Blk U xb 70 [.int .i64 oo, .int .i64 ss, .slice a XN c, .string ct, .int .i64 ep, .string sk, .int .i64 qy, .bool cl]) := by rw [hU, hxb]; exact Blk.new u _ _
  have HKS2 := hid (hku.below hbU hku.lt)
  have HRU := hid (hrr.below hbU)
  have HBX := hid (bt' HBU.out hbU)
  have HXS : Hid (rs < xb ∧ rb < xb) := by obtain ⟨_, _, hkk, _⟩ := hrr.blk; have h1 := hku.lt; have h2 := hkk.lt; exact ⟨by omega, by omega⟩
  have HHV := hid (hv.below hbU)
  have HAB : Hid (∀ b off, a = some ⟨b, off, none⟩ → cut ≠ [] → rb < b) := fun b off e hne => Nat.lt_of_lt_of_le (by obtain ⟨_, _, hkk, _⟩ := HRD.out.blk; exact hkk.lt) (hab b off e hne)
  have HSZ := hid (And.intro hi0 (And.intro hi1 (And.intro hi3 (And.intro hi4 (And.intro hi5 hi6)))))
  have HU := hid hU
  have HXB := hid hxb
  obtain ⟨at', er, hkk, hat, hst⟩ := HRU.out.blk
  have HAT := hid hat
  have HKB := hid hkk
  clear hg0 hi0 hg1 hi1 hg2 hg3 hi3 hg4 hi4 hg5 hi5 hg6 hi6 hg7 hv hab hr ht hrr hku hbU hU hxb hat hkk HPT
  rcases hst with ⟨h1, rfl⟩ | ⟨h1, rfl⟩
  · have HP : Hid (pEvent bs = some ((⟨oo, ss, cut, ct, ep, sk, qy, cl⟩ : Ev), bs.drop at')) := by
      unfold nxt at h1
      rw [Option.bind_some] at h1
      cases hp : pEvent bs with
      | none => rw [hp] at h1; cases h1
      | some t =>
        obtain ⟨x, r⟩ := t
        rw [hp] at h1
        cases h1
        rw [HGV.out x (bs.drop at') (by rw [Option.bind_some]; exact hp)]
        exact hid rfl
    clear h1
    have q0 := HKX.out.cell (i := 0) rfl
    have q1 := HKX.out.cell (i := 1) rfl
    have q2 := HKX.out.cell (i := 2) rfl
    have q3 := HKX.out.cell (i := 3) rfl
    have q4 := HKX.out.cell (i := 4) rfl
    have q5 := HKX.out.cell (i := 5) rfl
    have q6 := HKX.out.cell (i := 6) rfl
    have q7 := HKX.out.cell (i := 7) rfl
    have r0 := HKS2.out.cell (i := 0) rfl
    have f0 := HKS2.out.frozen 0
    have r1 := HKS2.out.cell (i := 1) rfl
    have f1 := HKS2.out.frozen 1
    have r2 := HKS2.out.cell (i := 2) rfl
    have f2 := HKS2.out.frozen 2
    have r3 := HKS2.out.cell (i := 3) rfl
    have f3 := HKS2.out.frozen 3
    have r4 := HKS2.out.cell (i := 4) rfl
    have f4 := HKS2.out.frozen 4
    have r5 := HKS2.out.cell (i := 5) rfl
    have f5 := HKS2.out.frozen 5
    have r6 := HKS2.out.cell (i := 6) rfl
    have f6 := HKS2.out.frozen 6
    have r7 := HKS2.out.cell (i := 7) rfl
    have f7 := HKS2.out.frozen 7
    have b1 := HKB.out.cell (i := 1) rfl
    have b2 := HKB.out.cell (i := 2) rfl
    have HSA : Hid (∀ V, Turns (fun i => i = rs) U V → (Turns (fun i => i = rs) U V ∧ V.cell? ⟨xb, 0, none⟩ = some (.int .i64 oo) ∧ V.cell? ⟨xb, 1, none⟩ = some (.int .i64 ss) ∧ V.cell? ⟨xb, 2, none⟩ = some (.slice a XN c) ∧ V.cell? ⟨xb, 3, none⟩ = some (.string ct) ∧ V.cell? ⟨xb, 4, none⟩ = some (.int .i64 ep) ∧ V.cell? ⟨xb, 5, none⟩ = some (.string sk) ∧ V.cell? ⟨xb, 6, none⟩ = some (.int .i64 qy) ∧ V.cell? ⟨xb, 7, none⟩ = some (.bool cl) ∧ V.cell? ⟨rb, 1, none⟩ = some (.int .i64 (at' : Int)))) := fun V hV => by
      have h1 := hV.blk HKX.out (by have := HXS.out.1; omega)
      have h2 := hV.blk HKB.out (fun e => HNE.out.1 e.symm)
      exact ⟨hV, h1.cell rfl, h1.cell rfl, h1.cell rfl, h1.cell rfl, h1.cell rfl, h1.cell rfl, h1.cell rfl, h1.cell rfl, h2.cell rfl⟩
    have HTU : Hid (Turns (fun i => i = rs) U U) := Turns.refl _ _
    rw [HU.out] at q0 q1 q2 q3 q4 q5 q6 q7 r0 r1 r2 r3 r4 r5 r6 r7 f0 f1 f2 f3 f4 f5 f6 f7 b1 b2
    go_wp2
    rw [← HU.out, ← HXB.out]
    clear q0 q1 q2 q3 q4 q5 q6 q7 r0 r1 r2 r3 r4 r5 r6 r7 f0 f1 f2 f3 f4 f5 f6 f7 b1 b2
    have q0 := HKX.out.cell (i := 0) rfl
    have q1 := HKX.out.cell (i := 1) rfl
    have q2 := HKX.out.cell (i := 2) rfl
    have q3 := HKX.out.cell (i := 3) rfl
    have q4 := HKX.out.cell (i := 4) rfl
    have q5 := HKX.out.cell (i := 5) rfl
    have q6 := HKX.out.cell (i := 6) rfl
    have q7 := HKX.out.cell (i := 7) rfl
    have r0 := HKS2.out.cell (i := 0) rfl
    have f0 := HKS2.out.frozen 0
    have r1 := HKS2.out.cell (i := 1) rfl
    have f1 := HKS2.out.frozen 1
    have r2 := HKS2.out.cell (i := 2) rfl
    have f2 := HKS2.out.frozen 2
    have r3 := HKS2.out.cell (i := 3) rfl
    have f3 := HKS2.out.frozen 3
    have r4 := HKS2.out.cell (i := 4) rfl
    have f4 := HKS2.out.frozen 4
    have r5 := HKS2.out.cell (i := 5) rfl
    have f5 := HKS2.out.frozen 5
    have r6 := HKS2.out.cell (i := 6) rfl
    have f6 := HKS2.out.frozen 6
    have r7 := HKS2.out.cell (i := 7) rfl
    have f7 := HKS2.out.frozen 7
    have b1 := HKB.out.cell (i := 1) rfl
    have b2 := HKB.out.cell (i := 2) rfl
    go_region_held3 (fun V => Turns (fun i => i = rs) U V ∧ V.cell? ⟨xb, 0, none⟩ = some (.int .i64 oo) ∧ V.cell? ⟨xb, 1, none⟩ = some (.int .i64 ss) ∧ V.cell? ⟨xb, 2, none⟩ = some (.slice a XN c) ∧ V.cell? ⟨xb, 3, none⟩ = some (.string ct) ∧ V.cell? ⟨xb, 4, none⟩ = some (.int .i64 ep) ∧ V.cell? ⟨xb, 5, none⟩ = some (.string sk) ∧ V.cell? ⟨xb, 6, none⟩ = some (.int .i64 qy) ∧ V.cell? ⟨xb, 7, none⟩ = some (.bool cl) ∧ V.cell? ⟨rb, 1, none⟩ = some (.int .i64 (at' : Int)))
      (first | (refine HSA.out _ ?_; (repeat (first | with_reducible assumption | with_reducible exact HTU.out | with_reducible apply Turns.drew | with_reducible apply turns_rs)); done))
      (fail)
    all_goals
      obtain ⟨W9, hW9⟩ : ∃ V, V = ((((((((U.setCell ⟨rs, 0, none⟩ (.int .i64 oo)).setCell ⟨rs, 1, none⟩ (.int .i64 ss)).setCell ⟨rs, 2, none⟩ (.slice a XN c)).setCell ⟨rs, 3, none⟩ (.string ct)).setCell ⟨rs, 4, none⟩ (.int .i64 ep)).setCell ⟨rs, 5, none⟩ (.string sk)).setCell ⟨rs, 6, none⟩ (.int .i64 qy)).setCell ⟨rs, 7, none⟩ (.bool cl)).drew := ⟨_, rfl⟩
      have hk9 : Blk W9 rs 70 [.int .i64 oo, .int .i64 ss, .slice a XN c, .string ct, .int .i64 ep, .string sk, .int .i64 qy, .bool cl] := by rw [hW9]; exact ((((((((HKS2.out.set 0 _).set 1 _).set 2 _).set 3 _).set 4 _).set 5 _).set 6 _).set 7 _).drew
      have hst : Turns (fun i => i = rs) U W9 := by rw [hW9]; exact (((((((((Turns.refl (fun i => i = rs) U).setCell (p := ⟨rs, 0, none⟩) (.inl rfl) _).setCell (p := ⟨rs, 1, none⟩) (.inl rfl) _).setCell (p := ⟨rs, 2, none⟩) (.inl rfl) _).setCell (p := ⟨rs, 3, none⟩) (.inl rfl) _).setCell (p := ⟨rs, 4, none⟩) (.inl rfl) _).setCell (p := ⟨rs, 5, none⟩) (.inl rfl) _).setCell (p := ⟨rs, 6, none⟩) (.inl rfl) _).setCell (p := ⟨rs, 7, none⟩) (.inl rfl) _).drew
      have HN9 : Hid (HN W9 a c cut) := hnK hst HHV.out (fun b off e hne hh => by have h1 := HAB.out b off e hne; have h2 := HNE.out.2.2.2; omega)
      have HVOK : Hid (EvOk W9 ⟨⟨oo, ss, cut, ct, ep, sk, qy, cl⟩, a, c⟩) := ⟨HN9.out.hv, HSZ.out.1, HSZ.out.2.1, HSZ.out.2.2.2.1, HSZ.out.2.2.2.2.2, Nat.le_trans HSZ.out.2.2.1 (by decide), Nat.le_trans HSZ.out.2.2.2.2.1 (by decide)⟩
      have HBF : Hid (Below w.heap.size w W9) := HBX.out.trans (hst.below (fun i hh => by rw [hh]; exact HNE.out.2.1) HBX.out.size)
      have k0 := hk9.cell (i := 0) rfl
      have k1 := hk9.cell (i := 1) rfl
      have k2 := hk9.cell (i := 2) rfl
      have k3 := hk9.cell (i := 3) rfl
      have k4 := hk9.cell (i := 4) rfl
      have k5 := hk9.cell (i := 5) rfl
      have k6 := hk9.cell (i := 6) rfl
      have k7 := hk9.cell (i := 7) rfl
      clear hk9 hst
      go_wp2
      rw [← hW9]
      (try simp only [Exit.inBlock, Exit.then])
      refine bodyPost_ret (v := .tuple #[.agg #[.int .i64 oo, .int .i64 ss, .slice a XN c, .string ct, .int .i64 ep, .string sk, .int .i64 qy, .bool cl], .int .i64 (at' : Int), .int .i64 0]) ?_ rfl ⟨⟨⟨oo, ss, cut, ct, ep, sk, qy, cl⟩, a, c⟩, at', 0, by simp only [EvM.val]; rw [HXN.out], HVOK.out, HN9.out, fun b off e hne => by have h1 := HAB.out b off e hne; have h2 := HNE.out.2.2.1; omega, .inl ⟨rfl, HAT.out, HP.out⟩, HBF.out⟩
      rw [results_cellR3 rfl]
      go_simp
  · have HP : Hid (pEvent bs = none) := by
      unfold nxt at h1
      rw [Option.bind_some] at h1
      cases hp : pEvent bs with
      | none => exact hid rfl
      | some t => rw [hp] at h1; cases h1
    clear h1
    obtain ⟨U2, hU2⟩ : ∃ V, V = U.alloc (.cells #[.int .i64 0, .int .i64 0, .slice none 0 0, .string ⟨#[]⟩, .int .i64 0, .string ⟨#[]⟩, .int .i64 0, .bool false] 70) := ⟨_, rfl⟩
    obtain ⟨zb, hzb⟩ : ∃ q, q = u.heap.size + 1 := ⟨_, rfl⟩
    have hUs : U.heap.size = u.heap.size + 1 := by rw [HU.out]; simp
    have hbz : Below U.heap.size U U2 := by rw [hU2]; exact (Below.refl _ _).alloc (Nat.le_refl _) _
    have HKZ : Hid (Blk U2 zb 70 [.int .i64 0, .int .i64 0, .slice none 0 0, .string ⟨#[]⟩, .int .i64 0, .string ⟨#[]⟩, .int .i64 0, .bool false]) := by rw [hU2, hzb, ← hUs]; exact Blk.new U _ _
    have HKS3 := hid (HKS2.out.below hbz HKS2.out.lt)
    have HKB3 := hid (HKB.out.below hbz HKB.out.lt)
    have HBZ := hid (bt' HBX.out hbz)
    have HZS : Hid (rs < zb) := by have h1 := HKS2.out.lt; exact hid (by omega)
    have HSA : Hid (∀ V, Turns (fun i => i = rs) U2 V → (Turns (fun i => i = rs) U2 V ∧ V.cell? ⟨zb, 0, none⟩ = some (.int .i64 0) ∧ V.cell? ⟨zb, 1, none⟩ = some (.int .i64 0) ∧ V.cell? ⟨zb, 2, none⟩ = some (.slice none 0 0) ∧ V.cell? ⟨zb, 3, none⟩ = some (.string ⟨#[]⟩) ∧ V.cell? ⟨zb, 4, none⟩ = some (.int .i64 0) ∧ V.cell? ⟨zb, 5, none⟩ = some (.string ⟨#[]⟩) ∧ V.cell? ⟨zb, 6, none⟩ = some (.int .i64 0) ∧ V.cell? ⟨zb, 7, none⟩ = some (.bool false) ∧ V.cell? ⟨rb, 2, none⟩ = some (.int .i64 10))) := fun V hV => by
      have h1 := hV.blk HKZ.out (by have := HZS.out; omega)
      have h2 := hV.blk HKB3.out (fun e => HNE.out.1 e.symm)
      exact ⟨hV, h1.cell rfl, h1.cell rfl, h1.cell rfl, h1.cell rfl, h1.cell rfl, h1.cell rfl, h1.cell rfl, h1.cell rfl, h2.cell rfl⟩
    have HTU : Hid (Turns (fun i => i = rs) U2 U2) := Turns.refl _ _
    have HU2 := hid hU2
    have HZB := hid hzb
    have b2 := HKB.out.cell (i := 2) rfl
    rw [HU.out] at b2
    clear hU2 hzb hbz hUs
    go_wp2
    rw [← HU.out, ← HU2.out, ← HZB.out]
    clear b2
    have r0 := HKS3.out.cell (i := 0) rfl
    have f0 := HKS3.out.frozen 0
    have r1 := HKS3.out.cell (i := 1) rfl
    have f1 := HKS3.out.frozen 1
    have r2 := HKS3.out.cell (i := 2) rfl
    have f2 := HKS3.out.frozen 2
    have r3 := HKS3.out.cell (i := 3) rfl
    have f3 := HKS3.out.frozen 3
    have r4 := HKS3.out.cell (i := 4) rfl
    have f4 := HKS3.out.frozen 4
    have r5 := HKS3.out.cell (i := 5) rfl
    have f5 := HKS3.out.frozen 5
    have r6 := HKS3.out.cell (i := 6) rfl
    have f6 := HKS3.out.frozen 6
    have r7 := HKS3.out.cell (i := 7) rfl
    have f7 := HKS3.out.frozen 7
    go_region_held3 (fun V => Turns (fun i => i = rs) U2 V ∧ V.cell? ⟨zb, 0, none⟩ = some (.int .i64 0) ∧ V.cell? ⟨zb, 1, none⟩ = some (.int .i64 0) ∧ V.cell? ⟨zb, 2, none⟩ = some (.slice none 0 0) ∧ V.cell? ⟨zb, 3, none⟩ = some (.string ⟨#[]⟩) ∧ V.cell? ⟨zb, 4, none⟩ = some (.int .i64 0) ∧ V.cell? ⟨zb, 5, none⟩ = some (.string ⟨#[]⟩) ∧ V.cell? ⟨zb, 6, none⟩ = some (.int .i64 0) ∧ V.cell? ⟨zb, 7, none⟩ = some (.bool false) ∧ V.cell? ⟨rb, 2, none⟩ = some (.int .i64 10))
      (first | (refine HSA.out _ ?_; (repeat (first | with_reducible assumption | with_reducible exact HTU.out | with_reducible apply Turns.drew | with_reducible apply turns_rs)); done))
      (fail)
    all_goals
      obtain ⟨W9, hW9⟩ : ∃ V, V = ((((((((U2.setCell ⟨rs, 0, none⟩ (.int .i64 0)).setCell ⟨rs, 1, none⟩ (.int .i64 0)).setCell ⟨rs, 2, none⟩ (.slice none 0 0)).setCell ⟨rs, 3, none⟩ (.string ⟨#[]⟩)).setCell ⟨rs, 4, none⟩ (.int .i64 0)).setCell ⟨rs, 5, none⟩ (.string ⟨#[]⟩)).setCell ⟨rs, 6, none⟩ (.int .i64 0)).setCell ⟨rs, 7, none⟩ (.bool false)).drew := ⟨_, rfl⟩
      have hk9 : Blk W9 rs 70 [.int .i64 0, .int .i64 0, .slice none 0 0, .string ⟨#[]⟩, .int .i64 0, .string ⟨#[]⟩, .int .i64 0, .bool false] := by rw [hW9]; exact ((((((((HKS3.out.set 0 _).set 1 _).set 2 _).set 3 _).set 4 _).set 5 _).set 6 _).set 7 _).drew
      have hst : Turns (fun i => i = rs) U2 W9 := by rw [hW9]; exact (((((((((Turns.refl (fun i => i = rs) U2).setCell (p := ⟨rs, 0, none⟩) (.inl rfl) _).setCell (p := ⟨rs, 1, none⟩) (.inl rfl) _).setCell (p := ⟨rs, 2, none⟩) (.inl rfl) _).setCell (p := ⟨rs, 3, none⟩) (.inl rfl) _).setCell (p := ⟨rs, 4, none⟩) (.inl rfl) _).setCell (p := ⟨rs, 5, none⟩) (.inl rfl) _).setCell (p := ⟨rs, 6, none⟩) (.inl rfl) _).setCell (p := ⟨rs, 7, none⟩) (.inl rfl) _).drew
      have HBF : Hid (Below w.heap.size w W9) := HBZ.out.trans (hst.below (fun i hh => by rw [hh]; exact HNE.out.2.1) HBZ.out.size)
      have k0 := hk9.cell (i := 0) rfl
      have k1 := hk9.cell (i := 1) rfl
      have k2 := hk9.cell (i := 2) rfl
      have k3 := hk9.cell (i := 3) rfl
      have k4 := hk9.cell (i := 4) rfl
      have k5 := hk9.cell (i := 5) rfl
      have k6 := hk9.cell (i := 6) rfl
      have k7 := hk9.cell (i := 7) rfl
      clear hk9 hst
      go_wp2
      rw [← hW9]
      (try simp only [Exit.inBlock, Exit.then])
      refine bodyPost_ret (v := .tuple #[.agg #[.int .i64 0, .int .i64 0, .slice none 0 0, .string ⟨#[]⟩, .int .i64 0, .string ⟨#[]⟩, .int .i64 0, .bool false], .int .i64 0, .int .i64 10]) ?_ rfl ⟨⟨⟨0, 0, [], ⟨#[]⟩, 0, ⟨#[]⟩, 0, false⟩, none, 0⟩, 0, 10, rfl, ⟨hv_nilE _, i64_0K, i64_0K, i64_0K, i64_0K, Nat.zero_le _, Nat.zero_le _⟩, hn_nilE _, fun b off e => (by cases e), .inr ⟨rfl, HP.out⟩, HBF.out⟩
      rw [results_cellR3 rfl]
      go_simp
end Go.Proofs.YtmpkbdhihdboiaaGreat
