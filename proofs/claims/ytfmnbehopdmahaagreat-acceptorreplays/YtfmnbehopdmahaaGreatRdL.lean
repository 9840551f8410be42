/-
  Package codec: readBy of a vote.
-/
import Derived.Test.YtfmnbehopdmahaaGreatRdJ
namespace Go.Proofs.YtfmnbehopdmahaaGreat
open Go.RowKit Go.Maps

theorem results_cellR3 {fn : Func} {p u v : Tmp} {ty : TypeId} (h : fn.results = #[.cell p ty, .tmp u, .tmp v]) (tmps : Array Value) (P : Program) (w : World) :
    (results fn tmps).run P w = ((asAddr (tmps.getD p undef)).run P w).andThen fun a w₁ => ((loadVar ty a).run P w₁).andThen fun x w₂ => .ok (.tuple #[x, tmps.getD u undef, tmps.getD v undef]) w₂ := by
  simp only [results, h]
  simp [Sem.run_bind, Result.andThen]
/-- What a read of a vote answers. -/
def ReadVo (w : World) (len : Nat) (bs : List Int) (e : Ending) (w' : World) : Prop := ∃ (x : VoM) (n : Nat) (E : Int), e = .returned (.tuple #[x.val, .int .i64 (n : Int), .int .i64 E]) ∧ VoOk w' x ∧ HN w' x.en.ao x.en.cap x.en.e.cut ∧ (∀ b off, x.en.ao = some ⟨b, off, none⟩ → x.en.e.cut ≠ [] → w.heap.size ≤ b) ∧ ((E = 0 ∧ n ≤ len ∧ pVoted bs = some (x.d, bs.drop n)) ∨ (E = 10 ∧ pVoted bs = none)) ∧ Below w.heap.size w w'
theorem i64_0K : I64 0 := by unfold I64; decide
theorem turns_rs {w V : World} {b i : Nat} {v : Value} (h : Turns (fun k => k = b) w V) : Turns (fun k => k = b) w (V.setCell ⟨b, i, none⟩ v) := h.setCell (p := ⟨b, i, none⟩) (.inl rfl) v
set_option maxRecDepth 1000000 in
set_option maxHeartbeats 8000000 in
theorem readByVo (ao : Option Addr) (len cap : Nat) (bs : List Int) (w : World) (h : Held w ao len cap bs) : Calls Tryz.prog 123 #[.slice ao len cap, .func (.func 77) #[] #[]] w (ReadVo w len bs) := by
  obtain ⟨W1, hW1⟩ : ∃ W, W = w.alloc (.cells #[.int .i64 0, .int .i64 0, .int .i64 0, .bool false, .string ⟨#[]⟩, .string ⟨#[]⟩, .int .i64 0, .slice none 0 0] 73) := ⟨_, rfl⟩
  obtain ⟨W, hW⟩ : ∃ W, W = W1.alloc (.cells #[.slice ao len cap, .int .i64 0, .int .i64 0] 158) := ⟨_, rfl⟩
  have hs1 : W1.heap.size = w.heap.size + 1 := by rw [hW1]; simp
  have hb1 : Below w.heap.size w W1 := by rw [hW1]; exact (Below.refl _ _).alloc (Nat.le_refl _) _
  have hb : Below w.heap.size w W := by rw [hW]; exact hb1.alloc hb1.size _
  obtain ⟨rs, hrs⟩ : ∃ q, q = w.heap.size := ⟨_, rfl⟩
  obtain ⟨rb, hrb⟩ : ∃ q, q = w.heap.size + 1 := ⟨_, rfl⟩
  have HKS : Hid (Blk W rs 73 [.int .i64 0, .int .i64 0, .int .i64 0, .bool false, .string ⟨#[]⟩, .string ⟨#[]⟩, .int .i64 0, .slice none 0 0]) := by rw [hrs, hW, hW1]; exact (Blk.new w _ _).alloc _
  have hk : Blk W rb 158 [.slice ao len cap, .int .i64 0, .int .i64 0] := by rw [hrb, hW, ← hs1]; exact Blk.new W1 _ _
  have HRD : Hid (RdAt W rb ao len cap bs (some bs)) := ⟨h.below hb (Nat.le_refl _), 0, 0, hk, Nat.zero_le _, .inl ⟨rfl, rfl⟩⟩
  have HPT := hid HRD.out.partVoted
  have HNE : Hid (rs ≠ rb ∧ w.heap.size ≤ rs ∧ w.heap.size ≤ rb ∧ rs < rb) := ⟨by omega, by omega, by omega, by omega⟩
  have HW : Hid (W = (w.alloc (.cells #[.int .i64 0, .int .i64 0, .int .i64 0, .bool false, .string ⟨#[]⟩, .string ⟨#[]⟩, .int .i64 0, .slice none 0 0] 73)).alloc (.cells #[.slice ao len cap, .int .i64 0, .int .i64 0] 158)) := by show _ = _; rw [hW, hW1]
  have HRS := hid hrs
  have HRB := hid hrb
  have HB := hid hb
  clear h hk hW hW1 hs1 hb1 hb hrs hrb
  go_enter Tryz.func123, Tryz.ntmps123
  go_wp2_with fail
  rw [← HW.out, ← HRB.out, ← HRS.out]
  refine HPT.out.mono ?_
  rintro e u ⟨⟨sl, br, bn, a, c, np, tk, ct, ep, cut, rfl, hg0, hi0, hg1, hi1, hg2, hi2, hv, hab⟩, hr, ht⟩
  obtain ⟨XN, HXN⟩ : ∃ m, Hid (cut.length = m) := ⟨_, hid rfl⟩
  rw [HXN.out]
  have HGV : Hid (Got (some bs) pVoted (sl, (br, bn), (⟨np, tk, ct, ep, cut⟩ : En))) := got_seq hg0 (got_seq hg1 hg2)
  have hrr : RdAt u rb ao len cap bs (nxt (some bs) pVoted) := by
    unfold pVoted
    rw [← nxt_seq, ← nxt_seq]
    exact hr
  have hku := ht.blk HKS.out HNE.out.1
  have HBU : Hid (Below w.heap.size w u) := HB.out.trans (ht.below (fun i hh => by rw [hh]; exact HNE.out.2.2.1) HB.out.size)
  obtain ⟨U, hU⟩ : ∃ V, V = u.alloc (.cells #[.int .i64 sl, .int .i64 br, .int .i64 bn, .bool np, .string tk, .string ct, .int .i64 ep, .slice a XN c] 73) := ⟨_, rfl⟩
  obtain ⟨xb, hxb⟩ : ∃ q, q = u.heap.size := ⟨_, rfl⟩
  have hbU : Below u.heap.size u U := by rw [hU]; exact (Below.refl _ _).alloc (Nat.le_refl _) _
  have HKX : Hid (Blk U xb 73 [.int .i64 sl, .int .i64 br, .int .i64 bn, .bool np, .string tk, .string ct, .int .i64 ep, .slice a XN c]) := by rw [hU, hxb]; exact Blk.new u _ _
  have HKS2 := hid (hku.below hbU hku.lt)
  have HRU := hid (hrr.below hbU)
  have HBX := hid (bt' HBU.out hbU)
  have HXS : Hid (rs < xb ∧ rb < xb) := by obtain ⟨_, _, hkk, _⟩ := hrr.blk; have h1 := hku.lt; have h2 := hkk.lt; exact ⟨by omega, by omega⟩
  have HHV := hid (hv.below hbU)
  have HAB : Hid (∀ b off, a = some ⟨b, off, none⟩ → cut ≠ [] → rb < b) := fun b off e hne => Nat.lt_of_lt_of_le (by obtain ⟨_, _, hkk, _⟩ := HRD.out.blk; exact hkk.lt) (hab b off e hne)
  have HSZ := hid (And.intro hi0 (And.intro hi1 hi2))
  have HU := hid hU
  have HXB := hid hxb
  obtain ⟨at', er, hkk, hat, hst⟩ := HRU.out.blk
  have HAT := hid hat
  have HKB := hid hkk
  clear hg0 hi0 hg1 hi1 hg2 hi2 hv hab hr ht hrr hku hbU hU hxb hat hkk HPT
  rcases hst with ⟨h1, rfl⟩ | ⟨h1, rfl⟩
  · have HP : Hid (pVoted bs = some ((sl, (br, bn), (⟨np, tk, ct, ep, cut⟩ : En)), bs.drop at')) := by
      unfold nxt at h1
      rw [Option.bind_some] at h1
      cases hp : pVoted bs with
      | none => rw [hp] at h1; cases h1
      | some t =>
        obtain ⟨x, r⟩ := t
        rw [hp] at h1
        cases h1
        rw [HGV.out x (bs.drop at') (by rw [Option.bind_some]; exact hp)]
        exact hid rfl
    clear h1
    have q0 := HKX.out.cell (i := 0) rfl
    have q1 := HKX.out.cell (i := 1) rfl
    have q2 := HKX.out.cell (i := 2) rfl
    have q3 := HKX.out.cell (i := 3) rfl
    have q4 := HKX.out.cell (i := 4) rfl
    have q5 := HKX.out.cell (i := 5) rfl
    have q6 := HKX.out.cell (i := 6) rfl
    have q7 := HKX.out.cell (i := 7) rfl
    have r0 := HKS2.out.cell (i := 0) rfl
    have f0 := HKS2.out.frozen 0
    have r1 := HKS2.out.cell (i := 1) rfl
    have f1 := HKS2.out.frozen 1
    have r2 := HKS2.out.cell (i := 2) rfl
    have f2 := HKS2.out.frozen 2
    have r3 := HKS2.out.cell (i := 3) rfl
    have f3 := HKS2.out.frozen 3
    have r4 := HKS2.out.cell (i := 4) rfl
    have f4 := HKS2.out.frozen 4
    have r5 := HKS2.out.cell (i := 5) rfl
    have f5 := HKS2.out.frozen 5
    have r6 := HKS2.out.cell (i := 6) rfl
    have f6 := HKS2.out.frozen 6
    have r7 := HKS2.out.cell (i := 7) rfl
    have f7 := HKS2.out.frozen 7
    have b1 := HKB.out.cell (i := 1) rfl
    have b2 := HKB.out.cell (i := 2) rfl
    have HSA : Hid (∀ V, Turns (fun i => i = rs) U V → (Turns (fun i => i = rs) U V ∧ V.cell? ⟨xb, 0, none⟩ = some (.int .i64 sl) ∧ V.cell? ⟨xb, 1, none⟩ = some (.int .i64 br) ∧ V.cell? ⟨xb, 2, none⟩ = some (.int .i64 bn) ∧ V.cell? ⟨xb, 3, none⟩ = some (.bool np) ∧ V.cell? ⟨xb, 4, none⟩ = some (.string tk) ∧ V.cell? ⟨xb, 5, none⟩ = some (.string ct) ∧ V.cell? ⟨xb, 6, none⟩ = some (.int .i64 ep) ∧ V.cell? ⟨xb, 7, none⟩ = some (.slice a XN c) ∧ V.cell? ⟨rb, 1, none⟩ = some (.int .i64 (at' : Int)))) := fun V hV => by
      have h1 := hV.blk HKX.out (by have := HXS.out.1; omega)
      have h2 := hV.blk HKB.out (fun e => HNE.out.1 e.symm)
      exact ⟨hV, h1.cell rfl, h1.cell rfl, h1.cell rfl, h1.cell rfl, h1.cell rfl, h1.cell rfl, h1.cell rfl, h1.cell rfl, h2.cell rfl⟩
    have HTU : Hid (Turns (fun i => i = rs) U U) := Turns.refl _ _
    rw [HU.out] at q0 q1 q2 q3 q4 q5 q6 q7 r0 r1 r2 r3 r4 r5 r6 r7 f0 f1 f2 f3 f4 f5 f6 f7 b1 b2
    go_wp2
    rw [← HU.out, ← HXB.out]
    clear q0 q1 q2 q3 q4 q5 q6 q7 r0 r1 r2 r3 r4 r5 r6 r7 f0 f1 f2 f3 f4 f5 f6 f7 b1 b2
    have q0 := HKX.out.cell (i := 0) rfl
    have q1 := HKX.out.cell (i := 1) rfl
    have q2 := HKX.out.cell (i := 2) rfl
    have q3 := HKX.out.cell (i := 3) rfl
    have q4 := HKX.out.cell (i := 4) rfl
    have q5 := HKX.out.cell (i := 5) rfl
    have q6 := HKX.out.cell (i := 6) rfl
    have q7 := HKX.out.cell (i := 7) rfl
    have r0 := HKS2.out.cell (i := 0) rfl
    have f0 := HKS2.out.frozen 0
    have r1 := HKS2.out.cell (i := 1) rfl
    have f1 := HKS2.out.frozen 1
    have r2 := HKS2.out.cell (i := 2) rfl
    have f2 := HKS2.out.frozen 2
    have r3 := HKS2.out.cell (i := 3) rfl
    have f3 := HKS2.out.frozen 3
    have r4 := HKS2.out.cell (i := 4) rfl
    have f4 := HKS2.out.frozen 4
    have r5 := HKS2.out.cell (i := 5) rfl
    have f5 := HKS2.out.frozen 5
    have r6 := HKS2.out.cell (i := 6) rfl
    have f6 := HKS2.out.frozen 6
    have r7 := HKS2.out.cell (i := 7) rfl
    have f7 := HKS2.out.frozen 7
    have b1 := HKB.out.cell (i := 1) rfl
    have b2 := HKB.out.cell (i := 2) rfl
    go_region_held3 (fun V => Turns (fun i => i = rs) U V ∧ V.cell? ⟨xb, 0, none⟩ = some (.int .i64 sl) ∧ V.cell? ⟨xb, 1, none⟩ = some (.int .i64 br) ∧ V.cell? ⟨xb, 2, none⟩ = some (.int .i64 bn) ∧ V.cell? ⟨xb, 3, none⟩ = some (.bool np) ∧ V.cell? ⟨xb, 4, none⟩ = some (.string tk) ∧ V.cell? ⟨xb, 5, none⟩ = some (.string ct) ∧ V.cell? ⟨xb, 6, none⟩ = some (.int .i64 ep) ∧ V.cell? ⟨xb, 7, none⟩ = some (.slice a XN c) ∧ V.cell? ⟨rb, 1, none⟩ = some (.int .i64 (at' : Int)))
      (first | (refine HSA.out _ ?_; (repeat (first | with_reducible assumption | with_reducible exact HTU.out | with_reducible apply Turns.drew | with_reducible apply turns_rs)); done))
      (fail)
    all_goals
      obtain ⟨W9, hW9⟩ : ∃ V, V = ((((((((U.setCell ⟨rs, 0, none⟩ (.int .i64 sl)).setCell ⟨rs, 1, none⟩ (.int .i64 br)).setCell ⟨rs, 2, none⟩ (.int .i64 bn)).setCell ⟨rs, 3, none⟩ (.bool np)).setCell ⟨rs, 4, none⟩ (.string tk)).setCell ⟨rs, 5, none⟩ (.string ct)).setCell ⟨rs, 6, none⟩ (.int .i64 ep)).setCell ⟨rs, 7, none⟩ (.slice a XN c)).drew := ⟨_, rfl⟩
      have hk9 : Blk W9 rs 73 [.int .i64 sl, .int .i64 br, .int .i64 bn, .bool np, .string tk, .string ct, .int .i64 ep, .slice a XN c] := by rw [hW9]; exact ((((((((HKS2.out.set 0 _).set 1 _).set 2 _).set 3 _).set 4 _).set 5 _).set 6 _).set 7 _).drew
      have hst : Turns (fun i => i = rs) U W9 := by rw [hW9]; exact (((((((((Turns.refl (fun i => i = rs) U).setCell (p := ⟨rs, 0, none⟩) (.inl rfl) _).setCell (p := ⟨rs, 1, none⟩) (.inl rfl) _).setCell (p := ⟨rs, 2, none⟩) (.inl rfl) _).setCell (p := ⟨rs, 3, none⟩) (.inl rfl) _).setCell (p := ⟨rs, 4, none⟩) (.inl rfl) _).setCell (p := ⟨rs, 5, none⟩) (.inl rfl) _).setCell (p := ⟨rs, 6, none⟩) (.inl rfl) _).setCell (p := ⟨rs, 7, none⟩) (.inl rfl) _).drew
      have HN9 : Hid (HN W9 a c cut) := hnK hst HHV.out (fun b off e hne hh => by have h1 := HAB.out b off e hne; have h2 := HNE.out.2.2.2; omega)
      have HVOK : Hid (VoOk W9 ⟨sl, (br, bn), ⟨⟨np, tk, ct, ep, cut⟩, a, c⟩⟩) := ⟨⟨HN9.out.hv, HSZ.out.2.2.1, Nat.le_trans HSZ.out.2.2.2.1 (by decide), Nat.le_trans HSZ.out.2.2.2.2 (by decide)⟩, HSZ.out.1, HSZ.out.2.1.1, HSZ.out.2.1.2⟩
      have HBF : Hid (Below w.heap.size w W9) := HBX.out.trans (hst.below (fun i hh => by rw [hh]; exact HNE.out.2.1) HBX.out.size)
      have k0 := hk9.cell (i := 0) rfl
      have k1 := hk9.cell (i := 1) rfl
      have k2 := hk9.cell (i := 2) rfl
      have k3 := hk9.cell (i := 3) rfl
      have k4 := hk9.cell (i := 4) rfl
      have k5 := hk9.cell (i := 5) rfl
      have k6 := hk9.cell (i := 6) rfl
      have k7 := hk9.cell (i := 7) rfl
      clear hk9 hst
      go_wp2
      rw [← hW9]
      (try simp only [Exit.inBlock, Exit.then])
      refine bodyPost_ret (v := .tuple #[.agg #[.int .i64 sl, .int .i64 br, .int .i64 bn, .bool np, .string tk, .string ct, .int .i64 ep, .slice a XN c], .int .i64 (at' : Int), .int .i64 0]) ?_ rfl ⟨⟨sl, (br, bn), ⟨⟨np, tk, ct, ep, cut⟩, a, c⟩⟩, at', 0, by simp only [VoM.val]; rw [HXN.out], HVOK.out, HN9.out, fun b off e hne => by have h1 := HAB.out b off e hne; have h2 := HNE.out.2.2.1; omega, .inl ⟨rfl, HAT.out, HP.out⟩, HBF.out⟩
      rw [results_cellR3 rfl]
      go_simp
  · have HP : Hid (pVoted bs = none) := by
      unfold nxt at h1
      rw [Option.bind_some] at h1
      cases hp : pVoted bs with
      | none => exact hid rfl
      | some t => rw [hp] at h1; cases h1
    clear h1
    obtain ⟨U2, hU2⟩ : ∃ V, V = U.alloc (.cells #[.int .i64 0, .int .i64 0, .int .i64 0, .bool false, .string ⟨#[]⟩, .string ⟨#[]⟩, .int .i64 0, .slice none 0 0] 73) := ⟨_, rfl⟩
    obtain ⟨zb, hzb⟩ : ∃ q, q = u.heap.size + 1 := ⟨_, rfl⟩
    have hUs : U.heap.size = u.heap.size + 1 := by rw [HU.out]; simp
    have hbz : Below U.heap.size U U2 := by rw [hU2]; exact (Below.refl _ _).alloc (Nat.le_refl _) _
    have HKZ : Hid (Blk U2 zb 73 [.int .i64 0, .int .i64 0, .int .i64 0, .bool false, .string ⟨#[]⟩, .string ⟨#[]⟩, .int .i64 0, .slice none 0 0]) := by rw [hU2, hzb, ← hUs]; exact Blk.new U _ _
    have HKS3 := hid (HKS2.out.below hbz HKS2.out.lt)
    have HKB3 := hid (HKB.out.below hbz HKB.out.lt)
    have HBZ := hid (bt' HBX.out hbz)
    have HZS : Hid (rs < zb) := by have h1 := HKS2.out.lt; exact hid (by omega)
    have HSA : Hid (∀ V, Turns (fun i => i = rs) U2 V → (Turns (fun i => i = rs) U2 V ∧ V.cell? ⟨zb, 0, none⟩ = some (.int .i64 0) ∧ V.cell? ⟨zb, 1, none⟩ = some (.int .i64 0) ∧ V.cell? ⟨zb, 2, none⟩ = some (.int .i64 0) ∧ V.cell? ⟨zb, 3, none⟩ = some (.bool false) ∧ V.cell? ⟨zb, 4, none⟩ = some (.string ⟨#[]⟩) ∧ V.cell? ⟨zb, 5, none⟩ = some (.string ⟨#[]⟩) ∧ V.cell? ⟨zb, 6, none⟩ = some (.int .i64 0) ∧ V.cell? ⟨zb, 7, none⟩ = some (.slice none 0 0) ∧ V.cell? ⟨rb, 2, none⟩ = some (.int .i64 10))) := fun V hV => by
      have h1 := hV.blk HKZ.out (by have := HZS.out; omega)
      have h2 := hV.blk HKB3.out (fun e => HNE.out.1 e.symm)
      exact ⟨hV, h1.cell rfl, h1.cell rfl, h1.cell rfl, h1.cell rfl, h1.cell rfl, h1.cell rfl, h1.cell rfl, h1.cell rfl, h2.cell rfl⟩
    have HTU : Hid (Turns (fun i => i = rs) U2 U2) := Turns.refl _ _
    have HU2 := hid hU2
    have HZB := hid hzb
    have b2 := HKB.out.cell (i := 2) rfl
    rw [HU.out] at b2
    clear hU2 hzb hbz hUs
    go_wp2
    rw [← HU.out, ← HU2.out, ← HZB.out]
    clear b2
    have r0 := HKS3.out.cell (i := 0) rfl
    have f0 := HKS3.out.frozen 0
    have r1 := HKS3.out.cell (i := 1) rfl
    have f1 := HKS3.out.frozen 1
    have r2 := HKS3.out.cell (i := 2) rfl
    have f2 := HKS3.out.frozen 2
    have r3 := HKS3.out.cell (i := 3) rfl
    have f3 := HKS3.out.frozen 3
    have r4 := HKS3.out.cell (i := 4) rfl
    have f4 := HKS3.out.frozen 4
    have r5 := HKS3.out.cell (i := 5) rfl
    have f5 := HKS3.out.frozen 5
    have r6 := HKS3.out.cell (i := 6) rfl
    have f6 := HKS3.out.frozen 6
    have r7 := HKS3.out.cell (i := 7) rfl
    have f7 := HKS3.out.frozen 7
    go_region_held3 (fun V => Turns (fun i => i = rs) U2 V ∧ V.cell? ⟨zb, 0, none⟩ = some (.int .i64 0) ∧ V.cell? ⟨zb, 1, none⟩ = some (.int .i64 0) ∧ V.cell? ⟨zb, 2, none⟩ = some (.int .i64 0) ∧ V.cell? ⟨zb, 3, none⟩ = some (.bool false) ∧ V.cell? ⟨zb, 4, none⟩ = some (.string ⟨#[]⟩) ∧ V.cell? ⟨zb, 5, none⟩ = some (.string ⟨#[]⟩) ∧ V.cell? ⟨zb, 6, none⟩ = some (.int .i64 0) ∧ V.cell? ⟨zb, 7, none⟩ = some (.slice none 0 0) ∧ V.cell? ⟨rb, 2, none⟩ = some (.int .i64 10))
      (first | (refine HSA.out _ ?_; (repeat (first | with_reducible assumption | with_reducible exact HTU.out | with_reducible apply Turns.drew | with_reducible apply turns_rs)); done))
      (fail)
    all_goals
      obtain ⟨W9, hW9⟩ : ∃ V, V = ((((((((U2.setCell ⟨rs, 0, none⟩ (.int .i64 0)).setCell ⟨rs, 1, none⟩ (.int .i64 0)).setCell ⟨rs, 2, none⟩ (.int .i64 0)).setCell ⟨rs, 3, none⟩ (.bool false)).setCell ⟨rs, 4, none⟩ (.string ⟨#[]⟩)).setCell ⟨rs, 5, none⟩ (.string ⟨#[]⟩)).setCell ⟨rs, 6, none⟩ (.int .i64 0)).setCell ⟨rs, 7, none⟩ (.slice none 0 0)).drew := ⟨_, rfl⟩
      have hk9 : Blk W9 rs 73 [.int .i64 0, .int .i64 0, .int .i64 0, .bool false, .string ⟨#[]⟩, .string ⟨#[]⟩, .int .i64 0, .slice none 0 0] := by rw [hW9]; exact ((((((((HKS3.out.set 0 _).set 1 _).set 2 _).set 3 _).set 4 _).set 5 _).set 6 _).set 7 _).drew
      have hst : Turns (fun i => i = rs) U2 W9 := by rw [hW9]; exact (((((((((Turns.refl (fun i => i = rs) U2).setCell (p := ⟨rs, 0, none⟩) (.inl rfl) _).setCell (p := ⟨rs, 1, none⟩) (.inl rfl) _).setCell (p := ⟨rs, 2, none⟩) (.inl rfl) _).setCell (p := ⟨rs, 3, none⟩) (.inl rfl) _).setCell (p := ⟨rs, 4, none⟩) (.inl rfl) _).setCell (p := ⟨rs, 5, none⟩) (.inl rfl) _).setCell (p := ⟨rs, 6, none⟩) (.inl rfl) _).setCell (p := ⟨rs, 7, none⟩) (.inl rfl) _).drew
      have HBF : Hid (Below w.heap.size w W9) := HBZ.out.trans (hst.below (fun i hh => by rw [hh]; exact HNE.out.2.1) HBZ.out.size)
      have k0 := hk9.cell (i := 0) rfl
      have k1 := hk9.cell (i := 1) rfl
      have k2 := hk9.cell (i := 2) rfl
      have k3 := hk9.cell (i := 3) rfl
      have k4 := hk9.cell (i := 4) rfl
      have k5 := hk9.cell (i := 5) rfl
      have k6 := hk9.cell (i := 6) rfl
      have k7 := hk9.cell (i := 7) rfl
      clear hk9 hst
      go_wp2
      rw [← hW9]
      (try simp only [Exit.inBlock, Exit.then])
      refine bodyPost_ret (v := .tuple #[.agg #[.int .i64 0, .int .i64 0, .int .i64 0, .bool false, .string ⟨#[]⟩, .string ⟨#[]⟩, .int .i64 0, .slice none 0 0], .int .i64 0, .int .i64 10]) ?_ rfl ⟨⟨0, (0, 0), ⟨⟨false, ⟨#[]⟩, ⟨#[]⟩, 0, []⟩, none, 0⟩⟩, 0, 10, rfl, ⟨⟨hv_nilE _, i64_0K, Nat.zero_le _, Nat.zero_le _⟩, i64_0K, i64_0K, i64_0K⟩, hn_nilE _, fun b off e => (by cases e), .inr ⟨rfl, HP.out⟩, HBF.out⟩
      rw [results_cellR3 rfl]
      go_simp
end Go.Proofs.YtfmnbehopdmahaaGreat
/-
  Package codec: a reader's events.
-/
namespace Go.Proofs.YtfmnbehopdmahaaGreat
open Go.RowKit Go.Maps

/-- What codec.eventOf leaves. -/
def PartEvent (w : World) (rb : Nat) (ao : Option Addr) (len cap : Nat) (bs : List Int) (st : Option (List Int)) (e : Ending) (w' : World) : Prop := (∃ (y0 : Int) (y1 : Int) (a2 : Option Addr) (c2 : Nat) (y2 : List Int) (y3 : ByteArray) (y4 : Int) (y5 : ByteArray) (y6 : Int) (y7 : Bool) , e = .returned (.agg #[.int .i64 y0, .int .i64 y1, .slice a2 y2.length c2, .string y3, .int .i64 y4, .string y5, .int .i64 y6, .bool y7]) ∧ Got st (pNum 6) y0 ∧ I64 y0 ∧ Got (nxt st (pNum 6)) (pNum 2147483647) y1 ∧ I64 y1 ∧ Got (nxt (nxt st (pNum 6)) (pNum 2147483647)) pVec y2 ∧ HN w' a2 c2 y2 ∧ (∀ b off, a2 = some ⟨b, off, none⟩ → y2 ≠ [] → w.heap.size ≤ b) ∧ Got (nxt (nxt (nxt st (pNum 6)) (pNum 2147483647)) pVec) pName y3 ∧ y3.size ≤ 32 ∧ Got (nxt (nxt (nxt (nxt st (pNum 6)) (pNum 2147483647)) pVec) pName) (pNum 2147483647) y4 ∧ I64 y4 ∧ Got (nxt (nxt (nxt (nxt (nxt st (pNum 6)) (pNum 2147483647)) pVec) pName) (pNum 2147483647)) pName y5 ∧ y5.size ≤ 32 ∧ Got (nxt (nxt (nxt (nxt (nxt (nxt st (pNum 6)) (pNum 2147483647)) pVec) pName) (pNum 2147483647)) pName) (pNum 1000) y6 ∧ I64 y6 ∧ Got (nxt (nxt (nxt (nxt (nxt (nxt (nxt st (pNum 6)) (pNum 2147483647)) pVec) pName) (pNum 2147483647)) pName) (pNum 1000)) pBool y7) ∧ RdAt w' rb ao len cap bs (nxt (nxt (nxt (nxt (nxt (nxt (nxt (nxt st (pNum 6)) (pNum 2147483647)) pVec) pName) (pNum 2147483647)) pName) (pNum 1000)) pBool) ∧ Turns (fun i => i = rb) w w'
set_option maxRecDepth 1000000 in
set_option maxHeartbeats 4000000 in
theorem RdAt.partEvent {w : World} {rb : Nat} {ao : Option Addr} {len cap : Nat} {bs : List Int} {st : Option (List Int)} (h : RdAt w rb ao len cap bs st) : Calls Tryz.prog 80 #[.pointer (some ⟨rb, 0, none⟩)] w (PartEvent w rb ao len cap bs st) := by
  obtain ⟨W1, hW1⟩ : ∃ W, W = w.alloc (.cells #[.int .i64 0, .int .i64 0, .slice none 0 0, .string ⟨#[]⟩, .int .i64 0, .string ⟨#[]⟩, .int .i64 0, .bool false] 97) := ⟨_, rfl⟩
  obtain ⟨W, hW⟩ : ∃ W, W = W1.alloc (.cells #[.int .i64 0, .int .i64 0, .slice none 0 0, .string ⟨#[]⟩, .int .i64 0, .string ⟨#[]⟩, .int .i64 0, .bool false] 97) := ⟨_, rfl⟩
  have hs1 : W1.heap.size = w.heap.size + 1 := by rw [hW1]; simp
  have hb1 : Below w.heap.size w W1 := by rw [hW1]; exact (Below.refl _ _).alloc (Nat.le_refl _) _
  have hb : Below w.heap.size w W := by rw [hW]; exact hb1.alloc hb1.size _
  obtain ⟨rs, hrs⟩ : ∃ q, q = w.heap.size := ⟨_, rfl⟩
  obtain ⟨vb, hvb⟩ : ∃ q, q = w.heap.size + 1 := ⟨_, rfl⟩
  have HKR0 : Hid (Blk W rs 97 [.int .i64 0, .int .i64 0, .slice none 0 0, .string ⟨#[]⟩, .int .i64 0, .string ⟨#[]⟩, .int .i64 0, .bool false]) := by rw [hrs, hW, hW1]; exact (Blk.new w _ _).alloc _
  have HKV0 : Hid (Blk W vb 97 [.int .i64 0, .int .i64 0, .slice none 0 0, .string ⟨#[]⟩, .int .i64 0, .string ⟨#[]⟩, .int .i64 0, .bool false]) := by rw [hvb, hW, ← hs1]; exact Blk.new W1 _ _
  have hlt : rb < w.heap.size := by obtain ⟨_, _, hk, _⟩ := h.blk; exact hk.lt
  have HNE : Hid (vb ≠ rb ∧ rs ≠ rb ∧ w.heap.size ≤ vb ∧ w.heap.size ≤ rs ∧ rs < vb ∧ rb < w.heap.size) := ⟨by omega, by omega, by omega, by omega, by omega, hlt⟩
  have HOFF : Hid (∀ ad, ao = some ad → 0 < len → ad.block < w.heap.size) := fun ad e hl => h.held.old ad e hl
  have HR0 := hid (h.below hb)
  have HT0 : Hid (Turns (fun i => i = rb) w W) := Turns.of_below hb (Nat.le_refl _)
  have HW : Hid (W = (w.alloc (.cells #[.int .i64 0, .int .i64 0, .slice none 0 0, .string ⟨#[]⟩, .int .i64 0, .string ⟨#[]⟩, .int .i64 0, .bool false] 97)).alloc (.cells #[.int .i64 0, .int .i64 0, .slice none 0 0, .string ⟨#[]⟩, .int .i64 0, .string ⟨#[]⟩, .int .i64 0, .bool false] 97)) := by show _ = _; rw [hW, hW1]
  have HRS := hid hrs
  have HVB := hid hvb
  have HC0 := hid (fun V (hV : RdAt V rb ao len cap bs st) => hV.number 6 (by decide))
  have HC1 := hid (fun V (hV : RdAt V rb ao len cap bs (nxt st (pNum 6))) => hV.number 2147483647 (by decide))
  have HC2 := hid (fun V (hV : RdAt V rb ao len cap bs (nxt (nxt st (pNum 6)) (pNum 2147483647))) => hV.vector)
  have HC3 := hid (fun V (hV : RdAt V rb ao len cap bs (nxt (nxt (nxt st (pNum 6)) (pNum 2147483647)) pVec)) => hV.name)
  have HC4 := hid (fun V (hV : RdAt V rb ao len cap bs (nxt (nxt (nxt (nxt st (pNum 6)) (pNum 2147483647)) pVec) pName)) => hV.number 2147483647 (by decide))
  have HC5 := hid (fun V (hV : RdAt V rb ao len cap bs (nxt (nxt (nxt (nxt (nxt st (pNum 6)) (pNum 2147483647)) pVec) pName) (pNum 2147483647))) => hV.name)
  have HC6 := hid (fun V (hV : RdAt V rb ao len cap bs (nxt (nxt (nxt (nxt (nxt (nxt st (pNum 6)) (pNum 2147483647)) pVec) pName) (pNum 2147483647)) pName)) => hV.number 1000 (by decide))
  have HC7 := hid (fun V (hV : RdAt V rb ao len cap bs (nxt (nxt (nxt (nxt (nxt (nxt (nxt st (pNum 6)) (pNum 2147483647)) pVec) pName) (pNum 2147483647)) pName) (pNum 1000))) => hV.truth)
  clear h hW hW1 hs1 hb1 hb hrs hvb hlt
  go_enter Tryz.func80, Tryz.ntmps80
  go_wp2_with fail
  rw [← HW.out, ← HVB.out, ← HRS.out]
  refine (HC0.out _ HR0.out).mono ?_
  rintro e u0 ⟨⟨y0, rfl, hi, hg⟩, hr, ht⟩
  have HI0 := hid hi
  have HG0 := hid hg
  have hkv := ht.blk HKV0.out HNE.out.1
  have hkr := ht.blk HKR0.out HNE.out.2.1
  obtain ⟨X0, hX0⟩ : ∃ V, V = u0.setCell ⟨vb, 0, none⟩ (.int .i64 y0) := ⟨_, rfl⟩
  have hst : Turns (fun i => i = vb) u0 X0 := by rw [hX0]; exact (Turns.refl (fun i => i = vb) u0).setCell (p := ⟨vb, 0, none⟩) (.inl rfl) _
  have HKV1 : Hid (Blk X0 vb 97 [.int .i64 y0, .int .i64 0, .slice none 0 0, .string ⟨#[]⟩, .int .i64 0, .string ⟨#[]⟩, .int .i64 0, .bool false]) := by rw [hX0]; exact hkv.set 0 _
  have HKR1 : Hid (Blk X0 rs 97 [.int .i64 0, .int .i64 0, .slice none 0 0, .string ⟨#[]⟩, .int .i64 0, .string ⟨#[]⟩, .int .i64 0, .bool false]) := hst.blk hkr (by have := HNE.out.2.2.2.2.1; omega)
  have HR1 : Hid (RdAt X0 rb ao len cap bs (nxt st (pNum 6))) := hr.turned hst (fun e => HNE.out.1 e.symm) (fun ad e hl hh => by have h1 := HOFF.out ad e hl; have h2 := HNE.out.2.2.1; omega)
  have HT1 : Hid (Turns (fun i => i = rb) w X0) := (turns_one HT0.out ht).trans hst (fun i hi => .inr (by rw [hi]; exact HNE.out.2.2.1))
  have e0 := hkv.cell (i := 0) rfl
  have g0 := hkv.frozen 0
  have HX0 := hid hX0
  clear hi hg hkv hkr hr ht hst hX0
  go_wp2_with fail
  rw [← HX0.out]
  refine (HC1.out _ HR1.out).mono ?_
  rintro e u1 ⟨⟨y1, rfl, hi, hg⟩, hr, ht⟩
  have HI1 := hid hi
  have HG1 := hid hg
  have hkv := ht.blk HKV1.out HNE.out.1
  have hkr := ht.blk HKR1.out HNE.out.2.1
  obtain ⟨X1, hX1⟩ : ∃ V, V = u1.setCell ⟨vb, 1, none⟩ (.int .i64 y1) := ⟨_, rfl⟩
  have hst : Turns (fun i => i = vb) u1 X1 := by rw [hX1]; exact (Turns.refl (fun i => i = vb) u1).setCell (p := ⟨vb, 1, none⟩) (.inl rfl) _
  have HKV2 : Hid (Blk X1 vb 97 [.int .i64 y0, .int .i64 y1, .slice none 0 0, .string ⟨#[]⟩, .int .i64 0, .string ⟨#[]⟩, .int .i64 0, .bool false]) := by rw [hX1]; exact hkv.set 1 _
  have HKR2 : Hid (Blk X1 rs 97 [.int .i64 0, .int .i64 0, .slice none 0 0, .string ⟨#[]⟩, .int .i64 0, .string ⟨#[]⟩, .int .i64 0, .bool false]) := hst.blk hkr (by have := HNE.out.2.2.2.2.1; omega)
  have HR2 : Hid (RdAt X1 rb ao len cap bs (nxt (nxt st (pNum 6)) (pNum 2147483647))) := hr.turned hst (fun e => HNE.out.1 e.symm) (fun ad e hl hh => by have h1 := HOFF.out ad e hl; have h2 := HNE.out.2.2.1; omega)
  have HT2 : Hid (Turns (fun i => i = rb) w X1) := (turns_one HT1.out ht).trans hst (fun i hi => .inr (by rw [hi]; exact HNE.out.2.2.1))
  have e1 := hkv.cell (i := 1) rfl
  have g1 := hkv.frozen 1
  have HX1 := hid hX1
  clear hi hg hkv hkr hr ht hst hX1
  clear e0 g0
  go_wp2_with fail
  rw [← HX1.out]
  refine (HC2.out _ HR2.out).mono ?_
  rintro e u2 ⟨⟨a2, c2, y2, rfl, hg, hi, hab⟩, hr, ht⟩
  obtain ⟨n2, HN2⟩ : ∃ n, Hid (y2.length = n) := ⟨_, hid rfl⟩
  rw [HN2.out]
  have HAB2 : Hid (∀ b off, a2 = some ⟨b, off, none⟩ → y2 ≠ [] → vb < b) := fun b off e hne => Nat.lt_of_lt_of_le HKV2.out.lt (hab b off e hne)
  clear hab
  have HI2 := hid hi
  have HG2 := hid hg
  have hkv := ht.blk HKV2.out HNE.out.1
  have hkr := ht.blk HKR2.out HNE.out.2.1
  obtain ⟨X2, hX2⟩ : ∃ V, V = u2.setCell ⟨vb, 2, none⟩ (.slice a2 n2 c2) := ⟨_, rfl⟩
  have hst : Turns (fun i => i = vb) u2 X2 := by rw [hX2]; exact (Turns.refl (fun i => i = vb) u2).setCell (p := ⟨vb, 2, none⟩) (.inl rfl) _
  have HKV3 : Hid (Blk X2 vb 97 [.int .i64 y0, .int .i64 y1, .slice a2 n2 c2, .string ⟨#[]⟩, .int .i64 0, .string ⟨#[]⟩, .int .i64 0, .bool false]) := by rw [hX2]; exact hkv.set 2 _
  have HKR3 : Hid (Blk X2 rs 97 [.int .i64 0, .int .i64 0, .slice none 0 0, .string ⟨#[]⟩, .int .i64 0, .string ⟨#[]⟩, .int .i64 0, .bool false]) := hst.blk hkr (by have := HNE.out.2.2.2.2.1; omega)
  have HR3 : Hid (RdAt X2 rb ao len cap bs (nxt (nxt (nxt st (pNum 6)) (pNum 2147483647)) pVec)) := hr.turned hst (fun e => HNE.out.1 e.symm) (fun ad e hl hh => by have h1 := HOFF.out ad e hl; have h2 := HNE.out.2.2.1; omega)
  have HT3 : Hid (Turns (fun i => i = rb) w X2) := (turns_one HT2.out ht).trans hst (fun i hi => .inr (by rw [hi]; exact HNE.out.2.2.1))
  have HV2x3 : Hid (HN X2 a2 c2 y2) := hnK hst HI2.out (fun b off e hne hh => by have h1 := HAB2.out b off e hne; omega)
  have e2 := hkv.cell (i := 2) rfl
  have g2 := hkv.frozen 2
  have HX2 := hid hX2
  clear hi hg hkv hkr hr ht hst hX2
  clear e1 g1
  go_wp2_with fail
  rw [← HX2.out]
  refine (HC3.out _ HR3.out).mono ?_
  rintro e u3 ⟨⟨y3, rfl, hg, hi⟩, hr, ht⟩
  have HI3 := hid hi
  have HG3 := hid hg
  have hkv := ht.blk HKV3.out HNE.out.1
  have hkr := ht.blk HKR3.out HNE.out.2.1
  obtain ⟨X3, hX3⟩ : ∃ V, V = u3.setCell ⟨vb, 3, none⟩ (.string y3) := ⟨_, rfl⟩
  have hst : Turns (fun i => i = vb) u3 X3 := by rw [hX3]; exact (Turns.refl (fun i => i = vb) u3).setCell (p := ⟨vb, 3, none⟩) (.inl rfl) _
  have HKV4 : Hid (Blk X3 vb 97 [.int .i64 y0, .int .i64 y1, .slice a2 n2 c2, .string y3, .int .i64 0, .string ⟨#[]⟩, .int .i64 0, .bool false]) := by rw [hX3]; exact hkv.set 3 _
  have HKR4 : Hid (Blk X3 rs 97 [.int .i64 0, .int .i64 0, .slice none 0 0, .string ⟨#[]⟩, .int .i64 0, .string ⟨#[]⟩, .int .i64 0, .bool false]) := hst.blk hkr (by have := HNE.out.2.2.2.2.1; omega)
  have HR4 : Hid (RdAt X3 rb ao len cap bs (nxt (nxt (nxt (nxt st (pNum 6)) (pNum 2147483647)) pVec) pName)) := hr.turned hst (fun e => HNE.out.1 e.symm) (fun ad e hl hh => by have h1 := HOFF.out ad e hl; have h2 := HNE.out.2.2.1; omega)
  have HT4 : Hid (Turns (fun i => i = rb) w X3) := (turns_one HT3.out ht).trans hst (fun i hi => .inr (by rw [hi]; exact HNE.out.2.2.1))
  have HV2x4 : Hid (HN X3 a2 c2 y2) := hnK hst (hnK ht HV2x3.out (fun b off e hne hh => by have h1 := HAB2.out b off e hne; have h2 := HNE.out.2.2.1; have h3 := HNE.out.2.2.2.2.2; omega)) (fun b off e hne hh => by have h1 := HAB2.out b off e hne; omega)
  have e3 := hkv.cell (i := 3) rfl
  have g3 := hkv.frozen 3
  have HX3 := hid hX3
  clear hi hg hkv hkr hr ht hst hX3
  clear e2 g2
  go_wp2_with fail
  rw [← HX3.out]
  refine (HC4.out _ HR4.out).mono ?_
  rintro e u4 ⟨⟨y4, rfl, hi, hg⟩, hr, ht⟩
  have HI4 := hid hi
  have HG4 := hid hg
  have hkv := ht.blk HKV4.out HNE.out.1
  have hkr := ht.blk HKR4.out HNE.out.2.1
  obtain ⟨X4, hX4⟩ : ∃ V, V = u4.setCell ⟨vb, 4, none⟩ (.int .i64 y4) := ⟨_, rfl⟩
  have hst : Turns (fun i => i = vb) u4 X4 := by rw [hX4]; exact (Turns.refl (fun i => i = vb) u4).setCell (p := ⟨vb, 4, none⟩) (.inl rfl) _
  have HKV5 : Hid (Blk X4 vb 97 [.int .i64 y0, .int .i64 y1, .slice a2 n2 c2, .string y3, .int .i64 y4, .string ⟨#[]⟩, .int .i64 0, .bool false]) := by rw [hX4]; exact hkv.set 4 _
  have HKR5 : Hid (Blk X4 rs 97 [.int .i64 0, .int .i64 0, .slice none 0 0, .string ⟨#[]⟩, .int .i64 0, .string ⟨#[]⟩, .int .i64 0, .bool false]) := hst.blk hkr (by have := HNE.out.2.2.2.2.1; omega)
  have HR5 : Hid (RdAt X4 rb ao len cap bs (nxt (nxt (nxt (nxt (nxt st (pNum 6)) (pNum 2147483647)) pVec) pName) (pNum 2147483647))) := hr.turned hst (fun e => HNE.out.1 e.symm) (fun ad e hl hh => by have h1 := HOFF.out ad e hl; have h2 := HNE.out.2.2.1; omega)
  have HT5 : Hid (Turns (fun i => i = rb) w X4) := (turns_one HT4.out ht).trans hst (fun i hi => .inr (by rw [hi]; exact HNE.out.2.2.1))
  have HV2x5 : Hid (HN X4 a2 c2 y2) := hnK hst (hnK ht HV2x4.out (fun b off e hne hh => by have h1 := HAB2.out b off e hne; have h2 := HNE.out.2.2.1; have h3 := HNE.out.2.2.2.2.2; omega)) (fun b off e hne hh => by have h1 := HAB2.out b off e hne; omega)
  have e4 := hkv.cell (i := 4) rfl
  have g4 := hkv.frozen 4
  have HX4 := hid hX4
  clear hi hg hkv hkr hr ht hst hX4
  clear e3 g3
  go_wp2_with fail
  rw [← HX4.out]
  refine (HC5.out _ HR5.out).mono ?_
  rintro e u5 ⟨⟨y5, rfl, hg, hi⟩, hr, ht⟩
  have HI5 := hid hi
  have HG5 := hid hg
  have hkv := ht.blk HKV5.out HNE.out.1
  have hkr := ht.blk HKR5.out HNE.out.2.1
  obtain ⟨X5, hX5⟩ : ∃ V, V = u5.setCell ⟨vb, 5, none⟩ (.string y5) := ⟨_, rfl⟩
  have hst : Turns (fun i => i = vb) u5 X5 := by rw [hX5]; exact (Turns.refl (fun i => i = vb) u5).setCell (p := ⟨vb, 5, none⟩) (.inl rfl) _
  have HKV6 : Hid (Blk X5 vb 97 [.int .i64 y0, .int .i64 y1, .slice a2 n2 c2, .string y3, .int .i64 y4, .string y5, .int .i64 0, .bool false]) := by rw [hX5]; exact hkv.set 5 _
  have HKR6 : Hid (Blk X5 rs 97 [.int .i64 0, .int .i64 0, .slice none 0 0, .string ⟨#[]⟩, .int .i64 0, .string ⟨#[]⟩, .int .i64 0, .bool false]) := hst.blk hkr (by have := HNE.out.2.2.2.2.1; omega)
  have HR6 : Hid (RdAt X5 rb ao len cap bs (nxt (nxt (nxt (nxt (nxt (nxt st (pNum 6)) (pNum 2147483647)) pVec) pName) (pNum 2147483647)) pName)) := hr.turned hst (fun e => HNE.out.1 e.symm) (fun ad e hl hh => by have h1 := HOFF.out ad e hl; have h2 := HNE.out.2.2.1; omega)
  have HT6 : Hid (Turns (fun i => i = rb) w X5) := (turns_one HT5.out ht).trans hst (fun i hi => .inr (by rw [hi]; exact HNE.out.2.2.1))
  have HV2x6 : Hid (HN X5 a2 c2 y2) := hnK hst (hnK ht HV2x5.out (fun b off e hne hh => by have h1 := HAB2.out b off e hne; have h2 := HNE.out.2.2.1; have h3 := HNE.out.2.2.2.2.2; omega)) (fun b off e hne hh => by have h1 := HAB2.out b off e hne; omega)
  have e5 := hkv.cell (i := 5) rfl
  have g5 := hkv.frozen 5
  have HX5 := hid hX5
  clear hi hg hkv hkr hr ht hst hX5
  clear e4 g4
  go_wp2_with fail
  rw [← HX5.out]
  refine (HC6.out _ HR6.out).mono ?_
  rintro e u6 ⟨⟨y6, rfl, hi, hg⟩, hr, ht⟩
  have HI6 := hid hi
  have HG6 := hid hg
  have hkv := ht.blk HKV6.out HNE.out.1
  have hkr := ht.blk HKR6.out HNE.out.2.1
  obtain ⟨X6, hX6⟩ : ∃ V, V = u6.setCell ⟨vb, 6, none⟩ (.int .i64 y6) := ⟨_, rfl⟩
  have hst : Turns (fun i => i = vb) u6 X6 := by rw [hX6]; exact (Turns.refl (fun i => i = vb) u6).setCell (p := ⟨vb, 6, none⟩) (.inl rfl) _
  have HKV7 : Hid (Blk X6 vb 97 [.int .i64 y0, .int .i64 y1, .slice a2 n2 c2, .string y3, .int .i64 y4, .string y5, .int .i64 y6, .bool false]) := by rw [hX6]; exact hkv.set 6 _
  have HKR7 : Hid (Blk X6 rs 97 [.int .i64 0, .int .i64 0, .slice none 0 0, .string ⟨#[]⟩, .int .i64 0, .string ⟨#[]⟩, .int .i64 0, .bool false]) := hst.blk hkr (by have := HNE.out.2.2.2.2.1; omega)
  have HR7 : Hid (RdAt X6 rb ao len cap bs (nxt (nxt (nxt (nxt (nxt (nxt (nxt st (pNum 6)) (pNum 2147483647)) pVec) pName) (pNum 2147483647)) pName) (pNum 1000))) := hr.turned hst (fun e => HNE.out.1 e.symm) (fun ad e hl hh => by have h1 := HOFF.out ad e hl; have h2 := HNE.out.2.2.1; omega)
  have HT7 : Hid (Turns (fun i => i = rb) w X6) := (turns_one HT6.out ht).trans hst (fun i hi => .inr (by rw [hi]; exact HNE.out.2.2.1))
  have HV2x7 : Hid (HN X6 a2 c2 y2) := hnK hst (hnK ht HV2x6.out (fun b off e hne hh => by have h1 := HAB2.out b off e hne; have h2 := HNE.out.2.2.1; have h3 := HNE.out.2.2.2.2.2; omega)) (fun b off e hne hh => by have h1 := HAB2.out b off e hne; omega)
  have e6 := hkv.cell (i := 6) rfl
  have g6 := hkv.frozen 6
  have HX6 := hid hX6
  clear hi hg hkv hkr hr ht hst hX6
  clear e5 g5
  go_wp2_with fail
  rw [← HX6.out]
  refine (HC7.out _ HR7.out).mono ?_
  rintro e u7 ⟨⟨y7, rfl, hg⟩, hr, ht⟩
  have hi := trivial
  have HI7 := hid hi
  have HG7 := hid hg
  have hkv := ht.blk HKV7.out HNE.out.1
  have hkr := ht.blk HKR7.out HNE.out.2.1
  obtain ⟨X7, hX7⟩ : ∃ V, V = u7.setCell ⟨vb, 7, none⟩ (.bool y7) := ⟨_, rfl⟩
  have hst : Turns (fun i => i = vb) u7 X7 := by rw [hX7]; exact (Turns.refl (fun i => i = vb) u7).setCell (p := ⟨vb, 7, none⟩) (.inl rfl) _
  have HKV8 : Hid (Blk X7 vb 97 [.int .i64 y0, .int .i64 y1, .slice a2 n2 c2, .string y3, .int .i64 y4, .string y5, .int .i64 y6, .bool y7]) := by rw [hX7]; exact hkv.set 7 _
  have HKR8 : Hid (Blk X7 rs 97 [.int .i64 0, .int .i64 0, .slice none 0 0, .string ⟨#[]⟩, .int .i64 0, .string ⟨#[]⟩, .int .i64 0, .bool false]) := hst.blk hkr (by have := HNE.out.2.2.2.2.1; omega)
  have HR8 : Hid (RdAt X7 rb ao len cap bs (nxt (nxt (nxt (nxt (nxt (nxt (nxt (nxt st (pNum 6)) (pNum 2147483647)) pVec) pName) (pNum 2147483647)) pName) (pNum 1000)) pBool)) := hr.turned hst (fun e => HNE.out.1 e.symm) (fun ad e hl hh => by have h1 := HOFF.out ad e hl; have h2 := HNE.out.2.2.1; omega)
  have HT8 : Hid (Turns (fun i => i = rb) w X7) := (turns_one HT7.out ht).trans hst (fun i hi => .inr (by rw [hi]; exact HNE.out.2.2.1))
  have HV2x8 : Hid (HN X7 a2 c2 y2) := hnK hst (hnK ht HV2x7.out (fun b off e hne hh => by have h1 := HAB2.out b off e hne; have h2 := HNE.out.2.2.1; have h3 := HNE.out.2.2.2.2.2; omega)) (fun b off e hne hh => by have h1 := HAB2.out b off e hne; omega)
  have e7 := hkv.cell (i := 7) rfl
  have g7 := hkv.frozen 7
  have HX7 := hid hX7
  clear hi hg hkv hkr hr ht hst hX7 e6 g6
  have q0 := HKV8.out.cell (i := 0) rfl
  have q1 := HKV8.out.cell (i := 1) rfl
  have q2 := HKV8.out.cell (i := 2) rfl
  have q3 := HKV8.out.cell (i := 3) rfl
  have q4 := HKV8.out.cell (i := 4) rfl
  have q5 := HKV8.out.cell (i := 5) rfl
  have q6 := HKV8.out.cell (i := 6) rfl
  have q7 := HKV8.out.cell (i := 7) rfl
  have r0 := HKR8.out.cell (i := 0) rfl
  have f0 := HKR8.out.frozen 0
  have r1 := HKR8.out.cell (i := 1) rfl
  have f1 := HKR8.out.frozen 1
  have r2 := HKR8.out.cell (i := 2) rfl
  have f2 := HKR8.out.frozen 2
  have r3 := HKR8.out.cell (i := 3) rfl
  have f3 := HKR8.out.frozen 3
  have r4 := HKR8.out.cell (i := 4) rfl
  have f4 := HKR8.out.frozen 4
  have r5 := HKR8.out.cell (i := 5) rfl
  have f5 := HKR8.out.frozen 5
  have r6 := HKR8.out.cell (i := 6) rfl
  have f6 := HKR8.out.frozen 6
  have r7 := HKR8.out.cell (i := 7) rfl
  have f7 := HKR8.out.frozen 7
  rw [HX7.out] at q0 r0 f0 q1 r1 f1 q2 r2 f2 q3 r3 f3 q4 r4 f4 q5 r5 f5 q6 r6 f6 q7 r7 f7
  obtain ⟨W9, hW9⟩ : ∃ V, V = ((((((((X7.setCell ⟨rs, 0, none⟩ (.int .i64 y0)).setCell ⟨rs, 1, none⟩ (.int .i64 y1)).setCell ⟨rs, 2, none⟩ (.slice a2 n2 c2)).setCell ⟨rs, 3, none⟩ (.string y3)).setCell ⟨rs, 4, none⟩ (.int .i64 y4)).setCell ⟨rs, 5, none⟩ (.string y5)).setCell ⟨rs, 6, none⟩ (.int .i64 y6)).setCell ⟨rs, 7, none⟩ (.bool y7)) := ⟨_, rfl⟩
  have hk9 : Blk W9 rs 97 [.int .i64 y0, .int .i64 y1, .slice a2 n2 c2, .string y3, .int .i64 y4, .string y5, .int .i64 y6, .bool y7] := by rw [hW9]; exact ((((((((HKR8.out.set 0 _).set 1 _).set 2 _).set 3 _).set 4 _).set 5 _).set 6 _).set 7 _)
  have hst : Turns (fun i => i = rs) X7 W9 := by rw [hW9]; exact (((((((((Turns.refl (fun i => i = rs) X7).setCell (p := ⟨rs, 0, none⟩) (.inl rfl) _).setCell (p := ⟨rs, 1, none⟩) (.inl rfl) _).setCell (p := ⟨rs, 2, none⟩) (.inl rfl) _).setCell (p := ⟨rs, 3, none⟩) (.inl rfl) _).setCell (p := ⟨rs, 4, none⟩) (.inl rfl) _).setCell (p := ⟨rs, 5, none⟩) (.inl rfl) _).setCell (p := ⟨rs, 6, none⟩) (.inl rfl) _).setCell (p := ⟨rs, 7, none⟩) (.inl rfl) _)
  have HR9 : Hid (RdAt W9 rb ao len cap bs (nxt (nxt (nxt (nxt (nxt (nxt (nxt (nxt st (pNum 6)) (pNum 2147483647)) pVec) pName) (pNum 2147483647)) pName) (pNum 1000)) pBool)) := HR8.out.turned hst (fun e => HNE.out.2.1 e.symm) (fun ad e hl hh => by have h1 := HOFF.out ad e hl; have h2 := HNE.out.2.2.2.1; omega)
  have HT9 : Hid (Turns (fun i => i = rb) w W9) := HT8.out.trans hst (fun i hi => .inr (by rw [hi]; exact HNE.out.2.2.2.1))
  have HVF2 : Hid (HN W9 a2 c2 y2) := hnK hst HV2x8.out (fun b off e hne hh => by have h1 := HAB2.out b off e hne; have h2 := HNE.out.2.2.2.2.1; omega)
  have k0 := hk9.cell (i := 0) rfl
  have k1 := hk9.cell (i := 1) rfl
  have k2 := hk9.cell (i := 2) rfl
  have k3 := hk9.cell (i := 3) rfl
  have k4 := hk9.cell (i := 4) rfl
  have k5 := hk9.cell (i := 5) rfl
  have k6 := hk9.cell (i := 6) rfl
  have k7 := hk9.cell (i := 7) rfl
  rw [HX7.out] at hW9
  clear hk9 hst
  go_wp2
  rw [← hW9]
  (try simp only [Exit.inBlock, Exit.then])
  refine bodyPost_ret (v := .agg #[.int .i64 y0, .int .i64 y1, .slice a2 n2 c2, .string y3, .int .i64 y4, .string y5, .int .i64 y6, .bool y7]) ?_ rfl ⟨⟨y0, y1, a2, c2, y2, y3, y4, y5, y6, y7, by rw [HN2.out], HG0.out, HI0.out, HG1.out, HI1.out, HG2.out, HVF2.out, (fun b off e hne => by have h1 := HAB2.out b off e hne; have h2 := HNE.out.2.2.1; omega), HG3.out, HI3.out, HG4.out, HI4.out, HG5.out, HI5.out, HG6.out, HI6.out, HG7.out⟩, HR9.out, HT9.out⟩
  rw [results_cell1B rfl]
  go_simp
end Go.Proofs.YtfmnbehopdmahaaGreat
/-
  Package codec: readBy of an event.
-/
namespace Go.Proofs.YtfmnbehopdmahaaGreat
open Go.RowKit Go.Maps

/-- What a read of an event answers. -/
def ReadEv (w : World) (len : Nat) (bs : List Int) (e : Ending) (w' : World) : Prop := ∃ (x : EvM) (n : Nat) (E : Int), e = .returned (.tuple #[x.val, .int .i64 (n : Int), .int .i64 E]) ∧ EvOk w' x ∧ HN w' x.ao x.cap x.e.deps ∧ (∀ b off, x.ao = some ⟨b, off, none⟩ → x.e.deps ≠ [] → w.heap.size ≤ b) ∧ ((E = 0 ∧ n ≤ len ∧ pEvent bs = some (x.e, bs.drop n)) ∨ (E = 10 ∧ pEvent bs = none)) ∧ Below w.heap.size w w'
set_option maxRecDepth 1000000 in
set_option maxHeartbeats 8000000 in
theorem readByEv (ao : Option Addr) (len cap : Nat) (bs : List Int) (w : World) (h : Held w ao len cap bs) : Calls Tryz.prog 131 #[.slice ao len cap, .func (.func 80) #[] #[]] w (ReadEv w len bs) := by
  obtain ⟨W1, hW1⟩ : ∃ W, W = w.alloc (.cells #[.int .i64 0, .int .i64 0, .slice none 0 0, .string ⟨#[]⟩, .int .i64 0, .string ⟨#[]⟩, .int .i64 0, .bool false] 97) := ⟨_, rfl⟩
  obtain ⟨W, hW⟩ : ∃ W, W = W1.alloc (.cells #[.slice ao len cap, .int .i64 0, .int .i64 0] 158) := ⟨_, rfl⟩
  have hs1 : W1.heap.size = w.heap.size + 1 := by rw [hW1]; simp
  have hb1 : Below w.heap.size w W1 := by rw [hW1]; exact (Below.refl _ _).alloc (Nat.le_refl _) _
  have hb : Below w.heap.size w W := by rw [hW]; exact hb1.alloc hb1.size _
  obtain ⟨rs, hrs⟩ : ∃ q, q = w.heap.size := ⟨_, rfl⟩
  obtain ⟨rb, hrb⟩ : ∃ q, q = w.heap.size + 1 := ⟨_, rfl⟩
  have HKS : Hid (Blk W rs 97 [.int .i64 0, .int .i64 0, .slice none 0 0, .string ⟨#[]⟩, .int .i64 0, .string ⟨#[]⟩, .int .i64 0, .bool false]) := by rw [hrs, hW, hW1]; exact (Blk.new w _ _).alloc _
  have hk : Blk W rb 158 [.slice ao len cap, .int .i64 0, .int .i64 0] := by rw [hrb, hW, ← hs1]; exact Blk.new W1 _ _
  have HRD : Hid (RdAt W rb ao len cap bs (some bs)) := ⟨h.below hb (Nat.le_refl _), 0, 0, hk, Nat.zero_le _, .inl ⟨rfl, rfl⟩⟩
  have HPT := hid HRD.out.partEvent
  have HNE : Hid (rs ≠ rb ∧ w.heap.size ≤ rs ∧ w.heap.size ≤ rb ∧ rs < rb) := ⟨by omega, by omega, by omega, by omega⟩
  have HW : Hid (W = (w.alloc (.cells #[.int .i64 0, .int .i64 0, .slice none 0 0, .string ⟨#[]⟩, .int .i64 0, .string ⟨#[]⟩, .int .i64 0, .bool false] 97)).alloc (.cells #[.slice ao len cap, .int .i64 0, .int .i64 0] 158)) := by show _ = _; rw [hW, hW1]
  have HRS := hid hrs
  have HRB := hid hrb
  have HB := hid hb
  clear h hk hW hW1 hs1 hb1 hb hrs hrb
  go_enter Tryz.func131, Tryz.ntmps131
  go_wp2_with fail
  rw [← HW.out, ← HRB.out, ← HRS.out]
  refine HPT.out.mono ?_
  rintro e u ⟨⟨oo, ss, a, c, cut, ct, ep, sk, qy, cl, rfl, hg0, hi0, hg1, hi1, hg2, hv, hab, hg3, hi3, hg4, hi4, hg5, hi5, hg6, hi6, hg7⟩, hr, ht⟩
  obtain ⟨XN, HXN⟩ : ∃ m, Hid (cut.length = m) := ⟨_, hid rfl⟩
  rw [HXN.out]
  have HGV : Hid (Got (some bs) pEvent (⟨oo, ss, cut, ct, ep, sk, qy, cl⟩ : Ev)) := got_map (fun t : Int × Int × List Int × ByteArray × Int × ByteArray × Int × Bool => (⟨t.1, t.2.1, t.2.2.1, t.2.2.2.1, t.2.2.2.2.1, t.2.2.2.2.2.1, t.2.2.2.2.2.2.1, t.2.2.2.2.2.2.2⟩ : Ev)) (got_seq hg0 (got_seq hg1 (got_seq hg2 (got_seq hg3 (got_seq hg4 (got_seq hg5 (got_seq hg6 hg7)))))))
  have hrr : RdAt u rb ao len cap bs (nxt (some bs) pEvent) := by
    unfold pEvent
    rw [nxt_map, ← nxt_seq, ← nxt_seq, ← nxt_seq, ← nxt_seq, ← nxt_seq, ← nxt_seq, ← nxt_seq]
    exact hr
  have hku := ht.blk HKS.out HNE.out.1
  have HBU : Hid (Below w.heap.size w u) := HB.out.trans (ht.below (fun i hh => by rw [hh]; exact HNE.out.2.2.1) HB.out.size)
  obtain ⟨U, hU⟩ : ∃ V, V = u.alloc (.cells #[.int .i64 oo, .int .i64 ss, .slice a XN c, .string ct, .int .i64 ep, .string sk, .int .i64 qy, .bool cl] 97) := ⟨_, rfl⟩
  obtain ⟨xb, hxb⟩ : ∃ q, q = u.heap.size := ⟨_, rfl⟩
  have hbU : Below u.heap.size u U := by rw [hU]; exact (Below.refl _ _).alloc (Nat.le_refl _) _
  have HKX : Hid (Blk U xb 97 [.int .i64 oo, .int .i64 ss, .slice a XN c, .string ct, .int .i64 ep, .string sk, .int .i64 qy, .bool cl]) := by rw [hU, hxb]; exact Blk.new u _ _
  have HKS2 := hid (hku.below hbU hku.lt)
  have HRU := hid (hrr.below hbU)
  have HBX := hid (bt' HBU.out hbU)
  have HXS : Hid (rs < xb ∧ rb < xb) := by obtain ⟨_, _, hkk, _⟩ := hrr.blk; have h1 := hku.lt; have h2 := hkk.lt; exact ⟨by omega, by omega⟩
  have HHV := hid (hv.below hbU)
  have HAB : Hid (∀ b off, a = some ⟨b, off, none⟩ → cut ≠ [] → rb < b) := fun b off e hne => Nat.lt_of_lt_of_le (by obtain ⟨_, _, hkk, _⟩ := HRD.out.blk; exact hkk.lt) (hab b off e hne)
  have HSZ := hid (And.intro hi0 (And.intro hi1 (And.intro hi3 (And.intro hi4 (And.intro hi5 hi6)))))
  have HU := hid hU
  have HXB := hid hxb
  obtain ⟨at', er, hkk, hat, hst⟩ := HRU.out.blk
  have HAT := hid hat
  have HKB := hid hkk
  clear hg0 hi0 hg1 hi1 hg2 hg3 hi3 hg4 hi4 hg5 hi5 hg6 hi6 hg7 hv hab hr ht hrr hku hbU hU hxb hat hkk HPT
  rcases hst with ⟨h1, rfl⟩ | ⟨h1, rfl⟩
  · have HP : Hid (pEvent bs = some ((⟨oo, ss, cut, ct, ep, sk, qy, cl⟩ : Ev), bs.drop at')) := by
      unfold nxt at h1
      rw [Option.bind_some] at h1
      cases hp : pEvent bs with
      | none => rw [hp] at h1; cases h1
      | some t =>
        obtain ⟨x, r⟩ := t
        rw [hp] at h1
        cases h1
        rw [HGV.out x (bs.drop at') (by rw [Option.bind_some]; exact hp)]
        exact hid rfl
    clear h1
    have q0 := HKX.out.cell (i := 0) rfl
    have q1 := HKX.out.cell (i := 1) rfl
    have q2 := HKX.out.cell (i := 2) rfl
    have q3 := HKX.out.cell (i := 3) rfl
    have q4 := HKX.out.cell (i := 4) rfl
    have q5 := HKX.out.cell (i := 5) rfl
    have q6 := HKX.out.cell (i := 6) rfl
    have q7 := HKX.out.cell (i := 7) rfl
    have r0 := HKS2.out.cell (i := 0) rfl
    have f0 := HKS2.out.frozen 0
    have r1 := HKS2.out.cell (i := 1) rfl
    have f1 := HKS2.out.frozen 1
    have r2 := HKS2.out.cell (i := 2) rfl
    have f2 := HKS2.out.frozen 2
    have r3 := HKS2.out.cell (i := 3) rfl
    have f3 := HKS2.out.frozen 3
    have r4 := HKS2.out.cell (i := 4) rfl
    have f4 := HKS2.out.frozen 4
    have r5 := HKS2.out.cell (i := 5) rfl
    have f5 := HKS2.out.frozen 5
    have r6 := HKS2.out.cell (i := 6) rfl
    have f6 := HKS2.out.frozen 6
    have r7 := HKS2.out.cell (i := 7) rfl
    have f7 := HKS2.out.frozen 7
    have b1 := HKB.out.cell (i := 1) rfl
    have b2 := HKB.out.cell (i := 2) rfl
    have HSA : Hid (∀ V, Turns (fun i => i = rs) U V → (Turns (fun i => i = rs) U V ∧ V.cell? ⟨xb, 0, none⟩ = some (.int .i64 oo) ∧ V.cell? ⟨xb, 1, none⟩ = some (.int .i64 ss) ∧ V.cell? ⟨xb, 2, none⟩ = some (.slice a XN c) ∧ V.cell? ⟨xb, 3, none⟩ = some (.string ct) ∧ V.cell? ⟨xb, 4, none⟩ = some (.int .i64 ep) ∧ V.cell? ⟨xb, 5, none⟩ = some (.string sk) ∧ V.cell? ⟨xb, 6, none⟩ = some (.int .i64 qy) ∧ V.cell? ⟨xb, 7, none⟩ = some (.bool cl) ∧ V.cell? ⟨rb, 1, none⟩ = some (.int .i64 (at' : Int)))) := fun V hV => by
      have h1 := hV.blk HKX.out (by have := HXS.out.1; omega)
      have h2 := hV.blk HKB.out (fun e => HNE.out.1 e.symm)
      exact ⟨hV, h1.cell rfl, h1.cell rfl, h1.cell rfl, h1.cell rfl, h1.cell rfl, h1.cell rfl, h1.cell rfl, h1.cell rfl, h2.cell rfl⟩
    have HTU : Hid (Turns (fun i => i = rs) U U) := Turns.refl _ _
    rw [HU.out] at q0 q1 q2 q3 q4 q5 q6 q7 r0 r1 r2 r3 r4 r5 r6 r7 f0 f1 f2 f3 f4 f5 f6 f7 b1 b2
    go_wp2
    rw [← HU.out, ← HXB.out]
    clear q0 q1 q2 q3 q4 q5 q6 q7 r0 r1 r2 r3 r4 r5 r6 r7 f0 f1 f2 f3 f4 f5 f6 f7 b1 b2
    have q0 := HKX.out.cell (i := 0) rfl
    have q1 := HKX.out.cell (i := 1) rfl
    have q2 := HKX.out.cell (i := 2) rfl
    have q3 := HKX.out.cell (i := 3) rfl
    have q4 := HKX.out.cell (i := 4) rfl
    have q5 := HKX.out.cell (i := 5) rfl
    have q6 := HKX.out.cell (i := 6) rfl
    have q7 := HKX.out.cell (i := 7) rfl
    have r0 := HKS2.out.cell (i := 0) rfl
    have f0 := HKS2.out.frozen 0
    have r1 := HKS2.out.cell (i := 1) rfl
    have f1 := HKS2.out.frozen 1
    have r2 := HKS2.out.cell (i := 2) rfl
    have f2 := HKS2.out.frozen 2
    have r3 := HKS2.out.cell (i := 3) rfl
    have f3 := HKS2.out.frozen 3
    have r4 := HKS2.out.cell (i := 4) rfl
    have f4 := HKS2.out.frozen 4
    have r5 := HKS2.out.cell (i := 5) rfl
    have f5 := HKS2.out.frozen 5
    have r6 := HKS2.out.cell (i := 6) rfl
    have f6 := HKS2.out.frozen 6
    have r7 := HKS2.out.cell (i := 7) rfl
    have f7 := HKS2.out.frozen 7
    have b1 := HKB.out.cell (i := 1) rfl
    have b2 := HKB.out.cell (i := 2) rfl
    go_region_held3 (fun V => Turns (fun i => i = rs) U V ∧ V.cell? ⟨xb, 0, none⟩ = some (.int .i64 oo) ∧ V.cell? ⟨xb, 1, none⟩ = some (.int .i64 ss) ∧ V.cell? ⟨xb, 2, none⟩ = some (.slice a XN c) ∧ V.cell? ⟨xb, 3, none⟩ = some (.string ct) ∧ V.cell? ⟨xb, 4, none⟩ = some (.int .i64 ep) ∧ V.cell? ⟨xb, 5, none⟩ = some (.string sk) ∧ V.cell? ⟨xb, 6, none⟩ = some (.int .i64 qy) ∧ V.cell? ⟨xb, 7, none⟩ = some (.bool cl) ∧ V.cell? ⟨rb, 1, none⟩ = some (.int .i64 (at' : Int)))
      (first | (refine HSA.out _ ?_; (repeat (first | with_reducible assumption | with_reducible exact HTU.out | with_reducible apply Turns.drew | with_reducible apply turns_rs)); done))
      (fail)
    all_goals
      obtain ⟨W9, hW9⟩ : ∃ V, V = ((((((((U.setCell ⟨rs, 0, none⟩ (.int .i64 oo)).setCell ⟨rs, 1, none⟩ (.int .i64 ss)).setCell ⟨rs, 2, none⟩ (.slice a XN c)).setCell ⟨rs, 3, none⟩ (.string ct)).setCell ⟨rs, 4, none⟩ (.int .i64 ep)).setCell ⟨rs, 5, none⟩ (.string sk)).setCell ⟨rs, 6, none⟩ (.int .i64 qy)).setCell ⟨rs, 7, none⟩ (.bool cl)).drew := ⟨_, rfl⟩
      have hk9 : Blk W9 rs 97 [.int .i64 oo, .int .i64 ss, .slice a XN c, .string ct, .int .i64 ep, .string sk, .int .i64 qy, .bool cl] := by rw [hW9]; exact ((((((((HKS2.out.set 0 _).set 1 _).set 2 _).set 3 _).set 4 _).set 5 _).set 6 _).set 7 _).drew
      have hst : Turns (fun i => i = rs) U W9 := by rw [hW9]; exact (((((((((Turns.refl (fun i => i = rs) U).setCell (p := ⟨rs, 0, none⟩) (.inl rfl) _).setCell (p := ⟨rs, 1, none⟩) (.inl rfl) _).setCell (p := ⟨rs, 2, none⟩) (.inl rfl) _).setCell (p := ⟨rs, 3, none⟩) (.inl rfl) _).setCell (p := ⟨rs, 4, none⟩) (.inl rfl) _).setCell (p := ⟨rs, 5, none⟩) (.inl rfl) _).setCell (p := ⟨rs, 6, none⟩) (.inl rfl) _).setCell (p := ⟨rs, 7, none⟩) (.inl rfl) _).drew
      have HN9 : Hid (HN W9 a c cut) := hnK hst HHV.out (fun b off e hne hh => by have h1 := HAB.out b off e hne; have h2 := HNE.out.2.2.2; omega)
      have HVOK : Hid (EvOk W9 ⟨⟨oo, ss, cut, ct, ep, sk, qy, cl⟩, a, c⟩) := ⟨HN9.out.hv, HSZ.out.1, HSZ.out.2.1, HSZ.out.2.2.2.1, HSZ.out.2.2.2.2.2, Nat.le_trans HSZ.out.2.2.1 (by decide), Nat.le_trans HSZ.out.2.2.2.2.1 (by decide)⟩
      have HBF : Hid (Below w.heap.size w W9) := HBX.out.trans (hst.below (fun i hh => by rw [hh]; exact HNE.out.2.1) HBX.out.size)
      have k0 := hk9.cell (i := 0) rfl
      have k1 := hk9.cell (i := 1) rfl
      have k2 := hk9.cell (i := 2) rfl
      have k3 := hk9.cell (i := 3) rfl
      have k4 := hk9.cell (i := 4) rfl
      have k5 := hk9.cell (i := 5) rfl
      have k6 := hk9.cell (i := 6) rfl
      have k7 := hk9.cell (i := 7) rfl
      clear hk9 hst
      go_wp2
      rw [← hW9]
      (try simp only [Exit.inBlock, Exit.then])
      refine bodyPost_ret (v := .tuple #[.agg #[.int .i64 oo, .int .i64 ss, .slice a XN c, .string ct, .int .i64 ep, .string sk, .int .i64 qy, .bool cl], .int .i64 (at' : Int), .int .i64 0]) ?_ rfl ⟨⟨⟨oo, ss, cut, ct, ep, sk, qy, cl⟩, a, c⟩, at', 0, by simp only [EvM.val]; rw [HXN.out], HVOK.out, HN9.out, fun b off e hne => by have h1 := HAB.out b off e hne; have h2 := HNE.out.2.2.1; omega, .inl ⟨rfl, HAT.out, HP.out⟩, HBF.out⟩
      rw [results_cellR3 rfl]
      go_simp
  · have HP : Hid (pEvent bs = none) := by
      unfold nxt at h1
      rw [Option.bind_some] at h1
      cases hp : pEvent bs with
      | none => exact hid rfl
      | some t => rw [hp] at h1; cases h1
    clear h1
    obtain ⟨U2, hU2⟩ : ∃ V, V = U.alloc (.cells #[.int .i64 0, .int .i64 0, .slice none 0 0, .string ⟨#[]⟩, .int .i64 0, .string ⟨#[]⟩, .int .i64 0, .bool false] 97) := ⟨_, rfl⟩
    obtain ⟨zb, hzb⟩ : ∃ q, q = u.heap.size + 1 := ⟨_, rfl⟩
    have hUs : U.heap.size = u.heap.size + 1 := by rw [HU.out]; simp
    have hbz : Below U.heap.size U U2 := by rw [hU2]; exact (Below.refl _ _).alloc (Nat.le_refl _) _
    have HKZ : Hid (Blk U2 zb 97 [.int .i64 0, .int .i64 0, .slice none 0 0, .string ⟨#[]⟩, .int .i64 0, .string ⟨#[]⟩, .int .i64 0, .bool false]) := by rw [hU2, hzb, ← hUs]; exact Blk.new U _ _
    have HKS3 := hid (HKS2.out.below hbz HKS2.out.lt)
    have HKB3 := hid (HKB.out.below hbz HKB.out.lt)
    have HBZ := hid (bt' HBX.out hbz)
    have HZS : Hid (rs < zb) := by have h1 := HKS2.out.lt; exact hid (by omega)
    have HSA : Hid (∀ V, Turns (fun i => i = rs) U2 V → (Turns (fun i => i = rs) U2 V ∧ V.cell? ⟨zb, 0, none⟩ = some (.int .i64 0) ∧ V.cell? ⟨zb, 1, none⟩ = some (.int .i64 0) ∧ V.cell? ⟨zb, 2, none⟩ = some (.slice none 0 0) ∧ V.cell? ⟨zb, 3, none⟩ = some (.string ⟨#[]⟩) ∧ V.cell? ⟨zb, 4, none⟩ = some (.int .i64 0) ∧ V.cell? ⟨zb, 5, none⟩ = some (.string ⟨#[]⟩) ∧ V.cell? ⟨zb, 6, none⟩ = some (.int .i64 0) ∧ V.cell? ⟨zb, 7, none⟩ = some (.bool false) ∧ V.cell? ⟨rb, 2, none⟩ = some (.int .i64 10))) := fun V hV => by
      have h1 := hV.blk HKZ.out (by have := HZS.out; omega)
      have h2 := hV.blk HKB3.out (fun e => HNE.out.1 e.symm)
      exact ⟨hV, h1.cell rfl, h1.cell rfl, h1.cell rfl, h1.cell rfl, h1.cell rfl, h1.cell rfl, h1.cell rfl, h1.cell rfl, h2.cell rfl⟩
    have HTU : Hid (Turns (fun i => i = rs) U2 U2) := Turns.refl _ _
    have HU2 := hid hU2
    have HZB := hid hzb
    have b2 := HKB.out.cell (i := 2) rfl
    rw [HU.out] at b2
    clear hU2 hzb hbz hUs
    go_wp2
    rw [← HU.out, ← HU2.out, ← HZB.out]
    clear b2
    have r0 := HKS3.out.cell (i := 0) rfl
    have f0 := HKS3.out.frozen 0
    have r1 := HKS3.out.cell (i := 1) rfl
    have f1 := HKS3.out.frozen 1
    have r2 := HKS3.out.cell (i := 2) rfl
    have f2 := HKS3.out.frozen 2
    have r3 := HKS3.out.cell (i := 3) rfl
    have f3 := HKS3.out.frozen 3
    have r4 := HKS3.out.cell (i := 4) rfl
    have f4 := HKS3.out.frozen 4
    have r5 := HKS3.out.cell (i := 5) rfl
    have f5 := HKS3.out.frozen 5
    have r6 := HKS3.out.cell (i := 6) rfl
    have f6 := HKS3.out.frozen 6
    have r7 := HKS3.out.cell (i := 7) rfl
    have f7 := HKS3.out.frozen 7
    go_region_held3 (fun V => Turns (fun i => i = rs) U2 V ∧ V.cell? ⟨zb, 0, none⟩ = some (.int .i64 0) ∧ V.cell? ⟨zb, 1, none⟩ = some (.int .i64 0) ∧ V.cell? ⟨zb, 2, none⟩ = some (.slice none 0 0) ∧ V.cell? ⟨zb, 3, none⟩ = some (.string ⟨#[]⟩) ∧ V.cell? ⟨zb, 4, none⟩ = some (.int .i64 0) ∧ V.cell? ⟨zb, 5, none⟩ = some (.string ⟨#[]⟩) ∧ V.cell? ⟨zb, 6, none⟩ = some (.int .i64 0) ∧ V.cell? ⟨zb, 7, none⟩ = some (.bool false) ∧ V.cell? ⟨rb, 2, none⟩ = some (.int .i64 10))
      (first | (refine HSA.out _ ?_; (repeat (first | with_reducible assumption | with_reducible exact HTU.out | with_reducible apply Turns.drew | with_reducible apply turns_rs)); done))
      (fail)
    all_goals
      obtain ⟨W9, hW9⟩ : ∃ V, V = ((((((((U2.setCell ⟨rs, 0, none⟩ (.int .i64 0)).setCell ⟨rs, 1, none⟩ (.int .i64 0)).setCell ⟨rs, 2, none⟩ (.slice none 0 0)).setCell ⟨rs, 3, none⟩ (.string ⟨#[]⟩)).setCell ⟨rs, 4, none⟩ (.int .i64 0)).setCell ⟨rs, 5, none⟩ (.string ⟨#[]⟩)).setCell ⟨rs, 6, none⟩ (.int .i64 0)).setCell ⟨rs, 7, none⟩ (.bool false)).drew := ⟨_, rfl⟩
      have hk9 : Blk W9 rs 97 [.int .i64 0, .int .i64 0, .slice none 0 0, .string ⟨#[]⟩, .int .i64 0, .string ⟨#[]⟩, .int .i64 0, .bool false] := by rw [hW9]; exact ((((((((HKS3.out.set 0 _).set 1 _).set 2 _).set 3 _).set 4 _).set 5 _).set 6 _).set 7 _).drew
      have hst : Turns (fun i => i = rs) U2 W9 := by rw [hW9]; exact (((((((((Turns.refl (fun i => i = rs) U2).setCell (p := ⟨rs, 0, none⟩) (.inl rfl) _).setCell (p := ⟨rs, 1, none⟩) (.inl rfl) _).setCell (p := ⟨rs, 2, none⟩) (.inl rfl) _).setCell (p := ⟨rs, 3, none⟩) (.inl rfl) _).setCell (p := ⟨rs, 4, none⟩) (.inl rfl) _).setCell (p := ⟨rs, 5, none⟩) (.inl rfl) _).setCell (p := ⟨rs, 6, none⟩) (.inl rfl) _).setCell (p := ⟨rs, 7, none⟩) (.inl rfl) _).drew
      have HBF : Hid (Below w.heap.size w W9) := HBZ.out.trans (hst.below (fun i hh => by rw [hh]; exact HNE.out.2.1) HBZ.out.size)
      have k0 := hk9.cell (i := 0) rfl
      have k1 := hk9.cell (i := 1) rfl
      have k2 := hk9.cell (i := 2) rfl
      have k3 := hk9.cell (i := 3) rfl
      have k4 := hk9.cell (i := 4) rfl
      have k5 := hk9.cell (i := 5) rfl
      have k6 := hk9.cell (i := 6) rfl
      have k7 := hk9.cell (i := 7) rfl
      clear hk9 hst
      go_wp2
      rw [← hW9]
      (try simp only [Exit.inBlock, Exit.then])
      refine bodyPost_ret (v := .tuple #[.agg #[.int .i64 0, .int .i64 0, .slice none 0 0, .string ⟨#[]⟩, .int .i64 0, .string ⟨#[]⟩, .int .i64 0, .bool false], .int .i64 0, .int .i64 10]) ?_ rfl ⟨⟨⟨0, 0, [], ⟨#[]⟩, 0, ⟨#[]⟩, 0, false⟩, none, 0⟩, 0, 10, rfl, ⟨hv_nilE _, i64_0K, i64_0K, i64_0K, i64_0K, Nat.zero_le _, Nat.zero_le _⟩, hn_nilE _, fun b off e => (by cases e), .inr ⟨rfl, HP.out⟩, HBF.out⟩
      rw [results_cellR3 rfl]
      go_simp
end Go.Proofs.YtfmnbehopdmahaaGreat
