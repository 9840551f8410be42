/-
  Package learner: Choose.
-/
import Derived.Test.YtgghfmdciohinaaLrD
namespace Go.Proofs.Ytgghfmdciohinaa
open Go.RowKit Go.Maps

set_option maxRecDepth 1000000 in
set_option maxHeartbeats 2000000 in
theorem LrAt.choose_new {w : World} {p m pre z : Nat} {g : Lr} (h : LrAt w p m pre z g) (s : Int) (hs : I64 s) (x : EnM) (hx : EnOk w x) {S : Int → Option EnM} {D : DataW Value} (hEM0 : EnMap w m S g.ks.length D) (hSf : ∀ t, (S t).map (·.e) = g.f t) (hr : 0 ≤ s ∧ s ≤ 2147483647 ∧ RightEn x.e = true) (hSs : S s = none) : Calls Try.prog 7 #[.pointer (some ⟨p, 0, none⟩), .int .i64 s, x.val] w (ChooseP w p m g s x.e) := by
  have HR : Hid (RightEn x.e = true) := hr.2.2
  have h0 : ¬ s < 0 := by omega
  have h1 : ¬ 2147483647 < s := by omega
  have H := hid h
  have HSI := hid hs
  have HX0 := hid hx
  obtain ⟨W, hW⟩ : ∃ W, W = w.alloc (.cells x.cells.toArray 33) := ⟨_, rfl⟩
  have HB : Hid (Below w.heap.size w W) := by rw [hW]; exact (Below.refl _ _).alloc (Nat.le_refl _) _
  have HK : Hid (Blk W w.heap.size 33 x.cells) := by rw [hW]; exact Blk.new w _ _
  have HW := hid hW
  have HCL := hid (h.toLrMid.below HB.out).closed
  have HMAY := hid (mayEntryLr W x (hx.below HB.out))
  have HPL := hid (h.toLrMid.lt)
  obtain ⟨E, HE⟩ : ∃ E, Hid (x.e = E) := ⟨_, hid rfl⟩
  obtain ⟨XN, HXN⟩ : ∃ m, Hid (x.e.cut.length = m) := ⟨_, hid rfl⟩
  have HEM0 := hid hEM0
  have HSF := hid hSf
  have HSS := hid hSs
  rw [HE.out] at HMAY HR ⊢
  rw [HR.out] at HMAY
  clear hEM0 hSf hSs hr
  obtain ⟨⟨np, tk, ct, ep, dp⟩, ao1, cap1⟩ := x
  simp only [EnM.val, EnM.cells] at HW HK HMAY HXN ⊢
  rw [HXN.out] at HW HK HMAY ⊢
  clear h hx hW hs
  have c0 := HK.out.cell (i := 0) rfl
  have c1 := HK.out.cell (i := 1) rfl
  have c2 := HK.out.cell (i := 2) rfl
  have c3 := HK.out.cell (i := 3) rfl
  have c4 := HK.out.cell (i := 4) rfl
  obtain ⟨pb, hpb⟩ : ∃ q, q = w.heap.size := ⟨_, rfl⟩
  rw [← hpb] at c0 c1 c2 c3 c4
  have HPB := hid hpb
  clear hpb
  go_enter Try.func7, Try.ntmps7
  go_wp2_with fail
  rw [← HW.out, ← HPB.out]
  refine HCL.out.mono ?_
  rintro e w1 ⟨rfl, rfl⟩
  go_wp2_with fail
  refine HMAY.out.mono ?_
  rintro e w2 ⟨rfl, hb2⟩
  have HB2 := hid (bt' HB.out hb2)
  have HK2 := hid (HK.out.below hb2 HK.out.lt)
  have HM2 := hid (H.out.toLrMid.below HB2.out)
  obtain ⟨a0, _, a2⟩ := HM2.out.cells
  have hEM := HEM0.out.below HB2.out
  have HEM := hid hEM
  have hlk := hEM.look HSI.out
  have k0 := HK2.out.cell (i := 0) rfl
  have k1 := HK2.out.cell (i := 1) rfl
  have k2 := HK2.out.cell (i := 2) rfl
  have k3 := HK2.out.cell (i := 3) rfl
  have k4 := HK2.out.cell (i := 4) rfl
  rw [← HPB.out] at k0 k1 k2 k3 k4
  clear c0 c1 c2 c3 c4 hb2
  have HGS : Hid (g.f s = none) := by show _ = _; rw [← HSF.out s, HSS.out]; rfl
  rw [HSS.out] at hlk
  simp only [Option.map_none, Option.getD_none, Option.isSome_none, zeroEn] at hlk
  clear hEM
  obtain ⟨W3, hW3⟩ : ∃ V, V = w2.alloc (.cells #[.bool false, .string ⟨#[]⟩, .string ⟨#[]⟩, .int .i64 0, .slice none 0 0] 33) := ⟨_, rfl⟩
  have HA3 : Hid (Below w2.heap.size w2 W3) := by rw [hW3]; exact (Below.refl _ _).alloc (Nat.le_refl _) _
  have HB3 := hid (bt' HB2.out HA3.out)
  have HEM3 := hid (HEM.out.below HA3.out)
  have HM3 := hid (HM2.out.below HA3.out)
  have HK3 := hid (HK2.out.below HA3.out HK2.out.lt)
  have HW3 := hid hW3
  have hlen := fun ty => HEM3.out.map.len Try.underlying47 ty
  rw [HEM3.out.cnt] at hlen
  have hk3 := HK3.out
  rw [← HPB.out] at hk3
  have b0 := HM3.out.cells.1
  rw [hW3] at hlen hk3 b0
  have j0 := hk3.cell (i := 0) rfl
  have j1 := hk3.cell (i := 1) rfl
  have j2 := hk3.cell (i := 2) rfl
  have j3 := hk3.cell (i := 3) rfl
  have j4 := hk3.cell (i := 4) rfl
  clear hW3 hk3 k0 k1 k2 k3 k4
  obtain ⟨N, HN⟩ : ∃ N, Hid (g.ks.length = N) := ⟨_, hid rfl⟩
  rw [HN.out] at hlen
  by_cases h4 : 65536 ≤ N
  · have h4' : (65536 : Int) ≤ (N : Int) := by omega
    have HC : Hid (chooseC g s E = 2) := by show _ = _; unfold chooseC; rw [if_pos ⟨by omega, by omega, HR.out⟩, HGS.out, HN.out]; simp; omega
    clear h4
    go_wp2
    rw [← HW3.out]
    go_ret
    exact chooseP_no H.out HB3.out HC.out (by decide)
  have h4' : decide ((65536 : Int) ≤ (N : Int)) = false := decide_eq_false (by omega)
  have H4 : Hid (g.ks.length < 65536) := by rw [HN.out]; show _ < _; omega
  have HC : Hid (chooseC g s E = 0) := by show _ = _; unfold chooseC; rw [if_pos ⟨by omega, by omega, HR.out⟩, HGS.out, if_pos H4.out]
  clear h4
  go_wp2
  rw [← HW3.out]
  have HKP : Hid (∀ U, ScL W3 U → Calls Try.prog 20 #[.agg #[.bool np, .string tk, .string ct, .int .i64 ep, .slice ao1 XN cap1]] U fun e w' => ∃ bo cp, e = .returned (.agg #[.bool np, .string tk, .string ct, .int .i64 ep, .slice bo XN cp]) ∧ Hid (EnKeep w' ⟨⟨np, tk, ct, ep, dp⟩, bo, cp⟩) ∧ ScL W3 w') := fun U hU => by
    have hsz := right_sizes HR.out
    rw [← HE.out] at hsz
    have := keptLr U ⟨⟨np, tk, ct, ep, dp⟩, ao1, cap1⟩ (HX0.out.below (bt' HB3.out hU.out)) hsz.1 hsz.2
    simp only [EnM.val] at this
    rw [HXN.out] at this
    refine this.mono ?_
    rintro e w' ⟨bo, cp, rfl, hk, hb⟩
    simp only [EnM.val] 
    rw [HXN.out]
    exact ⟨bo, cp, rfl, hk, hU.go hb⟩
  have HPUT : Hid (∀ U bo cp, Hid (EnKeep U ⟨⟨np, tk, ct, ep, dp⟩, bo, cp⟩) → ScL W3 U → ∃ w6, (Instr.mapUpdate 47 (.map (some m)) (.int .i64 s) (.agg #[.bool np, .string tk, .string ct, .int .i64 ep, .slice bo XN cp])).run Try.prog U = .ok () w6 ∧ Hid ((∃ D', EnMap w6 m (updE S s ⟨⟨np, tk, ct, ep, dp⟩, bo, cp⟩) (g.ks.length + 1) D') ∧ Blk w6 p 49 [.map (some m), .int .i64 pre, .int .i64 z]) ∧ Turns (fun i => i = m) W3 w6) := fun U bo cp hk hU => by
    obtain ⟨w6, h1, h2, h3⟩ := (HEM3.out.below hU.out).put (by have := H4.out; unfold maxLen; omega) HSI.out ⟨⟨np, tk, ct, ep, dp⟩, bo, cp⟩ hk.out HSS.out
    simp only [EnM.val] at h1
    rw [HXN.out] at h1
    exact ⟨w6, h1, ⟨h2, h3.blk (HM3.out.blk.below hU.out HM3.out.blk.lt) HM3.out.pne⟩, (Turns.of_below (F := fun i => i = m) hU.out (Nat.le_refl _)).trans h3 (fun i hi => .inl hi)⟩
  have HTS : Hid (∀ U, ScL W3 U → Turns (fun i => i = m) W3 U) := fun U hU => Turns.of_below hU.out (Nat.le_refl _)
  have HT0 : Hid (Turns (fun i => i = m) W3 W3) := Turns.refl _ _
  have HSA : Hid (∀ U, Turns (fun i => i = m) W3 U → (Turns (fun i => i = m) W3 U ∧ U.cell? ⟨p, 0, none⟩ = some (.map (some m)) ∧ U.cell? ⟨pb, 0, none⟩ = some (.bool np) ∧ U.cell? ⟨pb, 1, none⟩ = some (.string tk) ∧ U.cell? ⟨pb, 2, none⟩ = some (.string ct) ∧ U.cell? ⟨pb, 3, none⟩ = some (.int .i64 ep) ∧ U.cell? ⟨pb, 4, none⟩ = some (.slice ao1 XN cap1))) := fun U hU => by
    have hb := hU.blk HK3.out (fun e => by have := HPL.out m (.inr rfl); omega)
    rw [← HPB.out] at hb
    have hp := hU.blk HM3.out.blk HM3.out.pne
    exact ⟨hU, hp.cell rfl, hb.cell rfl, hb.cell rfl, hb.cell rfl, hb.cell rfl, hb.cell rfl⟩
  clear hlen b0 j0 j1 j2 j3 j4
  go_region_held3 (fun U => Turns (fun i => i = m) W3 U ∧ U.cell? ⟨p, 0, none⟩ = some (.map (some m)) ∧ U.cell? ⟨pb, 0, none⟩ = some (.bool np) ∧ U.cell? ⟨pb, 1, none⟩ = some (.string tk) ∧ U.cell? ⟨pb, 2, none⟩ = some (.string ct) ∧ U.cell? ⟨pb, 3, none⟩ = some (.int .i64 ep) ∧ U.cell? ⟨pb, 4, none⟩ = some (.slice ao1 XN cap1))
    (first | (refine ⟨?_, ?_, ?_, ?_, ?_, ?_, ?_⟩ <;> assumption) | (refine HSA.out _ ?_; (repeat (first | assumption | exact HT0.out | apply Turns.drew))))
    (first
      | (go_at_call 20; with_reducible refine (HKP.out _ (by (repeat (first | assumption | exact ScL.start _ | apply ScL.dr)))).mono ?_; rintro e w5 ⟨bo, cp, rfl, HKY, hs5⟩; have hT5 := HTS.out _ hs5; obtain ⟨w6, hrun, HF6, hT6⟩ := HPUT.out w5 bo cp HKY hs5))
  all_goals
    obtain ⟨⟨D6, hE6⟩, hB6⟩ := HF6.out
    obtain ⟨n, rfl⟩ : ∃ n : Nat, s = n := ⟨s.toNat, by omega⟩
    have HN7 := hid (HM3.out.mid (s := n) (x := ⟨⟨np, tk, ct, ep, dp⟩, bo, cp⟩) (by omega) (by rw [HE.out]; exact HR.out) HGS.out H4.out HSF.out hE6 hB6)
    have HT6 : Hid (Turns (FootR p m) w w6) := (Turns.of_below (F := FootR p m) HB3.out (Nat.le_refl _)).trans hT6 (fun i hi => .inl (.inr hi))
    have m2 := hB6.cell (i := 2) rfl
    have n2 := hB6.frozen 2
    have HZ : Hid (z ≤ 2147483648) := H.out.toLrMid.end_le
    clear hrun hE6 hB6 hT6
    go_wp2_with fail
    have hmx : ((max z (n + 1) : Nat) : Int) = max (z : Int) ((n : Int) + 1) := by omega
    rw [hmx] at HN7
    have HGR := hid HN7.out.grow
    have HT7 : Hid (Turns (FootR p m) w (w6.setCell ⟨p, 2, none⟩ (.int .i64 (max (z : Int) ((n : Int) + 1))))) := HT6.out.setCell (p := ⟨p, 2, none⟩) (.inl (.inl rfl)) _
    clear hmx
    refine HGR.out.mono ?_
    rintro e w8 ⟨rfl, pre', hat, ht8⟩
    have HFIN : Hid (ChooseP w p m g n E (.returned (.int .i64 0)) w8) := by
      refine ⟨by rw [HC.out], pre', max z (n + 1), ?_, HT7.out.trans ht8 (fun i hi => .inl hi)⟩
      unfold chooseL
      rw [if_pos HC.out, ← HE.out]
      exact hat
    clear hat ht8 HGR HN7
    go_wp2
    go_ret
    exact HFIN.out
theorem LrAt.choose {w : World} {p m pre z : Nat} {g : Lr} (h : LrAt w p m pre z g) (s : Int) (hs : I64 s) (x : EnM) (hx : EnOk w x) : Calls Try.prog 7 #[.pointer (some ⟨p, 0, none⟩), .int .i64 s, x.val] w (ChooseP w p m g s x.e) := by
  by_cases hr : 0 ≤ s ∧ s ≤ 2147483647 ∧ RightEn x.e = true
  · obtain ⟨S, D, hEM, hSf⟩ := h.map
    cases hSs : S s with
    | some y => exact h.choose_has s hs x hx hEM hSf hr hSs
    | none => exact h.choose_new s hs x hx hEM hSf hr hSs
  · exact h.choose_arg s hs x hx hr
end Go.Proofs.Ytgghfmdciohinaa
