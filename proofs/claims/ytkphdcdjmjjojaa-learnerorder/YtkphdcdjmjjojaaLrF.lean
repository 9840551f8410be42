/-
  Package learner: Get, Missing.
-/
import Derived.Test.YtkphdcdjmjjojaaLrE
namespace Go.Proofs.Ytkphdcdjmjjojaa
open Go.RowKit Go.Maps

/-- What Get answers. -/
def GetP (w : World) (f : Option En) (e : Ending) (w' : World) : Prop := ∃ bo cp, e = .returned (.tuple #[EnM.val ⟨f.getD noopEn, bo, cp⟩, .bool f.isSome]) ∧ HV w' bo cp (f.getD noopEn).cut ∧ Below w.heap.size w w'
theorem hv_nil (w : World) : HV w none 0 [] := ⟨⟨fun _ h => (by cases h), .inl rfl⟩, Nat.le_refl _, by simp⟩
theorem getP_none {w w' : World} (hb : Below w.heap.size w w') : GetP w none (.returned (.tuple #[.agg #[.bool true, .string ⟨#[]⟩, .string ⟨#[]⟩, .int .i64 0, .slice none 0 0], .bool false])) w' := ⟨none, 0, rfl, hv_nil _, hb⟩
set_option maxRecDepth 100000 in
set_option maxHeartbeats 1000000 in
theorem getR_nil (w : World) (s : Int) : Calls Try.prog 17 #[.pointer none, .int .i64 s] w (GetP w none) := by
  obtain ⟨W, hW⟩ : ∃ W, W = w.alloc (.cells #[.bool false, .string ⟨#[]⟩, .string ⟨#[]⟩, .int .i64 0, .slice none 0 0] 33) := ⟨_, rfl⟩
  have HB : Hid (Below w.heap.size w W) := by rw [hW]; exact (Below.refl _ _).alloc (Nat.le_refl _) _
  have HR : Hid (Blk W w.heap.size 33 [.bool false, .string ⟨#[]⟩, .string ⟨#[]⟩, .int .i64 0, .slice none 0 0]) := by rw [hW]; exact Blk.new w _ _
  have HW := hid hW
  have HCL := hid (closedR_nil W)
  obtain ⟨p, hp⟩ : ∃ q, q = w.heap.size := ⟨_, rfl⟩
  have hr7 := HR.out
  rw [← hp] at hr7
  have r0 := hr7.cell (i := 0) rfl
  have r1 := hr7.cell (i := 1) rfl
  have r2 := hr7.cell (i := 2) rfl
  have r3 := hr7.cell (i := 3) rfl
  have r4 := hr7.cell (i := 4) rfl
  have q0 := hr7.frozen 0
  have q1 := hr7.frozen 1
  have q2 := hr7.frozen 2
  have q3 := hr7.frozen 3
  have q4 := hr7.frozen 4
  obtain ⟨W3, hW3⟩ : ∃ V, V = st5 W p (.bool true) (.string ⟨#[]⟩) (.string ⟨#[]⟩) (.int .i64 0) (.slice none 0 0) := ⟨_, rfl⟩
  have hk9 : Blk W3 p 33 [.bool true, .string ⟨#[]⟩, .string ⟨#[]⟩, .int .i64 0, .slice none 0 0] := by rw [hW3]; exact st5_blk hr7 _ _ _ _ _
  have HBF : Hid (Below w.heap.size w W3) := by rw [hW3]; exact HB.out.trans ((st5_turns W p _ _ _ _ _).below (fun i hi => by omega) HB.out.size)
  have HP := hid hp
  have k0 := hk9.cell (i := 0) rfl
  have k1 := hk9.cell (i := 1) rfl
  have k2 := hk9.cell (i := 2) rfl
  have k3 := hk9.cell (i := 3) rfl
  have k4 := hk9.cell (i := 4) rfl
  clear hW hr7 hk9 hp
  go_enter Try.func17, Try.ntmps17
  go_wp2_with fail
  rw [← HW.out, ← HP.out]
  refine HCL.out.mono ?_
  rintro e w1 ⟨rfl, rfl⟩
  go_wp2
  unfold st5 at hW3
  rw [← hW3]
  (try simp only [Exit.inBlock, Exit.then])
  refine bodyPost_ret (v := .tuple #[.agg #[.bool true, .string ⟨#[]⟩, .string ⟨#[]⟩, .int .i64 0, .slice none 0 0], .bool false]) ?_ rfl (getP_none HBF.out)
  rw [results_cell_tmp rfl]
  go_simp
set_option maxRecDepth 100000 in
set_option maxHeartbeats 1000000 in
theorem LrAt.get {w : World} {p m pre z : Nat} {g : Lr} (h : LrAt w p m pre z g) (s : Int) (hs : I64 s) : Calls Try.prog 17 #[.pointer (some ⟨p, 0, none⟩), .int .i64 s] w (GetP w (g.f s)) := by
  obtain ⟨W, hW⟩ : ∃ W, W = w.alloc (.cells #[.bool false, .string ⟨#[]⟩, .string ⟨#[]⟩, .int .i64 0, .slice none 0 0] 33) := ⟨_, rfl⟩
  have HB : Hid (Below w.heap.size w W) := by rw [hW]; exact (Below.refl _ _).alloc (Nat.le_refl _) _
  have HR : Hid (Blk W w.heap.size 33 [.bool false, .string ⟨#[]⟩, .string ⟨#[]⟩, .int .i64 0, .slice none 0 0]) := by rw [hW]; exact Blk.new w _ _
  have HW := hid hW
  have HM1 := hid (h.toLrMid.below HB.out)
  have HCL := hid HM1.out.closed
  have HHAS := hid (HM1.out.has s hs)
  have HSI := hid hs
  have HPL := hid (h.toLrMid.lt p (.inl rfl))
  obtain ⟨pb, hp⟩ : ∃ q, q = w.heap.size := ⟨_, rfl⟩
  have HP := hid hp
  obtain ⟨S, D, hEM, hSf⟩ := HM1.out.map
  have HEM := hid hEM
  have HSF := hid hSf
  have HQS := hid (has_of h.ok hSf s)
  clear hW hp h hs hEM hSf
  cases hSs : S s with
  | none =>
    have HGS : Hid (g.f s = none) := by show _ = _; rw [← HSF.out s, hSs]; rfl
    rw [← HQS.out, hSs] at HHAS
    rw [HGS.out]
    simp only [Option.isSome_none] at HHAS
    clear hSs
    go_enter Try.func17, Try.ntmps17
    go_wp2_with fail
    rw [← HW.out, ← HP.out]
    refine HCL.out.mono ?_
    rintro e w1 ⟨rfl, rfl⟩
    go_wp2_with fail
    refine HHAS.out.mono ?_
    rintro e w2 ⟨rfl, hb2⟩
    have hr7 := HR.out.below hb2 HR.out.lt
    have HB2 := hid (bt' HB.out hb2)
    rw [← HP.out] at hr7
    have r0 := hr7.cell (i := 0) rfl
    have r1 := hr7.cell (i := 1) rfl
    have r2 := hr7.cell (i := 2) rfl
    have r3 := hr7.cell (i := 3) rfl
    have r4 := hr7.cell (i := 4) rfl
    have q0 := hr7.frozen 0
    have q1 := hr7.frozen 1
    have q2 := hr7.frozen 2
    have q3 := hr7.frozen 3
    have q4 := hr7.frozen 4
    obtain ⟨W3, hW3⟩ : ∃ V, V = st5 w2 pb (.bool true) (.string ⟨#[]⟩) (.string ⟨#[]⟩) (.int .i64 0) (.slice none 0 0) := ⟨_, rfl⟩
    have hk9 : Blk W3 pb 33 [.bool true, .string ⟨#[]⟩, .string ⟨#[]⟩, .int .i64 0, .slice none 0 0] := by rw [hW3]; exact st5_blk hr7 _ _ _ _ _
    have HBF : Hid (Below w.heap.size w W3) := by rw [hW3]; exact HB2.out.trans ((st5_turns w2 pb _ _ _ _ _).below (fun i hi => by rw [hi, HP.out]; exact Nat.le_refl _) HB2.out.size)
    have k0 := hk9.cell (i := 0) rfl
    have k1 := hk9.cell (i := 1) rfl
    have k2 := hk9.cell (i := 2) rfl
    have k3 := hk9.cell (i := 3) rfl
    have k4 := hk9.cell (i := 4) rfl
    clear hr7 hk9 hb2
    go_wp2
    unfold st5 at hW3
    rw [← hW3]
    (try simp only [Exit.inBlock, Exit.then])
    refine bodyPost_ret (v := .tuple #[.agg #[.bool true, .string ⟨#[]⟩, .string ⟨#[]⟩, .int .i64 0, .slice none 0 0], .bool false]) ?_ rfl (getP_none HBF.out)
    rw [results_cell_tmp rfl]
    go_simp
  | some y =>
    have HGS : Hid (g.f s = some y.e) := by show _ = _; rw [← HSF.out s, hSs]; rfl
    rw [← HQS.out, hSs] at HHAS
    rw [HGS.out]
    simp only [Option.isSome_some] at HHAS
    have HSS := hid hSs
    have HTD : Hid (∀ V, Below W.heap.size W V → Calls Try.prog 36 #[y.val] V (ToldEn V y)) := fun V hV => toldLr V y ((HEM.out.ok s y HSS.out).below hV).ok
    clear hSs
    obtain ⟨⟨np, tk, ct, ep, dp⟩, ao1, cap1⟩ := y
    obtain ⟨XN, HXN⟩ : ∃ m, Hid (dp.length = m) := ⟨_, hid rfl⟩
    simp only [EnM.val] at HTD
    rw [HXN.out] at HTD
    go_enter Try.func17, Try.ntmps17
    go_wp2_with fail
    rw [← HW.out, ← HP.out]
    refine HCL.out.mono ?_
    rintro e w1 ⟨rfl, rfl⟩
    go_wp2_with fail
    refine HHAS.out.mono ?_
    rintro e w2 ⟨rfl, hb2⟩
    have HB2 := hid hb2
    have hlk := (HEM.out.below hb2).look1 HSI.out
    rw [HSS.out] at hlk
    simp only [Option.map_some, Option.getD_some, EnM.val] at hlk
    rw [HXN.out] at hlk
    obtain ⟨a0, _, _⟩ := (HM1.out.below hb2).cells
    clear hb2
    go_wp2_with fail
    refine (HTD.out _ HB2.out).mono ?_
    rintro e w7 ⟨bo, cp, rfl, hyv, hyb, hb7⟩
    have HB7 := hid (bt' HB2.out hb7)
    have hr7 := HR.out.below HB7.out HR.out.lt
    have HYV := hid hyv
    have HYB := hid hyb
    rw [← HP.out] at hr7
    have r0 := hr7.cell (i := 0) rfl
    have r1 := hr7.cell (i := 1) rfl
    have r2 := hr7.cell (i := 2) rfl
    have r3 := hr7.cell (i := 3) rfl
    have r4 := hr7.cell (i := 4) rfl
    have q0 := hr7.frozen 0
    have q1 := hr7.frozen 1
    have q2 := hr7.frozen 2
    have q3 := hr7.frozen 3
    have q4 := hr7.frozen 4
    obtain ⟨W3, hW3⟩ : ∃ V, V = st5 w7 pb (.bool np) (.string tk) (.string ct) (.int .i64 ep) (.slice bo XN cp) := ⟨_, rfl⟩
    have hk9 : Blk W3 pb 33 [.bool np, .string tk, .string ct, .int .i64 ep, .slice bo XN cp] := by rw [hW3]; exact st5_blk hr7 _ _ _ _ _
    have hT3 : Turns (fun i => i = pb) w7 W3 := by rw [hW3]; exact st5_turns _ _ _ _ _ _ _
    have HBF : Hid (Below w.heap.size w W3) := (bt' HB.out HB7.out).trans (hT3.below (fun i hi => by rw [hi, HP.out]; exact Nat.le_refl _) (bt' HB.out HB7.out).size)
    have HV3 : Hid (HV W3 bo cp dp) := ⟨HYV.out.held.turned hT3 (fun b off e hne hf => by
      have h1 := (HYB.out b off e).1
      have h2 := HR.out.lt
      have h3 := HB2.out.size
      have h4 := HP.out
      omega), HYV.out.room, HYV.out.few⟩
    have k0 := hk9.cell (i := 0) rfl
    have k1 := hk9.cell (i := 1) rfl
    have k2 := hk9.cell (i := 2) rfl
    have k3 := hk9.cell (i := 3) rfl
    have k4 := hk9.cell (i := 4) rfl
    clear hr7 hk9 hyv hyb hb7 hT3
    simp only [EnM.val]
    rw [HXN.out]
    go_wp2
    unfold st5 at hW3
    rw [← hW3]
    (try simp only [Exit.inBlock, Exit.then])
    refine bodyPost_ret (v := .tuple #[.agg #[.bool np, .string tk, .string ct, .int .i64 ep, .slice bo XN cp], .bool true]) ?_ rfl ⟨bo, cp, ?_, HV3.out, HBF.out⟩
    · rw [results_cell_tmp rfl]
      go_simp
    · simp only [EnM.val, Option.getD_some, Option.isSome_some]
      rw [HXN.out]
end Go.Proofs.Ytkphdcdjmjjojaa
