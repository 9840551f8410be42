/-
  Package learner: Get, Missing.
-/
import Derived.Test.YtgghfmdciohinaaLrE
import Derived.Deep.OwnRows
namespace Go.Proofs.Ytgghfmdciohinaa
open Go.RowKit Go.Maps

/-- What Get answers. -/
def GetP (w : World) (f : Option En) (e : Ending) (w' : World) : Prop := ∃ bo cp, e = .returned (.tuple #[EnM.val ⟨f.getD noopEn, bo, cp⟩, .bool f.isSome]) ∧ HV w' bo cp (f.getD noopEn).cut ∧ Below w.heap.size w w'
theorem hv_nil (w : World) : HV w none 0 [] := ⟨⟨fun _ h => (by cases h), .inl rfl⟩, Nat.le_refl _, by simp⟩
theorem getP_none {w w' : World} (hb : Below w.heap.size w w') : GetP w none (.returned (.tuple #[.agg #[.bool true, .string ⟨#[]⟩, .string ⟨#[]⟩, .int .i64 0, .slice none 0 0], .bool false])) w' := ⟨none, 0, rfl, hv_nil _, hb⟩
set_option maxRecDepth 100000 in
set_option maxHeartbeats 1000000 in
theorem getR_nil (w : World) (s : Int) : Calls Try.prog 26 #[.pointer none, .int .i64 s] w (GetP w none) := by
  obtain ⟨W, hW⟩ : ∃ W, W = w.alloc (.cells #[.bool false, .string ⟨#[]⟩, .string ⟨#[]⟩, .int .i64 0, .slice none 0 0] 33) := ⟨_, rfl⟩
  have HB : Hid (Below w.heap.size w W) := by rw [hW]; exact (Below.refl _ _).alloc (Nat.le_refl _) _
  have HR : Hid (Blk W w.heap.size 33 [.bool false, .string ⟨#[]⟩, .string ⟨#[]⟩, .int .i64 0, .slice none 0 0]) := by rw [hW]; exact Blk.new w _ _
  have HW := hid hW
  have HCL := hid (closedR_nil W)
  obtain ⟨p, hp⟩ : ∃ q, q = w.heap.size := ⟨_, rfl⟩
  have hr7 := HR.out
  rw [← hp] at hr7
  have r0 := hr7.cell (i := 0) rfl
  have r1 := hr7.cell (i := 1) rfl
  have r2 := hr7.cell (i := 2) rfl
  have r3 := hr7.cell (i := 3) rfl
  have r4 := hr7.cell (i := 4) rfl
  have q0 := hr7.frozen 0
  have q1 := hr7.frozen 1
  have q2 := hr7.frozen 2
  have q3 := hr7.frozen 3
  have q4 := hr7.frozen 4
  obtain ⟨W3, hW3⟩ : ∃ V, V = st5 W p (.bool true) (.string ⟨#[]⟩) (.string ⟨#[]⟩) (.int .i64 0) (.slice none 0 0) := ⟨_, rfl⟩
  have hk9 : Blk W3 p 33 [.bool true, .string ⟨#[]⟩, .string ⟨#[]⟩, .int .i64 0, .slice none 0 0] := by rw [hW3]; exact st5_blk hr7 _ _ _ _ _
  have HBF : Hid (Below w.heap.size w W3) := by rw [hW3]; exact HB.out.trans ((st5_turns W p _ _ _ _ _).below (fun i hi => by omega) HB.out.size)
  have HP := hid hp
  have k0 := hk9.cell (i := 0) rfl
  have k1 := hk9.cell (i := 1) rfl
  have k2 := hk9.cell (i := 2) rfl
  have k3 := hk9.cell (i := 3) rfl
  have k4 := hk9.cell (i := 4) rfl
  clear hW hr7 hk9 hp
  go_enter Try.func26, Try.ntmps26
  go_wp2_with fail
  rw [← HW.out, ← HP.out]
  refine HCL.out.mono ?_
  rintro e w1 ⟨rfl, rfl⟩
  go_wp2
  unfold st5 at hW3
  rw [← hW3]
  (try simp only [Exit.inBlock, Exit.then])
  refine bodyPost_ret (v := .tuple #[.agg #[.bool true, .string ⟨#[]⟩, .string ⟨#[]⟩, .int .i64 0, .slice none 0 0], .bool false]) ?_ rfl (getP_none HBF.out)
  rw [results_cell_tmp rfl]
  go_simp
set_option maxRecDepth 100000 in
set_option maxHeartbeats 1000000 in
theorem LrAt.get {w : World} {p m pre z : Nat} {g : Lr} (h : LrAt w p m pre z g) (s : Int) (hs : I64 s) : Calls Try.prog 26 #[.pointer (some ⟨p, 0, none⟩), .int .i64 s] w (GetP w (g.f s)) := by
  obtain ⟨W, hW⟩ : ∃ W, W = w.alloc (.cells #[.bool false, .string ⟨#[]⟩, .string ⟨#[]⟩, .int .i64 0, .slice none 0 0] 33) := ⟨_, rfl⟩
  have HB : Hid (Below w.heap.size w W) := by rw [hW]; exact (Below.refl _ _).alloc (Nat.le_refl _) _
  have HR : Hid (Blk W w.heap.size 33 [.bool false, .string ⟨#[]⟩, .string ⟨#[]⟩, .int .i64 0, .slice none 0 0]) := by rw [hW]; exact Blk.new w _ _
  have HW := hid hW
  have HM1 := hid (h.toLrMid.below HB.out)
  have HCL := hid HM1.out.closed
  have HHAS := hid (HM1.out.has s hs)
  have HSI := hid hs
  have HPL := hid (h.toLrMid.lt p (.inl rfl))
  obtain ⟨pb, hp⟩ : ∃ q, q = w.heap.size := ⟨_, rfl⟩
  have HP := hid hp
  obtain ⟨S, D, hEM, hSf⟩ := HM1.out.map
  have HEM := hid hEM
  have HSF := hid hSf
  have HQS := hid (has_of h.ok hSf s)
  clear hW hp h hs hEM hSf
  cases hSs : S s with
  | none =>
    have HGS : Hid (g.f s = none) := by show _ = _; rw [← HSF.out s, hSs]; rfl
    rw [← HQS.out, hSs] at HHAS
    rw [HGS.out]
    simp only [Option.isSome_none] at HHAS
    clear hSs
    go_enter Try.func26, Try.ntmps26
    go_wp2_with fail
    rw [← HW.out, ← HP.out]
    refine HCL.out.mono ?_
    rintro e w1 ⟨rfl, rfl⟩
    go_wp2_with fail
    refine HHAS.out.mono ?_
    rintro e w2 ⟨rfl, hb2⟩
    have hr7 := HR.out.below hb2 HR.out.lt
    have HB2 := hid (bt' HB.out hb2)
    rw [← HP.out] at hr7
    have r0 := hr7.cell (i := 0) rfl
    have r1 := hr7.cell (i := 1) rfl
    have r2 := hr7.cell (i := 2) rfl
    have r3 := hr7.cell (i := 3) rfl
    have r4 := hr7.cell (i := 4) rfl
    have q0 := hr7.frozen 0
    have q1 := hr7.frozen 1
    have q2 := hr7.frozen 2
    have q3 := hr7.frozen 3
    have q4 := hr7.frozen 4
    obtain ⟨W3, hW3⟩ : ∃ V, V = st5 w2 pb (.bool true) (.string ⟨#[]⟩) (.string ⟨#[]⟩) (.int .i64 0) (.slice none 0 0) := ⟨_, rfl⟩
    have hk9 : Blk W3 pb 33 [.bool true, .string ⟨#[]⟩, .string ⟨#[]⟩, .int .i64 0, .slice none 0 0] := by rw [hW3]; exact st5_blk hr7 _ _ _ _ _
    have HBF : Hid (Below w.heap.size w W3) := by rw [hW3]; exact HB2.out.trans ((st5_turns w2 pb _ _ _ _ _).below (fun i hi => by rw [hi, HP.out]; exact Nat.le_refl _) HB2.out.size)
    have k0 := hk9.cell (i := 0) rfl
    have k1 := hk9.cell (i := 1) rfl
    have k2 := hk9.cell (i := 2) rfl
    have k3 := hk9.cell (i := 3) rfl
    have k4 := hk9.cell (i := 4) rfl
    clear hr7 hk9 hb2
    go_wp2
    unfold st5 at hW3
    rw [← hW3]
    (try simp only [Exit.inBlock, Exit.then])
    refine bodyPost_ret (v := .tuple #[.agg #[.bool true, .string ⟨#[]⟩, .string ⟨#[]⟩, .int .i64 0, .slice none 0 0], .bool false]) ?_ rfl (getP_none HBF.out)
    rw [results_cell_tmp rfl]
    go_simp
  | some y =>
    have HGS : Hid (g.f s = some y.e) := by show _ = _; rw [← HSF.out s, hSs]; rfl
    rw [← HQS.out, hSs] at HHAS
    rw [HGS.out]
    simp only [Option.isSome_some] at HHAS
    have HSS := hid hSs
    have HTD : Hid (∀ V, Below W.heap.size W V → Calls Try.prog 32 #[y.val] V (ToldEn V y)) := fun V hV => toldLr V y ((HEM.out.ok s y HSS.out).below hV).ok
    clear hSs
    obtain ⟨⟨np, tk, ct, ep, dp⟩, ao1, cap1⟩ := y
    obtain ⟨XN, HXN⟩ : ∃ m, Hid (dp.length = m) := ⟨_, hid rfl⟩
    simp only [EnM.val] at HTD
    rw [HXN.out] at HTD
    go_enter Try.func26, Try.ntmps26
    go_wp2_with fail
    rw [← HW.out, ← HP.out]
    refine HCL.out.mono ?_
    rintro e w1 ⟨rfl, rfl⟩
    go_wp2_with fail
    refine HHAS.out.mono ?_
    rintro e w2 ⟨rfl, hb2⟩
    have HB2 := hid hb2
    have hlk := (HEM.out.below hb2).look1 HSI.out
    rw [HSS.out] at hlk
    simp only [Option.map_some, Option.getD_some, EnM.val] at hlk
    rw [HXN.out] at hlk
    obtain ⟨a0, _, _⟩ := (HM1.out.below hb2).cells
    clear hb2
    go_wp2_with fail
    refine (HTD.out _ HB2.out).mono ?_
    rintro e w7 ⟨bo, cp, rfl, hyv, hyb, hb7⟩
    have HB7 := hid (bt' HB2.out hb7)
    have hr7 := HR.out.below HB7.out HR.out.lt
    have HYV := hid hyv
    have HYB := hid hyb
    rw [← HP.out] at hr7
    have r0 := hr7.cell (i := 0) rfl
    have r1 := hr7.cell (i := 1) rfl
    have r2 := hr7.cell (i := 2) rfl
    have r3 := hr7.cell (i := 3) rfl
    have r4 := hr7.cell (i := 4) rfl
    have q0 := hr7.frozen 0
    have q1 := hr7.frozen 1
    have q2 := hr7.frozen 2
    have q3 := hr7.frozen 3
    have q4 := hr7.frozen 4
    obtain ⟨W3, hW3⟩ : ∃ V, V = st5 w7 pb (.bool np) (.string tk) (.string ct) (.int .i64 ep) (.slice bo XN cp) := ⟨_, rfl⟩
    have hk9 : Blk W3 pb 33 [.bool np, .string tk, .string ct, .int .i64 ep, .slice bo XN cp] := by rw [hW3]; exact st5_blk hr7 _ _ _ _ _
    have hT3 : Turns (fun i => i = pb) w7 W3 := by rw [hW3]; exact st5_turns _ _ _ _ _ _ _
    have HBF : Hid (Below w.heap.size w W3) := (bt' HB.out HB7.out).trans (hT3.below (fun i hi => by rw [hi, HP.out]; exact Nat.le_refl _) (bt' HB.out HB7.out).size)
    have HV3 : Hid (HV W3 bo cp dp) := ⟨HYV.out.held.turned hT3 (fun b off e hne hf => by
      have h1 := (HYB.out b off e).1
      have h2 := HR.out.lt
      have h3 := HB2.out.size
      have h4 := HP.out
      omega), HYV.out.room, HYV.out.few⟩
    have k0 := hk9.cell (i := 0) rfl
    have k1 := hk9.cell (i := 1) rfl
    have k2 := hk9.cell (i := 2) rfl
    have k3 := hk9.cell (i := 3) rfl
    have k4 := hk9.cell (i := 4) rfl
    clear hr7 hk9 hyv hyb hb7 hT3
    simp only [EnM.val]
    rw [HXN.out]
    go_wp2
    unfold st5 at hW3
    rw [← hW3]
    (try simp only [Exit.inBlock, Exit.then])
    refine bodyPost_ret (v := .tuple #[.agg #[.bool np, .string tk, .string ct, .int .i64 ep, .slice bo XN cp], .bool true]) ?_ rfl ⟨bo, cp, ?_, HV3.out, HBF.out⟩
    · rw [results_cell_tmp rfl]
      go_simp
    · simp only [EnM.val, Option.getD_some, Option.isSome_some]
      rw [HXN.out]
end Go.Proofs.Ytgghfmdciohinaa
/-
  Package learner: Missing, Extras; a nil learner.
-/
namespace Go.Proofs.Ytgghfmdciohinaa
open Go.RowKit Go.Maps

theorem chooseR_nil (w : World) (s : Int) (x : EnM) : Calls Try.prog 7 #[.pointer none, .int .i64 s, x.val] w fun e w' => e = .returned (.int .i64 6) ∧ Below w.heap.size w w' := by
  obtain ⟨⟨np, tk, ct, ep, dp⟩, ao1, cap1⟩ := x
  simp only [EnM.val]
  have HCL := hid closedR_nil
  have HA := hid (fun o => (Below.refl w.heap.size w).alloc (Nat.le_refl _) o)
  go_enter Try.func7, Try.ntmps7
  go_wp2_with fail
  refine (HCL.out _).mono ?_
  rintro e w1 ⟨rfl, rfl⟩
  go_wp2
  go_ret
  exact ⟨rfl, HA.out _⟩
theorem prefixR_nil (w : World) : Calls Try.prog 13 #[.pointer none] w fun e w' => e = .returned (.int .i64 0) ∧ w' = w := by
  have HCL := hid (closedR_nil w)
  go_enter Try.func13, Try.ntmps13
  go_wp2_with fail
  refine HCL.out.mono ?_
  rintro e w1 ⟨rfl, rfl⟩
  go_wp2
  go_ret
  exact ⟨rfl, rfl⟩
theorem lenR_nil (w : World) : Calls Try.prog 16 #[.pointer none] w fun e w' => e = .returned (.int .i64 0) ∧ w' = w := by
  have HCL := hid (closedR_nil w)
  go_enter Try.func16, Try.ntmps16
  go_wp2_with fail
  refine HCL.out.mono ?_
  rintro e w1 ⟨rfl, rfl⟩
  go_wp2
  go_ret
  exact ⟨rfl, rfl⟩
theorem extrasR_nil (w : World) : Calls Try.prog 15 #[.pointer none] w fun e w' => e = .returned (.slice none 0 0) ∧ w' = w := by
  have HCL := hid (closedR_nil w)
  go_enter Try.func15, Try.ntmps15
  go_wp2_with fail
  refine HCL.out.mono ?_
  rintro e w1 ⟨rfl, rfl⟩
  go_wp2
  go_ret
  exact ⟨rfl, rfl⟩
theorem missingR_nil (w : World) (n : Int) : Calls Try.prog 14 #[.pointer none, .int .i64 n] w fun e w' => e = .returned (.slice none 0 0) ∧ w' = w := by
  have HCL := hid (closedR_nil w)
  go_enter Try.func14, Try.ntmps14
  go_wp2_with fail
  refine HCL.out.mono ?_
  rintro e w1 ⟨rfl, rfl⟩
  go_wp2
  go_ret
  exact ⟨rfl, rfl⟩
theorem forkR_nil (w : World) : Calls Try.prog 9 #[.pointer none] w fun e w' => e = .returned (.pointer none) ∧ w' = w := by
  have HCL := hid (closedR_nil w)
  go_enter Try.func9, Try.ntmps9
  go_wp2_with fail
  refine HCL.out.mono ?_
  rintro e w1 ⟨rfl, rfl⟩
  go_wp2
  go_ret
  exact ⟨rfl, rfl⟩
/-- What a call answers that makes a row of numbers. -/
def RowP (w : World) (l : List Int) (e : Ending) (w' : World) : Prop := ∃ ao cap, e = .returned (.slice ao l.length cap) ∧ HV w' ao cap l ∧ (∀ b off, ao = some ⟨b, off, none⟩ → w.heap.size ≤ b) ∧ Below w.heap.size w w'
theorem rowP_of {w w' : World} {v : Value} {l : List Int} (h : w'.ownsRow w.heap.size 3 1 v l.length (ints l)) (hx : ∀ x ∈ l, -9223372036854775808 ≤ x ∧ x ≤ 9223372036854775807) (hf : l.length ≤ 17592186044416) (hb : Below w.heap.size w w') : RowP w l (.returned v) w' := by
  have hlt := h.lt
  obtain ⟨ao, cap, rfl, hv⟩ := hv_of_own h hx hf
  exact ⟨ao, cap, rfl, hv, fun b off e => (hlt b (by rw [e]; rfl)).1, hb⟩
theorem LrMid.pre_end {w : World} {p m pre z : Nat} {g : Lr} (h : LrMid w p m pre z g) : pre ≤ z := by
  rcases Nat.eq_zero_or_pos pre with e | e
  · omega
  · have := h.fin.all _ (h.all ((pre : Int) - 1) (by omega) (by omega))
    omega
/-- While the gaps are told. -/
def Gapping (w : World) (pre : Nat) (g : Lr) (k : Nat) (v : Value) (wr : World) : Prop := wr.ownsRow w.heap.size 3 1 v (gapsL g.ks pre k).length (ints (gapsL g.ks pre k)) ∧ Below w.heap.size w wr
set_option maxRecDepth 100000 in
set_option maxHeartbeats 1000000 in
theorem LrAt.missing {w : World} {p m pre z : Nat} {g : Lr} (h : LrAt w p m pre z g) (most : Int) : Calls Try.prog 14 #[.pointer (some ⟨p, 0, none⟩), .int .i64 most] w (RowP w (missL g.ks pre z most)) := by
  have H := hid h.toLrMid
  have HCL := hid H.out.closed
  have HPE : Hid (pre ≤ z) := H.out.pre_end
  have HZ : Hid (z ≤ 2147483648) := H.out.end_le
  obtain ⟨_, c1, _⟩ := H.out.cells
  have HRNG : Hid (∀ k, k ≤ z - pre → ∀ x ∈ gapsL g.ks pre k, -9223372036854775808 ≤ x ∧ x ≤ 9223372036854775807) := fun k hk x hx => by
    have := (gaps_mem.1 hx).1
    have := HZ.out
    have := HPE.out
    omega
  clear h
  go_enter Try.func14, Try.ntmps14
  go_wp2_with fail
  refine HCL.out.mono ?_
  rintro e w1 ⟨rfl, rfl⟩
  go_wp2
  go_loopw [5, 6] (fun v i wr => ∃ k : Nat, i = .int .i64 ((pre : Int) + (k : Int)) ∧ Hid (k ≤ z - pre) ∧ Hid ((gapsL g.ks pre k).length ≤ (min most 4096).toNat) ∧ Hid (Gapping w1 pre g k v wr)) (fun _ i _ => z - (intOf i).toNat)
  case atStart => exact ⟨0, by simp, Nat.zero_le _, by rw [gaps_zero]; exact Nat.zero_le _, ⟨ownI_nil _ _, Below.refl _ _⟩⟩
  case round =>
    obtain ⟨k, rfl, HK, HL, HG⟩ := hrel
    have HM := hid (H.out.below HG.out.2)
    obtain ⟨_, _, d2⟩ := HM.out.cells
    obtain ⟨L, HLL⟩ : ∃ L, Hid ((gapsL g.ks pre k).length = L) := ⟨_, hid rfl⟩
    have hrow := HG.out.1
    obtain ⟨eo, cap, hv⟩ := own_sliceC hrow
    rw [HLL.out] at hv
    subst hv
    have HROW := hid hrow
    clear hrow
    by_cases h1 : pre + k < z
    · have h1' : decide (((pre : Int) + (k : Int)) < (z : Int)) = true := decide_eq_true (by omega)
      by_cases h2 : L < (min most 4096).toNat
      · have h2' : decide ((L : Int) < min most 4096) = true := decide_eq_true (by omega)
        have HH := hid (HM.out.has ((pre : Int) + (k : Int)) (by have := HZ.out; unfold I64; omega))
        have H1 := hid h1
        have H2 := hid h2
        have hzb : pre + k < 2147483648 := by have := HZ.out; omega
        clear h1 h2
        go_wp2_with fail
        refine HH.out.mono ?_
        rintro e w3 ⟨rfl, hb3⟩
        have HROW3 : Hid (w3.ownsRow w1.heap.size 3 1 (.slice eo L cap) (gapsL g.ks pre k).length (ints (gapsL g.ks pre k))) := (Turns.of_below (F := fun _ => False) hb3 (Nat.le_refl _)).row HROW.out (fun _ _ h => h)
        have HB3 := hid (bt' HG.out.2 hb3)
        clear hb3
        by_cases hm : ((pre : Int) + (k : Int)) ∈ g.ks
        · rw [decide_eq_true hm]
          have HGI := hid (gaps_in g.ks pre k (by rw [show ((pre + k : Nat) : Int) = (pre : Int) + k by omega]; exact hm))
          clear hm
          go_wp2
          go_roundw
          case rel => exact ⟨k + 1, by go_num, by have := H1.out; show _ ≤ _; omega, by rw [HGI.out]; exact HL, by rw [HGI.out]; exact HROW3.out, HB3.out⟩
          case measure => have := H1.out; simp [intOf]; omega
        · rw [decide_eq_false hm]
          have HGO := hid (gaps_out g.ks pre k (by rw [show ((pre + k : Nat) : Int) = (pre : Int) + k by omega]; exact hm))
          have HFEW : Hid ((gapsL g.ks pre k).length < 17592186044416) := by show _ < _; have := gaps_len g.ks pre k; have := HZ.out; have := HK.out; omega
          clear hm
          go_wp2_with (at_builtin; refine wpList_append_one w3 _ ((pre : Int) + (k : Int)) rfl rfl _ _ rfl w1.heap.size _ (gapsL g.ks pre k) rfl rfl HROW3.out HB3.out.size HFEW.out ?_; intro v' w5 hown hb5; have HO5 := hid hown; have HB5 := hid (HB3.out.trans hb5); clear hown hb5)
          go_roundw
          case rel => exact ⟨k + 1, by go_num, by have := H1.out; show _ ≤ _; omega, by rw [HGO.out, List.length_append]; have := H2.out; have := HLL.out; show _ ≤ _; simp; omega, by rw [HGO.out, show ((pre + k : Nat) : Int) = (pre : Int) + k by omega]; exact HO5.out, HB5.out⟩
          case measure => have := H1.out; simp [intOf]; omega
      · have h2' : decide ((L : Int) < min most 4096) = false := decide_eq_false (by omega)
        have HFIN : Hid (gapsL g.ks pre k = missL g.ks pre z most) := miss_end HK.out HL.out (.inr (by rw [HLL.out]; omega))
        have HFEW : Hid ((gapsL g.ks pre k).length ≤ 17592186044416) := by show _ ≤ _; have := gaps_len g.ks pre k; have := HZ.out; have := HK.out; omega
        clear h1 h2
        go_wp2
        go_ret
        rw [← HFIN.out]
        exact rowP_of HROW.out (HRNG.out k HK.out) HFEW.out HG.out.2
    · have h1' : decide (((pre : Int) + (k : Int)) < (z : Int)) = false := decide_eq_false (by omega)
      have HFIN : Hid (gapsL g.ks pre k = missL g.ks pre z most) := miss_end HK.out HL.out (.inl (by have := HK.out; omega))
      have HFEW : Hid ((gapsL g.ks pre k).length ≤ 17592186044416) := by show _ ≤ _; have := gaps_len g.ks pre k; have := HZ.out; have := HK.out; omega
      clear h1
      go_wp2
      go_ret
      rw [← HFIN.out]
      exact rowP_of HROW.out (HRNG.out k HK.out) HFEW.out HG.out.2
end Go.Proofs.Ytgghfmdciohinaa
