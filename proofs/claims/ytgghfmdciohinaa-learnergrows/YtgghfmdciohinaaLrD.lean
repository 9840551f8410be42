/-
  Package learner: grow, Choose.
-/
import Derived.Test.YtgghfmdciohinaaLrB
import Derived.Test.YtgghfmdciohinaaLrC
namespace Go.Proofs.Ytgghfmdciohinaa
open Go.RowKit Go.Maps

def preOfW (p : Nat) (w : World) : Nat := match w.cell? ⟨p, 1, none⟩ with
  | some (.int _ x) => x.toNat
  | _ => 0
theorem preOfW_eq {w : World} {p m pre z : Nat} {g : Lr} (h : LrMid w p m pre z g) : preOfW p w = pre := by
  unfold preOfW
  rw [h.cells.2.1]
  simp
theorem LrMid.step {w : World} {p m pre z : Nat} {g : Lr} (h : LrMid w p m pre z g) (hm : (pre : Int) ∈ g.ks) : LrMid (w.setCell ⟨p, 1, none⟩ (.int .i64 ((pre + 1 : Nat) : Int))) p m (pre + 1) z g := by
  obtain ⟨S, D, h1, h2⟩ := h.map
  have ht : Turns (fun i => i = p) w (w.setCell ⟨p, 1, none⟩ (.int .i64 ((pre + 1 : Nat) : Int))) := (Turns.refl (fun i => i = p) w).setCell (p := ⟨p, 1, none⟩) (.inl rfl) _
  refine ⟨h.ok, ?_, fun s h0 hs => ?_, h.fin, S, D, h1.turned ht (fun e => h.pne e.symm) (noNum_blk h.blk (by decide)), h2⟩
  · have := h.blk.set 1 (.int .i64 ((pre + 1 : Nat) : Int))
    exact this
  · by_cases e : s = pre
    · rw [e]; exact hm
    · exact h.all s h0 (by omega)
/-- While the prefix grows. -/
def Growing (w : World) (p m z : Nat) (g : Lr) (wr : World) : Prop := ∃ j, LrMid wr p m j z g ∧ Turns (FootR p m) w wr
set_option maxRecDepth 100000 in
set_option maxHeartbeats 1000000 in
theorem LrMid.grow {w : World} {p m pre z : Nat} {g : Lr} (h : LrMid w p m pre z g) : Calls Try.prog 21 #[.pointer (some ⟨p, 0, none⟩)] w fun e w' => e = .returned (.tuple #[]) ∧ ∃ pre', LrAt w' p m pre' z g ∧ Turns (FootR p m) w w' := by
  have H := hid h
  clear h
  go_enter Try.func21, Try.ntmps21
  go_wp2
  go_loopw [] (fun wr => Hid (Growing w p m z g wr)) (fun wr => z - preOfW p wr)
  case atStart => exact ⟨_, H.out, Turns.refl _ _⟩
  case round =>
    obtain ⟨j, hj, ht⟩ := hrel.out
    have HJ := hid hj
    have HT := hid ht
    obtain ⟨_, c1, _⟩ := hj.cells
    have HHAS := hid (hj.has j (by have := hj.pre_le; have := hj.ok.few; unfold I64; omega))
    have hjl : j ≤ 65536 := by have := hj.pre_le; have := hj.ok.few; omega
    clear hj ht hrel
    go_wp2_with fail
    refine HHAS.out.mono ?_
    rintro e w2 ⟨rfl, hb⟩
    have HJ2 := hid (HJ.out.below hb)
    have HT2 : Hid (Turns (FootR p m) w w2) := HT.out.trans (Turns.of_below (F := fun _ => False) hb (Nat.le_refl _)) (fun _ h => h.elim)
    obtain ⟨_, d1, _⟩ := HJ2.out.cells
    have f1 := HJ2.out.blk.frozen 1
    have HLT : Hid (∀ hm : (j : Int) ∈ g.ks, j < z) := fun hm => by have := HJ.out.fin.all _ hm; omega
    have HPJ : Hid (preOfW p wr = j) := preOfW_eq HJ.out
    by_cases hm : (j : Int) ∈ g.ks
    · rw [decide_eq_true hm]
      have HM := hid hm
      clear hb c1 hm
      have HN3 := hid (HJ2.out.step HM.out)
      have HT3 : Hid (Turns (FootR p m) w (w2.setCell ⟨p, 1, none⟩ (.int .i64 ((j + 1 : Nat) : Int)))) := HT2.out.setCell (p := ⟨p, 1, none⟩) (.inl (.inl rfl)) _
      have HPJ3 : Hid (preOfW p (w2.setCell ⟨p, 1, none⟩ (.int .i64 ((j + 1 : Nat) : Int))) = j + 1) := preOfW_eq HN3.out
      rw [show ((j + 1 : Nat) : Int) = (j : Int) + 1 by omega] at HN3 HT3 HPJ3
      go_wp2
      go_roundw
      case rel => exact ⟨_, HN3.out, HT3.out⟩
      case measure =>
        have := HLT.out HM.out
        rw [HPJ3.out, HPJ.out]
        omega
    · rw [decide_eq_false hm]
      have HM := hid hm
      clear hb c1 hm
      go_wp2
      (try simp only [Exit.inBlock, Exit.then])
      refine bodyPost_end (results_none rfl _ _ _) rfl ?_
      exact ⟨rfl, _, ⟨HJ2.out, HM.out⟩, HT2.out⟩
/-- What Choose leaves. -/
def ChooseP (w : World) (p m : Nat) (g : Lr) (s : Int) (x : En) (e : Ending) (w' : World) : Prop := e = .returned (.int .i64 (chooseC g s x)) ∧ ∃ pre z, LrAt w' p m pre z (chooseL g s x) ∧ Turns (FootR p m) w w'
theorem chooseP_no {w w' : World} {p m pre z : Nat} {g : Lr} {s c : Int} {x : En} (h : LrAt w p m pre z g) (hb : Below w.heap.size w w') (hc : chooseC g s x = c) (hne : c ≠ 0) : ChooseP w p m g s x (.returned (.int .i64 c)) w' := by
  refine ⟨by rw [hc], pre, z, ?_, Turns.of_below hb (Nat.le_refl _)⟩
  unfold chooseL
  rw [if_neg (by rw [hc]; exact hne)]
  exact h.below hb
theorem right_sizes {e : En} (h : RightEn e = true) : e.tok.size ≤ 140737488355328 ∧ e.cart.size ≤ 140737488355328 := by
  unfold RightEn at h
  split at h
  · unfold EmptySe at h
    simp only [Bool.and_eq_true, decide_eq_true_eq] at h
    omega
  · unfold RightSe at h
    simp only [Bool.and_eq_true] at h
    have := nameS_sizeC h.1
    have := nameS_sizeC h.2.1
    omega
/-- The map has the entry, the end is as it was. -/
theorem LrMid.mid {w w6 : World} {p m pre z : Nat} {g : Lr} (h : LrMid w p m pre z g) {s : Nat} {x : EnM} (hs : s ≤ 2147483647) (hr : RightEn x.e = true) (hn : g.f s = none) (hf : g.ks.length < 65536) {S : Int → Option EnM} {D : DataW Value} (hS : ∀ t, (S t).map (·.e) = g.f t)
    (hm : EnMap w6 m (updE S s x) (g.ks.length + 1) D) (hb : Blk w6 p 49 [.map (some m), .int .i64 pre, .int .i64 z]) : LrMid (w6.setCell ⟨p, 2, none⟩ (.int .i64 ((max z (s + 1) : Nat) : Int))) p m pre (max z (s + 1)) (putL g s x.e) := by
  have hns : (s : Int) ∉ g.ks := fun hm => by have := (h.ok.has s).1 hm; rw [hn] at this; cases this
  have ht : Turns (fun i => i = p) w6 (w6.setCell ⟨p, 2, none⟩ (.int .i64 ((max z (s + 1) : Nat) : Int))) := (Turns.refl (fun i => i = p) w6).setCell (p := ⟨p, 2, none⟩) (.inl rfl) _
  refine ⟨putL_ok h.ok (by omega) (by omega) hr hn hf, hb.set 2 _, fun t h0 h1 => (putS_mem _ _ _).2 (.inl (h.all t h0 h1)), h.fin.put, updE S s x, D, ?_, fun t => ?_⟩
  · have e : (putL g s x.e).ks.length = g.ks.length + 1 := putS_new_len hns
    rw [e]
    exact hm.turned ht (fun e => h.pne e.symm) (noNum_blk hb (by decide))
  · unfold updE putL
    dsimp only
    by_cases e : t = s
    · rw [if_pos e, if_pos e]; rfl
    · rw [if_neg e, if_neg e]; exact hS t
set_option maxRecDepth 1000000 in
set_option maxHeartbeats 2000000 in
theorem LrAt.choose_arg {w : World} {p m pre z : Nat} {g : Lr} (h : LrAt w p m pre z g) (s : Int) (hs : I64 s) (x : EnM) (hx : EnOk w x) (hr : ¬ (0 ≤ s ∧ s ≤ 2147483647 ∧ RightEn x.e = true)) : Calls Try.prog 7 #[.pointer (some ⟨p, 0, none⟩), .int .i64 s, x.val] w (ChooseP w p m g s x.e) := by
  have HC : Hid (chooseC g s x.e = 1) := by show _ = _; unfold chooseC; rw [if_neg hr]
  have H := hid h
  have HSI := hid hs
  have HX0 := hid hx
  obtain ⟨W, hW⟩ : ∃ W, W = w.alloc (.cells x.cells.toArray 33) := ⟨_, rfl⟩
  have HB : Hid (Below w.heap.size w W) := by rw [hW]; exact (Below.refl _ _).alloc (Nat.le_refl _) _
  have HK : Hid (Blk W w.heap.size 33 x.cells) := by rw [hW]; exact Blk.new w _ _
  have HW := hid hW
  have HCL := hid (h.toLrMid.below HB.out).closed
  have HMAY := hid (mayEntryLr W x (hx.below HB.out))
  have HPL := hid (h.toLrMid.lt)
  obtain ⟨E, HE⟩ : ∃ E, Hid (x.e = E) := ⟨_, hid rfl⟩
  obtain ⟨XN, HXN⟩ : ∃ m, Hid (x.e.cut.length = m) := ⟨_, hid rfl⟩
  rw [HE.out] at HMAY HC hr ⊢
  obtain ⟨⟨np, tk, ct, ep, dp⟩, ao1, cap1⟩ := x
  simp only [EnM.val, EnM.cells] at HW HK HMAY HXN ⊢
  rw [HXN.out] at HW HK HMAY ⊢
  clear h hx hW hs
  by_cases h0 : s < 0
  · go_enter Try.func7, Try.ntmps7
    go_wp2_with fail
    rw [← HW.out]
    refine HCL.out.mono ?_
    rintro e w1 ⟨rfl, rfl⟩
    go_wp2
    go_ret
    exact chooseP_no H.out HB.out HC.out (by decide)
  by_cases h1 : 2147483647 < s
  · go_enter Try.func7, Try.ntmps7
    go_wp2_with fail
    rw [← HW.out]
    refine HCL.out.mono ?_
    rintro e w1 ⟨rfl, rfl⟩
    go_wp2
    go_ret
    exact chooseP_no H.out HB.out HC.out (by decide)
  have hq : RightEn E = false := Bool.eq_false_iff.2 (fun hh => hr ⟨by omega, by omega, hh⟩)
  rw [hq] at HMAY
  clear hq hr
  have c0 := HK.out.cell (i := 0) rfl
  have c1 := HK.out.cell (i := 1) rfl
  have c2 := HK.out.cell (i := 2) rfl
  have c3 := HK.out.cell (i := 3) rfl
  have c4 := HK.out.cell (i := 4) rfl
  obtain ⟨pb, hpb⟩ : ∃ q, q = w.heap.size := ⟨_, rfl⟩
  rw [← hpb] at c0 c1 c2 c3 c4
  have HPB := hid hpb
  clear hpb
  go_enter Try.func7, Try.ntmps7
  go_wp2_with fail
  rw [← HW.out, ← HPB.out]
  refine HCL.out.mono ?_
  rintro e w1 ⟨rfl, rfl⟩
  go_wp2_with fail
  refine HMAY.out.mono ?_
  rintro e w2 ⟨rfl, hb2⟩
  have HB2 := hid (bt' HB.out hb2)
  clear hb2
  go_wp2
  go_ret
  exact chooseP_no H.out HB2.out HC.out (by decide)
set_option maxRecDepth 1000000 in
set_option maxHeartbeats 2000000 in
theorem LrAt.choose_has {w : World} {p m pre z : Nat} {g : Lr} (h : LrAt w p m pre z g) (s : Int) (hs : I64 s) (x : EnM) (hx : EnOk w x) {S : Int → Option EnM} {D : DataW Value} (hEM0 : EnMap w m S g.ks.length D) (hSf : ∀ t, (S t).map (·.e) = g.f t) (hr : 0 ≤ s ∧ s ≤ 2147483647 ∧ RightEn x.e = true) {y : EnM} (hSs : S s = some y) : Calls Try.prog 7 #[.pointer (some ⟨p, 0, none⟩), .int .i64 s, x.val] w (ChooseP w p m g s x.e) := by
  have HR : Hid (RightEn x.e = true) := hr.2.2
  have h0 : ¬ s < 0 := by omega
  have h1 : ¬ 2147483647 < s := by omega
  have H := hid h
  have HSI := hid hs
  have HX0 := hid hx
  obtain ⟨W, hW⟩ : ∃ W, W = w.alloc (.cells x.cells.toArray 33) := ⟨_, rfl⟩
  have HB : Hid (Below w.heap.size w W) := by rw [hW]; exact (Below.refl _ _).alloc (Nat.le_refl _) _
  have HK : Hid (Blk W w.heap.size 33 x.cells) := by rw [hW]; exact Blk.new w _ _
  have HW := hid hW
  have HCL := hid (h.toLrMid.below HB.out).closed
  have HMAY := hid (mayEntryLr W x (hx.below HB.out))
  have HPL := hid (h.toLrMid.lt)
  obtain ⟨E, HE⟩ : ∃ E, Hid (x.e = E) := ⟨_, hid rfl⟩
  obtain ⟨XN, HXN⟩ : ∃ m, Hid (x.e.cut.length = m) := ⟨_, hid rfl⟩
  have HEM0 := hid hEM0
  have HSF := hid hSf
  have HSS := hid hSs
  rw [HE.out] at HMAY HR ⊢
  rw [HR.out] at HMAY
  clear hEM0 hSf hSs hr
  obtain ⟨⟨np, tk, ct, ep, dp⟩, ao1, cap1⟩ := x
  simp only [EnM.val, EnM.cells] at HW HK HMAY HXN ⊢
  rw [HXN.out] at HW HK HMAY ⊢
  clear h hx hW hs
  have c0 := HK.out.cell (i := 0) rfl
  have c1 := HK.out.cell (i := 1) rfl
  have c2 := HK.out.cell (i := 2) rfl
  have c3 := HK.out.cell (i := 3) rfl
  have c4 := HK.out.cell (i := 4) rfl
  obtain ⟨pb, hpb⟩ : ∃ q, q = w.heap.size := ⟨_, rfl⟩
  rw [← hpb] at c0 c1 c2 c3 c4
  have HPB := hid hpb
  clear hpb
  go_enter Try.func7, Try.ntmps7
  go_wp2_with fail
  rw [← HW.out, ← HPB.out]
  refine HCL.out.mono ?_
  rintro e w1 ⟨rfl, rfl⟩
  go_wp2_with fail
  refine HMAY.out.mono ?_
  rintro e w2 ⟨rfl, hb2⟩
  have HB2 := hid (bt' HB.out hb2)
  have HK2 := hid (HK.out.below hb2 HK.out.lt)
  have HM2 := hid (H.out.toLrMid.below HB2.out)
  obtain ⟨a0, _, a2⟩ := HM2.out.cells
  have hEM := HEM0.out.below HB2.out
  have HEM := hid hEM
  have hlk := hEM.look HSI.out
  have k0 := HK2.out.cell (i := 0) rfl
  have k1 := HK2.out.cell (i := 1) rfl
  have k2 := HK2.out.cell (i := 2) rfl
  have k3 := HK2.out.cell (i := 3) rfl
  have k4 := HK2.out.cell (i := 4) rfl
  rw [← HPB.out] at k0 k1 k2 k3 k4
  clear c0 c1 c2 c3 c4 hb2
  have HY := hid (hEM.ok s y HSS.out)
  have HGS : Hid (g.f s = some y.e) := by show _ = _; rw [← HSF.out s, HSS.out]; rfl
  rw [HSS.out] at hlk
  simp only [Option.map_some, Option.getD_some, Option.isSome_some] at hlk
  have HSM : Hid (∀ V, Below w2.heap.size w2 V → Calls Try.prog 19 #[.agg #[.bool np, .string tk, .string ct, .int .i64 ep, .slice ao1 XN cap1], y.val] V fun e w' => e = .returned (.bool (decide (E = y.e))) ∧ Below V.heap.size V w') := fun V hV => by
    have := sameLr V ⟨⟨np, tk, ct, ep, dp⟩, ao1, cap1⟩ y (HX0.out.below (bt' HB2.out hV)) (HY.out.below hV).ok
    simp only [EnM.val] at this
    rw [HXN.out, HE.out] at this
    exact this
  have HC : Hid (chooseC g s E = if E = y.e then 5 else 180) := by show _ = _; unfold chooseC; rw [if_pos ⟨by omega, by omega, HR.out⟩, HGS.out]
  obtain ⟨Ey, HEY⟩ : ∃ q, Hid (y.e = q) := ⟨_, hid rfl⟩
  rw [HEY.out] at HSM HC
  clear hEM HY HGS HSS
  obtain ⟨⟨np', tk', ct', ep', dp'⟩, ao2, cap2⟩ := y
  simp only [EnM.val] at hlk HSM
  obtain ⟨YN, HYN⟩ : ∃ m, Hid (dp'.length = m) := ⟨_, hid rfl⟩
  rw [HYN.out] at hlk HSM
  have HBA : Hid (Below w2.heap.size w2 (w2.alloc (.cells #[.bool np', .string tk', .string ct', .int .i64 ep', .slice ao2 YN cap2] 33))) := (Below.refl _ _).alloc (Nat.le_refl _) _
  have hkj := HK2.out.alloc (.cells #[.bool np', .string tk', .string ct', .int .i64 ep', .slice ao2 YN cap2] 33)
  rw [← HPB.out] at hkj
  have j0 := hkj.cell (i := 0) rfl
  have j1 := hkj.cell (i := 1) rfl
  have j2 := hkj.cell (i := 2) rfl
  have j3 := hkj.cell (i := 3) rfl
  have j4 := hkj.cell (i := 4) rfl
  clear hkj k0 k1 k2 k3 k4
  go_wp2_with fail
  refine (HSM.out _ HBA.out).mono ?_
  rintro e w3 ⟨rfl, hb3⟩
  have HB3 := hid (bt' HB2.out (bt' HBA.out hb3))
  clear hb3
  by_cases hq : E = Ey
  · rw [decide_eq_true hq]
    rw [if_pos hq] at HC
    clear hq
    go_wp2
    go_ret
    exact chooseP_no H.out HB3.out HC.out (by decide)
  · rw [decide_eq_false hq]
    rw [if_neg hq] at HC
    clear hq
    go_wp2
    go_ret
    exact chooseP_no H.out HB3.out HC.out (by decide)
end Go.Proofs.Ytgghfmdciohinaa
