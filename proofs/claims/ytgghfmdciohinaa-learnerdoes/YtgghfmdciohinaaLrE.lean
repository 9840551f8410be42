/-
  Package learner: grow, Choose.
-/
import Derived.Test.YtgghfmdciohinaaLrB
import Derived.Test.YtgghfmdciohinaaLrC
namespace Go.Proofs.Ytgghfmdciohinaa
open Go.RowKit Go.Maps

def preOfW (p : Nat) (w : World) : Nat := match w.cell? ⟨p, 1, none⟩ with
  | some (.int _ x) => x.toNat
  | _ => 0
theorem preOfW_eq {w : World} {p m pre z : Nat} {g : Lr} (h : LrMid w p m pre z g) : preOfW p w = pre := by
  unfold preOfW
  rw [h.cells.2.1]
  simp
theorem LrMid.step {w : World} {p m pre z : Nat} {g : Lr} (h : LrMid w p m pre z g) (hm : (pre : Int) ∈ g.ks) : LrMid (w.setCell ⟨p, 1, none⟩ (.int .i64 ((pre + 1 : Nat) : Int))) p m (pre + 1) z g := by
  obtain ⟨S, D, h1, h2⟩ := h.map
  have ht : Turns (fun i => i = p) w (w.setCell ⟨p, 1, none⟩ (.int .i64 ((pre + 1 : Nat) : Int))) := (Turns.refl (fun i => i = p) w).setCell (p := ⟨p, 1, none⟩) (.inl rfl) _
  refine ⟨h.ok, ?_, fun s h0 hs => ?_, h.fin, S, D, h1.turned ht (fun e => h.pne e.symm) (noNum_blk h.blk (by decide)), h2⟩
  · have := h.blk.set 1 (.int .i64 ((pre + 1 : Nat) : Int))
    exact this
  · by_cases e : s = pre
    · rw [e]; exact hm
    · exact h.all s h0 (by omega)
/-- While the prefix grows. -/
def Growing (w : World) (p m z : Nat) (g : Lr) (wr : World) : Prop := ∃ j, LrMid wr p m j z g ∧ Turns (fun i => i = p) w wr
set_option maxRecDepth 100000 in
set_option maxHeartbeats 1000000 in
theorem LrMid.grow {w : World} {p m pre z : Nat} {g : Lr} (h : LrMid w p m pre z g) : Calls Try.prog 21 #[.pointer (some ⟨p, 0, none⟩)] w fun e w' => e = .returned (.tuple #[]) ∧ ∃ pre', LrAt w' p m pre' z g ∧ Turns (fun i => i = p) w w' := by
  have H := hid h
  clear h
  go_enter Try.func21, Try.ntmps21
  go_wp2
  go_loopw [] (fun wr => Hid (Growing w p m z g wr)) (fun wr => z - preOfW p wr)
  case atStart => exact ⟨_, H.out, Turns.refl _ _⟩
  case round =>
    obtain ⟨j, hj, ht⟩ := hrel.out
    have HJ := hid hj
    have HT := hid ht
    obtain ⟨_, c1, _⟩ := hj.cells
    have HHAS := hid (hj.has j (by have := hj.pre_le; have := hj.ok.few; unfold I64; omega))
    have hjl : j ≤ 65536 := by have := hj.pre_le; have := hj.ok.few; omega
    clear hj ht hrel
    go_wp2_with fail
    refine HHAS.out.mono ?_
    rintro e w2 ⟨rfl, hb⟩
    have HJ2 := hid (HJ.out.below hb)
    have HT2 : Hid (Turns (fun i => i = p) w w2) := HT.out.trans (Turns.of_below (F := fun _ => False) hb (Nat.le_refl _)) (fun _ h => h.elim)
    obtain ⟨_, d1, _⟩ := HJ2.out.cells
    have f1 := HJ2.out.blk.frozen 1
    have HLT : Hid (∀ hm : (j : Int) ∈ g.ks, j < z) := fun hm => by have := HJ.out.fin.all _ hm; omega
    have HPJ : Hid (preOfW p wr = j) := preOfW_eq HJ.out
    by_cases hm : (j : Int) ∈ g.ks
    · rw [decide_eq_true hm]
      have HM := hid hm
      clear hb c1 hm
      have HN3 := hid (HJ2.out.step HM.out)
      have HT3 : Hid (Turns (fun i => i = p) w (w2.setCell ⟨p, 1, none⟩ (.int .i64 ((j + 1 : Nat) : Int)))) := HT2.out.setCell (p := ⟨p, 1, none⟩) (.inl rfl) _
      have HPJ3 : Hid (preOfW p (w2.setCell ⟨p, 1, none⟩ (.int .i64 ((j + 1 : Nat) : Int))) = j + 1) := preOfW_eq HN3.out
      rw [show ((j + 1 : Nat) : Int) = (j : Int) + 1 by omega] at HN3 HT3 HPJ3
      go_wp2
      go_roundw
      case rel => exact ⟨_, HN3.out, HT3.out⟩
      case measure =>
        have := HLT.out HM.out
        rw [HPJ3.out, HPJ.out]
        omega
    · rw [decide_eq_false hm]
      have HM := hid hm
      clear hb c1 hm
      go_wp2
      (try simp only [Exit.inBlock, Exit.then])
      refine bodyPost_end (results_none rfl _ _ _) rfl ?_
      exact ⟨rfl, _, ⟨HJ2.out, HM.out⟩, HT2.out⟩
/-- What Choose leaves. -/
def ChooseP (w : World) (p m : Nat) (g : Lr) (s : Int) (x : En) (e : Ending) (w' : World) : Prop := e = .returned (.int .i64 (chooseC g s x)) ∧ ∃ pre z, LrAt w' p m pre z (chooseL g s x) ∧ Turns (FootR p m) w w'
theorem chooseP_no {w w' : World} {p m pre z : Nat} {g : Lr} {s c : Int} {x : En} (h : LrAt w p m pre z g) (hb : Below w.heap.size w w') (hc : chooseC g s x = c) (hne : c ≠ 0) : ChooseP w p m g s x (.returned (.int .i64 c)) w' := by
  refine ⟨by rw [hc], pre, z, ?_, Turns.of_below hb (Nat.le_refl _)⟩
  unfold chooseL
  rw [if_neg (by rw [hc]; exact hne)]
  exact h.below hb
/-- No entry lies in F. -/
def FarL (w : World) (m : Nat) (g : Lr) (F : Nat → Prop) : Prop := ∃ S D, EnMap w m S g.ks.length D ∧ (∀ t, (S t).map (·.e) = g.f t) ∧ ∀ s x b off, S s = some x → x.ao = some ⟨b, off, none⟩ → x.e.cut ≠ [] → ¬ F b
theorem FarL.below {w w' : World} {m : Nat} {g : Lr} {F : Nat → Prop} (h : FarL w m g F) (hb : Below w.heap.size w w') : FarL w' m g F := by
  obtain ⟨S, D, h1, h2, h3⟩ := h
  exact ⟨S, D, h1.below hb, h2, h3⟩
/-- What Choose leaves, and what stays out of F. -/
def ChooseF (w : World) (p m : Nat) (g : Lr) (s : Int) (x : En) (F : Nat → Prop) (e : Ending) (w' : World) : Prop := ChooseP w p m g s x e w' ∧ FarL w' m (chooseL g s x) F
theorem chooseF_no {w w' : World} {p m pre z : Nat} {g : Lr} {s c : Int} {x : En} {F : Nat → Prop} (h : LrAt w p m pre z g) (hb : Below w.heap.size w w') (hc : chooseC g s x = c) (hne : c ≠ 0) (hf : FarL w m g F) : ChooseF w p m g s x F (.returned (.int .i64 c)) w' := by
  refine ⟨chooseP_no h hb hc hne, ?_⟩
  unfold chooseL
  rw [if_neg (by rw [hc]; exact hne)]
  exact hf.below hb
theorem right_sizes {e : En} (h : RightEn e = true) : e.tok.size ≤ 140737488355328 ∧ e.cart.size ≤ 140737488355328 := by
  unfold RightEn at h
  split at h
  · unfold EmptySe at h
    simp only [Bool.and_eq_true, decide_eq_true_eq] at h
    omega
  · unfold RightSe at h
    simp only [Bool.and_eq_true] at h
    have := nameS_sizeC h.1
    have := nameS_sizeC h.2.1
    omega
/-- The map has the entry, the end is as it was. -/
theorem LrMid.mid {w w6 : World} {p m pre z : Nat} {g : Lr} (h : LrMid w p m pre z g) {s : Nat} {x : EnM} (hs : s ≤ 2147483647) (hr : RightEn x.e = true) (hn : g.f s = none) (hf : g.ks.length < 65536) {S : Int → Option EnM} {D : DataW Value} (hS : ∀ t, (S t).map (·.e) = g.f t)
    (hm : EnMap w6 m (updE S s x) (g.ks.length + 1) D) (hb : Blk w6 p 49 [.map (some m), .int .i64 pre, .int .i64 z]) : LrMid (w6.setCell ⟨p, 2, none⟩ (.int .i64 ((max z (s + 1) : Nat) : Int))) p m pre (max z (s + 1)) (putL g s x.e) := by
  have hns : (s : Int) ∉ g.ks := fun hm => by have := (h.ok.has s).1 hm; rw [hn] at this; cases this
  have ht : Turns (fun i => i = p) w6 (w6.setCell ⟨p, 2, none⟩ (.int .i64 ((max z (s + 1) : Nat) : Int))) := (Turns.refl (fun i => i = p) w6).setCell (p := ⟨p, 2, none⟩) (.inl rfl) _
  refine ⟨putL_ok h.ok (by omega) (by omega) hr hn hf, hb.set 2 _, fun t h0 h1 => (putS_mem _ _ _).2 (.inl (h.all t h0 h1)), h.fin.put, updE S s x, D, ?_, fun t => ?_⟩
  · have e : (putL g s x.e).ks.length = g.ks.length + 1 := putS_new_len hns
    rw [e]
    exact hm.turned ht (fun e => h.pne e.symm) (noNum_blk hb (by decide))
  · unfold updE putL
    dsimp only
    by_cases e : t = s
    · rw [if_pos e, if_pos e]; rfl
    · rw [if_neg e, if_neg e]; exact hS t
set_option maxRecDepth 1000000 in
set_option maxHeartbeats 2000000 in
theorem LrAt.choose_arg {w : World} {p m pre z : Nat} {g : Lr} (h : LrAt w p m pre z g) (s : Int) (hs : I64 s) (x : EnM) (hx : EnOk w x) {F : Nat → Prop} (hfar : FarL w m g F) (hr : ¬ (0 ≤ s ∧ s ≤ 2147483647 ∧ RightEn x.e = true)) : Calls Try.prog 7 #[.pointer (some ⟨p, 0, none⟩), .int .i64 s, x.val] w (ChooseF w p m g s x.e F) := by
  have HC : Hid (chooseC g s x.e = 1) := by show _ = _; unfold chooseC; rw [if_neg hr]
  have H := hid h
  have HFAR := hid hfar
  clear hfar
  have HSI := hid hs
  have HX0 := hid hx
  obtain ⟨W, hW⟩ : ∃ W, W = w.alloc (.cells x.cells.toArray 33) := ⟨_, rfl⟩
  have HB : Hid (Below w.heap.size w W) := by rw [hW]; exact (Below.refl _ _).alloc (Nat.le_refl _) _
  have HK : Hid (Blk W w.heap.size 33 x.cells) := by rw [hW]; exact Blk.new w _ _
  have HW := hid hW
  have HCL := hid (h.toLrMid.below HB.out).closed
  have HMAY := hid (mayEntryLr W x (hx.below HB.out))
  have HPL := hid (h.toLrMid.lt)
  obtain ⟨E, HE⟩ : ∃ E, Hid (x.e = E) := ⟨_, hid rfl⟩
  obtain ⟨XN, HXN⟩ : ∃ m, Hid (x.e.cut.length = m) := ⟨_, hid rfl⟩
  rw [HE.out] at HMAY HC hr ⊢
  obtain ⟨⟨np, tk, ct, ep, dp⟩, ao1, cap1⟩ := x
  simp only [EnM.val, EnM.cells] at HW HK HMAY HXN ⊢
  rw [HXN.out] at HW HK HMAY ⊢
  clear h hx hW hs
  by_cases h0 : s < 0
  · go_enter Try.func7, Try.ntmps7
    go_wp2_with fail
    rw [← HW.out]
    refine HCL.out.mono ?_
    rintro e w1 ⟨rfl, rfl⟩
    go_wp2
    go_ret
    exact chooseF_no H.out HB.out HC.out (by decide) HFAR.out
  by_cases h1 : 2147483647 < s
  · go_enter Try.func7, Try.ntmps7
    go_wp2_with fail
    rw [← HW.out]
    refine HCL.out.mono ?_
    rintro e w1 ⟨rfl, rfl⟩
    go_wp2
    go_ret
    exact chooseF_no H.out HB.out HC.out (by decide) HFAR.out
  have hq : RightEn E = false := Bool.eq_false_iff.2 (fun hh => hr ⟨by omega, by omega, hh⟩)
  rw [hq] at HMAY
  clear hq hr
  have c0 := HK.out.cell (i := 0) rfl
  have c1 := HK.out.cell (i := 1) rfl
  have c2 := HK.out.cell (i := 2) rfl
  have c3 := HK.out.cell (i := 3) rfl
  have c4 := HK.out.cell (i := 4) rfl
  obtain ⟨pb, hpb⟩ : ∃ q, q = w.heap.size := ⟨_, rfl⟩
  rw [← hpb] at c0 c1 c2 c3 c4
  have HPB := hid hpb
  clear hpb
  go_enter Try.func7, Try.ntmps7
  go_wp2_with fail
  rw [← HW.out, ← HPB.out]
  refine HCL.out.mono ?_
  rintro e w1 ⟨rfl, rfl⟩
  go_wp2_with fail
  refine HMAY.out.mono ?_
  rintro e w2 ⟨rfl, hb2⟩
  have HB2 := hid (bt' HB.out hb2)
  clear hb2
  go_wp2
  go_ret
  exact chooseF_no H.out HB2.out HC.out (by decide) HFAR.out
set_option maxRecDepth 1000000 in
set_option maxHeartbeats 2000000 in
theorem LrAt.choose_has {w : World} {p m pre z : Nat} {g : Lr} (h : LrAt w p m pre z g) (s : Int) (hs : I64 s) (x : EnM) (hx : EnOk w x) {F : Nat → Prop} (hfar : FarL w m g F) {S : Int → Option EnM} {D : DataW Value} (hEM0 : EnMap w m S g.ks.length D) (hSf : ∀ t, (S t).map (·.e) = g.f t) (hr : 0 ≤ s ∧ s ≤ 2147483647 ∧ RightEn x.e = true) {y : EnM} (hSs : S s = some y) : Calls Try.prog 7 #[.pointer (some ⟨p, 0, none⟩), .int .i64 s, x.val] w (ChooseF w p m g s x.e F) := by
  have HR : Hid (RightEn x.e = true) := hr.2.2
  have h0 : ¬ s < 0 := by omega
  have h1 : ¬ 2147483647 < s := by omega
  have H := hid h
  have HFAR := hid hfar
  clear hfar
  have HSI := hid hs
  have HX0 := hid hx
  obtain ⟨W, hW⟩ : ∃ W, W = w.alloc (.cells x.cells.toArray 33) := ⟨_, rfl⟩
  have HB : Hid (Below w.heap.size w W) := by rw [hW]; exact (Below.refl _ _).alloc (Nat.le_refl _) _
  have HK : Hid (Blk W w.heap.size 33 x.cells) := by rw [hW]; exact Blk.new w _ _
  have HW := hid hW
  have HCL := hid (h.toLrMid.below HB.out).closed
  have HMAY := hid (mayEntryLr W x (hx.below HB.out))
  have HPL := hid (h.toLrMid.lt)
  obtain ⟨E, HE⟩ : ∃ E, Hid (x.e = E) := ⟨_, hid rfl⟩
  obtain ⟨XN, HXN⟩ : ∃ m, Hid (x.e.cut.length = m) := ⟨_, hid rfl⟩
  have HEM0 := hid hEM0
  have HSF := hid hSf
  have HSS := hid hSs
  rw [HE.out] at HMAY HR ⊢
  rw [HR.out] at HMAY
  clear hEM0 hSf hSs hr
  obtain ⟨⟨np, tk, ct, ep, dp⟩, ao1, cap1⟩ := x
  simp only [EnM.val, EnM.cells] at HW HK HMAY HXN ⊢
  rw [HXN.out] at HW HK HMAY ⊢
  clear h hx hW hs
  have c0 := HK.out.cell (i := 0) rfl
  have c1 := HK.out.cell (i := 1) rfl
  have c2 := HK.out.cell (i := 2) rfl
  have c3 := HK.out.cell (i := 3) rfl
  have c4 := HK.out.cell (i := 4) rfl
  obtain ⟨pb, hpb⟩ : ∃ q, q = w.heap.size := ⟨_, rfl⟩
  rw [← hpb] at c0 c1 c2 c3 c4
  have HPB := hid hpb
  clear hpb
  go_enter Try.func7, Try.ntmps7
  go_wp2_with fail
  rw [← HW.out, ← HPB.out]
  refine HCL.out.mono ?_
  rintro e w1 ⟨rfl, rfl⟩
  go_wp2_with fail
  refine HMAY.out.mono ?_
  rintro e w2 ⟨rfl, hb2⟩
  have HB2 := hid (bt' HB.out hb2)
  have HK2 := hid (HK.out.below hb2 HK.out.lt)
  have HM2 := hid (H.out.toLrMid.below HB2.out)
  obtain ⟨a0, _, a2⟩ := HM2.out.cells
  have hEM := HEM0.out.below HB2.out
  have HEM := hid hEM
  have hlk := hEM.look HSI.out
  have k0 := HK2.out.cell (i := 0) rfl
  have k1 := HK2.out.cell (i := 1) rfl
  have k2 := HK2.out.cell (i := 2) rfl
  have k3 := HK2.out.cell (i := 3) rfl
  have k4 := HK2.out.cell (i := 4) rfl
  rw [← HPB.out] at k0 k1 k2 k3 k4
  clear c0 c1 c2 c3 c4 hb2
  have HY := hid (hEM.ok s y HSS.out)
  have HGS : Hid (g.f s = some y.e) := by show _ = _; rw [← HSF.out s, HSS.out]; rfl
  rw [HSS.out] at hlk
  simp only [Option.map_some, Option.getD_some, Option.isSome_some] at hlk
  have HSM : Hid (∀ V, Below w2.heap.size w2 V → Calls Try.prog 19 #[.agg #[.bool np, .string tk, .string ct, .int .i64 ep, .slice ao1 XN cap1], y.val] V fun e w' => e = .returned (.bool (decide (E = y.e))) ∧ Below V.heap.size V w') := fun V hV => by
    have := sameLr V ⟨⟨np, tk, ct, ep, dp⟩, ao1, cap1⟩ y (HX0.out.below (bt' HB2.out hV)) (HY.out.below hV).ok
    simp only [EnM.val] at this
    rw [HXN.out, HE.out] at this
    exact this
  have HC : Hid (chooseC g s E = if E = y.e then 5 else 180) := by show _ = _; unfold chooseC; rw [if_pos ⟨by omega, by omega, HR.out⟩, HGS.out]
  obtain ⟨Ey, HEY⟩ : ∃ q, Hid (y.e = q) := ⟨_, hid rfl⟩
  rw [HEY.out] at HSM HC
  clear hEM HY HGS HSS
  obtain ⟨⟨np', tk', ct', ep', dp'⟩, ao2, cap2⟩ := y
  simp only [EnM.val] at hlk HSM
  obtain ⟨YN, HYN⟩ : ∃ m, Hid (dp'.length = m) := ⟨_, hid rfl⟩
  rw [HYN.out] at hlk HSM
  have HBA : Hid (Below w2.heap.size w2 (w2.alloc (.cells #[.bool np', .string tk', .string ct', .int .i64 ep', .slice ao2 YN cap2] 33))) := (Below.refl _ _).alloc (Nat.le_refl _) _
  have hkj := HK2.out.alloc (.cells #[.bool np', .string tk', .string ct', .int .i64 ep', .slice ao2 YN cap2] 33)
  rw [← HPB.out] at hkj
  have j0 := hkj.cell (i := 0) rfl
  have j1 := hkj.cell (i := 1) rfl
  have j2 := hkj.cell (i := 2) rfl
  have j3 := hkj.cell (i := 3) rfl
  have j4 := hkj.cell (i := 4) rfl
  clear hkj k0 k1 k2 k3 k4
  go_wp2_with fail
  refine (HSM.out _ HBA.out).mono ?_
  rintro e w3 ⟨rfl, hb3⟩
  have HB3 := hid (bt' HB2.out (bt' HBA.out hb3))
  clear hb3
  by_cases hq : E = Ey
  · rw [decide_eq_true hq]
    rw [if_pos hq] at HC
    clear hq
    go_wp2
    go_ret
    exact chooseF_no H.out HB3.out HC.out (by decide) HFAR.out
  · rw [decide_eq_false hq]
    rw [if_neg hq] at HC
    clear hq
    go_wp2
    go_ret
    exact chooseF_no H.out HB3.out HC.out (by decide) HFAR.out
end Go.Proofs.Ytgghfmdciohinaa
/-
  Package learner: Choose.
-/
namespace Go.Proofs.Ytgghfmdciohinaa
open Go.RowKit Go.Maps

set_option maxRecDepth 1000000 in
set_option maxHeartbeats 2000000 in
theorem LrAt.choose_new {w : World} {p m pre z : Nat} {g : Lr} (h : LrAt w p m pre z g) (s : Int) (hs : I64 s) (x : EnM) (hx : EnOk w x) {S : Int → Option EnM} {D : DataW Value} (hEM0 : EnMap w m S g.ks.length D) (hSf : ∀ t, (S t).map (·.e) = g.f t) {F : Nat → Prop} (hfS : ∀ s x b off, S s = some x → x.ao = some ⟨b, off, none⟩ → x.e.cut ≠ [] → ¬ F b) (hFl : ∀ i, F i → i < w.heap.size) (hr : 0 ≤ s ∧ s ≤ 2147483647 ∧ RightEn x.e = true) (hSs : S s = none) : Calls Try.prog 7 #[.pointer (some ⟨p, 0, none⟩), .int .i64 s, x.val] w (ChooseF w p m g s x.e F) := by
  have HR : Hid (RightEn x.e = true) := hr.2.2
  have h0 : ¬ s < 0 := by omega
  have h1 : ¬ 2147483647 < s := by omega
  have H := hid h
  have HFAR : Hid (FarL w m g F) := ⟨S, D, hEM0, hSf, hfS⟩
  have HFS := hid hfS
  have HFL := hid hFl
  clear hfS hFl
  have HSI := hid hs
  have HX0 := hid hx
  obtain ⟨W, hW⟩ : ∃ W, W = w.alloc (.cells x.cells.toArray 33) := ⟨_, rfl⟩
  have HB : Hid (Below w.heap.size w W) := by rw [hW]; exact (Below.refl _ _).alloc (Nat.le_refl _) _
  have HK : Hid (Blk W w.heap.size 33 x.cells) := by rw [hW]; exact Blk.new w _ _
  have HW := hid hW
  have HCL := hid (h.toLrMid.below HB.out).closed
  have HMAY := hid (mayEntryLr W x (hx.below HB.out))
  have HPL := hid (h.toLrMid.lt)
  obtain ⟨E, HE⟩ : ∃ E, Hid (x.e = E) := ⟨_, hid rfl⟩
  obtain ⟨XN, HXN⟩ : ∃ m, Hid (x.e.cut.length = m) := ⟨_, hid rfl⟩
  have HEM0 := hid hEM0
  have HSF := hid hSf
  have HSS := hid hSs
  rw [HE.out] at HMAY HR ⊢
  rw [HR.out] at HMAY
  clear hEM0 hSf hSs hr
  obtain ⟨⟨np, tk, ct, ep, dp⟩, ao1, cap1⟩ := x
  simp only [EnM.val, EnM.cells] at HW HK HMAY HXN ⊢
  rw [HXN.out] at HW HK HMAY ⊢
  clear h hx hW hs
  have c0 := HK.out.cell (i := 0) rfl
  have c1 := HK.out.cell (i := 1) rfl
  have c2 := HK.out.cell (i := 2) rfl
  have c3 := HK.out.cell (i := 3) rfl
  have c4 := HK.out.cell (i := 4) rfl
  obtain ⟨pb, hpb⟩ : ∃ q, q = w.heap.size := ⟨_, rfl⟩
  rw [← hpb] at c0 c1 c2 c3 c4
  have HPB := hid hpb
  clear hpb
  go_enter Try.func7, Try.ntmps7
  go_wp2_with fail
  rw [← HW.out, ← HPB.out]
  refine HCL.out.mono ?_
  rintro e w1 ⟨rfl, rfl⟩
  go_wp2_with fail
  refine HMAY.out.mono ?_
  rintro e w2 ⟨rfl, hb2⟩
  have HB2 := hid (bt' HB.out hb2)
  have HK2 := hid (HK.out.below hb2 HK.out.lt)
  have HM2 := hid (H.out.toLrMid.below HB2.out)
  obtain ⟨a0, _, a2⟩ := HM2.out.cells
  have hEM := HEM0.out.below HB2.out
  have HEM := hid hEM
  have hlk := hEM.look HSI.out
  have k0 := HK2.out.cell (i := 0) rfl
  have k1 := HK2.out.cell (i := 1) rfl
  have k2 := HK2.out.cell (i := 2) rfl
  have k3 := HK2.out.cell (i := 3) rfl
  have k4 := HK2.out.cell (i := 4) rfl
  rw [← HPB.out] at k0 k1 k2 k3 k4
  clear c0 c1 c2 c3 c4 hb2
  have HGS : Hid (g.f s = none) := by show _ = _; rw [← HSF.out s, HSS.out]; rfl
  rw [HSS.out] at hlk
  simp only [Option.map_none, Option.getD_none, Option.isSome_none, zeroEn] at hlk
  clear hEM
  obtain ⟨W3, hW3⟩ : ∃ V, V = w2.alloc (.cells #[.bool false, .string ⟨#[]⟩, .string ⟨#[]⟩, .int .i64 0, .slice none 0 0] 33) := ⟨_, rfl⟩
  have HA3 : Hid (Below w2.heap.size w2 W3) := by rw [hW3]; exact (Below.refl _ _).alloc (Nat.le_refl _) _
  have HB3 := hid (bt' HB2.out HA3.out)
  have HEM3 := hid (HEM.out.below HA3.out)
  have HM3 := hid (HM2.out.below HA3.out)
  have HK3 := hid (HK2.out.below HA3.out HK2.out.lt)
  have HW3 := hid hW3
  have hlen := fun ty => HEM3.out.map.len Try.underlying47 ty
  rw [HEM3.out.cnt] at hlen
  have hk3 := HK3.out
  rw [← HPB.out] at hk3
  have b0 := HM3.out.cells.1
  rw [hW3] at hlen hk3 b0
  have j0 := hk3.cell (i := 0) rfl
  have j1 := hk3.cell (i := 1) rfl
  have j2 := hk3.cell (i := 2) rfl
  have j3 := hk3.cell (i := 3) rfl
  have j4 := hk3.cell (i := 4) rfl
  clear hW3 hk3 k0 k1 k2 k3 k4
  obtain ⟨N, HN⟩ : ∃ N, Hid (g.ks.length = N) := ⟨_, hid rfl⟩
  rw [HN.out] at hlen
  by_cases h4 : 65536 ≤ N
  · have h4' : (65536 : Int) ≤ (N : Int) := by omega
    have HC : Hid (chooseC g s E = 2) := by show _ = _; unfold chooseC; rw [if_pos ⟨by omega, by omega, HR.out⟩, HGS.out, HN.out]; simp; omega
    clear h4
    go_wp2
    rw [← HW3.out]
    go_ret
    exact chooseF_no H.out HB3.out HC.out (by decide) HFAR.out
  have h4' : decide ((65536 : Int) ≤ (N : Int)) = false := decide_eq_false (by omega)
  have H4 : Hid (g.ks.length < 65536) := by rw [HN.out]; show _ < _; omega
  have HC : Hid (chooseC g s E = 0) := by show _ = _; unfold chooseC; rw [if_pos ⟨by omega, by omega, HR.out⟩, HGS.out, if_pos H4.out]
  clear h4
  go_wp2
  rw [← HW3.out]
  have HKP : Hid (∀ U, ScL W3 U → Calls Try.prog 20 #[.agg #[.bool np, .string tk, .string ct, .int .i64 ep, .slice ao1 XN cap1]] U fun e w' => ∃ bo cp, e = .returned (.agg #[.bool np, .string tk, .string ct, .int .i64 ep, .slice bo XN cp]) ∧ Hid (EnKeep w' ⟨⟨np, tk, ct, ep, dp⟩, bo, cp⟩) ∧ ScL W3 w' ∧ Hid (∀ b off, bo = some ⟨b, off, none⟩ → w.heap.size ≤ b)) := fun U hU => by
    have hsz := right_sizes HR.out
    rw [← HE.out] at hsz
    have := keptLr U ⟨⟨np, tk, ct, ep, dp⟩, ao1, cap1⟩ (HX0.out.below (bt' HB3.out hU.out)) hsz.1 hsz.2
    simp only [EnM.val] at this
    rw [HXN.out] at this
    refine this.mono ?_
    rintro e w' ⟨bo, cp, rfl, hk, hb, hnw⟩
    simp only [EnM.val] 
    rw [HXN.out]
    exact ⟨bo, cp, rfl, hk, hU.go hb, fun b off e => Nat.le_trans (bt' HB3.out hU.out).size (hnw b off e)⟩
  have HPUT : Hid (∀ U bo cp, Hid (EnKeep U ⟨⟨np, tk, ct, ep, dp⟩, bo, cp⟩) → ScL W3 U → ∃ w6, (Instr.mapUpdate 47 (.map (some m)) (.int .i64 s) (.agg #[.bool np, .string tk, .string ct, .int .i64 ep, .slice bo XN cp])).run Try.prog U = .ok () w6 ∧ Hid ((∃ D', EnMap w6 m (updE S s ⟨⟨np, tk, ct, ep, dp⟩, bo, cp⟩) (g.ks.length + 1) D') ∧ Blk w6 p 49 [.map (some m), .int .i64 pre, .int .i64 z]) ∧ Turns (fun i => i = m) W3 w6) := fun U bo cp hk hU => by
    obtain ⟨w6, h1, h2, h3⟩ := (HEM3.out.below hU.out).put (by have := H4.out; unfold maxLen; omega) HSI.out ⟨⟨np, tk, ct, ep, dp⟩, bo, cp⟩ hk.out HSS.out
    simp only [EnM.val] at h1
    rw [HXN.out] at h1
    exact ⟨w6, h1, ⟨h2, h3.blk (HM3.out.blk.below hU.out HM3.out.blk.lt) HM3.out.pne⟩, (Turns.of_below (F := fun i => i = m) hU.out (Nat.le_refl _)).trans h3 (fun i hi => .inl hi)⟩
  have HTS : Hid (∀ U, ScL W3 U → Turns (fun i => i = m) W3 U) := fun U hU => Turns.of_below hU.out (Nat.le_refl _)
  have HT0 : Hid (Turns (fun i => i = m) W3 W3) := Turns.refl _ _
  have HSA : Hid (∀ U, Turns (fun i => i = m) W3 U → (Turns (fun i => i = m) W3 U ∧ U.cell? ⟨p, 0, none⟩ = some (.map (some m)) ∧ U.cell? ⟨pb, 0, none⟩ = some (.bool np) ∧ U.cell? ⟨pb, 1, none⟩ = some (.string tk) ∧ U.cell? ⟨pb, 2, none⟩ = some (.string ct) ∧ U.cell? ⟨pb, 3, none⟩ = some (.int .i64 ep) ∧ U.cell? ⟨pb, 4, none⟩ = some (.slice ao1 XN cap1))) := fun U hU => by
    have hb := hU.blk HK3.out (fun e => by have := HPL.out m (.inr rfl); omega)
    rw [← HPB.out] at hb
    have hp := hU.blk HM3.out.blk HM3.out.pne
    exact ⟨hU, hp.cell rfl, hb.cell rfl, hb.cell rfl, hb.cell rfl, hb.cell rfl, hb.cell rfl⟩
  clear hlen b0 j0 j1 j2 j3 j4
  go_region_held3 (fun U => Turns (fun i => i = m) W3 U ∧ U.cell? ⟨p, 0, none⟩ = some (.map (some m)) ∧ U.cell? ⟨pb, 0, none⟩ = some (.bool np) ∧ U.cell? ⟨pb, 1, none⟩ = some (.string tk) ∧ U.cell? ⟨pb, 2, none⟩ = some (.string ct) ∧ U.cell? ⟨pb, 3, none⟩ = some (.int .i64 ep) ∧ U.cell? ⟨pb, 4, none⟩ = some (.slice ao1 XN cap1))
    (first | (refine ⟨?_, ?_, ?_, ?_, ?_, ?_, ?_⟩ <;> assumption) | (refine HSA.out _ ?_; (repeat (first | assumption | exact HT0.out | apply Turns.drew))))
    (first
      | (go_at_call 20; with_reducible refine (HKP.out _ (by (repeat (first | assumption | exact ScL.start _ | apply ScL.dr)))).mono ?_; rintro e w5 ⟨bo, cp, rfl, HKY, hs5, HNW⟩; have hT5 := HTS.out _ hs5; obtain ⟨w6, hrun, HF6, hT6⟩ := HPUT.out w5 bo cp HKY hs5))
  all_goals
    obtain ⟨⟨D6, hE6⟩, hB6⟩ := HF6.out
    obtain ⟨n, rfl⟩ : ∃ n : Nat, s = n := ⟨s.toNat, by omega⟩
    have HN7 := hid (HM3.out.mid (s := n) (x := ⟨⟨np, tk, ct, ep, dp⟩, bo, cp⟩) (by omega) (by rw [HE.out]; exact HR.out) HGS.out H4.out HSF.out hE6 hB6)
    have HE6 := hid hE6
    have HB6 := hid hB6
    have HT6 : Hid (Turns (FootR p m) w w6) := (Turns.of_below (F := FootR p m) HB3.out (Nat.le_refl _)).trans hT6 (fun i hi => .inl (.inr hi))
    have m2 := hB6.cell (i := 2) rfl
    have n2 := hB6.frozen 2
    have HZ : Hid (z ≤ 2147483648) := H.out.toLrMid.end_le
    clear hrun hE6 hB6 hT6
    go_wp2_with fail
    have hmx : ((max z (n + 1) : Nat) : Int) = max (z : Int) ((n : Int) + 1) := by omega
    rw [hmx] at HN7
    have HGR := hid HN7.out.grow
    have HT7 : Hid (Turns (FootR p m) w (w6.setCell ⟨p, 2, none⟩ (.int .i64 (max (z : Int) ((n : Int) + 1))))) := HT6.out.setCell (p := ⟨p, 2, none⟩) (.inl (.inl rfl)) _
    clear hmx
    refine HGR.out.mono ?_
    rintro e w8 ⟨rfl, pre', hat, ht8⟩
    have HFIN : Hid (ChooseF w p m g n E F (.returned (.int .i64 0)) w8) := by
      refine ⟨⟨by rw [HC.out], pre', max z (n + 1), ?_, HT7.out.trans ht8 (fun i hi => .inl (.inl hi))⟩, ?_⟩
      · unfold chooseL
        rw [if_pos HC.out, ← HE.out]
        exact hat
      · unfold chooseL
        rw [if_pos HC.out, ← HE.out]
        have hns : (n : Int) ∉ g.ks := fun hm => by have := (H.out.ok.has n).1 hm; rw [HGS.out] at this; cases this
        have hT68 : Turns (fun i => i = p) w6 w8 := ((Turns.refl (fun i => i = p) w6).setCell (p := ⟨p, 2, none⟩) (.inl rfl) _).trans ht8 (fun i hi => .inl hi)
        refine ⟨updE S n ⟨⟨np, tk, ct, ep, dp⟩, bo, cp⟩, D6, ?_, fun t => ?_, fun t y b off hy hao hne => ?_⟩
        · rw [show (putL g n (⟨np, tk, ct, ep, dp⟩ : En)).ks.length = g.ks.length + 1 from putS_new_len hns]
          exact HE6.out.turned hT68 (fun e => H.out.toLrMid.pne e.symm) (noNum_blk HB6.out (by decide))
        · unfold updE putL
          dsimp only
          by_cases e : t = n
          · rw [if_pos e, if_pos e]; rfl
          · rw [if_neg e, if_neg e]; exact HSF.out t
        · unfold updE at hy
          by_cases e : t = n
          · rw [if_pos e] at hy
            cases hy
            exact fun hf => by have h1 := HNW.out b off hao; have h2 := HFL.out b hf; omega
          · rw [if_neg e] at hy
            exact HFS.out t y b off hy hao hne
    clear hat ht8 HGR HN7
    go_wp2
    go_ret
    exact HFIN.out
theorem LrAt.chooseF {w : World} {p m pre z : Nat} {g : Lr} (h : LrAt w p m pre z g) (s : Int) (hs : I64 s) (x : EnM) (hx : EnOk w x) {F : Nat → Prop} (hfar : FarL w m g F) (hFl : ∀ i, F i → i < w.heap.size) : Calls Try.prog 7 #[.pointer (some ⟨p, 0, none⟩), .int .i64 s, x.val] w (ChooseF w p m g s x.e F) := by
  by_cases hr : 0 ≤ s ∧ s ≤ 2147483647 ∧ RightEn x.e = true
  · obtain ⟨S, D, hEM, hSf, hfS⟩ := hfar
    cases hSs : S s with
    | some y => exact h.choose_has s hs x hx ⟨S, D, hEM, hSf, hfS⟩ hEM hSf hr hSs
    | none => exact h.choose_new s hs x hx hEM hSf hfS hFl hr hSs
  · exact h.choose_arg s hs x hx hfar hr
theorem LrAt.choose {w : World} {p m pre z : Nat} {g : Lr} (h : LrAt w p m pre z g) (s : Int) (hs : I64 s) (x : EnM) (hx : EnOk w x) : Calls Try.prog 7 #[.pointer (some ⟨p, 0, none⟩), .int .i64 s, x.val] w (ChooseP w p m g s x.e) := by
  obtain ⟨S, D, hEM, hSf⟩ := h.map
  exact (h.chooseF s hs x hx (F := fun _ => False) ⟨S, D, hEM, hSf, fun _ _ _ _ _ _ _ h => h⟩ (fun i h => h.elim)).mono (fun e w' hh => hh.1)
end Go.Proofs.Ytgghfmdciohinaa
