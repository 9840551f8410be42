/-
  pannierlaw18.looks: what a learner should have, it has.
-/
import Derived.Test.YtgghfmdciohinaaSaE
import Derived.Test.YtgghfmdciohinaaLdB
import Derived.Test.YtgghfmdciohinaaSeqH
import Derived.Test.YtgghfmdciohinaaNums
import Derived.Deep.CutRange
import Derived.Deep.CutBlock
namespace Go.Proofs.Ytgghfmdciohinaa
open Go.RowKit Go.Shelf Go.Maps
attribute [local go_sem] Oper.semAt_some

theorem wp_shareL0 {P : Program} {id : Nat} {ops : Array Oper} {b : Bool} {Q : Exit → Act → World → Prop} {a : Act} {w : World} {A : Act} {S : World → Prop}
    (h1 : (Code.region id ops b).wp P (NoPanic (fun e a w => e = .normal ∧ a = A ∧ S w)) a w) (h2 : ∀ w, S w → Q .normal A w) : (Code.region id ops b).wp P Q a w :=
  Code.wp_mono (fun e a w h => by
    cases e with
    | panic c => exact (h : False).elim
    | _ =>
      obtain ⟨e1, rfl, h3⟩ := h
      first | (cases e1; done) | exact h2 _ h3) h1
theorem belowJ {w V : World} {D : Nat} (hb : Below w.heap.size w V) (hD : w.heap.size ≤ D) (o : Obj) : Below w.heap.size w (V.putObj D o) := by
  have hT : Turns (fun i => i = D) V (V.putObj D o) := Turns.of_grown (grownBy_putObj' V _ _) (fun j e => by cases e; rfl)
  exact hb.trans (hT.below (fun i hi => by rw [hi]; exact hD) hb.size)
theorem fromG_ownJ (B B' : Nat) (g : Lr) (a pre : Nat) (pr : List (Int × EnM)) (x : Int × EnM) : OwnFrom B' (fun (_ : Unit) V => FromG B g a pre pr x V) := fun _ _ _ _ h hg hr =>
  ⟨h.at_, h.lt, h.en, h.keep.noCells hg (fun r e => (hr r e).2), h.all, h.new⟩
/-- What a round may change. -/
def FoJ (ib l : Nat) (k : Nat) : Prop := k = ib ∨ k = l
def KpJ (ib l : Nat) (A B : World) : Prop := Turns (FoJ ib l) A B
theorem KpJ.refl (ib l : Nat) (A : World) : KpJ ib l A A := Turns.refl _ _
theorem KpJ.trans {ib l : Nat} {A B C : World} (h : KpJ ib l A B) (k : KpJ ib l B C) : KpJ ib l A C := Turns.trans h k (fun _ hi => .inl hi)
theorem KpJ.below {ib l : Nat} {A B : World} (h : Below A.heap.size A B) : KpJ ib l A B := Turns.of_below h (Nat.le_refl _)
/-- Between two rounds. -/
structure RnJ (X : World) (ib l a : Nat) (pr : List (Int × EnM)) (V : World) : Prop where
  ibx : Boxed V ib 3 (.int .i64 ((a + pr.length : Nat) : Int))
  kp : KpJ ib l X V
theorem rnJ_own (X : World) (ib l a : Nat) : OwnFrom X.heap.size (RnJ X ib l a) := by
  rintro pr V V' row h hg hr
  exact ⟨boxed_own h.ibx hg (fun r e => (hr r e).2), Turns.grown h.kp hg (fun j e => .inr (hr j e).1)⟩
theorem rowP_ext {w w' : World} {e : Ending} {ys : List Int} (h : ExtR w ys e w') (hx : ∀ x ∈ ys, -9223372036854775808 ≤ x ∧ x ≤ 9223372036854775807) (hf : ys.length ≤ 17592186044416) : RowP w ys e w' := by
  obtain ⟨v, rfl, h1, h2⟩ := h
  exact rowP_of h1 hx hf h2
theorem rowP_miss {w w' : World} {e : Ending} {ys : List Int} (h : MissP w ys e w') (hx : ∀ x ∈ ys, -9223372036854775808 ≤ x ∧ x ≤ 9223372036854775807) (hf : ys.length ≤ 17592186044416) : RowP w ys e w' := by
  obtain ⟨v, rfl, h1, h2⟩ := h
  exact rowP_of h1 hx hf h2
theorem extra_rng {g : Lr} (hg : LrOk g) (n : Nat) : (∀ x ∈ extraL g.ks n, -9223372036854775808 ≤ x ∧ x ≤ 9223372036854775807) ∧ (extraL g.ks n).length ≤ 17592186044416 := by
  refine ⟨fun x hx => ?_, ?_⟩
  · have := hg.slot x (List.mem_filter.1 hx).1
    omega
  · have h1 : (extraL g.ks n).length ≤ g.ks.length := List.length_filter_le _ _
    have := hg.few
    omega
theorem miss_rng (ks : List Int) (a z : Nat) (most : Int) (hz : z ≤ 2147483648) (haz : a ≤ z) : (∀ x ∈ missL ks a z most, -9223372036854775808 ≤ x ∧ x ≤ 9223372036854775807) ∧ (missL ks a z most).length ≤ 17592186044416 := by
  refine ⟨fun x hx => ?_, ?_⟩
  · have := (gaps_mem.1 (List.mem_of_mem_take hx)).1
    omega
  · have : (missL ks a z most).length ≤ (min most 4096).toNat := by unfold missL; rw [List.length_take]; omega
    omega
set_option maxRecDepth 1000000 in
set_option maxHeartbeats 4000000 in
theorem looks_true {w : World} {p m pre z : Nat} {g : Lr} (h : LrAt w p m pre z g) {B x : Nat} {xs : List StM} {eo : Option Addr} {cap : Nat} (hx : RlIn B w x g xs eo cap) (s most : Int) (hs : I64 s) :
    Calls Try.prog 10 #[.pointer (some ⟨p, 0, none⟩), .pointer (some ⟨x, 0, none⟩), .int .i64 s, .int .i64 most] w fun e w' => e = .returned (.bool true) ∧ Below w.heap.size w w' := by
  refine (callsIn_wide (n := 5)).1 ?_
  have HL0 := hid h
  have HX0 := hid hx
  have HSI := hid hs
  have HOK := hid hx.gok
  have HTW := hid hx.twin
  have HPE : Hid (preR 0 xs = pre) := (hx.twin.pre hx.gok).unique h.isPre
  have HPZ : Hid (pre ≤ z ∧ z ≤ 2147483648) := ⟨h.toLrMid.pre_end, h.toLrMid.end_le⟩
  have HFIN : Hid (IsEnd g.ks z) := h.fin
  have HPP : Hid (IsPre g.ks pre) := h.isPre
  have HP6 : Hid (pre ≤ 65536) := Nat.le_trans h.toLrMid.pre_le hx.gok.few
  obtain ⟨N, HN⟩ : ∃ N, Hid (xs.length = N) := ⟨_, hid rfl⟩
  have HGN : Hid (g.ks.length = N) := by rw [← HN.out]; exact hx.twin.len.symm
  clear h hx hs
  refine callsIn_of_wp_marks Try.func10 rfl trivial ?_ rfl
  simp only [Try.ntmps10, List.size_toArray, List.length_cons, List.length_nil, Nat.reduceAdd, Nat.reduceSub, Array.replicate_succ, Array.replicate_zero, List.push_toArray, List.append_toArray, List.nil_append, List.cons_append]
  refine wpIn_wide.2 ?_
  obtain ⟨W0, hW0⟩ : ∃ W0, W0 = (w.alloc (.cells #[.pointer (some ⟨x, 0, none⟩)] 25)).alloc (.cells #[.bool false] 4) := ⟨_, rfl⟩
  have HB0 : Hid (Below w.heap.size w W0) := by rw [hW0]; exact ((Below.refl _ w).alloc (Nat.le_refl _) _).alloc (by simp) _
  have HXB0 : Hid (Boxed W0 w.heap.size 25 (.pointer (some ⟨x, 0, none⟩))) := by rw [hW0]; exact (Boxed.new w 25 _).alloc _
  have HRB0 : Hid (Boxed W0 (w.heap.size + 1) 4 (.bool false)) := by
    have := Boxed.new (w.alloc (.cells #[.pointer (some ⟨x, 0, none⟩)] 25)) 4 (.bool false)
    rw [World.size_alloc] at this
    rw [hW0]
    exact this
  obtain ⟨xb, HXB⟩ : ∃ q, Hid (q = w.heap.size) := ⟨_, hid rfl⟩
  rw [← HXB.out] at HXB0 HRB0
  have HGET := hid ((HL0.out.below HB0.out).get s HSI.out)
  obtain ⟨⟨en, et, ec, ee, ed⟩, HE0⟩ : ∃ E, Hid ((g.f s).getD noopEn = E) := ⟨_, hid rfl⟩
  obtain ⟨is, HIS⟩ : ∃ b, Hid ((g.f s).isSome = b) := ⟨_, hid rfl⟩
  obtain ⟨EL, HEL⟩ : ∃ k, Hid (ed.length = k) := ⟨_, hid rfl⟩
  have HYM : Hid (∃ Y : EnM, ((findR xs s).map (·.en)).getD noopM = Y ∧ Y.e = ⟨en, et, ec, ee, ed⟩ ∧ (findR xs s).isSome = is ∧ ∀ V, Below w.heap.size w V → EnOk V Y) := by
    have h1 := HTW.out.find HOK.out s
    cases hf : findR xs s with
    | none =>
      rw [hf] at h1
      refine ⟨noopM, rfl, ?_, ?_, fun V _ => enOk_noop V⟩
      · rw [← HE0.out, ← h1]; rfl
      · rw [← HIS.out, ← h1]; rfl
    | some y =>
      rw [hf] at h1
      refine ⟨y.en, rfl, ?_, ?_, fun V hV => ((HX0.out.rl.ok y (by unfold findR at hf; exact List.mem_of_find?_eq_some hf)).en).below hV⟩
      · rw [← HE0.out, ← h1]; rfl
      · rw [← HIS.out, ← h1]; rfl
  obtain ⟨⟨ye, yo, yc⟩, hy1, hy2, hy3, hy4⟩ := HYM.out
  have hy2' : ye = ⟨en, et, ec, ee, ed⟩ := hy2
  subst hy2'
  have HY1 := hid hy1
  have HY3 := hid hy3
  have HY4 := hid hy4
  have HEO : Hid (I64 ee ∧ et.size ≤ maxLen ∧ ec.size ≤ maxLen) := by
    have := hy4 w (Below.refl _ _)
    exact ⟨this.ie, this.ht, this.hc⟩
  clear hy1 hy2 hy3 hy4 HYM
  go_wp2_with fail
  rw [← HXB.out, ← hW0]
  refine HGET.out.mono ?_
  rintro e w1 ⟨bo, cp, rfl, hv1, hb1⟩
  rw [HE0.out] at hv1 ⊢
  rw [HIS.out]
  simp only [EnM.val]
  rw [HEL.out]
  have HV1 := hid hv1
  have HB1 := hid (bt' HB0.out hb1)
  have HXB1 : Hid (Boxed w1 xb 25 (.pointer (some ⟨x, 0, none⟩))) := (hb1.block _ HXB0.out.lt).trans HXB0.out
  have HRB1 : Hid (Boxed w1 (xb + 1) 4 (.bool false)) := (hb1.block _ HRB0.out.lt).trans HRB0.out
  obtain ⟨W2, hW2⟩ : ∃ V, V = w1.alloc (.cells #[.bool en, .string et, .string ec, .int .i64 ee, .slice bo EL cp] 33) := ⟨_, rfl⟩
  have hb2 : Below w1.heap.size w1 W2 := by rw [hW2]; exact (Below.refl _ _).alloc (Nat.le_refl _) _
  have HKA2 : Hid (Blk W2 w1.heap.size 33 [.bool en, .string et, .string ec, .int .i64 ee, .slice bo EL cp]) := by rw [hW2]; exact Blk.new _ _ _
  obtain ⟨qa, HQA⟩ : ∃ q, Hid (q = w1.heap.size) := ⟨_, hid rfl⟩
  rw [← HQA.out] at HKA2
  have HB2 := hid (bt' HB1.out hb2)
  have HV2 := hid (HV1.out.below hb2)
  have HXB2 : Hid (Boxed W2 xb 25 (.pointer (some ⟨x, 0, none⟩))) := (hb2.block _ HXB1.out.lt).trans HXB1.out
  have HRB2 : Hid (Boxed W2 (xb + 1) 4 (.bool false)) := (hb2.block _ HRB1.out.lt).trans HRB1.out
  have HW2 := hid hW2
  have cx2 := HXB2.out.cell
  have HRG := hid ((HX0.out.below HB2.out).rl.get s)
  unfold GetR at HRG
  rw [HY1.out, HY3.out] at HRG
  simp only [EnM.val] at HRG
  rw [HEL.out] at HRG
  rw [hW2] at cx2
  clear hv1 hb1 hb2 hW0 hW2 HGET HRB0 HXB0
  go_wp2_with fail
  rw [← HQA.out, ← HW2.out]
  refine HRG.out.mono ?_
  rintro e w3 ⟨rfl, hb3⟩
  obtain ⟨W4, hW4⟩ : ∃ V, V = w3.alloc (.cells #[.bool en, .string et, .string ec, .int .i64 ee, .slice yo EL yc] 33) := ⟨_, rfl⟩
  have hb4 : Below w3.heap.size w3 W4 := by rw [hW4]; exact (Below.refl _ _).alloc (Nat.le_refl _) _
  have HKB4 : Hid (Blk W4 w3.heap.size 33 [.bool en, .string et, .string ec, .int .i64 ee, .slice yo EL yc]) := by rw [hW4]; exact Blk.new _ _ _
  obtain ⟨qb, HQB⟩ : ∃ q, Hid (q = w3.heap.size) := ⟨_, hid rfl⟩
  rw [← HQB.out] at HKB4
  have hb24 := bt' hb3 hb4
  have HB4 := hid (bt' HB2.out hb24)
  have HV4 := hid (HV2.out.below hb24)
  have HKA4 := hid (HKA2.out.below hb24 HKA2.out.lt)
  have HXB4 : Hid (Boxed W4 xb 25 (.pointer (some ⟨x, 0, none⟩))) := (hb24.block _ HXB2.out.lt).trans HXB2.out
  have HRB4 : Hid (Boxed W4 (xb + 1) 4 (.bool false)) := (hb24.block _ HRB2.out.lt).trans HRB2.out
  have HW4 := hid hW4
  have cx4 := HXB4.out.cell
  rw [hW4] at cx4
  have HPR := hid ((HX0.out.below HB4.out).rl.prefix)
  rw [HPE.out] at HPR
  clear hb3 hb4 hb24 hW4 HRG cx2
  go_wp2_with fail
  rw [← HQB.out, ← HW4.out]
  refine HPR.out.mono ?_
  rintro e w5 ⟨rfl, hw5⟩
  rw [hw5]
  clear hw5 w5 cx4
  obtain ⟨W, hW⟩ : ∃ V, V = W4.alloc (.cells #[.int .i64 (pre : Int)] 3) := ⟨_, rfl⟩
  have hb5 : Below W4.heap.size W4 W := by rw [hW]; exact (Below.refl _ _).alloc (Nat.le_refl _) _
  have HNB : Hid (Boxed W W4.heap.size 3 (.int .i64 (pre : Int))) := by rw [hW]; exact Boxed.new _ _ _
  obtain ⟨nb, HNQ⟩ : ∃ q, Hid (q = W4.heap.size) := ⟨_, hid rfl⟩
  rw [← HNQ.out] at HNB
  have HB := hid (bt' HB4.out hb5)
  have HVW := hid (HV4.out.below hb5)
  have HKA := hid (HKA4.out.below hb5 HKA4.out.lt)
  have HKB := hid (HKB4.out.below hb5 HKB4.out.lt)
  have HXBW : Hid (Boxed W xb 25 (.pointer (some ⟨x, 0, none⟩))) := (hb5.block _ HXB4.out.lt).trans HXB4.out
  have HRBW : Hid (Boxed W (xb + 1) 4 (.bool false)) := (hb5.block _ HRB4.out.lt).trans HRB4.out
  have HW := hid hW
  have HL := hid (HL0.out.below HB.out)
  have HX := hid (HX0.out.below HB.out)
  have HSA : Hid (∀ V, ScL W V → (ScL W V ∧ V.cell? ⟨qa, 0, none⟩ = some (.bool en) ∧ V.cell? ⟨qa, 1, none⟩ = some (.string et) ∧ V.cell? ⟨qa, 2, none⟩ = some (.string ec) ∧ V.cell? ⟨qa, 3, none⟩ = some (.int .i64 ee) ∧ V.cell? ⟨qa, 4, none⟩ = some (.slice bo EL cp) ∧ V.cell? ⟨qb, 0, none⟩ = some (.bool en) ∧ V.cell? ⟨qb, 1, none⟩ = some (.string et) ∧ V.cell? ⟨qb, 2, none⟩ = some (.string ec) ∧ V.cell? ⟨qb, 3, none⟩ = some (.int .i64 ee) ∧ V.cell? ⟨qb, 4, none⟩ = some (.slice yo EL yc) ∧ V.cell? ⟨nb, 0, none⟩ = some (.int .i64 (pre : Int)) ∧ V.cell? ⟨xb, 0, none⟩ = some (.pointer (some ⟨x, 0, none⟩)) ∧ V.cell? ⟨x, 0, none⟩ = some (.slice eo N cap))) := fun V hV => by
    have h1 := HKA.out.below hV.out HKA.out.lt
    have h2 := HKB.out.below hV.out HKB.out.lt
    have h3 := (HX.out.below hV.out).rl.blk.cell (i := 0) rfl
    rw [HN.out] at h3
    have h4 : Boxed V nb 3 (.int .i64 (pre : Int)) := (hV.out.block _ HNB.out.lt).trans HNB.out
    have h5 : Boxed V xb 25 (.pointer (some ⟨x, 0, none⟩)) := (hV.out.block _ HXBW.out.lt).trans HXBW.out
    exact ⟨hV, h1.cell rfl, h1.cell rfl, h1.cell rfl, h1.cell rfl, h1.cell rfl, h2.cell rfl, h2.cell rfl, h2.cell rfl, h2.cell rfl, h2.cell rfl, h4.cell, h5.cell, h3⟩
  have HC1 : Hid (∀ V, ScL W V → Calls Try.prog 12 #[.agg #[.bool en, .string et, .string ec, .int .i64 ee, .slice bo EL cp], .agg #[.bool en, .string et, .string ec, .int .i64 ee, .slice yo EL yc]] V fun e w' => e = .returned (.bool true) ∧ ScL W w') := fun V hV => by
    have h1 := sameEntry_A V ⟨⟨en, et, ec, ee, ed⟩, bo, cp⟩ ⟨⟨en, et, ec, ee, ed⟩, yo, yc⟩ ⟨HVW.out.below hV.out, HEO.out.1, HEO.out.2.1, HEO.out.2.2⟩ (HY4.out V (bt' HB.out hV.out))
    simp only [EnM.val, decide_true] at h1
    rw [HEL.out] at h1
    exact h1.mono (fun e w' hh => ⟨hh.1, hV.go hh.2⟩)
  have HC2 : Hid (∀ V, ScL W V → Calls Try.prog 13 #[.pointer (some ⟨p, 0, none⟩)] V fun e w' => e = .returned (.int .i64 (pre : Int)) ∧ w' = V) := fun V hV => (HL.out.below hV.out).toLrMid.prefix
  have HC3 : Hid (∀ V, ScL W V → Calls Try.prog 16 #[.pointer (some ⟨p, 0, none⟩)] V fun e w' => e = .returned (.int .i64 (N : Int)) ∧ w' = V) := fun V hV => by
    have h1 := (HL.out.below hV.out).toLrMid.len
    rw [HGN.out] at h1
    exact h1
  obtain ⟨XE, HXE⟩ : ∃ l, Hid (extraL g.ks pre = l) := ⟨_, hid rfl⟩
  obtain ⟨XL, HXL⟩ : ∃ k, Hid (XE.length = k) := ⟨_, hid rfl⟩
  obtain ⟨ME, HME⟩ : ∃ l, Hid (missL g.ks pre z most = l) := ⟨_, hid rfl⟩
  obtain ⟨ML, HML⟩ : ∃ k, Hid (ME.length = k) := ⟨_, hid rfl⟩
  have HC4 : Hid (∀ V, ScL W V → Calls Try.prog 15 #[.pointer (some ⟨p, 0, none⟩)] V fun e w' => ∃ ao cp, e = .returned (.slice ao XL cp) ∧ Hid (HV w' ao cp XE) ∧ ScL W w' ∧ Hid (Below V.heap.size V w')) := fun V hV => by
    have h1 := (HL.out.below hV.out).extras
    rw [HXE.out] at h1
    refine h1.mono ?_
    rintro e w' ⟨ao, cp, rfl, h2, _, h4⟩
    rw [HXL.out]
    exact ⟨ao, cp, rfl, h2, hV.go h4, h4⟩
  have HC5 : Hid (∀ V, ScL W V → Calls Try.prog 29 #[.pointer (some ⟨x, 0, none⟩)] V fun e w' => ∃ ao cp, e = .returned (.slice ao XL cp) ∧ Hid (HV w' ao cp XE) ∧ ScL W w' ∧ Hid (Below V.heap.size V w')) := fun V hV => by
    have h1 := (HX.out.below hV.out).rl.extras
    rw [HTW.out.extra HOK.out, HPE.out] at h1
    refine h1.mono ?_
    rintro e w' hh
    obtain ⟨ao, cp, rfl, h2, _, h4⟩ := rowP_ext hh (extra_rng HOK.out pre).1 (extra_rng HOK.out pre).2
    rw [HXE.out] at h2 ⊢
    rw [HXL.out]
    exact ⟨ao, cp, rfl, h2, hV.go h4, h4⟩
  have HC6 : Hid (∀ V ao bo ca cb, ScL W V → HV V ao ca XE → HV V bo cb XE → Calls Try.prog 28 #[.slice ao XL ca, .slice bo XL cb] V fun e w' => e = .returned (.bool true) ∧ ScL W w') := fun V ao bo ca cb hV h1 h2 => by
    have h3 := sameIntsR V ao bo ca cb XE XE XL XL HXL.out HXL.out h1 h2
    rw [decide_eq_true rfl] at h3
    refine h3.mono ?_
    rintro e w' ⟨he, q, rfl⟩
    exact ⟨he, hV.go (below_dn (Below.refl _ _) q)⟩
  have HC7 : Hid (∀ V, ScL W V → Calls Try.prog 14 #[.pointer (some ⟨p, 0, none⟩), .int .i64 most] V fun e w' => ∃ ao cp, e = .returned (.slice ao ML cp) ∧ Hid (HV w' ao cp ME) ∧ ScL W w' ∧ Hid (Below V.heap.size V w')) := fun V hV => by
    have h1 := (HL.out.below hV.out).missing most
    rw [HME.out] at h1
    refine h1.mono ?_
    rintro e w' ⟨ao, cp, rfl, h2, _, h4⟩
    rw [HML.out]
    exact ⟨ao, cp, rfl, h2, hV.go h4, h4⟩
  have HC8 : Hid (∀ V, ScL W V → Calls Try.prog 30 #[.pointer (some ⟨x, 0, none⟩), .int .i64 most] V fun e w' => ∃ ao cp, e = .returned (.slice ao ML cp) ∧ Hid (HV w' ao cp ME) ∧ ScL W w' ∧ Hid (Below V.heap.size V w')) := fun V hV => by
    have h1 := (HX.out.below hV.out).rl.missing (by rw [HTW.out.ns]; exact HOK.out.rise) (fun y hy => HOK.out.slot y.n (by rw [← HTW.out.ns]; exact List.mem_map.2 ⟨y, hy, rfl⟩)) most
    refine h1.mono ?_
    rintro e w' ⟨sb, hbe, hh⟩
    have hmi := HTW.out.missing HOK.out hbe HPP.out HFIN.out HPZ.out.1 most
    rw [HTW.out.ns, hmi] at hh
    obtain ⟨ao, cp, rfl, h2, _, h4⟩ := rowP_miss hh (miss_rng g.ks pre z most HPZ.out.2 HPZ.out.1).1 (miss_rng g.ks pre z most HPZ.out.2 HPZ.out.1).2
    rw [HME.out] at h2 ⊢
    rw [HML.out]
    exact ⟨ao, cp, rfl, h2, hV.go h4, h4⟩
  have HC9 : Hid (∀ V ao bo ca cb, ScL W V → HV V ao ca ME → HV V bo cb ME → Calls Try.prog 28 #[.slice ao ML ca, .slice bo ML cb] V fun e w' => e = .returned (.bool true) ∧ ScL W w') := fun V ao bo ca cb hV h1 h2 => by
    have h3 := sameIntsR V ao bo ca cb ME ME ML ML HML.out HML.out h1 h2
    rw [decide_eq_true rfl] at h3
    refine h3.mono ?_
    rintro e w' ⟨he, q, rfl⟩
    exact ⟨he, hV.go (below_dn (Below.refl _ _) q)⟩
  have hnb : (is != is) = false := by cases is <;> rfl
  have hnp : ((pre : Int) != (pre : Int)) = false := by simp
  have hnn : ((N : Int) != (N : Int)) = false := by simp
  clear hb5 hW HPR
  go_wp2
  rw [← HNQ.out, ← HW.out]
  go_region_held3 (fun V => ScL W V ∧ V.cell? ⟨qa, 0, none⟩ = some (.bool en) ∧ V.cell? ⟨qa, 1, none⟩ = some (.string et) ∧ V.cell? ⟨qa, 2, none⟩ = some (.string ec) ∧ V.cell? ⟨qa, 3, none⟩ = some (.int .i64 ee) ∧ V.cell? ⟨qa, 4, none⟩ = some (.slice bo EL cp) ∧ V.cell? ⟨qb, 0, none⟩ = some (.bool en) ∧ V.cell? ⟨qb, 1, none⟩ = some (.string et) ∧ V.cell? ⟨qb, 2, none⟩ = some (.string ec) ∧ V.cell? ⟨qb, 3, none⟩ = some (.int .i64 ee) ∧ V.cell? ⟨qb, 4, none⟩ = some (.slice yo EL yc) ∧ V.cell? ⟨nb, 0, none⟩ = some (.int .i64 (pre : Int)) ∧ V.cell? ⟨xb, 0, none⟩ = some (.pointer (some ⟨x, 0, none⟩)) ∧ V.cell? ⟨x, 0, none⟩ = some (.slice eo N cap))
    ((refine HSA.out _ ?_; (repeat (first | with_reducible assumption | exact ScL.start _ | apply ScL.dr))))
    (first
      | (go_at_call 12; with_reducible refine (HC1.out _ (by (repeat (first | with_reducible assumption | exact ScL.start _ | apply ScL.dr)))).mono ?_; rintro e x1 ⟨rfl, hs1⟩)
      | (go_at_call 13; with_reducible refine (HC2.out _ (by (repeat (first | with_reducible assumption | exact ScL.start _ | apply ScL.dr)))).mono ?_; rintro e x2 ⟨rfl, rfl⟩)
      | (go_at_call 16; with_reducible refine (HC3.out _ (by (repeat (first | with_reducible assumption | exact ScL.start _ | apply ScL.dr)))).mono ?_; rintro e x3 ⟨rfl, rfl⟩)
      | (go_at_call 15; with_reducible refine (HC4.out _ (by (repeat (first | with_reducible assumption | exact ScL.start _ | apply ScL.dr)))).mono ?_; rintro e x4 ⟨ao4, ca4, rfl, HV4, hs4, _⟩)
      | (go_at_call 29; with_reducible refine (HC5.out _ (by (repeat (first | with_reducible assumption | exact ScL.start _ | apply ScL.dr)))).mono ?_; rintro e x5 ⟨ao5, ca5, rfl, HV5, hs5, HB5⟩; have HV45 := hid (HV4.out.below HB5.out))
      | (go_at_call 28; with_reducible refine (HC6.out _ _ _ _ _ (by (repeat (first | with_reducible assumption | exact ScL.start _ | apply ScL.dr))) HV45.out HV5.out).mono ?_; rintro e x6 ⟨rfl, hs6⟩)
      | (go_at_call 14; with_reducible refine (HC7.out _ (by (repeat (first | with_reducible assumption | exact ScL.start _ | apply ScL.dr)))).mono ?_; rintro e x7 ⟨ao7, ca7, rfl, HV7, hs7, _⟩)
      | (go_at_call 30; with_reducible refine (HC8.out _ (by (repeat (first | with_reducible assumption | exact ScL.start _ | apply ScL.dr)))).mono ?_; rintro e x8 ⟨ao8, ca8, rfl, HV8, hs8, HB8⟩; have HV78 := hid (HV7.out.below HB8.out))
      | (go_at_call 28; with_reducible refine (HC9.out _ _ _ _ _ (by (repeat (first | with_reducible assumption | exact ScL.start _ | apply ScL.dr))) HV78.out HV8.out).mono ?_; rintro e x9 ⟨rfl, hs9⟩)
      | fail)
  have hs7 : ScL W x9 := hs9
  obtain ⟨W7, hW7⟩ : ∃ V, x9 = V := ⟨_, rfl⟩
  clear HV4 HV5 HV45 HV7 HV8 HV78 HB5 HB8 hs1 hs4 hs5 hs6 hs7 hs8
  rename_i hHeld
  clear hHeld
  have hs7 := hs9
  rw [hW7] at hs7 ⊢
  clear hs9 hW7 x9
  clear HC1 HC2 HC3 HC4 HC5 HC6 HC7 HC8 HC9 HSA hnb hnp hnn
  obtain ⟨a, HA⟩ : ∃ a : Nat, Hid (max s 0 = (a : Int)) := ⟨(max s 0).toNat, by show _ = _; omega⟩
  have HB7 := hid (bt' HB.out hs7.out)
  have HNB7 : Hid (Boxed W7 nb 3 (.int .i64 (pre : Int))) := (hs7.out.block _ HNB.out.lt).trans HNB.out
  have HXB7 : Hid (Boxed W7 xb 25 (.pointer (some ⟨x, 0, none⟩))) := (hs7.out.block _ HXBW.out.lt).trans HXBW.out
  have HRB7 : Hid (Boxed W7 (xb + 1) 4 (.bool false)) := (hs7.out.block _ HRBW.out.lt).trans HRBW.out
  have HL7 := hid (HL.out.below hs7.out)
  have HX7 := hid (HX.out.below hs7.out)
  clear hs7 HNB HXBW HRBW HL HX HKA HKB HVW HB HL0 HX0 HB4 HV4 HKA4 HKB4 HXB4 HRB4 HB2 HV2 HKA2 HXB2 HRB2 HB1 HV1 HXB1 HRB1 HB0
  go_upto_if 77 with fail
  go_cut [14] from 77 to 77 (fun s14 wx => s14 = .int .i64 (a : Int) ∧ wx = W7)
  case first =>
    by_cases h0 : s < 0
    · have HA0 : Hid ((a : Int) = 0) := by have := HA.out; exact (by omega : (a : Int) = 0)
      go_wp2
      go_meet
      exact ⟨by rw [HA0.out], rfl⟩
    · have HA0 : Hid ((a : Int) = s) := by have := HA.out; exact (by omega : (a : Int) = s)
      go_wp2
      go_meet
      exact ⟨by rw [HA0.out], rfl⟩
  case rest =>
    obtain ⟨rfl, hwc⟩ := hcut
    rw [hwc]
    clear hwc wc
    obtain ⟨ib, HIB⟩ : ∃ q, Hid (q = W7.heap.size) := ⟨_, hid rfl⟩
    obtain ⟨W8, hW8⟩ : ∃ V, V = W7.alloc (.cells #[.int .i64 (a : Int)] 3) := ⟨_, rfl⟩
    have hb8 : Below W7.heap.size W7 W8 := by rw [hW8]; exact (Below.refl _ _).alloc (Nat.le_refl _) _
    have HI8 : Hid (Boxed W8 ib 3 (.int .i64 (a : Int))) := by rw [hW8, HIB.out]; exact Boxed.new W7 _ _
    have HB8 := hid hb8
    have hql := eql_funcR
    go_wp2_with fail
    rw [← HIB.out, ← hW8]
    clear hW8 hb8
    refine (fromR_any W8 (some ⟨p, 0, none⟩) s).mono ?_
    rintro e w3 ⟨rfl, hw3⟩
    obtain ⟨_, _, hb3⟩ := from_boxes _ _ _ hw3
    have HB73 := hid (bt' HB8.out hb3)
    have HI3 : Hid (Boxed w3 ib 3 (.int .i64 (a : Int))) := (hb3.block _ HI8.out.lt).trans HI8.out
    clear hw3 hb3 HI8 HB8
    go_wp2_with fail
    clear hql
    refine (fromR_any w3 (some ⟨p, 0, none⟩) s).mono ?_
    rintro e X ⟨rfl, hX⟩
    obtain ⟨hq0, hq1, hb4⟩ := from_boxes _ _ _ hX
    have HBX := hid (bt' HB73.out hb4)
    have HIX : Hid (Boxed X ib 3 (.int .i64 (a : Int))) := (hb4.block _ HI3.out.lt).trans HI3.out
    obtain ⟨q0, HQ0⟩ : ∃ q, Hid (q = w3.heap.size) := ⟨_, hid rfl⟩
    rw [← HQ0.out] at hq0 hq1 ⊢
    have HQ : Hid (W7.heap.size < q0) := by
      have h1 := HI3.out.lt
      have h2 := HIB.out
      have h3 := HQ0.out
      exact (by omega : W7.heap.size < q0)
    have HQB0 := hid hq0
    have HQB1 := hid hq1
    have HBV : Hid (∀ V, KpJ ib (X.heap.size + 1) X V → Below W7.heap.size W7 V) := fun V hk => by
      refine HBX.out.trans (Turns.below hk (fun i hi => ?_) HBX.out.size)
      have h1 := HIB.out
      have h2 := HBX.out.size
      rcases hi with h | h <;> omega
    clear hX hb4 HI3 HB73 hq0 hq1
    have HFR : Hid (∀ W', KpJ ib (X.heap.size + 1) X W' → FrAt W' q0 (q0 + 1) p m pre z g s) := fun W' hk => by
      have h1 := HIB.out
      have h2 := HQ.out
      have h3 := HQB1.out.lt
      refine ⟨boxed_turned HQB0.out hk ?_, boxed_turned HQB1.out hk ?_, HL7.out.below (HBV.out W' hk)⟩
      · rintro (h | h) <;> omega
      · rintro (h | h) <;> omega
    go_wp2
    refine (wpIn_wide (n := 5)).1 ?_
    apply wpIn_rangeFunc_Gc (encs := fun x : Int × EnM => #[.int .i64 x.1, x.2.val]) (Kp := KpJ ib (X.heap.size + 1)) (G := fun pr x U => FromG (X.heap.size + 2) g a pre pr x U) (S := fun ys => FromTo g a ys ∧ a + ys.length = max pre a) (Sp := fun pr => FromTo g a pr) rfl (by omega) (gf := 31) (lb := #[.pointer (some ⟨q0, 0, none⟩), .pointer (some ⟨q0 + 1, 0, none⟩)]) rfl trivial (enters_of Try.func31 (by kernel_rfl) rfl)
      (I := RnJ X ib (X.heap.size + 1) a) (Ix := fun _ _ _ => False) (X := fun pr x U => FromG (X.heap.size + 2) g a pre pr x U) (Bx := fun x => x.2.cells) (t := 33)
    case hseq =>
      intro r J Jx hJ _ hY hj
      have hbr : Below X.heap.size X ((X.alloc (.deferred (some []))).alloc (.loop r)) := ((Below.refl _ _).alloc (Nat.le_refl _) _).alloc (by simp) _
      have hsz : ((X.alloc (.deferred (some []))).alloc (.loop r)).heap.size = X.heap.size + 2 := by simp
      refine from_inG 4 (by omega) (X.heap.size + 1) q0 (q0 + 1) (KpJ ib (X.heap.size + 1)) (KpJ.refl _ _) (fun h k => KpJ.trans h k) (fun h => KpJ.below h) (fun h => Turns.size h) (s := s) (a := a) HA.out J Jx hJ (fun pr x U hj' hg => (hY pr x U hj' (by rw [hsz] at hg; exact hg)).mono (fun e V' h => h.elim (fun h => .inl h) (fun h => .inr ⟨h.1, h.2.1⟩))) (fun W' hk => HFR.out W' ((KpJ.below hbr).trans hk)) hj
    case hKt => exact fun h k => KpJ.trans h k
    case hKb =>
      intro U r r' _
      exact Turns.of_grown (grownBy_putObj' U _ _) (fun j e => by cases e; exact .inr rfl)
    case hps => exact fun _ => rfl
    case hI => exact rnJ_own X ib (X.heap.size + 1) a
    case hIx => exact fun _ _ _ _ _ h _ _ => h
    case h0 => exact ⟨by simpa using HIX.out, KpJ.refl _ _ _⟩
    case hX => exact fun pr x => fromG_ownJ _ _ _ _ _ _ _
    case hassign =>
      rintro l' pr x U K' hltU hI hG hK'
      have hba : Below U.heap.size U (U.alloc (.cells #[.bool x.2.e.noop, .string x.2.e.tok, .string x.2.e.cart, .int .i64 x.2.e.ep, .slice x.2.ao x.2.e.cut.length x.2.cap] 33)) := (Below.refl _ _).alloc (Nat.le_refl _) _
      have hI2 := (rnJ_own X ib (X.heap.size + 1) a).alloc (.cells #[.bool x.2.e.noop, .string x.2.e.tok, .string x.2.e.cart, .int .i64 x.2.e.ep, .slice x.2.ao x.2.e.cut.length x.2.cap] 33) hI
      have hG2 := (fromG_ownJ (X.heap.size + 2) X.heap.size g a pre pr x).alloc (.cells #[.bool x.2.e.noop, .string x.2.e.tok, .string x.2.e.cart, .int .i64 x.2.e.ep, .slice x.2.ao x.2.e.cut.length x.2.cap] 33) (s := ()) hG
      have hbk := Blk.new U 33 x.2.cells
      obtain ⟨gg, hgg⟩ : ∃ z, z = U.heap.size := ⟨_, rfl⟩
      have hgl : X.heap.size ≤ gg := by omega
      rw [← hgg] at hbk
      dsimp only [EnM.val]
      gi_wp2
      rw [← hgg]
      exact hK' gg _ ⟨hba.block _ hltU, hba.block _ (by omega)⟩ (KpJ.below hba) hI2 hG2 hbk hgl
    case hbody =>
      rintro l' pr ⟨sx, ⟨⟨yn, yt, yd, ye, yk⟩, yo2, ycap⟩⟩ gg U ⟨rc, hkp⟩ hR hG hbk hgl
      have HR := hid hR
      have HG := hid hG
      have HKP := hid hkp
      obtain ⟨c, HC⟩ : ∃ c : Nat, Hid (a + pr.length = c) := ⟨_, hid rfl⟩
      have hsp : sx = (c : Int) := by have := hG.at_; rw [HC.out] at this; exact this
      subst hsp
      have HLT : Hid (c < pre) := by have h1 := hG.lt; simp only at h1; exact (by omega : c < pre)
      have hBU := HBV.out U hR.kp
      have HXU := hid (HX7.out.below hBU)
      obtain ⟨hcx, hcn⟩ := preR_at 0 xs c (by rw [HPE.out]; exact HLT.out)
      rw [Nat.zero_add] at hcn
      have HCX := hid hcx
      have HEN : Hid ((xs[c]'hcx).en.e = ⟨yn, yt, yd, ye, yk⟩) := by
        have h1 := HTW.out.fs (xs[c]'hcx) (List.getElem_mem hcx)
        rw [hcn] at h1
        have h2 : g.f (c : Int) = some ⟨yn, yt, yd, ye, yk⟩ := HG.out.en
        rw [h1] at h2
        exact hid (Option.some.inj h2)
      have HXK := hid ((HXU.out.rl.ok _ (List.getElem_mem hcx)).en)
      obtain ⟨b9, off, hao, hb9, d0, d1, d2, d3, d4, d5⟩ := HXU.out.rl.held.cellsD hcx
      rw [st_getD hcx] at d0 d1 d2 d3 d4 d5
      obtain ⟨xx, HXX⟩ : ∃ x, Hid ((xs[c]'hcx).en = x) := ⟨_, hid rfl⟩
      rw [HXX.out] at d1 d2 d3 d4 d5 HEN HXK
      obtain ⟨⟨xn, xt, xc, xe, xd⟩, xo, xcap⟩ := xx
      obtain ⟨XD, HXD⟩ : ∃ z, Hid (xd.length = z) := ⟨_, hid rfl⟩
      obtain ⟨YN, HYN⟩ : ∃ z, Hid (yk.length = z) := ⟨_, hid rfl⟩
      simp only at d1 d2 d3 d4 d5
      rw [HXD.out] at d5
      have e0 := hbk.cell (i := 0) rfl
      have e1 := hbk.cell (i := 1) rfl
      have e2 := hbk.cell (i := 2) rfl
      have e3 := hbk.cell (i := 3) rfl
      have e4 := hbk.cell (i := 4) rfl
      simp only at e0 e1 e2 e3 e4
      rw [HYN.out] at e4
      have hci := hR.ibx.cell
      rw [HC.out] at hci
      have HNBU : Hid (Boxed U nb 3 (.int .i64 (pre : Int))) := (hBU.block _ HNB7.out.lt).trans HNB7.out
      have HXBU : Hid (Boxed U xb 25 (.pointer (some ⟨x, 0, none⟩))) := (hBU.block _ HXB7.out.lt).trans HXB7.out
      have hcn2 := HNBU.out.cell
      have hcx2 := HXBU.out.cell
      have hrx := HXU.out.rl.blk.cell (i := 0) rfl
      rw [HN.out] at hrx
      subst hao
      have HSE : Hid (∀ B : Beyond U, CallsIn Fence.wide 2 Try.prog 12 #[.agg #[.bool yn, .string yt, .string yd, .int .i64 ye, .slice yo2 YN ycap], .agg #[.bool xn, .string xt, .string xc, .int .i64 xe, .slice xo XD xcap]] B.now (fun e w'' => e = .returned (.bool true) ∧ ∃ Y : Beyond U, w'' = Y.now)) := fun B => by
        have h1 := sameEntry_A B.now ⟨⟨yn, yt, yd, ye, yk⟩, yo2, ycap⟩ ⟨⟨xn, xt, xc, xe, xd⟩, xo, xcap⟩ (HG.out.keep.ok.below B.is) (HXK.out.below B.is)
        rw [decide_eq_true (show (⟨yn, yt, yd, ye, yk⟩ : En) = ⟨xn, xt, xc, xe, xd⟩ from HEN.out.symm)] at h1
        simp only [EnM.val] at h1
        rw [HXD.out, HYN.out] at h1
        refine (callsIn_wide.2 h1).mono ?_
        rintro e w'' ⟨he, hb9⟩
        exact ⟨he, ⟨w'', B.is.trans (hb9.mono B.is.size)⟩, rfl⟩
      have HC0 : Hid (∃ B : Beyond U, { U with drawn := U.drawn + 1 } = B.now) := ⟨⟨_, below_dn (Below.refl _ _) 1⟩, rfl⟩
      have kci := fun B : Beyond U => B.cell hci (World.block_lt_of_cell? U _ hci)
      have kcn := fun B : Beyond U => B.cell hcn2 (World.block_lt_of_cell? U _ hcn2)
      have kcx := fun B : Beyond U => B.cell hcx2 (World.block_lt_of_cell? U _ hcx2)
      have krx := fun B : Beyond U => B.cell hrx (World.block_lt_of_cell? U _ hrx)
      have ke0 := fun B : Beyond U => B.cell e0 (World.block_lt_of_cell? U _ e0)
      have ke1 := fun B : Beyond U => B.cell e1 (World.block_lt_of_cell? U _ e1)
      have ke2 := fun B : Beyond U => B.cell e2 (World.block_lt_of_cell? U _ e2)
      have ke3 := fun B : Beyond U => B.cell e3 (World.block_lt_of_cell? U _ e3)
      have ke4 := fun B : Beyond U => B.cell e4 (World.block_lt_of_cell? U _ e4)
      have kx1 := fun B : Beyond U => B.cell d1 (World.block_lt_of_cell? U _ d1)
      have kx2 := fun B : Beyond U => B.cell d2 (World.block_lt_of_cell? U _ d2)
      have kx3 := fun B : Beyond U => B.cell d3 (World.block_lt_of_cell? U _ d3)
      have kx4 := fun B : Beyond U => B.cell d4 (World.block_lt_of_cell? U _ d4)
      have kx5 := fun B : Beyond U => B.cell d5 (World.block_lt_of_cell? U _ d5)
      have hg1 : decide ((pre : Int) ≤ (c : Int)) = false := decide_eq_false (by have := HLT.out; omega)
      have hg2 : decide (pre ≤ c) = false := decide_eq_false (by have := HLT.out; omega)
      have hg3 : ((c : Int) != (c : Int)) = false := by simp
      have hgN : (c : Int) < (N : Int) := by have := HN.out; have := HCX.out; omega
      have hg0 : (0 : Int) ≤ (c : Int) := by omega
      have hwc : wrap64 ((c : Int) + 1) = (c : Int) + 1 := wrapS (by omega) (by have := HLT.out; have := HP6.out; omega)
      have HIXL : Hid (ib < X.heap.size) := HIX.out.lt
      clear d0 hb9 hcn hR hG hkp hbk hBU
      gi_wp2
      refine wpIn_region_round (fun w' => ∃ B : Beyond U, w' = B.now) l' rfl (by kernel_rfl) (by kernel_rfl) (by kernel_rfl) HC0.out ?_
      repeat (gi_big_quiet_step (fail))
      refine quiet_call (.bool true) (fun _ _ _ _ => trivial) rfl 12 #[.agg #[.bool yn, .string yt, .string yd, .int .i64 ye, .slice yo2 YN ycap], .agg #[.bool xn, .string xt, .string xc, .int .i64 xe, .slice xo XD xcap]] (fun w' _ => by go_simp) (fun h => by cases h) (fun w' hc => by obtain ⟨B, rfl⟩ := hc; exact HSE.out B) ?_
      go_simp
      repeat (gi_big_quiet_step (fail))
      refine wpQuietIn_nil ?_
      intro B
      have hib : Boxed B.now ib 3 (.int .i64 (c : Int)) := by
        have := HR.out.ibx
        rw [HC.out] at this
        exact (B.is.block _ this.lt).trans this
      have kn1 := hib.cell
      have kf1 := hib.frozen
      have HRN : Hid (RnJ X ib (X.heap.size + 1) a (pr ++ [((c : Int), (⟨⟨yn, yt, yd, ye, yk⟩, yo2, ycap⟩ : EnM))]) (B.now.setCell ⟨ib, 0, none⟩ (.int .i64 ((c : Int) + 1)))) := by
        refine ⟨?_, ?_⟩
        · have := hib.set (.int .i64 ((c : Int) + 1))
          rw [List.length_append, List.length_singleton, show ((a + (pr.length + 1) : Nat) : Int) = (c : Int) + 1 by have := HC.out; omega]
          exact this
        · exact (HR.out.kp.trans (KpJ.below B.is)).trans ((turns_set B.now ib _).mono (fun i hi => .inl hi))
      have hTU : Turns (fun i => i = ib) U (B.now.setCell ⟨ib, 0, none⟩ (.int .i64 ((c : Int) + 1))) := (Turns.of_below (F := fun i => i = ib) B.is (Nat.le_refl _)).trans (turns_set B.now ib _) (fun i hi => .inl hi)
      have HTK : Hid (KeptAs X.heap.size U (B.now.setCell ⟨ib, 0, none⟩ (.int .i64 ((c : Int) + 1)))) := KeptAs.turns hTU HKP.out.lt (by have := HIXL.out; omega) (by have := HIXL.out; omega)
      have HTP : Hid (KpJ ib (X.heap.size + 1) U (B.now.setCell ⟨ib, 0, none⟩ (.int .i64 ((c : Int) + 1)))) := hTU.mono (fun i hi => .inl hi)
      clear hib hTU kci kcn kcx krx ke0 ke1 ke2 ke3 ke4 kx1 kx2 kx3 kx4 kx5 hci hcn2 hcx2 hrx e0 e1 e2 e3 e4 d1 d2 d3 d4 d5 HSE HC0 hg1 hg2 hg3
      generalize B.now = W9 at *
      gi_wp2
      exact ⟨HTK.out, HTP.out, HRN.out⟩
    case hdone =>
      intro D ys U hD hys hRP hDef
      obtain ⟨iv, HIV⟩ : ∃ c : Nat, Hid (a + ys.length = c) := ⟨_, hid rfl⟩
      have HMX : Hid (iv = max pre a) := by rw [← HIV.out]; exact hys.2
      have hBU := HBV.out U hRP.kp
      have hib := hRP.ibx
      rw [HIV.out] at hib
      have hnb : Boxed U nb 3 (.int .i64 (pre : Int)) := (hBU.block _ HNB7.out.lt).trans HNB7.out
      have hrb : Boxed U (xb + 1) 4 (.bool false) := (hBU.block _ HRB7.out.lt).trans HRB7.out
      have hxw : w.heap.size ≤ xb + 1 := by have := HXB.out; omega
      have HRT : Hid (Boxed (U.setCell ⟨xb + 1, 0, none⟩ (.bool true)) (xb + 1) 4 (.bool true)) := hrb.set (.bool true)
      have hbU : Below w.heap.size w U := bt' HB7.out hBU
      have HBF : Hid (Below w.heap.size w (U.setCell ⟨xb + 1, 0, none⟩ (.bool true))) := hbU.setCell (p := ⟨xb + 1, 0, none⟩) hxw _
      have hwD : w.heap.size ≤ D := by have h1 := HBX.out.size; have h2 := HB7.out.size; omega
      have hDr : D ≠ xb + 1 := by have h1 := HRB7.out.lt; have h2 := HBX.out.size; omega
      have HMK : Hid (Marks w.heap.size [D] (U.setCell ⟨xb + 1, 0, none⟩ (.bool true))) := by
        refine (Marks.nil w.heap.size (U.setCell ⟨xb + 1, 0, none⟩ (.bool true))).push hwD ?_ (by simp)
        have hlt : D < U.heap.size := (Array.getElem?_eq_some_iff.1 hDef).1
        exact ((turns_set U (xb + 1) (.bool true)).block D hlt hDr).trans hDef
      have HEND : Hid (∀ fr : Array Value, fr.getD 8 undef = .pointer (some ⟨xb + 1, 0, none⟩) → LeavesInM Fence.wide 5 Try.prog Try.f10 fr (fun e w' => e = .returned (.bool true) ∧ Below w.heap.size w w') ([D].map markD) .returning (U.setCell ⟨xb + 1, 0, none⟩ (.bool true))) := fun fr hfr => by
        refine leavesM_all (B := w.heap.size) (fun U => Below w.heap.size w U ∧ Boxed U (xb + 1) 4 (.bool true)) ?_ ?_ [D] _ HMK.out ⟨HBF.out, HRT.out⟩
        · rintro U D ⟨h1, h2⟩ hD hU
          refine ⟨belowJ h1 hD _, ?_⟩
          have h3 : U.heap[xb + 1]? = some (.cells #[.bool true] 4 (0, 0)) := h2
          show (U.putObj D (.deferred none)).heap[xb + 1]? = _
          rw [World.putObj_heap_other (by rintro rfl; rw [h3] at hU; cases hU)]
          exact h3
        · rintro U ⟨h1, h2⟩
          exact ⟨_, results_cellR rfl _ _ hfr h2.cell, rfl, h1⟩
      have ci := hib.cell
      have cn := hnb.cell
      have cr := hrb.cell
      have fr := hrb.frozen
      clear hib hnb hrb hBU hbU hys hRP hDef hD HRT HBF HMK HFR HBV HRB7 HXB7 HNB7
      by_cases hap : a ≤ pre
      · have hiv : iv = pre := by have := HMX.out; omega
        subst hiv
        go_wp2
        exact HEND.out _ rfl
      · have hiv : iv = a := by have := HMX.out; omega
        subst hiv
        have h1 : ((iv : Int) == (pre : Int)) = false := by simp; omega
        have h2 : (pre : Int) < (iv : Int) := by omega
        have h3 : decide ((pre : Int) < (iv : Int)) = true := decide_eq_true h2
        have h4 : decide (pre < iv) = true := decide_eq_true (by omega)
        clear hap
        go_wp2
        exact HEND.out _ rfl
    case hstop =>
      intro D c pr U _ _ hf
      exact hf.elim
end Go.Proofs.Ytgghfmdciohinaa
