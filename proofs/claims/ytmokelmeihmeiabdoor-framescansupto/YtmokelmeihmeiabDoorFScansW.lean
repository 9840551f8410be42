/-
  pannierlaw02.FrameScans answers true for any bytes of at most 1048576 and any number, in whatever memory in which the table of remainders lies; it writes nothing that was there.
-/
import Derived.Test.YtmokelmeihmeiabDoorFScansA
import Derived.Test.YtmokelmeihmeiabDoorFRefScan
import Derived.Test.YtmokelmeihmeiabDoorFSame
import Derived.LoopNIn
namespace Go.Proofs.YtmokelmeihmeiabDoor
open Go.RowKit Go.Shelf
attribute [local go_sem] Oper.semAt_some

theorem own_made_at (w : World) (B g : Nat) (hg : g = w.heap.size) (hB : B ≤ w.heap.size) : (w.alloc (.cells #[] 5)).ownsRow B 5 1 (.slice (some ⟨g, 0, none⟩) 0 0) 0 (nums []) := by
  subst hg; exact own_made w B hB

theorem Tryd.infoB : (Tryd.prog.info? 4).map (fun i => (i.zero, i.size, i.bytes)) = some (some (.bool false), 1, 1) := by kernel_rfl
theorem results_cell4 {fn : Func} {t : Tmp} (h : fn.results = #[.cell t 4]) (tmps : Array Value) (w : World) {B : Nat} {v : Value} (hp : tmps.getD t undef = .pointer (some ⟨B, 0, none⟩)) (hc : w.cell? ⟨B, 0, none⟩ = some v) :
    (results fn tmps).run Tryd.prog w = .ok v w := by
  obtain ⟨i, hi, _, hs, _⟩ := info_parts Tryd.infoB
  have hp' : tmps[t]?.getD undef = .pointer (some ⟨B, 0, none⟩) := by simpa using hp
  simp [results, h, hp', hc, go_sem]

set_option maxRecDepth 100000 in
set_option maxHeartbeats 3200000 in
theorem frameScans_walk (ao : Option Addr) (len cap : Nat) (bs : List Int) (most : Int) (w : World) (ht : Tab w) (h : Held w ao len cap bs) (hl : len ≤ 1048576) (_hmost : -9223372036854775808 ≤ most ∧ most ≤ 9223372036854775807) :
    Calls Tryd.prog 4 #[.slice ao len cap, .int .i64 most] w fun e w' => e = .returned (.bool true) ∧ Below w.heap.size w w' := by
  refine (callsIn_wide (n := 5)).1 ?_
  obtain ⟨i0, hi, hz0, hz1, hz2⟩ := info_parts Tryd.info5
  have hlen := h.hlen
  have HH := hid h
  have HT := hid ht
  clear h ht
  refine callsIn_of_wp_marks Tryd.func4 rfl trivial ?_ rfl
  simp only [Tryd.ntmps4, List.size_toArray, List.length_cons, List.length_nil, Nat.reduceAdd, Nat.reduceSub, Array.replicate_succ, Array.replicate_zero, List.push_toArray, List.append_toArray, List.nil_append, List.cons_append]
  have hA : Below w.heap.size w (((w.alloc (.cells #[.int .i64 most] 3)).alloc (.cells #[.bool false] 4)).alloc (.cells #[] 5)) := (((Below.refl _ w).alloc (Nat.le_refl _) _).alloc (by simp) _).alloc (by simp; omega) _
  have bM : Boxed (((w.alloc (.cells #[.int .i64 most] 3)).alloc (.cells #[.bool false] 4)).alloc (.cells #[] 5)) w.heap.size 3 (.int .i64 most) := ((Boxed.new w 3 _).alloc _).alloc _
  have bR : Boxed (((w.alloc (.cells #[.int .i64 most] 3)).alloc (.cells #[.bool false] 4)).alloc (.cells #[] 5)) (w.heap.size + 1) 4 (.bool false) := by
    have := Boxed.new (w.alloc (.cells #[.int .i64 most] 3)) 4 (.bool false)
    rw [World.size_alloc] at this
    exact this.alloc _
  have HHA : Hid (Held (((w.alloc (.cells #[.int .i64 most] 3)).alloc (.cells #[.bool false] 4)).alloc (.cells #[] 5)) ao len cap bs) := HH.out.below hA (Nat.le_refl _)
  have HA := hid hA
  have HM := hid bM
  have HR := hid bR
  clear hA bM bR
  gi_wp2_with (gi_at_builtin; refine wpListIn_append_held _ rfl _ _ 22 rfl (w.heap.size + 2) 5 i0 Tryd.underlying22 hi hz0 hz1 hz2 _ 0 [] rfl (own_made_at _ _ _ (by simp) (by simp)) allb_nil ao len cap bs rfl HHA.out (by omega) (by simp) ?_)
  intro o1 c1 w1 ad hsome hh1 hb1
  subst hsome
  have HH1 := hid hh1
  have HB1 : Hid (Below w.heap.size w w1) := HA.out.trans (hb1.mono (by simp))
  have HM1 : Hid (Boxed w1 w.heap.size 3 (.int .i64 most)) := (hb1.block _ (by simp)).trans HM.out
  have HR1 : Hid (Boxed w1 (w.heap.size + 1) 4 (.bool false)) := (hb1.block _ (by simp)).trans HR.out
  have s1 := HB1.out.size
  have sR1 := HR1.out.lt
  clear hh1 hb1 HM HR HA HHA
  have hsc := scan_plain (some ad) len c1 bs w1 (HT.out.here HB1.out) HH1.out (by omega)
  have HSC := hid hsc
  clear hsc
  gi_wp2_with fail
  refine ⟨trivial, (callsIn_wide.2 HSC.out).mono ?_⟩
  rintro e w2 ⟨lo, ln, lc, rfl, hs2, hb2⟩
  have HS2 := hid hs2
  have HB12 := hid hb2
  have HB2 : Hid (Below w.heap.size w w2) := HB1.out.trans (hb2.mono s1)
  have s2 := hb2.size
  clear hs2 hb2 HSC
  have HRS := hid (refScan_any ao len cap bs w2 (HH.out.below HB2.out (Nat.le_refl _)) (by omega))
  gi_wp2_with fail
  refine ⟨trivial, (callsIn_wide.2 HRS.out).mono ?_⟩
  rintro e w3 ⟨mo, mn, mc, rfl, hs3, hb3⟩
  have HS3 := hid hs3
  have hmn := hs3.hlen
  have HB23 := hid hb3
  have s3 := hb3.size
  have HB13 : Hid (Below w1.heap.size w1 w3) := HB12.out.trans (hb3.mono s2)
  have HB3 : Hid (Below w.heap.size w w3) := HB2.out.trans (hb3.mono (by omega))
  clear hs3 hb3 HRS
  have hbx : Below w3.heap.size w3 (w3.alloc (.cells #[.slice mo mn mc] 30)) := (Below.refl _ w3).alloc (Nat.le_refl _) _
  have HBX := hid hbx
  have HB3' : Hid (Below w.heap.size w (w3.alloc (.cells #[.slice mo mn mc] 30))) := HB3.out.trans (hbx.mono (by omega))
  have HLV := hid (lives_any (w3.alloc (.cells #[.slice mo mn mc] 30)) (HT.out.here HB3'.out))
  clear hbx
  gi_wp2_with fail
  refine ⟨trivial, (callsIn_wide.2 HLV.out).mono ?_⟩
  rintro e w4 ⟨rfl, hb4⟩
  have s4 := hb4.size
  rw [World.size_alloc] at s4
  have HBm : Hid (Boxed w4 w3.heap.size 30 (.slice mo mn mc)) := (hb4.block _ (by simp)).trans (Boxed.new w3 _ _)
  have HB34 : Hid (Below w3.heap.size w3 w4) := HBX.out.trans (hb4.mono (by simp))
  have HB4 : Hid (Below w.heap.size w w4) := HB3.out.trans (HB34.out.mono (by omega))
  have HB14 : Hid (Below w1.heap.size w1 w4) := HB13.out.trans (HB34.out.mono (by omega))
  have HS24 : Hid (HeldS w4 lo ln lc (pays bs)) := (HS2.out.below HB23.out (Nat.le_refl _)).below HB34.out (Nat.le_refl _)
  have HS34 : Hid (HeldS w4 mo mn mc (pays bs)) := HS3.out.below HB34.out (Nat.le_refl _)
  have HO4 : Hid (Held w4 (some ad) len c1 bs) := HH1.out.below HB14.out (Nat.le_refl _)
  have HM4 : Hid (Boxed w4 w.heap.size 3 (.int .i64 most)) := (HB14.out.block _ (by omega)).trans HM1.out
  have HR4 : Hid (Boxed w4 (w.heap.size + 1) 4 (.bool false)) := (HB14.out.block _ (by omega)).trans HR1.out
  have hcm := HBm.out.cell
  clear hb4 HLV HB3' HBX HS2 HS3 HB12 HB23 HB34 HB13 HM1 HR1 HH1
  gi_wp2_with fail
  refine ⟨trivial, (callsIn_wide.2 (sameTexts_eq lo mo ln mn lc mc (pays bs) w4 HS24.out HS34.out)).mono ?_⟩
  rintro e w5 ⟨rfl, q, rfl⟩
  have hcx := run_convert_held (P := Tryd.prog) (HO4.out.drawn q) 22 5 9 Tryd.underlying22 Tryd.underlying5 Tryd.underlying9
  have hcy := run_convert_held (P := Tryd.prog) ((HH.out.below HB4.out (Nat.le_refl _)).drawn q) 22 5 9 Tryd.underlying22 Tryd.underlying5 Tryd.underlying9
  obtain ⟨X, HX⟩ : ∃ X, Hid (strOfNums bs = X) := ⟨_, hid rfl⟩
  rw [HX.out] at hcx hcy
  have HB5 : Hid (Below w.heap.size w (w4.drewN q)) := below_dn HB4.out q
  have HO5 : Hid (Held (w4.drewN q) (some ad) len c1 bs) := HO4.out.drawn q
  have HM5 : Hid (Boxed (w4.drewN q) w.heap.size 3 (.int .i64 most)) := HM4.out
  have HR5 : Hid (Boxed (w4.drewN q) (w.heap.size + 1) 4 (.bool false)) := HR4.out
  have Hm5 : Hid (Boxed (w4.drewN q) w3.heap.size 30 (.slice mo mn mc)) := HBm.out
  have HS5 : Hid (HeldS (w4.drewN q) mo mn mc (pays bs)) := HS34.out.below (below_dn (Below.refl _ _) q) (Nat.le_refl _)
  clear HS24 HS34 HO4 HM4 HR4 HBm hcm HB4 HB14
  generalize w4.drewN q = w5 at *
  gi_wp2
  clear hcx hcy
  refine wpIn_loop_rounds 3 ?_
  rw [roundsIn_succ]
  have s5 := HB5.out.size
  have hpos : 0 < w5.heap.size := by have := HR5.out.lt; omega
  have HV0 : Hid (Below w5.heap.size w5 (((w5.alloc (.cells #[.int .i64 0] 3)).alloc (.cells #[.int .i64 0] 3)).alloc (.cells #[.int .i64 0] 3))) := (((Below.refl _ w5).alloc (Nat.le_refl _) _).alloc (by simp) _).alloc (by simp; omega) _
  have HVr : Hid (Boxed (((w5.alloc (.cells #[.int .i64 0] 3)).alloc (.cells #[.int .i64 0] 3)).alloc (.cells #[.int .i64 0] 3)) w5.heap.size 3 (.int .i64 0)) := ((Boxed.new w5 3 _).alloc _).alloc _
  have HVi : Hid (Boxed (((w5.alloc (.cells #[.int .i64 0] 3)).alloc (.cells #[.int .i64 0] 3)).alloc (.cells #[.int .i64 0] 3)) (w5.heap.size + 1) 3 (.int .i64 0)) := by
    have := Boxed.new (w5.alloc (.cells #[.int .i64 0] 3)) 3 (.int .i64 0)
    rw [World.size_alloc] at this
    exact hid (this.alloc _)
  have HVa : Hid (Boxed (((w5.alloc (.cells #[.int .i64 0] 3)).alloc (.cells #[.int .i64 0] 3)).alloc (.cells #[.int .i64 0] 3)) (w5.heap.size + 1 + 1) 3 (.int .i64 0)) := by
    have := Boxed.new ((w5.alloc (.cells #[.int .i64 0] 3)).alloc (.cells #[.int .i64 0] 3)) 3 (.int .i64 0)
    rw [World.size_alloc, World.size_alloc] at this
    exact hid this
  have hV0s : (((w5.alloc (.cells #[.int .i64 0] 3)).alloc (.cells #[.int .i64 0] 3)).alloc (.cells #[.int .i64 0] 3)).heap.size = w5.heap.size + 3 := by simp
  have HOV : Hid (Held (((w5.alloc (.cells #[.int .i64 0] 3)).alloc (.cells #[.int .i64 0] 3)).alloc (.cells #[.int .i64 0] 3)) (some ad) len c1 bs) := HO5.out.below HV0.out (Nat.le_refl _)
  gi_wp2_with fail
  generalize (((w5.alloc (.cells #[.int .i64 0] 3)).alloc (.cells #[.int .i64 0] 3)).alloc (.cells #[.int .i64 0] 3)) = V0 at *
  refine ⟨trivial, (callsIn_wide.2 (all_any ad len c1 bs V0 HOV.out (by omega))).mono ?_⟩
  rintro e V1 ⟨nb1, _, _, rfl, _, _, hb01, _, _⟩
  have HB01 := hid hb01
  have s01 := hb01.size
  have HOV1 : Hid (Held V1 (some ad) len c1 bs) := HOV.out.below hb01 (Nat.le_refl _)
  have hql := fun W => all_eql nb1 W
  clear hb01
  gi_wp2_with fail
  clear hql
  refine ⟨trivial, (callsIn_wide.2 (all_any ad len c1 bs V1 HOV1.out (by omega))).mono ?_⟩
  rintro e V2 ⟨Bs, co, cc, rfl, hbx, hh2, hb12, hBs, hblk⟩
  have s12 := hb12.size
  have HB02 : Hid (Below V0.heap.size V0 V2) := HB01.out.trans (hb12.mono s01)
  have HB52 : Hid (Below w5.heap.size w5 V2) := HV0.out.trans (HB02.out.mono (by omega))
  have HVr2 : Hid (Boxed V2 w5.heap.size 3 (.int .i64 0)) := (HB02.out.block _ (by omega)).trans HVr.out
  have HVi2 : Hid (Boxed V2 (w5.heap.size + 1) 3 (.int .i64 0)) := (HB02.out.block _ (by omega)).trans HVi.out
  have HVa2 : Hid (Boxed V2 (w5.heap.size + 1 + 1) 3 (.int .i64 0)) := (HB02.out.block _ (by omega)).trans HVa.out
  have HSQ := hid (scans_seq 4 (by omega) w5.heap.size V0 V2 Bs co len cc bs (by omega) (by omega) (by omega) hbx hh2 (fun a ha => by have := hblk a ha; omega) hpos (HT.out.here (HB5.out.trans (HB52.out.mono s5))) (by omega))
  have sV2 : V0.heap.size ≤ V2.heap.size := by omega
  clear hbx hh2 hb12 hBs hblk HB01 HVr HVi HVa HOV HOV1
  gi_wp2
  --RANGE
  obtain ⟨I, hI0⟩ : ∃ I : List (Int × ByteArray) → World → Prop, I = (fun (pre : List (Int × ByteArray)) (W : World) => ((Boxed W w5.heap.size 3 (.int .i64 0) ∧ Boxed W (w5.heap.size + 1) 3 (.int .i64 (pre.length : Int))) ∧ Boxed W (w5.heap.size + 1 + 1) 3 (.int .i64 (endOf pre))) ∧ Below w5.heap.size w5 W) := ⟨_, rfl⟩
  have hIo : OwnFrom V2.heap.size I := by
    rw [hI0]
    exact OwnFrom.and (OwnFrom.and (OwnFrom.and (Own.from (boxed_own w5.heap.size 3 (fun _ : List (Int × ByteArray) => .int .i64 0)) _) (Own.from (boxed_own (w5.heap.size + 1) 3 (fun pre : List (Int × ByteArray) => .int .i64 (pre.length : Int))) _)) (Own.from (boxed_own (w5.heap.size + 1 + 1) 3 (fun pre : List (Int × ByteArray) => .int .i64 (endOf pre))) _)) (ownFrom_below (Nat.le_refl _) (by omega))
  have hN : (scanAll bs).length = mn := by rw [← hmn, ← scan_pays, List.length_map]
  have hmn2 : mn ≤ 1048576 := by have := scanAll_len bs; omega
  have hseq := HSQ.out
  apply wpIn_rangeFunc_ownG (encs := fun x : Int × ByteArray => #[Value.int .i64 x.1, Value.string x.2]) (Kp := Kq w5.heap.size V0.heap.size V2.heap.size) rfl (by omega) (gf := 24) (lb := #[.pointer (some ⟨Bs, 0, none⟩)]) rfl trivial (enters_of Tryd.func24 (by kernel_rfl) rfl)
    hseq (fun a b => Kq.trans a b)
    (fun W l o o' hl ho hc hw => ⟨belowK_b (w := V2) (by omega) W l o o' hl ho hc hw, fun k _ h2 => (grownBy_putObj' W l o').block k (by have := (Array.getElem?_eq_some_iff.1 ho).1; omega) (by intro e; have := Option.some.inj e; omega)⟩)
    (Below.refl _ _) (fun _ => rfl) I (fun c pre W => (c = .ret ∧ ¬ pre <+: scanAll bs) ∨ ((c = .exit 2 ∧ (pre.length : Int) = most) ∧ I pre W)) hIo
    (fun c => ownFrom_or hIo (fun pre => c = .exit 2 ∧ (pre.length : Int) = most))
    (by rw [hI0]; exact ⟨⟨⟨HVr2.out, HVi2.out⟩, HVa2.out⟩, HB52.out⟩) _
  case hassign =>
    intro l x W K hK
    gi_wp2
    exact hK
  case hbody =>
    rintro l pre ⟨x1, x2⟩ W hIp hlt
    rw [hI0] at hIp
    obtain ⟨⟨⟨hr, hii⟩, haa⟩, hB⟩ := hIp
    rw [hN] at hlt
    have hcr := hr.cell
    have hci := hii.cell
    have hca := haa.cell
    have hfi := hii.frozen
    have hfa := haa.frozen
    have hbm : Boxed W w3.heap.size 30 (.slice mo mn mc) := (hB.block _ Hm5.out.lt).trans Hm5.out
    have hcm := hbm.cell
    have hbM : Boxed W w.heap.size 3 (.int .i64 most) := (hB.block _ HM5.out.lt).trans HM5.out
    have hcM := hbM.cell
    have hbR : Boxed W (w.heap.size + 1) 4 (.bool false) := (hB.block _ HR5.out.lt).trans HR5.out
    have hcR := hbR.cell
    have hfR := hbR.frozen
    obtain ⟨mb, moff, hmo, hmlt, hmcell⟩ := HS5.out.at (by omega : 0 < mn)
    obtain ⟨S, HSS⟩ : ∃ S, Hid ((pays bs).getD pre.length ByteArray.empty = S) := ⟨_, hid rfl⟩
    have hce : W.cell? ⟨mb, moff + pre.length, none⟩ = some (.string S) := by
      rw [hB.cell (by simpa using hmlt), hmcell _ hlt, HSS.out]
    obtain ⟨E, HEE⟩ : ∃ E, Hid (endOf pre = E) := ⟨_, hid rfl⟩
    rw [HEE.out] at hca
    obtain ⟨pl, hpl⟩ : ∃ pl, pre.length = pl := ⟨_, rfl⟩
    rw [hpl] at hlt hci hce
    have hge : decide (mn ≤ pl) = false := decide_eq_false (by omega)
    have hp0 : (0 : Int) ≤ (pl : Int) := by omega
    have hpI : (pl : Int) < (mn : Int) := by omega
    have HIB := hid hB
    have Hr := hid hr
    have Hii := hid hii
    have Haa := hid haa
    clear hmcell hB hr hii haa hbm hbM hbR
    by_cases hx2 : x2.toList = S.toList
    · by_cases hx1 : x1 = E
      · subst hx1
        have hkf : ∀ u v, KeepsFrom V2.heap.size W ((W.setCell ⟨w5.heap.size + 1 + 1, 0, none⟩ u).setCell ⟨w5.heap.size + 1, 0, none⟩ v) := fun u v => ((KeepsOthers.setCell _ _ _).trans (KeepsOthers.setCell _ _ _)).from _
        have hkq : ∀ u v, Kq w5.heap.size V0.heap.size V2.heap.size W ((W.setCell ⟨w5.heap.size + 1 + 1, 0, none⟩ u).setCell ⟨w5.heap.size + 1, 0, none⟩ v) := fun u v => Kq.trans (Kq.set W (by omega) (by omega) u) (Kq.set _ (by omega) (by omega) v)
        have hII : I (pre ++ [(x1, x2)]) ((W.setCell ⟨w5.heap.size + 1 + 1, 0, none⟩ (.int .i64 (wrap64 (wrap64 (x1 + 8) + x2.size)))).setCell ⟨w5.heap.size + 1, 0, none⟩ (.int .i64 ((pl : Int) + 1))) := by
          rw [hI0]
          refine ⟨⟨⟨(Hr.out.other (by omega) _).other (by omega) _, ?_⟩, ?_⟩, (HIB.out.setCell (p := ⟨w5.heap.size + 1 + 1, 0, none⟩) (by simp; omega) _).setCell (p := ⟨w5.heap.size + 1, 0, none⟩) (by simp) _⟩
          · have := (Hii.out.other (show w5.heap.size + 1 ≠ w5.heap.size + 1 + 1 by omega) (.int .i64 (wrap64 (wrap64 (x1 + 8) + x2.size)))).set (.int .i64 ((pl : Int) + 1))
            rw [show ((pre ++ [(x1, x2)]).length : Int) = (pl : Int) + 1 by simp [hpl]]
            exact this
          · rw [endOf_snoc]
            exact (Haa.out.set _).other (by omega) _
        have HKF := hid hkf
        have HKQ := hid hkq
        have HII := hid hII
        clear hkf hkq hII
        by_cases hbk : (pl : Int) + 1 = most
        · have hb1 : ((pl : Int) + 1 == most) = true := by simpa using hbk
          have HBK := hid hbk
          clear hbk
          gi_wp2
          exact ⟨HKF.out _ _, .inr ⟨⟨rfl, by simp [hpl]; exact HBK.out⟩, HII.out⟩⟩
        · have hb1 : ((pl : Int) + 1 == most) = false := by simpa using hbk
          gi_wp2
          exact ⟨HKF.out _ _, HKQ.out _ _, HII.out⟩
      · have hne : (x1 != E) = true := by simpa using hx1
        gi_wp2
        refine ⟨(KeepsOthers.setCell _ _ _).from _, .inl ⟨rfl, fun hpf => hx1 ?_⟩⟩
        rw [← HEE.out]
        exact scanAll_place (by omega) hpf
    · gi_wp2
      refine ⟨(KeepsOthers.setCell _ _ _).from _, .inl ⟨rfl, fun hpf => hx2 ?_⟩⟩
      have := scanAll_pay hpf
      rw [HSS.out] at this
      rw [← this]
  case hdone =>
    rintro D xs W hD rfl hIp hDef
    rw [hI0] at hIp
    obtain ⟨⟨⟨hr, hii⟩, haa⟩, hB⟩ := hIp
    rw [hN] at hii
    have hcr := hr.cell
    have hfr := hr.frozen
    have hci := hii.cell
    have hbm : Boxed W w3.heap.size 30 (.slice mo mn mc) := (hB.block _ Hm5.out.lt).trans Hm5.out
    have hcm := hbm.cell
    have hbM : Boxed W w.heap.size 3 (.int .i64 most) := (hB.block _ HM5.out.lt).trans HM5.out
    have hcM := hbM.cell
    have HB := hid hB
    have HDef := hid hDef
    clear hB hDef hr hii haa hbm hbM
    gi_wp2
    rw [roundsIn_succ]
    have sW := HB.out.size
    have hDlt : D < W.heap.size := (Array.getElem?_eq_some_iff.1 HDef.out).1
    have HU0 : Hid (Below w5.heap.size w5 (((W.alloc (.cells #[.int .i64 1] 3)).alloc (.cells #[.int .i64 0] 3)).alloc (.cells #[.int .i64 0] 3))) := ((HB.out.alloc sW _).alloc (by simp; omega) _).alloc (by simp; omega) _
    have HUr : Hid (Boxed (((W.alloc (.cells #[.int .i64 1] 3)).alloc (.cells #[.int .i64 0] 3)).alloc (.cells #[.int .i64 0] 3)) W.heap.size 3 (.int .i64 1)) := ((Boxed.new W 3 _).alloc _).alloc _
    have HUi : Hid (Boxed (((W.alloc (.cells #[.int .i64 1] 3)).alloc (.cells #[.int .i64 0] 3)).alloc (.cells #[.int .i64 0] 3)) (W.heap.size + 1) 3 (.int .i64 0)) := by
      have := Boxed.new (W.alloc (.cells #[.int .i64 1] 3)) 3 (.int .i64 0)
      rw [World.size_alloc] at this
      exact hid (this.alloc _)
    have HUa : Hid (Boxed (((W.alloc (.cells #[.int .i64 1] 3)).alloc (.cells #[.int .i64 0] 3)).alloc (.cells #[.int .i64 0] 3)) (W.heap.size + 1 + 1) 3 (.int .i64 0)) := by
      have := Boxed.new ((W.alloc (.cells #[.int .i64 1] 3)).alloc (.cells #[.int .i64 0] 3)) 3 (.int .i64 0)
      rw [World.size_alloc, World.size_alloc] at this
      exact hid this
    have HUD : Hid ((((W.alloc (.cells #[.int .i64 1] 3)).alloc (.cells #[.int .i64 0] 3)).alloc (.cells #[.int .i64 0] 3)).heap[D]? = some (.deferred (some []))) := by
      show _ = _
      rw [Below.heap_alloc _ _ _ (by simp; omega), Below.heap_alloc _ _ _ (by simp; omega), Below.heap_alloc _ _ _ hDlt]
      exact HDef.out
    have hU0s : (((W.alloc (.cells #[.int .i64 1] 3)).alloc (.cells #[.int .i64 0] 3)).alloc (.cells #[.int .i64 0] 3)).heap.size = W.heap.size + 3 := by simp
    have HOU : Hid (Held (((W.alloc (.cells #[.int .i64 1] 3)).alloc (.cells #[.int .i64 0] 3)).alloc (.cells #[.int .i64 0] 3)) (some ad) len c1 bs) := HO5.out.below HU0.out (Nat.le_refl _)
    clear hcr hfr hci hcm hcM
    gi_wp2_with fail
    generalize (((W.alloc (.cells #[.int .i64 1] 3)).alloc (.cells #[.int .i64 0] 3)).alloc (.cells #[.int .i64 0] 3)) = U0 at *
    refine ⟨trivial, (callsIn_wide.2 (all_any ad len c1 bs U0 HOU.out (by omega))).mono ?_⟩
    rintro e U1 ⟨nb2, _, _, rfl, _, _, hb01, _, _⟩
    have HBU1 := hid hb01
    have su1 := hb01.size
    have HOU1 : Hid (Held U1 (some ad) len c1 bs) := HOU.out.below hb01 (Nat.le_refl _)
    have hql := fun W => all_eql nb2 W
    clear hb01
    gi_wp2_with fail
    clear hql
    refine ⟨trivial, (callsIn_wide.2 (all_any ad len c1 bs U1 HOU1.out (by omega))).mono ?_⟩
    rintro e U2 ⟨Bs2, co2, cc2, rfl, hbx, hh2, hb12, hBs, hblk⟩
    have su2 := hb12.size
    have HBU2 : Hid (Below U0.heap.size U0 U2) := HBU1.out.trans (hb12.mono su1)
    have HB5U : Hid (Below w5.heap.size w5 U2) := HU0.out.trans (HBU2.out.mono (by omega))
    have HUr2 : Hid (Boxed U2 W.heap.size 3 (.int .i64 1)) := (HBU2.out.block _ (by omega)).trans HUr.out
    have HUi2 : Hid (Boxed U2 (W.heap.size + 1) 3 (.int .i64 0)) := (HBU2.out.block _ (by omega)).trans HUi.out
    have HUa2 : Hid (Boxed U2 (W.heap.size + 1 + 1) 3 (.int .i64 0)) := (HBU2.out.block _ (by omega)).trans HUa.out
    have HUD2 : Hid (U2.heap[D]? = some (.deferred (some []))) := (HBU2.out.block _ (by omega)).trans HUD.out
    have hseq2 := scans_seq 4 (by omega) w5.heap.size U0 U2 Bs2 co2 len cc2 bs (by omega) (by omega) (by omega) hbx hh2 (fun a ha => by have := hblk a ha; omega) hpos (HT.out.here (HB5.out.trans (HB5U.out.mono s5))) (by omega)
    have sU2 : U0.heap.size ≤ U2.heap.size := by omega
    clear hbx hh2 hb12 hBs hblk HBU1 HUr HUi HUa HOU HOU1 HUD
    gi_wp2
    obtain ⟨I2, hI2⟩ : ∃ I : List (Int × ByteArray) → World → Prop, I = (fun (pre : List (Int × ByteArray)) (W' : World) => (((Boxed W' W.heap.size 3 (.int .i64 1) ∧ Boxed W' (W.heap.size + 1) 3 (.int .i64 (pre.length : Int))) ∧ Boxed W' (W.heap.size + 1 + 1) 3 (.int .i64 (endOf pre))) ∧ Below w5.heap.size w5 W') ∧ W'.heap[D]? = some (.deferred (some []))) := ⟨_, rfl⟩
    have hIo2 : OwnFrom U2.heap.size I2 := by
      rw [hI2]
      exact OwnFrom.and (OwnFrom.and (OwnFrom.and (OwnFrom.and (Own.from (boxed_own W.heap.size 3 (fun _ : List (Int × ByteArray) => .int .i64 1)) _) (Own.from (boxed_own (W.heap.size + 1) 3 (fun pre : List (Int × ByteArray) => .int .i64 (pre.length : Int))) _)) (Own.from (boxed_own (W.heap.size + 1 + 1) 3 (fun pre : List (Int × ByteArray) => .int .i64 (endOf pre))) _)) (ownFrom_below (Nat.le_refl _) (by omega))) (ownFrom_at (by omega))
    apply wpIn_rangeFunc_ownG (encs := fun x : Int × ByteArray => #[Value.int .i64 x.1, Value.string x.2]) (Kp := Kq w5.heap.size U0.heap.size U2.heap.size) rfl (by omega) (gf := 24) (lb := #[.pointer (some ⟨Bs2, 0, none⟩)]) rfl trivial (enters_of Tryd.func24 (by kernel_rfl) rfl)
      hseq2 (fun a b => Kq.trans a b)
      (fun W l o o' hl ho hc hw => ⟨belowK_b (w := U2) (by omega) W l o o' hl ho hc hw, fun k _ h2 => (grownBy_putObj' W l o').block k (by have := (Array.getElem?_eq_some_iff.1 ho).1; omega) (by intro e; have := Option.some.inj e; omega)⟩)
      (Below.refl _ _) (fun _ => rfl) I2 (fun c pre W => (c = .ret ∧ ¬ pre <+: scanAll bs) ∨ (False ∧ I2 pre W)) hIo2
      (fun c => ownFrom_or hIo2 (fun pre => False))
      (by rw [hI2]; exact ⟨⟨⟨⟨HUr2.out, HUi2.out⟩, HUa2.out⟩, HB5U.out⟩, HUD2.out⟩) _
    case hassign =>
      intro l x W' K hK
      gi_wp2
      exact hK
    case hbody =>
      rintro l pre ⟨x1, x2⟩ W' hIp hlt
      rw [hI2] at hIp
      obtain ⟨⟨⟨⟨hr, hii⟩, haa⟩, hB⟩, hD1⟩ := hIp
      rw [hN] at hlt
      have hcr := hr.cell
      have hci := hii.cell
      have hca := haa.cell
      have hfi := hii.frozen
      have hfa := haa.frozen
      have hbm : Boxed W' w3.heap.size 30 (.slice mo mn mc) := (hB.block _ Hm5.out.lt).trans Hm5.out
      have hcm := hbm.cell
      have hbM : Boxed W' w.heap.size 3 (.int .i64 most) := (hB.block _ HM5.out.lt).trans HM5.out
      have hcM := hbM.cell
      have hbR : Boxed W' (w.heap.size + 1) 4 (.bool false) := (hB.block _ HR5.out.lt).trans HR5.out
      have hcR := hbR.cell
      have hfR := hbR.frozen
      obtain ⟨mb, moff, hmo, hmlt, hmcell⟩ := HS5.out.at (by omega : 0 < mn)
      obtain ⟨S, HSS⟩ : ∃ S, Hid ((pays bs).getD pre.length ByteArray.empty = S) := ⟨_, hid rfl⟩
      have hce : W'.cell? ⟨mb, moff + pre.length, none⟩ = some (.string S) := by
        rw [hB.cell (by simpa using hmlt), hmcell _ hlt, HSS.out]
      obtain ⟨E, HEE⟩ : ∃ E, Hid (endOf pre = E) := ⟨_, hid rfl⟩
      rw [HEE.out] at hca
      obtain ⟨pl, hpl⟩ : ∃ pl, pre.length = pl := ⟨_, rfl⟩
      rw [hpl] at hlt hci hce
      have hge : decide (mn ≤ pl) = false := decide_eq_false (by omega)
      have hp0 : (0 : Int) ≤ (pl : Int) := by omega
      have hpI : (pl : Int) < (mn : Int) := by omega
      have HIB := hid hB
      have HD1 := hid hD1
      have Hr := hid hr
      have Hii := hid hii
      have Haa := hid haa
      clear hmcell hB hr hii haa hbm hbM hbR hD1
      by_cases hx2 : x2.toList = S.toList
      · by_cases hx1 : x1 = E
        · subst hx1
          have hkf : ∀ u v, KeepsFrom U2.heap.size W' ((W'.setCell ⟨W.heap.size + 1 + 1, 0, none⟩ u).setCell ⟨W.heap.size + 1, 0, none⟩ v) := fun u v => ((KeepsOthers.setCell _ _ _).trans (KeepsOthers.setCell _ _ _)).from _
          have hkq : ∀ u v, Kq w5.heap.size U0.heap.size U2.heap.size W' ((W'.setCell ⟨W.heap.size + 1 + 1, 0, none⟩ u).setCell ⟨W.heap.size + 1, 0, none⟩ v) := fun u v => Kq.trans (Kq.set W' (by omega) (by omega) u) (Kq.set _ (by omega) (by omega) v)
          have hII : I2 (pre ++ [(x1, x2)]) ((W'.setCell ⟨W.heap.size + 1 + 1, 0, none⟩ (.int .i64 (wrap64 (wrap64 (x1 + 8) + x2.size)))).setCell ⟨W.heap.size + 1, 0, none⟩ (.int .i64 ((pl : Int) + 1))) := by
            rw [hI2]
            refine ⟨⟨⟨⟨(Hr.out.other (by omega) _).other (by omega) _, ?_⟩, ?_⟩, (HIB.out.setCell (p := ⟨W.heap.size + 1 + 1, 0, none⟩) (by simp; omega) _).setCell (p := ⟨W.heap.size + 1, 0, none⟩) (by simp; omega) _⟩, ?_⟩
            · have := (Hii.out.other (show W.heap.size + 1 ≠ W.heap.size + 1 + 1 by omega) (.int .i64 (wrap64 (wrap64 (x1 + 8) + x2.size)))).set (.int .i64 ((pl : Int) + 1))
              rw [show ((pre ++ [(x1, x2)]).length : Int) = (pl : Int) + 1 by simp [hpl]]
              exact this
            · rw [endOf_snoc]
              exact (Haa.out.set _).other (by omega) _
            · rw [Below.heap_setCell _ _ _ _ (by simp; omega), Below.heap_setCell _ _ _ _ (by simp; omega)]
              exact HD1.out
          have HKF := hid hkf
          have HKQ := hid hkq
          have HII := hid hII
          clear hkf hkq hII
          gi_wp2
          exact ⟨HKF.out _ _, HKQ.out _ _, HII.out⟩
        · have hne : (x1 != E) = true := by simpa using hx1
          gi_wp2
          refine ⟨(KeepsOthers.setCell _ _ _).from _, .inl ⟨rfl, fun hpf => hx1 ?_⟩⟩
          rw [← HEE.out]
          exact scanAll_place (by omega) hpf
      · gi_wp2
        refine ⟨(KeepsOthers.setCell _ _ _).from _, .inl ⟨rfl, fun hpf => hx2 ?_⟩⟩
        have := scanAll_pay hpf
        rw [HSS.out] at this
        rw [← this]
    case hdone =>
      rintro D2 xs W2 hD2 rfl hIp hDef2
      rw [hI2] at hIp
      obtain ⟨⟨⟨⟨hr, hii⟩, haa⟩, hB⟩, hD1⟩ := hIp
      rw [hN] at hii
      have hcr := hr.cell
      have hfr := hr.frozen
      have hci := hii.cell
      have hbm : Boxed W2 w3.heap.size 30 (.slice mo mn mc) := (hB.block _ Hm5.out.lt).trans Hm5.out
      have hcm := hbm.cell
      have hbM : Boxed W2 w.heap.size 3 (.int .i64 most) := (hB.block _ HM5.out.lt).trans HM5.out
      have hcM := hbM.cell
      have hbR : Boxed W2 (w.heap.size + 1) 4 (.bool false) := (hB.block _ HR5.out.lt).trans HR5.out
      have HBR := hid hbR
      have hbR2 := hbR.alloc (.cells #[.int .i64 2] 3)
      have hcR2 := hbR2.cell
      have hfR2 := hbR2.frozen
      have HBR2 := hid hbR2
      have HB2' := hid hB
      have HDef2 := hid hDef2
      have HD1 := hid hD1
      clear hB hDef2 hr hii haa hbm hbM hbR hbR2 hD1
      gi_wp2
      rw [roundsIn_succ]
      gi_wp2
      have hl2 : D2 < W2.heap.size := (Array.getElem?_eq_some_iff.1 HDef2.out).1
      have hl1 : D < W2.heap.size := (Array.getElem?_eq_some_iff.1 HD1.out).1
      have hK2 : ((W2.alloc (.cells #[.int .i64 2] 3)).setCell ⟨w.heap.size + 1, 0, none⟩ (.bool true)).heap[D2]? = some (.deferred (some [])) := by
        rw [Below.heap_setCell _ _ _ _ (by simp; omega), Below.heap_alloc _ _ _ hl2]
        exact HDef2.out
      have hK1 : (((W2.alloc (.cells #[.int .i64 2] 3)).setCell ⟨w.heap.size + 1, 0, none⟩ (.bool true)).putObj D2 (.deferred none)).heap[D]? = some (.deferred (some [])) := by
        rw [World.putObj_heap_other (by omega), Below.heap_setCell _ _ _ _ (by simp; omega), Below.heap_alloc _ _ _ hl1]
        exact HD1.out
      have hRf : Boxed ((((W2.alloc (.cells #[.int .i64 2] 3)).setCell ⟨w.heap.size + 1, 0, none⟩ (.bool true)).putObj D2 (.deferred none)).putObj D (.deferred none)) (w.heap.size + 1) 4 (.bool true) := by
        unfold Boxed
        rw [World.putObj_heap_other (by omega), World.putObj_heap_other (by omega)]
        exact HBR2.out.set (.bool true)
      have sWf : w.heap.size ≤ W2.heap.size := by have := HB2'.out.size; omega
      have hbW2 : Below w.heap.size w W2 := HB5.out.trans (HB2'.out.mono s5)
      have hbF : Below w.heap.size w ((((W2.alloc (.cells #[.int .i64 2] 3)).setCell ⟨w.heap.size + 1, 0, none⟩ (.bool true)).putObj D2 (.deferred none)).putObj D (.deferred none)) :=
        (((hbW2.alloc sWf _).setCell (p := ⟨w.heap.size + 1, 0, none⟩) (by simp) _).trans (belowK_b (w := w) (Nat.le_refl _) _ D2 _ _ (by omega) hK2 rfl rfl)).trans (belowK_b (w := w) (Nat.le_refl _) _ D _ _ (by omega) hK1 rfl rfl)
      refine ⟨by simp, .inl ⟨_, _, rfl, run_takeDeferred hK2, by simp, .inl ⟨_, _, rfl, run_takeDeferred hK1, ?_⟩⟩⟩
      exact ⟨_, results_cell4 rfl _ _ rfl hRf.cell, rfl, hbF⟩
    case hstop =>
      rintro D2 c pre W2 hD2 hpf hIp hDef2
      rcases hIp with ⟨_, hno⟩ | ⟨hf, _⟩
      · exact absurd hpf hno
      · exact hf.elim
  case hstop =>
    rintro D c pre W hD hpf hIp hDef
    rcases hIp with ⟨_, hno⟩ | ⟨⟨rfl, hpm⟩, hIp⟩
    · exact absurd hpf hno
    rw [hI0] at hIp
    obtain ⟨⟨⟨hr, hii⟩, haa⟩, hB⟩ := hIp
    rw [hpm] at hii
    have hcr := hr.cell
    have hfr := hr.frozen
    have hci := hii.cell
    have hbm : Boxed W w3.heap.size 30 (.slice mo mn mc) := (hB.block _ Hm5.out.lt).trans Hm5.out
    have hcm := hbm.cell
    have hbM : Boxed W w.heap.size 3 (.int .i64 most) := (hB.block _ HM5.out.lt).trans HM5.out
    have hcM := hbM.cell
    have HB := hid hB
    have HDef := hid hDef
    clear hB hDef hr hii haa hbm hbM hpm
    by_cases hmm : most = (mn : Int)
    · have hmm1 : (most != (mn : Int)) = false := by simpa using hmm
      clear hmm
      gi_wp2
      rw [roundsIn_succ]
      have sW := HB.out.size
      have hDlt : D < W.heap.size := (Array.getElem?_eq_some_iff.1 HDef.out).1
      have HU0 : Hid (Below w5.heap.size w5 (((W.alloc (.cells #[.int .i64 1] 3)).alloc (.cells #[.int .i64 0] 3)).alloc (.cells #[.int .i64 0] 3))) := ((HB.out.alloc sW _).alloc (by simp; omega) _).alloc (by simp; omega) _
      have HUr : Hid (Boxed (((W.alloc (.cells #[.int .i64 1] 3)).alloc (.cells #[.int .i64 0] 3)).alloc (.cells #[.int .i64 0] 3)) W.heap.size 3 (.int .i64 1)) := ((Boxed.new W 3 _).alloc _).alloc _
      have HUi : Hid (Boxed (((W.alloc (.cells #[.int .i64 1] 3)).alloc (.cells #[.int .i64 0] 3)).alloc (.cells #[.int .i64 0] 3)) (W.heap.size + 1) 3 (.int .i64 0)) := by
        have := Boxed.new (W.alloc (.cells #[.int .i64 1] 3)) 3 (.int .i64 0)
        rw [World.size_alloc] at this
        exact hid (this.alloc _)
      have HUa : Hid (Boxed (((W.alloc (.cells #[.int .i64 1] 3)).alloc (.cells #[.int .i64 0] 3)).alloc (.cells #[.int .i64 0] 3)) (W.heap.size + 1 + 1) 3 (.int .i64 0)) := by
        have := Boxed.new ((W.alloc (.cells #[.int .i64 1] 3)).alloc (.cells #[.int .i64 0] 3)) 3 (.int .i64 0)
        rw [World.size_alloc, World.size_alloc] at this
        exact hid this
      have HUD : Hid ((((W.alloc (.cells #[.int .i64 1] 3)).alloc (.cells #[.int .i64 0] 3)).alloc (.cells #[.int .i64 0] 3)).heap[D]? = some (.deferred (some []))) := by
        show _ = _
        rw [Below.heap_alloc _ _ _ (by simp; omega), Below.heap_alloc _ _ _ (by simp; omega), Below.heap_alloc _ _ _ hDlt]
        exact HDef.out
      have hU0s : (((W.alloc (.cells #[.int .i64 1] 3)).alloc (.cells #[.int .i64 0] 3)).alloc (.cells #[.int .i64 0] 3)).heap.size = W.heap.size + 3 := by simp
      have HOU : Hid (Held (((W.alloc (.cells #[.int .i64 1] 3)).alloc (.cells #[.int .i64 0] 3)).alloc (.cells #[.int .i64 0] 3)) (some ad) len c1 bs) := HO5.out.below HU0.out (Nat.le_refl _)
      clear hcr hfr hci hcm hcM
      gi_wp2_with fail
      generalize (((W.alloc (.cells #[.int .i64 1] 3)).alloc (.cells #[.int .i64 0] 3)).alloc (.cells #[.int .i64 0] 3)) = U0 at *
      refine ⟨trivial, (callsIn_wide.2 (all_any ad len c1 bs U0 HOU.out (by omega))).mono ?_⟩
      rintro e U1 ⟨nb2, _, _, rfl, _, _, hb01, _, _⟩
      have HBU1 := hid hb01
      have su1 := hb01.size
      have HOU1 : Hid (Held U1 (some ad) len c1 bs) := HOU.out.below hb01 (Nat.le_refl _)
      have hql := fun W => all_eql nb2 W
      clear hb01
      gi_wp2_with fail
      clear hql
      refine ⟨trivial, (callsIn_wide.2 (all_any ad len c1 bs U1 HOU1.out (by omega))).mono ?_⟩
      rintro e U2 ⟨Bs2, co2, cc2, rfl, hbx, hh2, hb12, hBs, hblk⟩
      have su2 := hb12.size
      have HBU2 : Hid (Below U0.heap.size U0 U2) := HBU1.out.trans (hb12.mono su1)
      have HB5U : Hid (Below w5.heap.size w5 U2) := HU0.out.trans (HBU2.out.mono (by omega))
      have HUr2 : Hid (Boxed U2 W.heap.size 3 (.int .i64 1)) := (HBU2.out.block _ (by omega)).trans HUr.out
      have HUi2 : Hid (Boxed U2 (W.heap.size + 1) 3 (.int .i64 0)) := (HBU2.out.block _ (by omega)).trans HUi.out
      have HUa2 : Hid (Boxed U2 (W.heap.size + 1 + 1) 3 (.int .i64 0)) := (HBU2.out.block _ (by omega)).trans HUa.out
      have HUD2 : Hid (U2.heap[D]? = some (.deferred (some []))) := (HBU2.out.block _ (by omega)).trans HUD.out
      have hseq2 := scans_seq 4 (by omega) w5.heap.size U0 U2 Bs2 co2 len cc2 bs (by omega) (by omega) (by omega) hbx hh2 (fun a ha => by have := hblk a ha; omega) hpos (HT.out.here (HB5.out.trans (HB5U.out.mono s5))) (by omega)
      have sU2 : U0.heap.size ≤ U2.heap.size := by omega
      clear hbx hh2 hb12 hBs hblk HBU1 HUr HUi HUa HOU HOU1 HUD
      gi_wp2
      obtain ⟨I2, hI2⟩ : ∃ I : List (Int × ByteArray) → World → Prop, I = (fun (pre : List (Int × ByteArray)) (W' : World) => (((Boxed W' W.heap.size 3 (.int .i64 1) ∧ Boxed W' (W.heap.size + 1) 3 (.int .i64 (pre.length : Int))) ∧ Boxed W' (W.heap.size + 1 + 1) 3 (.int .i64 (endOf pre))) ∧ Below w5.heap.size w5 W') ∧ W'.heap[D]? = some (.deferred (some []))) := ⟨_, rfl⟩
      have hIo2 : OwnFrom U2.heap.size I2 := by
        rw [hI2]
        exact OwnFrom.and (OwnFrom.and (OwnFrom.and (OwnFrom.and (Own.from (boxed_own W.heap.size 3 (fun _ : List (Int × ByteArray) => .int .i64 1)) _) (Own.from (boxed_own (W.heap.size + 1) 3 (fun pre : List (Int × ByteArray) => .int .i64 (pre.length : Int))) _)) (Own.from (boxed_own (W.heap.size + 1 + 1) 3 (fun pre : List (Int × ByteArray) => .int .i64 (endOf pre))) _)) (ownFrom_below (Nat.le_refl _) (by omega))) (ownFrom_at (by omega))
      apply wpIn_rangeFunc_ownG (encs := fun x : Int × ByteArray => #[Value.int .i64 x.1, Value.string x.2]) (Kp := Kq w5.heap.size U0.heap.size U2.heap.size) rfl (by omega) (gf := 24) (lb := #[.pointer (some ⟨Bs2, 0, none⟩)]) rfl trivial (enters_of Tryd.func24 (by kernel_rfl) rfl)
        hseq2 (fun a b => Kq.trans a b)
        (fun W l o o' hl ho hc hw => ⟨belowK_b (w := U2) (by omega) W l o o' hl ho hc hw, fun k _ h2 => (grownBy_putObj' W l o').block k (by have := (Array.getElem?_eq_some_iff.1 ho).1; omega) (by intro e; have := Option.some.inj e; omega)⟩)
        (Below.refl _ _) (fun _ => rfl) I2 (fun c pre W => (c = .ret ∧ ¬ pre <+: scanAll bs) ∨ (False ∧ I2 pre W)) hIo2
        (fun c => ownFrom_or hIo2 (fun pre => False))
        (by rw [hI2]; exact ⟨⟨⟨⟨HUr2.out, HUi2.out⟩, HUa2.out⟩, HB5U.out⟩, HUD2.out⟩) _
      case hassign =>
        intro l x W' K hK
        gi_wp2
        exact hK
      case hbody =>
        rintro l pre ⟨x1, x2⟩ W' hIp hlt
        rw [hI2] at hIp
        obtain ⟨⟨⟨⟨hr, hii⟩, haa⟩, hB⟩, hD1⟩ := hIp
        rw [hN] at hlt
        have hcr := hr.cell
        have hci := hii.cell
        have hca := haa.cell
        have hfi := hii.frozen
        have hfa := haa.frozen
        have hbm : Boxed W' w3.heap.size 30 (.slice mo mn mc) := (hB.block _ Hm5.out.lt).trans Hm5.out
        have hcm := hbm.cell
        have hbM : Boxed W' w.heap.size 3 (.int .i64 most) := (hB.block _ HM5.out.lt).trans HM5.out
        have hcM := hbM.cell
        have hbR : Boxed W' (w.heap.size + 1) 4 (.bool false) := (hB.block _ HR5.out.lt).trans HR5.out
        have hcR := hbR.cell
        have hfR := hbR.frozen
        obtain ⟨mb, moff, hmo, hmlt, hmcell⟩ := HS5.out.at (by omega : 0 < mn)
        obtain ⟨S, HSS⟩ : ∃ S, Hid ((pays bs).getD pre.length ByteArray.empty = S) := ⟨_, hid rfl⟩
        have hce : W'.cell? ⟨mb, moff + pre.length, none⟩ = some (.string S) := by
          rw [hB.cell (by simpa using hmlt), hmcell _ hlt, HSS.out]
        obtain ⟨E, HEE⟩ : ∃ E, Hid (endOf pre = E) := ⟨_, hid rfl⟩
        rw [HEE.out] at hca
        obtain ⟨pl, hpl⟩ : ∃ pl, pre.length = pl := ⟨_, rfl⟩
        rw [hpl] at hlt hci hce
        have hge : decide (mn ≤ pl) = false := decide_eq_false (by omega)
        have hp0 : (0 : Int) ≤ (pl : Int) := by omega
        have hpI : (pl : Int) < (mn : Int) := by omega
        have HIB := hid hB
        have HD1 := hid hD1
        have Hr := hid hr
        have Hii := hid hii
        have Haa := hid haa
        clear hmcell hB hr hii haa hbm hbM hbR hD1
        by_cases hx2 : x2.toList = S.toList
        · by_cases hx1 : x1 = E
          · subst hx1
            have hkf : ∀ u v, KeepsFrom U2.heap.size W' ((W'.setCell ⟨W.heap.size + 1 + 1, 0, none⟩ u).setCell ⟨W.heap.size + 1, 0, none⟩ v) := fun u v => ((KeepsOthers.setCell _ _ _).trans (KeepsOthers.setCell _ _ _)).from _
            have hkq : ∀ u v, Kq w5.heap.size U0.heap.size U2.heap.size W' ((W'.setCell ⟨W.heap.size + 1 + 1, 0, none⟩ u).setCell ⟨W.heap.size + 1, 0, none⟩ v) := fun u v => Kq.trans (Kq.set W' (by omega) (by omega) u) (Kq.set _ (by omega) (by omega) v)
            have hII : I2 (pre ++ [(x1, x2)]) ((W'.setCell ⟨W.heap.size + 1 + 1, 0, none⟩ (.int .i64 (wrap64 (wrap64 (x1 + 8) + x2.size)))).setCell ⟨W.heap.size + 1, 0, none⟩ (.int .i64 ((pl : Int) + 1))) := by
              rw [hI2]
              refine ⟨⟨⟨⟨(Hr.out.other (by omega) _).other (by omega) _, ?_⟩, ?_⟩, (HIB.out.setCell (p := ⟨W.heap.size + 1 + 1, 0, none⟩) (by simp; omega) _).setCell (p := ⟨W.heap.size + 1, 0, none⟩) (by simp; omega) _⟩, ?_⟩
              · have := (Hii.out.other (show W.heap.size + 1 ≠ W.heap.size + 1 + 1 by omega) (.int .i64 (wrap64 (wrap64 (x1 + 8) + x2.size)))).set (.int .i64 ((pl : Int) + 1))
                rw [show ((pre ++ [(x1, x2)]).length : Int) = (pl : Int) + 1 by simp [hpl]]
                exact this
              · rw [endOf_snoc]
                exact (Haa.out.set _).other (by omega) _
              · rw [Below.heap_setCell _ _ _ _ (by simp; omega), Below.heap_setCell _ _ _ _ (by simp; omega)]
                exact HD1.out
            have HKF := hid hkf
            have HKQ := hid hkq
            have HII := hid hII
            clear hkf hkq hII
            gi_wp2
            exact ⟨HKF.out _ _, HKQ.out _ _, HII.out⟩
          · have hne : (x1 != E) = true := by simpa using hx1
            gi_wp2
            refine ⟨(KeepsOthers.setCell _ _ _).from _, .inl ⟨rfl, fun hpf => hx1 ?_⟩⟩
            rw [← HEE.out]
            exact scanAll_place (by omega) hpf
        · gi_wp2
          refine ⟨(KeepsOthers.setCell _ _ _).from _, .inl ⟨rfl, fun hpf => hx2 ?_⟩⟩
          have := scanAll_pay hpf
          rw [HSS.out] at this
          rw [← this]
      case hdone =>
        rintro D2 xs W2 hD2 rfl hIp hDef2
        rw [hI2] at hIp
        obtain ⟨⟨⟨⟨hr, hii⟩, haa⟩, hB⟩, hD1⟩ := hIp
        rw [hN] at hii
        have hcr := hr.cell
        have hfr := hr.frozen
        have hci := hii.cell
        have hbm : Boxed W2 w3.heap.size 30 (.slice mo mn mc) := (hB.block _ Hm5.out.lt).trans Hm5.out
        have hcm := hbm.cell
        have hbM : Boxed W2 w.heap.size 3 (.int .i64 most) := (hB.block _ HM5.out.lt).trans HM5.out
        have hcM := hbM.cell
        have hbR : Boxed W2 (w.heap.size + 1) 4 (.bool false) := (hB.block _ HR5.out.lt).trans HR5.out
        have HBR := hid hbR
        have hbR2 := hbR.alloc (.cells #[.int .i64 2] 3)
        have hcR2 := hbR2.cell
        have hfR2 := hbR2.frozen
        have HBR2 := hid hbR2
        have HB2' := hid hB
        have HDef2 := hid hDef2
        have HD1 := hid hD1
        clear hB hDef2 hr hii haa hbm hbM hbR hbR2 hD1
        gi_wp2
        rw [roundsIn_succ]
        gi_wp2
        have hl2 : D2 < W2.heap.size := (Array.getElem?_eq_some_iff.1 HDef2.out).1
        have hl1 : D < W2.heap.size := (Array.getElem?_eq_some_iff.1 HD1.out).1
        have hK2 : ((W2.alloc (.cells #[.int .i64 2] 3)).setCell ⟨w.heap.size + 1, 0, none⟩ (.bool true)).heap[D2]? = some (.deferred (some [])) := by
          rw [Below.heap_setCell _ _ _ _ (by simp; omega), Below.heap_alloc _ _ _ hl2]
          exact HDef2.out
        have hK1 : (((W2.alloc (.cells #[.int .i64 2] 3)).setCell ⟨w.heap.size + 1, 0, none⟩ (.bool true)).putObj D2 (.deferred none)).heap[D]? = some (.deferred (some [])) := by
          rw [World.putObj_heap_other (by omega), Below.heap_setCell _ _ _ _ (by simp; omega), Below.heap_alloc _ _ _ hl1]
          exact HD1.out
        have hRf : Boxed ((((W2.alloc (.cells #[.int .i64 2] 3)).setCell ⟨w.heap.size + 1, 0, none⟩ (.bool true)).putObj D2 (.deferred none)).putObj D (.deferred none)) (w.heap.size + 1) 4 (.bool true) := by
          unfold Boxed
          rw [World.putObj_heap_other (by omega), World.putObj_heap_other (by omega)]
          exact HBR2.out.set (.bool true)
        have sWf : w.heap.size ≤ W2.heap.size := by have := HB2'.out.size; omega
        have hbW2 : Below w.heap.size w W2 := HB5.out.trans (HB2'.out.mono s5)
        have hbF : Below w.heap.size w ((((W2.alloc (.cells #[.int .i64 2] 3)).setCell ⟨w.heap.size + 1, 0, none⟩ (.bool true)).putObj D2 (.deferred none)).putObj D (.deferred none)) :=
          (((hbW2.alloc sWf _).setCell (p := ⟨w.heap.size + 1, 0, none⟩) (by simp) _).trans (belowK_b (w := w) (Nat.le_refl _) _ D2 _ _ (by omega) hK2 rfl rfl)).trans (belowK_b (w := w) (Nat.le_refl _) _ D _ _ (by omega) hK1 rfl rfl)
        refine ⟨by simp, .inl ⟨_, _, rfl, run_takeDeferred hK2, by simp, .inl ⟨_, _, rfl, run_takeDeferred hK1, ?_⟩⟩⟩
        exact ⟨_, results_cell4 rfl _ _ rfl hRf.cell, rfl, hbF⟩
      case hstop =>
        rintro D2 c pre W2 hD2 hpf hIp hDef2
        rcases hIp with ⟨_, hno⟩ | ⟨hf, _⟩
        · exact absurd hpf hno
        · exact hf.elim
    · have hmm1 : (most != (mn : Int)) = true := by simpa using hmm
      clear hmm
      gi_wp2
      rw [roundsIn_succ]
      have sW := HB.out.size
      have hDlt : D < W.heap.size := (Array.getElem?_eq_some_iff.1 HDef.out).1
      have HU0 : Hid (Below w5.heap.size w5 (((W.alloc (.cells #[.int .i64 1] 3)).alloc (.cells #[.int .i64 0] 3)).alloc (.cells #[.int .i64 0] 3))) := ((HB.out.alloc sW _).alloc (by simp; omega) _).alloc (by simp; omega) _
      have HUr : Hid (Boxed (((W.alloc (.cells #[.int .i64 1] 3)).alloc (.cells #[.int .i64 0] 3)).alloc (.cells #[.int .i64 0] 3)) W.heap.size 3 (.int .i64 1)) := ((Boxed.new W 3 _).alloc _).alloc _
      have HUi : Hid (Boxed (((W.alloc (.cells #[.int .i64 1] 3)).alloc (.cells #[.int .i64 0] 3)).alloc (.cells #[.int .i64 0] 3)) (W.heap.size + 1) 3 (.int .i64 0)) := by
        have := Boxed.new (W.alloc (.cells #[.int .i64 1] 3)) 3 (.int .i64 0)
        rw [World.size_alloc] at this
        exact hid (this.alloc _)
      have HUa : Hid (Boxed (((W.alloc (.cells #[.int .i64 1] 3)).alloc (.cells #[.int .i64 0] 3)).alloc (.cells #[.int .i64 0] 3)) (W.heap.size + 1 + 1) 3 (.int .i64 0)) := by
        have := Boxed.new ((W.alloc (.cells #[.int .i64 1] 3)).alloc (.cells #[.int .i64 0] 3)) 3 (.int .i64 0)
        rw [World.size_alloc, World.size_alloc] at this
        exact hid this
      have HUD : Hid ((((W.alloc (.cells #[.int .i64 1] 3)).alloc (.cells #[.int .i64 0] 3)).alloc (.cells #[.int .i64 0] 3)).heap[D]? = some (.deferred (some []))) := by
        show _ = _
        rw [Below.heap_alloc _ _ _ (by simp; omega), Below.heap_alloc _ _ _ (by simp; omega), Below.heap_alloc _ _ _ hDlt]
        exact HDef.out
      have hU0s : (((W.alloc (.cells #[.int .i64 1] 3)).alloc (.cells #[.int .i64 0] 3)).alloc (.cells #[.int .i64 0] 3)).heap.size = W.heap.size + 3 := by simp
      have HOU : Hid (Held (((W.alloc (.cells #[.int .i64 1] 3)).alloc (.cells #[.int .i64 0] 3)).alloc (.cells #[.int .i64 0] 3)) (some ad) len c1 bs) := HO5.out.below HU0.out (Nat.le_refl _)
      clear hcr hfr hci hcm hcM
      gi_wp2_with fail
      generalize (((W.alloc (.cells #[.int .i64 1] 3)).alloc (.cells #[.int .i64 0] 3)).alloc (.cells #[.int .i64 0] 3)) = U0 at *
      refine ⟨trivial, (callsIn_wide.2 (all_any ad len c1 bs U0 HOU.out (by omega))).mono ?_⟩
      rintro e U1 ⟨nb2, _, _, rfl, _, _, hb01, _, _⟩
      have HBU1 := hid hb01
      have su1 := hb01.size
      have HOU1 : Hid (Held U1 (some ad) len c1 bs) := HOU.out.below hb01 (Nat.le_refl _)
      have hql := fun W => all_eql nb2 W
      clear hb01
      gi_wp2_with fail
      clear hql
      refine ⟨trivial, (callsIn_wide.2 (all_any ad len c1 bs U1 HOU1.out (by omega))).mono ?_⟩
      rintro e U2 ⟨Bs2, co2, cc2, rfl, hbx, hh2, hb12, hBs, hblk⟩
      have su2 := hb12.size
      have HBU2 : Hid (Below U0.heap.size U0 U2) := HBU1.out.trans (hb12.mono su1)
      have HB5U : Hid (Below w5.heap.size w5 U2) := HU0.out.trans (HBU2.out.mono (by omega))
      have HUr2 : Hid (Boxed U2 W.heap.size 3 (.int .i64 1)) := (HBU2.out.block _ (by omega)).trans HUr.out
      have HUi2 : Hid (Boxed U2 (W.heap.size + 1) 3 (.int .i64 0)) := (HBU2.out.block _ (by omega)).trans HUi.out
      have HUa2 : Hid (Boxed U2 (W.heap.size + 1 + 1) 3 (.int .i64 0)) := (HBU2.out.block _ (by omega)).trans HUa.out
      have HUD2 : Hid (U2.heap[D]? = some (.deferred (some []))) := (HBU2.out.block _ (by omega)).trans HUD.out
      have hseq2 := scans_seq 4 (by omega) w5.heap.size U0 U2 Bs2 co2 len cc2 bs (by omega) (by omega) (by omega) hbx hh2 (fun a ha => by have := hblk a ha; omega) hpos (HT.out.here (HB5.out.trans (HB5U.out.mono s5))) (by omega)
      have sU2 : U0.heap.size ≤ U2.heap.size := by omega
      clear hbx hh2 hb12 hBs hblk HBU1 HUr HUi HUa HOU HOU1 HUD
      gi_wp2
      obtain ⟨I2, hI2⟩ : ∃ I : List (Int × ByteArray) → World → Prop, I = (fun (pre : List (Int × ByteArray)) (W' : World) => (((Boxed W' W.heap.size 3 (.int .i64 1) ∧ Boxed W' (W.heap.size + 1) 3 (.int .i64 (pre.length : Int))) ∧ Boxed W' (W.heap.size + 1 + 1) 3 (.int .i64 (endOf pre))) ∧ Below w5.heap.size w5 W') ∧ W'.heap[D]? = some (.deferred (some []))) := ⟨_, rfl⟩
      have hIo2 : OwnFrom U2.heap.size I2 := by
        rw [hI2]
        exact OwnFrom.and (OwnFrom.and (OwnFrom.and (OwnFrom.and (Own.from (boxed_own W.heap.size 3 (fun _ : List (Int × ByteArray) => .int .i64 1)) _) (Own.from (boxed_own (W.heap.size + 1) 3 (fun pre : List (Int × ByteArray) => .int .i64 (pre.length : Int))) _)) (Own.from (boxed_own (W.heap.size + 1 + 1) 3 (fun pre : List (Int × ByteArray) => .int .i64 (endOf pre))) _)) (ownFrom_below (Nat.le_refl _) (by omega))) (ownFrom_at (by omega))
      apply wpIn_rangeFunc_ownG (encs := fun x : Int × ByteArray => #[Value.int .i64 x.1, Value.string x.2]) (Kp := Kq w5.heap.size U0.heap.size U2.heap.size) rfl (by omega) (gf := 24) (lb := #[.pointer (some ⟨Bs2, 0, none⟩)]) rfl trivial (enters_of Tryd.func24 (by kernel_rfl) rfl)
        hseq2 (fun a b => Kq.trans a b)
        (fun W l o o' hl ho hc hw => ⟨belowK_b (w := U2) (by omega) W l o o' hl ho hc hw, fun k _ h2 => (grownBy_putObj' W l o').block k (by have := (Array.getElem?_eq_some_iff.1 ho).1; omega) (by intro e; have := Option.some.inj e; omega)⟩)
        (Below.refl _ _) (fun _ => rfl) I2 (fun c pre W => (c = .ret ∧ ¬ pre <+: scanAll bs) ∨ (False ∧ I2 pre W)) hIo2
        (fun c => ownFrom_or hIo2 (fun pre => False))
        (by rw [hI2]; exact ⟨⟨⟨⟨HUr2.out, HUi2.out⟩, HUa2.out⟩, HB5U.out⟩, HUD2.out⟩) _
      case hassign =>
        intro l x W' K hK
        gi_wp2
        exact hK
      case hbody =>
        rintro l pre ⟨x1, x2⟩ W' hIp hlt
        rw [hI2] at hIp
        obtain ⟨⟨⟨⟨hr, hii⟩, haa⟩, hB⟩, hD1⟩ := hIp
        rw [hN] at hlt
        have hcr := hr.cell
        have hci := hii.cell
        have hca := haa.cell
        have hfi := hii.frozen
        have hfa := haa.frozen
        have hbm : Boxed W' w3.heap.size 30 (.slice mo mn mc) := (hB.block _ Hm5.out.lt).trans Hm5.out
        have hcm := hbm.cell
        have hbM : Boxed W' w.heap.size 3 (.int .i64 most) := (hB.block _ HM5.out.lt).trans HM5.out
        have hcM := hbM.cell
        have hbR : Boxed W' (w.heap.size + 1) 4 (.bool false) := (hB.block _ HR5.out.lt).trans HR5.out
        have hcR := hbR.cell
        have hfR := hbR.frozen
        obtain ⟨mb, moff, hmo, hmlt, hmcell⟩ := HS5.out.at (by omega : 0 < mn)
        obtain ⟨S, HSS⟩ : ∃ S, Hid ((pays bs).getD pre.length ByteArray.empty = S) := ⟨_, hid rfl⟩
        have hce : W'.cell? ⟨mb, moff + pre.length, none⟩ = some (.string S) := by
          rw [hB.cell (by simpa using hmlt), hmcell _ hlt, HSS.out]
        obtain ⟨E, HEE⟩ : ∃ E, Hid (endOf pre = E) := ⟨_, hid rfl⟩
        rw [HEE.out] at hca
        obtain ⟨pl, hpl⟩ : ∃ pl, pre.length = pl := ⟨_, rfl⟩
        rw [hpl] at hlt hci hce
        have hge : decide (mn ≤ pl) = false := decide_eq_false (by omega)
        have hp0 : (0 : Int) ≤ (pl : Int) := by omega
        have hpI : (pl : Int) < (mn : Int) := by omega
        have HIB := hid hB
        have HD1 := hid hD1
        have Hr := hid hr
        have Hii := hid hii
        have Haa := hid haa
        clear hmcell hB hr hii haa hbm hbM hbR hD1
        by_cases hx2 : x2.toList = S.toList
        · by_cases hx1 : x1 = E
          · subst hx1
            have hkf : ∀ u v, KeepsFrom U2.heap.size W' ((W'.setCell ⟨W.heap.size + 1 + 1, 0, none⟩ u).setCell ⟨W.heap.size + 1, 0, none⟩ v) := fun u v => ((KeepsOthers.setCell _ _ _).trans (KeepsOthers.setCell _ _ _)).from _
            have hkq : ∀ u v, Kq w5.heap.size U0.heap.size U2.heap.size W' ((W'.setCell ⟨W.heap.size + 1 + 1, 0, none⟩ u).setCell ⟨W.heap.size + 1, 0, none⟩ v) := fun u v => Kq.trans (Kq.set W' (by omega) (by omega) u) (Kq.set _ (by omega) (by omega) v)
            have hII : I2 (pre ++ [(x1, x2)]) ((W'.setCell ⟨W.heap.size + 1 + 1, 0, none⟩ (.int .i64 (wrap64 (wrap64 (x1 + 8) + x2.size)))).setCell ⟨W.heap.size + 1, 0, none⟩ (.int .i64 ((pl : Int) + 1))) := by
              rw [hI2]
              refine ⟨⟨⟨⟨(Hr.out.other (by omega) _).other (by omega) _, ?_⟩, ?_⟩, (HIB.out.setCell (p := ⟨W.heap.size + 1 + 1, 0, none⟩) (by simp; omega) _).setCell (p := ⟨W.heap.size + 1, 0, none⟩) (by simp; omega) _⟩, ?_⟩
              · have := (Hii.out.other (show W.heap.size + 1 ≠ W.heap.size + 1 + 1 by omega) (.int .i64 (wrap64 (wrap64 (x1 + 8) + x2.size)))).set (.int .i64 ((pl : Int) + 1))
                rw [show ((pre ++ [(x1, x2)]).length : Int) = (pl : Int) + 1 by simp [hpl]]
                exact this
              · rw [endOf_snoc]
                exact (Haa.out.set _).other (by omega) _
              · rw [Below.heap_setCell _ _ _ _ (by simp; omega), Below.heap_setCell _ _ _ _ (by simp; omega)]
                exact HD1.out
            have HKF := hid hkf
            have HKQ := hid hkq
            have HII := hid hII
            clear hkf hkq hII
            gi_wp2
            exact ⟨HKF.out _ _, HKQ.out _ _, HII.out⟩
          · have hne : (x1 != E) = true := by simpa using hx1
            gi_wp2
            refine ⟨(KeepsOthers.setCell _ _ _).from _, .inl ⟨rfl, fun hpf => hx1 ?_⟩⟩
            rw [← HEE.out]
            exact scanAll_place (by omega) hpf
        · gi_wp2
          refine ⟨(KeepsOthers.setCell _ _ _).from _, .inl ⟨rfl, fun hpf => hx2 ?_⟩⟩
          have := scanAll_pay hpf
          rw [HSS.out] at this
          rw [← this]
      case hdone =>
        rintro D2 xs W2 hD2 rfl hIp hDef2
        rw [hI2] at hIp
        obtain ⟨⟨⟨⟨hr, hii⟩, haa⟩, hB⟩, hD1⟩ := hIp
        rw [hN] at hii
        have hcr := hr.cell
        have hfr := hr.frozen
        have hci := hii.cell
        have hbm : Boxed W2 w3.heap.size 30 (.slice mo mn mc) := (hB.block _ Hm5.out.lt).trans Hm5.out
        have hcm := hbm.cell
        have hbM : Boxed W2 w.heap.size 3 (.int .i64 most) := (hB.block _ HM5.out.lt).trans HM5.out
        have hcM := hbM.cell
        have hbR : Boxed W2 (w.heap.size + 1) 4 (.bool false) := (hB.block _ HR5.out.lt).trans HR5.out
        have HBR := hid hbR
        have hbR2 := hbR.alloc (.cells #[.int .i64 2] 3)
        have hcR2 := hbR2.cell
        have hfR2 := hbR2.frozen
        have HBR2 := hid hbR2
        have HB2' := hid hB
        have HDef2 := hid hDef2
        have HD1 := hid hD1
        clear hB hDef2 hr hii haa hbm hbM hbR hbR2 hD1
        gi_wp2
        rw [roundsIn_succ]
        gi_wp2
        have hl2 : D2 < W2.heap.size := (Array.getElem?_eq_some_iff.1 HDef2.out).1
        have hl1 : D < W2.heap.size := (Array.getElem?_eq_some_iff.1 HD1.out).1
        have hK2 : ((W2.alloc (.cells #[.int .i64 2] 3)).setCell ⟨w.heap.size + 1, 0, none⟩ (.bool true)).heap[D2]? = some (.deferred (some [])) := by
          rw [Below.heap_setCell _ _ _ _ (by simp; omega), Below.heap_alloc _ _ _ hl2]
          exact HDef2.out
        have hK1 : (((W2.alloc (.cells #[.int .i64 2] 3)).setCell ⟨w.heap.size + 1, 0, none⟩ (.bool true)).putObj D2 (.deferred none)).heap[D]? = some (.deferred (some [])) := by
          rw [World.putObj_heap_other (by omega), Below.heap_setCell _ _ _ _ (by simp; omega), Below.heap_alloc _ _ _ hl1]
          exact HD1.out
        have hRf : Boxed ((((W2.alloc (.cells #[.int .i64 2] 3)).setCell ⟨w.heap.size + 1, 0, none⟩ (.bool true)).putObj D2 (.deferred none)).putObj D (.deferred none)) (w.heap.size + 1) 4 (.bool true) := by
          unfold Boxed
          rw [World.putObj_heap_other (by omega), World.putObj_heap_other (by omega)]
          exact HBR2.out.set (.bool true)
        have sWf : w.heap.size ≤ W2.heap.size := by have := HB2'.out.size; omega
        have hbW2 : Below w.heap.size w W2 := HB5.out.trans (HB2'.out.mono s5)
        have hbF : Below w.heap.size w ((((W2.alloc (.cells #[.int .i64 2] 3)).setCell ⟨w.heap.size + 1, 0, none⟩ (.bool true)).putObj D2 (.deferred none)).putObj D (.deferred none)) :=
          (((hbW2.alloc sWf _).setCell (p := ⟨w.heap.size + 1, 0, none⟩) (by simp) _).trans (belowK_b (w := w) (Nat.le_refl _) _ D2 _ _ (by omega) hK2 rfl rfl)).trans (belowK_b (w := w) (Nat.le_refl _) _ D _ _ (by omega) hK1 rfl rfl)
        refine ⟨by simp, .inl ⟨_, _, rfl, run_takeDeferred hK2, by simp, .inl ⟨_, _, rfl, run_takeDeferred hK1, ?_⟩⟩⟩
        exact ⟨_, results_cell4 rfl _ _ rfl hRf.cell, rfl, hbF⟩
      case hstop =>
        rintro D2 c pre W2 hD2 hpf hIp hDef2
        rcases hIp with ⟨_, hno⟩ | ⟨hf, _⟩
        · exact absurd hpf hno
        · exact hf.elim
end Go.Proofs.YtmokelmeihmeiabDoor
