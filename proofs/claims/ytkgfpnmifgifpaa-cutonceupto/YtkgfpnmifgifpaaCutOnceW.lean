/-
  pannierlaw12.CutOnce answers true for any events and seals of bulk at most 1048576.
-/
import Derived.Test.YtkgfpnmifgifpaaSealO
import Derived.Test.YtkgfpnmifgifpaaSealH
namespace Go.Proofs.Ytkgfpnmifgifpaa
open Go.RowKit Go.Maps

set_option maxRecDepth 1000000 in
set_option maxHeartbeats 8000000 in
theorem cutOnce_walk (ao : Option Addr) (ca : Nat) (xs : List EvM) (so : Option Addr) (cs : Nat) (ss : List SlM) (bo : Option Addr) (cb : Nat) (rs : List SlM) (w : World)
    (hx : HeldE w ao xs) (hl0 : xs.length ≤ 1048576) (_ : ∀ x ∈ xs, x.e.deps.length ≤ 1048576) (hs : HeldSl w so ss) (hl1 : ss.length ≤ 1048576) (_ : ∀ x ∈ ss, x.e.cut.length ≤ 1048576) (hr : HeldSl w bo rs) (hl2 : rs.length ≤ 1048576) (_ : ∀ x ∈ rs, x.e.cut.length ≤ 1048576) (_ : xs.length ≤ ca) (_ : ss.length ≤ cs) (_ : rs.length ≤ cb) :
    Calls Try.prog 3 #[.slice ao xs.length ca, .slice so ss.length cs, .slice bo rs.length cb] w fun e w' => e = .returned (.bool true) ∧ Below w.heap.size w w' := by
  obtain ⟨n, HN⟩ : ∃ n, Hid (xs.length = n) := ⟨_, hid rfl⟩
  obtain ⟨m, HM⟩ : ∃ n, Hid (ss.length = n) := ⟨_, hid rfl⟩
  obtain ⟨p, HP⟩ : ∃ n, Hid (rs.length = n) := ⟨_, hid rfl⟩
  rw [HN.out] at hl0 ⊢
  rw [HM.out] at hl1 ⊢
  rw [HP.out] at hl2 ⊢
  have HX := hid hx
  have HS := hid hs
  have HRS := hid hr
  have HLV := hid (lives12_any w)
  clear hx hs hr
  go_enter Try.func3, Try.ntmps3
  go_wp2_with fail
  refine HLV.out.mono ?_
  rintro e w1 ⟨rfl, hb⟩
  have HB1 := hid hb
  clear hb HLV
  have HOM := hid (ownS_made w1 w1.heap.size (Nat.le_refl _))
  have HBA : Hid (Below w1.heap.size w1 (w1.alloc (.cells #[] 50))) := (Below.refl _ _).alloc (Nat.le_refl _) _
  have HXB : Hid (∀ V, Below w1.heap.size w1 V → HeldSl V so ss ∧ HeldSl V bo rs) := fun V hV => ⟨(HS.out.below HB1.out).below hV, (HRS.out.below HB1.out).below hV⟩
  have hs1 : 0 + m ≤ 100000000 := by omega
  have hs2 : m + p ≤ 100000000 := by omega
  have HK1 : Hid (∀ U, Below w1.heap.size w1 U → ∀ V, Below w1.heap.size U V → AllS V ([] ++ ss)) := fun U hU V hV => (HXB.out V (hU.trans hV)).1.1
  have HK2 : Hid (∀ U, Below w1.heap.size w1 U → ∀ V, Below w1.heap.size U V → AllS V (ss ++ rs)) := fun U hU V hV x hx => by
    rcases List.mem_append.1 hx with hx | hx
    · exact (HXB.out V (hU.trans hV)).1.1 x hx
    · exact (HXB.out V (hU.trans hV)).2.1 x hx
  go_wp2_with (at_builtin; first
    | (refine wpList_append_sls rfl _ _ rfl w1.heap.size _ 0 [] rfl rfl HOM.out so m cs ss HM.out rfl (HXB.out _ HBA.out).1 hs1 HBA.out.size (HK1.out _ HBA.out) ?_
       intro b2 cp2 w2 hown2 _ _ hb2
       rw [Nat.zero_add, List.nil_append] at hown2
       rw [Nat.zero_add]
       have HO2 := hid hown2
       have HB2 := hid (HBA.out.trans hb2)
       clear hown2 hb2)
    | (refine wpList_append_sls rfl _ _ rfl w1.heap.size _ m ss HM.out rfl HO2.out bo p cb rs HP.out rfl (HXB.out _ HB2.out).2 hs2 HB2.out.size (HK2.out _ HB2.out) ?_
       intro lo cl w3 _ hheld3 hcl3 hb3
       have HH3 := hid hheld3
       have HCL := hid hcl3
       have HB3 := hid (HB2.out.trans hb3)
       clear hheld3 hb3 hcl3))
  have HB3w := hid (bt HB1.out HB3.out)
  have HLL : Hid ((ss ++ rs).length = m + p) := by show _ = _; rw [List.length_append, HM.out, HP.out]
  have HCK := hid (rcheck_any w3 lo cl (ss ++ rs) (m + p) HLL.out HH3.out (by omega) HCL.out)
  clear HK1 HK2 HOM HBA HXB HO2 HB2 hs1
  refine HCK.out.mono ?_
  rintro e w4 ⟨⟨ci, cc, rfl, hc⟩, hb⟩
  have HB4 := hid (bt HB3w.out hb)
  have HL4 := hid (HH3.out.below hb)
  clear hb HCK
  rcases hc with ⟨rfl, hfo⟩ | ⟨rfl, hfo⟩
  rotate_left 1
  · have HCH := hid (check_any w4 lo cl (ss ++ rs) (m + p) HLL.out HL4.out (by omega))
    have HFO := hid hfo
    clear hfo
    go_wp2_with fail
    refine HCH.out.mono ?_
    rintro e w5 ⟨⟨ci', cc', rfl, hc⟩, hb⟩
    have HB5 := hid (bt HB4.out hb)
    clear hb HCH
    rcases hc with ⟨_, hff⟩ | ⟨rfl, _⟩
    · exact absurd hff HFO.out
    · go_wp2
      go_ret
      exact ⟨rfl, HB5.out⟩
  have HFO := hid hfo
  clear hfo
  go_wp2
  go_loopw [12, 13, 14, 15, 16] (fun i _ _ _ _ wr => ∃ k : Nat, k ≤ n ∧ i = .int .i64 k ∧ Hid (Below w4.heap.size w4 wr)) (fun i _ _ _ _ _ => n - (intOf i).toNat)
  case atStart => exact ⟨0, Nat.zero_le _, rfl, Below.refl _ _⟩
  case round =>
    obtain ⟨k, hk, rfl, HR⟩ := hrel
    by_cases hlt : k < n
    · have hlt' : (k : Int) < (n : Int) := by omega
      have hkx : Hid (k < xs.length) := (by rw [HN.out]; exact hlt : k < xs.length)
      have HBw : Hid (Below w.heap.size w wr) := bt HB4.out HR.out
      obtain ⟨bb, off, hao, hbb, g0, g1, g2, g3, g4, g5, g6, g7⟩ := (HX.out.below HBw.out).at hkx.out
      have HKM : Hid (k + 1 ≤ n) := (by omega : k + 1 ≤ n)
      have HAT : Hid (∀ V, Below wr.heap.size wr V → HeldE V ao xs) := fun V hV => HX.out.below (bt HBw.out hV)
      have HSB : Hid (∀ V, Below wr.heap.size wr V → HeldSl V so ss ∧ HeldSl V lo (ss ++ rs)) := fun V hV => ⟨HS.out.below (bt HBw.out hV), HL4.out.below (bt HR.out hV)⟩
      have HLB := hid hbb
      subst hao
      obtain ⟨X, HXX⟩ : ∃ X, Hid (xs[k]'hkx.out = X) := ⟨_, hid rfl⟩
      rw [HXX.out] at g0 g1 g2 g3 g4 g5 g6 g7
      have HM1 := hid (fun h => bel_more (e := X.e) (a := ss) (b := rs) h)
      have HM2 := hid (fun h => bel_none (e := X.e) (a := ss) h)
      have HM3 := hid (fun h => bel_bounds (e := X.e) HFO.out h)
      have HBE1 := hid (belongs_any wr X so cs ss m HM.out (HSB.out _ (Below.refl _ _)).1 (by omega))
      have HBE2 := hid (fun V hV => belongs_any V X lo cl (ss ++ rs) (m + p) HLL.out (HSB.out V hV).2 (by omega))
      have HEP := hid (fun V hV nm => epoch_any V lo cl (ss ++ rs) (m + p) HLL.out (HSB.out V hV).2 (by omega) nm)
      obtain ⟨⟨o, s, dp, ct, ep, sk, qt, cl'⟩, ao1, cap1⟩ := X
      obtain ⟨DN, HDN⟩ : ∃ m, Hid (dp.length = m) := ⟨_, hid rfl⟩
      simp only at g0 g1 g2 g3 g4 g5 g6 g7 HM1 HM2 HM3
      simp only [EvM.val] at HBE1 HBE2
      rw [HDN.out] at g2 HBE1 HBE2
      obtain ⟨r1, HR1⟩ : ∃ r, Hid (belIs ⟨o, s, dp, ct, ep, sk, qt, cl'⟩ ss = r) := ⟨_, hid rfl⟩
      obtain ⟨q1, HQ1⟩ : ∃ r, Hid (belEp ⟨o, s, dp, ct, ep, sk, qt, cl'⟩ ss = r) := ⟨_, hid rfl⟩
      obtain ⟨r2, HR2⟩ : ∃ r, Hid (belIs ⟨o, s, dp, ct, ep, sk, qt, cl'⟩ (ss ++ rs) = r) := ⟨_, hid rfl⟩
      obtain ⟨q2, HQ2⟩ : ∃ r, Hid (belEp ⟨o, s, dp, ct, ep, sk, qt, cl'⟩ (ss ++ rs) = r) := ⟨_, hid rfl⟩
      obtain ⟨z, HZ⟩ : ∃ r, Hid ((ownOf ct (ss ++ rs)).length = r) := ⟨_, hid rfl⟩
      rw [HR1.out, HQ1.out] at HBE1
      rw [HR2.out, HQ2.out] at HBE2
      rw [HR1.out, HR2.out, HQ1.out, HQ2.out] at HM1
      rw [HR1.out, HQ1.out] at HM2
      rw [HR2.out, HQ2.out, HZ.out] at HM3
      have HEC := hid (fun V hV => HEP.out V hV ct)
      rw [HZ.out] at HEC
      clear HEP HR1 HR2 HQ1 HQ2 HZ hbb
      have HCE : Hid (∀ V, Below wr.heap.size wr V → V.cell? ⟨bb, off + k * 8, none⟩ = some (.int .i64 o) ∧ V.cell? ⟨bb, off + k * 8 + 1, none⟩ = some (.int .i64 s) ∧ V.cell? ⟨bb, off + k * 8 + 2, none⟩ = some (.slice ao1 DN cap1) ∧ V.cell? ⟨bb, off + k * 8 + 3, none⟩ = some (.string ct) ∧ V.cell? ⟨bb, off + k * 8 + 4, none⟩ = some (.int .i64 ep) ∧ V.cell? ⟨bb, off + k * 8 + 5, none⟩ = some (.string sk) ∧ V.cell? ⟨bb, off + k * 8 + 6, none⟩ = some (.int .i64 qt) ∧ V.cell? ⟨bb, off + k * 8 + 7, none⟩ = some (.bool cl')) := fun V hV =>
        ⟨(hV.cell (p := ⟨bb, off + k * 8, none⟩) HLB.out).trans g0, (hV.cell (p := ⟨bb, off + k * 8 + 1, none⟩) HLB.out).trans g1, (hV.cell (p := ⟨bb, off + k * 8 + 2, none⟩) HLB.out).trans g2, (hV.cell (p := ⟨bb, off + k * 8 + 3, none⟩) HLB.out).trans g3, (hV.cell (p := ⟨bb, off + k * 8 + 4, none⟩) HLB.out).trans g4, (hV.cell (p := ⟨bb, off + k * 8 + 5, none⟩) HLB.out).trans g5, (hV.cell (p := ⟨bb, off + k * 8 + 6, none⟩) HLB.out).trans g6, (hV.cell (p := ⟨bb, off + k * 8 + 7, none⟩) HLB.out).trans g7⟩
      go_wp2_with fail
      refine HBE1.out.mono ?_
      rintro e w5 ⟨rfl, hb5⟩
      obtain ⟨e0, e1, e2, e3, e4, e5, e6, e7⟩ := HCE.out _ hb5
      have HB5 := hid hb5
      clear hb5 HBE1
      go_wp2_with fail
      refine (HBE2.out _ HB5.out).mono ?_
      rintro e w6 ⟨rfl, hb6⟩
      have HB6 := hid (bt HB5.out hb6)
      obtain ⟨d0, d1, d2, d3, d4, d5, d6, d7⟩ := HCE.out _ HB6.out
      clear hb6 HBE2 e0 e1 e2 e3 e4 e5 e6 e7
      have HBr : Hid (Below w4.heap.size w4 w6) := bt HR.out HB6.out
      cases r2 with
      | true =>
        obtain ⟨hz1, hz2⟩ := HM3.out rfl
        have hz1' : ¬ q2 < ep := by omega
        have hz2' : ¬ (z : Int) ≤ q2 := by omega
        cases r1 with
        | true =>
          obtain ⟨_, rfl⟩ := HM1.out rfl
          have hbn : (q2 != q2) = false := by simp
          clear HM1 HM2 HM3
          go_wp2_with fail
          refine (HEC.out _ HB6.out).mono ?_
          rintro e w7 ⟨rfl, hb7⟩
          have HB7 : Hid (Below w4.heap.size w4 w7) := bt HBr.out hb7
          clear hb7
          go_wp2
          go_roundw
          case rel => exact ⟨k + 1, HKM.out, by go_num, HB7.out⟩
          case measure => simp [intOf]; have := HKM.out; omega
        | false =>
          obtain rfl := HM2.out rfl
          clear HM1 HM2 HM3
          go_wp2_with fail
          refine (HEC.out _ HB6.out).mono ?_
          rintro e w7 ⟨rfl, hb7⟩
          have HB7 : Hid (Below w4.heap.size w4 w7) := bt HBr.out hb7
          clear hb7
          go_wp2
          go_roundw
          case rel => exact ⟨k + 1, HKM.out, by go_num, HB7.out⟩
          case measure => simp [intOf]; have := HKM.out; omega
      | false =>
        cases r1 with
        | true =>
          have := (HM1.out rfl).1
          cases this
        | false =>
          obtain rfl := HM2.out rfl
          clear HM1 HM2 HM3
          go_wp2
          go_roundw
          case rel => exact ⟨k + 1, HKM.out, by go_num, HBr.out⟩
          case measure => simp [intOf]; have := HKM.out; omega
    · have hlt' : ¬ (k : Int) < (n : Int) := by omega
      have HBw : Hid (Below w.heap.size w wr) := bt HB4.out HR.out
      have HSP := hid (split_any wr ao ca xs n HN.out (HX.out.below HBw.out) (by omega) lo cl (ss ++ rs) (m + p) HLL.out (HL4.out.below HR.out) (by omega))
      go_wp2_with fail
      refine HSP.out.mono ?_
      rintro e w5 ⟨o1, a, c1, o2, b, c2, rfl, hab, hb⟩
      have HB5 := hid (bt HBw.out hb)
      have hsum : IntKind.i64.wrap ((a : Int) + (b : Int)) = (n : Int) := by rw [IntKind.wrap_i64]; omega
      clear hb HSP hab
      go_wp2
      go_ret
      exact ⟨by simp, HB5.out⟩
end Go.Proofs.Ytkgfpnmifgifpaa
