/-
  pannierlaw10.OplogCopies answers true for any events.
-/
import Derived.Test.YtcammngbhnhjjaaCopM
namespace Go.Proofs.Ytcammngbhnhjjaa
open Go.RowKit Go.Shelf Go.Maps
attribute [local go_sem] Oper.semAt_some

set_option maxRecDepth 1000000 in
set_option maxHeartbeats 8000000 in
theorem oplogCopies_walk (ao : Option Addr) (ca : Nat) (xs : List EvM) (zo : Option Addr) (cz : Nat) (zs : List EvM) (w : World) (hx : HeldE w ao xs) (hl0 : xs.length ≤ 1466015503701) (_hz : HeldE w zo zs) (hl1 : zs.length ≤ 1466015503701) :
    Calls Try.prog 5 #[.slice ao xs.length ca, .slice zo zs.length cz] w fun e w' => e = .returned (.bool true) ∧ Below w.heap.size w w' := by
  obtain ⟨n, HN⟩ : ∃ n, Hid (xs.length = n) := ⟨_, hid rfl⟩
  rw [HN.out] at hl0 ⊢
  obtain ⟨mm, HMM⟩ : ∃ n, Hid (zs.length = n) := ⟨_, hid rfl⟩
  rw [HMM.out] at hl1 ⊢
  have HX := hid hx
  clear hx
  go_enter Try.func5, Try.ntmps5
  go_wp2_with fail
  refine (newL_any w).mono ?_
  rintro e w1 ⟨pa, ea, wa, rfl, hl, hf, hb⟩
  have HL1 := hid hl
  have HF1 := hid hf
  have HB1 := hid hb
  clear hl hf hb
  go_wp2_with fail
  refine (newL_any w1).mono ?_
  rintro e w2 ⟨pb, eb, wb, rfl, hl, hf, hb⟩
  have HTS2 : Hid (TS w pa ea wa pb eb wb emptyLg emptyLg w2) := ⟨HL1.out.below hb, hl, fun i h1 h2 => by have := HL1.out.lt i h1; have := hf i h2; omega, HF1.out, fun i hi => Nat.le_trans HB1.out.size (hf i hi), bt HB1.out hb⟩
  clear hl hf hb HL1 HF1 HB1
  go_wp2_with fail
  refine (lives10_any w2).mono ?_
  rintro e w3 ⟨rfl, hb⟩
  have HTS := hid (HTS2.out.below hb)
  clear hb HTS2
  have done1 : Hid (Below w.heap.size w w3) := HTS.out.bel
  by_cases h4 : 4000 < n
  · have h4' : (4000 : Int) < (n : Int) := by omega
    clear h4
    go_wp2
    go_ret
    exact ⟨rfl, done1.out⟩
  have h4' : ¬ (4000 : Int) < (n : Int) := by omega
  have hwn : IntKind.i64.wrap ((n : Int) + (mm : Int)) = (n : Int) + (mm : Int) := (IntKind.wrap_i64 _).trans (by omega)
  by_cases h5 : 0 < mm ∧ 4000 < n + mm
  · have h5' : (0 : Int) < (mm : Int) := by omega
    have h6' : (4000 : Int) < (n : Int) + (mm : Int) := by omega
    clear h4 h5
    go_wp2
    go_ret
    exact ⟨rfl, done1.out⟩
  have HNM : Hid (n ≤ 4000 ∧ (mm = 0 ∨ n + mm ≤ 4000)) := ⟨by omega, by omega⟩
  by_cases hm0 : mm = 0
  · have h5' : ¬ (0 : Int) < (mm : Int) := by omega
    clear h4 h5
    go_wp2
    go_loopw [7] (fun i wz => ∃ k : Nat, k ≤ n ∧ i = .int .i64 k ∧ Hid (∃ g0, TS w pa ea wa pb eb wb g0 emptyLg wz ∧ KnH ((xs.take k).map (·.e)) g0)) (fun i _ => n - (intOf i).toNat)
    case atStart => exact ⟨0, by omega, rfl, emptyLg, HTS.out, KnH.start⟩
    case round =>
      obtain ⟨k, hk, rfl, HR⟩ := hrel
      by_cases hlt : k < n
      · have hlt' : (k : Int) < (n : Int) := by omega
        have hkx : Hid (k < xs.length) := (by rw [HN.out]; omega : k < xs.length)
        obtain ⟨g0, hts, hkn⟩ := HR.out
        have HXR := hid (HX.out.below hts.bel)
        obtain ⟨bb, off, hao, hbb, c0, c1, c2, c3, c4, c5, c6, c7⟩ := HXR.out.at hkx.out
        have HOX := hid (HXR.out.1 _ (List.getElem_mem hkx.out))
        have HPU := hid (put_any hts.a (xs[k]'hkx.out) HOX.out)
        have HLK : Hid (∀ e w', PutP wr pa ea wa g0 (xs[k]'hkx.out).e e w' → ∃ v c g', e = .returned (.tuple #[v, .int .i64 c]) ∧ TS w pa ea wa pb eb wb g' emptyLg w' ∧ KnH ((xs.take (k + 1)).map (·.e)) g') := fun e w' hp => by
          obtain ⟨v, c, g', he, hpg, hat⟩ := PutP.toG hts.a hp
          refine ⟨v, c, g', he, hts.putA hat, ?_⟩
          rw [List.take_succ_eq_append_getElem hkx.out, List.map_append]
          exact (hkn.put (by rw [List.length_map, List.length_take]; have := HNM.out; omega) hat.1.has hpg).1
        subst hao
        obtain ⟨X, HXX⟩ : ∃ X, Hid (xs[k]'hkx.out = X) := ⟨_, hid rfl⟩
        rw [HXX.out] at c0 c1 c2 c3 c4 c5 c6 c7 HPU HLK
        obtain ⟨⟨o1, s1, dp, ct, ep, sk, qt, cl⟩, ao1, cap1⟩ := X
        obtain ⟨XN, HXN⟩ : ∃ m, Hid (dp.length = m) := ⟨_, hid rfl⟩
        simp only [EvM.val] at c0 c1 c2 c3 c4 c5 c6 c7 HPU
        rw [HXN.out] at c2 HPU
        clear hts hkn hbb
        go_wp2_with fail
        refine HPU.out.mono ?_
        intro e w4 hp4
        obtain ⟨v4, cc4, g4, rfl, ht4, hk4⟩ := HLK.out _ _ hp4
        have HT4 := hid ht4
        have HK4 := hid hk4
        clear hp4 ht4 hk4 HPU HLK c0 c1 c2 c3 c4 c5 c6 c7
        go_wp2
        go_roundw
        case rel => exact ⟨k + 1, by omega, by go_num, g4, HT4.out, HK4.out⟩
        case measure => simp [intOf]; omega
      · have hlt' : ¬ (k : Int) < (n : Int) := by omega
        obtain ⟨ga, hta, hka⟩ := HR.out
        have HTA := hid hta
        have hkn' : k = n := by omega
        have HKA : Hid (KnH (xs.map (·.e)) ga) := by
          have h9 := hka
          rw [List.take_of_length_le (by rw [HN.out]; omega)] at h9
          exact h9
        clear hta hka HR
        go_wp2
        go_loopw [8] (fun i wz => ∃ k : Nat, (k ≤ n ∧ k ≤ mm) ∧ i = .int .i64 k ∧ Hid (∃ g0, TS w pa ea wa pb eb wb ga g0 wz ∧ KnH ((xs.take k).map (·.e)) g0)) (fun i _ => n - (intOf i).toNat)
        case atStart => exact ⟨0, by omega, rfl, emptyLg, HTA.out, KnH.start⟩
        case round =>
          obtain ⟨k, hk, rfl, HR⟩ := hrel
          by_cases hlt : k < n ∧ k < mm
          · exfalso
            omega
          · skip
            rcases Classical.em (k < n) with hkn1 | hkn1
            · have hlt' : (k : Int) < (n : Int) := by omega
              have hlt2 : ¬ (k : Int) < (mm : Int) := by omega
              obtain ⟨gb, htb, hkb⟩ := HR.out
              have HTB := hid htb
              have HKB : Hid (KnH ((xs.map (·.e)).take k) gb) := by rw [← List.map_take]; exact hkb
              have HKN : Hid (k ≤ n ∧ k ≤ mm) := hk
              have HAPB := hid (applied_any HTB.out.b)
              obtain ⟨PL, HPL⟩ : ∃ z, Hid ((plainOf gb.A).length = z) := ⟨_, hid rfl⟩
              clear htb hkb HR HTA
              go_wp2_with fail
              refine HAPB.out.mono ?_
              rintro e w5 ⟨bo, cp, rfl, hv5, hb5⟩
              rw [HPL.out]
              have HT5 := hid (HTB.out.below hb5)
              have HEL : Hid ((evL (plainOf gb.A) ga).length ≤ n) := by have h1 := HKA.out.len (plainOf gb.A); rw [List.length_map, HN.out] at h1; exact h1
              have HAF := hid (after_any HT5.out.a bo cp (plainOf gb.A) hv5 PL HPL.out 1048576 (by have := HEL.out; have := HNM.out; omega))
              clear hv5 hb5 HAPB
              go_wp2_with fail
              refine HAF.out.mono ?_
              rintro e w6 ⟨r6, ds, rfl, hrow, hds, hb6⟩
              have HT6 := hid (HT5.out.below hb6)
              have HDS : Hid (ds.map (·.e) = evL (plainOf gb.A) ga) := by
                show _ = _
                rw [hds]
                exact List.take_of_length_le (by have := HEL.out; have := HNM.out; omega)
              obtain ⟨ro, rc, hr6⟩ := own_slice' hrow.row
              obtain ⟨M, HM⟩ : ∃ z, Hid (ds.length = z) := ⟨_, hid rfl⟩
              subst hr6
              have HMN : Hid (M ≤ n) := by have h1 := HEL.out; rw [← HDS.out, List.length_map, HM.out] at h1; exact h1
              obtain ⟨B0, hB0⟩ : ∃ B, B = w5.heap.size := ⟨_, rfl⟩
              have HROW : Hid (RowE B0 w6 (.slice ro M rc) ds) := by rw [← HM.out, hB0]; exact hrow
              have HBL : Hid (∀ i, FootL pb eb wb i → i < B0) := by rw [hB0]; exact HT5.out.b.lt
              have hM4 : M ≤ 4000 := by have := HMN.out; have := HNM.out; omega
              have hwM : IntKind.i64.wrap ((M : Int) - 1) = (M : Int) - 1 := (IntKind.wrap_i64 _).trans (by omega)
              rw [HM.out]
              clear hrow hds hb6 hB0 HAF
              go_wp2
              go_loopw [10, 11, 12] (fun i _ _ wz => ∃ j : Nat, j ≤ M ∧ i = .int .i64 ((j : Int) - 1) ∧ Hid (∃ g1, TS w pa ea wa pb eb wb ga g1 wz ∧ KnH ((xs.map (·.e)).take k ++ ((ds.map (·.e)).drop j).reverse) g1 ∧ RowE B0 wz (.slice ro M rc) ds)) (fun i _ _ _ => (intOf i + 1).toNat)
              case atStart => exact ⟨M, Nat.le_refl _, rfl, gb, HT6.out, by rw [List.drop_of_length_le (by rw [List.length_map, HM.out]; exact Nat.le_refl _)]; simpa using HKB.out, HROW.out⟩
              case round =>
                obtain ⟨j, hj, rfl, HR⟩ := hrel
                by_cases hj0 : 0 < j
                · obtain ⟨j', rfl⟩ : ∃ j', j = j' + 1 := ⟨j - 1, by omega⟩
                  have hi : (((j' + 1 : Nat) : Int) - 1) = (j' : Int) := by omega
                  rw [hi]
                  have hi0 : (0 : Int) ≤ (j' : Int) := by omega
                  have hiM : (j' : Int) < (M : Int) := by omega
                  have hwj : IntKind.i64.wrap ((j' : Int) - 1) = (j' : Int) - 1 := (IntKind.wrap_i64 _).trans (by omega)
                  obtain ⟨g1, hts, hkn, hrw⟩ := HR.out
                  have hjx : Hid (j' < ds.length) := (by rw [HM.out]; omega : j' < ds.length)
                  have hje : Hid (j' < (ds.map (·.e)).length) := (by rw [List.length_map]; exact hjx.out : j' < (ds.map (·.e)).length)
                  obtain ⟨ao3, cap3, he3, _, hh3⟩ := heldE_of_own HM.out (by have := hrw.row; rw [HM.out] at this; exact this) (fun y hy => (hrw.keep y hy).ok)
                  cases he3
                  obtain ⟨db, doff, rfl, hdb, d0, d1, d2, d3, d4, d5, d6, d7⟩ := hh3.at hjx.out
                  have HPU := hid (put_any hts.b (ds[j']'hjx.out) (hh3.1 _ (List.getElem_mem hjx.out)))
                  have HMX : Hid (MayE (ds[j']'hjx.out).e) := by
                    have h1 : (ds[j']'hjx.out).e ∈ ds.map (·.e) := List.mem_map_of_mem (List.getElem_mem hjx.out)
                    rw [HDS.out] at h1
                    exact (evL_closed hts.a h1).2.2
                  have HLK : Hid (∀ e w', PutP wr pb eb wb g1 (ds[j']'hjx.out).e e w' → ∃ v c g', e = .returned (.tuple #[v, .int .i64 c]) ∧ (c = 0 ∨ c = 5) ∧ TS w pa ea wa pb eb wb ga g' w' ∧ KnH ((xs.map (·.e)).take k ++ ((ds.map (·.e)).drop j').reverse) g' ∧ RowE B0 w' (.slice (some ⟨db, doff, none⟩) M rc) ds) := fun e w' hp => by
                    obtain ⟨v, c, g', he, hpg, hat⟩ := PutP.toG hts.b hp
                    have hln : ((xs.map (·.e)).take k ++ ((ds.map (·.e)).drop (j' + 1)).reverse).length < 4096 := by
                      rw [List.length_append, List.length_reverse, List.length_take, List.length_drop, List.length_map, List.length_map, HM.out, HN.out]
                      have := HNM.out
                      have := HKN.out
                      have := HMN.out
                      omega
                    have h2 := hkn.put hln hat.1.has hpg
                    rw [List.append_assoc, ← List.reverse_cons, show (ds[j']'hjx.out).e :: (ds.map (·.e)).drop (j' + 1) = (ds.map (·.e)).drop j' by rw [List.drop_eq_getElem_cons hje.out, List.getElem_map]] at h2
                    exact ⟨v, c, g', he, h2.2 HMX.out, hts.putB hat, h2.1, hrw.putB hts.b HBL.out hat⟩
                  obtain ⟨X, HXX⟩ : ∃ X, Hid (ds[j']'hjx.out = X) := ⟨_, hid rfl⟩
                  rw [HXX.out] at d0 d1 d2 d3 d4 d5 d6 d7 HPU HLK
                  obtain ⟨⟨o1, s1, dp, ct, ep, sk, qt, cl⟩, ao1, cap1⟩ := X
                  obtain ⟨XN, HXN⟩ : ∃ m, Hid (dp.length = m) := ⟨_, hid rfl⟩
                  simp only [EvM.val] at d0 d1 d2 d3 d4 d5 d6 d7 HPU
                  rw [HXN.out] at d2 HPU
                  clear hts hkn hrw hdb hh3
                  go_wp2_with fail
                  refine HPU.out.mono ?_
                  intro e w7 hp7
                  obtain ⟨v7, c7, g7, rfl, hc7, ht7, hk7, hr7⟩ := HLK.out _ _ hp7
                  have HT7 := hid ht7
                  have HK7 := hid hk7
                  have HR7 := hid hr7
                  clear hp7 ht7 hk7 hr7 HPU HLK d0 d1 d2 d3 d4 d5 d6 d7
                  rcases hc7 with rfl | rfl
                  all_goals
                    go_wp2
                    go_roundw
                    case rel => exact ⟨j', by omega, rfl, g7, HT7.out, HK7.out, HR7.out⟩
                    case measure => simp [intOf] <;> omega
                · obtain rfl : j = 0 := by omega
                  obtain ⟨g1, hts, hkn, _⟩ := HR.out
                  have hi : (((0 : Nat) : Int) - 1) = -1 := rfl
                  rw [hi]
                  have HKZ : Hid (KnH ((xs.map (·.e)).take k ++ (evL (plainOf gb.A) ga).reverse) g1) := by rw [List.drop_zero, HDS.out] at hkn; exact hkn
                  have HT9 := hid hts
                  have HFB : Hid (BelowV ga.A g1.A) := by
                    refine copies_below HKA.out HKZ.out ?_ hts.b.may (copies_known HKA.out HKB.out (fun o s => hasV_plainOf gb.A o s) HKZ.out)
                    have h1 := HKZ.out.few
                    rw [List.length_append, List.length_reverse, List.length_take, List.length_map, HN.out] at h1
                    have := HNM.out
                    have := HEL.out
                    omega
                  clear hts hkn HR
                  have HAPA := hid (applied_any HT9.out.a)
                  obtain ⟨LA, HLA⟩ : ∃ z, Hid ((plainOf ga.A).length = z) := ⟨_, hid rfl⟩
                  obtain ⟨LB, HLB⟩ : ∃ z, Hid ((plainOf g1.A).length = z) := ⟨_, hid rfl⟩
                  have HFP : Hid (BelowV (plainOf ga.A) (plainOf g1.A)) := belowV_iff.2 fun i => by rw [plain_getD, plain_getD]; exact belowV_iff.1 HFB.out i
                  have HFQ : Hid (evL (plainOf g1.A) ga = []) := evL_none ((belowV_plainOf _ _).2 HFB.out)
                  go_wp2_with fail
                  refine HAPA.out.mono ?_
                  rintro e wA ⟨bA, cA, rfl, hvA, hbA⟩
                  rw [HLA.out]
                  have HTA9 := hid (HT9.out.below hbA)
                  have HVA := hid hvA
                  have HAPC := hid (applied_any HTA9.out.b)
                  clear hvA hbA HAPA
                  go_wp2_with fail
                  refine HAPC.out.mono ?_
                  rintro e wB ⟨bB, cB, rfl, hvB, hbB⟩
                  rw [HLB.out]
                  have HTB9 := hid (HTA9.out.below hbB)
                  have HBE := hid (below_any wB bA bB cA cB _ _ LA LB HLA.out HLB.out (HVA.out.below hbB) hvB)
                  rw [decide_eq_true HFP.out] at HBE
                  have HAPD := hid (applied_any HTB9.out.b)
                  clear hvB hbB HAPC
                  go_wp2_with fail
                  refine HBE.out.mono ?_
                  rintro e wC ⟨rfl, rfl⟩
                  go_wp2_with fail
                  refine HAPD.out.mono ?_
                  rintro e wD ⟨bD, cD, rfl, hvD, hbD⟩
                  rw [HLB.out]
                  have HTD9 := hid (HTB9.out.below hbD)
                  have HAFZ := hid (after_any HTD9.out.a bD cD (plainOf g1.A) hvD LB HLB.out 9 (by rw [HFQ.out]; simp))
                  clear hvD hbD HAPD
                  go_wp2_with fail
                  refine HAFZ.out.mono ?_
                  rintro e wE ⟨rE, es, rfl, hrE, hesE, hbE⟩
                  have hes : es = [] := by rw [HFQ.out] at hesE; simpa using hesE
                  subst hes
                  obtain ⟨eo, ec, hre⟩ := own_slice' hrE.row
                  subst hre
                  have HBZ := hid (bt HTD9.out.bel hbE)
                  clear hrE hesE hbE HAFZ
                  simp only [List.length_nil]
                  go_wp2
                  go_ret
                  exact ⟨rfl, HBZ.out⟩
            · have hlt' : ¬ (k : Int) < (n : Int) := by omega
              obtain ⟨gb, htb, hkb⟩ := HR.out
              have HTB := hid htb
              have HKB : Hid (KnH ((xs.map (·.e)).take k) gb) := by rw [← List.map_take]; exact hkb
              have HKN : Hid (k ≤ n ∧ k ≤ mm) := hk
              have HAPB := hid (applied_any HTB.out.b)
              obtain ⟨PL, HPL⟩ : ∃ z, Hid ((plainOf gb.A).length = z) := ⟨_, hid rfl⟩
              clear htb hkb HR HTA
              go_wp2_with fail
              refine HAPB.out.mono ?_
              rintro e w5 ⟨bo, cp, rfl, hv5, hb5⟩
              rw [HPL.out]
              have HT5 := hid (HTB.out.below hb5)
              have HEL : Hid ((evL (plainOf gb.A) ga).length ≤ n) := by have h1 := HKA.out.len (plainOf gb.A); rw [List.length_map, HN.out] at h1; exact h1
              have HAF := hid (after_any HT5.out.a bo cp (plainOf gb.A) hv5 PL HPL.out 1048576 (by have := HEL.out; have := HNM.out; omega))
              clear hv5 hb5 HAPB
              go_wp2_with fail
              refine HAF.out.mono ?_
              rintro e w6 ⟨r6, ds, rfl, hrow, hds, hb6⟩
              have HT6 := hid (HT5.out.below hb6)
              have HDS : Hid (ds.map (·.e) = evL (plainOf gb.A) ga) := by
                show _ = _
                rw [hds]
                exact List.take_of_length_le (by have := HEL.out; have := HNM.out; omega)
              obtain ⟨ro, rc, hr6⟩ := own_slice' hrow.row
              obtain ⟨M, HM⟩ : ∃ z, Hid (ds.length = z) := ⟨_, hid rfl⟩
              subst hr6
              have HMN : Hid (M ≤ n) := by have h1 := HEL.out; rw [← HDS.out, List.length_map, HM.out] at h1; exact h1
              obtain ⟨B0, hB0⟩ : ∃ B, B = w5.heap.size := ⟨_, rfl⟩
              have HROW : Hid (RowE B0 w6 (.slice ro M rc) ds) := by rw [← HM.out, hB0]; exact hrow
              have HBL : Hid (∀ i, FootL pb eb wb i → i < B0) := by rw [hB0]; exact HT5.out.b.lt
              have hM4 : M ≤ 4000 := by have := HMN.out; have := HNM.out; omega
              have hwM : IntKind.i64.wrap ((M : Int) - 1) = (M : Int) - 1 := (IntKind.wrap_i64 _).trans (by omega)
              rw [HM.out]
              clear hrow hds hb6 hB0 HAF
              go_wp2
              go_loopw [10, 11, 12] (fun i _ _ wz => ∃ j : Nat, j ≤ M ∧ i = .int .i64 ((j : Int) - 1) ∧ Hid (∃ g1, TS w pa ea wa pb eb wb ga g1 wz ∧ KnH ((xs.map (·.e)).take k ++ ((ds.map (·.e)).drop j).reverse) g1 ∧ RowE B0 wz (.slice ro M rc) ds)) (fun i _ _ _ => (intOf i + 1).toNat)
              case atStart => exact ⟨M, Nat.le_refl _, rfl, gb, HT6.out, by rw [List.drop_of_length_le (by rw [List.length_map, HM.out]; exact Nat.le_refl _)]; simpa using HKB.out, HROW.out⟩
              case round =>
                obtain ⟨j, hj, rfl, HR⟩ := hrel
                by_cases hj0 : 0 < j
                · obtain ⟨j', rfl⟩ : ∃ j', j = j' + 1 := ⟨j - 1, by omega⟩
                  have hi : (((j' + 1 : Nat) : Int) - 1) = (j' : Int) := by omega
                  rw [hi]
                  have hi0 : (0 : Int) ≤ (j' : Int) := by omega
                  have hiM : (j' : Int) < (M : Int) := by omega
                  have hwj : IntKind.i64.wrap ((j' : Int) - 1) = (j' : Int) - 1 := (IntKind.wrap_i64 _).trans (by omega)
                  obtain ⟨g1, hts, hkn, hrw⟩ := HR.out
                  have hjx : Hid (j' < ds.length) := (by rw [HM.out]; omega : j' < ds.length)
                  have hje : Hid (j' < (ds.map (·.e)).length) := (by rw [List.length_map]; exact hjx.out : j' < (ds.map (·.e)).length)
                  obtain ⟨ao3, cap3, he3, _, hh3⟩ := heldE_of_own HM.out (by have := hrw.row; rw [HM.out] at this; exact this) (fun y hy => (hrw.keep y hy).ok)
                  cases he3
                  obtain ⟨db, doff, rfl, hdb, d0, d1, d2, d3, d4, d5, d6, d7⟩ := hh3.at hjx.out
                  have HPU := hid (put_any hts.b (ds[j']'hjx.out) (hh3.1 _ (List.getElem_mem hjx.out)))
                  have HMX : Hid (MayE (ds[j']'hjx.out).e) := by
                    have h1 : (ds[j']'hjx.out).e ∈ ds.map (·.e) := List.mem_map_of_mem (List.getElem_mem hjx.out)
                    rw [HDS.out] at h1
                    exact (evL_closed hts.a h1).2.2
                  have HLK : Hid (∀ e w', PutP wr pb eb wb g1 (ds[j']'hjx.out).e e w' → ∃ v c g', e = .returned (.tuple #[v, .int .i64 c]) ∧ (c = 0 ∨ c = 5) ∧ TS w pa ea wa pb eb wb ga g' w' ∧ KnH ((xs.map (·.e)).take k ++ ((ds.map (·.e)).drop j').reverse) g' ∧ RowE B0 w' (.slice (some ⟨db, doff, none⟩) M rc) ds) := fun e w' hp => by
                    obtain ⟨v, c, g', he, hpg, hat⟩ := PutP.toG hts.b hp
                    have hln : ((xs.map (·.e)).take k ++ ((ds.map (·.e)).drop (j' + 1)).reverse).length < 4096 := by
                      rw [List.length_append, List.length_reverse, List.length_take, List.length_drop, List.length_map, List.length_map, HM.out, HN.out]
                      have := HNM.out
                      have := HKN.out
                      have := HMN.out
                      omega
                    have h2 := hkn.put hln hat.1.has hpg
                    rw [List.append_assoc, ← List.reverse_cons, show (ds[j']'hjx.out).e :: (ds.map (·.e)).drop (j' + 1) = (ds.map (·.e)).drop j' by rw [List.drop_eq_getElem_cons hje.out, List.getElem_map]] at h2
                    exact ⟨v, c, g', he, h2.2 HMX.out, hts.putB hat, h2.1, hrw.putB hts.b HBL.out hat⟩
                  obtain ⟨X, HXX⟩ : ∃ X, Hid (ds[j']'hjx.out = X) := ⟨_, hid rfl⟩
                  rw [HXX.out] at d0 d1 d2 d3 d4 d5 d6 d7 HPU HLK
                  obtain ⟨⟨o1, s1, dp, ct, ep, sk, qt, cl⟩, ao1, cap1⟩ := X
                  obtain ⟨XN, HXN⟩ : ∃ m, Hid (dp.length = m) := ⟨_, hid rfl⟩
                  simp only [EvM.val] at d0 d1 d2 d3 d4 d5 d6 d7 HPU
                  rw [HXN.out] at d2 HPU
                  clear hts hkn hrw hdb hh3
                  go_wp2_with fail
                  refine HPU.out.mono ?_
                  intro e w7 hp7
                  obtain ⟨v7, c7, g7, rfl, hc7, ht7, hk7, hr7⟩ := HLK.out _ _ hp7
                  have HT7 := hid ht7
                  have HK7 := hid hk7
                  have HR7 := hid hr7
                  clear hp7 ht7 hk7 hr7 HPU HLK d0 d1 d2 d3 d4 d5 d6 d7
                  rcases hc7 with rfl | rfl
                  all_goals
                    go_wp2
                    go_roundw
                    case rel => exact ⟨j', by omega, rfl, g7, HT7.out, HK7.out, HR7.out⟩
                    case measure => simp [intOf] <;> omega
                · obtain rfl : j = 0 := by omega
                  obtain ⟨g1, hts, hkn, _⟩ := HR.out
                  have hi : (((0 : Nat) : Int) - 1) = -1 := rfl
                  rw [hi]
                  have HKZ : Hid (KnH ((xs.map (·.e)).take k ++ (evL (plainOf gb.A) ga).reverse) g1) := by rw [List.drop_zero, HDS.out] at hkn; exact hkn
                  have HT9 := hid hts
                  have HFB : Hid (BelowV ga.A g1.A) := by
                    refine copies_below HKA.out HKZ.out ?_ hts.b.may (copies_known HKA.out HKB.out (fun o s => hasV_plainOf gb.A o s) HKZ.out)
                    have h1 := HKZ.out.few
                    rw [List.length_append, List.length_reverse, List.length_take, List.length_map, HN.out] at h1
                    have := HNM.out
                    have := HEL.out
                    omega
                  clear hts hkn HR
                  have HAPA := hid (applied_any HT9.out.a)
                  obtain ⟨LA, HLA⟩ : ∃ z, Hid ((plainOf ga.A).length = z) := ⟨_, hid rfl⟩
                  obtain ⟨LB, HLB⟩ : ∃ z, Hid ((plainOf g1.A).length = z) := ⟨_, hid rfl⟩
                  have HFP : Hid (BelowV (plainOf ga.A) (plainOf g1.A)) := belowV_iff.2 fun i => by rw [plain_getD, plain_getD]; exact belowV_iff.1 HFB.out i
                  have HFQ : Hid (evL (plainOf g1.A) ga = []) := evL_none ((belowV_plainOf _ _).2 HFB.out)
                  go_wp2_with fail
                  refine HAPA.out.mono ?_
                  rintro e wA ⟨bA, cA, rfl, hvA, hbA⟩
                  rw [HLA.out]
                  have HTA9 := hid (HT9.out.below hbA)
                  have HVA := hid hvA
                  have HAPC := hid (applied_any HTA9.out.b)
                  clear hvA hbA HAPA
                  go_wp2_with fail
                  refine HAPC.out.mono ?_
                  rintro e wB ⟨bB, cB, rfl, hvB, hbB⟩
                  rw [HLB.out]
                  have HTB9 := hid (HTA9.out.below hbB)
                  have HBE := hid (below_any wB bA bB cA cB _ _ LA LB HLA.out HLB.out (HVA.out.below hbB) hvB)
                  rw [decide_eq_true HFP.out] at HBE
                  have HAPD := hid (applied_any HTB9.out.b)
                  clear hvB hbB HAPC
                  go_wp2_with fail
                  refine HBE.out.mono ?_
                  rintro e wC ⟨rfl, rfl⟩
                  go_wp2_with fail
                  refine HAPD.out.mono ?_
                  rintro e wD ⟨bD, cD, rfl, hvD, hbD⟩
                  rw [HLB.out]
                  have HTD9 := hid (HTB9.out.below hbD)
                  have HAFZ := hid (after_any HTD9.out.a bD cD (plainOf g1.A) hvD LB HLB.out 9 (by rw [HFQ.out]; simp))
                  clear hvD hbD HAPD
                  go_wp2_with fail
                  refine HAFZ.out.mono ?_
                  rintro e wE ⟨rE, es, rfl, hrE, hesE, hbE⟩
                  have hes : es = [] := by rw [HFQ.out] at hesE; simpa using hesE
                  subst hes
                  obtain ⟨eo, ec, hre⟩ := own_slice' hrE.row
                  subst hre
                  have HBZ := hid (bt HTD9.out.bel hbE)
                  clear hrE hesE hbE HAFZ
                  simp only [List.length_nil]
                  go_wp2
                  go_ret
                  exact ⟨rfl, HBZ.out⟩
  · have h5' : (0 : Int) < (mm : Int) := by omega
    have h6' : ¬ (4000 : Int) < (n : Int) + (mm : Int) := by omega
    clear h4 h5
    go_wp2
    go_loopw [7] (fun i wz => ∃ k : Nat, k ≤ n ∧ i = .int .i64 k ∧ Hid (∃ g0, TS w pa ea wa pb eb wb g0 emptyLg wz ∧ KnH ((xs.take k).map (·.e)) g0)) (fun i _ => n - (intOf i).toNat)
    case atStart => exact ⟨0, by omega, rfl, emptyLg, HTS.out, KnH.start⟩
    case round =>
      obtain ⟨k, hk, rfl, HR⟩ := hrel
      by_cases hlt : k < n
      · have hlt' : (k : Int) < (n : Int) := by omega
        have hkx : Hid (k < xs.length) := (by rw [HN.out]; omega : k < xs.length)
        obtain ⟨g0, hts, hkn⟩ := HR.out
        have HXR := hid (HX.out.below hts.bel)
        obtain ⟨bb, off, hao, hbb, c0, c1, c2, c3, c4, c5, c6, c7⟩ := HXR.out.at hkx.out
        have HOX := hid (HXR.out.1 _ (List.getElem_mem hkx.out))
        have HPU := hid (put_any hts.a (xs[k]'hkx.out) HOX.out)
        have HLK : Hid (∀ e w', PutP wr pa ea wa g0 (xs[k]'hkx.out).e e w' → ∃ v c g', e = .returned (.tuple #[v, .int .i64 c]) ∧ TS w pa ea wa pb eb wb g' emptyLg w' ∧ KnH ((xs.take (k + 1)).map (·.e)) g') := fun e w' hp => by
          obtain ⟨v, c, g', he, hpg, hat⟩ := PutP.toG hts.a hp
          refine ⟨v, c, g', he, hts.putA hat, ?_⟩
          rw [List.take_succ_eq_append_getElem hkx.out, List.map_append]
          exact (hkn.put (by rw [List.length_map, List.length_take]; have := HNM.out; omega) hat.1.has hpg).1
        subst hao
        obtain ⟨X, HXX⟩ : ∃ X, Hid (xs[k]'hkx.out = X) := ⟨_, hid rfl⟩
        rw [HXX.out] at c0 c1 c2 c3 c4 c5 c6 c7 HPU HLK
        obtain ⟨⟨o1, s1, dp, ct, ep, sk, qt, cl⟩, ao1, cap1⟩ := X
        obtain ⟨XN, HXN⟩ : ∃ m, Hid (dp.length = m) := ⟨_, hid rfl⟩
        simp only [EvM.val] at c0 c1 c2 c3 c4 c5 c6 c7 HPU
        rw [HXN.out] at c2 HPU
        clear hts hkn hbb
        go_wp2_with fail
        refine HPU.out.mono ?_
        intro e w4 hp4
        obtain ⟨v4, cc4, g4, rfl, ht4, hk4⟩ := HLK.out _ _ hp4
        have HT4 := hid ht4
        have HK4 := hid hk4
        clear hp4 ht4 hk4 HPU HLK c0 c1 c2 c3 c4 c5 c6 c7
        go_wp2
        go_roundw
        case rel => exact ⟨k + 1, by omega, by go_num, g4, HT4.out, HK4.out⟩
        case measure => simp [intOf]; omega
      · have hlt' : ¬ (k : Int) < (n : Int) := by omega
        obtain ⟨ga, hta, hka⟩ := HR.out
        have HTA := hid hta
        have hkn' : k = n := by omega
        have HKA : Hid (KnH (xs.map (·.e)) ga) := by
          have h9 := hka
          rw [List.take_of_length_le (by rw [HN.out]; omega)] at h9
          exact h9
        clear hta hka HR
        go_wp2
        go_loopw [8] (fun i wz => ∃ k : Nat, (k ≤ n ∧ k ≤ mm) ∧ i = .int .i64 k ∧ Hid (∃ g0, TS w pa ea wa pb eb wb ga g0 wz ∧ KnH ((xs.take k).map (·.e)) g0)) (fun i _ => n - (intOf i).toNat)
        case atStart => exact ⟨0, by omega, rfl, emptyLg, HTA.out, KnH.start⟩
        case round =>
          obtain ⟨k, hk, rfl, HR⟩ := hrel
          by_cases hlt : k < n ∧ k < mm
          · have hlt' : (k : Int) < (n : Int) := by omega
            have hlt2 : (k : Int) < (mm : Int) := by omega
            have hkx : Hid (k < xs.length) := (by rw [HN.out]; omega : k < xs.length)
            obtain ⟨g0, hts, hkn⟩ := HR.out
            have HXR := hid (HX.out.below hts.bel)
            obtain ⟨bb, off, hao, hbb, c0, c1, c2, c3, c4, c5, c6, c7⟩ := HXR.out.at hkx.out
            have HOX := hid (HXR.out.1 _ (List.getElem_mem hkx.out))
            have HPU := hid (put_any hts.b (xs[k]'hkx.out) HOX.out)
            have HLK : Hid (∀ e w', PutP wr pb eb wb g0 (xs[k]'hkx.out).e e w' → ∃ v c g', e = .returned (.tuple #[v, .int .i64 c]) ∧ TS w pa ea wa pb eb wb ga g' w' ∧ KnH ((xs.take (k + 1)).map (·.e)) g') := fun e w' hp => by
              obtain ⟨v, c, g', he, hpg, hat⟩ := PutP.toG hts.b hp
              refine ⟨v, c, g', he, hts.putB hat, ?_⟩
              rw [List.take_succ_eq_append_getElem hkx.out, List.map_append]
              exact (hkn.put (by rw [List.length_map, List.length_take]; have := HNM.out; omega) hat.1.has hpg).1
            subst hao
            obtain ⟨X, HXX⟩ : ∃ X, Hid (xs[k]'hkx.out = X) := ⟨_, hid rfl⟩
            rw [HXX.out] at c0 c1 c2 c3 c4 c5 c6 c7 HPU HLK
            obtain ⟨⟨o1, s1, dp, ct, ep, sk, qt, cl⟩, ao1, cap1⟩ := X
            obtain ⟨XN, HXN⟩ : ∃ m, Hid (dp.length = m) := ⟨_, hid rfl⟩
            simp only [EvM.val] at c0 c1 c2 c3 c4 c5 c6 c7 HPU
            rw [HXN.out] at c2 HPU
            clear hts hkn hbb
            go_wp2_with fail
            refine HPU.out.mono ?_
            intro e w4 hp4
            obtain ⟨v4, cc4, g4, rfl, ht4, hk4⟩ := HLK.out _ _ hp4
            have HT4 := hid ht4
            have HK4 := hid hk4
            clear hp4 ht4 hk4 HPU HLK c0 c1 c2 c3 c4 c5 c6 c7
            go_wp2
            go_roundw
            case rel => exact ⟨k + 1, by omega, by go_num, g4, HT4.out, HK4.out⟩
            case measure => simp [intOf]; omega
          · skip
            rcases Classical.em (k < n) with hkn1 | hkn1
            · have hlt' : (k : Int) < (n : Int) := by omega
              have hlt2 : ¬ (k : Int) < (mm : Int) := by omega
              obtain ⟨gb, htb, hkb⟩ := HR.out
              have HTB := hid htb
              have HKB : Hid (KnH ((xs.map (·.e)).take k) gb) := by rw [← List.map_take]; exact hkb
              have HKN : Hid (k ≤ n ∧ k ≤ mm) := hk
              have HAPB := hid (applied_any HTB.out.b)
              obtain ⟨PL, HPL⟩ : ∃ z, Hid ((plainOf gb.A).length = z) := ⟨_, hid rfl⟩
              clear htb hkb HR HTA
              go_wp2_with fail
              refine HAPB.out.mono ?_
              rintro e w5 ⟨bo, cp, rfl, hv5, hb5⟩
              rw [HPL.out]
              have HT5 := hid (HTB.out.below hb5)
              have HEL : Hid ((evL (plainOf gb.A) ga).length ≤ n) := by have h1 := HKA.out.len (plainOf gb.A); rw [List.length_map, HN.out] at h1; exact h1
              have HAF := hid (after_any HT5.out.a bo cp (plainOf gb.A) hv5 PL HPL.out 1048576 (by have := HEL.out; have := HNM.out; omega))
              clear hv5 hb5 HAPB
              go_wp2_with fail
              refine HAF.out.mono ?_
              rintro e w6 ⟨r6, ds, rfl, hrow, hds, hb6⟩
              have HT6 := hid (HT5.out.below hb6)
              have HDS : Hid (ds.map (·.e) = evL (plainOf gb.A) ga) := by
                show _ = _
                rw [hds]
                exact List.take_of_length_le (by have := HEL.out; have := HNM.out; omega)
              obtain ⟨ro, rc, hr6⟩ := own_slice' hrow.row
              obtain ⟨M, HM⟩ : ∃ z, Hid (ds.length = z) := ⟨_, hid rfl⟩
              subst hr6
              have HMN : Hid (M ≤ n) := by have h1 := HEL.out; rw [← HDS.out, List.length_map, HM.out] at h1; exact h1
              obtain ⟨B0, hB0⟩ : ∃ B, B = w5.heap.size := ⟨_, rfl⟩
              have HROW : Hid (RowE B0 w6 (.slice ro M rc) ds) := by rw [← HM.out, hB0]; exact hrow
              have HBL : Hid (∀ i, FootL pb eb wb i → i < B0) := by rw [hB0]; exact HT5.out.b.lt
              have hM4 : M ≤ 4000 := by have := HMN.out; have := HNM.out; omega
              have hwM : IntKind.i64.wrap ((M : Int) - 1) = (M : Int) - 1 := (IntKind.wrap_i64 _).trans (by omega)
              rw [HM.out]
              clear hrow hds hb6 hB0 HAF
              go_wp2
              go_loopw [10, 11, 12] (fun i _ _ wz => ∃ j : Nat, j ≤ M ∧ i = .int .i64 ((j : Int) - 1) ∧ Hid (∃ g1, TS w pa ea wa pb eb wb ga g1 wz ∧ KnH ((xs.map (·.e)).take k ++ ((ds.map (·.e)).drop j).reverse) g1 ∧ RowE B0 wz (.slice ro M rc) ds)) (fun i _ _ _ => (intOf i + 1).toNat)
              case atStart => exact ⟨M, Nat.le_refl _, rfl, gb, HT6.out, by rw [List.drop_of_length_le (by rw [List.length_map, HM.out]; exact Nat.le_refl _)]; simpa using HKB.out, HROW.out⟩
              case round =>
                obtain ⟨j, hj, rfl, HR⟩ := hrel
                by_cases hj0 : 0 < j
                · obtain ⟨j', rfl⟩ : ∃ j', j = j' + 1 := ⟨j - 1, by omega⟩
                  have hi : (((j' + 1 : Nat) : Int) - 1) = (j' : Int) := by omega
                  rw [hi]
                  have hi0 : (0 : Int) ≤ (j' : Int) := by omega
                  have hiM : (j' : Int) < (M : Int) := by omega
                  have hwj : IntKind.i64.wrap ((j' : Int) - 1) = (j' : Int) - 1 := (IntKind.wrap_i64 _).trans (by omega)
                  obtain ⟨g1, hts, hkn, hrw⟩ := HR.out
                  have hjx : Hid (j' < ds.length) := (by rw [HM.out]; omega : j' < ds.length)
                  have hje : Hid (j' < (ds.map (·.e)).length) := (by rw [List.length_map]; exact hjx.out : j' < (ds.map (·.e)).length)
                  obtain ⟨ao3, cap3, he3, _, hh3⟩ := heldE_of_own HM.out (by have := hrw.row; rw [HM.out] at this; exact this) (fun y hy => (hrw.keep y hy).ok)
                  cases he3
                  obtain ⟨db, doff, rfl, hdb, d0, d1, d2, d3, d4, d5, d6, d7⟩ := hh3.at hjx.out
                  have HPU := hid (put_any hts.b (ds[j']'hjx.out) (hh3.1 _ (List.getElem_mem hjx.out)))
                  have HMX : Hid (MayE (ds[j']'hjx.out).e) := by
                    have h1 : (ds[j']'hjx.out).e ∈ ds.map (·.e) := List.mem_map_of_mem (List.getElem_mem hjx.out)
                    rw [HDS.out] at h1
                    exact (evL_closed hts.a h1).2.2
                  have HLK : Hid (∀ e w', PutP wr pb eb wb g1 (ds[j']'hjx.out).e e w' → ∃ v c g', e = .returned (.tuple #[v, .int .i64 c]) ∧ (c = 0 ∨ c = 5) ∧ TS w pa ea wa pb eb wb ga g' w' ∧ KnH ((xs.map (·.e)).take k ++ ((ds.map (·.e)).drop j').reverse) g' ∧ RowE B0 w' (.slice (some ⟨db, doff, none⟩) M rc) ds) := fun e w' hp => by
                    obtain ⟨v, c, g', he, hpg, hat⟩ := PutP.toG hts.b hp
                    have hln : ((xs.map (·.e)).take k ++ ((ds.map (·.e)).drop (j' + 1)).reverse).length < 4096 := by
                      rw [List.length_append, List.length_reverse, List.length_take, List.length_drop, List.length_map, List.length_map, HM.out, HN.out]
                      have := HNM.out
                      have := HKN.out
                      have := HMN.out
                      omega
                    have h2 := hkn.put hln hat.1.has hpg
                    rw [List.append_assoc, ← List.reverse_cons, show (ds[j']'hjx.out).e :: (ds.map (·.e)).drop (j' + 1) = (ds.map (·.e)).drop j' by rw [List.drop_eq_getElem_cons hje.out, List.getElem_map]] at h2
                    exact ⟨v, c, g', he, h2.2 HMX.out, hts.putB hat, h2.1, hrw.putB hts.b HBL.out hat⟩
                  obtain ⟨X, HXX⟩ : ∃ X, Hid (ds[j']'hjx.out = X) := ⟨_, hid rfl⟩
                  rw [HXX.out] at d0 d1 d2 d3 d4 d5 d6 d7 HPU HLK
                  obtain ⟨⟨o1, s1, dp, ct, ep, sk, qt, cl⟩, ao1, cap1⟩ := X
                  obtain ⟨XN, HXN⟩ : ∃ m, Hid (dp.length = m) := ⟨_, hid rfl⟩
                  simp only [EvM.val] at d0 d1 d2 d3 d4 d5 d6 d7 HPU
                  rw [HXN.out] at d2 HPU
                  clear hts hkn hrw hdb hh3
                  go_wp2_with fail
                  refine HPU.out.mono ?_
                  intro e w7 hp7
                  obtain ⟨v7, c7, g7, rfl, hc7, ht7, hk7, hr7⟩ := HLK.out _ _ hp7
                  have HT7 := hid ht7
                  have HK7 := hid hk7
                  have HR7 := hid hr7
                  clear hp7 ht7 hk7 hr7 HPU HLK d0 d1 d2 d3 d4 d5 d6 d7
                  rcases hc7 with rfl | rfl
                  all_goals
                    go_wp2
                    go_roundw
                    case rel => exact ⟨j', by omega, rfl, g7, HT7.out, HK7.out, HR7.out⟩
                    case measure => simp [intOf] <;> omega
                · obtain rfl : j = 0 := by omega
                  obtain ⟨g1, hts, hkn, _⟩ := HR.out
                  have hi : (((0 : Nat) : Int) - 1) = -1 := rfl
                  rw [hi]
                  have HKZ : Hid (KnH ((xs.map (·.e)).take k ++ (evL (plainOf gb.A) ga).reverse) g1) := by rw [List.drop_zero, HDS.out] at hkn; exact hkn
                  have HT9 := hid hts
                  have HFB : Hid (BelowV ga.A g1.A) := by
                    refine copies_below HKA.out HKZ.out ?_ hts.b.may (copies_known HKA.out HKB.out (fun o s => hasV_plainOf gb.A o s) HKZ.out)
                    have h1 := HKZ.out.few
                    rw [List.length_append, List.length_reverse, List.length_take, List.length_map, HN.out] at h1
                    have := HNM.out
                    have := HEL.out
                    omega
                  clear hts hkn HR
                  have HAPA := hid (applied_any HT9.out.a)
                  obtain ⟨LA, HLA⟩ : ∃ z, Hid ((plainOf ga.A).length = z) := ⟨_, hid rfl⟩
                  obtain ⟨LB, HLB⟩ : ∃ z, Hid ((plainOf g1.A).length = z) := ⟨_, hid rfl⟩
                  have HFP : Hid (BelowV (plainOf ga.A) (plainOf g1.A)) := belowV_iff.2 fun i => by rw [plain_getD, plain_getD]; exact belowV_iff.1 HFB.out i
                  have HFQ : Hid (evL (plainOf g1.A) ga = []) := evL_none ((belowV_plainOf _ _).2 HFB.out)
                  go_wp2_with fail
                  refine HAPA.out.mono ?_
                  rintro e wA ⟨bA, cA, rfl, hvA, hbA⟩
                  rw [HLA.out]
                  have HTA9 := hid (HT9.out.below hbA)
                  have HVA := hid hvA
                  have HAPC := hid (applied_any HTA9.out.b)
                  clear hvA hbA HAPA
                  go_wp2_with fail
                  refine HAPC.out.mono ?_
                  rintro e wB ⟨bB, cB, rfl, hvB, hbB⟩
                  rw [HLB.out]
                  have HTB9 := hid (HTA9.out.below hbB)
                  have HBE := hid (below_any wB bA bB cA cB _ _ LA LB HLA.out HLB.out (HVA.out.below hbB) hvB)
                  rw [decide_eq_true HFP.out] at HBE
                  have HAPD := hid (applied_any HTB9.out.b)
                  clear hvB hbB HAPC
                  go_wp2_with fail
                  refine HBE.out.mono ?_
                  rintro e wC ⟨rfl, rfl⟩
                  go_wp2_with fail
                  refine HAPD.out.mono ?_
                  rintro e wD ⟨bD, cD, rfl, hvD, hbD⟩
                  rw [HLB.out]
                  have HTD9 := hid (HTB9.out.below hbD)
                  have HAFZ := hid (after_any HTD9.out.a bD cD (plainOf g1.A) hvD LB HLB.out 9 (by rw [HFQ.out]; simp))
                  clear hvD hbD HAPD
                  go_wp2_with fail
                  refine HAFZ.out.mono ?_
                  rintro e wE ⟨rE, es, rfl, hrE, hesE, hbE⟩
                  have hes : es = [] := by rw [HFQ.out] at hesE; simpa using hesE
                  subst hes
                  obtain ⟨eo, ec, hre⟩ := own_slice' hrE.row
                  subst hre
                  have HBZ := hid (bt HTD9.out.bel hbE)
                  clear hrE hesE hbE HAFZ
                  simp only [List.length_nil]
                  go_wp2
                  go_ret
                  exact ⟨rfl, HBZ.out⟩
            · have hlt' : ¬ (k : Int) < (n : Int) := by omega
              obtain ⟨gb, htb, hkb⟩ := HR.out
              have HTB := hid htb
              have HKB : Hid (KnH ((xs.map (·.e)).take k) gb) := by rw [← List.map_take]; exact hkb
              have HKN : Hid (k ≤ n ∧ k ≤ mm) := hk
              have HAPB := hid (applied_any HTB.out.b)
              obtain ⟨PL, HPL⟩ : ∃ z, Hid ((plainOf gb.A).length = z) := ⟨_, hid rfl⟩
              clear htb hkb HR HTA
              go_wp2_with fail
              refine HAPB.out.mono ?_
              rintro e w5 ⟨bo, cp, rfl, hv5, hb5⟩
              rw [HPL.out]
              have HT5 := hid (HTB.out.below hb5)
              have HEL : Hid ((evL (plainOf gb.A) ga).length ≤ n) := by have h1 := HKA.out.len (plainOf gb.A); rw [List.length_map, HN.out] at h1; exact h1
              have HAF := hid (after_any HT5.out.a bo cp (plainOf gb.A) hv5 PL HPL.out 1048576 (by have := HEL.out; have := HNM.out; omega))
              clear hv5 hb5 HAPB
              go_wp2_with fail
              refine HAF.out.mono ?_
              rintro e w6 ⟨r6, ds, rfl, hrow, hds, hb6⟩
              have HT6 := hid (HT5.out.below hb6)
              have HDS : Hid (ds.map (·.e) = evL (plainOf gb.A) ga) := by
                show _ = _
                rw [hds]
                exact List.take_of_length_le (by have := HEL.out; have := HNM.out; omega)
              obtain ⟨ro, rc, hr6⟩ := own_slice' hrow.row
              obtain ⟨M, HM⟩ : ∃ z, Hid (ds.length = z) := ⟨_, hid rfl⟩
              subst hr6
              have HMN : Hid (M ≤ n) := by have h1 := HEL.out; rw [← HDS.out, List.length_map, HM.out] at h1; exact h1
              obtain ⟨B0, hB0⟩ : ∃ B, B = w5.heap.size := ⟨_, rfl⟩
              have HROW : Hid (RowE B0 w6 (.slice ro M rc) ds) := by rw [← HM.out, hB0]; exact hrow
              have HBL : Hid (∀ i, FootL pb eb wb i → i < B0) := by rw [hB0]; exact HT5.out.b.lt
              have hM4 : M ≤ 4000 := by have := HMN.out; have := HNM.out; omega
              have hwM : IntKind.i64.wrap ((M : Int) - 1) = (M : Int) - 1 := (IntKind.wrap_i64 _).trans (by omega)
              rw [HM.out]
              clear hrow hds hb6 hB0 HAF
              go_wp2
              go_loopw [10, 11, 12] (fun i _ _ wz => ∃ j : Nat, j ≤ M ∧ i = .int .i64 ((j : Int) - 1) ∧ Hid (∃ g1, TS w pa ea wa pb eb wb ga g1 wz ∧ KnH ((xs.map (·.e)).take k ++ ((ds.map (·.e)).drop j).reverse) g1 ∧ RowE B0 wz (.slice ro M rc) ds)) (fun i _ _ _ => (intOf i + 1).toNat)
              case atStart => exact ⟨M, Nat.le_refl _, rfl, gb, HT6.out, by rw [List.drop_of_length_le (by rw [List.length_map, HM.out]; exact Nat.le_refl _)]; simpa using HKB.out, HROW.out⟩
              case round =>
                obtain ⟨j, hj, rfl, HR⟩ := hrel
                by_cases hj0 : 0 < j
                · obtain ⟨j', rfl⟩ : ∃ j', j = j' + 1 := ⟨j - 1, by omega⟩
                  have hi : (((j' + 1 : Nat) : Int) - 1) = (j' : Int) := by omega
                  rw [hi]
                  have hi0 : (0 : Int) ≤ (j' : Int) := by omega
                  have hiM : (j' : Int) < (M : Int) := by omega
                  have hwj : IntKind.i64.wrap ((j' : Int) - 1) = (j' : Int) - 1 := (IntKind.wrap_i64 _).trans (by omega)
                  obtain ⟨g1, hts, hkn, hrw⟩ := HR.out
                  have hjx : Hid (j' < ds.length) := (by rw [HM.out]; omega : j' < ds.length)
                  have hje : Hid (j' < (ds.map (·.e)).length) := (by rw [List.length_map]; exact hjx.out : j' < (ds.map (·.e)).length)
                  obtain ⟨ao3, cap3, he3, _, hh3⟩ := heldE_of_own HM.out (by have := hrw.row; rw [HM.out] at this; exact this) (fun y hy => (hrw.keep y hy).ok)
                  cases he3
                  obtain ⟨db, doff, rfl, hdb, d0, d1, d2, d3, d4, d5, d6, d7⟩ := hh3.at hjx.out
                  have HPU := hid (put_any hts.b (ds[j']'hjx.out) (hh3.1 _ (List.getElem_mem hjx.out)))
                  have HMX : Hid (MayE (ds[j']'hjx.out).e) := by
                    have h1 : (ds[j']'hjx.out).e ∈ ds.map (·.e) := List.mem_map_of_mem (List.getElem_mem hjx.out)
                    rw [HDS.out] at h1
                    exact (evL_closed hts.a h1).2.2
                  have HLK : Hid (∀ e w', PutP wr pb eb wb g1 (ds[j']'hjx.out).e e w' → ∃ v c g', e = .returned (.tuple #[v, .int .i64 c]) ∧ (c = 0 ∨ c = 5) ∧ TS w pa ea wa pb eb wb ga g' w' ∧ KnH ((xs.map (·.e)).take k ++ ((ds.map (·.e)).drop j').reverse) g' ∧ RowE B0 w' (.slice (some ⟨db, doff, none⟩) M rc) ds) := fun e w' hp => by
                    obtain ⟨v, c, g', he, hpg, hat⟩ := PutP.toG hts.b hp
                    have hln : ((xs.map (·.e)).take k ++ ((ds.map (·.e)).drop (j' + 1)).reverse).length < 4096 := by
                      rw [List.length_append, List.length_reverse, List.length_take, List.length_drop, List.length_map, List.length_map, HM.out, HN.out]
                      have := HNM.out
                      have := HKN.out
                      have := HMN.out
                      omega
                    have h2 := hkn.put hln hat.1.has hpg
                    rw [List.append_assoc, ← List.reverse_cons, show (ds[j']'hjx.out).e :: (ds.map (·.e)).drop (j' + 1) = (ds.map (·.e)).drop j' by rw [List.drop_eq_getElem_cons hje.out, List.getElem_map]] at h2
                    exact ⟨v, c, g', he, h2.2 HMX.out, hts.putB hat, h2.1, hrw.putB hts.b HBL.out hat⟩
                  obtain ⟨X, HXX⟩ : ∃ X, Hid (ds[j']'hjx.out = X) := ⟨_, hid rfl⟩
                  rw [HXX.out] at d0 d1 d2 d3 d4 d5 d6 d7 HPU HLK
                  obtain ⟨⟨o1, s1, dp, ct, ep, sk, qt, cl⟩, ao1, cap1⟩ := X
                  obtain ⟨XN, HXN⟩ : ∃ m, Hid (dp.length = m) := ⟨_, hid rfl⟩
                  simp only [EvM.val] at d0 d1 d2 d3 d4 d5 d6 d7 HPU
                  rw [HXN.out] at d2 HPU
                  clear hts hkn hrw hdb hh3
                  go_wp2_with fail
                  refine HPU.out.mono ?_
                  intro e w7 hp7
                  obtain ⟨v7, c7, g7, rfl, hc7, ht7, hk7, hr7⟩ := HLK.out _ _ hp7
                  have HT7 := hid ht7
                  have HK7 := hid hk7
                  have HR7 := hid hr7
                  clear hp7 ht7 hk7 hr7 HPU HLK d0 d1 d2 d3 d4 d5 d6 d7
                  rcases hc7 with rfl | rfl
                  all_goals
                    go_wp2
                    go_roundw
                    case rel => exact ⟨j', by omega, rfl, g7, HT7.out, HK7.out, HR7.out⟩
                    case measure => simp [intOf] <;> omega
                · obtain rfl : j = 0 := by omega
                  obtain ⟨g1, hts, hkn, _⟩ := HR.out
                  have hi : (((0 : Nat) : Int) - 1) = -1 := rfl
                  rw [hi]
                  have HKZ : Hid (KnH ((xs.map (·.e)).take k ++ (evL (plainOf gb.A) ga).reverse) g1) := by rw [List.drop_zero, HDS.out] at hkn; exact hkn
                  have HT9 := hid hts
                  have HFB : Hid (BelowV ga.A g1.A) := by
                    refine copies_below HKA.out HKZ.out ?_ hts.b.may (copies_known HKA.out HKB.out (fun o s => hasV_plainOf gb.A o s) HKZ.out)
                    have h1 := HKZ.out.few
                    rw [List.length_append, List.length_reverse, List.length_take, List.length_map, HN.out] at h1
                    have := HNM.out
                    have := HEL.out
                    omega
                  clear hts hkn HR
                  have HAPA := hid (applied_any HT9.out.a)
                  obtain ⟨LA, HLA⟩ : ∃ z, Hid ((plainOf ga.A).length = z) := ⟨_, hid rfl⟩
                  obtain ⟨LB, HLB⟩ : ∃ z, Hid ((plainOf g1.A).length = z) := ⟨_, hid rfl⟩
                  have HFP : Hid (BelowV (plainOf ga.A) (plainOf g1.A)) := belowV_iff.2 fun i => by rw [plain_getD, plain_getD]; exact belowV_iff.1 HFB.out i
                  have HFQ : Hid (evL (plainOf g1.A) ga = []) := evL_none ((belowV_plainOf _ _).2 HFB.out)
                  go_wp2_with fail
                  refine HAPA.out.mono ?_
                  rintro e wA ⟨bA, cA, rfl, hvA, hbA⟩
                  rw [HLA.out]
                  have HTA9 := hid (HT9.out.below hbA)
                  have HVA := hid hvA
                  have HAPC := hid (applied_any HTA9.out.b)
                  clear hvA hbA HAPA
                  go_wp2_with fail
                  refine HAPC.out.mono ?_
                  rintro e wB ⟨bB, cB, rfl, hvB, hbB⟩
                  rw [HLB.out]
                  have HTB9 := hid (HTA9.out.below hbB)
                  have HBE := hid (below_any wB bA bB cA cB _ _ LA LB HLA.out HLB.out (HVA.out.below hbB) hvB)
                  rw [decide_eq_true HFP.out] at HBE
                  have HAPD := hid (applied_any HTB9.out.b)
                  clear hvB hbB HAPC
                  go_wp2_with fail
                  refine HBE.out.mono ?_
                  rintro e wC ⟨rfl, rfl⟩
                  go_wp2_with fail
                  refine HAPD.out.mono ?_
                  rintro e wD ⟨bD, cD, rfl, hvD, hbD⟩
                  rw [HLB.out]
                  have HTD9 := hid (HTB9.out.below hbD)
                  have HAFZ := hid (after_any HTD9.out.a bD cD (plainOf g1.A) hvD LB HLB.out 9 (by rw [HFQ.out]; simp))
                  clear hvD hbD HAPD
                  go_wp2_with fail
                  refine HAFZ.out.mono ?_
                  rintro e wE ⟨rE, es, rfl, hrE, hesE, hbE⟩
                  have hes : es = [] := by rw [HFQ.out] at hesE; simpa using hesE
                  subst hes
                  obtain ⟨eo, ec, hre⟩ := own_slice' hrE.row
                  subst hre
                  have HBZ := hid (bt HTD9.out.bel hbE)
                  clear hrE hesE hbE HAFZ
                  simp only [List.length_nil]
                  go_wp2
                  go_ret
                  exact ⟨rfl, HBZ.out⟩
end Go.Proofs.Ytcammngbhnhjjaa
