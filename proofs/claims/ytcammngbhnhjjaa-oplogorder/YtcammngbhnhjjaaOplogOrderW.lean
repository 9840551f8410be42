/-
  pannierlaw10.OplogOrder answers true for any events.
-/
import Derived.Test.YtcammngbhnhjjaaSameEvs
namespace Go.Proofs.Ytcammngbhnhjjaa
open Go.RowKit Go.Shelf Go.Maps
attribute [local go_sem] Oper.semAt_some

set_option maxRecDepth 1000000 in
set_option maxHeartbeats 8000000 in
theorem oplogOrder_walk (ao : Option Addr) (ca : Nat) (xs : List EvM) (by_ : Int) (w : World) (hx : HeldE w ao xs) (hl0 : xs.length ≤ 1466015503701) (_hby : -9223372036854775808 ≤ by_ ∧ by_ ≤ 9223372036854775807) :
    Calls Try.prog 4 #[.slice ao xs.length ca, .int .i64 by_] w fun e w' => e = .returned (.bool true) ∧ Below w.heap.size w w' := by
  obtain ⟨n, HN⟩ : ∃ n, Hid (xs.length = n) := ⟨_, hid rfl⟩
  rw [HN.out] at hl0 ⊢
  have HX := hid hx
  clear hx
  go_enter Try.func4, Try.ntmps4
  go_wp2_with fail
  refine (newL_any w).mono ?_
  rintro e w1 ⟨pa, ea, wa, rfl, hl, hf, hb⟩
  have HL1 := hid hl
  have HF1 := hid hf
  have HB1 := hid hb
  clear hl hf hb
  go_wp2_with fail
  refine (newL_any w1).mono ?_
  rintro e w2 ⟨pb, eb, wb, rfl, hl, hf, hb⟩
  have HTS2 : Hid (TS w pa ea wa pb eb wb emptyLg emptyLg w2) := ⟨HL1.out.below hb, hl, fun i h1 h2 => by have := HL1.out.lt i h1; have := hf i h2; omega, HF1.out, fun i hi => Nat.le_trans HB1.out.size (hf i hi), bt HB1.out hb⟩
  clear hl hf hb HL1 HF1 HB1
  go_wp2_with fail
  refine (lives10_any w2).mono ?_
  rintro e w3 ⟨rfl, hb⟩
  have HTS := hid (HTS2.out.below hb)
  clear hb HTS2
  have done1 : Hid (Below w.heap.size w w3) := HTS.out.bel
  by_cases h4 : 4000 < n
  · have h4' : (4000 : Int) < (n : Int) := by omega
    clear h4
    go_wp2
    go_ret
    exact ⟨rfl, done1.out⟩
  have h4' : ¬ (4000 : Int) < (n : Int) := by omega
  have HN4 : Hid (n ≤ 4000) := (by omega : n ≤ 4000)
  clear h4
  go_wp2
  go_loopw [7, 8] (fun i _ wz => ∃ k : Nat, k ≤ n ∧ i = .int .i64 k ∧ Hid (TS w pa ea wa pb eb wb emptyLg emptyLg wz ∧ Apart xs k)) (fun i _ _ => n - (intOf i).toNat)
  case atStart => exact ⟨0, Nat.zero_le _, rfl, HTS.out, fun i j _ _ _ h => absurd h (Nat.not_lt_zero _)⟩
  case round =>
    obtain ⟨i, hi, rfl, HR⟩ := hrel
    by_cases hlt : i < n
    · have hlt' : (i : Int) < (n : Int) := by omega
      have hix : Hid (i < xs.length) := (by rw [HN.out]; exact hlt : i < xs.length)
      have HIN : Hid (i + 1 ≤ n) := (by omega : i + 1 ≤ n)
      obtain ⟨EI, HEI⟩ : ∃ X, Hid (xs[i]'hix.out = X) := ⟨_, hid rfl⟩
      go_wp2
      go_loopw [8] (fun x wz => ∃ q : Nat, q ≤ i ∧ x = .int .i64 q ∧ Hid (TS w pa ea wa pb eb wb emptyLg emptyLg wz ∧ ∀ t (ht : t < xs.length), t < q → ¬ (EI.e.o = xs[t].e.o ∧ EI.e.s = xs[t].e.s))) (fun x _ => i - (intOf x).toNat)
      case atStart => exact ⟨0, Nat.zero_le _, rfl, HR.out.1, fun t _ h => absurd h (Nat.not_lt_zero _)⟩
      case round =>
        obtain ⟨q, hq, rfl, HQ⟩ := hrel
        by_cases hqi : q < i
        · have hqi' : (q : Int) < (i : Int) := by omega
          have hqn' : (q : Int) < (n : Int) := by omega
          have hqx : Hid (q < xs.length) := (by rw [HN.out]; omega : q < xs.length)
          have HXR := hid (HX.out.below HQ.out.1.bel)
          obtain ⟨bb, off, hao, hbb, c0, c1, _⟩ := HXR.out.at hix.out
          obtain ⟨bb', off', hao', _, d0, d1, _⟩ := HXR.out.at hqx.out
          subst hao
          injection hao' with hao'
          injection hao' with h1 h2
          subst h1 h2
          rw [HEI.out] at c0 c1
          obtain ⟨EQ, HEQ⟩ : ∃ X, Hid (xs[q]'hqx.out = X) := ⟨_, hid rfl⟩
          rw [HEQ.out] at d0 d1
          obtain ⟨⟨o1, s1, dp1, ct1, ep1, sk1, qt1, cl1⟩, ao1, cap1⟩ := EI
          obtain ⟨⟨o2, s2, dp2, ct2, ep2, sk2, qt2, cl2⟩, ao2, cap2⟩ := EQ
          dsimp only at c0 c1 d0 d1
          have HTD := hid (fun r => HQ.out.1.below (below_dn (Below.refl _ _) r))
          by_cases hsame : o1 = o2 ∧ s1 = s2
          · obtain ⟨rfl, rfl⟩ := hsame
            go_wp2
            go_quiet (fail)
            go_wp2
            go_ret
            exact ⟨rfl, (HTD.out _).bel⟩
          have HNS := hid hsame
          by_cases ho : o1 = o2
          · have hs : ¬ s1 = s2 := fun h => hsame ⟨ho, h⟩
            subst ho
            clear hsame
            go_wp2
            go_quiet (fail)
            go_wp2
            go_roundw
            case rel => exact ⟨q + 1, by omega, by go_num, HTD.out _, fun t ht htq => by
              rcases Nat.lt_or_ge t q with h | h
              · exact HQ.out.2 t ht h
              · obtain rfl : t = q := by omega
                rw [HEQ.out]
                exact fun hc => HNS.out ⟨by first | exact trivial | exact hc.1, hc.2⟩⟩
            case measure => simp [intOf]; omega
          · clear hsame
            go_wp2
            go_quiet (fail)
            go_wp2
            go_roundw
            case rel => exact ⟨q + 1, by omega, by go_num, HTD.out _, fun t ht htq => by
              rcases Nat.lt_or_ge t q with h | h
              · exact HQ.out.2 t ht h
              · obtain rfl : t = q := by omega
                rw [HEQ.out]
                exact fun hc => HNS.out ⟨by first | exact trivial | exact hc.1, hc.2⟩⟩
            case measure => simp [intOf]; omega
        · have hqi' : ¬ (q : Int) < (i : Int) := by omega
          have HAP : Hid (Apart xs (i + 1)) := fun a b ha hb hba hai => by
            rcases Nat.lt_or_ge a i with h | h
            · exact HR.out.2 a b ha hb hba h
            · obtain rfl : a = i := by omega
              rw [HEI.out]
              exact HQ.out.2 b hb (by omega)
          go_wp2
          go_roundw
          case rel => exact ⟨i + 1, HIN.out, by go_num, HQ.out.1, HAP.out⟩
          case measure => simp [intOf]; have := HIN.out; omega
    · have hlt' : ¬ (i : Int) < (n : Int) := by omega
      have HTW := hid HR.out.1
      have HONE : Hid (OneDot (xs.map (·.e))) := apart_one (by have h := HR.out.2; rw [show i = xs.length by rw [HN.out]; omega] at h; exact h)
      obtain rfl : n = i := by omega
      clear HR HTS
      by_cases hn0 : n = 0
      · obtain ⟨K, hK⟩ : ∃ K : Nat, K = 0 := ⟨_, rfl⟩
        have HK : Hid (n = 0 ∨ K < n) := .inl hn0
        have hn3 : ¬ (0 : Int) < (n : Int) := by omega
        clear hK
        go_wp2
        have HN0 := hid HK
        go_loopw [10] (fun x wz => ∃ i : Nat, i ≤ n ∧ x = .int .i64 i ∧ Hid (∃ ga gb, TS w pa ea wa pb eb wb ga gb wz ∧ KnH ((xs.take i).map (·.e)) ga ∧ KnH (rowB xs n K i) gb)) (fun x _ => n - (intOf x).toNat)
        case atStart => exact ⟨0, Nat.zero_le _, rfl, emptyLg, emptyLg, HTW.out, KnH.start, KnH.start⟩
        case round =>
          obtain ⟨i, hi, rfl, HR⟩ := hrel
          by_cases hlt : i < n
          · exfalso
            omega
          · have hlt' : ¬ (i : Int) < (n : Int) := by omega
            obtain rfl : n = i := by omega
            obtain ⟨ga, gb, hts, hka, hkb⟩ := HR.out
            have HAL : Hid (Alike ga gb) := by
              have h1 : (xs.take n).map (·.e) = xs.map (·.e) := by rw [List.take_of_length_le (by rw [HN.out]; exact Nat.le_refl _)]
              rw [h1] at hka
              have h2 := hka.few
              have h3 := hkb.few
              have h4 := rowB_len xs n K n
              rw [List.length_map, HN.out] at h2
              have h5 := HN4.out
              exact order_alike hka hkb (by omega) (by omega) hts.a.may hts.b.may (fun e he => rowB_all HN.out (Or.resolve_left HK.out (fun h6 => by rw [← HN.out] at h6; rw [List.eq_nil_of_length_eq_zero h6] at he; cases he)) he) (fun e he => rowB_sub he) HONE.out (fun o s y hy => (hts.a.wait o s y hy).2) (fun o s y hy => (hts.b.wait o s y hy).2)
            have HLEN : Hid ((evL [] ga).length ≤ 4000) := by
              have h1 := hka.len []
              rw [List.length_map, List.length_take, HN.out] at h1
              have := HN4.out
              show _ ≤ _
              omega
            have HTS := hid hts
            clear hts hka hkb HR
            have HWA := hid (waiting_any HTS.out.a)
            go_wp2_with fail
            refine HWA.out.mono ?_
            rintro e w4 ⟨v4, ss, rfl, hss, hsl, hrow, hb4⟩
            have HT4 := hid (HTS.out.below hb4)
            have HSS := hid hss
            have HSL := hid hsl
            have HROW := hid (own_mono hrow (Nat.zero_le _))
            clear hss hsl hrow hb4 HWA
            have HWB := hid (waiting_any HT4.out.b)
            go_wp2_with fail
            refine HWB.out.mono ?_
            rintro e w5 ⟨v5, tt, rfl, htt, htl, hrow5, hb5⟩
            have HT5 := hid (HT4.out.below hb5)
            obtain rfl : ss = tt := waits_eq HSS.out htt HAL.out
            have HR4 : Hid (w5.ownsRow 0 31 2 v4 ss.length (flatD ss)) := (Turns.of_below (F := fun _ => False) hb5 (Nat.le_refl _)).row HROW.out (fun _ _ h => h)
            have HR5 := hid (own_mono hrow5 (Nat.zero_le _))
            clear htt htl hrow5 hb5 HWB HROW HTS
            obtain ⟨M, HM⟩ : ∃ z, Hid (ss.length = z) := ⟨_, hid rfl⟩
            obtain ⟨vo, vc, hv4⟩ := own_slice' HR4.out
            obtain ⟨uo, uc, hv5⟩ := own_slice' HR5.out
            rw [HM.out] at hv4 hv5
            subst hv4 hv5
            have hM4 : M ≤ 4096 := by have := HSL.out; have := HM.out; omega
            go_wp2
            go_loopw [13] (fun x wz => ∃ j : Nat, j ≤ M ∧ x = .int .i64 j ∧ Hid (Below w5.heap.size w5 wz)) (fun x _ => M - (intOf x).toNat)
            case atStart => exact ⟨0, Nat.zero_le _, rfl, Below.refl _ _⟩
            case round =>
              obtain ⟨j, hj, rfl, HJ⟩ := hrel
              by_cases hjm : j < M
              · have hjm' : (j : Int) < (M : Int) := by omega
                have hjs : Hid (j < ss.length) := (by rw [HM.out]; exact hjm : j < ss.length)
                have hr1 : wr.ownsRow 0 31 2 (.slice vo M vc) ss.length (flatD ss) := (Turns.of_below (F := fun _ => False) HJ.out (Nat.le_refl _)).row HR4.out (fun _ _ h => h)
                have hr2 : wr.ownsRow 0 31 2 (.slice uo M uc) ss.length (flatD ss) := (Turns.of_below (F := fun _ => False) HJ.out (Nat.le_refl _)).row HR5.out (fun _ _ h => h)
                obtain ⟨gd, capd, he, _, d0, d1⟩ := row_dotO hr1 hjs.out
                injection he with he1 he2 he3
                clear he2 he3
                subst he1
                obtain ⟨ge, cape, he, _, e0, e1⟩ := row_dotO hr2 hjs.out
                injection he with he1 he2 he3
                clear he2 he3
                subst he1
                obtain ⟨⟨o, t⟩, HDD⟩ : ∃ d, Hid (ss[j]'hjs.out = d) := ⟨_, hid rfl⟩
                rw [HDD.out] at d0 d1 e0 e1
                dsimp only at d0 d1 e0 e1
                have HJD := hid (fun r => below_dn HJ.out r)
                clear hr1 hr2
                go_wp2
                go_quiet (fail)
                go_wp2
                go_roundw
                case rel => exact ⟨j + 1, by omega, by go_num, HJD.out _⟩
                case measure => simp [intOf]; omega
              · have hjm' : ¬ (j : Int) < (M : Int) := by omega
                have HT9 := hid (HT5.out.below HJ.out)
                obtain ⟨LA, HLA⟩ : ∃ z, Hid ((plainOf ga.A).length = z) := ⟨_, hid rfl⟩
                have HLB : Hid ((plainOf gb.A).length = LA) := by rw [← HAL.out.A]; exact HLA.out
                have HAPA := hid (applied_any HT9.out.a)
                go_wp2_with fail
                refine HAPA.out.mono ?_
                rintro e wA ⟨bA, cA, rfl, hvA, hbA⟩
                rw [HLA.out]
                have HTA9 := hid (HT9.out.below hbA)
                have HVA := hid hvA
                have HAPC := hid (applied_any HTA9.out.b)
                clear hvA hbA HAPA
                go_wp2_with fail
                refine HAPC.out.mono ?_
                rintro e wB ⟨bB, cB, rfl, hvB, hbB⟩
                rw [HLB.out]
                have HTB9 := hid (HTA9.out.below hbB)
                have HSM := hid (same_any wB bA bB cA cB _ _ LA LA HLA.out HLB.out (HVA.out.below hbB) hvB)
                rw [decide_eq_true (by rw [HAL.out.A] : plainOf ga.A = plainOf gb.A)] at HSM
                clear hvB hbB HAPC
                go_wp2_with fail
                refine HSM.out.mono ?_
                rintro e wC ⟨rfl, q, hwC⟩
                have HTC := hid (show TS w pa ea wa pb eb wb ga gb wC by rw [hwC]; exact HTB9.out.below (below_dn (Below.refl _ _) q))
                have HNV : Hid (∀ V, HV V none 0 []) := fun V => ⟨⟨fun x hx => (by cases hx), .inl rfl⟩, Nat.le_refl _, Nat.zero_le _⟩
                have HAF := hid (after_any HTC.out.a none 0 [] (HNV.out _) 0 rfl 1048576 (by have := HLEN.out; omega))
                clear hwC HSM
                go_wp2_with fail
                refine HAF.out.mono ?_
                rintro e wD ⟨rD, ds, rfl, hrD, hdsD, hbD⟩
                have HTD := hid (HTC.out.below hbD)
                have HDS : Hid (ds.map (·.e) = evL [] ga) := by
                  show _ = _
                  rw [hdsD]
                  exact List.take_of_length_le (by have := HLEN.out; omega)
                have HRD := hid hrD
                have HAFB := hid (after_any HTD.out.b none 0 [] (HNV.out _) 0 rfl 1048576 (by rw [← HAL.out.ev]; have := HLEN.out; omega))
                clear hrD hdsD hbD HAF
                go_wp2_with fail
                refine HAFB.out.mono ?_
                rintro e wE ⟨rE, es, rfl, hrE, hesE, hbE⟩
                have HES : Hid (es.map (·.e) = evL [] ga) := by
                  show _ = _
                  rw [hesE, ← HAL.out.ev]
                  exact List.take_of_length_le (by have := HLEN.out; omega)
                have HRE := hid hrE
                have HRD2 := hid (HRD.out.below hbE)
                have HTE := hid (HTD.out.below hbE)
                clear hrE hesE hbE HAFB HRD
                obtain ⟨Z, HZ⟩ : ∃ z, Hid (ds.length = z) := ⟨_, hid rfl⟩
                have HZ2 : Hid (es.length = Z) := by
                  have h1 := congrArg List.length (HDS.out.trans HES.out.symm)
                  rw [List.length_map, List.length_map] at h1
                  exact h1.symm.trans HZ.out
                have HZL : Hid (Z ≤ 4194304) := by
                  have h1 := congrArg List.length HDS.out
                  rw [List.length_map, HZ.out] at h1
                  have := HLEN.out
                  show _ ≤ _
                  omega
                obtain ⟨aD, kD, heD, _, hhD⟩ := heldE_of_own HZ.out (by have := HRD2.out.row; rw [HZ.out] at this; exact this) (fun y hy => (HRD2.out.keep y hy).ok)
                obtain ⟨aE, kE, heE, _, hhE⟩ := heldE_of_own HZ2.out (by have := HRE.out.row; rw [HZ2.out] at this; exact this) (fun y hy => (HRE.out.keep y hy).ok)
                have HSE := hid (sameEvs_anyQ wE aD aE kD kE ds es Z HZ.out HZ2.out hhD hhE (HDS.out.trans HES.out.symm) HZL.out)
                subst heD heE
                clear hhD hhE
                go_wp2_with fail
                refine HSE.out.mono ?_
                rintro e wF ⟨rfl, hbF⟩
                have HBZ := hid (bt HTE.out.bel hbF)
                clear hbF HSE
                go_wp2
                go_ret
                exact ⟨rfl, HBZ.out⟩
      have hn1 : ((n : Int) == 0) = false := by simp; omega
      have hn2 : (0 : Int) < (n : Int) := by omega
      by_cases hp : 0 ≤ by_
      · obtain ⟨K, hK, hKn⟩ : ∃ K : Nat, by_ % (n : Int) = (K : Int) ∧ K < n := by
          have h1 := Int.emod_nonneg by_ (show (n : Int) ≠ 0 by omega)
          have h2 := Int.emod_lt_of_pos by_ hn2
          exact ⟨(by_ % (n : Int)).toNat, by omega, by omega⟩
        have HK : Hid (n = 0 ∨ K < n) := .inr hKn
        go_wp2
        try rw [hK]
        clear hK hKn
        have HN0 := hid HK
        go_loopw [10] (fun x wz => ∃ i : Nat, i ≤ n ∧ x = .int .i64 i ∧ Hid (∃ ga gb, TS w pa ea wa pb eb wb ga gb wz ∧ KnH ((xs.take i).map (·.e)) ga ∧ KnH (rowB xs n K i) gb)) (fun x _ => n - (intOf x).toNat)
        case atStart => exact ⟨0, Nat.zero_le _, rfl, emptyLg, emptyLg, HTW.out, KnH.start, KnH.start⟩
        case round =>
          obtain ⟨i, hi, rfl, HR⟩ := hrel
          by_cases hlt : i < n
          · have hlt' : (i : Int) < (n : Int) := by omega
            have hKn : K < n := by have := HK.out; omega
            have hn1 : ((n : Int) == 0) = false := by simp; omega
            obtain ⟨m, hm⟩ : ∃ m, m = (i + K) % n := ⟨_, rfl⟩
            have hmn : m < n := by rw [hm]; exact Nat.mod_lt _ (by omega)
            have hmod : ((i : Int) + (K : Int)) % (n : Int) = (m : Int) := by rw [hm]; simp
            obtain ⟨J, hJ⟩ : ∃ J, J = n - 1 - m := ⟨_, rfl⟩
            have HJI : Hid (idxB n K i = J) := by show _ = _; unfold idxB; rw [hJ, hm]
            have hJn : (J : Int) < (n : Int) := by omega
            have hJi : (n : Int) - 1 - (m : Int) = (J : Int) := by omega
            have hn4 : n ≤ 4000 := HN4.out
            have hJx : Hid (J < xs.length) := by show _ < _; rw [HN.out]; omega
            have hix : Hid (i < xs.length) := (by rw [HN.out]; exact hlt : i < xs.length)
            have HIM : Hid (i + 1 ≤ n) := (by omega : i + 1 ≤ n)
            obtain ⟨ga, gb, hts, hka, hkb⟩ := HR.out
            have HTS := hid hts
            have HKA := hid hka
            have HKB := hid hkb
            have HXR := hid (HX.out.below hts.bel)
            obtain ⟨bb, off, hao, _, c0, c1, c2, c3, c4, c5, c6, c7⟩ := HXR.out.at hix.out
            have HPU := hid (put_any hts.a (xs[i]'hix.out) (HXR.out.1 _ (List.getElem_mem hix.out)))
            have HLK : Hid (∀ e w', PutP wr pa ea wa ga (xs[i]'hix.out).e e w' → ∃ v c g', e = .returned (.tuple #[v, .int .i64 c]) ∧ TS w pa ea wa pb eb wb g' gb w' ∧ KnH ((xs.take (i + 1)).map (·.e)) g') := fun e w' hp => by
              obtain ⟨v, c, g', he, hpg, hat⟩ := PutP.toG HTS.out.a hp
              refine ⟨v, c, g', he, HTS.out.putA hat, ?_⟩
              rw [List.take_succ_eq_append_getElem hix.out, List.map_append]
              exact (HKA.out.put (by rw [List.length_map, List.length_take]; omega) hat.1.has hpg).1
            subst hao
            obtain ⟨X, HXX⟩ : ∃ X, Hid (xs[i]'hix.out = X) := ⟨_, hid rfl⟩
            rw [HXX.out] at c0 c1 c2 c3 c4 c5 c6 c7 HPU HLK
            obtain ⟨⟨o1, s1, dp, ct, ep, sk, qt, cl⟩, ao1, cap1⟩ := X
            obtain ⟨XN, HXN⟩ : ∃ m, Hid (dp.length = m) := ⟨_, hid rfl⟩
            simp only [EvM.val] at c0 c1 c2 c3 c4 c5 c6 c7 HPU
            rw [HXN.out] at c2 HPU
            clear hts hka hkb hm hJ hmn
            go_wp2_with fail
            refine HPU.out.mono ?_
            intro e w4 hp4
            obtain ⟨v4, cc4, g4, rfl, ht4, hk4⟩ := HLK.out _ _ hp4
            have HT4 := hid ht4
            have HK4 := hid hk4
            clear hp4 ht4 hk4 HPU HLK c0 c1 c2 c3 c4 c5 c6 c7
            have HXR4 := hid (HX.out.below HT4.out.bel)
            obtain ⟨bb', off', hao', _, c0, c1, c2, c3, c4, c5, c6, c7⟩ := HXR4.out.at hJx.out
            injection hao' with hao'
            injection hao' with hq1 hq2
            subst hq1 hq2
            have HPU := hid (put_any HT4.out.b (xs[J]'hJx.out) (HXR4.out.1 _ (List.getElem_mem hJx.out)))
            have HLK : Hid (∀ e w', PutP w4 pb eb wb gb (xs[J]'hJx.out).e e w' → ∃ v c g', e = .returned (.tuple #[v, .int .i64 c]) ∧ TS w pa ea wa pb eb wb g4 g' w' ∧ KnH (rowB xs n K (i + 1)) g') := fun e w' hp => by
              obtain ⟨v, c, g', he, hpg, hat⟩ := PutP.toG HT4.out.b hp
              refine ⟨v, c, g', he, HT4.out.putB hat, ?_⟩
              have hJ2 : idxB n K i < xs.length := by rw [HJI.out]; exact hJx.out
              rw [rowB_step hJ2]
              have h9 : xs[idxB n K i]'hJ2 = xs[J]'hJx.out := by congr 1
              rw [h9]
              exact (HKB.out.put (by have := rowB_len xs n K i; omega) hat.1.has hpg).1
            obtain ⟨X2, HXX2⟩ : ∃ X, Hid (xs[J]'hJx.out = X) := ⟨_, hid rfl⟩
            rw [HXX2.out] at c0 c1 c2 c3 c4 c5 c6 c7 HPU HLK
            obtain ⟨⟨o2, s2, dp2, ct2, ep2, sk2, qt2, cl2⟩, ao2, cap2⟩ := X2
            obtain ⟨XM, HXM⟩ : ∃ m, Hid (dp2.length = m) := ⟨_, hid rfl⟩
            simp only [EvM.val] at c0 c1 c2 c3 c4 c5 c6 c7 HPU
            rw [HXM.out] at c2 HPU
            go_wp2_with fail
            refine HPU.out.mono ?_
            intro e w5 hp5
            obtain ⟨v5, cc5, g5, rfl, ht5, hk5⟩ := HLK.out _ _ hp5
            have HT5 := hid ht5
            have HK5 := hid hk5
            clear hp5 ht5 hk5 HPU HLK c0 c1 c2 c3 c4 c5 c6 c7 hmod hJi hJn
            go_wp2
            go_roundw
            case rel => exact ⟨i + 1, HIM.out, by go_num, g4, g5, HT5.out, HK4.out, HK5.out⟩
            case measure => simp [intOf]; have := HIM.out; omega
          · have hlt' : ¬ (i : Int) < (n : Int) := by omega
            obtain rfl : n = i := by omega
            obtain ⟨ga, gb, hts, hka, hkb⟩ := HR.out
            have HAL : Hid (Alike ga gb) := by
              have h1 : (xs.take n).map (·.e) = xs.map (·.e) := by rw [List.take_of_length_le (by rw [HN.out]; exact Nat.le_refl _)]
              rw [h1] at hka
              have h2 := hka.few
              have h3 := hkb.few
              have h4 := rowB_len xs n K n
              rw [List.length_map, HN.out] at h2
              have h5 := HN4.out
              exact order_alike hka hkb (by omega) (by omega) hts.a.may hts.b.may (fun e he => rowB_all HN.out (Or.resolve_left HK.out (fun h6 => by rw [← HN.out] at h6; rw [List.eq_nil_of_length_eq_zero h6] at he; cases he)) he) (fun e he => rowB_sub he) HONE.out (fun o s y hy => (hts.a.wait o s y hy).2) (fun o s y hy => (hts.b.wait o s y hy).2)
            have HLEN : Hid ((evL [] ga).length ≤ 4000) := by
              have h1 := hka.len []
              rw [List.length_map, List.length_take, HN.out] at h1
              have := HN4.out
              show _ ≤ _
              omega
            have HTS := hid hts
            clear hts hka hkb HR
            have HWA := hid (waiting_any HTS.out.a)
            go_wp2_with fail
            refine HWA.out.mono ?_
            rintro e w4 ⟨v4, ss, rfl, hss, hsl, hrow, hb4⟩
            have HT4 := hid (HTS.out.below hb4)
            have HSS := hid hss
            have HSL := hid hsl
            have HROW := hid (own_mono hrow (Nat.zero_le _))
            clear hss hsl hrow hb4 HWA
            have HWB := hid (waiting_any HT4.out.b)
            go_wp2_with fail
            refine HWB.out.mono ?_
            rintro e w5 ⟨v5, tt, rfl, htt, htl, hrow5, hb5⟩
            have HT5 := hid (HT4.out.below hb5)
            obtain rfl : ss = tt := waits_eq HSS.out htt HAL.out
            have HR4 : Hid (w5.ownsRow 0 31 2 v4 ss.length (flatD ss)) := (Turns.of_below (F := fun _ => False) hb5 (Nat.le_refl _)).row HROW.out (fun _ _ h => h)
            have HR5 := hid (own_mono hrow5 (Nat.zero_le _))
            clear htt htl hrow5 hb5 HWB HROW HTS
            obtain ⟨M, HM⟩ : ∃ z, Hid (ss.length = z) := ⟨_, hid rfl⟩
            obtain ⟨vo, vc, hv4⟩ := own_slice' HR4.out
            obtain ⟨uo, uc, hv5⟩ := own_slice' HR5.out
            rw [HM.out] at hv4 hv5
            subst hv4 hv5
            have hM4 : M ≤ 4096 := by have := HSL.out; have := HM.out; omega
            go_wp2
            go_loopw [13] (fun x wz => ∃ j : Nat, j ≤ M ∧ x = .int .i64 j ∧ Hid (Below w5.heap.size w5 wz)) (fun x _ => M - (intOf x).toNat)
            case atStart => exact ⟨0, Nat.zero_le _, rfl, Below.refl _ _⟩
            case round =>
              obtain ⟨j, hj, rfl, HJ⟩ := hrel
              by_cases hjm : j < M
              · have hjm' : (j : Int) < (M : Int) := by omega
                have hjs : Hid (j < ss.length) := (by rw [HM.out]; exact hjm : j < ss.length)
                have hr1 : wr.ownsRow 0 31 2 (.slice vo M vc) ss.length (flatD ss) := (Turns.of_below (F := fun _ => False) HJ.out (Nat.le_refl _)).row HR4.out (fun _ _ h => h)
                have hr2 : wr.ownsRow 0 31 2 (.slice uo M uc) ss.length (flatD ss) := (Turns.of_below (F := fun _ => False) HJ.out (Nat.le_refl _)).row HR5.out (fun _ _ h => h)
                obtain ⟨gd, capd, he, _, d0, d1⟩ := row_dotO hr1 hjs.out
                injection he with he1 he2 he3
                clear he2 he3
                subst he1
                obtain ⟨ge, cape, he, _, e0, e1⟩ := row_dotO hr2 hjs.out
                injection he with he1 he2 he3
                clear he2 he3
                subst he1
                obtain ⟨⟨o, t⟩, HDD⟩ : ∃ d, Hid (ss[j]'hjs.out = d) := ⟨_, hid rfl⟩
                rw [HDD.out] at d0 d1 e0 e1
                dsimp only at d0 d1 e0 e1
                have HJD := hid (fun r => below_dn HJ.out r)
                clear hr1 hr2
                go_wp2
                go_quiet (fail)
                go_wp2
                go_roundw
                case rel => exact ⟨j + 1, by omega, by go_num, HJD.out _⟩
                case measure => simp [intOf]; omega
              · have hjm' : ¬ (j : Int) < (M : Int) := by omega
                have HT9 := hid (HT5.out.below HJ.out)
                obtain ⟨LA, HLA⟩ : ∃ z, Hid ((plainOf ga.A).length = z) := ⟨_, hid rfl⟩
                have HLB : Hid ((plainOf gb.A).length = LA) := by rw [← HAL.out.A]; exact HLA.out
                have HAPA := hid (applied_any HT9.out.a)
                go_wp2_with fail
                refine HAPA.out.mono ?_
                rintro e wA ⟨bA, cA, rfl, hvA, hbA⟩
                rw [HLA.out]
                have HTA9 := hid (HT9.out.below hbA)
                have HVA := hid hvA
                have HAPC := hid (applied_any HTA9.out.b)
                clear hvA hbA HAPA
                go_wp2_with fail
                refine HAPC.out.mono ?_
                rintro e wB ⟨bB, cB, rfl, hvB, hbB⟩
                rw [HLB.out]
                have HTB9 := hid (HTA9.out.below hbB)
                have HSM := hid (same_any wB bA bB cA cB _ _ LA LA HLA.out HLB.out (HVA.out.below hbB) hvB)
                rw [decide_eq_true (by rw [HAL.out.A] : plainOf ga.A = plainOf gb.A)] at HSM
                clear hvB hbB HAPC
                go_wp2_with fail
                refine HSM.out.mono ?_
                rintro e wC ⟨rfl, q, hwC⟩
                have HTC := hid (show TS w pa ea wa pb eb wb ga gb wC by rw [hwC]; exact HTB9.out.below (below_dn (Below.refl _ _) q))
                have HNV : Hid (∀ V, HV V none 0 []) := fun V => ⟨⟨fun x hx => (by cases hx), .inl rfl⟩, Nat.le_refl _, Nat.zero_le _⟩
                have HAF := hid (after_any HTC.out.a none 0 [] (HNV.out _) 0 rfl 1048576 (by have := HLEN.out; omega))
                clear hwC HSM
                go_wp2_with fail
                refine HAF.out.mono ?_
                rintro e wD ⟨rD, ds, rfl, hrD, hdsD, hbD⟩
                have HTD := hid (HTC.out.below hbD)
                have HDS : Hid (ds.map (·.e) = evL [] ga) := by
                  show _ = _
                  rw [hdsD]
                  exact List.take_of_length_le (by have := HLEN.out; omega)
                have HRD := hid hrD
                have HAFB := hid (after_any HTD.out.b none 0 [] (HNV.out _) 0 rfl 1048576 (by rw [← HAL.out.ev]; have := HLEN.out; omega))
                clear hrD hdsD hbD HAF
                go_wp2_with fail
                refine HAFB.out.mono ?_
                rintro e wE ⟨rE, es, rfl, hrE, hesE, hbE⟩
                have HES : Hid (es.map (·.e) = evL [] ga) := by
                  show _ = _
                  rw [hesE, ← HAL.out.ev]
                  exact List.take_of_length_le (by have := HLEN.out; omega)
                have HRE := hid hrE
                have HRD2 := hid (HRD.out.below hbE)
                have HTE := hid (HTD.out.below hbE)
                clear hrE hesE hbE HAFB HRD
                obtain ⟨Z, HZ⟩ : ∃ z, Hid (ds.length = z) := ⟨_, hid rfl⟩
                have HZ2 : Hid (es.length = Z) := by
                  have h1 := congrArg List.length (HDS.out.trans HES.out.symm)
                  rw [List.length_map, List.length_map] at h1
                  exact h1.symm.trans HZ.out
                have HZL : Hid (Z ≤ 4194304) := by
                  have h1 := congrArg List.length HDS.out
                  rw [List.length_map, HZ.out] at h1
                  have := HLEN.out
                  show _ ≤ _
                  omega
                obtain ⟨aD, kD, heD, _, hhD⟩ := heldE_of_own HZ.out (by have := HRD2.out.row; rw [HZ.out] at this; exact this) (fun y hy => (HRD2.out.keep y hy).ok)
                obtain ⟨aE, kE, heE, _, hhE⟩ := heldE_of_own HZ2.out (by have := HRE.out.row; rw [HZ2.out] at this; exact this) (fun y hy => (HRE.out.keep y hy).ok)
                have HSE := hid (sameEvs_anyQ wE aD aE kD kE ds es Z HZ.out HZ2.out hhD hhE (HDS.out.trans HES.out.symm) HZL.out)
                subst heD heE
                clear hhD hhE
                go_wp2_with fail
                refine HSE.out.mono ?_
                rintro e wF ⟨rfl, hbF⟩
                have HBZ := hid (bt HTE.out.bel hbF)
                clear hbF HSE
                go_wp2
                go_ret
                exact ⟨rfl, HBZ.out⟩
      · obtain ⟨t, ht⟩ : ∃ t, by_.tmod (n : Int) = t := ⟨_, rfl⟩
        have h1 : -(n : Int) < t := by rw [← ht]; have := Int.lt_tmod_of_pos by_ hn2; omega
        have h2 : t ≤ 0 := by rw [← ht]; have := Int.tmod_nonneg (a := -by_) (n : Int) (by omega); rw [Int.neg_tmod] at this; omega
        have hn5 := HN4.out
        by_cases h3 : t < 0
        · obtain ⟨K, hK⟩ : ∃ K : Nat, (t + (n : Int) : Int) = (K : Int) := ⟨(t + n).toNat, by omega⟩
          have HK : Hid (n = 0 ∨ K < n) := .inr (by omega)
          go_wp2
          try rw [hK]
          clear hK ht h1 h2 h3
          have HN0 := hid HK
          go_loopw [10] (fun x wz => ∃ i : Nat, i ≤ n ∧ x = .int .i64 i ∧ Hid (∃ ga gb, TS w pa ea wa pb eb wb ga gb wz ∧ KnH ((xs.take i).map (·.e)) ga ∧ KnH (rowB xs n K i) gb)) (fun x _ => n - (intOf x).toNat)
          case atStart => exact ⟨0, Nat.zero_le _, rfl, emptyLg, emptyLg, HTW.out, KnH.start, KnH.start⟩
          case round =>
            obtain ⟨i, hi, rfl, HR⟩ := hrel
            by_cases hlt : i < n
            · have hlt' : (i : Int) < (n : Int) := by omega
              have hKn : K < n := by have := HK.out; omega
              have hn1 : ((n : Int) == 0) = false := by simp; omega
              obtain ⟨m, hm⟩ : ∃ m, m = (i + K) % n := ⟨_, rfl⟩
              have hmn : m < n := by rw [hm]; exact Nat.mod_lt _ (by omega)
              have hmod : ((i : Int) + (K : Int)) % (n : Int) = (m : Int) := by rw [hm]; simp
              obtain ⟨J, hJ⟩ : ∃ J, J = n - 1 - m := ⟨_, rfl⟩
              have HJI : Hid (idxB n K i = J) := by show _ = _; unfold idxB; rw [hJ, hm]
              have hJn : (J : Int) < (n : Int) := by omega
              have hJi : (n : Int) - 1 - (m : Int) = (J : Int) := by omega
              have hn4 : n ≤ 4000 := HN4.out
              have hJx : Hid (J < xs.length) := by show _ < _; rw [HN.out]; omega
              have hix : Hid (i < xs.length) := (by rw [HN.out]; exact hlt : i < xs.length)
              have HIM : Hid (i + 1 ≤ n) := (by omega : i + 1 ≤ n)
              obtain ⟨ga, gb, hts, hka, hkb⟩ := HR.out
              have HTS := hid hts
              have HKA := hid hka
              have HKB := hid hkb
              have HXR := hid (HX.out.below hts.bel)
              obtain ⟨bb, off, hao, _, c0, c1, c2, c3, c4, c5, c6, c7⟩ := HXR.out.at hix.out
              have HPU := hid (put_any hts.a (xs[i]'hix.out) (HXR.out.1 _ (List.getElem_mem hix.out)))
              have HLK : Hid (∀ e w', PutP wr pa ea wa ga (xs[i]'hix.out).e e w' → ∃ v c g', e = .returned (.tuple #[v, .int .i64 c]) ∧ TS w pa ea wa pb eb wb g' gb w' ∧ KnH ((xs.take (i + 1)).map (·.e)) g') := fun e w' hp => by
                obtain ⟨v, c, g', he, hpg, hat⟩ := PutP.toG HTS.out.a hp
                refine ⟨v, c, g', he, HTS.out.putA hat, ?_⟩
                rw [List.take_succ_eq_append_getElem hix.out, List.map_append]
                exact (HKA.out.put (by rw [List.length_map, List.length_take]; omega) hat.1.has hpg).1
              subst hao
              obtain ⟨X, HXX⟩ : ∃ X, Hid (xs[i]'hix.out = X) := ⟨_, hid rfl⟩
              rw [HXX.out] at c0 c1 c2 c3 c4 c5 c6 c7 HPU HLK
              obtain ⟨⟨o1, s1, dp, ct, ep, sk, qt, cl⟩, ao1, cap1⟩ := X
              obtain ⟨XN, HXN⟩ : ∃ m, Hid (dp.length = m) := ⟨_, hid rfl⟩
              simp only [EvM.val] at c0 c1 c2 c3 c4 c5 c6 c7 HPU
              rw [HXN.out] at c2 HPU
              clear hts hka hkb hm hJ hmn
              go_wp2_with fail
              refine HPU.out.mono ?_
              intro e w4 hp4
              obtain ⟨v4, cc4, g4, rfl, ht4, hk4⟩ := HLK.out _ _ hp4
              have HT4 := hid ht4
              have HK4 := hid hk4
              clear hp4 ht4 hk4 HPU HLK c0 c1 c2 c3 c4 c5 c6 c7
              have HXR4 := hid (HX.out.below HT4.out.bel)
              obtain ⟨bb', off', hao', _, c0, c1, c2, c3, c4, c5, c6, c7⟩ := HXR4.out.at hJx.out
              injection hao' with hao'
              injection hao' with hq1 hq2
              subst hq1 hq2
              have HPU := hid (put_any HT4.out.b (xs[J]'hJx.out) (HXR4.out.1 _ (List.getElem_mem hJx.out)))
              have HLK : Hid (∀ e w', PutP w4 pb eb wb gb (xs[J]'hJx.out).e e w' → ∃ v c g', e = .returned (.tuple #[v, .int .i64 c]) ∧ TS w pa ea wa pb eb wb g4 g' w' ∧ KnH (rowB xs n K (i + 1)) g') := fun e w' hp => by
                obtain ⟨v, c, g', he, hpg, hat⟩ := PutP.toG HT4.out.b hp
                refine ⟨v, c, g', he, HT4.out.putB hat, ?_⟩
                have hJ2 : idxB n K i < xs.length := by rw [HJI.out]; exact hJx.out
                rw [rowB_step hJ2]
                have h9 : xs[idxB n K i]'hJ2 = xs[J]'hJx.out := by congr 1
                rw [h9]
                exact (HKB.out.put (by have := rowB_len xs n K i; omega) hat.1.has hpg).1
              obtain ⟨X2, HXX2⟩ : ∃ X, Hid (xs[J]'hJx.out = X) := ⟨_, hid rfl⟩
              rw [HXX2.out] at c0 c1 c2 c3 c4 c5 c6 c7 HPU HLK
              obtain ⟨⟨o2, s2, dp2, ct2, ep2, sk2, qt2, cl2⟩, ao2, cap2⟩ := X2
              obtain ⟨XM, HXM⟩ : ∃ m, Hid (dp2.length = m) := ⟨_, hid rfl⟩
              simp only [EvM.val] at c0 c1 c2 c3 c4 c5 c6 c7 HPU
              rw [HXM.out] at c2 HPU
              go_wp2_with fail
              refine HPU.out.mono ?_
              intro e w5 hp5
              obtain ⟨v5, cc5, g5, rfl, ht5, hk5⟩ := HLK.out _ _ hp5
              have HT5 := hid ht5
              have HK5 := hid hk5
              clear hp5 ht5 hk5 HPU HLK c0 c1 c2 c3 c4 c5 c6 c7 hmod hJi hJn
              go_wp2
              go_roundw
              case rel => exact ⟨i + 1, HIM.out, by go_num, g4, g5, HT5.out, HK4.out, HK5.out⟩
              case measure => simp [intOf]; have := HIM.out; omega
            · have hlt' : ¬ (i : Int) < (n : Int) := by omega
              obtain rfl : n = i := by omega
              obtain ⟨ga, gb, hts, hka, hkb⟩ := HR.out
              have HAL : Hid (Alike ga gb) := by
                have h1 : (xs.take n).map (·.e) = xs.map (·.e) := by rw [List.take_of_length_le (by rw [HN.out]; exact Nat.le_refl _)]
                rw [h1] at hka
                have h2 := hka.few
                have h3 := hkb.few
                have h4 := rowB_len xs n K n
                rw [List.length_map, HN.out] at h2
                have h5 := HN4.out
                exact order_alike hka hkb (by omega) (by omega) hts.a.may hts.b.may (fun e he => rowB_all HN.out (Or.resolve_left HK.out (fun h6 => by rw [← HN.out] at h6; rw [List.eq_nil_of_length_eq_zero h6] at he; cases he)) he) (fun e he => rowB_sub he) HONE.out (fun o s y hy => (hts.a.wait o s y hy).2) (fun o s y hy => (hts.b.wait o s y hy).2)
              have HLEN : Hid ((evL [] ga).length ≤ 4000) := by
                have h1 := hka.len []
                rw [List.length_map, List.length_take, HN.out] at h1
                have := HN4.out
                show _ ≤ _
                omega
              have HTS := hid hts
              clear hts hka hkb HR
              have HWA := hid (waiting_any HTS.out.a)
              go_wp2_with fail
              refine HWA.out.mono ?_
              rintro e w4 ⟨v4, ss, rfl, hss, hsl, hrow, hb4⟩
              have HT4 := hid (HTS.out.below hb4)
              have HSS := hid hss
              have HSL := hid hsl
              have HROW := hid (own_mono hrow (Nat.zero_le _))
              clear hss hsl hrow hb4 HWA
              have HWB := hid (waiting_any HT4.out.b)
              go_wp2_with fail
              refine HWB.out.mono ?_
              rintro e w5 ⟨v5, tt, rfl, htt, htl, hrow5, hb5⟩
              have HT5 := hid (HT4.out.below hb5)
              obtain rfl : ss = tt := waits_eq HSS.out htt HAL.out
              have HR4 : Hid (w5.ownsRow 0 31 2 v4 ss.length (flatD ss)) := (Turns.of_below (F := fun _ => False) hb5 (Nat.le_refl _)).row HROW.out (fun _ _ h => h)
              have HR5 := hid (own_mono hrow5 (Nat.zero_le _))
              clear htt htl hrow5 hb5 HWB HROW HTS
              obtain ⟨M, HM⟩ : ∃ z, Hid (ss.length = z) := ⟨_, hid rfl⟩
              obtain ⟨vo, vc, hv4⟩ := own_slice' HR4.out
              obtain ⟨uo, uc, hv5⟩ := own_slice' HR5.out
              rw [HM.out] at hv4 hv5
              subst hv4 hv5
              have hM4 : M ≤ 4096 := by have := HSL.out; have := HM.out; omega
              go_wp2
              go_loopw [13] (fun x wz => ∃ j : Nat, j ≤ M ∧ x = .int .i64 j ∧ Hid (Below w5.heap.size w5 wz)) (fun x _ => M - (intOf x).toNat)
              case atStart => exact ⟨0, Nat.zero_le _, rfl, Below.refl _ _⟩
              case round =>
                obtain ⟨j, hj, rfl, HJ⟩ := hrel
                by_cases hjm : j < M
                · have hjm' : (j : Int) < (M : Int) := by omega
                  have hjs : Hid (j < ss.length) := (by rw [HM.out]; exact hjm : j < ss.length)
                  have hr1 : wr.ownsRow 0 31 2 (.slice vo M vc) ss.length (flatD ss) := (Turns.of_below (F := fun _ => False) HJ.out (Nat.le_refl _)).row HR4.out (fun _ _ h => h)
                  have hr2 : wr.ownsRow 0 31 2 (.slice uo M uc) ss.length (flatD ss) := (Turns.of_below (F := fun _ => False) HJ.out (Nat.le_refl _)).row HR5.out (fun _ _ h => h)
                  obtain ⟨gd, capd, he, _, d0, d1⟩ := row_dotO hr1 hjs.out
                  injection he with he1 he2 he3
                  clear he2 he3
                  subst he1
                  obtain ⟨ge, cape, he, _, e0, e1⟩ := row_dotO hr2 hjs.out
                  injection he with he1 he2 he3
                  clear he2 he3
                  subst he1
                  obtain ⟨⟨o, t⟩, HDD⟩ : ∃ d, Hid (ss[j]'hjs.out = d) := ⟨_, hid rfl⟩
                  rw [HDD.out] at d0 d1 e0 e1
                  dsimp only at d0 d1 e0 e1
                  have HJD := hid (fun r => below_dn HJ.out r)
                  clear hr1 hr2
                  go_wp2
                  go_quiet (fail)
                  go_wp2
                  go_roundw
                  case rel => exact ⟨j + 1, by omega, by go_num, HJD.out _⟩
                  case measure => simp [intOf]; omega
                · have hjm' : ¬ (j : Int) < (M : Int) := by omega
                  have HT9 := hid (HT5.out.below HJ.out)
                  obtain ⟨LA, HLA⟩ : ∃ z, Hid ((plainOf ga.A).length = z) := ⟨_, hid rfl⟩
                  have HLB : Hid ((plainOf gb.A).length = LA) := by rw [← HAL.out.A]; exact HLA.out
                  have HAPA := hid (applied_any HT9.out.a)
                  go_wp2_with fail
                  refine HAPA.out.mono ?_
                  rintro e wA ⟨bA, cA, rfl, hvA, hbA⟩
                  rw [HLA.out]
                  have HTA9 := hid (HT9.out.below hbA)
                  have HVA := hid hvA
                  have HAPC := hid (applied_any HTA9.out.b)
                  clear hvA hbA HAPA
                  go_wp2_with fail
                  refine HAPC.out.mono ?_
                  rintro e wB ⟨bB, cB, rfl, hvB, hbB⟩
                  rw [HLB.out]
                  have HTB9 := hid (HTA9.out.below hbB)
                  have HSM := hid (same_any wB bA bB cA cB _ _ LA LA HLA.out HLB.out (HVA.out.below hbB) hvB)
                  rw [decide_eq_true (by rw [HAL.out.A] : plainOf ga.A = plainOf gb.A)] at HSM
                  clear hvB hbB HAPC
                  go_wp2_with fail
                  refine HSM.out.mono ?_
                  rintro e wC ⟨rfl, q, hwC⟩
                  have HTC := hid (show TS w pa ea wa pb eb wb ga gb wC by rw [hwC]; exact HTB9.out.below (below_dn (Below.refl _ _) q))
                  have HNV : Hid (∀ V, HV V none 0 []) := fun V => ⟨⟨fun x hx => (by cases hx), .inl rfl⟩, Nat.le_refl _, Nat.zero_le _⟩
                  have HAF := hid (after_any HTC.out.a none 0 [] (HNV.out _) 0 rfl 1048576 (by have := HLEN.out; omega))
                  clear hwC HSM
                  go_wp2_with fail
                  refine HAF.out.mono ?_
                  rintro e wD ⟨rD, ds, rfl, hrD, hdsD, hbD⟩
                  have HTD := hid (HTC.out.below hbD)
                  have HDS : Hid (ds.map (·.e) = evL [] ga) := by
                    show _ = _
                    rw [hdsD]
                    exact List.take_of_length_le (by have := HLEN.out; omega)
                  have HRD := hid hrD
                  have HAFB := hid (after_any HTD.out.b none 0 [] (HNV.out _) 0 rfl 1048576 (by rw [← HAL.out.ev]; have := HLEN.out; omega))
                  clear hrD hdsD hbD HAF
                  go_wp2_with fail
                  refine HAFB.out.mono ?_
                  rintro e wE ⟨rE, es, rfl, hrE, hesE, hbE⟩
                  have HES : Hid (es.map (·.e) = evL [] ga) := by
                    show _ = _
                    rw [hesE, ← HAL.out.ev]
                    exact List.take_of_length_le (by have := HLEN.out; omega)
                  have HRE := hid hrE
                  have HRD2 := hid (HRD.out.below hbE)
                  have HTE := hid (HTD.out.below hbE)
                  clear hrE hesE hbE HAFB HRD
                  obtain ⟨Z, HZ⟩ : ∃ z, Hid (ds.length = z) := ⟨_, hid rfl⟩
                  have HZ2 : Hid (es.length = Z) := by
                    have h1 := congrArg List.length (HDS.out.trans HES.out.symm)
                    rw [List.length_map, List.length_map] at h1
                    exact h1.symm.trans HZ.out
                  have HZL : Hid (Z ≤ 4194304) := by
                    have h1 := congrArg List.length HDS.out
                    rw [List.length_map, HZ.out] at h1
                    have := HLEN.out
                    show _ ≤ _
                    omega
                  obtain ⟨aD, kD, heD, _, hhD⟩ := heldE_of_own HZ.out (by have := HRD2.out.row; rw [HZ.out] at this; exact this) (fun y hy => (HRD2.out.keep y hy).ok)
                  obtain ⟨aE, kE, heE, _, hhE⟩ := heldE_of_own HZ2.out (by have := HRE.out.row; rw [HZ2.out] at this; exact this) (fun y hy => (HRE.out.keep y hy).ok)
                  have HSE := hid (sameEvs_anyQ wE aD aE kD kE ds es Z HZ.out HZ2.out hhD hhE (HDS.out.trans HES.out.symm) HZL.out)
                  subst heD heE
                  clear hhD hhE
                  go_wp2_with fail
                  refine HSE.out.mono ?_
                  rintro e wF ⟨rfl, hbF⟩
                  have HBZ := hid (bt HTE.out.bel hbF)
                  clear hbF HSE
                  go_wp2
                  go_ret
                  exact ⟨rfl, HBZ.out⟩
        · obtain ⟨K, rfl⟩ : ∃ K : Nat, t = (K : Int) := ⟨t.toNat, by omega⟩
          have HK : Hid (n = 0 ∨ K < n) := .inr (by omega)
          have h4 : ¬ (K : Int) < 0 := by omega
          go_wp2
          clear ht h1 h2 h3 h4
          have HN0 := hid HK
          go_loopw [10] (fun x wz => ∃ i : Nat, i ≤ n ∧ x = .int .i64 i ∧ Hid (∃ ga gb, TS w pa ea wa pb eb wb ga gb wz ∧ KnH ((xs.take i).map (·.e)) ga ∧ KnH (rowB xs n K i) gb)) (fun x _ => n - (intOf x).toNat)
          case atStart => exact ⟨0, Nat.zero_le _, rfl, emptyLg, emptyLg, HTW.out, KnH.start, KnH.start⟩
          case round =>
            obtain ⟨i, hi, rfl, HR⟩ := hrel
            by_cases hlt : i < n
            · have hlt' : (i : Int) < (n : Int) := by omega
              have hKn : K < n := by have := HK.out; omega
              have hn1 : ((n : Int) == 0) = false := by simp; omega
              obtain ⟨m, hm⟩ : ∃ m, m = (i + K) % n := ⟨_, rfl⟩
              have hmn : m < n := by rw [hm]; exact Nat.mod_lt _ (by omega)
              have hmod : ((i : Int) + (K : Int)) % (n : Int) = (m : Int) := by rw [hm]; simp
              obtain ⟨J, hJ⟩ : ∃ J, J = n - 1 - m := ⟨_, rfl⟩
              have HJI : Hid (idxB n K i = J) := by show _ = _; unfold idxB; rw [hJ, hm]
              have hJn : (J : Int) < (n : Int) := by omega
              have hJi : (n : Int) - 1 - (m : Int) = (J : Int) := by omega
              have hn4 : n ≤ 4000 := HN4.out
              have hJx : Hid (J < xs.length) := by show _ < _; rw [HN.out]; omega
              have hix : Hid (i < xs.length) := (by rw [HN.out]; exact hlt : i < xs.length)
              have HIM : Hid (i + 1 ≤ n) := (by omega : i + 1 ≤ n)
              obtain ⟨ga, gb, hts, hka, hkb⟩ := HR.out
              have HTS := hid hts
              have HKA := hid hka
              have HKB := hid hkb
              have HXR := hid (HX.out.below hts.bel)
              obtain ⟨bb, off, hao, _, c0, c1, c2, c3, c4, c5, c6, c7⟩ := HXR.out.at hix.out
              have HPU := hid (put_any hts.a (xs[i]'hix.out) (HXR.out.1 _ (List.getElem_mem hix.out)))
              have HLK : Hid (∀ e w', PutP wr pa ea wa ga (xs[i]'hix.out).e e w' → ∃ v c g', e = .returned (.tuple #[v, .int .i64 c]) ∧ TS w pa ea wa pb eb wb g' gb w' ∧ KnH ((xs.take (i + 1)).map (·.e)) g') := fun e w' hp => by
                obtain ⟨v, c, g', he, hpg, hat⟩ := PutP.toG HTS.out.a hp
                refine ⟨v, c, g', he, HTS.out.putA hat, ?_⟩
                rw [List.take_succ_eq_append_getElem hix.out, List.map_append]
                exact (HKA.out.put (by rw [List.length_map, List.length_take]; omega) hat.1.has hpg).1
              subst hao
              obtain ⟨X, HXX⟩ : ∃ X, Hid (xs[i]'hix.out = X) := ⟨_, hid rfl⟩
              rw [HXX.out] at c0 c1 c2 c3 c4 c5 c6 c7 HPU HLK
              obtain ⟨⟨o1, s1, dp, ct, ep, sk, qt, cl⟩, ao1, cap1⟩ := X
              obtain ⟨XN, HXN⟩ : ∃ m, Hid (dp.length = m) := ⟨_, hid rfl⟩
              simp only [EvM.val] at c0 c1 c2 c3 c4 c5 c6 c7 HPU
              rw [HXN.out] at c2 HPU
              clear hts hka hkb hm hJ hmn
              go_wp2_with fail
              refine HPU.out.mono ?_
              intro e w4 hp4
              obtain ⟨v4, cc4, g4, rfl, ht4, hk4⟩ := HLK.out _ _ hp4
              have HT4 := hid ht4
              have HK4 := hid hk4
              clear hp4 ht4 hk4 HPU HLK c0 c1 c2 c3 c4 c5 c6 c7
              have HXR4 := hid (HX.out.below HT4.out.bel)
              obtain ⟨bb', off', hao', _, c0, c1, c2, c3, c4, c5, c6, c7⟩ := HXR4.out.at hJx.out
              injection hao' with hao'
              injection hao' with hq1 hq2
              subst hq1 hq2
              have HPU := hid (put_any HT4.out.b (xs[J]'hJx.out) (HXR4.out.1 _ (List.getElem_mem hJx.out)))
              have HLK : Hid (∀ e w', PutP w4 pb eb wb gb (xs[J]'hJx.out).e e w' → ∃ v c g', e = .returned (.tuple #[v, .int .i64 c]) ∧ TS w pa ea wa pb eb wb g4 g' w' ∧ KnH (rowB xs n K (i + 1)) g') := fun e w' hp => by
                obtain ⟨v, c, g', he, hpg, hat⟩ := PutP.toG HT4.out.b hp
                refine ⟨v, c, g', he, HT4.out.putB hat, ?_⟩
                have hJ2 : idxB n K i < xs.length := by rw [HJI.out]; exact hJx.out
                rw [rowB_step hJ2]
                have h9 : xs[idxB n K i]'hJ2 = xs[J]'hJx.out := by congr 1
                rw [h9]
                exact (HKB.out.put (by have := rowB_len xs n K i; omega) hat.1.has hpg).1
              obtain ⟨X2, HXX2⟩ : ∃ X, Hid (xs[J]'hJx.out = X) := ⟨_, hid rfl⟩
              rw [HXX2.out] at c0 c1 c2 c3 c4 c5 c6 c7 HPU HLK
              obtain ⟨⟨o2, s2, dp2, ct2, ep2, sk2, qt2, cl2⟩, ao2, cap2⟩ := X2
              obtain ⟨XM, HXM⟩ : ∃ m, Hid (dp2.length = m) := ⟨_, hid rfl⟩
              simp only [EvM.val] at c0 c1 c2 c3 c4 c5 c6 c7 HPU
              rw [HXM.out] at c2 HPU
              go_wp2_with fail
              refine HPU.out.mono ?_
              intro e w5 hp5
              obtain ⟨v5, cc5, g5, rfl, ht5, hk5⟩ := HLK.out _ _ hp5
              have HT5 := hid ht5
              have HK5 := hid hk5
              clear hp5 ht5 hk5 HPU HLK c0 c1 c2 c3 c4 c5 c6 c7 hmod hJi hJn
              go_wp2
              go_roundw
              case rel => exact ⟨i + 1, HIM.out, by go_num, g4, g5, HT5.out, HK4.out, HK5.out⟩
              case measure => simp [intOf]; have := HIM.out; omega
            · have hlt' : ¬ (i : Int) < (n : Int) := by omega
              obtain rfl : n = i := by omega
              obtain ⟨ga, gb, hts, hka, hkb⟩ := HR.out
              have HAL : Hid (Alike ga gb) := by
                have h1 : (xs.take n).map (·.e) = xs.map (·.e) := by rw [List.take_of_length_le (by rw [HN.out]; exact Nat.le_refl _)]
                rw [h1] at hka
                have h2 := hka.few
                have h3 := hkb.few
                have h4 := rowB_len xs n K n
                rw [List.length_map, HN.out] at h2
                have h5 := HN4.out
                exact order_alike hka hkb (by omega) (by omega) hts.a.may hts.b.may (fun e he => rowB_all HN.out (Or.resolve_left HK.out (fun h6 => by rw [← HN.out] at h6; rw [List.eq_nil_of_length_eq_zero h6] at he; cases he)) he) (fun e he => rowB_sub he) HONE.out (fun o s y hy => (hts.a.wait o s y hy).2) (fun o s y hy => (hts.b.wait o s y hy).2)
              have HLEN : Hid ((evL [] ga).length ≤ 4000) := by
                have h1 := hka.len []
                rw [List.length_map, List.length_take, HN.out] at h1
                have := HN4.out
                show _ ≤ _
                omega
              have HTS := hid hts
              clear hts hka hkb HR
              have HWA := hid (waiting_any HTS.out.a)
              go_wp2_with fail
              refine HWA.out.mono ?_
              rintro e w4 ⟨v4, ss, rfl, hss, hsl, hrow, hb4⟩
              have HT4 := hid (HTS.out.below hb4)
              have HSS := hid hss
              have HSL := hid hsl
              have HROW := hid (own_mono hrow (Nat.zero_le _))
              clear hss hsl hrow hb4 HWA
              have HWB := hid (waiting_any HT4.out.b)
              go_wp2_with fail
              refine HWB.out.mono ?_
              rintro e w5 ⟨v5, tt, rfl, htt, htl, hrow5, hb5⟩
              have HT5 := hid (HT4.out.below hb5)
              obtain rfl : ss = tt := waits_eq HSS.out htt HAL.out
              have HR4 : Hid (w5.ownsRow 0 31 2 v4 ss.length (flatD ss)) := (Turns.of_below (F := fun _ => False) hb5 (Nat.le_refl _)).row HROW.out (fun _ _ h => h)
              have HR5 := hid (own_mono hrow5 (Nat.zero_le _))
              clear htt htl hrow5 hb5 HWB HROW HTS
              obtain ⟨M, HM⟩ : ∃ z, Hid (ss.length = z) := ⟨_, hid rfl⟩
              obtain ⟨vo, vc, hv4⟩ := own_slice' HR4.out
              obtain ⟨uo, uc, hv5⟩ := own_slice' HR5.out
              rw [HM.out] at hv4 hv5
              subst hv4 hv5
              have hM4 : M ≤ 4096 := by have := HSL.out; have := HM.out; omega
              go_wp2
              go_loopw [13] (fun x wz => ∃ j : Nat, j ≤ M ∧ x = .int .i64 j ∧ Hid (Below w5.heap.size w5 wz)) (fun x _ => M - (intOf x).toNat)
              case atStart => exact ⟨0, Nat.zero_le _, rfl, Below.refl _ _⟩
              case round =>
                obtain ⟨j, hj, rfl, HJ⟩ := hrel
                by_cases hjm : j < M
                · have hjm' : (j : Int) < (M : Int) := by omega
                  have hjs : Hid (j < ss.length) := (by rw [HM.out]; exact hjm : j < ss.length)
                  have hr1 : wr.ownsRow 0 31 2 (.slice vo M vc) ss.length (flatD ss) := (Turns.of_below (F := fun _ => False) HJ.out (Nat.le_refl _)).row HR4.out (fun _ _ h => h)
                  have hr2 : wr.ownsRow 0 31 2 (.slice uo M uc) ss.length (flatD ss) := (Turns.of_below (F := fun _ => False) HJ.out (Nat.le_refl _)).row HR5.out (fun _ _ h => h)
                  obtain ⟨gd, capd, he, _, d0, d1⟩ := row_dotO hr1 hjs.out
                  injection he with he1 he2 he3
                  clear he2 he3
                  subst he1
                  obtain ⟨ge, cape, he, _, e0, e1⟩ := row_dotO hr2 hjs.out
                  injection he with he1 he2 he3
                  clear he2 he3
                  subst he1
                  obtain ⟨⟨o, t⟩, HDD⟩ : ∃ d, Hid (ss[j]'hjs.out = d) := ⟨_, hid rfl⟩
                  rw [HDD.out] at d0 d1 e0 e1
                  dsimp only at d0 d1 e0 e1
                  have HJD := hid (fun r => below_dn HJ.out r)
                  clear hr1 hr2
                  go_wp2
                  go_quiet (fail)
                  go_wp2
                  go_roundw
                  case rel => exact ⟨j + 1, by omega, by go_num, HJD.out _⟩
                  case measure => simp [intOf]; omega
                · have hjm' : ¬ (j : Int) < (M : Int) := by omega
                  have HT9 := hid (HT5.out.below HJ.out)
                  obtain ⟨LA, HLA⟩ : ∃ z, Hid ((plainOf ga.A).length = z) := ⟨_, hid rfl⟩
                  have HLB : Hid ((plainOf gb.A).length = LA) := by rw [← HAL.out.A]; exact HLA.out
                  have HAPA := hid (applied_any HT9.out.a)
                  go_wp2_with fail
                  refine HAPA.out.mono ?_
                  rintro e wA ⟨bA, cA, rfl, hvA, hbA⟩
                  rw [HLA.out]
                  have HTA9 := hid (HT9.out.below hbA)
                  have HVA := hid hvA
                  have HAPC := hid (applied_any HTA9.out.b)
                  clear hvA hbA HAPA
                  go_wp2_with fail
                  refine HAPC.out.mono ?_
                  rintro e wB ⟨bB, cB, rfl, hvB, hbB⟩
                  rw [HLB.out]
                  have HTB9 := hid (HTA9.out.below hbB)
                  have HSM := hid (same_any wB bA bB cA cB _ _ LA LA HLA.out HLB.out (HVA.out.below hbB) hvB)
                  rw [decide_eq_true (by rw [HAL.out.A] : plainOf ga.A = plainOf gb.A)] at HSM
                  clear hvB hbB HAPC
                  go_wp2_with fail
                  refine HSM.out.mono ?_
                  rintro e wC ⟨rfl, q, hwC⟩
                  have HTC := hid (show TS w pa ea wa pb eb wb ga gb wC by rw [hwC]; exact HTB9.out.below (below_dn (Below.refl _ _) q))
                  have HNV : Hid (∀ V, HV V none 0 []) := fun V => ⟨⟨fun x hx => (by cases hx), .inl rfl⟩, Nat.le_refl _, Nat.zero_le _⟩
                  have HAF := hid (after_any HTC.out.a none 0 [] (HNV.out _) 0 rfl 1048576 (by have := HLEN.out; omega))
                  clear hwC HSM
                  go_wp2_with fail
                  refine HAF.out.mono ?_
                  rintro e wD ⟨rD, ds, rfl, hrD, hdsD, hbD⟩
                  have HTD := hid (HTC.out.below hbD)
                  have HDS : Hid (ds.map (·.e) = evL [] ga) := by
                    show _ = _
                    rw [hdsD]
                    exact List.take_of_length_le (by have := HLEN.out; omega)
                  have HRD := hid hrD
                  have HAFB := hid (after_any HTD.out.b none 0 [] (HNV.out _) 0 rfl 1048576 (by rw [← HAL.out.ev]; have := HLEN.out; omega))
                  clear hrD hdsD hbD HAF
                  go_wp2_with fail
                  refine HAFB.out.mono ?_
                  rintro e wE ⟨rE, es, rfl, hrE, hesE, hbE⟩
                  have HES : Hid (es.map (·.e) = evL [] ga) := by
                    show _ = _
                    rw [hesE, ← HAL.out.ev]
                    exact List.take_of_length_le (by have := HLEN.out; omega)
                  have HRE := hid hrE
                  have HRD2 := hid (HRD.out.below hbE)
                  have HTE := hid (HTD.out.below hbE)
                  clear hrE hesE hbE HAFB HRD
                  obtain ⟨Z, HZ⟩ : ∃ z, Hid (ds.length = z) := ⟨_, hid rfl⟩
                  have HZ2 : Hid (es.length = Z) := by
                    have h1 := congrArg List.length (HDS.out.trans HES.out.symm)
                    rw [List.length_map, List.length_map] at h1
                    exact h1.symm.trans HZ.out
                  have HZL : Hid (Z ≤ 4194304) := by
                    have h1 := congrArg List.length HDS.out
                    rw [List.length_map, HZ.out] at h1
                    have := HLEN.out
                    show _ ≤ _
                    omega
                  obtain ⟨aD, kD, heD, _, hhD⟩ := heldE_of_own HZ.out (by have := HRD2.out.row; rw [HZ.out] at this; exact this) (fun y hy => (HRD2.out.keep y hy).ok)
                  obtain ⟨aE, kE, heE, _, hhE⟩ := heldE_of_own HZ2.out (by have := HRE.out.row; rw [HZ2.out] at this; exact this) (fun y hy => (HRE.out.keep y hy).ok)
                  have HSE := hid (sameEvs_anyQ wE aD aE kD kE ds es Z HZ.out HZ2.out hhD hhE (HDS.out.trans HES.out.symm) HZL.out)
                  subst heD heE
                  clear hhD hhE
                  go_wp2_with fail
                  refine HSE.out.mono ?_
                  rintro e wF ⟨rfl, hbF⟩
                  have HBZ := hid (bt HTE.out.bel hbF)
                  clear hbF HSE
                  go_wp2
                  go_ret
                  exact ⟨rfl, HBZ.out⟩
end Go.Proofs.Ytcammngbhnhjjaa
