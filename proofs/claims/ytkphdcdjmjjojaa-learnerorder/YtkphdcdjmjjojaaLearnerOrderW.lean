/-
  pannierlaw18.LearnerOrder answers true for whatever slots and turn.
-/
import Derived.Test.YtkphdcdjmjjojaaLrO
namespace Go.Proofs.Ytkphdcdjmjjojaa
open Go.RowKit Go.Maps

/-- Two learners side by side. -/
structure TwoR (B : Nat) (wr : World) (p m p' m' : Nat) (g h : Lr) : Prop where
  a : LrIn B wr p m g
  b : LrIn B wr p' m' h
  apart : ∀ i, FootR p m i → ¬ FootR p' m' i
theorem TwoR.below {B : Nat} {w w' : World} {p m p' m' : Nat} {g h : Lr} (k : TwoR B w p m p' m' g h) (hb : Below w.heap.size w w') : TwoR B w' p m p' m' g h := ⟨k.a.below hb, k.b.below hb, k.apart⟩
theorem TwoR.fst {B : Nat} {w w' : World} {p m p' m' : Nat} {g g' h : Lr} (k : TwoR B w p m p' m' g h) (ha : LrIn B w' p m g') (ht : Turns (FootR p m) w w') : TwoR B w' p m p' m' g' h := ⟨ha, k.b.turned ht (fun i hi hf => k.apart i hf hi) k.a.noNum, k.apart⟩
theorem TwoR.snd {B : Nat} {w w' : World} {p m p' m' : Nat} {g h h' : Lr} (k : TwoR B w p m p' m' g h) (hb : LrIn B w' p' m' h') (ht : Turns (FootR p' m') w w') : TwoR B w' p m p' m' g h' := ⟨k.a.turned ht (fun i hi hf => k.apart i hi hf) k.b.noNum, hb, k.apart⟩
/-- Between two rounds of the choosing loop. -/
def Order3 (w : World) (p m p' m' : Nat) (xs : List StM) (K i : Nat) (wr : World) : Prop := ∃ g h, TwoR w.heap.size wr p m p' m' g h ∧ Chose xs id i g ∧ Chose xs (turnS xs.length K) i h ∧ Below w.heap.size w wr
def Order3m (w : World) (p m p' m' : Nat) (xs : List StM) (K i : Nat) (wr : World) : Prop := ∃ g h, TwoR w.heap.size wr p m p' m' g h ∧ Chose xs id (i + 1) g ∧ Chose xs (turnS xs.length K) i h ∧ Below w.heap.size w wr
/-- Between two rounds of the last loop. -/
def Order4 (w : World) (p m p' m' : Nat) (g : Lr) (wr : World) : Prop := TwoR w.heap.size wr p m p' m' g g ∧ Below w.heap.size w wr
/-- Up to i no two slots are the same. -/
def ApartTo (xs : List StM) (i : Nat) : Prop := ∀ a b, a < b → b < i → (xs.getD a default).n ≠ (xs.getD b default).n
theorem apart_of {xs : List StM} (h : ApartTo xs xs.length) : Apart xs := by
  intro i j hi hj e
  rcases Nat.lt_trichotomy i j with h1 | h1 | h1
  · exact absurd e (h i j h1 hj)
  · exact h1
  · exact absurd e.symm (h j i h1 hi)
set_option maxRecDepth 1000000 in
set_option maxHeartbeats 4000000 in
theorem learnerOrder_walk (ao : Option Addr) (cap : Nat) (xs : List StM) (by' : Int) (w : World) (hx : HeldSt w ao xs) (_ : xs.length ≤ 1759218604441) (hby : -9223372036854775808 ≤ by' ∧ by' ≤ 9223372036854775807) :
    Calls Try.prog 5 #[.slice ao xs.length cap, .int .i64 by'] w fun e w' => e = .returned (.bool true) ∧ Below w.heap.size w w' := by
  have HX := hid hx
  have HBY := hid hby
  obtain ⟨n, HN⟩ : ∃ n, Hid (xs.length = n) := ⟨_, hid rfl⟩
  rw [HN.out]
  have HNEW := hid newLr
  have HLV := hid livesLr
  clear hx hby
  go_enter Try.func5, Try.ntmps5
  go_wp2_with fail
  refine (HNEW.out w).mono ?_
  rintro e w1 ⟨p, m, rfl, hat, hb1, hp, hm⟩
  have HL1 : Hid (LrIn w.heap.size w1 p m noLr) := ⟨⟨_, _, hat⟩, hp, hm⟩
  have HB1 := hid hb1
  clear hat hb1 hp hm
  go_wp2_with fail
  refine (HNEW.out w1).mono ?_
  rintro e w2 ⟨p', m', rfl, hat, hb2, hp, hm⟩
  have HB2 := hid (bt' HB1.out hb2)
  have HT2 : Hid (TwoR w.heap.size w2 p m p' m' noLr noLr) := ⟨HL1.out.below hb2, ⟨⟨_, _, hat⟩, Nat.le_trans HB1.out.size hp, Nat.le_trans HB1.out.size hm⟩, fun i hi hf => by
    have h1 := HL1.out.lt i hi
    rcases hf with rfl | rfl <;> omega⟩
  clear hat hb2 hp hm HNEW
  go_wp2_with fail
  refine (HLV.out w2).mono ?_
  rintro e w3 ⟨rfl, hb3⟩
  have HB3 := hid (bt' HB2.out hb3)
  have HT3 := hid (HT2.out.below hb3)
  clear hb3 HLV HT2 HL1
  by_cases h6 : 60000 < n
  · have h6' : decide ((60000 : Int) < (n : Int)) = true := decide_eq_true (by omega)
    clear h6
    go_wp2
    go_ret
    exact ⟨rfl, HB3.out⟩
  have h6' : decide ((60000 : Int) < (n : Int)) = false := decide_eq_false (by omega)
  have H6 : Hid (n ≤ 60000) := by show _ ≤ _; omega
  clear h6
  go_wp2
  have hn6 : n ≤ 60000 := H6.out
  go_loopw [7, 8] (fun i _ wr => ∃ k : Nat, k ≤ n ∧ i = .int .i64 k ∧ Hid (ApartTo xs k ∧ ∃ q, wr = w3.drewN q)) (fun i _ _ => n - (intOf i).toNat)
  case atStart => exact ⟨0, Nat.zero_le _, rfl, fun a b _ hb => by omega, 0, rfl⟩
  case round =>
    obtain ⟨k, hk, rfl, HR⟩ := hrel
    by_cases hlt : k < n
    · have hlt' : decide ((k : Int) < (n : Int)) = true := decide_eq_true (by omega)
      have HLT := hid hlt
      have hkx : Hid (k < xs.length) := (HN.out ▸ hlt : k < xs.length)
      obtain ⟨q0, hq0⟩ := HR.out.2
      have HAP := hid HR.out.1
      have HQ0 := hid hq0
      obtain ⟨Y, HY⟩ : ∃ Y, Hid ((xs.getD k default).n = Y) := ⟨_, hid rfl⟩
      clear HR hk hq0
      go_wp2
      go_loopw [8] (fun j wz => ∃ t : Nat, t ≤ k ∧ j = .int .i64 t ∧ Hid ((∀ a, a < t → (xs.getD a default).n ≠ Y) ∧ ∃ q, wz = w3.drewN q)) (fun j _ => k - (intOf j).toNat)
      case atStart => exact ⟨0, Nat.zero_le _, rfl, fun a ha => by omega, q0, HQ0.out⟩
      case round =>
        obtain ⟨t, ht, rfl, HZ⟩ := hrel
        by_cases htk : t < k
        · have htk' : decide ((t : Int) < (k : Int)) = true := decide_eq_true (by omega)
          obtain ⟨q1, hq1⟩ := HZ.out.2
          have HAZ := hid HZ.out.1
          have htx : Hid (t < xs.length) := (Nat.lt_trans htk hkx.out : t < xs.length)
          have HBW : Hid (Below w.heap.size w wr) := by rw [hq1]; exact below_dn HB3.out q1
          obtain ⟨bb, off, hao, hbb, d0, _⟩ := (HX.out.below HBW.out).cellsD htx.out
          subst hao
          obtain ⟨bb', off', hao', _, d1, _⟩ := (HX.out.below HBW.out).cellsD hkx.out
          cases hao'
          rw [HY.out] at d1
          obtain ⟨X, HXX⟩ : ∃ X, Hid ((xs.getD t default).n = X) := ⟨_, hid rfl⟩
          rw [HXX.out] at d0
          have HQ1 := hid hq1
          have HTK := hid htk
          clear HZ hq1 htk
          by_cases hxy : X = Y
          · have hb : (X == Y) = true := by simp [hxy]
            clear hxy
            go_wp2
            go_quiet (fail)
            all_goals
              go_wp2
              go_ret
              exact ⟨rfl, by rw [HQ1.out]; exact below_dn (below_dn HB3.out _) _⟩
          · have hb : (X == Y) = false := by simp [hxy]
            have HXY := hid hxy
            clear hxy
            go_wp2
            go_quiet (fail)
            all_goals
              go_wp2
              go_roundw
              case rel => exact ⟨t + 1, HTK.out, by go_num, fun a ha => by
                rcases Nat.lt_or_ge a t with h1 | h1
                · exact HAZ.out a h1
                · rw [show a = t by omega, HXX.out]; exact HXY.out, _, by rw [HQ1.out, drewN_add]⟩
              case measure => have := HTK.out; simp [intOf]; omega
        · obtain rfl : t = k := by omega
          have htk' : ¬ (t : Int) < (t : Int) := by omega
          have HZZ := HZ
          clear HZ ht htk
          go_wp2
          go_roundw
          case rel => exact ⟨t + 1, HLT.out, by go_num, fun a b hab hbt => by
            rcases Nat.lt_or_ge b t with h1 | h1
            · exact HAP.out a b hab h1
            · rw [show b = t by omega, HY.out]; exact HZZ.out.1 a (by omega), HZZ.out.2⟩
          case measure => have := HLT.out; simp [intOf]; omega
    · obtain rfl : k = n := by omega
      have hlt' : ¬ (k : Int) < (k : Int) := by omega
      obtain ⟨q0, hq0⟩ := HR.out.2
      have HAP : Hid (Apart xs) := apart_of (by rw [HN.out]; exact HR.out.1)
      have HB4 : Hid (Below w.heap.size w wr) := by rw [hq0]; exact below_dn HB3.out q0
      have HT4 : Hid (TwoR w.heap.size wr p m p' m' noLr noLr) := by rw [hq0]; exact HT3.out.below (below_dn (Below.refl _ _) q0)
      clear HR hk hq0 hlt
      rcases Nat.eq_zero_or_pos k with h0 | h0
      · have hk0 : ¬ (0 : Int) < (k : Int) := by omega
        obtain ⟨K, hK⟩ : ∃ K : Nat, K = 0 := ⟨0, rfl⟩
        have HKK : Hid (∀ {t : Nat}, t < k → K < k) := fun h => by omega
        clear hK
        go_wp2
        clear hk0
        go_loopw [10, 11] (fun i _ wz => ∃ t : Nat, t ≤ k ∧ i = .int .i64 t ∧ Hid (Order3 w p m p' m' xs K t wz)) (fun i _ _ => k - (intOf i).toNat)
        case atStart => exact ⟨0, Nat.zero_le _, rfl, noLr, noLr, HT4.out, Chose.start _ _, Chose.start _ _, HB4.out⟩
        case round =>
          obtain ⟨t, ht, rfl, HR⟩ := hrel
          by_cases hlt : t < k
          · exact absurd hlt (by omega)
          · obtain rfl : t = k := by omega
            have hlt' : ¬ (t : Int) < (t : Int) := by omega
            obtain ⟨g, h, htw, hcg, hch, hbr⟩ := HR.out
            have hgh : g = h := by
              rw [← HN.out] at hcg hch
              refine hcg.same hch (fun u hu => ?_) (fun u hu => ⟨turnS xs.length K u, turnS_lt hu, rfl⟩)
              exact turnS_onto (by rw [HN.out] at hu ⊢; exact HKK.out hu) hu
            subst hgh
            have HG4 : Hid (Order4 w p m p' m' g wr) := ⟨htw, hbr⟩
            clear htw hcg hch hbr HR ht hlt
            go_wp2
            go_loopw [12, 13, 14, 15, 16] (fun i _ _ _ _ wz => ∃ u : Nat, u ≤ t ∧ i = .int .i64 u ∧ Hid (Order4 w p m p' m' g wz)) (fun i _ _ _ _ _ => t - (intOf i).toNat)
            case atStart => exact ⟨0, Nat.zero_le _, rfl, HG4⟩
            case round =>
              obtain ⟨u, hu, rfl, HR⟩ := hrel
              have HTW := hid HR.out.1
              have HBR := hid HR.out.2
              obtain ⟨pa, za, hata⟩ := HTW.out.a.lr
              obtain ⟨pb, zb, hatb⟩ := HTW.out.b.lr
              have HATA := hid hata
              have HATB := hid hatb
              clear hata hatb HR
              by_cases hlt : u < t
              · exact absurd hlt (by omega)
              · obtain rfl : u = t := by omega
                have hlt2 : ¬ (u : Int) < (u : Int) := by omega
                have hpp : pa = pb := HATA.out.isPre.unique HATB.out.isPre
                have hzz : za = zb := HATA.out.end_eq HATB.out.fin
                subst hpp hzz
                have HPA := hid HATA.out.toLrMid.prefix
                have HPB := hid HATB.out.toLrMid.prefix
                have HEA := hid HATA.out.extras
                have HEB : Hid (∀ V, Below wr.heap.size wr V → Calls Try.prog 19 #[.pointer (some ⟨p', 0, none⟩)] V (RowP V (extraL g.ks pa))) := fun V hV => (HATB.out.below hV).extras
                have HMA : Hid (∀ V, Below wr.heap.size wr V → Calls Try.prog 20 #[.pointer (some ⟨p, 0, none⟩), .int .i64 50] V (RowP V (missL g.ks pa za 50))) := fun V hV => (HATA.out.below hV).missing 50
                have HMB : Hid (∀ V, Below wr.heap.size wr V → Calls Try.prog 20 #[.pointer (some ⟨p', 0, none⟩), .int .i64 50] V (RowP V (missL g.ks pa za 50))) := fun V hV => (HATB.out.below hV).missing 50
                have HLA : Hid (∀ V, Below wr.heap.size wr V → Calls Try.prog 21 #[.pointer (some ⟨p, 0, none⟩)] V fun e w' => e = .returned (.int .i64 g.ks.length) ∧ w' = V) := fun V hV => (HATA.out.toLrMid.below hV).len
                have HLB : Hid (∀ V, Below wr.heap.size wr V → Calls Try.prog 21 #[.pointer (some ⟨p', 0, none⟩)] V fun e w' => e = .returned (.int .i64 g.ks.length) ∧ w' = V) := fun V hV => (HATB.out.toLrMid.below hV).len
                obtain ⟨EX, hEX⟩ : ∃ l, l = extraL g.ks pa := ⟨_, rfl⟩
                obtain ⟨MI, hMI⟩ : ∃ l, l = missL g.ks pa za 50 := ⟨_, rfl⟩
                rw [← hEX] at HEA HEB
                rw [← hMI] at HMA HMB
                clear hEX hMI hlt hu
                obtain ⟨EN, HEN⟩ : ∃ m, Hid (EX.length = m) := ⟨_, hid rfl⟩
                obtain ⟨MN, HMN⟩ : ∃ m, Hid (MI.length = m) := ⟨_, hid rfl⟩
                go_wp2_with fail
                refine HPA.out.mono ?_
                rintro e w5 ⟨rfl, hw5⟩
                rw [hw5]
                clear hw5 w5
                go_wp2_with fail
                refine HPB.out.mono ?_
                rintro e w5 ⟨rfl, hw5⟩
                rw [hw5]
                clear hw5 w5
                go_wp2_with fail
                refine HEA.out.mono ?_
                rintro e w6 ⟨ea, ca, rfl, hva, _, hb6⟩
                rw [HEN.out]
                have HVA := hid hva
                have HB6 := hid hb6
                clear hva hb6
                go_wp2_with fail
                refine (HEB.out _ HB6.out).mono ?_
                rintro e w7 ⟨eb, cb, rfl, hvb, _, hb7⟩
                rw [HEN.out]
                have HSI := hid (sameIntsR w7 ea eb ca cb EX EX EN EN HEN.out HEN.out (HVA.out.below hb7) hvb)
                rw [decide_eq_true rfl] at HSI
                have HB7 := hid (bt' HB6.out hb7)
                clear hvb hb7
                go_wp2_with fail
                refine HSI.out.mono ?_
                rintro e w8 ⟨rfl, q8, hq8⟩
                have HB8 : Hid (Below wr.heap.size wr w8) := by rw [hq8]; exact below_dn HB7.out q8
                clear hq8
                go_wp2_with fail
                refine (HMA.out _ HB8.out).mono ?_
                rintro e w9 ⟨ea9, ca9, rfl, hva9, _, hb9⟩
                rw [HMN.out]
                have HVA9 := hid hva9
                have HB9 := hid (bt' HB8.out hb9)
                clear hva9 hb9
                go_wp2_with fail
                refine (HMB.out _ HB9.out).mono ?_
                rintro e w10 ⟨eb9, cb9, rfl, hvb9, _, hb10⟩
                rw [HMN.out]
                have HSI2 := hid (sameIntsR w10 ea9 eb9 ca9 cb9 MI MI MN MN HMN.out HMN.out (HVA9.out.below hb10) hvb9)
                rw [decide_eq_true rfl] at HSI2
                have HB10 := hid (bt' HB9.out hb10)
                clear hvb9 hb10
                go_wp2_with fail
                refine HSI2.out.mono ?_
                rintro e w11 ⟨rfl, q11, hq11⟩
                have HB11 : Hid (Below wr.heap.size wr w11) := by rw [hq11]; exact below_dn HB10.out q11
                clear hq11
                go_wp2_with fail
                refine (HLA.out _ HB11.out).mono ?_
                rintro e w12 ⟨rfl, rfl⟩
                go_wp2_with fail
                refine (HLB.out _ HB11.out).mono ?_
                rintro e w12 ⟨rfl, rfl⟩
                go_wp2
                go_ret
                exact ⟨rfl, bt' HBR.out HB11.out⟩

      · have hk0 : (0 : Int) < (k : Int) := by omega
        have hk1 : ¬ (k : Int) = 0 := by omega
        by_cases hby0 : 0 ≤ by'
        · obtain ⟨T, hT⟩ : ∃ T, by'.tmod (k : Int) = T := ⟨_, rfl⟩
          have hT1 : T < (k : Int) := by rw [← hT]; exact Int.tmod_lt_of_pos by' hk0
          have hT2 : 0 ≤ T := by rw [← hT]; exact Int.tmod_nonneg _ hby0
          obtain ⟨K, rfl⟩ : ∃ K : Nat, T = (K : Int) := ⟨T.toNat, by omega⟩
          have HKK : Hid (∀ {t : Nat}, t < k → K < k) := fun _ => by omega
          have hT3 : ¬ (K : Int) < 0 := by omega
          go_wp2
          clear hT hT1 hT2 hT3
          go_loopw [10, 11] (fun i _ wz => ∃ t : Nat, t ≤ k ∧ i = .int .i64 t ∧ Hid (Order3 w p m p' m' xs K t wz)) (fun i _ _ => k - (intOf i).toNat)
          case atStart => exact ⟨0, Nat.zero_le _, rfl, noLr, noLr, HT4.out, Chose.start _ _, Chose.start _ _, HB4.out⟩
          case round =>
            obtain ⟨t, ht, rfl, HR⟩ := hrel
            by_cases hlt : t < k
            · have hlt' : (t : Int) < (k : Int) := by omega
              have HLT := hid hlt
              obtain ⟨g, h, htw, hcg, hch, hbr⟩ := HR.out
              have HTW := hid htw
              have HCG := hid hcg
              have HCHh := hid hch
              have HBR := hid hbr
              have htx : Hid (t < xs.length) := (HN.out ▸ hlt : t < xs.length)
              have HOKX := hid (HX.out.okD htx.out)
              have HSTEP : Hid (Chose xs id (t + 1) (chooseL g (xs.getD t default).n (xs.getD t default).en.e)) := hcg.step HAP.out (by rw [HN.out]; exact H6.out) htx.out (fun t h => h) (fun t u _ _ h => h)
              have hltK : K < k := HKK.out hlt
              obtain ⟨bb, off, hao, hbb, d0, d1, d2, d3, d4, d5⟩ := HX.out.cellsD htx.out
              subst hao
              obtain ⟨r, hr⟩ : ∃ r, r = (t + K) % k := ⟨_, rfl⟩
              have hrn : r < k := by rw [hr]; exact Nat.mod_lt _ (by omega)
              have hmod : ((t : Int) + (K : Int)) % (k : Int) = (r : Int) := by rw [hr]; simp
              obtain ⟨J, hJ⟩ : ∃ J, J = k - 1 - r := ⟨_, rfl⟩
              have HTJ : Hid (turnS k K t = J) := by show _ = _; rw [hJ, hr]; rfl
              have hJn : (J : Int) < (k : Int) := by omega
              have hJi : (k : Int) - 1 - (r : Int) = (J : Int) := by omega
              have hJx : Hid (J < xs.length) := by show _ < _; rw [HN.out]; omega
              have HOKJ := hid (HX.out.okD hJx.out)
              obtain ⟨bb', off', hao', _, f0, f1, f2, f3, f4, f5⟩ := HX.out.cellsD hJx.out
              cases hao'
              obtain ⟨X, hX⟩ : ∃ X, X = xs.getD t default := ⟨_, rfl⟩
              obtain ⟨Z, hZ⟩ : ∃ X, X = xs.getD J default := ⟨_, rfl⟩
              rw [← hX] at d0 d1 d2 d3 d4 d5 HOKX HSTEP
              rw [← hZ] at f0 f1 f2 f3 f4 f5 HOKJ
              obtain ⟨sl, ⟨np, tk, ct, ep, dp⟩, ao1, cap1⟩ := X
              obtain ⟨sl', ⟨np', tk', ct', ep', dp'⟩, ao2, cap2⟩ := Z
              have HZZ := hid hZ
              simp only at d0 d1 d2 d3 d4 d5 f0 f1 f2 f3 f4 f5 HSTEP
              obtain ⟨XN, HXN⟩ : ∃ m, Hid (dp.length = m) := ⟨_, hid rfl⟩
              obtain ⟨ZN, HZN⟩ : ∃ m, Hid (dp'.length = m) := ⟨_, hid rfl⟩
              rw [HXN.out] at d5
              rw [HZN.out] at f5
              have HSA : Hid (∀ V, Below w.heap.size w V → (Below w.heap.size w V ∧ V.cell? ⟨bb, off + t * 6, none⟩ = some (.int .i64 sl) ∧ V.cell? ⟨bb, off + t * 6 + 1, none⟩ = some (.bool np) ∧ V.cell? ⟨bb, off + t * 6 + 2, none⟩ = some (.string tk) ∧ V.cell? ⟨bb, off + t * 6 + 3, none⟩ = some (.string ct) ∧ V.cell? ⟨bb, off + t * 6 + 4, none⟩ = some (.int .i64 ep) ∧ V.cell? ⟨bb, off + t * 6 + 5, none⟩ = some (.slice ao1 XN cap1))) := fun V hV =>
                ⟨hV, (hV.cell (p := ⟨bb, _, none⟩) hbb).trans d0, (hV.cell (p := ⟨bb, _, none⟩) hbb).trans d1, (hV.cell (p := ⟨bb, _, none⟩) hbb).trans d2, (hV.cell (p := ⟨bb, _, none⟩) hbb).trans d3, (hV.cell (p := ⟨bb, _, none⟩) hbb).trans d4, (hV.cell (p := ⟨bb, _, none⟩) hbb).trans d5⟩
              have HFA : Hid (∀ V, Below w.heap.size w V → V.cell? ⟨bb, off + J * 6, none⟩ = some (.int .i64 sl') ∧ V.cell? ⟨bb, off + J * 6 + 1, none⟩ = some (.bool np') ∧ V.cell? ⟨bb, off + J * 6 + 2, none⟩ = some (.string tk') ∧ V.cell? ⟨bb, off + J * 6 + 3, none⟩ = some (.string ct') ∧ V.cell? ⟨bb, off + J * 6 + 4, none⟩ = some (.int .i64 ep') ∧ V.cell? ⟨bb, off + J * 6 + 5, none⟩ = some (.slice ao2 ZN cap2)) := fun V hV =>
                ⟨(hV.cell (p := ⟨bb, _, none⟩) hbb).trans f0, (hV.cell (p := ⟨bb, _, none⟩) hbb).trans f1, (hV.cell (p := ⟨bb, _, none⟩) hbb).trans f2, (hV.cell (p := ⟨bb, _, none⟩) hbb).trans f3, (hV.cell (p := ⟨bb, _, none⟩) hbb).trans f4, (hV.cell (p := ⟨bb, _, none⟩) hbb).trans f5⟩
              have HCH : Hid (∀ V, ScL wr V → Calls Try.prog 10 #[.pointer (some ⟨p, 0, none⟩), .int .i64 sl, .agg #[.bool np, .string tk, .string ct, .int .i64 ep, .slice ao1 XN cap1]] V fun e w' => (∃ c, e = .returned (.int .i64 c)) ∧ Hid (Order3m w p m p' m' xs K t w') ∧ Below w.heap.size w w') := fun V hV => by
                have h1 := (HTW.out.below hV.out).a.choose (Nat.le_trans HBR.out.size hV.out.size) sl HOKX.out.is ⟨⟨np, tk, ct, ep, dp⟩, ao1, cap1⟩ (HOKX.out.en.below (bt' HBR.out hV.out))
                simp only [EnM.val] at h1
                rw [HXN.out] at h1
                refine h1.mono ?_
                rintro e w' ⟨rfl, hl', ht', hb'⟩
                have hbf := (bt' HBR.out hV.out).trans hb'
                exact ⟨⟨_, rfl⟩, ⟨_, h, (HTW.out.below hV.out).fst hl' ht', HSTEP.out, HCHh.out, hbf⟩, hbf⟩
              clear hlt htw hcg hch hbr HR hX hZ hr hJ hrn d0 d1 d2 d3 d4 d5 f0 f1 f2 f3 f4 f5 ht
              go_wp2
              go_region_held3 (fun V => Below w.heap.size w V ∧ V.cell? ⟨bb, off + t * 6, none⟩ = some (.int .i64 sl) ∧ V.cell? ⟨bb, off + t * 6 + 1, none⟩ = some (.bool np) ∧ V.cell? ⟨bb, off + t * 6 + 2, none⟩ = some (.string tk) ∧ V.cell? ⟨bb, off + t * 6 + 3, none⟩ = some (.string ct) ∧ V.cell? ⟨bb, off + t * 6 + 4, none⟩ = some (.int .i64 ep) ∧ V.cell? ⟨bb, off + t * 6 + 5, none⟩ = some (.slice ao1 XN cap1))
                (first | (refine ⟨?_, ?_, ?_, ?_, ?_, ?_, ?_⟩ <;> assumption) | (refine HSA.out _ ?_; (repeat (first | assumption | exact HBR.out | apply Below.drew))))
                (first
                  | (go_at_call 10; with_reducible refine (HCH.out _ (by (repeat (first | assumption | exact ScL.start _ | apply ScL.dr)))).mono ?_; rintro e w5 ⟨⟨c, rfl⟩, HG5, hb5⟩))
              all_goals
                obtain ⟨g5, h5, htw5, hcg5, hch5, _⟩ := HG5.out
                have HB5 := hid hb5
                obtain ⟨e0, e1, e2, e3, e4, e5⟩ := HFA.out w5 hb5
                have HTW5 := hid htw5
                have HCG5 := hid hcg5
                obtain ⟨W6, hW6⟩ : ∃ V, V = w5.alloc (.cells #[.int .i64 sl', .bool np', .string tk', .string ct', .int .i64 ep', .slice ao2 ZN cap2] 35) := ⟨_, rfl⟩
                have hb6 : Below w5.heap.size w5 W6 := by rw [hW6]; exact (Below.refl _ _).alloc (Nat.le_refl _) _
                have HCB := hid ((HTW5.out.below hb6).b.choose (Nat.le_trans HB5.out.size hb6.size) sl' HOKJ.out.is ⟨⟨np', tk', ct', ep', dp'⟩, ao2, cap2⟩ (HOKJ.out.en.below (bt' HB5.out hb6)))
                simp only [EnM.val] at HCB
                rw [HZN.out] at HCB
                have HTW6 := hid (HTW5.out.below hb6)
                have HB6 := hid (bt' HB5.out hb6)
                have HW6 := hid hW6
                have HH5 : Hid (Chose xs (turnS k K) (t + 1) (chooseL h5 sl' ⟨np', tk', ct', ep', dp'⟩)) := by
                  have := hch5.step HAP.out (by rw [HN.out]; exact H6.out) htx.out (fun t h => turnS_lt h) (fun t u h1 h2 h => turnS_inj (by rw [HN.out]; exact hltK) h1 h2 h)
                  rw [HN.out, HTJ.out, ← HZZ.out] at this
                  exact this
                clear hb5 htw5 hcg5 hch5 hb6 hW6 HG5
                go_wp2_with fail
                rw [← HW6.out]
                refine HCB.out.mono ?_
                rintro e w7 ⟨rfl, hl7, ht7, hb7⟩
                have HNX : Hid (Order3 w p m p' m' xs K (t + 1) w7) := ⟨_, _, HTW6.out.snd hl7 ht7, HCG5.out, by rw [HN.out]; exact HH5.out, HB6.out.trans hb7⟩
                clear hl7 ht7 hb7
                go_wp2
                go_roundw
                case rel => exact ⟨t + 1, HLT.out, by go_num, HNX⟩
                case measure => have := HLT.out; simp [intOf]; omega
            · obtain rfl : t = k := by omega
              have hlt' : ¬ (t : Int) < (t : Int) := by omega
              obtain ⟨g, h, htw, hcg, hch, hbr⟩ := HR.out
              have hgh : g = h := by
                rw [← HN.out] at hcg hch
                refine hcg.same hch (fun u hu => ?_) (fun u hu => ⟨turnS xs.length K u, turnS_lt hu, rfl⟩)
                exact turnS_onto (by rw [HN.out] at hu ⊢; exact HKK.out hu) hu
              subst hgh
              have HG4 : Hid (Order4 w p m p' m' g wr) := ⟨htw, hbr⟩
              clear htw hcg hch hbr HR ht hlt
              go_wp2
              go_loopw [12, 13, 14, 15, 16] (fun i _ _ _ _ wz => ∃ u : Nat, u ≤ t ∧ i = .int .i64 u ∧ Hid (Order4 w p m p' m' g wz)) (fun i _ _ _ _ _ => t - (intOf i).toNat)
              case atStart => exact ⟨0, Nat.zero_le _, rfl, HG4⟩
              case round =>
                obtain ⟨u, hu, rfl, HR⟩ := hrel
                have HTW := hid HR.out.1
                have HBR := hid HR.out.2
                obtain ⟨pa, za, hata⟩ := HTW.out.a.lr
                obtain ⟨pb, zb, hatb⟩ := HTW.out.b.lr
                have HATA := hid hata
                have HATB := hid hatb
                clear hata hatb HR
                by_cases hlt : u < t
                · have hlt2 : (u : Int) < (t : Int) := by omega
                  have HLT := hid hlt
                  have hux : Hid (u < xs.length) := (HN.out ▸ hlt : u < xs.length)
                  have HOKX := hid (HX.out.okD hux.out)
                  obtain ⟨bb, off, hao, hbb, d0, _⟩ := HX.out.cellsD hux.out
                  subst hao
                  obtain ⟨S0, HS0⟩ : ∃ z, Hid ((xs.getD u default).n = z) := ⟨_, hid rfl⟩
                  rw [HS0.out] at d0
                  have HD0 : Hid (∀ V, Below w.heap.size w V → V.cell? ⟨bb, off + u * 6, none⟩ = some (.int .i64 S0)) := fun V hV => (hV.cell (p := ⟨bb, _, none⟩) hbb).trans d0
                  have c0 := HD0.out wr HBR.out
                  have hi0 : I64 S0 := by rw [← HS0.out]; exact HOKX.out.is
                  have HGA := hid (HATA.out.get S0 hi0)
                  have HGB : Hid (∀ V, Below wr.heap.size wr V → Calls Try.prog 17 #[.pointer (some ⟨p', 0, none⟩), .int .i64 S0] V (GetP V (g.f S0))) := fun V hV => (HATB.out.below hV).get S0 hi0
                  obtain ⟨fx, hfx⟩ : ∃ f, f = g.f S0 := ⟨_, rfl⟩
                  rw [← hfx] at HGA HGB
                  obtain ⟨E, HE⟩ : ∃ E, Hid (fx.getD noopEn = E) := ⟨_, hid rfl⟩
                  obtain ⟨Q, HQ⟩ : ∃ E, Hid (fx.isSome = E) := ⟨_, hid rfl⟩
                  have hQ0 : (Q != Q) = false := by simp
                  clear hlt hfx d0 hi0 hu
                  go_wp2_with fail
                  refine HGA.out.mono ?_
                  rintro e w5 ⟨bo5, cp5, rfl, hv5, hb5⟩
                  rw [HE.out] at hv5 ⊢
                  rw [HQ.out]
                  have HV5 := hid hv5
                  have HB5 := hid hb5
                  clear hv5 hb5 c0 HGA
                  obtain ⟨np, tk, ct, ep, dp⟩ := E
                  obtain ⟨XN, HXN⟩ : ∃ m, Hid (dp.length = m) := ⟨_, hid rfl⟩
                  simp only [EnM.val]
                  rw [HXN.out]
                  obtain ⟨W6, hW6⟩ : ∃ V, V = w5.alloc (.cells #[.bool np, .string tk, .string ct, .int .i64 ep, .slice bo5 XN cp5] 33) := ⟨_, rfl⟩
                  have hb6 : Below w5.heap.size w5 W6 := by rw [hW6]; exact (Below.refl _ _).alloc (Nat.le_refl _) _
                  have HK6 : Hid (Blk W6 w5.heap.size 33 [.bool np, .string tk, .string ct, .int .i64 ep, .slice bo5 XN cp5]) := by rw [hW6]; exact Blk.new w5 _ _
                  have HB6 := hid (bt' HB5.out hb6)
                  have HV6 := hid (HV5.out.below hb6)
                  have c6 := HD0.out W6 (bt' HBR.out HB6.out)
                  rw [hW6] at c6
                  have HW6 := hid hW6
                  clear hW6 hb6
                  go_wp2_with fail
                  rw [← HW6.out]
                  refine (HGB.out W6 HB6.out).mono ?_
                  rintro e w7 ⟨bo7, cp7, rfl, hv7, hb7⟩
                  rw [HE.out] at hv7 ⊢
                  rw [HQ.out]
                  simp only [EnM.val]
                  rw [HXN.out]
                  obtain ⟨W8, hW8⟩ : ∃ V, V = w7.alloc (.cells #[.bool np, .string tk, .string ct, .int .i64 ep, .slice bo7 XN cp7] 33) := ⟨_, rfl⟩
                  have hb8 : Below w7.heap.size w7 W8 := by rw [hW8]; exact (Below.refl _ _).alloc (Nat.le_refl _) _
                  have hk8 := HK6.out.below (bt' hb7 hb8) HK6.out.lt
                  have HV8 := hid (HV6.out.below (bt' hb7 hb8))
                  have HV8' := hid (hv7.below hb8)
                  have HB8 := hid (bt' HB6.out (bt' hb7 hb8))
                  have HSE := hid (sameEntry_B W8 ⟨np, tk, ct, ep, dp⟩ bo5 bo7 cp5 cp7 HV8.out HV8'.out)
                  simp only [EnM.val] at HSE
                  rw [HXN.out] at HSE
                  rw [hW8] at hk8
                  have j0 := hk8.cell (i := 0) rfl
                  have j1 := hk8.cell (i := 1) rfl
                  have j2 := hk8.cell (i := 2) rfl
                  have j3 := hk8.cell (i := 3) rfl
                  have j4 := hk8.cell (i := 4) rfl
                  have HW8 := hid hW8
                  clear hv7 hb7 hb8 hk8 hW8 c6
                  go_wp2_with fail
                  rw [← HW8.out]
                  refine HSE.out.mono ?_
                  rintro e w9 ⟨rfl, hb9⟩
                  have HNX : Hid (Order4 w p m p' m' g w9) := ⟨HTW.out.below (bt' HB8.out hb9), bt' HBR.out (bt' HB8.out hb9)⟩
                  clear hb9 j0 j1 j2 j3 j4
                  go_wp2
                  go_roundw
                  case rel => exact ⟨u + 1, HLT.out, by go_num, HNX⟩
                  case measure => have := HLT.out; simp [intOf]; omega
                · obtain rfl : u = t := by omega
                  have hlt2 : ¬ (u : Int) < (u : Int) := by omega
                  have hpp : pa = pb := HATA.out.isPre.unique HATB.out.isPre
                  have hzz : za = zb := HATA.out.end_eq HATB.out.fin
                  subst hpp hzz
                  have HPA := hid HATA.out.toLrMid.prefix
                  have HPB := hid HATB.out.toLrMid.prefix
                  have HEA := hid HATA.out.extras
                  have HEB : Hid (∀ V, Below wr.heap.size wr V → Calls Try.prog 19 #[.pointer (some ⟨p', 0, none⟩)] V (RowP V (extraL g.ks pa))) := fun V hV => (HATB.out.below hV).extras
                  have HMA : Hid (∀ V, Below wr.heap.size wr V → Calls Try.prog 20 #[.pointer (some ⟨p, 0, none⟩), .int .i64 50] V (RowP V (missL g.ks pa za 50))) := fun V hV => (HATA.out.below hV).missing 50
                  have HMB : Hid (∀ V, Below wr.heap.size wr V → Calls Try.prog 20 #[.pointer (some ⟨p', 0, none⟩), .int .i64 50] V (RowP V (missL g.ks pa za 50))) := fun V hV => (HATB.out.below hV).missing 50
                  have HLA : Hid (∀ V, Below wr.heap.size wr V → Calls Try.prog 21 #[.pointer (some ⟨p, 0, none⟩)] V fun e w' => e = .returned (.int .i64 g.ks.length) ∧ w' = V) := fun V hV => (HATA.out.toLrMid.below hV).len
                  have HLB : Hid (∀ V, Below wr.heap.size wr V → Calls Try.prog 21 #[.pointer (some ⟨p', 0, none⟩)] V fun e w' => e = .returned (.int .i64 g.ks.length) ∧ w' = V) := fun V hV => (HATB.out.toLrMid.below hV).len
                  obtain ⟨EX, hEX⟩ : ∃ l, l = extraL g.ks pa := ⟨_, rfl⟩
                  obtain ⟨MI, hMI⟩ : ∃ l, l = missL g.ks pa za 50 := ⟨_, rfl⟩
                  rw [← hEX] at HEA HEB
                  rw [← hMI] at HMA HMB
                  clear hEX hMI hlt hu
                  obtain ⟨EN, HEN⟩ : ∃ m, Hid (EX.length = m) := ⟨_, hid rfl⟩
                  obtain ⟨MN, HMN⟩ : ∃ m, Hid (MI.length = m) := ⟨_, hid rfl⟩
                  go_wp2_with fail
                  refine HPA.out.mono ?_
                  rintro e w5 ⟨rfl, hw5⟩
                  rw [hw5]
                  clear hw5 w5
                  go_wp2_with fail
                  refine HPB.out.mono ?_
                  rintro e w5 ⟨rfl, hw5⟩
                  rw [hw5]
                  clear hw5 w5
                  go_wp2_with fail
                  refine HEA.out.mono ?_
                  rintro e w6 ⟨ea, ca, rfl, hva, _, hb6⟩
                  rw [HEN.out]
                  have HVA := hid hva
                  have HB6 := hid hb6
                  clear hva hb6
                  go_wp2_with fail
                  refine (HEB.out _ HB6.out).mono ?_
                  rintro e w7 ⟨eb, cb, rfl, hvb, _, hb7⟩
                  rw [HEN.out]
                  have HSI := hid (sameIntsR w7 ea eb ca cb EX EX EN EN HEN.out HEN.out (HVA.out.below hb7) hvb)
                  rw [decide_eq_true rfl] at HSI
                  have HB7 := hid (bt' HB6.out hb7)
                  clear hvb hb7
                  go_wp2_with fail
                  refine HSI.out.mono ?_
                  rintro e w8 ⟨rfl, q8, hq8⟩
                  have HB8 : Hid (Below wr.heap.size wr w8) := by rw [hq8]; exact below_dn HB7.out q8
                  clear hq8
                  go_wp2_with fail
                  refine (HMA.out _ HB8.out).mono ?_
                  rintro e w9 ⟨ea9, ca9, rfl, hva9, _, hb9⟩
                  rw [HMN.out]
                  have HVA9 := hid hva9
                  have HB9 := hid (bt' HB8.out hb9)
                  clear hva9 hb9
                  go_wp2_with fail
                  refine (HMB.out _ HB9.out).mono ?_
                  rintro e w10 ⟨eb9, cb9, rfl, hvb9, _, hb10⟩
                  rw [HMN.out]
                  have HSI2 := hid (sameIntsR w10 ea9 eb9 ca9 cb9 MI MI MN MN HMN.out HMN.out (HVA9.out.below hb10) hvb9)
                  rw [decide_eq_true rfl] at HSI2
                  have HB10 := hid (bt' HB9.out hb10)
                  clear hvb9 hb10
                  go_wp2_with fail
                  refine HSI2.out.mono ?_
                  rintro e w11 ⟨rfl, q11, hq11⟩
                  have HB11 : Hid (Below wr.heap.size wr w11) := by rw [hq11]; exact below_dn HB10.out q11
                  clear hq11
                  go_wp2_with fail
                  refine (HLA.out _ HB11.out).mono ?_
                  rintro e w12 ⟨rfl, rfl⟩
                  go_wp2_with fail
                  refine (HLB.out _ HB11.out).mono ?_
                  rintro e w12 ⟨rfl, rfl⟩
                  go_wp2
                  go_ret
                  exact ⟨rfl, bt' HBR.out HB11.out⟩

        · obtain ⟨T, hT⟩ : ∃ T, by'.tmod (k : Int) = T := ⟨_, rfl⟩
          have hT1 : -(k : Int) < T := by rw [← hT]; have := Int.lt_tmod_of_pos by' hk0; omega
          have hT2 : T ≤ 0 := by rw [← hT]; have := Int.tmod_nonneg (a := -by') (k : Int) (by omega); rw [Int.neg_tmod] at this; omega
          by_cases h3 : T < 0
          · obtain ⟨K, hK⟩ : ∃ K : Nat, (T + (k : Int) : Int) = (K : Int) := ⟨(T + k).toNat, by omega⟩
            have HKK : Hid (∀ {t : Nat}, t < k → K < k) := fun _ => by omega
            go_wp2
            try rw [hK]
            clear hK hT hT1 hT2 h3
            go_loopw [10, 11] (fun i _ wz => ∃ t : Nat, t ≤ k ∧ i = .int .i64 t ∧ Hid (Order3 w p m p' m' xs K t wz)) (fun i _ _ => k - (intOf i).toNat)
            case atStart => exact ⟨0, Nat.zero_le _, rfl, noLr, noLr, HT4.out, Chose.start _ _, Chose.start _ _, HB4.out⟩
            case round =>
              obtain ⟨t, ht, rfl, HR⟩ := hrel
              by_cases hlt : t < k
              · have hlt' : (t : Int) < (k : Int) := by omega
                have HLT := hid hlt
                obtain ⟨g, h, htw, hcg, hch, hbr⟩ := HR.out
                have HTW := hid htw
                have HCG := hid hcg
                have HCHh := hid hch
                have HBR := hid hbr
                have htx : Hid (t < xs.length) := (HN.out ▸ hlt : t < xs.length)
                have HOKX := hid (HX.out.okD htx.out)
                have HSTEP : Hid (Chose xs id (t + 1) (chooseL g (xs.getD t default).n (xs.getD t default).en.e)) := hcg.step HAP.out (by rw [HN.out]; exact H6.out) htx.out (fun t h => h) (fun t u _ _ h => h)
                have hltK : K < k := HKK.out hlt
                obtain ⟨bb, off, hao, hbb, d0, d1, d2, d3, d4, d5⟩ := HX.out.cellsD htx.out
                subst hao
                obtain ⟨r, hr⟩ : ∃ r, r = (t + K) % k := ⟨_, rfl⟩
                have hrn : r < k := by rw [hr]; exact Nat.mod_lt _ (by omega)
                have hmod : ((t : Int) + (K : Int)) % (k : Int) = (r : Int) := by rw [hr]; simp
                obtain ⟨J, hJ⟩ : ∃ J, J = k - 1 - r := ⟨_, rfl⟩
                have HTJ : Hid (turnS k K t = J) := by show _ = _; rw [hJ, hr]; rfl
                have hJn : (J : Int) < (k : Int) := by omega
                have hJi : (k : Int) - 1 - (r : Int) = (J : Int) := by omega
                have hJx : Hid (J < xs.length) := by show _ < _; rw [HN.out]; omega
                have HOKJ := hid (HX.out.okD hJx.out)
                obtain ⟨bb', off', hao', _, f0, f1, f2, f3, f4, f5⟩ := HX.out.cellsD hJx.out
                cases hao'
                obtain ⟨X, hX⟩ : ∃ X, X = xs.getD t default := ⟨_, rfl⟩
                obtain ⟨Z, hZ⟩ : ∃ X, X = xs.getD J default := ⟨_, rfl⟩
                rw [← hX] at d0 d1 d2 d3 d4 d5 HOKX HSTEP
                rw [← hZ] at f0 f1 f2 f3 f4 f5 HOKJ
                obtain ⟨sl, ⟨np, tk, ct, ep, dp⟩, ao1, cap1⟩ := X
                obtain ⟨sl', ⟨np', tk', ct', ep', dp'⟩, ao2, cap2⟩ := Z
                have HZZ := hid hZ
                simp only at d0 d1 d2 d3 d4 d5 f0 f1 f2 f3 f4 f5 HSTEP
                obtain ⟨XN, HXN⟩ : ∃ m, Hid (dp.length = m) := ⟨_, hid rfl⟩
                obtain ⟨ZN, HZN⟩ : ∃ m, Hid (dp'.length = m) := ⟨_, hid rfl⟩
                rw [HXN.out] at d5
                rw [HZN.out] at f5
                have HSA : Hid (∀ V, Below w.heap.size w V → (Below w.heap.size w V ∧ V.cell? ⟨bb, off + t * 6, none⟩ = some (.int .i64 sl) ∧ V.cell? ⟨bb, off + t * 6 + 1, none⟩ = some (.bool np) ∧ V.cell? ⟨bb, off + t * 6 + 2, none⟩ = some (.string tk) ∧ V.cell? ⟨bb, off + t * 6 + 3, none⟩ = some (.string ct) ∧ V.cell? ⟨bb, off + t * 6 + 4, none⟩ = some (.int .i64 ep) ∧ V.cell? ⟨bb, off + t * 6 + 5, none⟩ = some (.slice ao1 XN cap1))) := fun V hV =>
                  ⟨hV, (hV.cell (p := ⟨bb, _, none⟩) hbb).trans d0, (hV.cell (p := ⟨bb, _, none⟩) hbb).trans d1, (hV.cell (p := ⟨bb, _, none⟩) hbb).trans d2, (hV.cell (p := ⟨bb, _, none⟩) hbb).trans d3, (hV.cell (p := ⟨bb, _, none⟩) hbb).trans d4, (hV.cell (p := ⟨bb, _, none⟩) hbb).trans d5⟩
                have HFA : Hid (∀ V, Below w.heap.size w V → V.cell? ⟨bb, off + J * 6, none⟩ = some (.int .i64 sl') ∧ V.cell? ⟨bb, off + J * 6 + 1, none⟩ = some (.bool np') ∧ V.cell? ⟨bb, off + J * 6 + 2, none⟩ = some (.string tk') ∧ V.cell? ⟨bb, off + J * 6 + 3, none⟩ = some (.string ct') ∧ V.cell? ⟨bb, off + J * 6 + 4, none⟩ = some (.int .i64 ep') ∧ V.cell? ⟨bb, off + J * 6 + 5, none⟩ = some (.slice ao2 ZN cap2)) := fun V hV =>
                  ⟨(hV.cell (p := ⟨bb, _, none⟩) hbb).trans f0, (hV.cell (p := ⟨bb, _, none⟩) hbb).trans f1, (hV.cell (p := ⟨bb, _, none⟩) hbb).trans f2, (hV.cell (p := ⟨bb, _, none⟩) hbb).trans f3, (hV.cell (p := ⟨bb, _, none⟩) hbb).trans f4, (hV.cell (p := ⟨bb, _, none⟩) hbb).trans f5⟩
                have HCH : Hid (∀ V, ScL wr V → Calls Try.prog 10 #[.pointer (some ⟨p, 0, none⟩), .int .i64 sl, .agg #[.bool np, .string tk, .string ct, .int .i64 ep, .slice ao1 XN cap1]] V fun e w' => (∃ c, e = .returned (.int .i64 c)) ∧ Hid (Order3m w p m p' m' xs K t w') ∧ Below w.heap.size w w') := fun V hV => by
                  have h1 := (HTW.out.below hV.out).a.choose (Nat.le_trans HBR.out.size hV.out.size) sl HOKX.out.is ⟨⟨np, tk, ct, ep, dp⟩, ao1, cap1⟩ (HOKX.out.en.below (bt' HBR.out hV.out))
                  simp only [EnM.val] at h1
                  rw [HXN.out] at h1
                  refine h1.mono ?_
                  rintro e w' ⟨rfl, hl', ht', hb'⟩
                  have hbf := (bt' HBR.out hV.out).trans hb'
                  exact ⟨⟨_, rfl⟩, ⟨_, h, (HTW.out.below hV.out).fst hl' ht', HSTEP.out, HCHh.out, hbf⟩, hbf⟩
                clear hlt htw hcg hch hbr HR hX hZ hr hJ hrn d0 d1 d2 d3 d4 d5 f0 f1 f2 f3 f4 f5 ht
                go_wp2
                go_region_held3 (fun V => Below w.heap.size w V ∧ V.cell? ⟨bb, off + t * 6, none⟩ = some (.int .i64 sl) ∧ V.cell? ⟨bb, off + t * 6 + 1, none⟩ = some (.bool np) ∧ V.cell? ⟨bb, off + t * 6 + 2, none⟩ = some (.string tk) ∧ V.cell? ⟨bb, off + t * 6 + 3, none⟩ = some (.string ct) ∧ V.cell? ⟨bb, off + t * 6 + 4, none⟩ = some (.int .i64 ep) ∧ V.cell? ⟨bb, off + t * 6 + 5, none⟩ = some (.slice ao1 XN cap1))
                  (first | (refine ⟨?_, ?_, ?_, ?_, ?_, ?_, ?_⟩ <;> assumption) | (refine HSA.out _ ?_; (repeat (first | assumption | exact HBR.out | apply Below.drew))))
                  (first
                    | (go_at_call 10; with_reducible refine (HCH.out _ (by (repeat (first | assumption | exact ScL.start _ | apply ScL.dr)))).mono ?_; rintro e w5 ⟨⟨c, rfl⟩, HG5, hb5⟩))
                all_goals
                  obtain ⟨g5, h5, htw5, hcg5, hch5, _⟩ := HG5.out
                  have HB5 := hid hb5
                  obtain ⟨e0, e1, e2, e3, e4, e5⟩ := HFA.out w5 hb5
                  have HTW5 := hid htw5
                  have HCG5 := hid hcg5
                  obtain ⟨W6, hW6⟩ : ∃ V, V = w5.alloc (.cells #[.int .i64 sl', .bool np', .string tk', .string ct', .int .i64 ep', .slice ao2 ZN cap2] 35) := ⟨_, rfl⟩
                  have hb6 : Below w5.heap.size w5 W6 := by rw [hW6]; exact (Below.refl _ _).alloc (Nat.le_refl _) _
                  have HCB := hid ((HTW5.out.below hb6).b.choose (Nat.le_trans HB5.out.size hb6.size) sl' HOKJ.out.is ⟨⟨np', tk', ct', ep', dp'⟩, ao2, cap2⟩ (HOKJ.out.en.below (bt' HB5.out hb6)))
                  simp only [EnM.val] at HCB
                  rw [HZN.out] at HCB
                  have HTW6 := hid (HTW5.out.below hb6)
                  have HB6 := hid (bt' HB5.out hb6)
                  have HW6 := hid hW6
                  have HH5 : Hid (Chose xs (turnS k K) (t + 1) (chooseL h5 sl' ⟨np', tk', ct', ep', dp'⟩)) := by
                    have := hch5.step HAP.out (by rw [HN.out]; exact H6.out) htx.out (fun t h => turnS_lt h) (fun t u h1 h2 h => turnS_inj (by rw [HN.out]; exact hltK) h1 h2 h)
                    rw [HN.out, HTJ.out, ← HZZ.out] at this
                    exact this
                  clear hb5 htw5 hcg5 hch5 hb6 hW6 HG5
                  go_wp2_with fail
                  rw [← HW6.out]
                  refine HCB.out.mono ?_
                  rintro e w7 ⟨rfl, hl7, ht7, hb7⟩
                  have HNX : Hid (Order3 w p m p' m' xs K (t + 1) w7) := ⟨_, _, HTW6.out.snd hl7 ht7, HCG5.out, by rw [HN.out]; exact HH5.out, HB6.out.trans hb7⟩
                  clear hl7 ht7 hb7
                  go_wp2
                  go_roundw
                  case rel => exact ⟨t + 1, HLT.out, by go_num, HNX⟩
                  case measure => have := HLT.out; simp [intOf]; omega
              · obtain rfl : t = k := by omega
                have hlt' : ¬ (t : Int) < (t : Int) := by omega
                obtain ⟨g, h, htw, hcg, hch, hbr⟩ := HR.out
                have hgh : g = h := by
                  rw [← HN.out] at hcg hch
                  refine hcg.same hch (fun u hu => ?_) (fun u hu => ⟨turnS xs.length K u, turnS_lt hu, rfl⟩)
                  exact turnS_onto (by rw [HN.out] at hu ⊢; exact HKK.out hu) hu
                subst hgh
                have HG4 : Hid (Order4 w p m p' m' g wr) := ⟨htw, hbr⟩
                clear htw hcg hch hbr HR ht hlt
                go_wp2
                go_loopw [12, 13, 14, 15, 16] (fun i _ _ _ _ wz => ∃ u : Nat, u ≤ t ∧ i = .int .i64 u ∧ Hid (Order4 w p m p' m' g wz)) (fun i _ _ _ _ _ => t - (intOf i).toNat)
                case atStart => exact ⟨0, Nat.zero_le _, rfl, HG4⟩
                case round =>
                  obtain ⟨u, hu, rfl, HR⟩ := hrel
                  have HTW := hid HR.out.1
                  have HBR := hid HR.out.2
                  obtain ⟨pa, za, hata⟩ := HTW.out.a.lr
                  obtain ⟨pb, zb, hatb⟩ := HTW.out.b.lr
                  have HATA := hid hata
                  have HATB := hid hatb
                  clear hata hatb HR
                  by_cases hlt : u < t
                  · have hlt2 : (u : Int) < (t : Int) := by omega
                    have HLT := hid hlt
                    have hux : Hid (u < xs.length) := (HN.out ▸ hlt : u < xs.length)
                    have HOKX := hid (HX.out.okD hux.out)
                    obtain ⟨bb, off, hao, hbb, d0, _⟩ := HX.out.cellsD hux.out
                    subst hao
                    obtain ⟨S0, HS0⟩ : ∃ z, Hid ((xs.getD u default).n = z) := ⟨_, hid rfl⟩
                    rw [HS0.out] at d0
                    have HD0 : Hid (∀ V, Below w.heap.size w V → V.cell? ⟨bb, off + u * 6, none⟩ = some (.int .i64 S0)) := fun V hV => (hV.cell (p := ⟨bb, _, none⟩) hbb).trans d0
                    have c0 := HD0.out wr HBR.out
                    have hi0 : I64 S0 := by rw [← HS0.out]; exact HOKX.out.is
                    have HGA := hid (HATA.out.get S0 hi0)
                    have HGB : Hid (∀ V, Below wr.heap.size wr V → Calls Try.prog 17 #[.pointer (some ⟨p', 0, none⟩), .int .i64 S0] V (GetP V (g.f S0))) := fun V hV => (HATB.out.below hV).get S0 hi0
                    obtain ⟨fx, hfx⟩ : ∃ f, f = g.f S0 := ⟨_, rfl⟩
                    rw [← hfx] at HGA HGB
                    obtain ⟨E, HE⟩ : ∃ E, Hid (fx.getD noopEn = E) := ⟨_, hid rfl⟩
                    obtain ⟨Q, HQ⟩ : ∃ E, Hid (fx.isSome = E) := ⟨_, hid rfl⟩
                    have hQ0 : (Q != Q) = false := by simp
                    clear hlt hfx d0 hi0 hu
                    go_wp2_with fail
                    refine HGA.out.mono ?_
                    rintro e w5 ⟨bo5, cp5, rfl, hv5, hb5⟩
                    rw [HE.out] at hv5 ⊢
                    rw [HQ.out]
                    have HV5 := hid hv5
                    have HB5 := hid hb5
                    clear hv5 hb5 c0 HGA
                    obtain ⟨np, tk, ct, ep, dp⟩ := E
                    obtain ⟨XN, HXN⟩ : ∃ m, Hid (dp.length = m) := ⟨_, hid rfl⟩
                    simp only [EnM.val]
                    rw [HXN.out]
                    obtain ⟨W6, hW6⟩ : ∃ V, V = w5.alloc (.cells #[.bool np, .string tk, .string ct, .int .i64 ep, .slice bo5 XN cp5] 33) := ⟨_, rfl⟩
                    have hb6 : Below w5.heap.size w5 W6 := by rw [hW6]; exact (Below.refl _ _).alloc (Nat.le_refl _) _
                    have HK6 : Hid (Blk W6 w5.heap.size 33 [.bool np, .string tk, .string ct, .int .i64 ep, .slice bo5 XN cp5]) := by rw [hW6]; exact Blk.new w5 _ _
                    have HB6 := hid (bt' HB5.out hb6)
                    have HV6 := hid (HV5.out.below hb6)
                    have c6 := HD0.out W6 (bt' HBR.out HB6.out)
                    rw [hW6] at c6
                    have HW6 := hid hW6
                    clear hW6 hb6
                    go_wp2_with fail
                    rw [← HW6.out]
                    refine (HGB.out W6 HB6.out).mono ?_
                    rintro e w7 ⟨bo7, cp7, rfl, hv7, hb7⟩
                    rw [HE.out] at hv7 ⊢
                    rw [HQ.out]
                    simp only [EnM.val]
                    rw [HXN.out]
                    obtain ⟨W8, hW8⟩ : ∃ V, V = w7.alloc (.cells #[.bool np, .string tk, .string ct, .int .i64 ep, .slice bo7 XN cp7] 33) := ⟨_, rfl⟩
                    have hb8 : Below w7.heap.size w7 W8 := by rw [hW8]; exact (Below.refl _ _).alloc (Nat.le_refl _) _
                    have hk8 := HK6.out.below (bt' hb7 hb8) HK6.out.lt
                    have HV8 := hid (HV6.out.below (bt' hb7 hb8))
                    have HV8' := hid (hv7.below hb8)
                    have HB8 := hid (bt' HB6.out (bt' hb7 hb8))
                    have HSE := hid (sameEntry_B W8 ⟨np, tk, ct, ep, dp⟩ bo5 bo7 cp5 cp7 HV8.out HV8'.out)
                    simp only [EnM.val] at HSE
                    rw [HXN.out] at HSE
                    rw [hW8] at hk8
                    have j0 := hk8.cell (i := 0) rfl
                    have j1 := hk8.cell (i := 1) rfl
                    have j2 := hk8.cell (i := 2) rfl
                    have j3 := hk8.cell (i := 3) rfl
                    have j4 := hk8.cell (i := 4) rfl
                    have HW8 := hid hW8
                    clear hv7 hb7 hb8 hk8 hW8 c6
                    go_wp2_with fail
                    rw [← HW8.out]
                    refine HSE.out.mono ?_
                    rintro e w9 ⟨rfl, hb9⟩
                    have HNX : Hid (Order4 w p m p' m' g w9) := ⟨HTW.out.below (bt' HB8.out hb9), bt' HBR.out (bt' HB8.out hb9)⟩
                    clear hb9 j0 j1 j2 j3 j4
                    go_wp2
                    go_roundw
                    case rel => exact ⟨u + 1, HLT.out, by go_num, HNX⟩
                    case measure => have := HLT.out; simp [intOf]; omega
                  · obtain rfl : u = t := by omega
                    have hlt2 : ¬ (u : Int) < (u : Int) := by omega
                    have hpp : pa = pb := HATA.out.isPre.unique HATB.out.isPre
                    have hzz : za = zb := HATA.out.end_eq HATB.out.fin
                    subst hpp hzz
                    have HPA := hid HATA.out.toLrMid.prefix
                    have HPB := hid HATB.out.toLrMid.prefix
                    have HEA := hid HATA.out.extras
                    have HEB : Hid (∀ V, Below wr.heap.size wr V → Calls Try.prog 19 #[.pointer (some ⟨p', 0, none⟩)] V (RowP V (extraL g.ks pa))) := fun V hV => (HATB.out.below hV).extras
                    have HMA : Hid (∀ V, Below wr.heap.size wr V → Calls Try.prog 20 #[.pointer (some ⟨p, 0, none⟩), .int .i64 50] V (RowP V (missL g.ks pa za 50))) := fun V hV => (HATA.out.below hV).missing 50
                    have HMB : Hid (∀ V, Below wr.heap.size wr V → Calls Try.prog 20 #[.pointer (some ⟨p', 0, none⟩), .int .i64 50] V (RowP V (missL g.ks pa za 50))) := fun V hV => (HATB.out.below hV).missing 50
                    have HLA : Hid (∀ V, Below wr.heap.size wr V → Calls Try.prog 21 #[.pointer (some ⟨p, 0, none⟩)] V fun e w' => e = .returned (.int .i64 g.ks.length) ∧ w' = V) := fun V hV => (HATA.out.toLrMid.below hV).len
                    have HLB : Hid (∀ V, Below wr.heap.size wr V → Calls Try.prog 21 #[.pointer (some ⟨p', 0, none⟩)] V fun e w' => e = .returned (.int .i64 g.ks.length) ∧ w' = V) := fun V hV => (HATB.out.toLrMid.below hV).len
                    obtain ⟨EX, hEX⟩ : ∃ l, l = extraL g.ks pa := ⟨_, rfl⟩
                    obtain ⟨MI, hMI⟩ : ∃ l, l = missL g.ks pa za 50 := ⟨_, rfl⟩
                    rw [← hEX] at HEA HEB
                    rw [← hMI] at HMA HMB
                    clear hEX hMI hlt hu
                    obtain ⟨EN, HEN⟩ : ∃ m, Hid (EX.length = m) := ⟨_, hid rfl⟩
                    obtain ⟨MN, HMN⟩ : ∃ m, Hid (MI.length = m) := ⟨_, hid rfl⟩
                    go_wp2_with fail
                    refine HPA.out.mono ?_
                    rintro e w5 ⟨rfl, hw5⟩
                    rw [hw5]
                    clear hw5 w5
                    go_wp2_with fail
                    refine HPB.out.mono ?_
                    rintro e w5 ⟨rfl, hw5⟩
                    rw [hw5]
                    clear hw5 w5
                    go_wp2_with fail
                    refine HEA.out.mono ?_
                    rintro e w6 ⟨ea, ca, rfl, hva, _, hb6⟩
                    rw [HEN.out]
                    have HVA := hid hva
                    have HB6 := hid hb6
                    clear hva hb6
                    go_wp2_with fail
                    refine (HEB.out _ HB6.out).mono ?_
                    rintro e w7 ⟨eb, cb, rfl, hvb, _, hb7⟩
                    rw [HEN.out]
                    have HSI := hid (sameIntsR w7 ea eb ca cb EX EX EN EN HEN.out HEN.out (HVA.out.below hb7) hvb)
                    rw [decide_eq_true rfl] at HSI
                    have HB7 := hid (bt' HB6.out hb7)
                    clear hvb hb7
                    go_wp2_with fail
                    refine HSI.out.mono ?_
                    rintro e w8 ⟨rfl, q8, hq8⟩
                    have HB8 : Hid (Below wr.heap.size wr w8) := by rw [hq8]; exact below_dn HB7.out q8
                    clear hq8
                    go_wp2_with fail
                    refine (HMA.out _ HB8.out).mono ?_
                    rintro e w9 ⟨ea9, ca9, rfl, hva9, _, hb9⟩
                    rw [HMN.out]
                    have HVA9 := hid hva9
                    have HB9 := hid (bt' HB8.out hb9)
                    clear hva9 hb9
                    go_wp2_with fail
                    refine (HMB.out _ HB9.out).mono ?_
                    rintro e w10 ⟨eb9, cb9, rfl, hvb9, _, hb10⟩
                    rw [HMN.out]
                    have HSI2 := hid (sameIntsR w10 ea9 eb9 ca9 cb9 MI MI MN MN HMN.out HMN.out (HVA9.out.below hb10) hvb9)
                    rw [decide_eq_true rfl] at HSI2
                    have HB10 := hid (bt' HB9.out hb10)
                    clear hvb9 hb10
                    go_wp2_with fail
                    refine HSI2.out.mono ?_
                    rintro e w11 ⟨rfl, q11, hq11⟩
                    have HB11 : Hid (Below wr.heap.size wr w11) := by rw [hq11]; exact below_dn HB10.out q11
                    clear hq11
                    go_wp2_with fail
                    refine (HLA.out _ HB11.out).mono ?_
                    rintro e w12 ⟨rfl, rfl⟩
                    go_wp2_with fail
                    refine (HLB.out _ HB11.out).mono ?_
                    rintro e w12 ⟨rfl, rfl⟩
                    go_wp2
                    go_ret
                    exact ⟨rfl, bt' HBR.out HB11.out⟩

          · obtain rfl : T = ((0 : Nat) : Int) := by omega
            obtain ⟨K, hK⟩ : ∃ K : Nat, K = 0 := ⟨0, rfl⟩
            have hT' : by'.tmod (k : Int) = (K : Int) := by rw [hT, hK]
            have HKK : Hid (∀ {t : Nat}, t < k → K < k) := fun _ => by omega
            have hT3 : ¬ (K : Int) < 0 := by omega
            clear hT hT1 hT2 h3 hK
            go_wp2
            clear hT' hT3
            go_loopw [10, 11] (fun i _ wz => ∃ t : Nat, t ≤ k ∧ i = .int .i64 t ∧ Hid (Order3 w p m p' m' xs K t wz)) (fun i _ _ => k - (intOf i).toNat)
            case atStart => exact ⟨0, Nat.zero_le _, rfl, noLr, noLr, HT4.out, Chose.start _ _, Chose.start _ _, HB4.out⟩
            case round =>
              obtain ⟨t, ht, rfl, HR⟩ := hrel
              by_cases hlt : t < k
              · have hlt' : (t : Int) < (k : Int) := by omega
                have HLT := hid hlt
                obtain ⟨g, h, htw, hcg, hch, hbr⟩ := HR.out
                have HTW := hid htw
                have HCG := hid hcg
                have HCHh := hid hch
                have HBR := hid hbr
                have htx : Hid (t < xs.length) := (HN.out ▸ hlt : t < xs.length)
                have HOKX := hid (HX.out.okD htx.out)
                have HSTEP : Hid (Chose xs id (t + 1) (chooseL g (xs.getD t default).n (xs.getD t default).en.e)) := hcg.step HAP.out (by rw [HN.out]; exact H6.out) htx.out (fun t h => h) (fun t u _ _ h => h)
                have hltK : K < k := HKK.out hlt
                obtain ⟨bb, off, hao, hbb, d0, d1, d2, d3, d4, d5⟩ := HX.out.cellsD htx.out
                subst hao
                obtain ⟨r, hr⟩ : ∃ r, r = (t + K) % k := ⟨_, rfl⟩
                have hrn : r < k := by rw [hr]; exact Nat.mod_lt _ (by omega)
                have hmod : ((t : Int) + (K : Int)) % (k : Int) = (r : Int) := by rw [hr]; simp
                obtain ⟨J, hJ⟩ : ∃ J, J = k - 1 - r := ⟨_, rfl⟩
                have HTJ : Hid (turnS k K t = J) := by show _ = _; rw [hJ, hr]; rfl
                have hJn : (J : Int) < (k : Int) := by omega
                have hJi : (k : Int) - 1 - (r : Int) = (J : Int) := by omega
                have hJx : Hid (J < xs.length) := by show _ < _; rw [HN.out]; omega
                have HOKJ := hid (HX.out.okD hJx.out)
                obtain ⟨bb', off', hao', _, f0, f1, f2, f3, f4, f5⟩ := HX.out.cellsD hJx.out
                cases hao'
                obtain ⟨X, hX⟩ : ∃ X, X = xs.getD t default := ⟨_, rfl⟩
                obtain ⟨Z, hZ⟩ : ∃ X, X = xs.getD J default := ⟨_, rfl⟩
                rw [← hX] at d0 d1 d2 d3 d4 d5 HOKX HSTEP
                rw [← hZ] at f0 f1 f2 f3 f4 f5 HOKJ
                obtain ⟨sl, ⟨np, tk, ct, ep, dp⟩, ao1, cap1⟩ := X
                obtain ⟨sl', ⟨np', tk', ct', ep', dp'⟩, ao2, cap2⟩ := Z
                have HZZ := hid hZ
                simp only at d0 d1 d2 d3 d4 d5 f0 f1 f2 f3 f4 f5 HSTEP
                obtain ⟨XN, HXN⟩ : ∃ m, Hid (dp.length = m) := ⟨_, hid rfl⟩
                obtain ⟨ZN, HZN⟩ : ∃ m, Hid (dp'.length = m) := ⟨_, hid rfl⟩
                rw [HXN.out] at d5
                rw [HZN.out] at f5
                have HSA : Hid (∀ V, Below w.heap.size w V → (Below w.heap.size w V ∧ V.cell? ⟨bb, off + t * 6, none⟩ = some (.int .i64 sl) ∧ V.cell? ⟨bb, off + t * 6 + 1, none⟩ = some (.bool np) ∧ V.cell? ⟨bb, off + t * 6 + 2, none⟩ = some (.string tk) ∧ V.cell? ⟨bb, off + t * 6 + 3, none⟩ = some (.string ct) ∧ V.cell? ⟨bb, off + t * 6 + 4, none⟩ = some (.int .i64 ep) ∧ V.cell? ⟨bb, off + t * 6 + 5, none⟩ = some (.slice ao1 XN cap1))) := fun V hV =>
                  ⟨hV, (hV.cell (p := ⟨bb, _, none⟩) hbb).trans d0, (hV.cell (p := ⟨bb, _, none⟩) hbb).trans d1, (hV.cell (p := ⟨bb, _, none⟩) hbb).trans d2, (hV.cell (p := ⟨bb, _, none⟩) hbb).trans d3, (hV.cell (p := ⟨bb, _, none⟩) hbb).trans d4, (hV.cell (p := ⟨bb, _, none⟩) hbb).trans d5⟩
                have HFA : Hid (∀ V, Below w.heap.size w V → V.cell? ⟨bb, off + J * 6, none⟩ = some (.int .i64 sl') ∧ V.cell? ⟨bb, off + J * 6 + 1, none⟩ = some (.bool np') ∧ V.cell? ⟨bb, off + J * 6 + 2, none⟩ = some (.string tk') ∧ V.cell? ⟨bb, off + J * 6 + 3, none⟩ = some (.string ct') ∧ V.cell? ⟨bb, off + J * 6 + 4, none⟩ = some (.int .i64 ep') ∧ V.cell? ⟨bb, off + J * 6 + 5, none⟩ = some (.slice ao2 ZN cap2)) := fun V hV =>
                  ⟨(hV.cell (p := ⟨bb, _, none⟩) hbb).trans f0, (hV.cell (p := ⟨bb, _, none⟩) hbb).trans f1, (hV.cell (p := ⟨bb, _, none⟩) hbb).trans f2, (hV.cell (p := ⟨bb, _, none⟩) hbb).trans f3, (hV.cell (p := ⟨bb, _, none⟩) hbb).trans f4, (hV.cell (p := ⟨bb, _, none⟩) hbb).trans f5⟩
                have HCH : Hid (∀ V, ScL wr V → Calls Try.prog 10 #[.pointer (some ⟨p, 0, none⟩), .int .i64 sl, .agg #[.bool np, .string tk, .string ct, .int .i64 ep, .slice ao1 XN cap1]] V fun e w' => (∃ c, e = .returned (.int .i64 c)) ∧ Hid (Order3m w p m p' m' xs K t w') ∧ Below w.heap.size w w') := fun V hV => by
                  have h1 := (HTW.out.below hV.out).a.choose (Nat.le_trans HBR.out.size hV.out.size) sl HOKX.out.is ⟨⟨np, tk, ct, ep, dp⟩, ao1, cap1⟩ (HOKX.out.en.below (bt' HBR.out hV.out))
                  simp only [EnM.val] at h1
                  rw [HXN.out] at h1
                  refine h1.mono ?_
                  rintro e w' ⟨rfl, hl', ht', hb'⟩
                  have hbf := (bt' HBR.out hV.out).trans hb'
                  exact ⟨⟨_, rfl⟩, ⟨_, h, (HTW.out.below hV.out).fst hl' ht', HSTEP.out, HCHh.out, hbf⟩, hbf⟩
                clear hlt htw hcg hch hbr HR hX hZ hr hJ hrn d0 d1 d2 d3 d4 d5 f0 f1 f2 f3 f4 f5 ht
                go_wp2
                go_region_held3 (fun V => Below w.heap.size w V ∧ V.cell? ⟨bb, off + t * 6, none⟩ = some (.int .i64 sl) ∧ V.cell? ⟨bb, off + t * 6 + 1, none⟩ = some (.bool np) ∧ V.cell? ⟨bb, off + t * 6 + 2, none⟩ = some (.string tk) ∧ V.cell? ⟨bb, off + t * 6 + 3, none⟩ = some (.string ct) ∧ V.cell? ⟨bb, off + t * 6 + 4, none⟩ = some (.int .i64 ep) ∧ V.cell? ⟨bb, off + t * 6 + 5, none⟩ = some (.slice ao1 XN cap1))
                  (first | (refine ⟨?_, ?_, ?_, ?_, ?_, ?_, ?_⟩ <;> assumption) | (refine HSA.out _ ?_; (repeat (first | assumption | exact HBR.out | apply Below.drew))))
                  (first
                    | (go_at_call 10; with_reducible refine (HCH.out _ (by (repeat (first | assumption | exact ScL.start _ | apply ScL.dr)))).mono ?_; rintro e w5 ⟨⟨c, rfl⟩, HG5, hb5⟩))
                all_goals
                  obtain ⟨g5, h5, htw5, hcg5, hch5, _⟩ := HG5.out
                  have HB5 := hid hb5
                  obtain ⟨e0, e1, e2, e3, e4, e5⟩ := HFA.out w5 hb5
                  have HTW5 := hid htw5
                  have HCG5 := hid hcg5
                  obtain ⟨W6, hW6⟩ : ∃ V, V = w5.alloc (.cells #[.int .i64 sl', .bool np', .string tk', .string ct', .int .i64 ep', .slice ao2 ZN cap2] 35) := ⟨_, rfl⟩
                  have hb6 : Below w5.heap.size w5 W6 := by rw [hW6]; exact (Below.refl _ _).alloc (Nat.le_refl _) _
                  have HCB := hid ((HTW5.out.below hb6).b.choose (Nat.le_trans HB5.out.size hb6.size) sl' HOKJ.out.is ⟨⟨np', tk', ct', ep', dp'⟩, ao2, cap2⟩ (HOKJ.out.en.below (bt' HB5.out hb6)))
                  simp only [EnM.val] at HCB
                  rw [HZN.out] at HCB
                  have HTW6 := hid (HTW5.out.below hb6)
                  have HB6 := hid (bt' HB5.out hb6)
                  have HW6 := hid hW6
                  have HH5 : Hid (Chose xs (turnS k K) (t + 1) (chooseL h5 sl' ⟨np', tk', ct', ep', dp'⟩)) := by
                    have := hch5.step HAP.out (by rw [HN.out]; exact H6.out) htx.out (fun t h => turnS_lt h) (fun t u h1 h2 h => turnS_inj (by rw [HN.out]; exact hltK) h1 h2 h)
                    rw [HN.out, HTJ.out, ← HZZ.out] at this
                    exact this
                  clear hb5 htw5 hcg5 hch5 hb6 hW6 HG5
                  go_wp2_with fail
                  rw [← HW6.out]
                  refine HCB.out.mono ?_
                  rintro e w7 ⟨rfl, hl7, ht7, hb7⟩
                  have HNX : Hid (Order3 w p m p' m' xs K (t + 1) w7) := ⟨_, _, HTW6.out.snd hl7 ht7, HCG5.out, by rw [HN.out]; exact HH5.out, HB6.out.trans hb7⟩
                  clear hl7 ht7 hb7
                  go_wp2
                  go_roundw
                  case rel => exact ⟨t + 1, HLT.out, by go_num, HNX⟩
                  case measure => have := HLT.out; simp [intOf]; omega
              · obtain rfl : t = k := by omega
                have hlt' : ¬ (t : Int) < (t : Int) := by omega
                obtain ⟨g, h, htw, hcg, hch, hbr⟩ := HR.out
                have hgh : g = h := by
                  rw [← HN.out] at hcg hch
                  refine hcg.same hch (fun u hu => ?_) (fun u hu => ⟨turnS xs.length K u, turnS_lt hu, rfl⟩)
                  exact turnS_onto (by rw [HN.out] at hu ⊢; exact HKK.out hu) hu
                subst hgh
                have HG4 : Hid (Order4 w p m p' m' g wr) := ⟨htw, hbr⟩
                clear htw hcg hch hbr HR ht hlt
                go_wp2
                go_loopw [12, 13, 14, 15, 16] (fun i _ _ _ _ wz => ∃ u : Nat, u ≤ t ∧ i = .int .i64 u ∧ Hid (Order4 w p m p' m' g wz)) (fun i _ _ _ _ _ => t - (intOf i).toNat)
                case atStart => exact ⟨0, Nat.zero_le _, rfl, HG4⟩
                case round =>
                  obtain ⟨u, hu, rfl, HR⟩ := hrel
                  have HTW := hid HR.out.1
                  have HBR := hid HR.out.2
                  obtain ⟨pa, za, hata⟩ := HTW.out.a.lr
                  obtain ⟨pb, zb, hatb⟩ := HTW.out.b.lr
                  have HATA := hid hata
                  have HATB := hid hatb
                  clear hata hatb HR
                  by_cases hlt : u < t
                  · have hlt2 : (u : Int) < (t : Int) := by omega
                    have HLT := hid hlt
                    have hux : Hid (u < xs.length) := (HN.out ▸ hlt : u < xs.length)
                    have HOKX := hid (HX.out.okD hux.out)
                    obtain ⟨bb, off, hao, hbb, d0, _⟩ := HX.out.cellsD hux.out
                    subst hao
                    obtain ⟨S0, HS0⟩ : ∃ z, Hid ((xs.getD u default).n = z) := ⟨_, hid rfl⟩
                    rw [HS0.out] at d0
                    have HD0 : Hid (∀ V, Below w.heap.size w V → V.cell? ⟨bb, off + u * 6, none⟩ = some (.int .i64 S0)) := fun V hV => (hV.cell (p := ⟨bb, _, none⟩) hbb).trans d0
                    have c0 := HD0.out wr HBR.out
                    have hi0 : I64 S0 := by rw [← HS0.out]; exact HOKX.out.is
                    have HGA := hid (HATA.out.get S0 hi0)
                    have HGB : Hid (∀ V, Below wr.heap.size wr V → Calls Try.prog 17 #[.pointer (some ⟨p', 0, none⟩), .int .i64 S0] V (GetP V (g.f S0))) := fun V hV => (HATB.out.below hV).get S0 hi0
                    obtain ⟨fx, hfx⟩ : ∃ f, f = g.f S0 := ⟨_, rfl⟩
                    rw [← hfx] at HGA HGB
                    obtain ⟨E, HE⟩ : ∃ E, Hid (fx.getD noopEn = E) := ⟨_, hid rfl⟩
                    obtain ⟨Q, HQ⟩ : ∃ E, Hid (fx.isSome = E) := ⟨_, hid rfl⟩
                    have hQ0 : (Q != Q) = false := by simp
                    clear hlt hfx d0 hi0 hu
                    go_wp2_with fail
                    refine HGA.out.mono ?_
                    rintro e w5 ⟨bo5, cp5, rfl, hv5, hb5⟩
                    rw [HE.out] at hv5 ⊢
                    rw [HQ.out]
                    have HV5 := hid hv5
                    have HB5 := hid hb5
                    clear hv5 hb5 c0 HGA
                    obtain ⟨np, tk, ct, ep, dp⟩ := E
                    obtain ⟨XN, HXN⟩ : ∃ m, Hid (dp.length = m) := ⟨_, hid rfl⟩
                    simp only [EnM.val]
                    rw [HXN.out]
                    obtain ⟨W6, hW6⟩ : ∃ V, V = w5.alloc (.cells #[.bool np, .string tk, .string ct, .int .i64 ep, .slice bo5 XN cp5] 33) := ⟨_, rfl⟩
                    have hb6 : Below w5.heap.size w5 W6 := by rw [hW6]; exact (Below.refl _ _).alloc (Nat.le_refl _) _
                    have HK6 : Hid (Blk W6 w5.heap.size 33 [.bool np, .string tk, .string ct, .int .i64 ep, .slice bo5 XN cp5]) := by rw [hW6]; exact Blk.new w5 _ _
                    have HB6 := hid (bt' HB5.out hb6)
                    have HV6 := hid (HV5.out.below hb6)
                    have c6 := HD0.out W6 (bt' HBR.out HB6.out)
                    rw [hW6] at c6
                    have HW6 := hid hW6
                    clear hW6 hb6
                    go_wp2_with fail
                    rw [← HW6.out]
                    refine (HGB.out W6 HB6.out).mono ?_
                    rintro e w7 ⟨bo7, cp7, rfl, hv7, hb7⟩
                    rw [HE.out] at hv7 ⊢
                    rw [HQ.out]
                    simp only [EnM.val]
                    rw [HXN.out]
                    obtain ⟨W8, hW8⟩ : ∃ V, V = w7.alloc (.cells #[.bool np, .string tk, .string ct, .int .i64 ep, .slice bo7 XN cp7] 33) := ⟨_, rfl⟩
                    have hb8 : Below w7.heap.size w7 W8 := by rw [hW8]; exact (Below.refl _ _).alloc (Nat.le_refl _) _
                    have hk8 := HK6.out.below (bt' hb7 hb8) HK6.out.lt
                    have HV8 := hid (HV6.out.below (bt' hb7 hb8))
                    have HV8' := hid (hv7.below hb8)
                    have HB8 := hid (bt' HB6.out (bt' hb7 hb8))
                    have HSE := hid (sameEntry_B W8 ⟨np, tk, ct, ep, dp⟩ bo5 bo7 cp5 cp7 HV8.out HV8'.out)
                    simp only [EnM.val] at HSE
                    rw [HXN.out] at HSE
                    rw [hW8] at hk8
                    have j0 := hk8.cell (i := 0) rfl
                    have j1 := hk8.cell (i := 1) rfl
                    have j2 := hk8.cell (i := 2) rfl
                    have j3 := hk8.cell (i := 3) rfl
                    have j4 := hk8.cell (i := 4) rfl
                    have HW8 := hid hW8
                    clear hv7 hb7 hb8 hk8 hW8 c6
                    go_wp2_with fail
                    rw [← HW8.out]
                    refine HSE.out.mono ?_
                    rintro e w9 ⟨rfl, hb9⟩
                    have HNX : Hid (Order4 w p m p' m' g w9) := ⟨HTW.out.below (bt' HB8.out hb9), bt' HBR.out (bt' HB8.out hb9)⟩
                    clear hb9 j0 j1 j2 j3 j4
                    go_wp2
                    go_roundw
                    case rel => exact ⟨u + 1, HLT.out, by go_num, HNX⟩
                    case measure => have := HLT.out; simp [intOf]; omega
                  · obtain rfl : u = t := by omega
                    have hlt2 : ¬ (u : Int) < (u : Int) := by omega
                    have hpp : pa = pb := HATA.out.isPre.unique HATB.out.isPre
                    have hzz : za = zb := HATA.out.end_eq HATB.out.fin
                    subst hpp hzz
                    have HPA := hid HATA.out.toLrMid.prefix
                    have HPB := hid HATB.out.toLrMid.prefix
                    have HEA := hid HATA.out.extras
                    have HEB : Hid (∀ V, Below wr.heap.size wr V → Calls Try.prog 19 #[.pointer (some ⟨p', 0, none⟩)] V (RowP V (extraL g.ks pa))) := fun V hV => (HATB.out.below hV).extras
                    have HMA : Hid (∀ V, Below wr.heap.size wr V → Calls Try.prog 20 #[.pointer (some ⟨p, 0, none⟩), .int .i64 50] V (RowP V (missL g.ks pa za 50))) := fun V hV => (HATA.out.below hV).missing 50
                    have HMB : Hid (∀ V, Below wr.heap.size wr V → Calls Try.prog 20 #[.pointer (some ⟨p', 0, none⟩), .int .i64 50] V (RowP V (missL g.ks pa za 50))) := fun V hV => (HATB.out.below hV).missing 50
                    have HLA : Hid (∀ V, Below wr.heap.size wr V → Calls Try.prog 21 #[.pointer (some ⟨p, 0, none⟩)] V fun e w' => e = .returned (.int .i64 g.ks.length) ∧ w' = V) := fun V hV => (HATA.out.toLrMid.below hV).len
                    have HLB : Hid (∀ V, Below wr.heap.size wr V → Calls Try.prog 21 #[.pointer (some ⟨p', 0, none⟩)] V fun e w' => e = .returned (.int .i64 g.ks.length) ∧ w' = V) := fun V hV => (HATB.out.toLrMid.below hV).len
                    obtain ⟨EX, hEX⟩ : ∃ l, l = extraL g.ks pa := ⟨_, rfl⟩
                    obtain ⟨MI, hMI⟩ : ∃ l, l = missL g.ks pa za 50 := ⟨_, rfl⟩
                    rw [← hEX] at HEA HEB
                    rw [← hMI] at HMA HMB
                    clear hEX hMI hlt hu
                    obtain ⟨EN, HEN⟩ : ∃ m, Hid (EX.length = m) := ⟨_, hid rfl⟩
                    obtain ⟨MN, HMN⟩ : ∃ m, Hid (MI.length = m) := ⟨_, hid rfl⟩
                    go_wp2_with fail
                    refine HPA.out.mono ?_
                    rintro e w5 ⟨rfl, hw5⟩
                    rw [hw5]
                    clear hw5 w5
                    go_wp2_with fail
                    refine HPB.out.mono ?_
                    rintro e w5 ⟨rfl, hw5⟩
                    rw [hw5]
                    clear hw5 w5
                    go_wp2_with fail
                    refine HEA.out.mono ?_
                    rintro e w6 ⟨ea, ca, rfl, hva, _, hb6⟩
                    rw [HEN.out]
                    have HVA := hid hva
                    have HB6 := hid hb6
                    clear hva hb6
                    go_wp2_with fail
                    refine (HEB.out _ HB6.out).mono ?_
                    rintro e w7 ⟨eb, cb, rfl, hvb, _, hb7⟩
                    rw [HEN.out]
                    have HSI := hid (sameIntsR w7 ea eb ca cb EX EX EN EN HEN.out HEN.out (HVA.out.below hb7) hvb)
                    rw [decide_eq_true rfl] at HSI
                    have HB7 := hid (bt' HB6.out hb7)
                    clear hvb hb7
                    go_wp2_with fail
                    refine HSI.out.mono ?_
                    rintro e w8 ⟨rfl, q8, hq8⟩
                    have HB8 : Hid (Below wr.heap.size wr w8) := by rw [hq8]; exact below_dn HB7.out q8
                    clear hq8
                    go_wp2_with fail
                    refine (HMA.out _ HB8.out).mono ?_
                    rintro e w9 ⟨ea9, ca9, rfl, hva9, _, hb9⟩
                    rw [HMN.out]
                    have HVA9 := hid hva9
                    have HB9 := hid (bt' HB8.out hb9)
                    clear hva9 hb9
                    go_wp2_with fail
                    refine (HMB.out _ HB9.out).mono ?_
                    rintro e w10 ⟨eb9, cb9, rfl, hvb9, _, hb10⟩
                    rw [HMN.out]
                    have HSI2 := hid (sameIntsR w10 ea9 eb9 ca9 cb9 MI MI MN MN HMN.out HMN.out (HVA9.out.below hb10) hvb9)
                    rw [decide_eq_true rfl] at HSI2
                    have HB10 := hid (bt' HB9.out hb10)
                    clear hvb9 hb10
                    go_wp2_with fail
                    refine HSI2.out.mono ?_
                    rintro e w11 ⟨rfl, q11, hq11⟩
                    have HB11 : Hid (Below wr.heap.size wr w11) := by rw [hq11]; exact below_dn HB10.out q11
                    clear hq11
                    go_wp2_with fail
                    refine (HLA.out _ HB11.out).mono ?_
                    rintro e w12 ⟨rfl, rfl⟩
                    go_wp2_with fail
                    refine (HLB.out _ HB11.out).mono ?_
                    rintro e w12 ⟨rfl, rfl⟩
                    go_wp2
                    go_ret
                    exact ⟨rfl, bt' HBR.out HB11.out⟩

end Go.Proofs.Ytkphdcdjmjjojaa
