/-
  pannierlaw10.OplogWaits answers true for any events.
-/
import Derived.Test.YtfeoolknpcffcaaLogN
namespace Go.Proofs.Ytfeoolknpcffcaa
open Go.RowKit Go.Maps

/-- A dot of a row of dots. -/
theorem row_dot {B : Nat} {w : World} {v : Value} {ss : List (Int × Int)} (h : w.ownsRow B 31 2 v ss.length (flatD ss)) {k : Nat} (hk : k < ss.length) : ∃ g cap, v = .slice (some ⟨g, 0, none⟩) ss.length cap ∧ g < w.heap.size ∧ w.cell? ⟨g, k * 2, none⟩ = some (.int .i64 ss[k].1) ∧ w.cell? ⟨g, k * 2 + 1, none⟩ = some (.int .i64 ss[k].2) := by
  obtain ⟨eo, cap, rfl, _, hc⟩ := own_form8 h
  obtain ⟨g, rfl, _, hg, hcell⟩ := hc (by omega)
  have hf : ∀ (l : List (Int × Int)) (j : Nat) (hj : j < l.length), (flatD l)[j * 2]? = some (.int .i64 l[j].1) ∧ (flatD l)[j * 2 + 1]? = some (.int .i64 l[j].2) := by
    intro l
    induction l with
    | nil => intro j hj; cases hj
    | cons d r ih =>
      intro j hj
      cases j with
      | zero => exact ⟨rfl, rfl⟩
      | succ j =>
        have := ih j (by simpa using hj)
        unfold flatD at this ⊢
        rw [List.flatMap_cons, show (j + 1) * 2 = j * 2 + 1 + 1 by omega]
        exact this
  exact ⟨g, cap, rfl, hg, hcell _ _ (hf ss k hk).1, hcell _ _ (hf ss k hk).2⟩
/-- What a round of puts keeps. -/
structure PutS (w w2 : World) (p me mw : Nat) (l : List Ev) (wr : World) : Prop where
  log : ∃ g, LogAt wr p me mw g ∧ KnownG l g
  turn : Turns (FootL p me mw) w2 wr
/-- The waiting dots that were told, and the vector. -/
structure Seen (w4 : World) (g : Lg) (v5 : Value) (ss : List (Int × Int)) (bo : Option Addr) (cp : Nat) : Prop where
  waits : WaitsOf g ss
  row : w4.ownsRow 0 31 2 v5 ss.length (flatD ss)
  vec : HV w4 bo cp (plainOf g.A)
set_option maxRecDepth 1000000 in
set_option maxHeartbeats 8000000 in
theorem oplogWaits_walk (ao : Option Addr) (ca : Nat) (xs : List EvM) (w : World) (hx : HeldE w ao xs) (hl0 : xs.length ≤ 1466015503701) :
    Calls Try.prog 7 #[.slice ao xs.length ca] w fun e w' => e = .returned (.bool true) ∧ Below w.heap.size w w' := by
  obtain ⟨n, HN⟩ : ∃ n, Hid (xs.length = n) := ⟨_, hid rfl⟩
  rw [HN.out] at hl0 ⊢
  have HX := hid hx
  clear hx
  go_enter Try.func7, Try.ntmps7
  go_wp2_with fail
  refine (newL_any w).mono ?_
  rintro e w1 ⟨p, me, mw, rfl, hl, hf, hb⟩
  have HL1 := hid hl
  have HF1 := hid hf
  have HB1 := hid hb
  clear hl hf hb
  go_wp2_with fail
  refine (lives10_any w1).mono ?_
  rintro e w2 ⟨rfl, hb⟩
  have HL2 := hid (HL1.out.below hb)
  have HB2 := hid (bt HB1.out hb)
  clear hb
  by_cases h3 : 3000 < n
  · have h3' : (3000 : Int) < (n : Int) := by omega
    clear h3
    go_wp2
    go_ret
    exact ⟨rfl, HB2.out⟩
  have h3' : ¬ (3000 : Int) < (n : Int) := by omega
  have H3 : Hid (n ≤ 3000) := by show _ ≤ _; omega
  have HPO : Hid (∀ i, FootL p me mw i → w.heap.size ≤ i) := HF1.out
  have HXS : Hid (∀ V, Turns (FootL p me mw) w2 V → HeldE V ao xs) := fun V hV => HX.out.below (HB2.out.trans (hV.below HPO.out HB2.out.size))
  have HBF : Hid (∀ V, Turns (FootL p me mw) w2 V → Below w.heap.size w V) := fun V hV => HB2.out.trans (hV.below HPO.out HB2.out.size)
  clear h3
  go_wp2
  go_loopw [4, 5, 6, 7, 8] (fun i _ _ _ _ wr => ∃ k : Nat, k ≤ n ∧ i = .int .i64 k ∧ Hid (PutS w w2 p me mw ((xs.take k).map (·.e)) wr)) (fun i _ _ _ _ _ => n - (intOf i).toNat)
  case atStart => exact ⟨0, Nat.zero_le _, rfl, ⟨emptyLg, HL2.out, KnownG.start⟩, Turns.refl _ _⟩
  case round =>
    obtain ⟨i, hi, rfl, HR⟩ := hrel
    by_cases hlt : i < n
    rotate_left 1
    · have hlt' : ¬ (i : Int) < (n : Int) := by omega
      have HB9 := hid (HBF.out _ HR.out.turn)
      go_wp2
      go_ret
      exact ⟨rfl, HB9.out⟩
    have hlt' : (i : Int) < (n : Int) := by omega
    have hkx : Hid (i < xs.length) := (by rw [HN.out]; exact hlt : i < xs.length)
    have HKM : Hid (i + 1 ≤ n) := (by omega : i + 1 ≤ n)
    obtain ⟨g0, hlog0, hkn0⟩ := HR.out.log
    obtain ⟨bb, off, hao, hbb, c0, c1, c2, c3, c4, c5, c6, c7⟩ := (HXS.out _ HR.out.turn).at hkx.out
    have HOX := hid ((HXS.out _ HR.out.turn).1 _ (List.getElem_mem hkx.out))
    have HPU := hid (put_any hlog0 (xs[i]'hkx.out) HOX.out)
    have HTK : Hid ((xs.take (i + 1)).map (·.e) = (xs.take i).map (·.e) ++ [(xs[i]'hkx.out).e]) := by
      show _ = _
      rw [List.take_succ_eq_append_getElem hkx.out, List.map_append]
      rfl
    have HLK : Hid (∀ e w', PutP wr p me mw g0 (xs[i]'hkx.out).e e w' → ∃ v c g', e = .returned (.tuple #[v, .int .i64 c]) ∧ KnownG ((xs.take (i + 1)).map (·.e)) g' ∧ AtG wr p me mw g' w') := fun e w' hp => by
      rw [HTK.out]
      exact hkn0.put (by rw [List.length_map, List.length_take]; have := H3.out; omega) hlog0 hp
    subst hao
    obtain ⟨X, HXX⟩ : ∃ X, Hid (xs[i]'hkx.out = X) := ⟨_, hid rfl⟩
    rw [HXX.out] at c0 c1 c2 c3 c4 c5 c6 c7 HPU HLK
    obtain ⟨⟨o1, s1, dp, ct, ep, sk, qt, cl⟩, ao1, cap1⟩ := X
    obtain ⟨XN, HXN⟩ : ∃ m, Hid (dp.length = m) := ⟨_, hid rfl⟩
    simp only [EvM.val] at c0 c1 c2 c3 c4 c5 c6 c7 HPU
    rw [HXN.out] at c2 HPU
    clear hlog0 hkn0 hbb
    go_wp2_with fail
    refine HPU.out.mono ?_
    intro e w3 hp3
    obtain ⟨v3, cc3, g, rfl, hkn, hlog, ht3⟩ := HLK.out _ _ hp3
    have HKN := hid hkn
    have HLG := hid hlog
    have HT3 : Hid (Turns (FootL p me mw) w2 w3) := HR.out.turn.trans ht3 (fun i hi => .inl hi)
    clear hp3 hkn hlog ht3 HPU HLK c0 c1 c2 c3 c4 c5 c6 c7
    have HWT := hid (waiting_any HLG.out)
    go_wp2_with fail
    refine HWT.out.mono ?_
    rintro e w4 ⟨v4, ss, rfl, hss, hsl, hrow, hb4⟩
    have HB4 := hid hb4
    have HSS := hid hss
    have HSL := hid hsl
    have HROW := hid (own_mono hrow (Nat.zero_le _))
    have HL4 := hid (HLG.out.below hb4)
    clear hss hsl hrow hb4 HWT
    have HAP := hid (applied_any HL4.out)
    go_wp2_with fail
    refine HAP.out.mono ?_
    rintro e w5 ⟨bo, cp, rfl, hv5, hb5⟩
    have HB5 := hid hb5
    have HV5 := hid hv5
    have HL5 := hid (HL4.out.below hb5)
    have HT5 : Hid (Turns (FootL p me mw) w2 w5) := HT3.out.trans (Turns.of_below (F := fun _ => False) (bt HB4.out hb5) (Nat.le_refl _)) (fun _ h => h.elim)
    have HROW5 : Hid (w5.ownsRow 0 31 2 v4 ss.length (flatD ss)) := (Turns.of_below (F := fun _ => False) hb5 (Nat.le_refl _)).row HROW.out (fun _ _ h => h)
    obtain ⟨PL, HPL⟩ : ∃ m, Hid ((plainOf g.A).length = m) := ⟨_, hid rfl⟩
    rw [HPL.out]
    obtain ⟨m, HM⟩ : ∃ m, Hid (ss.length = m) := ⟨_, hid rfl⟩
    obtain ⟨vo, vc, hv4⟩ := own_slice' HROW.out
    rw [HM.out] at hv4
    subst hv4
    have hm4 : m ≤ 4096 := by have := HSL.out; have := HM.out; omega
    clear hv5 hb5 HAP HROW
    go_wp2
    go_loopw [7, 8] (fun k _ wr => ∃ j : Nat, j ≤ m ∧ k = .int .i64 j ∧ Hid (Below w5.heap.size w5 wr)) (fun k _ _ => m - (intOf k).toNat)
    case atStart => exact ⟨0, Nat.zero_le _, rfl, Below.refl _ _⟩
    case round =>
      obtain ⟨j, hj, rfl, HRJ⟩ := hrel
      by_cases hjm : j < m
      rotate_left 1
      · have hjm' : ¬ (j : Int) < (m : Int) := by omega
        have HTE : Hid (Turns (FootL p me mw) w2 wr) := HT5.out.trans (Turns.of_below (F := fun _ => False) HRJ.out (Nat.le_refl _)) (fun _ h => h.elim)
        have HLE := hid (HL5.out.below HRJ.out)
        go_wp2
        go_roundw
        case rel => exact ⟨i + 1, HKM.out, by go_num, ⟨g, HLE.out, HKN.out⟩, HTE.out⟩
        case measure => simp [intOf]; have := HKM.out; omega
      have hjm' : (j : Int) < (m : Int) := by omega
      have HJM : Hid (j + 1 ≤ m) := (by omega : j + 1 ≤ m)
      have hjs : Hid (j < ss.length) := (by rw [HM.out]; exact hjm : j < ss.length)
      have hrowj : wr.ownsRow 0 31 2 (.slice vo m vc) ss.length (flatD ss) := (Turns.of_below (F := fun _ => False) HRJ.out (Nat.le_refl _)).row HROW5.out (fun _ _ h => h)
      obtain ⟨gd, capd, he, hgd, d0, d1⟩ := row_dot hrowj hjs.out
      injection he with he1 he2 he3
      clear he2 he3
      subst he1
      obtain ⟨⟨o, s⟩, HDD⟩ : ∃ d, Hid (ss[j]'hjs.out = d) := ⟨_, hid rfl⟩
      rw [HDD.out] at d0 d1
      dsimp only at d0 d1
      have hys : (g.W o s).isSome = true := (HSS.out.2.1 o s).1 (by rw [← HDD.out]; exact List.getElem_mem hjs.out)
      obtain ⟨y, hy⟩ := Option.isSome_iff_exists.1 hys
      have HY := hid hy
      have HNH : Hid (decide (HasV (plainOf g.A) o s) = false) := decide_eq_false (fun h => (HL5.out.wait o s y hy).2 ((hasV_plainOf g.A o s).1 h))
      have HFM : Hid (firstM ((xs.take (i + 1)).map (·.e)) o s = some y.e) := HKN.out.first o s y hy
      have HNR : Hid (¬ ReadyE g.A y.e) := by
        rcases HKN.out.stuck with h1 | h1
        · have h2 := HKN.out.few
          rw [List.length_map, List.length_take] at h2
          have := H3.out
          exact absurd h1 (by omega)
        · exact h1 o s y hy
      have HHA := hid (has_any wr bo cp (plainOf g.A) PL HPL.out (HV5.out.below HRJ.out) o s)
      rw [HNH.out] at HHA
      have HGD := hid hgd
      have HD0 := hid d0
      have HD1 := hid d1
      clear hrowj hgd hys hy
      go_wp2_with fail
      refine HHA.out.mono ?_
      rintro e w6 ⟨rfl, hb6⟩
      have HB6 : Hid (Below w5.heap.size w5 w6) := bt HRJ.out hb6
      have HD06 : Hid (w6.cell? ⟨gd, j * 2, none⟩ = some (.int .i64 o)) := (hb6.cell (p := ⟨gd, j * 2, none⟩) HGD.out).trans HD0.out
      have HD16 : Hid (w6.cell? ⟨gd, j * 2 + 1, none⟩ = some (.int .i64 s)) := (hb6.cell (p := ⟨gd, j * 2 + 1, none⟩) HGD.out).trans HD1.out
      have HG6 : Hid (gd < w6.heap.size) := Nat.lt_of_lt_of_le HGD.out hb6.size
      clear hb6 HHA d0 d1
      go_wp2
      go_loopw [8] (fun x wr => ∃ q : Nat, q ≤ i + 1 ∧ x = .int .i64 q ∧ Hid (Below w6.heap.size w6 wr ∧ ∀ t (ht : t < xs.length), t < q → ¬ ((xs[t].e.o = o ∧ xs[t].e.s = s) ∧ MayE xs[t].e))) (fun x _ => i + 1 - (intOf x).toNat)
      case atStart => exact ⟨0, Nat.zero_le _, rfl, Below.refl _ _, fun t _ ht => absurd ht (Nat.not_lt_zero _)⟩
      case round =>
        obtain ⟨q, hq, rfl, HRQ⟩ := hrel
        have HBq : Hid (Below w5.heap.size w5 wr) := bt HB6.out HRQ.out.1
        by_cases hqi : q ≤ i
        rotate_left 1
        · have hqi' : ¬ (q : Int) ≤ (i : Int) := by omega
          go_wp2
          go_roundw
          case rel => exact ⟨j + 1, HJM.out, by go_num, HBq.out⟩
          case measure => simp [intOf]; have := HJM.out; omega
        have hqi' : (q : Int) ≤ (i : Int) := by omega
        have hqn : (q : Int) < (n : Int) := by omega
        have hqx : Hid (q < xs.length) := (by rw [HN.out]; omega : q < xs.length)
        have HQM : Hid (q + 1 ≤ i + 1) := (by omega : q + 1 ≤ i + 1)
        have HTq : Hid (Turns (FootL p me mw) w2 wr) := HT5.out.trans (Turns.of_below (F := fun _ => False) HBq.out (Nat.le_refl _)) (fun _ h => h.elim)
        obtain ⟨bb2, off2, hao2, hbb2, c0, c1, c2, c3, c4, c5, c6, c7⟩ := (HXS.out _ HTq.out).at hqx.out
        cases hao2
        have HOX2 := hid ((HXS.out _ HTq.out).1 _ (List.getElem_mem hqx.out))
        have HNX : Hid (¬ (((xs[q]'hqx.out).e.o = o ∧ (xs[q]'hqx.out).e.s = s) ∧ MayE (xs[q]'hqx.out).e) → ∀ t (ht : t < xs.length), t < q + 1 → ¬ ((xs[t].e.o = o ∧ xs[t].e.s = s) ∧ MayE xs[t].e)) := fun hn t ht htq => by
          by_cases e : t = q
          · subst e
            exact hn
          · exact HRQ.out.2 t ht (by omega)
        have HHIT : Hid (((xs[q]'hqx.out).e.o = o ∧ (xs[q]'hqx.out).e.s = s) ∧ MayE (xs[q]'hqx.out).e → (xs[q]'hqx.out).e = y.e) := fun hh => by
          have hl9 : q < ((xs.take (i + 1)).map (·.e)).length := by rw [List.length_map, List.length_take]; have := hqx.out; omega
          have h1 := firstM_at (l := (xs.take (i + 1)).map (·.e)) (o := o) (s := s) hl9 (fun t ht htq => by
            have ht' : t < xs.length := by rw [List.length_map, List.length_take] at ht; omega
            have := HRQ.out.2 t ht' htq
            simpa [List.getElem_take] using this) (by simpa [List.getElem_take] using hh)
          rw [HFM.out] at h1
          have h2 := Option.some.inj h1
          rw [h2]
          simp [List.getElem_take]
        obtain ⟨X, HXX2⟩ : ∃ X, Hid (xs[q]'hqx.out = X) := ⟨_, hid rfl⟩
        rw [HXX2.out] at c0 c1 c2 c3 c4 c5 c6 c7 HOX2 HNX HHIT
        have HMA := hid (fun Z : Beyond wr => beyond_call Z (mayL_any Z.now X (HOX2.out.below Z.is)))
        have HBLW := hid (fun Z : Beyond wr => beyond_same Z (below_any Z.now X.ao bo X.cap cp X.e.deps (plainOf g.A) X.e.deps.length PL rfl HPL.out (HOX2.out.below Z.is).deps ((HV5.out.below HBq.out).below Z.is)))
        have HOFW := hid (fun Z : Beyond wr => beyond_same Z (of_any Z.now bo cp (plainOf g.A) PL HPL.out o ((HV5.out.below HBq.out).below Z.is).held))
        obtain ⟨⟨o2, s2, dp2, ct2, ep2, sk2, qt2, cl2⟩, ao2, cap2⟩ := X
        obtain ⟨XM, HXM⟩ : ∃ m, Hid (dp2.length = m) := ⟨_, hid rfl⟩
        simp only [EvM.val] at c0 c1 c2 c3 c4 c5 c6 c7 HMA HBLW HNX HHIT
        rw [HXM.out] at c2 HMA HBLW
        have e0 := fun Z : Beyond wr => Z.cell c0 hbb2
        have e1 := fun Z : Beyond wr => Z.cell c1 hbb2
        have e2 := fun Z : Beyond wr => Z.cell c2 hbb2
        have e3 := fun Z : Beyond wr => Z.cell c3 hbb2
        have e4 := fun Z : Beyond wr => Z.cell c4 hbb2
        have e5 := fun Z : Beyond wr => Z.cell c5 hbb2
        have e6 := fun Z : Beyond wr => Z.cell c6 hbb2
        have e7 := fun Z : Beyond wr => Z.cell c7 hbb2
        have hgw : gd < wr.heap.size := Nat.lt_of_lt_of_le HG6.out HRQ.out.1.size
        have k0 := fun Z : Beyond wr => Z.cell ((HRQ.out.1.cell (p := ⟨gd, j * 2, none⟩) HG6.out).trans HD06.out) hgw
        have k1 := fun Z : Beyond wr => Z.cell ((HRQ.out.1.cell (p := ⟨gd, j * 2 + 1, none⟩) HG6.out).trans HD16.out) hgw
        clear c0 c1 c2 c3 c4 c5 c6 c7 hbb2 hgw
        by_cases ho : o2 = o
        rotate_left 1
        · have HCN := hid (HNX.out (fun h => ho h.1.1))
          go_wp2
          refine wp_region_beyond wr (by kernel_rfl) (by kernel_rfl) (Below.refl _ _) ?_
          repeat (go_big_quiet_step (fail))
          refine wpQuiet_nil ?_
          rintro _ ⟨Z, rfl⟩
          have HBZ := hid (bt HRQ.out.1 Z.is)
          clear e0 e1 e2 e3 e4 e5 e6 e7 k0 k1
          go_wp2
          go_roundw
          case rel => exact ⟨q + 1, HQM.out, by go_num, HBZ.out, HCN.out⟩
          case measure => simp [intOf]; have := HQM.out; omega
        subst ho
        by_cases hs : s2 = s
        rotate_left 1
        · have HCN := hid (HNX.out (fun h => hs h.1.2))
          go_wp2
          refine wp_region_beyond wr (by kernel_rfl) (by kernel_rfl) (Below.refl _ _) ?_
          repeat (go_big_quiet_step (fail))
          refine wpQuiet_nil ?_
          rintro _ ⟨Z, rfl⟩
          have HBZ := hid (bt HRQ.out.1 Z.is)
          clear e0 e1 e2 e3 e4 e5 e6 e7 k0 k1
          go_wp2
          go_roundw
          case rel => exact ⟨q + 1, HQM.out, by go_num, HBZ.out, HCN.out⟩
          case measure => simp [intOf]; have := HQM.out; omega
        subst hs
        by_cases hm : MayE ⟨o2, s2, dp2, ct2, ep2, sk2, qt2, cl2⟩
        rotate_left 1
        · have HCN := hid (HNX.out (fun h => hm h.2))
          rw [decide_eq_false hm] at HMA
          go_wp2
          refine wp_region_beyond wr (by kernel_rfl) (by kernel_rfl) (Below.refl _ _) ?_
          repeat (go_big_quiet_step (first | (go_at_call 24; exact HMA.out _)))
          refine wpQuiet_nil ?_
          rintro _ ⟨Z, rfl⟩
          have HBZ := hid (bt HRQ.out.1 Z.is)
          clear e0 e1 e2 e3 e4 e5 e6 e7 k0 k1
          go_wp2
          go_roundw
          case rel => exact ⟨q + 1, HQM.out, by go_num, HBZ.out, HCN.out⟩
          case measure => simp [intOf]; have := HQM.out; omega
        have hye := HHIT.out ⟨⟨rfl, rfl⟩, hm⟩
        rw [decide_eq_true hm] at HMA
        have HNR2 : Hid (¬ (s2 = ofV (plainOf g.A) o2 + 1 ∧ BelowV dp2 (plainOf g.A))) := fun hh => HNR.out (by
          rw [← hye]
          exact ⟨by rw [← ofV_plainOf]; exact hh.1, (belowV_plainOf dp2 g.A).1 hh.2⟩)
        have hzr := ofV_may HL5.out.may o2
        rw [← ofV_plainOf] at hzr
        obtain ⟨z, HZ⟩ : ∃ z, Hid (ofV (plainOf g.A) o2 = z) := ⟨_, hid rfl⟩
        obtain ⟨b, HBB⟩ : ∃ z, Hid (decide (BelowV dp2 (plainOf g.A)) = z) := ⟨_, hid rfl⟩
        rw [HZ.out] at HOFW hzr HNR2
        rw [HBB.out] at HBLW
        have hadd : IntKind.i64.wrap (z + 1) = z + 1 := by rw [IntKind.wrap_i64]; omega
        clear hm hzr
        go_wp2
        refine wp_region_beyond wr (by kernel_rfl) (by kernel_rfl) (Below.refl _ _) ?_
        repeat (go_big_quiet_step (first | (go_at_call 24; exact HMA.out _)))
        refine wpQuiet_nil ?_
        rintro _ ⟨Z, rfl⟩
        have HBZ : Hid (Below w5.heap.size w5 Z.now) := bt HBq.out Z.is
        by_cases hsz : s2 = z + 1
        · have hbf : b = false := by
            rw [← HBB.out]
            exact decide_eq_false (fun h => HNR2.out ⟨hsz, h⟩)
          subst hbf
          subst hsz
          go_wp2
          refine wp_region_beyond wr (by kernel_rfl) (by kernel_rfl) Z.is ?_
          repeat (go_big_quiet_step (first | (go_at_call 12; exact HOFW.out _) | (go_at_call 11; exact HBLW.out _)))
          refine wpQuiet_nil ?_
          rintro _ ⟨Z2, rfl⟩
          have HBZ2 : Hid (Below w5.heap.size w5 Z2.now) := bt HBq.out Z2.is
          clear e0 e1 e2 e3 e4 e5 e6 e7 k0 k1
          go_wp2
          go_roundw
          case rel => exact ⟨j + 1, HJM.out, by go_num, HBZ2.out⟩
          case measure => simp [intOf]; have := HJM.out; omega
        · have hse : (s2 == z + 1) = false := by simpa using hsz
          go_wp2
          refine wp_region_beyond wr (by kernel_rfl) (by kernel_rfl) Z.is ?_
          repeat (go_big_quiet_step (first | (go_at_call 12; exact HOFW.out _) | (go_at_call 11; exact HBLW.out _)))
          refine wpQuiet_nil ?_
          rintro _ ⟨Z2, rfl⟩
          have HBZ2 : Hid (Below w5.heap.size w5 Z2.now) := bt HBq.out Z2.is
          clear e0 e1 e2 e3 e4 e5 e6 e7 k0 k1
          go_wp2
          go_roundw
          case rel => exact ⟨j + 1, HJM.out, by go_num, HBZ2.out⟩
          case measure => simp [intOf]; have := HJM.out; omega
end Go.Proofs.Ytfeoolknpcffcaa
