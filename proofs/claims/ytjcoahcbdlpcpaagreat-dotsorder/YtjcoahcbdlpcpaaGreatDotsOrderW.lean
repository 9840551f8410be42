/-
  DotsOrder: the walk.
-/
import Derived.Test.YtjcoahcbdlpcpaaGreatDoA
import Derived.Test.YtjcoahcbdlpcpaaGreatDotsL
import Derived.Deep.CutRange
namespace Go.Proofs.YtjcoahcbdlpcpaaGreat
open Go.RowKit Go.Shelf Go.Maps
attribute [local go_sem] Oper.semAt_some

/-- What 'by % n' comes to. -/
def RemO (n : Nat) (T : Int) : Prop := -(n : Int) ≤ T ∧ T < (n : Int) ∨ (n = 0 ∧ T = 0)
theorem remO_mod (by_ : Int) {n : Nat} (hn : 0 < n) : RemO n (by_.tmod (n : Int)) := by
  left
  have h1 := Int.tmod_lt_of_pos by_ (show (0 : Int) < (n : Int) by omega)
  have h2 := Int.lt_tmod_of_pos by_ (show (0 : Int) < (n : Int) by omega)
  omega
def PlaceO (n K : Nat) : Prop := K < n ∨ n = 0
/-- What stands while n is counted. -/
structure CntO (Rw : World) (ib : Nat) (pre : List In.It) (W : World) : Prop where
  box : Boxed W ib 3 (.int .i64 (pre.length : Int))
  bel : Below ib Rw W
  size : Rw.heap.size ≤ W.heap.size
theorem cntO_own (Rw : World) (ib : Nat) (hB : ib ≤ Rw.heap.size) : OwnFrom Rw.heap.size (CntO Rw ib) := fun _ _ _ _ ⟨h1, h2, h3⟩ hg hr =>
  ⟨box_own h1 hg (fun r e => (hr r e).2), h2.grown hg (Nat.le_trans hB h2.size) (fun k e => Nat.le_trans hB (hr k e).1), Nat.le_trans h3 hg.size⟩
theorem CntO.set {Rw W : World} {ib : Nat} {pre : List In.It} (h : CntO Rw ib pre W) (x : In.It) (u : Int) (hu : u = (pre.length : Int) + 1) : CntO Rw ib (pre ++ [x]) (W.setCell ⟨ib, 0, none⟩ (.int .i64 u)) := by
  subst hu
  refine ⟨?_, h.bel.setCell (p := ⟨ib, 0, none⟩) (Nat.le_refl _) _, by simpa using h.size⟩
  have := h.box.set (.int .i64 ((pre.length : Int) + 1))
  simpa using this
theorem Boxed.underO {w w' : World} {q : Nat} {t : TypeId} {u : Value} (hb : Below w.heap.size w w') (h : Boxed w q t u) : Boxed w' q t u := (hb.block _ h.lt).trans h
/-- A world behind another one. -/
structure ScO (W V : World) : Prop where
  out : Below W.heap.size W V
theorem ScO.start (W : World) : ScO W W := ⟨Below.refl _ _⟩
theorem ScO.go {W V U : World} (h : ScO W V) (hb : Below V.heap.size V U) : ScO W U := ⟨bt h.out hb⟩
theorem ScO.dr {W V : World} (h : ScO W V) : ScO W V.drew := ⟨below_dn h.out 1⟩
/-- The extras that a call told. -/
structure ExR (W V : World) (D : DataW Value) (eo : Option Addr) (k cap : Nat) (ss : List (Int × Int)) : Prop where
  srt : SortedK D ss
  len : ss.length = k
  le : ss.length ≤ Maps.size D
  row : ∃ B, V.ownsRow B 31 2 (.slice eo k cap) ss.length (flatD ss)
  sc : ScO W V
  few : k ≤ 65536
theorem ExR.below {W V U : World} {D : DataW Value} {eo : Option Addr} {k cap : Nat} {ss : List (Int × Int)} (h : ExR W V D eo k cap ss) (hb : Below V.heap.size V U) : ExR W U D eo k cap ss := by
  obtain ⟨B, h1⟩ := h.row
  exact ⟨h.srt, h.len, h.le, ⟨B, (Turns.of_below (F := fun _ => False) hb (Nat.le_refl _)).row h1 (fun _ _ h => h)⟩, h.sc.go hb, h.few⟩
def ExA (W V : World) (D : DataW Value) (e : Ending) (w' : World) : Prop := ∃ eo k cap ss, e = .returned (.slice eo k cap) ∧ ExR W w' D eo k cap ss ∧ Below V.heap.size V w'
theorem exA_of {W V : World} (hW : ScO W V) {D : DataW Value} (hD : Maps.size D ≤ 65536) {e : Ending} {w' : World} (h : AnsX V D e w') : ExA W V D e w' := by
  obtain ⟨v, ss, rfl, h1, h2, h3, h4⟩ := h
  obtain ⟨eo, cap, rfl⟩ := own_slice h3
  exact ⟨eo, ss.length, cap, ss, rfl, ⟨h1, rfl, h2, ⟨_, h3⟩, hW.go h4, Nat.le_trans h2 hD⟩, h4⟩
def VcA (W V : World) (v : List Int) (k : Nat) (e : Ending) (w' : World) : Prop := ∃ bo cp, e = .returned (.slice bo k cp) ∧ HV w' bo cp v ∧ Below V.heap.size V w' ∧ ScO W w'
theorem vcA_of {W V : World} (hW : ScO W V) {v : List Int} {k : Nat} (hk : v.length = k) {e : Ending} {w' : World} (h : AnsV V v e w') : VcA W V v k e w' := by
  obtain ⟨bo, cp, rfl, h1, h2⟩ := h
  rw [hk]
  exact ⟨bo, cp, rfl, h1, h2, hW.go h2⟩
set_option maxRecDepth 1000000 in
set_option maxHeartbeats 4000000 in
theorem dotsOrder_walk (lo : Option Addr) (lc : Nat) (l : List PairV) (by_ : Int) (w : World) (hl : HeldPr w lo l) (hll : l.length ≤ 140737488355328) (hby : -9223372036854775808 ≤ by_ ∧ by_ ≤ 9223372036854775807) :
    Calls Tryz.prog 3 #[.slice lo l.length lc, .int .i64 by_] w fun e w' => e = .returned (.bool true) ∧ Below w.heap.size w w' := by
  refine (callsIn_wide (n := 5)).1 ?_
  obtain ⟨n, HLN⟩ : ∃ n, Hid (l.length = n) := ⟨_, hid rfl⟩
  rw [HLN.out] at hll ⊢
  have HL := hid hl
  have HLL := hid hll
  have HBY := hid hby
  clear hl hby hll
  refine callsIn_of_wp_marks Tryz.func3 rfl trivial ?_ rfl
  simp only [Tryz.ntmps3, List.size_toArray, List.length_cons, List.length_nil, Nat.reduceAdd, Nat.reduceSub, Array.replicate_succ, Array.replicate_zero, List.push_toArray, List.append_toArray, List.nil_append, List.cons_append]
  refine wpIn_wide.2 ?_
  go_wp2_with fail
  refine (In.new_any w).mono ?_
  rintro e w1 ⟨rfl, hd, hb⟩
  obtain ⟨p, HP⟩ : ∃ p, Hid (p = w.heap.size + 1) := ⟨_, hid rfl⟩
  obtain ⟨m, HM⟩ : ∃ p, Hid (p = w.heap.size) := ⟨_, hid rfl⟩
  rw [← HP.out] at hd ⊢
  rw [← HM.out] at hd
  have HD1 := hid hd
  have HB1 := hid hb
  clear hd hb
  go_wp2_with fail
  refine (new_any w1).mono ?_
  rintro e w2 ⟨rfl, hd, hb⟩
  obtain ⟨p', HP'⟩ : ∃ p, Hid (p = w1.heap.size + 1) := ⟨_, hid rfl⟩
  obtain ⟨m', HM'⟩ : ∃ p, Hid (p = w1.heap.size) := ⟨_, hid rfl⟩
  rw [← HP'.out] at hd ⊢
  rw [← HM'.out] at hd
  have HD2 := hid hd
  have HD2i := hid (HD1.out.below hb)
  have HB2 := hid (bt HB1.out hb)
  clear hd hb
  go_wp2_with fail
  refine (livesD_any w2).mono ?_
  rintro e w3 ⟨rfl, hb⟩
  have HBO : Hid (∀ K, Both w w3 p m p' m' l n K 0 0) := fun K => by
    have h1 := HB1.out.size
    have h2 := HD1.out.pre.map.lt
    exact Both.start l n K (HD2i.out.below hb) (HD2.out.below hb) (bt HB2.out hb) (by have := HP.out; omega) (by have := HM.out; omega) (by have := HP'.out; omega) (by have := HM'.out; omega) (by have := HM.out; have := HM'.out; omega)
  have HB3 := hid (bt HB2.out hb)
  clear hb HD1 HD2 HD2i HB1 HB2 HP HM HP' HM'
  by_cases hl6 : 60000 < n
  · have hl6' : (60000 : Int) < (n : Int) := by omega
    go_wp2
    exact ⟨_, results_tmp rfl _ _ _, rfl, HB3.out⟩
  have hl6' : ¬ (60000 : Int) < (n : Int) := by omega
  have HN6 : Hid (n ≤ 60000) := (by omega : n ≤ 60000)
  clear hl6
  go_upto_if 27 with fail
  go_cut [7] from 28 to 31 (fun s7 wx => ∃ T : Int, s7 = .int .i64 T ∧ Hid (RemO n T) ∧ wx = w3)
  case first =>
    by_cases hn0 : n = 0
    · subst hn0
      go_wp2_with fail
      go_meet
      exact ⟨0, rfl, .inr ⟨rfl, rfl⟩, rfl⟩
    · have hn1 : (0 : Int) < (n : Int) := by omega
      have hn2 : ¬ (n : Int) = 0 := by omega
      have hb1 := HBY.out.1
      have hb2 := HBY.out.2
      have HRM := hid (remO_mod by_ (show 0 < n by omega))
      go_wp2_with fail
      go_meet
      exact ⟨_, rfl, HRM.out, rfl⟩
  case rest =>
    obtain ⟨T, rfl, HT, hwc⟩ := hcut
    rw [hwc]
    clear hwc wc
    have HBO3 := HBO
    clear hl6'
    go_upto_if 33 with fail
    go_cut [7] from 34 to 37 (fun s7 wx => ∃ K : Nat, s7 = .int .i64 K ∧ Hid (PlaceO n K) ∧ wx = w3)
    case first =>
      by_cases hT : T < 0
      · have HTN : Hid (0 < n ∧ -(n : Int) ≤ T ∧ T < (n : Int)) := by
          rcases HT.out with h | h
          · exact ⟨by omega, h⟩
          · omega
        have hw1 : wrap64 (T + (n : Int)) = T + (n : Int) := by have := HTN.out; have := HN6.out; exact wrapS (by omega) (by omega)
        obtain ⟨K, hK⟩ : ∃ K : Nat, T + (n : Int) = (K : Int) := ⟨(T + (n : Int)).toNat, by have := HTN.out; omega⟩
        have HKP : Hid (PlaceO n K) := .inl (by have := HTN.out; omega)
        go_wp2_with fail
        go_meet
        exact ⟨K, by first | rfl | (rw [hw1, hK]) | (rw [hK]), HKP, rfl⟩
      · have HKP : Hid (PlaceO n T.toNat) := by
          rcases HT.out with h | h
          · exact .inl (by omega)
          · exact .inr h.1
        obtain ⟨K, rfl⟩ := Int.eq_ofNat_of_zero_le (show 0 ≤ T by omega)
        go_wp2_with fail
        go_meet
        exact ⟨K, rfl, hid (by simpa using HKP.out), rfl⟩
    case rest =>
      obtain ⟨K, rfl, HK, hwc⟩ := hcut
      rw [hwc]
      clear hwc wc
      clear HT
      go_wp2
      go_loopw [8] (fun s8 wr => ∃ i : Nat, i ≤ n ∧ s8 = .int .i64 i ∧ Hid (Both w wr p m p' m' l n K i i)) (fun s8 _ => n - (intOf s8).toNat)
      case atStart => exact ⟨0, Nat.zero_le _, rfl, HBO3.out K⟩
      case round =>
        obtain ⟨i, hi, rfl, HR⟩ := hrel
        by_cases hlt : i < n
        · have hlt' : (i : Int) < (n : Int) := by omega
          have hn1 : ¬ (n : Int) = 0 := by omega
          have HIM : Hid (i + 1 ≤ n) := (by omega : i + 1 ≤ n)
          have HIX : Hid (i < l.length) := by rw [HLN.out]; exact hlt
          obtain ⟨r, hr⟩ : ∃ r, r = (i + K) % n := ⟨_, rfl⟩
          have hrn : r < n := by rw [hr]; exact Nat.mod_lt _ (by omega)
          have hmod : ((i : Int) + (K : Int)) % (n : Int) = (r : Int) := by rw [hr]; simp
          obtain ⟨J, hJ⟩ : ∃ J, J = n - 1 - r := ⟨_, rfl⟩
          have HTJ : Hid (backO n K i = J) := by show _ = _; rw [hJ, hr]; rfl
          have hJn : (J : Int) < (n : Int) := by omega
          have hJi : (n : Int) - 1 - (r : Int) = (J : Int) := by omega
          have HJX : Hid (J < l.length) := by show _ < _; rw [HLN.out]; omega
          have hn6 := HN6.out
          have hKn : (K : Int) ≤ 60000 := by
            rcases HK.out with h | h <;> omega
          obtain ⟨b, off, hlo, q0, q1, _⟩ := (HL.out.below HR.out.bel).at HIX.out
          obtain ⟨b', off', hlo', _, _, _⟩ := (HL.out.below HR.out.bel).at HJX.out
          subst hlo
          cases hlo'
          have HDI : Hid (dotAtO l i = some ((l[i]'HIX.out).o, (l[i]'HIX.out).s)) := by unfold dotAtO; rw [List.getElem?_eq_getElem HIX.out]; rfl
          have HDJ : Hid (dotAtO l (backO n K i) = some ((l[J]'HJX.out).o, (l[J]'HJX.out).s)) := by unfold dotAtO; rw [HTJ.out, List.getElem?_eq_getElem HJX.out]; rfl
          have HADD := hid (HR.out.addI (by have := HN6.out; omega) HDI.out (i : Int))
          have HADT : Hid (∀ V, Both w V p m p' m' l n K (i + 1) i → Calls Tryz.prog 8 #[.pointer (some ⟨p', 0, none⟩), .agg #[.int .i64 (l[J]'HJX.out).o, .int .i64 (l[J]'HJX.out).s], .string ⟨#[120]⟩] V fun e w' => (∃ c, e = .returned (.int .i64 c)) ∧ Both w w' p m p' m' l n K (i + 1) (i + 1)) := fun V hV => hV.addT (by have := HN6.out; omega) HDJ.out _
          have HCJ : Hid (∀ V, Below w.heap.size w V → V.cell? ⟨b, off + J * 3, none⟩ = some (.int .i64 (l[J]'HJX.out).o) ∧ V.cell? ⟨b, off + J * 3 + 1, none⟩ = some (.int .i64 (l[J]'HJX.out).s)) := fun V hV => by
            obtain ⟨b2, o2, e2, a0, a1, _⟩ := (HL.out.below hV).at HJX.out
            cases e2
            exact ⟨a0, a1⟩
          obtain ⟨X, HX⟩ : ∃ x, Hid ((l[i]'HIX.out).o = x) := ⟨_, hid rfl⟩
          obtain ⟨Y, HY⟩ : ∃ x, Hid ((l[i]'HIX.out).s = x) := ⟨_, hid rfl⟩
          obtain ⟨X', HX'⟩ : ∃ x, Hid ((l[J]'HJX.out).o = x) := ⟨_, hid rfl⟩
          obtain ⟨Y', HY'⟩ : ∃ x, Hid ((l[J]'HJX.out).s = x) := ⟨_, hid rfl⟩
          rw [HX.out, HY.out] at HADD
          rw [HX.out] at q0
          rw [HY.out] at q1
          rw [HX'.out, HY'.out] at HADT HCJ
          clear HX HY HX' HY' HDI HDJ HR hlt hr hJ hrn hi
          go_wp2_with fail
          refine HADD.out.mono ?_
          rintro e w4 ⟨⟨c, rfl⟩, hb4⟩
          obtain ⟨f0, f1⟩ := HCJ.out w4 hb4.bel
          have HA4 := hid (HADT.out w4 hb4)
          clear hb4 HADD HADT HCJ q0 q1
          go_wp2_with fail
          refine HA4.out.mono ?_
          rintro e w5 ⟨⟨c', rfl⟩, hb5⟩
          have HB5 := hid hb5
          clear hb5 HA4 f0 f1 hmod hJi hJn hKn
          go_wp2
          go_roundw
          case rel => exact ⟨i + 1, HIM.out, by go_num, HB5.out⟩
          case measure => simp [intOf]; have := HIM.out; omega
        · have hlt' : ¬ (i : Int) < (n : Int) := by omega
          have hin : i = n := by omega
          have HR2 : Hid (Both w wr p m p' m' l n K n n) := by have := HR.out; rw [hin] at this; exact this
          obtain ⟨rs, R, D, S, N, rs', R', D', T', hE⟩ := HR2.out.ends HK.out
          have HE := hid hE
          clear hE HR HR2 hin
          obtain ⟨v, HVV⟩ : ∃ v, Hid (plainOf (lensOf R) = v) := ⟨_, hid rfl⟩
          obtain ⟨vn, HVN⟩ : ∃ k, Hid (v.length = k) := ⟨_, hid rfl⟩
          obtain ⟨ib, HIB⟩ : ∃ q, Hid (q = wr.heap.size) := ⟨_, hid rfl⟩
          have HVEC : Hid (∀ W V, ScO W V → Below wr.heap.size wr W → Calls Tryz.prog 10 #[.pointer (some ⟨p, 0, none⟩)] V (VcA W V v vn)) := fun W V hV hW => by
            have := In.vector_any (HE.out.below (bt hW hV.out)).one.pre
            rw [HVV.out] at this
            exact this.mono (fun e w' h => vcA_of hV HVN.out h)
          have HVET : Hid (∀ W V, ScO W V → Below wr.heap.size wr W → Calls Tryz.prog 12 #[.pointer (some ⟨p', 0, none⟩)] V (VcA W V v vn)) := fun W V hV hW => by
            have := vector_any (HE.out.below (bt hW hV.out)).two.pre
            rw [HE.out.vec, HVV.out] at this
            exact this.mono (fun e w' h => vcA_of hV HVN.out h)
          obtain ⟨W1, hW1⟩ : ∃ W, W = wr.alloc (.cells #[.int .i64 0] 3) := ⟨_, rfl⟩
          have HW1 : Hid (Below wr.heap.size wr W1) := by rw [hW1]; exact (Below.refl _ _).alloc (Nat.le_refl _) _
          have HI1 : Hid (Boxed W1 ib 3 (.int .i64 0)) := by rw [hW1, HIB.out]; exact Boxed.new wr _ _
          go_wp2_with fail
          rw [← HIB.out, ← hW1]
          clear hW1
          refine (HVEC.out W1 W1 (ScO.start _) HW1.out).mono ?_
          rintro e w6 ⟨bo, cp, rfl, hv6, hb6, _⟩
          have HB6 := hid hb6
          have HV6 := hid hv6
          clear hb6 hv6
          go_wp2_with fail
          refine (In.upto_any w6 (some ⟨p, 0, none⟩) bo cp v vn HVN.out HV6.out).mono ?_
          rintro e w7 ⟨q, co, cc, _, rfl, _, _, _, _, _, hb7⟩
          have HB7 := hid (bt HB6.out hb7)
          have hql := fun W => In.itD_eql q (q + 1) W
          clear hb7 HB6 HV6
          go_wp2_with fail
          clear hql
          refine (HVEC.out W1 w7 ⟨HB7.out⟩ HW1.out).mono ?_
          rintro e w8 ⟨bo2, cp2, rfl, hv8, _, hb8⟩
          have HB8 := hid hb8.out
          have HV8 := hid hv8
          clear hb8 hv8 HB7
          go_wp2_with fail
          refine (In.upto_any w8 (some ⟨p, 0, none⟩) bo2 cp2 v vn HVN.out HV8.out).mono ?_
          rintro e Rw ⟨qb, cob, ccb, hqb, rfl, hx1, hx2, hx3, hx4, hx5, hb9⟩
          have HB9 := hid (bt HB8.out hb9)
          have HI9 : Hid (Boxed Rw ib 3 (.int .i64 0)) := (HB9.out.block _ HI1.out.lt).trans HI1.out
          have HE9 := hid (HE.out.below (bt HW1.out HB9.out))
          have HWT : Hid (In.Want Rw (.func (.func 30) #[] #[.pointer (some ⟨w8.heap.size, 0, none⟩)]) (fun o s => decide (HasV v o s))) := .inr ⟨w8.heap.size, cob, ccb, v, rfl, hx3, hx4, rfl⟩
          have hib : ib < Rw.heap.size := HI9.out.lt
          have HSQ := hid (In.those_seq 4 (by omega) qb (qb + 1) ib Rw hib HE9.out.one.pre HWT.out hx1 hx2)
          have HIL : Hid (wr.heap.size ≤ ib) := by rw [HIB.out]; exact Nat.le_refl _
          have HRW := hid (bt HW1.out HB9.out)
          clear hx1 hx2 hx3 hx4 hx5 hb9 hqb HV8 HB8 HB9 HI1 HW1
          go_wp2
          have hseq := HSQ.out
          refine (wpIn_wide (n := 5)).1 ?_
          apply wpIn_rangeFunc_ownG (encs := fun x : In.It => #[dotV x.1, .int .i64 x.2]) (Kp := Kx ib) rfl (by omega) (gf := 41) (lb := #[.pointer (some ⟨qb, 0, none⟩), .pointer (some ⟨qb + 1, 0, none⟩)]) rfl trivial (enters_of Tryz.func41 (by kernel_rfl) rfl)
            hseq (fun a b => Kx.trans a b) (fun W l o o' _ ho hc _ => Kx.put W l o o' ho hc) (Below.refl _ _) (fun _ => rfl) (CntO Rw ib) (fun _ _ _ => False) (cntO_own Rw ib (by omega)) (fun _ _ _ _ _ h _ _ => h)
            ⟨HI9.out, Below.refl _ _, Nat.le_refl _⟩
          case hassign =>
            intro l x W K hK
            dsimp only [dotV]
            gi_wp2
            exact hK
          case hbody =>
            rintro l pre ⟨⟨x1, x2⟩, xt⟩ W hIp hlt
            have HIP := hid hIp
            obtain ⟨pl, HPL⟩ : ∃ n, Hid (pre.length = n) := ⟨_, hid rfl⟩
            have hpl : pl < 60000 := by have := HPL.out; have := HE.out.few; have := HN6.out; omega
            have hci : W.cell? ⟨ib, 0, none⟩ = some (.int .i64 (pl : Int)) := by rw [← HPL.out]; exact hIp.box.cell
            have hfi := hIp.box.frozen
            have hw1 : wrap64 ((pl : Int) + 1) = (pl : Int) + 1 := wrapS (by omega) (by omega)
            have HSET : Hid (CntO Rw ib (pre ++ [((x1, x2), xt)]) (W.setCell ⟨ib, 0, none⟩ (.int .i64 ((pl : Int) + 1)))) := hIp.set _ _ (by rw [HPL.out])
            have HKX : Hid (Kx ib W (W.setCell ⟨ib, 0, none⟩ (.int .i64 ((pl : Int) + 1)))) := Kx.set _ _ _
            clear hIp hlt hseq
            gi_wp2
            exact ⟨(KeepsOthers.setCell _ _ _).from _, HKX.out, HSET.out⟩
          case hdone =>
            intro D9 xs W hD hsx hIx hDef
            obtain ⟨hits, _⟩ := hsx
            obtain ⟨hbx, hbl, hsW⟩ := hIx
            have HBW : Hid (Below wr.heap.size wr W) := HRW.out.trans (hbl.mono HIL.out)
            have HEW := hid (HE.out.below HBW.out)
            have HUR : Hid (xs.length = sumR R) := hid (In.its_vec HEW.out.one (by rw [HVV.out]; exact hits))
            obtain ⟨un, HUN⟩ : ∃ n, Hid (xs.length = n) := ⟨_, hid rfl⟩
            rw [HUN.out] at hbx HUR
            have HDef := hid hDef
            have hDl : D9 < W.heap.size := (Array.getElem?_eq_some_iff.1 hDef).1
            have HIX := hid hbx
            have HFW : Hid (Below w.heap.size w W) := HEW.out.bel
            have HU6 : Hid (un ≤ 60000 ∧ N ≤ 60000) := by
              have h1 := HE.out.few
              have h2 := HN6.out
              have h3 := HE.out.one.pre.cnt
              have h4 := HUR.out
              exact ⟨by omega, by omega⟩
            have HWD : Hid (w.heap.size ≤ D9) := by
              have h1 := HRW.out.size
              have h2 := HE.out.bel.size
              exact (by omega : w.heap.size ≤ D9)
            have C1 : Hid (∀ V, ScO W V → Calls Tryz.prog 10 #[.pointer (some ⟨p, 0, none⟩)] V (fun e w' => VcA W V v vn e w')) := fun V hV => HVEC.out W V hV HBW.out
            have C2 : Hid (∀ V, ScO W V → Calls Tryz.prog 12 #[.pointer (some ⟨p', 0, none⟩)] V (fun e w' => VcA W V v vn e w')) := fun V hV => HVET.out W V hV HBW.out
            have C3 : Hid (∀ V bo1 cp1 bo2 cp2, ScO W V → HV V bo1 cp1 v → HV V bo2 cp2 v → Calls Tryz.prog 11 #[.slice bo1 vn cp1, .slice bo2 vn cp2] V fun e w' => e = .returned (.bool true) ∧ ScO W w') := fun V bo1 cp1 bo2 cp2 hV h1 h2 => by
              have := same_any V bo1 bo2 cp1 cp2 v v vn vn HVN.out HVN.out h1 h2
              rw [decide_eq_true (rfl : v = v)] at this
              refine this.mono ?_
              rintro e w' ⟨h3, q3, h4⟩
              exact ⟨h3, by rw [h4]; exact hV.go (below_dn (Below.refl _ _) q3)⟩
            have C4 : Hid (∀ V, ScO W V → Calls Tryz.prog 14 #[.pointer (some ⟨p, 0, none⟩)] V (fun e w' => ExA W V D e w')) := fun V hV => (In.extras_any (HEW.out.below hV.out).one.pre).mono (fun e w' h => exA_of hV (by have := HE.out.one.pre.map.size_le; have := HE.out.one.pre.few; omega) h)
            have C5 : Hid (∀ V, ScO W V → Calls Tryz.prog 15 #[.pointer (some ⟨p', 0, none⟩)] V (fun e w' => ExA W V D' e w')) := fun V hV => (extras_any (HEW.out.below hV.out).two.pre).mono (fun e w' h => exA_of hV (by have := HE.out.two.pre.map.size_le; have := HE.out.two.pre.few; omega) h)
            have C6 : Hid (∀ V eo1 k1 c1 s1 eo2 k2 c2 s2, ExR W V D eo1 k1 c1 s1 → ExR W V D' eo2 k2 c2 s2 → Calls Tryz.prog 13 #[.slice eo1 k1 c1, .slice eo2 k2 c2] V fun e w' => e = .returned (.bool true) ∧ ScO W w') := fun V eo1 k1 c1 s1 eo2 k2 c2 s2 h1 h2 => by
              have he := HE.out.ext s1 s2 h1.srt h2.srt
              subst he
              obtain ⟨B1, r1⟩ := h1.row
              obtain ⟨B2, r2⟩ := h2.row
              have e1 := h1.len
              have e2 := h2.len
              have e3 := h1.few
              rw [e1] at e2
              subst e2
              refine (sameDots_any V eo1 eo2 c1 c2 B1 B2 s2 k1 e1 r1 r2 (by omega)).mono ?_
              rintro e w' ⟨h3, h4⟩
              exact ⟨h3, h1.sc.go h4⟩
            have C7 : Hid (∀ V, ScO W V → Calls Tryz.prog 16 #[.pointer (some ⟨p, 0, none⟩)] V fun e w' => e = .returned (.int .i64 N) ∧ ScO W w') := fun V hV => (In.lenD_any (HEW.out.below hV.out).one.pre).mono (fun e w' h => ⟨h.1, by rw [h.2]; exact hV⟩)
            have C8 : Hid (∀ V, ScO W V → Calls Tryz.prog 17 #[.pointer (some ⟨p', 0, none⟩)] V fun e w' => e = .returned (.int .i64 N) ∧ ScO W w') := fun V hV => (lenD_any (HEW.out.below hV.out).two.pre).mono (fun e w' h => ⟨h.1, by rw [h.2]; exact hV⟩)
            have HXS : Hid (∀ V eo k c ss, ExR W V D eo k c ss → IntKind.i64.wrap ((un : Int) + (k : Int)) = (N : Int)) := fun V eo k c ss h => by
              have h1 := HE.out.len ss h.srt h.le
              have h2 := h.len
              have h3 := HUR.out
              have h4 := HU6.out
              rw [IntKind.wrap_i64]
              omega
            have HSA : Hid (∀ V, ScO W V → (ScO W V ∧ V.cell? ⟨ib, 0, none⟩ = some (.int .i64 (un : Int)))) := fun V hV => ⟨hV, (Boxed.underO hV.out HIX.out).cell⟩
            clear hits hDef hbx hbl hsW HSQ hseq HWT HVEC HVET HE9 HEW HE HI9 HRW HBW
            go_wp2
            go_region_held3 (fun V => ScO W V ∧ V.cell? ⟨ib, 0, none⟩ = some (.int .i64 (un : Int)))
              (first | (refine ⟨?_, ?_⟩ <;> assumption) | (refine HSA.out _ ?_; (repeat (first | assumption | exact ScO.start _ | apply ScO.dr))))
              (first
                | (go_at_call 10; refine (C1.out _ (by (repeat (first | assumption | exact ScO.start _ | apply ScO.dr)))).mono ?_; rintro e w11 ⟨bo1, cp1, rfl, hv1, _, hs11⟩)
                | (go_at_call 12; refine (C2.out _ (by (repeat (first | assumption | exact ScO.start _ | apply ScO.dr)))).mono ?_; rintro e w12 ⟨bo3, cp3, rfl, hv3, hb12, hs12⟩; have hv1 := hv1.below hb12)
                | (go_at_call 11; refine (C3.out _ _ _ _ _ (by (repeat (first | assumption | exact ScO.start _ | apply ScO.dr))) hv1 hv3).mono ?_; rintro e w13 ⟨rfl, hs13⟩)
                | (go_at_call 14; refine (C4.out _ (by (repeat (first | assumption | exact ScO.start _ | apply ScO.dr)))).mono ?_; rintro e w14 ⟨eo1, k1, c1, ss1, rfl, hx1, _⟩; have hs14 := hx1.sc; have hws := HXS.out _ _ _ _ _ hx1)
                | (go_at_call 15; refine (C5.out _ (by (repeat (first | assumption | exact ScO.start _ | apply ScO.dr)))).mono ?_; rintro e w15 ⟨eo2, k2, c2, ss2, rfl, hx2, hb15⟩; have hx1 := hx1.below hb15; have hs15 := hx2.sc)
                | (go_at_call 13; refine (C6.out _ _ _ _ _ _ _ _ _ hx1 hx2).mono ?_; rintro e w16 ⟨rfl, hs16⟩)
                | (go_at_call 16; refine (C7.out _ (by (repeat (first | assumption | exact ScO.start _ | apply ScO.dr)))).mono ?_; rintro e w17 ⟨rfl, hs17⟩)
                | (go_at_call 17; refine (C8.out _ (by (repeat (first | assumption | exact ScO.start _ | apply ScO.dr)))).mono ?_; rintro e w18 ⟨rfl, hs18⟩)
                | fail)
            have hK1 : w17.heap[D9]? = some (.deferred (some [])) := (hs17.out.block D9 hDl).trans HDef.out
            have hbF : Below w.heap.size w (w17.putObj D9 (.deferred none)) := (bt HFW.out hs17.out).trans (belowK_b (w := w) (Nat.le_refl _) _ D9 _ _ HWD.out hK1 rfl rfl)
            go_wp2
            refine ⟨by simp, .inl ⟨_, _, rfl, run_takeDeferred hK1, ?_⟩⟩
            exact ⟨_, results_tmp rfl _ _ _, rfl, hbF⟩
          case hstop =>
            intro D9 c pre W _ _ hf
            exact hf.elim
end Go.Proofs.YtjcoahcbdlpcpaaGreat
