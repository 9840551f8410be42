/-
  The iterator of vv.Between: it yields the dots that b has and a has not, in order, till it is told to stop; in a fence.
-/
import Derived.Test.YtjlompnjhmbhhaaGreatVvI
import Derived.RangeFuncNested
import Derived.RangeFuncBound
import Derived.RangeFuncCalls
import Derived.RangeFuncLeaves
import Derived.RangeFuncBox
import Derived.RangeFuncKeeps
import Derived.Shelf.Abstract
import Derived.Shelf.RegionOpen
import Derived.OwnWalkIn
import Derived.TacticsInMore
import Derived.LoopNIn
import Derived.LoopIn
namespace Go.Proofs.YtjlompnjhmbhhaaGreat
open Go.RowKit Go.Shelf Go.Maps
attribute [local go_sem] Oper.semAt_some

/-- How many dots of an origin a has (none below 0). -/
def hadOf (a : List Int) (o : Nat) : Int := max (a.getD o 0) 0
/-- How many more b has. -/
def moreOf (a b : List Int) (o : Nat) : Int := max (b.getD o 0) 0 - hadOf a o
def rowOf (a b : List Int) (o : Nat) : List (Int × Int) := (List.range (moreOf a b o).toNat).map fun i : Nat => ((o : Int), hadOf a o + (i : Int) + 1)
/-- The dots from an origin on. -/
def rowsFrom (a b : List Int) (k : Nat) : List (Int × Int) := (List.range' k (b.length - k)).flatMap (rowOf a b)
def dotsAll (a b : List Int) : List (Int × Int) := rowsFrom a b 0
theorem rowsFrom_step (a b : List Int) {k : Nat} (h : k < b.length) : rowsFrom a b k = rowOf a b k ++ rowsFrom a b (k + 1) := by
  unfold rowsFrom
  obtain ⟨n, hn⟩ : ∃ n, b.length - k = n + 1 := ⟨b.length - k - 1, by omega⟩
  rw [hn, show b.length - (k + 1) = n by omega, List.range'_succ]
  simp
theorem rowsFrom_end (a b : List Int) {k : Nat} (h : ¬ k < b.length) : rowsFrom a b k = [] := by
  unfold rowsFrom
  rw [show b.length - k = 0 by omega]
  rfl
theorem row_len (a b : List Int) (o : Nat) : (rowOf a b o).length = (moreOf a b o).toNat := by simp [rowOf]
theorem row_drop (a b : List Int) (o : Nat) {j : Nat} (h : j < (moreOf a b o).toNat) : (rowOf a b o).drop j = ((o : Int), hadOf a o + (j : Int) + 1) :: (rowOf a b o).drop (j + 1) := by
  rw [List.drop_eq_getElem_cons (by rw [row_len]; exact h)]
  simp [rowOf]
theorem row_drop_end (a b : List Int) (o : Nat) {j : Nat} (h : ¬ j < (moreOf a b o).toNat) : (rowOf a b o).drop j = [] := List.drop_eq_nil_of_le (by rw [row_len]; omega)
theorem wrap_row {H C B : Int} {j : Nat} (hj : (j : Int) < C) (h0 : 0 ≤ H) (hC : C = B - H) (hB : B ≤ 9223372036854775807) : wrap64 (wrap64 (H + (j : Int)) + 1) = H + (j : Int) + 1 := by
  rw [wrapS (x := H + (j : Int)) (by omega) (by omega), wrapS (by omega) (by omega)]
theorem wrap_row1 {H C B : Int} {j : Nat} (hj : (j : Int) < C) (h0 : 0 ≤ H) (hC : C = B - H) (hB : B ≤ 9223372036854775807) : wrap64 (H + (j : Int)) = H + (j : Int) := wrapS (by omega) (by omega)
theorem wrap_row2 {H C B : Int} {j : Nat} (hj : (j : Int) < C) (h0 : 0 ≤ H) (hC : C = B - H) (hB : B ≤ 9223372036854775807) : wrap64 (H + (j : Int) + 1) = H + (j : Int) + 1 := wrapS (by omega) (by omega)
theorem wrap_cnt {H B : Int} (h0 : 0 ≤ H) (h1 : H ≤ 9223372036854775807) (h2 : 0 ≤ B) (hB : B ≤ 9223372036854775807) : wrap64 (B - H) = B - H := wrapS (by omega) (by omega)
theorem wrap_j {C : Int} {j : Nat} (hj : (j : Int) < C) (hC : C ≤ 9223372036854775807) : wrap64 ((j : Int) + 1) = (j : Int) + 1 := wrapS (by omega) (by omega)
theorem had_rng {X H : Int} (h : max X 0 = H) (hX : -9223372036854775808 ≤ X ∧ X ≤ 9223372036854775807) : 0 ≤ H ∧ H ≤ 9223372036854775807 := by omega
theorem cnt_rng {C G H : Int} (h : C = G - H) (h1 : 0 ≤ H ∧ H ≤ 9223372036854775807) (h2 : 0 ≤ G ∧ G ≤ 9223372036854775807) : C ≤ 9223372036854775807 := by omega
theorem toNat_lt {C : Int} {j : Nat} (h : (j : Int) < C) : j < C.toNat := by omega
theorem toNat_nlt {C : Int} {j : Nat} (h : ¬ (j : Int) < C) : ¬ j < C.toNat := by omega
theorem toNat_meas {C : Int} {j : Nat} (h : (j : Int) < C) (hw : wrap64 ((j : Int) + 1) = (j : Int) + 1) : C.toNat - (intOf (.int .i64 (wrap64 ((j : Int) + 1)))).toNat < C.toNat - (intOf (.int .i64 (j : Int))).toNat := by
  rw [hw]
  simp only [intOf]
  omega
def dotV (x : Int × Int) : Value := .agg #[.int .i64 x.1, .int .i64 x.2]

set_option maxRecDepth 100000 in
set_option maxHeartbeats 2000000 in
theorem betw1_inK (n : Nat) (hn : 1 ≤ n) (l p q : Nat) (Kp : World → World → Prop) (hKr : ∀ W, Kp W W) (hKt : ∀ {A B C : World}, Kp A B → Kp B C → Kp A C) (ao bo : Option Addr) (ca cb : Nat) (a b : List Int) (J Jx : List (Int × Int) → World → Prop) (W : World)
    (hY : ∀ pre x W1, J pre W1 → pre.length < (dotsAll a b).length → YieldAt Fence.wide (n - 1) Tryz.prog l #[dotV x] W1 fun e W' =>
      (e = .returned (.bool true) ∧ J (pre ++ [x]) W' ∧ Kp W1 W') ∨ (e = .returned (.bool false) ∧ Jx (pre ++ [x]) W'))
    (hH : ∀ W', Kp W W' → ItAt W' p q a b ao bo ca cb) (h0 : J [] W) :
    CallsIn Fence.wide n Tryz.prog 80 #[.func (.yield l) #[] #[], .pointer (some ⟨q, 0, none⟩), .pointer (some ⟨p, 0, none⟩)] W fun e W' => (∃ v, e = .returned v) ∧
      ((∃ ys, ys = dotsAll a b ∧ J ys W') ∨ (∃ pre, pre <+: dotsAll a b ∧ Jx pre W')) := by
  have hfb := (hH W (hKr W)).hb.few
  obtain ⟨m, hm⟩ : ∃ m, a.length = m := ⟨_, rfl⟩
  obtain ⟨k0, hk0⟩ : ∃ k, b.length = k := ⟨_, rfl⟩
  have HM := hid hm
  have HN := hid hk0
  rw [hk0] at hfb
  have cW := (hH W (hKr W)).bq.cell (i := 0) rfl
  rw [hk0] at cW
  clear hm hk0
  have HY := hid hY
  have HH := hid hH
  have HT : Hid (∀ A B C : World, Kp A B → Kp B C → Kp A C) := fun A B C h k => hKt h k
  clear hY hH hKt
  refine callsIn_of_wp Tryz.func80 rfl trivial ?_ rfl
  simp only [Tryz.ntmps80, List.size_toArray, List.length_cons, List.length_nil, Nat.reduceAdd, Nat.reduceSub, Array.replicate_succ, Array.replicate_zero, List.push_toArray, List.append_toArray, List.nil_append, List.cons_append]
  gi_wp2
  gi_loopw [4, 5, 6, 9] (fun _ _ _ i wr => ∃ (k : Nat) (pre : List (Int × Int)), k ≤ k0 ∧ i = .int .i64 k ∧ Hid (pre ++ rowsFrom a b k = dotsAll a b ∧ J pre wr ∧ Kp W wr)) (fun _ _ _ i _ => k0 - (intOf i).toNat)
  case atStart => exact ⟨0, [], Nat.zero_le _, rfl, rfl, h0, hKr W⟩
  case round =>
    obtain ⟨k, pre, hk, rfl, HR⟩ := hrel
    by_cases hlt : k < k0
    · have hlt' : (k : Int) < (k0 : Int) := by omega
      have hit := HH.out wr HR.out.2.2
      have cp := hit.bp.cell (i := 0) rfl
      have cq := hit.bq.cell (i := 0) rfl
      rw [HM.out] at cp
      rw [HN.out] at cq
      have hkb : k < b.length := by rw [HN.out]; exact hlt
      obtain ⟨bb, off, hbo, hc⟩ := hit.hb.held.cellAt hkb
      have cb' := hc k hkb
      have HOA := hid (of_any wr ao ca a m HM.out (k : Int) hit.ha.held)
      rw [ofV_nat] at HOA
      have hra := hit.ha.held.rng k
      have hrb := hit.hb.held.rng k
      obtain ⟨X, HX⟩ : ∃ X, Hid (a.getD k 0 = X) := ⟨_, hid rfl⟩
      obtain ⟨Y, HYY⟩ : ∃ X, Hid (b.getD k 0 = X) := ⟨_, hid rfl⟩
      rw [HX.out] at HOA hra
      rw [HYY.out] at cb' hrb
      obtain ⟨H, HHd⟩ : ∃ H, Hid (max X 0 = H) := ⟨_, hid rfl⟩
      obtain ⟨G, HG⟩ : ∃ H, Hid (max Y 0 = H) := ⟨_, hid rfl⟩
      obtain ⟨C, HC⟩ : ∃ C, Hid (C = G - H) := ⟨_, hid rfl⟩
      have HH0 := hid (had_rng HHd.out hra)
      have HG0 := hid (had_rng HG.out hrb)
      have HCL := hid (cnt_rng HC.out HH0.out HG0.out)
      have hwc : wrap64 (G - H) = C := by rw [HC.out]; exact wrap_cnt HH0.out.1 HH0.out.2 HG0.out.1 HG0.out.2
      have HD1 := hid (dotsOf_any wr X)
      have HD2 := hid (dotsOf_any wr Y)
      rw [HHd.out] at HD1
      rw [HG.out] at HD2
      have HHE : Hid (hadOf a k = H) := by show _ = _; unfold hadOf; rw [HX.out, HHd.out]
      have HME : Hid (moreOf a b k = C) := by show _ = _; unfold moreOf; rw [HHE.out, HYY.out, HG.out, HC.out]
      subst hbo
      clear hc hit hkb hra hrb
      gi_wp2_with fail
      refine ⟨trivial, (callsIn_wide.2 HOA.out).mono ?_⟩
      rintro e w2 ⟨rfl, rfl⟩
      gi_wp2_with fail
      refine ⟨trivial, (callsIn_wide.2 HD1.out).mono ?_⟩
      rintro e w3 ⟨rfl, rfl⟩
      gi_wp2_with fail
      refine ⟨trivial, (callsIn_wide.2 HD2.out).mono ?_⟩
      rintro e w4 ⟨rfl, rfl⟩
      clear HOA HD1 HD2
      gi_wp2
      simp only [hwc]
      clear hwc cp cq cb'
      gi_loopw [6, 23] (fun _ i wi => ∃ (j : Nat) (pr : List (Int × Int)), i = .int .i64 j ∧ Hid (pr ++ ((rowOf a b k).drop j ++ rowsFrom a b (k + 1)) = dotsAll a b ∧ J pr wi ∧ Kp W wi)) (fun _ i _ => C.toNat - (intOf i).toNat)
      case atStart =>
        refine ⟨0, pre, rfl, ?_, HR.out.2⟩
        rw [List.drop_zero, ← rowsFrom_step a b (by rw [HN.out]; exact hlt)]
        exact HR.out.1
      case round =>
        obtain ⟨j, pr, rfl, HI⟩ := hrel
        by_cases hj : (j : Int) < C
        · have hj0 : (0 : Int) ≤ (j : Int) := by omega
          have w1 : wrap64 (H + (j : Int)) = H + (j : Int) := wrap_row1 hj HH0.out.1 HC.out HG0.out.2
          have w2 : wrap64 (H + (j : Int) + 1) = H + (j : Int) + 1 := wrap_row2 hj HH0.out.1 HC.out HG0.out.2
          have w3 : wrap64 ((j : Int) + 1) = (j : Int) + 1 := wrap_j hj HCL.out
          have HP : Hid (pr ++ [((k : Int), H + (j : Int) + 1)] ++ ((rowOf a b k).drop (j + 1) ++ rowsFrom a b (k + 1)) = dotsAll a b) := by
            show _ = _
            have h1 := HI.out.1
            rw [row_drop a b k (by rw [HME.out]; exact toNat_lt hj), HHE.out] at h1
            rw [← h1]
            simp
          have hll : pr.length < (dotsAll a b).length := by
            rw [← HP.out]
            simp
          obtain ⟨fn, tmps, assign, body, hy, hRR⟩ := HY.out pr ((k : Int), H + (j : Int) + 1) wr HI.out.2.1 hll
          have HRR := hid hRR
          clear hRR hll
          dsimp only [dotV] at hy
          gi_wp2
          refine HRR.out.mono ?_
          rintro e W3 (⟨rfl, hJ3, hk3⟩ | ⟨rfl, hJx3⟩)
          · have HJ3 := hid hJ3
            have HK3 := hid (HT.out _ _ _ HI.out.2.2 hk3)
            clear hJ3 hk3 HRR hy
            gi_wp2
            go_roundw
            case rel => exact ⟨j + 1, pr ++ [((k : Int), H + (j : Int) + 1)], by go_num, HP.out, HJ3.out, HK3.out⟩
            case measure => exact toNat_meas hj w3
          · have HJ3 := hid hJx3
            clear hJx3 HRR hy
            gi_wp2
            refine bodyPost_ret (results_none rfl _ _ _) rfl ?_
            exact ⟨⟨_, rfl⟩, .inr ⟨_, ⟨_, HP.out⟩, HJ3.out⟩⟩
        · gi_wp2
          refine ⟨⟨k + 1, pr, by omega, by go_num, ?_, HI.out.2⟩, by simp [intOf]; omega⟩
          have h1 := HI.out.1
          rw [row_drop_end a b k (by rw [HME.out]; exact toNat_nlt hj), List.nil_append] at h1
          exact h1
    · have hlt' : ¬ (k : Int) < (k0 : Int) := by omega
      have hpre : pre = dotsAll a b := by
        have := HR.out.1
        rwa [rowsFrom_end a b (by rw [HN.out]; exact hlt), List.append_nil] at this
      have HPE := hid hpre
      clear hpre
      gi_wp2
      refine bodyPost_end (results_none rfl _ _ _) rfl ?_
      exact ⟨⟨_, rfl⟩, .inl (by rw [← HPE.out]; exact HR.out.2.1)⟩
end Go.Proofs.YtjlompnjhmbhhaaGreat
