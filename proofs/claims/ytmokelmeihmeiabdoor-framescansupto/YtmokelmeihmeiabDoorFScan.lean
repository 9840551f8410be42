/-
  The frames of bytes: frame.frames's iterator goes over just the frames that 'scanAll' tells, for any bytes and whatever loop body that keeps what lay below and the iterator's own box.
-/
import Derived.Test.YtmokelmeihmeiabDoorFFirst
import Derived.RangeFuncNested
import Derived.RangeFuncBound
import Derived.RangeFuncCalls
import Derived.RangeFuncLeaves
import Derived.RangeFuncBox
import Derived.Shelf.Abstract
import Derived.Shelf.RegionOpen
import Derived.OwnWalkIn
import Derived.TacticsInMore
import Derived.LoopNIn
import Derived.LoopIn
namespace Go.Proofs.YtmokelmeihmeiabDoor
open Go.RowKit Go.Shelf
attribute [local go_sem] Oper.semAt_some

theorem first_no (ao : Option Addr) (len cap : Nat) (bs : List Int) (w : World) (ht : Tab w) (h : Held w ao len cap bs) (hf : fstOf bs = none) :
    Calls Tryd.prog 25 #[.slice ao len cap] w fun e w' => e = .returned (.tuple #[.string ByteArray.empty, .bool false]) ∧ ∃ q, w' = w.drewN q := by
  have hl := h.hlen
  unfold fstOf at hf
  by_cases h8 : len < 8
  · exact first_short ao len cap w h8
  · by_cases hn : 65536 < rd4 bs ∨ len < 8 + rd4 bs
    · exact first_size ao len cap bs w h (by omega) hn
    · rw [if_neg (by omega)] at hf
      have hne : ¬ rd4 (bs.drop 4) = crc (bs.take 4 ++ (bs.take (8 + rd4 bs)).drop 8) := by
        intro e
        rw [if_pos e] at hf
        cases hf
      exact first_sum ao len cap bs w ht h (by omega) (by omega) (by omega) false (by simp [hne])

theorem fst_some {bs p : List Int} (h : fstOf bs = some p) : 8 ≤ bs.length ∧ rd4 bs ≤ 65536 ∧ 8 + rd4 bs ≤ bs.length ∧ rd4 (bs.drop 4) = crc (bs.take 4 ++ p) ∧ p = (bs.take (8 + rd4 bs)).drop 8 ∧ p.length = rd4 bs := by
  unfold fstOf at h
  by_cases h1 : bs.length < 8 ∨ 65536 < rd4 bs ∨ bs.length < 8 + rd4 bs
  · rw [if_pos h1] at h
    cases h
  · rw [if_neg h1] at h
    by_cases h2 : rd4 (bs.drop 4) = crc (bs.take 4 ++ (bs.take (8 + rd4 bs)).drop 8)
    · rw [if_pos h2] at h
      cases h
      refine ⟨by omega, by omega, by omega, h2, rfl, ?_⟩
      simp
      omega
    · rw [if_neg h2] at h
      cases h

theorem first_yes (ao : Option Addr) (len cap : Nat) (bs p : List Int) (w : World) (ht : Tab w) (h : Held w ao len cap bs) (hf : fstOf bs = some p) :
    Calls Tryd.prog 25 #[.slice ao len cap] w fun e w' => e = .returned (.tuple #[.string (strOfNums p), .bool true]) ∧ ∃ q, w' = w.drewN q := by
  have hl := h.hlen
  obtain ⟨h8, hn, hn2, hc, hp, _⟩ := fst_some hf
  have := first_sum ao len cap bs w ht h (by omega) hn (by omega) true (by simp [← hp, hc])
  rw [← hp] at this
  simpa using this

/-- The frames from a place on: each with its place and its payload. -/
def scanFrom : Nat → Nat → List Int → List (Int × ByteArray)
  | 0, _, _ => []
  | f + 1, k, bs => match fstOf (bs.drop k) with
    | none => []
    | some p => ((k : Int), strOfNums p) :: scanFrom f (k + 8 + p.length) bs
def scanAll (bs : List Int) : List (Int × ByteArray) := scanFrom bs.length 0 bs

theorem fst_nil {bs : List Int} {k : Nat} (h : bs.length ≤ k) : fstOf (bs.drop k) = none := by
  rw [List.drop_eq_nil_of_le h]
  rfl
theorem scan_no {f k : Nat} {bs : List Int} (h : fstOf (bs.drop k) = none) : scanFrom f k bs = [] := by
  cases f with
  | zero => rfl
  | succ f => simp [scanFrom, h]

/-- What a round keeps: what lay below n, and the iterator's own box. -/
def Kp (n B : Nat) (W W' : World) : Prop := Below n W W' ∧ W'.heap[B]? = W.heap[B]?
theorem Kp.trans {n B : Nat} {x y z : World} (h : Kp n B x y) (k : Kp n B y z) : Kp n B x z := ⟨h.1.trans k.1, k.2.trans h.2⟩
theorem grownBy_dn (W : World) (q : Nat) (row : Option Nat) : W.grownBy (W.drewN q) row := ⟨rfl, rfl, rfl, Nat.le_refl _, fun _ _ _ => rfl⟩

set_option maxRecDepth 100000 in
set_option maxHeartbeats 2000000 in
theorem frames1_in (n : Nat) (hn : 1 ≤ n) (l Bs n0 : Nat) (ao : Option Addr) (len cap : Nat) (bs : List Int) (J Jx : List (Int × ByteArray) → World → Prop) (W : World)
    (hJ : AbidesFrom W.heap.size J) 
    (hY : ∀ pre x W1, J pre W1 → pre.length < (scanAll bs).length → YieldAt Fence.wide (n - 1) Tryd.prog l #[.int .i64 x.1, .string x.2] W1 fun e W' =>
      (e = .returned (.bool true) ∧ J (pre ++ [x]) W' ∧ Kp n0 Bs W1 W') ∨ (e = .returned (.bool false) ∧ Jx (pre ++ [x]) W'))
    (hB : Boxed W Bs 22 (.slice ao len cap)) (hH : ∀ W', Kp n0 Bs W W' → Held W' ao len cap bs ∧ Tab W') (h0 : J [] W) (hlen : bs.length = len) (hsmall : len ≤ 1000000000000) :
    CallsIn Fence.wide n Tryd.prog 24 #[.func (.yield l) #[] #[], .pointer (some ⟨Bs, 0, none⟩)] W fun e W' => (∃ v, e = .returned v) ∧
      ((∃ ys, ys = scanAll bs ∧ J ys W') ∨ (∃ pre, pre <+: scanAll bs ∧ Jx pre W')) := by
  refine callsIn_of_wp Tryd.func24 rfl trivial ?_ rfl
  simp only [Tryd.ntmps24, List.size_toArray, List.length_cons, List.length_nil, Nat.reduceAdd, Nat.reduceSub, Array.replicate_succ, Array.replicate_zero, List.push_toArray, List.append_toArray, List.nil_append, List.cons_append]
  gi_wp2
  gi_loopw [3] (fun i wr => ∃ (k f : Nat) (pre : List (Int × ByteArray)), k ≤ len ∧ len ≤ k + f ∧ i = .int .i64 k ∧ pre ++ scanFrom f k bs = scanAll bs ∧ J pre wr ∧ Kp n0 Bs W wr) (fun i _ => len - (intOf i).toNat)
  case atStart => exact ⟨0, len, [], by omega, by omega, rfl, by rw [scanAll, hlen]; rfl, h0, Below.refl _ _, rfl⟩
  case round =>
    obtain ⟨k, f, pre, hk, hkf, rfl, hpre, hJs, hK⟩ := hrel
    have hbx : Boxed wr Bs 22 (.slice ao len cap) := by
      unfold Boxed
      rw [hK.2]
      exact hB
    have hc := hbx.cell
    obtain ⟨hHr, hTr⟩ := hH wr hK
    have hsl := fun X => run_cut_l (P := Tryd.prog) X 22 5 Tryd.underlying22 Tryd.size5 ao len cap k (k : Int) rfl hk
    have hcut := hHr.cutl (l := k) hk
    have HJS := hid hJs
    have HK := hid hK
    have HPRE := hid hpre
    have HY := hid hY
    have HJ := hid hJ
    have HH := hid hH
    have hsz := hK.1.size
    have hJq : ∀ q, Hid (J pre (wr.drewN q)) := fun q => hJ _ _ _ none hJs (grownBy_dn _ _ _) (by intro r hr; cases hr)
    have HJQ := hid hJq
    clear hJs hK hpre hY hJ hH hJq
    cases hf : fstOf (bs.drop k) with
    | none =>
      have HCL := hid (first_no _ _ _ _ wr hTr hcut hf)
      have HE : Hid (pre = scanAll bs) := by
        show _ = _
        rw [← HPRE.out, scan_no hf, List.append_nil]
      clear hf hcut hHr hTr
      gi_wp2_with fail
      refine ⟨trivial, (callsIn_wide.2 HCL.out).mono ?_⟩
      rintro e w2 ⟨rfl, q, rfl⟩
      gi_wp2
      refine ⟨fun _ h => (by cases h), ?_⟩
      gi_wp2
      refine bodyPost_ret (results_none rfl _ _ _) rfl ?_
      exact ⟨⟨_, rfl⟩, .inl ⟨pre, HE.out, (HJQ.out q).out⟩⟩
    | some p =>
      have HCL := hid (first_yes _ _ _ _ _ wr hTr hcut hf)
      obtain ⟨h8, hn1, hn2, _, _, hpl⟩ := fst_some hf
      rw [List.length_drop] at h8 hn2
      obtain ⟨f', rfl⟩ : ∃ f', f = f' + 1 := ⟨f - 1, by omega⟩
      have hS : (strOfNums p).size = p.length := strOfNums_size p
      have HP2 : Hid (pre ++ [((k : Int), strOfNums p)] ++ scanFrom f' (k + 8 + p.length) bs = scanAll bs) := by
        show _ = _
        rw [← HPRE.out]
        simp [scanFrom, hf]
      have hll : pre.length < (scanAll bs).length := by
        rw [← HP2.out]
        simp
      obtain ⟨S, hSe⟩ : ∃ S, S = strOfNums p := ⟨_, rfl⟩
      rw [← hSe] at HCL HP2 hS
      have hS2 : S.size ≤ 65536 := by omega
      have hkS : k + 8 + S.size ≤ len := by omega
      rw [← hS] at HP2
      clear hf hcut hHr hTr h8 hn1 hn2 hpl hSe hS
      gi_wp2_with fail
      refine ⟨trivial, (callsIn_wide.2 HCL.out).mono ?_⟩
      rintro e w2 ⟨rfl, q, rfl⟩
      obtain ⟨fn, tmps, assign, body, hy, hR⟩ := HY.out pre ((k : Int), S) (wr.drewN q) (HJQ.out q).out hll
      dsimp only at hy
      gi_wp2
      refine hR.mono ?_
      rintro e W3 (⟨rfl, hJ3, hk3⟩ | ⟨rfl, hJx3⟩)
      · have HK3 : Hid (Kp n0 Bs W W3) := HK.out.trans (Kp.trans ⟨below_dn (Below.refl _ _) _, rfl⟩ hk3)
        have HJ3 := hid hJ3
        clear hJ3 hk3 hR hy
        gi_wp2
        go_roundw
        case rel => exact ⟨k + 8 + S.size, f', pre ++ [((k : Int), S)], by omega, by omega, by go_num, HP2.out, HJ3.out, HK3.out⟩
        case measure => simp [intOf]; omega
      · gi_wp2
        refine bodyPost_ret (results_none rfl _ _ _) rfl ?_
        exact ⟨⟨_, rfl⟩, .inr ⟨pre ++ [((k : Int), S)], ⟨_, HP2.out⟩, hJx3⟩⟩
end Go.Proofs.YtmokelmeihmeiabDoor
