/-
  Package net: the iterator To answers: each packet for a node, in order.
-/
import Derived.Test.YtoacfdicjpoohaaNdE
import Derived.Test.YtoacfdicjpoohaaSeqNH
import Derived.Test.YtoacfdicjpoohaaRoundQuiet
import Derived.Sort.CutIn
namespace Go.Proofs.Ytoacfdicjpoohaa
open Go.RowKit Go.Shelf Go.Maps
attribute [local go_sem] Oper.semAt_some

/-- The item that comes behind these. -/
def ItemN (ys pr : List Pk) (x : Pk) : Prop := ∃ h : pr.length < ys.length, x = ys[pr.length] ∧ pr = ys.take pr.length
set_option maxRecDepth 100000 in
set_option maxHeartbeats 2000000 in
theorem to_inG (n : Nat) (hn : 1 ≤ n) (l q0 q1 : Nat) (Kp : World → World → Prop) {W : World} (hKf : ∀ {A B : World}, Kp A B → Turns (fun k => k < W.heap.size) A B) {p bm : Nat} {v : Value} {g : Nt} {D : DataW Value} {node : Int} (J Jx : List Pk → World → Prop) (hJ : OwnFrom W.heap.size J)
    (hY : ∀ pr x V, J pr V → ItemN (toN g.ps node) pr x → YieldAt Fence.wide (n - 1) Try.prog l #[x.val] V fun e V' =>
      (e = .returned (.bool true) ∧ J (pr ++ [x]) V' ∧ Kp V V') ∨ (e = .returned (.bool false) ∧ Jx (pr ++ [x]) V'))
    (h : NetAt W p bm v g.nodes g.last g.ps D) (hlast : g.last ≤ 4611686018427387904) (b0 : Boxed W q0 23 (.pointer (some ⟨p, 0, none⟩))) (b1 : Boxed W q1 3 (.int .i64 node)) (h0 : J [] W) :
    CallsIn Fence.wide n Try.prog 31 #[.func (.yield l) #[] #[], .pointer (some ⟨q0, 0, none⟩), .pointer (some ⟨q1, 0, none⟩)] W fun e W' => (∃ v, e = .returned v) ∧
      ((∃ ys, ys = toN g.ps node ∧ J ys W') ∨ (∃ pr, Jx pr W')) := by
  have HJ := hid hJ
  have HY := hid hY
  have HKF : Hid (∀ A B : World, Kp A B → Turns (fun k => k < W.heap.size) A B) := fun A B h => hKf h
  have H0 := hid h0
  have HTT := hid (toThose h hlast q1 node b1)
  obtain ⟨ys, HYS⟩ : ∃ ys, Hid (toN g.ps node = ys) := ⟨_, hid rfl⟩
  have HFW : Hid (ys.length ≤ 65536) := by
    rw [← HYS.out]
    have h1 : (toN g.ps node).length ≤ g.ps.length := List.length_filter_le _ _
    have := h.few
    exact (by omega : (toN g.ps node).length ≤ 65536)
  rw [HYS.out] at HY HTT ⊢
  have c0 := b0.cell
  clear hJ hY hKf h0 h hlast b0 b1
  refine callsIn_of_wp Try.func31 rfl trivial ?_ rfl
  simp only [Try.ntmps31, List.size_toArray, List.length_cons, List.length_nil, Nat.reduceAdd, Nat.reduceSub, Array.replicate_succ, Array.replicate_zero, List.push_toArray, List.append_toArray, List.nil_append, List.cons_append]
  gi_wp2_with fail
  refine ⟨trivial, (callsIn_wide.2 HTT.out).mono ?_⟩
  rintro e w2 ⟨v2, rfl, hown, hb2⟩
  obtain ⟨vo, vc, hvo⟩ := own_slice hown
  subst hvo
  have HOW := hid hown
  obtain ⟨L, HL⟩ : ∃ L, Hid (ys.length = L) := ⟨_, hid rfl⟩
  rw [HL.out] at HOW ⊢
  have HJ2 : Hid (J [] w2) := HJ.out [] W w2 none H0.out ⟨hb2.os, hb2.tape, hb2.output, hb2.size, fun k hk _ => hb2.block k hk⟩ (fun r e => by cases e)
  clear hown hb2 HTT c0
  gi_wp2
  gi_loopw [10] (fun i wr => ∃ c : Nat, i = .int .i64 (c : Int) ∧ Hid (c ≤ L) ∧ Hid (J (ys.take c) wr ∧ wr.ownsRow W.heap.size 36 4 (.slice vo L vc) L (flat ys))) (fun i _ => L - (intOf i).toNat)
  case atStart => exact ⟨0, rfl, Nat.zero_le _, HJ2.out, HOW.out⟩
  case round =>
    obtain ⟨c, rfl, HC, HR⟩ := hrel
    by_cases hlt : c < L
    · have hlt' : (c : Int) < (L : Int) := by omega
      have hc0 : (0 : Int) ≤ (c : Int) := by omega
      have HCM : Hid (c + 1 ≤ L) := (by omega : c + 1 ≤ L)
      have HCX : Hid (c < ys.length) := by rw [HL.out]; exact hlt
      have hwc : wrap64 ((c : Int) + 1) = (c : Int) + 1 := wrapN (by omega) (by have := HFW.out; have := HL.out; omega)
      obtain ⟨ao, cp, hae, _, hheld⟩ := heldPk_of_own HL.out HR.out.2
      cases hae
      obtain ⟨b, off, hao, _, d0, d1, d2, d3⟩ := hheld.cellsD HCX.out
      have HTK : Hid (ys.take (c + 1) = ys.take c ++ [ys[c]'HCX.out]) := take_snoc_pk HCX.out
      have HIT : Hid (ItemN ys (ys.take c) (ys[c]'HCX.out)) := by
        have hl : (ys.take c).length = c := by rw [List.length_take]; have := HCX.out; omega
        refine ⟨by rw [hl]; exact HCX.out, by simp only [hl], by rw [hl]⟩
      obtain ⟨q, HQ⟩ : ∃ q, Hid (ys[c]'HCX.out = q) := ⟨_, hid rfl⟩
      rw [HQ.out] at d0 d1 d2 d3 HTK HIT
      obtain ⟨qi, qf, qd, qb⟩ := q
      simp only at d0 d1 d2 d3
      subst hao
      have hj3 : J (ys.take c) (wr.alloc (.cells #[.int .i64 qi, .int .i64 qf, .int .i64 qd, .string qb] 36)) := HJ.out.alloc _ HR.out.1
      have HRW3 : Hid ((wr.alloc (.cells #[.int .i64 qi, .int .i64 qf, .int .i64 qd, .string qb] 36)).ownsRow W.heap.size 36 4 (.slice (some ⟨b, off, none⟩) L vc) L (flat ys)) := HR.out.2.alloc _
      obtain ⟨fn, tmps, assign, body, hy, hRR⟩ := HY.out (ys.take c) ⟨qi, qf, qd, qb⟩ _ hj3 HIT.out
      have HRR := hid hRR
      simp only [Pk.val] at hy
      clear hRR hj3 HR hlt hheld
      gi_wp2
      refine HRR.out.mono ?_
      rintro e W3 (⟨rfl, hJ3, hk3⟩ | ⟨rfl, hJx3⟩)
      · have HJ3 : Hid (J (ys.take (c + 1)) W3) := by rw [HTK.out]; exact hJ3
        have HRW4 : Hid (W3.ownsRow W.heap.size 36 4 (.slice (some ⟨b, off, none⟩) L vc) L (flat ys)) := (HKF.out _ _ hk3).row HRW3.out (fun k hk e => by have := (HRW3.out.lt k hk).1; omega)
        clear hJ3 hk3 HRR hy
        gi_wp2
        go_roundw
        case rel => exact ⟨c + 1, by go_num, HCM.out, HJ3.out, HRW4.out⟩
        case measure => first | exact measNW HCM.out hwc | exact measN1 HCM.out
      · have HJ3 := hid hJx3
        clear hJx3 HRR hy
        gi_wp2
        refine bodyPost_ret (results_none rfl _ _ _) rfl ?_
        exact ⟨⟨_, rfl⟩, .inr ⟨_, HJ3.out⟩⟩
    · have hlt' : ¬ (c : Int) < (L : Int) := by omega
      have HE : Hid (ys.take c = ys) := List.take_of_length_le (by have := HL.out; omega)
      have HJE : Hid (J ys wr) := by have := HR.out.1; rw [HE.out] at this; exact this
      gi_wp2
      refine bodyPost_end (results_none rfl _ _ _) rfl ?_
      first | exact ⟨⟨_, rfl⟩, .inl ⟨ys, rfl, HJE.out⟩⟩ | exact ⟨⟨_, rfl⟩, .inl HJE.out⟩
end Go.Proofs.Ytoacfdicjpoohaa
