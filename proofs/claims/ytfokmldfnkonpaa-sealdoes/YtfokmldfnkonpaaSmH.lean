/-
  cut.Check of any seals.
-/
import Derived.Test.YtfokmldfnkonpaaMayA
import Derived.Test.YtfokmldfnkonpaaSealK
import Derived.Test.YtfokmldfnkonpaaCartK
namespace Go.Proofs.Ytfokmldfnkonpaa
open Go.RowKit Go.Maps

/-- A seal counted as one of its cart. -/
def cev (x : SlM) : Ev := ⟨0, 0, [], ⟨#[]⟩, 0, x.e.cart, 1, false⟩
theorem qty_cev (name : ByteArray) : ∀ l : List SlM, qtyOf name (l.map cev) = (ownOf name l).length
  | [] => rfl
  | x :: r => by
    have h := qty_cev name r
    unfold ownOf at h ⊢
    rw [List.map_cons, List.filter_cons]
    unfold qtyOf
    rw [h]
    by_cases e : x.e.cart = name
    · have e' : (cev x).sku = name := e
      rw [if_pos e', if_pos (by simpa using e), List.length_cons]
      show (1 : Int) + _ = _
      omega
    · have e' : ¬ (cev x).sku = name := e
      rw [if_neg e', if_neg (by simpa using e)]
      omega
theorem cev_take {xs : List SlM} {k : Nat} (h : k < xs.length) : (xs.take (k + 1)).map cev = (xs.take k).map cev ++ [cev xs[k]] := by
  rw [List.take_succ_eq_append_getElem h, List.map_append]
  rfl
def CheckQ (w : World) (ss : List SlM) (e : Ending) (w' : World) : Prop := (∃ i c : Int, e = .returned (.tuple #[.int .i64 i, .int .i64 c]) ∧ (c = 0 ∧ FollowTo ss ss.length ∨ c = 120 ∧ ¬ FollowTo ss ss.length)) ∧ Below w.heap.size w w'
set_option maxRecDepth 1000000 in
set_option maxHeartbeats 4000000 in
theorem check_any (w : World) (ao : Option Addr) (cap : Nat) (xs : List SlM) (n : Nat) (hn : xs.length = n) (h : HeldSl w ao xs) (hl : n ≤ 100000000) :
    Calls Try.prog 27 #[.slice ao n cap] w (CheckQ w xs) := by
  have hmm := @run_makeMap Try.prog
  have HN := hid hn
  have H := hid h
  obtain ⟨W0, hW0⟩ : ∃ W, W = w.alloc (.map #[] 0) := ⟨_, rfl⟩
  have HB0 : Hid (Below w.heap.size w W0) := by rw [hW0]; exact (Below.refl _ _).alloc (Nat.le_refl _) _
  have HM0 : Hid (SumsAt W0 w.heap.size 0 (.map []) []) := by rw [hW0]; exact SumsAt.new w
  have HW0 := hid hW0
  clear hn h hW0
  go_enter Try.func27, Try.ntmps27
  go_wp2
  rw [← HW0.out]
  obtain ⟨mm, hmmm⟩ : ∃ p, p = w.heap.size := ⟨_, rfl⟩
  rw [← hmmm] at HM0 ⊢
  have HMM := hid hmmm
  clear hmmm
  go_loopw [5, 6, 7, 8, 12] (fun _ _ _ _ i wr => ∃ k : Nat, k ≤ n ∧ i = .int .i64 k ∧ Hid (FollowTo xs k ∧ (∃ D N, N ≤ k ∧ SumsAt wr mm N D ((xs.take k).map cev)) ∧ Below w.heap.size w wr)) (fun _ _ _ _ i _ => n - (intOf i).toNat)
  case atStart => exact ⟨0, Nat.zero_le _, rfl, fun a _ ha => absurd ha (Nat.not_lt_zero _), ⟨_, 0, Nat.le_refl _, HM0.out⟩, HB0.out⟩
  case round =>
    obtain ⟨k, hk, rfl, HR⟩ := hrel
    by_cases hlt : k < n
    · have hlt' : (k : Int) < (n : Int) := by omega
      have hkx : Hid (k < xs.length) := (by rw [HN.out]; exact hlt : k < xs.length)
      obtain ⟨bb, off, hao, hbb, g0, g1, g2, g3⟩ := (H.out.below HR.out.2.2).at hkx.out
      have HKM : Hid (k + 1 ≤ n) := (by omega : k + 1 ≤ n)
      have HOX := hid ((H.out.1 _ (List.getElem_mem hkx.out)).below HR.out.2.2)
      have HTK := hid (cev_take hkx.out)
      have HNF : Hid (FollowTo xs xs.length → RightSl (xs[k]'hkx.out).e = true ∧ (xs[k]'hkx.out).e.ep = (ownOf (xs[k]'hkx.out).e.cart (xs.take k)).length) := fun h => h k hkx.out hkx.out
      have HNX : Hid (RightSl (xs[k]'hkx.out).e = true → (xs[k]'hkx.out).e.ep = (ownOf (xs[k]'hkx.out).e.cart (xs.take k)).length → FollowTo xs (k + 1)) := fun h1 h2 a ha hak => by
        by_cases e : a = k
        · subst e
          exact ⟨h1, h2⟩
        · exact HR.out.1 a ha (by omega)
      obtain ⟨D, N, hNk, hsum⟩ := HR.out.2.1
      have HSU := hid hsum
      have HNK := hid hNk
      subst hao
      obtain ⟨X, HX⟩ : ∃ X, Hid (xs[k]'hkx.out = X) := ⟨_, hid rfl⟩
      rw [HX.out] at g0 g1 g2 g3 HNX HNF HOX HTK
      have HQ := hid (qty_cev X.e.cart (xs.take k))
      obtain ⟨⟨tok, cart, ep, cut⟩, ao1, cap1⟩ := X
      obtain ⟨XN, HXN⟩ : ∃ m, Hid (cut.length = m) := ⟨_, hid rfl⟩
      simp only at g0 g1 g2 g3 HNX HNF HQ
      obtain ⟨z, HZ⟩ : ∃ z, Hid ((ownOf cart (xs.take k)).length = z) := ⟨_, hid rfl⟩
      rw [HZ.out] at HNX HNF HQ
      obtain ⟨W1, hW1⟩ : ∃ W, W = wr.alloc (.cells #[.string tok, .string cart, .int .i64 ep, .slice ao1 XN cap1] 37) := ⟨_, rfl⟩
      have HB1 : Hid (Below wr.heap.size wr W1) := by rw [hW1]; exact (Below.refl _ _).alloc (Nat.le_refl _) _
      have HK1 : Hid (Blk W1 wr.heap.size 37 [.string tok, .string cart, .int .i64 ep, .slice ao1 XN cap1]) := by rw [hW1]; exact Blk.new wr _ _
      have HSL := hid (seal_any W1 ⟨⟨tok, cart, ep, cut⟩, ao1, cap1⟩ (HOX.out.below HB1.out))
      unfold SealP at HSL
      simp only [SlM.val] at HSL
      rw [HXN.out] at g3 HSL
      have HCS : Hid (cart.size ≤ maxLen) := HOX.out.hc
      have HW1 := hid hW1
      clear hW1 hsum hNk hbb
      go_wp2_with fail
      rw [← HW1.out]
      obtain ⟨p, hp⟩ : ∃ p, p = wr.heap.size := ⟨_, rfl⟩
      rw [← hp] at HK1 ⊢
      have HPP := hid hp
      clear hp
      refine HSL.out.mono ?_
      rintro e w2 ⟨hpp, hb2⟩
      have hk2 := HK1.out.below hb2 HK1.out.lt
      have c1 := hk2.cell (i := 1) rfl
      have c2 := hk2.cell (i := 2) rfl
      have HB2 : Hid (Below w.heap.size w w2) := bt HR.out.2.2 (bt HB1.out hb2)
      have HS2 := hid ((HSU.out.below HB1.out).below hb2)
      clear hb2 hk2 HSL
      by_cases hr : RightSl ⟨tok, cart, ep, cut⟩ = true
      rotate_left 1
      · rw [if_neg hr] at hpp
        subst hpp
        have HNO := hid (fun hh => hr (HNF.out hh).1)
        clear hr
        go_wp2
        go_ret2
        exact ⟨⟨_, 120, rfl, .inr ⟨rfl, HNO.out⟩⟩, HB2.out⟩
      rw [if_pos hr] at hpp
      obtain ⟨v, rfl, _⟩ := hpp
      have HRR := hid hr
      have hlk := HS2.out.lookup HCS.out
      rw [HQ.out] at hlk
      clear hr
      by_cases he : ep = (z : Int)
      rotate_left 1
      · have hbn : (ep != (z : Int)) = true := by simp [he]
        have HNO := hid (fun hh => he (HNF.out hh).2)
        clear he
        go_wp2
        go_ret2
        exact ⟨⟨_, 120, rfl, .inr ⟨rfl, HNO.out⟩⟩, HB2.out⟩
      have HF := hid (HNX.out HRR.out he)
      have hbn : (ep != (z : Int)) = false := by simp [he]
      have hzk : z ≤ k := by
        have h1 := ownOf_len cart (xs.take k)
        rw [List.length_take, HZ.out] at h1
        omega
      have hadd : IntKind.i64.wrap ((z : Int) + 1) = (z : Int) + 1 := by rw [IntKind.wrap_i64]; omega
      obtain ⟨w3, hrun, ⟨D', hs3⟩, ht3⟩ := HS2.out.put (by have := HNK.out; unfold maxLen; omega) (cev ⟨⟨tok, cart, ep, cut⟩, ao1, cap1⟩) HCS.out
      have hrun' : (Instr.mapUpdate 58 (.map (some mm)) (.string cart) (.int .i64 ((z : Int) + 1))).run Try.prog w2 = .ok () w3 := by
        rw [← HQ.out]
        exact hrun
      have HS3 := hid hs3
      have HB3 : Hid (Below w.heap.size w w3) := HB2.out.trans (ht3.below (fun i hi => by rw [hi, HMM.out]; exact Nat.le_refl _) HB2.out.size)
      clear he hs3 ht3 hrun
      go_wp2
      go_roundw
      case rel =>
        refine ⟨k + 1, HKM.out, by go_num, HF.out, ⟨D', N + 1, by have := HNK.out; omega, ?_⟩, HB3.out⟩
        rw [HTK.out]
        exact HS3.out
      case measure => simp [intOf]; have := HKM.out; omega
    · have hlt' : ¬ (k : Int) < (n : Int) := by omega
      have HKE : Hid (FollowTo xs xs.length) := by
        have := HR.out.1
        rw [show k = xs.length by rw [HN.out]; omega] at this
        exact this
      go_wp2
      go_ret2
      exact ⟨⟨_, 0, rfl, .inl ⟨rfl, HKE.out⟩⟩, HR.out.2.2⟩
end Go.Proofs.Ytfokmldfnkonpaa
/-
  Package seal: Seals.
-/
namespace Go.Proofs.Ytfokmldfnkonpaa
open Go.RowKit Go.Maps

/-- An order's seal. -/
def slO (o : Or) : Sl := ⟨o.tok, o.cart, o.ep, o.cut⟩
/-- What Seals tells. -/
def SealsP (w : World) (os : List Or) (e : Ending) (w' : World) : Prop := ∃ ao cap ss, e = .returned (.slice ao os.length cap) ∧ ss.map SlM.e = os.map slO ∧ HeldSl w' ao ss ∧ Below w.heap.size w w'
/-- What lies between two rounds of Seals. -/
def CollSl (w : World) (os : List Or) (k : Nat) (out : Value) (wr : World) : Prop := ∃ ss : List SlM, ss.map SlM.e = (os.take k).map slO ∧ wr.ownsRow w.heap.size 37 4 out k (flatS ss) ∧ (∀ x ∈ ss, OrKeep wr ⟨⟨0, x.e.tok, x.e.cart, x.e.ep, x.e.cut⟩, x.ao, x.cap⟩) ∧ Below w.heap.size w wr
set_option maxRecDepth 1000000 in
set_option maxHeartbeats 2000000 in
theorem SmAt.seals {B : Nat} {w : World} {p mi me : Nat} {v : Value} {g : Sm} (h : SmAt B w p mi me v g) : Calls Try.prog 25 #[.pointer (some ⟨p, 0, none⟩)] w (SealsP w g.os) := by
  have HOR := hid h.orders
  obtain ⟨N, HN⟩ : ∃ N, Hid (g.os.length = N) := ⟨_, hid rfl⟩
  unfold OrdersP at HOR
  rw [HN.out] at HOR
  have HF : Hid (N ≤ 65536) := by rw [← HN.out]; exact h.ok.few
  clear h
  go_enter Try.func25, Try.ntmps25
  go_wp2_with fail
  refine HOR.out.mono ?_
  rintro e w1 ⟨ro, rcap, ys, rfl, hy1, hy2, hy3, hb1⟩
  have HYL : Hid (ys.length = N) := by rw [← HN.out, ← hy1]; show _ = _; simp
  obtain ⟨ro', rcap', hre, hrc, hh⟩ := heldOr_of_own HYL.out hy2
  cases hre
  have HH := hid hh
  have HY1 := hid hy1
  have HY3 := hid hy3
  have HB1 := hid hb1
  have HST : Hid (CollSl w1 g.os 0 (.slice none 0 0) w1) := ⟨[], rfl, ⟨rfl, .inl ⟨rfl, rfl⟩⟩, fun x hx => (by cases hx), Below.refl _ _⟩
  clear hy1 hy2 hy3 hb1 hrc hh HOR
  go_wp2
  go_loopw [3, 5, 9] (fun out _ i wr => ∃ k : Nat, k ≤ N ∧ i = .int .i64 k ∧ Hid (CollSl w1 g.os k out wr)) (fun _ _ i _ => N - (intOf i).toNat)
  case atStart => exact ⟨0, Nat.zero_le _, rfl, HST.out⟩
  case round =>
    obtain ⟨k, hk, rfl, HR⟩ := hrel
    by_cases hlt : k < N
    · have hlt' : (k : Int) < (N : Int) := by omega
      have hkx : Hid (k < ys.length) := (by rw [HYL.out]; exact hlt : k < ys.length)
      have HKG : Hid (k < g.os.length) := (by rw [HN.out]; exact hlt : k < g.os.length)
      have HKM : Hid (k + 1 ≤ N) := (by omega : k + 1 ≤ N)
      obtain ⟨ss, hy1, hy2, hy3, hy4⟩ := HR.out
      obtain ⟨bb, off, hao, hbb, g0, g1, g2, g3, g4⟩ := (HH.out.below hy4).at hkx.out
      have HOX := hid ((HY3.out _ (List.getElem_mem hkx.out)).below hy4)
      have HGE : Hid (g.os[k]'HKG.out = (ys[k]'hkx.out).e) := by
        show _ = _
        have := HY1.out
        simp only [← this]
        simp
      subst hao
      obtain ⟨X, HX⟩ : ∃ X, Hid (ys[k]'hkx.out = X) := ⟨_, hid rfl⟩
      rw [HX.out] at g0 g1 g2 g3 g4 HOX HGE
      have HS1 := hid hy1
      have HS2 := hid hy2
      have HS3 := hid hy3
      have HS4 := hid hy4
      have HSL : Hid (ss.length = k) := by
        have h1 := congrArg List.length hy1
        simp at h1
        have h2 := HKG.out
        show _ = _
        omega
      obtain ⟨⟨xid, tk, ct, ep, dp⟩, ao1, cap1⟩ := X
      obtain ⟨XN, HXN⟩ : ∃ m, Hid (dp.length = m) := ⟨_, hid rfl⟩
      simp only at g0 g1 g2 g3 g4
      rw [HXN.out] at g4
      obtain ⟨W1, hW1⟩ : ∃ W, W = wr.alloc (.cells #[.int .i64 xid, .string tk, .string ct, .int .i64 ep, .slice ao1 XN cap1] 32) := ⟨_, rfl⟩
      have HBA : Hid (Below wr.heap.size wr W1) := by rw [hW1]; exact (Below.refl _ _).alloc (Nat.le_refl _) _
      have HW1 := hid hW1
      have HROW : Hid ((wr.alloc (.cells #[.int .i64 xid, .string tk, .string ct, .int .i64 ep, .slice ao1 XN cap1] 32)).ownsRow w1.heap.size 37 4 u3 k (flatS ss)) := (Turns.of_below (F := fun _ => False) (hW1 ▸ HBA.out) (Nat.le_refl _)).row hy2 (fun _ _ h => h)
      have HBY : Hid (w1.heap.size ≤ (wr.alloc (.cells #[.int .i64 xid, .string tk, .string ct, .int .i64 ep, .slice ao1 XN cap1] 32)).heap.size) := Nat.le_trans hy4.size (hW1 ▸ HBA.out).size
      have hmn : k < 1466015503701 := by have := HF.out; omega
      have hw0 : wrap64 ((k : Int) + 1) = (k : Int) + 1 := wrapO (by omega) (by have := HF.out; omega)
      clear hW1 hy1 hy2 hy3 hy4 hbb
      go_wp2_with (at_builtin; refine wpList_append_sl' (wr.alloc (.cells #[.int .i64 xid, .string tk, .string ct, .int .i64 ep, .slice ao1 XN cap1] 32)) _ ⟨⟨tk, ct, ep, dp⟩, ao1, cap1⟩ ?_ rfl _ _ rfl w1.heap.size _ ss _ HSL.out rfl _ rfl (by simp) HROW.out HBY.out hmn ?_; (show _ = _; simp only [SlM.cells]; rw [HXN.out]); intro v' w3 hown hbel hgr; have HO3 := hid hown; have HB3 := hid hbel; have HG3 := hid hgr; clear hown hbel hgr)
      go_roundw
      case rel =>
        rw [← HW1.out] at HROW HB3
        refine ⟨k + 1, HKM.out, by go_num, ss ++ [⟨⟨tk, ct, ep, dp⟩, ao1, cap1⟩], ?_, HO3.out, ?_, (bt' HS4.out HBA.out).trans HB3.out⟩
        · rw [or_take HKG.out, List.map_append, List.map_append, HS1.out, HGE.out]
          rfl
        · have ht : Turns (fun i => u3.ownBlock = some i) wr w3 := (((Turns.refl (fun i => u3.ownBlock = some i) wr).alloc _).alloc _).grown HG3.out (fun k hk => .inl hk)
          have hno := noN_row HS2.out (by decide)
          intro y hy
          rcases List.mem_append.1 hy with h1 | h1
          · exact (HS3.out y h1).turned hno ht
          · simp at h1
            subst h1
            exact (OrKeep.mk (x := ⟨⟨0, tk, ct, ep, dp⟩, ao1, cap1⟩) ⟨HOX.out.ok.cut, i64_zeroS, HOX.out.ok.ie, HOX.out.ok.ht, HOX.out.ok.hc⟩ HOX.out.num).turned hno ht
      case measure => simp [intOf]; have := HKM.out; omega
    · have hlt' : ¬ (k : Int) < (N : Int) := by omega
      obtain ⟨ss, hy1, hy2, hy3, hy4⟩ := HR.out
      have HE : Hid (SealsP w g.os (.returned u3) wr) := by
        have hk' : k = g.os.length := by rw [HN.out]; omega
        subst hk'
        rw [List.take_length] at hy1
        have hl : ss.length = g.os.length := by have h1 := congrArg List.length hy1; simpa using h1
        obtain ⟨eo, cp, hv, _, hh⟩ := heldSl_of_own hl hy2 (fun x hx => ⟨(hy3 x hx).ok.cut, (hy3 x hx).ok.ie, (hy3 x hx).ok.ht, (hy3 x hx).ok.hc⟩)
        subst hv
        exact ⟨eo, cp, ss, rfl, hy1, hh, bt' HB1.out hy4⟩
      clear hy1 hy2 hy3 hy4
      go_wp2
      go_ret
      exact HE.out
end Go.Proofs.Ytfokmldfnkonpaa
