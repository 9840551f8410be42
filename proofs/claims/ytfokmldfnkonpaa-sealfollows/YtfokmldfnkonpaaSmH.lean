/-
  Package seal: Seals.
-/
import Derived.Test.YtfokmldfnkonpaaSmH0
import Derived.Test.YtfokmldfnkonpaaSealL
namespace Go.Proofs.Ytfokmldfnkonpaa
open Go.RowKit Go.Maps

/-- An order's seal. -/
def slO (o : Or) : Sl := ⟨o.tok, o.cart, o.ep, o.cut⟩
/-- What Seals tells. -/
def SealsP (w : World) (os : List Or) (e : Ending) (w' : World) : Prop := ∃ ao cap ss, e = .returned (.slice ao os.length cap) ∧ ss.map SlM.e = os.map slO ∧ HeldSl w' ao ss ∧ Below w.heap.size w w'
/-- What lies between two rounds of Seals. -/
def CollSl (w : World) (os : List Or) (k : Nat) (out : Value) (wr : World) : Prop := ∃ ss : List SlM, ss.map SlM.e = (os.take k).map slO ∧ wr.ownsRow w.heap.size 37 4 out k (flatS ss) ∧ (∀ x ∈ ss, OrKeep wr ⟨⟨0, x.e.tok, x.e.cart, x.e.ep, x.e.cut⟩, x.ao, x.cap⟩) ∧ Below w.heap.size w wr
set_option maxRecDepth 1000000 in
set_option maxHeartbeats 2000000 in
theorem SmAt.seals {B : Nat} {w : World} {p mi me : Nat} {v : Value} {g : Sm} (h : SmAt B w p mi me v g) : Calls Try.prog 25 #[.pointer (some ⟨p, 0, none⟩)] w (SealsP w g.os) := by
  have HOR := hid h.orders
  obtain ⟨N, HN⟩ : ∃ N, Hid (g.os.length = N) := ⟨_, hid rfl⟩
  unfold OrdersP at HOR
  rw [HN.out] at HOR
  have HF : Hid (N ≤ 65536) := by rw [← HN.out]; exact h.ok.few
  clear h
  go_enter Try.func25, Try.ntmps25
  go_wp2_with fail
  refine HOR.out.mono ?_
  rintro e w1 ⟨ro, rcap, ys, rfl, hy1, hy2, hy3, hb1⟩
  have HYL : Hid (ys.length = N) := by rw [← HN.out, ← hy1]; show _ = _; simp
  obtain ⟨ro', rcap', hre, hrc, hh⟩ := heldOr_of_own HYL.out hy2
  cases hre
  have HH := hid hh
  have HY1 := hid hy1
  have HY3 := hid hy3
  have HB1 := hid hb1
  have HST : Hid (CollSl w1 g.os 0 (.slice none 0 0) w1) := ⟨[], rfl, ⟨rfl, .inl ⟨rfl, rfl⟩⟩, fun x hx => (by cases hx), Below.refl _ _⟩
  clear hy1 hy2 hy3 hb1 hrc hh HOR
  go_wp2
  go_loopw [3, 5, 9] (fun out _ i wr => ∃ k : Nat, k ≤ N ∧ i = .int .i64 k ∧ Hid (CollSl w1 g.os k out wr)) (fun _ _ i _ => N - (intOf i).toNat)
  case atStart => exact ⟨0, Nat.zero_le _, rfl, HST.out⟩
  case round =>
    obtain ⟨k, hk, rfl, HR⟩ := hrel
    by_cases hlt : k < N
    · have hlt' : (k : Int) < (N : Int) := by omega
      have hkx : Hid (k < ys.length) := (by rw [HYL.out]; exact hlt : k < ys.length)
      have HKG : Hid (k < g.os.length) := (by rw [HN.out]; exact hlt : k < g.os.length)
      have HKM : Hid (k + 1 ≤ N) := (by omega : k + 1 ≤ N)
      obtain ⟨ss, hy1, hy2, hy3, hy4⟩ := HR.out
      obtain ⟨bb, off, hao, hbb, g0, g1, g2, g3, g4⟩ := (HH.out.below hy4).at hkx.out
      have HOX := hid ((HY3.out _ (List.getElem_mem hkx.out)).below hy4)
      have HGE : Hid (g.os[k]'HKG.out = (ys[k]'hkx.out).e) := by
        show _ = _
        have := HY1.out
        simp only [← this]
        simp
      subst hao
      obtain ⟨X, HX⟩ : ∃ X, Hid (ys[k]'hkx.out = X) := ⟨_, hid rfl⟩
      rw [HX.out] at g0 g1 g2 g3 g4 HOX HGE
      have HS1 := hid hy1
      have HS2 := hid hy2
      have HS3 := hid hy3
      have HS4 := hid hy4
      have HSL : Hid (ss.length = k) := by
        have h1 := congrArg List.length hy1
        simp at h1
        have h2 := HKG.out
        show _ = _
        omega
      obtain ⟨⟨xid, tk, ct, ep, dp⟩, ao1, cap1⟩ := X
      obtain ⟨XN, HXN⟩ : ∃ m, Hid (dp.length = m) := ⟨_, hid rfl⟩
      simp only at g0 g1 g2 g3 g4
      rw [HXN.out] at g4
      obtain ⟨W1, hW1⟩ : ∃ W, W = wr.alloc (.cells #[.int .i64 xid, .string tk, .string ct, .int .i64 ep, .slice ao1 XN cap1] 32) := ⟨_, rfl⟩
      have HBA : Hid (Below wr.heap.size wr W1) := by rw [hW1]; exact (Below.refl _ _).alloc (Nat.le_refl _) _
      have HW1 := hid hW1
      have HROW : Hid ((wr.alloc (.cells #[.int .i64 xid, .string tk, .string ct, .int .i64 ep, .slice ao1 XN cap1] 32)).ownsRow w1.heap.size 37 4 u3 k (flatS ss)) := (Turns.of_below (F := fun _ => False) (hW1 ▸ HBA.out) (Nat.le_refl _)).row hy2 (fun _ _ h => h)
      have HBY : Hid (w1.heap.size ≤ (wr.alloc (.cells #[.int .i64 xid, .string tk, .string ct, .int .i64 ep, .slice ao1 XN cap1] 32)).heap.size) := Nat.le_trans hy4.size (hW1 ▸ HBA.out).size
      have hmn : k < 1466015503701 := by have := HF.out; omega
      have hw0 : wrap64 ((k : Int) + 1) = (k : Int) + 1 := wrapO (by omega) (by have := HF.out; omega)
      clear hW1 hy1 hy2 hy3 hy4 hbb
      go_wp2_with (at_builtin; refine wpList_append_sl' (wr.alloc (.cells #[.int .i64 xid, .string tk, .string ct, .int .i64 ep, .slice ao1 XN cap1] 32)) _ ⟨⟨tk, ct, ep, dp⟩, ao1, cap1⟩ ?_ rfl _ _ rfl w1.heap.size _ ss _ HSL.out rfl _ rfl (by simp) HROW.out HBY.out hmn ?_; (show _ = _; simp only [SlM.cells]; rw [HXN.out]); intro v' w3 hown hbel hgr; have HO3 := hid hown; have HB3 := hid hbel; have HG3 := hid hgr; clear hown hbel hgr)
      go_roundw
      case rel =>
        rw [← HW1.out] at HROW HB3
        refine ⟨k + 1, HKM.out, by go_num, ss ++ [⟨⟨tk, ct, ep, dp⟩, ao1, cap1⟩], ?_, HO3.out, ?_, (bt' HS4.out HBA.out).trans HB3.out⟩
        · rw [or_take HKG.out, List.map_append, List.map_append, HS1.out, HGE.out]
          rfl
        · have ht : Turns (fun i => u3.ownBlock = some i) wr w3 := (((Turns.refl (fun i => u3.ownBlock = some i) wr).alloc _).alloc _).grown HG3.out (fun k hk => .inl hk)
          have hno := noN_row HS2.out (by decide)
          intro y hy
          rcases List.mem_append.1 hy with h1 | h1
          · exact (HS3.out y h1).turned hno ht
          · simp at h1
            subst h1
            exact (OrKeep.mk (x := ⟨⟨0, tk, ct, ep, dp⟩, ao1, cap1⟩) ⟨HOX.out.ok.cut, i64_zeroS, HOX.out.ok.ie, HOX.out.ok.ht, HOX.out.ok.hc⟩ HOX.out.num).turned hno ht
      case measure => simp [intOf]; have := HKM.out; omega
    · have hlt' : ¬ (k : Int) < (N : Int) := by omega
      obtain ⟨ss, hy1, hy2, hy3, hy4⟩ := HR.out
      have HE : Hid (SealsP w g.os (.returned u3) wr) := by
        have hk' : k = g.os.length := by rw [HN.out]; omega
        subst hk'
        rw [List.take_length] at hy1
        have hl : ss.length = g.os.length := by have h1 := congrArg List.length hy1; simpa using h1
        obtain ⟨eo, cp, hv, _, hh⟩ := heldSl_of_own hl hy2 (fun x hx => ⟨(hy3 x hx).ok.cut, (hy3 x hx).ok.ie, (hy3 x hx).ok.ht, (hy3 x hx).ok.hc⟩)
        subst hv
        exact ⟨eo, cp, ss, rfl, hy1, hh, bt' HB1.out hy4⟩
      clear hy1 hy2 hy3 hy4
      go_wp2
      go_ret
      exact HE.out
end Go.Proofs.Ytfokmldfnkonpaa
