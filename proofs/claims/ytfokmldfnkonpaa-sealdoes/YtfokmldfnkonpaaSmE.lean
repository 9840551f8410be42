/-
  Package seal: Orders; a nil machine's calls.
-/
import Derived.Test.YtfokmldfnkonpaaSmD
namespace Go.Proofs.Ytfokmldfnkonpaa
open Go.RowKit Go.Maps

/-- What Orders tells: a row of its own. -/
def OrdersP (w : World) (os : List Or) (e : Ending) (w' : World) : Prop := ∃ ao cap ys, e = .returned (.slice ao os.length cap) ∧ ys.map OrM.e = os ∧ w'.ownsRow w.heap.size 32 5 (.slice ao os.length cap) os.length (flatO ys) ∧ AllO w' ys ∧ Below w.heap.size w w'
/-- What lies between two rounds of Orders. -/
def CollO (w : World) (os : List Or) (k : Nat) (out : Value) (wr : World) : Prop := ∃ ys, ys.map OrM.e = os.take k ∧ wr.ownsRow w.heap.size 32 5 out k (flatO ys) ∧ AllO wr ys ∧ Below w.heap.size w wr
theorem or_take {os : List Or} {k : Nat} (h : k < os.length) : os.take (k + 1) = os.take k ++ [os[k]] := List.take_succ_eq_append_getElem h
set_option maxRecDepth 1000000 in
set_option maxHeartbeats 2000000 in
theorem SmAt.orders {B : Nat} {w : World} {p mi me : Nat} {v : Value} {g : Sm} (h : SmAt B w p mi me v g) : Calls Try.prog 23 #[.pointer (some ⟨p, 0, none⟩)] w (OrdersP w g.os) := by
  have HCL := hid h.closed
  obtain ⟨xs, ao, cap, hv, hcap, hxs, hh, hall⟩ := h.rowAt
  have a0 := h.cells.1
  subst hv
  obtain ⟨N, HN⟩ : ∃ N, Hid (g.os.length = N) := ⟨_, hid rfl⟩
  have HXL : Hid (xs.length = N) := by rw [← HN.out, ← hxs]; show _ = _; simp
  have HF : Hid (N ≤ 65536) := by rw [← HN.out]; exact h.ok.few
  have HXS := hid hxs
  have HH := hid hh
  have HALL := hid hall
  rw [HN.out] at a0
  have HST : Hid (CollO w g.os 0 (.slice none 0 0) w) := ⟨[], rfl, ⟨rfl, .inl ⟨rfl, rfl⟩⟩, fun x hx => (by cases hx), Below.refl _ _⟩
  clear h hcap hxs hh hall
  go_enter Try.func23, Try.ntmps23
  go_wp2_with fail
  refine HCL.out.mono ?_
  rintro e w1 ⟨rfl, rfl⟩
  go_wp2
  go_loopw [3, 5, 13] (fun out _ i wr => ∃ k : Nat, k ≤ N ∧ i = .int .i64 k ∧ Hid (CollO w1 g.os k out wr)) (fun _ _ i _ => N - (intOf i).toNat)
  case atStart => exact ⟨0, Nat.zero_le _, rfl, HST.out⟩
  case round =>
    obtain ⟨k, hk, rfl, HR⟩ := hrel
    by_cases hlt : k < N
    · have hlt' : (k : Int) < (N : Int) := by omega
      have hkx : Hid (k < xs.length) := (by rw [HXL.out]; exact hlt : k < xs.length)
      have HKG : Hid (k < g.os.length) := (by rw [HN.out]; exact hlt : k < g.os.length)
      have HKM : Hid (k + 1 ≤ N) := (by omega : k + 1 ≤ N)
      obtain ⟨ys, hy1, hy2, hy3, hy4⟩ := HR.out
      obtain ⟨bb, off, hao, hbb, g0, g1, g2, g3, g4⟩ := (HH.out.below hy4).at hkx.out
      have HOX := hid ((HALL.out _ (List.getElem_mem hkx.out)).below hy4)
      have HGE : Hid (g.os[k]'HKG.out = (xs[k]'hkx.out).e) := by
        show _ = _
        have := HXS.out
        simp only [← this]
        simp
      subst hao
      obtain ⟨X, HX⟩ : ∃ X, Hid (xs[k]'hkx.out = X) := ⟨_, hid rfl⟩
      rw [HX.out] at g0 g1 g2 g3 g4 HOX HGE
      have HY1 := hid hy1
      have HY2 := hid hy2
      have HY3 := hid hy3
      have HY4 := hid hy4
      have HYL : Hid (ys.length = k) := by
        have h1 := congrArg List.length hy1
        simp at h1
        have h2 := HKG.out
        show _ = _
        omega
      obtain ⟨⟨xid, tk, ct, ep, dp⟩, ao1, cap1⟩ := X
      obtain ⟨XN, HXN⟩ : ∃ m, Hid (dp.length = m) := ⟨_, hid rfl⟩
      simp only at g0 g1 g2 g3 g4
      rw [HXN.out] at g4
      obtain ⟨W1, hW1⟩ : ∃ W, W = wr.alloc (.cells #[.int .i64 xid, .string tk, .string ct, .int .i64 ep, .slice ao1 XN cap1] 32) := ⟨_, rfl⟩
      have HB1 : Hid (Below wr.heap.size wr W1) := by rw [hW1]; exact (Below.refl _ _).alloc (Nat.le_refl _) _
      have HW1 := hid hW1
      have HTD := hid (toldSm W1 ⟨⟨xid, tk, ct, ep, dp⟩, ao1, cap1⟩ (HOX.out.below HB1.out).ok)
      unfold ToldOr at HTD
      simp only [OrM.val] at HTD
      rw [HXN.out] at HTD
      have hmn : k < 1954687338268 := by have := HF.out; omega
      clear hW1 hy1 hy2 hy3 hy4 hbb
      go_wp2_with fail
      rw [← HW1.out]
      refine HTD.out.mono ?_
      rintro e w2 ⟨bo, cp, rfl, hv2, hn2, hb2⟩
      have HBY := hid (bt' HY4.out (bt' HB1.out hb2))
      have HROW : Hid (w2.ownsRow w1.heap.size 32 5 u3 k (flatO ys)) := (Turns.of_below (F := fun _ => False) (bt' HB1.out hb2) (Nat.le_refl _)).row HY2.out (fun _ _ h => h)
      have HY3' := hid ((HY3.out.below HB1.out).below hb2)
      have HXK : Hid (OrKeep w2 ⟨⟨xid, tk, ct, ep, dp⟩, bo, cp⟩) := ⟨⟨hv2, HOX.out.ok.ii, HOX.out.ok.ie, HOX.out.ok.ht, HOX.out.ok.hc⟩, fun b off e _ => (hn2 b off e).2⟩
      clear hv2 hn2 hb2
      go_wp2_with (at_builtin; refine wpList_append_or w2 _ ⟨⟨xid, tk, ct, ep, dp⟩, bo, cp⟩ ?_ rfl _ _ rfl w1.heap.size _ ys _ HYL.out rfl _ rfl (by simp) HROW.out HBY.out.size hmn ?_; (show _ = _; simp only [OrM.cells]; rw [HXN.out]); intro v' w3 hown hbel hgr _; have HO3 := hid hown; have HB3 := hid hbel; have HG3 := hid hgr; clear hown hbel hgr)
      go_roundw
      case rel =>
        refine ⟨k + 1, HKM.out, by go_num, ys ++ [⟨⟨xid, tk, ct, ep, dp⟩, bo, cp⟩], ?_, HO3.out, ?_, HBY.out.trans HB3.out⟩
        · rw [or_take HKG.out, List.map_append, HY1.out, HGE.out]
          rfl
        · have ht : Turns (fun i => u3.ownBlock = some i) w2 w3 := ((Turns.refl (fun i => u3.ownBlock = some i) w2).alloc _).grown HG3.out (fun k hk => .inl hk)
          have hno := noN_row HROW.out (by decide)
          intro y hy
          rcases List.mem_append.1 hy with h1 | h1
          · exact (HY3'.out y h1).turned hno ht
          · simp at h1
            subst h1
            exact HXK.out.turned hno ht
      case measure => simp [intOf]; have := HKM.out; omega
    · have hlt' : ¬ (k : Int) < (N : Int) := by omega
      obtain ⟨ys, hy1, hy2, hy3, hy4⟩ := HR.out
      have HE : Hid (OrdersP w1 g.os (.returned u3) wr) := by
        have hk' : k = g.os.length := by rw [HN.out]; omega
        subst hk'
        rw [List.take_length] at hy1
        obtain ⟨eo, cp, hv⟩ := own_slice' hy2
        subst hv
        exact ⟨eo, cp, ys, rfl, hy1, hy2, hy3, hy4⟩
      clear hy1 hy2 hy3 hy4
      go_wp2
      go_ret
      exact HE.out
theorem doneS_nil (w : World) : Calls Try.prog 13 #[.pointer none] w fun e w' => e = .returned (.int .i64 0) ∧ w' = w := by
  have HC := hid (closedS_nil w)
  go_enter Try.func13, Try.ntmps13
  go_wp2_with fail
  refine HC.out.mono ?_
  rintro e w' ⟨rfl, rfl⟩
  go_wp2
  go_ret
  exact ⟨rfl, rfl⟩
theorem epochS_nil (w : World) (c : ByteArray) : Calls Try.prog 20 #[.pointer none, .string c] w fun e w' => e = .returned (.int .i64 0) ∧ w' = w := by
  have HC := hid (closedS_nil w)
  go_enter Try.func20, Try.ntmps20
  go_wp2_with fail
  refine HC.out.mono ?_
  rintro e w' ⟨rfl, rfl⟩
  go_wp2
  go_ret
  exact ⟨rfl, rfl⟩
theorem ordersS_nil (w : World) : Calls Try.prog 23 #[.pointer none] w fun e w' => e = .returned (.slice none 0 0) ∧ w' = w := by
  have HC := hid (closedS_nil w)
  go_enter Try.func23, Try.ntmps23
  go_wp2_with fail
  refine HC.out.mono ?_
  rintro e w' ⟨rfl, rfl⟩
  go_wp2
  go_ret
  exact ⟨rfl, rfl⟩
theorem forkS_nil (w : World) : Calls Try.prog 14 #[.pointer none] w fun e w' => e = .returned (.pointer none) ∧ w' = w := by
  have HC := hid (closedS_nil w)
  go_enter Try.func14, Try.ntmps14
  go_wp2_with fail
  refine HC.out.mono ?_
  rintro e w' ⟨rfl, rfl⟩
  go_wp2
  go_ret
  exact ⟨rfl, rfl⟩
end Go.Proofs.Ytfokmldfnkonpaa
