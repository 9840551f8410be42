/-
  Package learner: Missing, Extras; a nil learner.
-/
import Derived.Test.YtkphdcdjmjjojaaLrF
import Derived.Deep.OwnRows
namespace Go.Proofs.Ytkphdcdjmjjojaa
open Go.RowKit Go.Maps

theorem chooseR_nil (w : World) (s : Int) (x : EnM) : Calls Try.prog 10 #[.pointer none, .int .i64 s, x.val] w fun e w' => e = .returned (.int .i64 6) ∧ Below w.heap.size w w' := by
  obtain ⟨⟨np, tk, ct, ep, dp⟩, ao1, cap1⟩ := x
  simp only [EnM.val]
  have HCL := hid closedR_nil
  have HA := hid (fun o => (Below.refl w.heap.size w).alloc (Nat.le_refl _) o)
  go_enter Try.func10, Try.ntmps10
  go_wp2_with fail
  refine (HCL.out _).mono ?_
  rintro e w1 ⟨rfl, rfl⟩
  go_wp2
  go_ret
  exact ⟨rfl, HA.out _⟩
theorem prefixR_nil (w : World) : Calls Try.prog 16 #[.pointer none] w fun e w' => e = .returned (.int .i64 0) ∧ w' = w := by
  have HCL := hid (closedR_nil w)
  go_enter Try.func16, Try.ntmps16
  go_wp2_with fail
  refine HCL.out.mono ?_
  rintro e w1 ⟨rfl, rfl⟩
  go_wp2
  go_ret
  exact ⟨rfl, rfl⟩
theorem lenR_nil (w : World) : Calls Try.prog 21 #[.pointer none] w fun e w' => e = .returned (.int .i64 0) ∧ w' = w := by
  have HCL := hid (closedR_nil w)
  go_enter Try.func21, Try.ntmps21
  go_wp2_with fail
  refine HCL.out.mono ?_
  rintro e w1 ⟨rfl, rfl⟩
  go_wp2
  go_ret
  exact ⟨rfl, rfl⟩
theorem extrasR_nil (w : World) : Calls Try.prog 19 #[.pointer none] w fun e w' => e = .returned (.slice none 0 0) ∧ w' = w := by
  have HCL := hid (closedR_nil w)
  go_enter Try.func19, Try.ntmps19
  go_wp2_with fail
  refine HCL.out.mono ?_
  rintro e w1 ⟨rfl, rfl⟩
  go_wp2
  go_ret
  exact ⟨rfl, rfl⟩
theorem missingR_nil (w : World) (n : Int) : Calls Try.prog 20 #[.pointer none, .int .i64 n] w fun e w' => e = .returned (.slice none 0 0) ∧ w' = w := by
  have HCL := hid (closedR_nil w)
  go_enter Try.func20, Try.ntmps20
  go_wp2_with fail
  refine HCL.out.mono ?_
  rintro e w1 ⟨rfl, rfl⟩
  go_wp2
  go_ret
  exact ⟨rfl, rfl⟩
theorem forkR_nil (w : World) : Calls Try.prog 12 #[.pointer none] w fun e w' => e = .returned (.pointer none) ∧ w' = w := by
  have HCL := hid (closedR_nil w)
  go_enter Try.func12, Try.ntmps12
  go_wp2_with fail
  refine HCL.out.mono ?_
  rintro e w1 ⟨rfl, rfl⟩
  go_wp2
  go_ret
  exact ⟨rfl, rfl⟩
/-- What a call answers that makes a row of numbers. -/
def RowP (w : World) (l : List Int) (e : Ending) (w' : World) : Prop := ∃ ao cap, e = .returned (.slice ao l.length cap) ∧ HV w' ao cap l ∧ (∀ b off, ao = some ⟨b, off, none⟩ → w.heap.size ≤ b) ∧ Below w.heap.size w w'
theorem rowP_of {w w' : World} {v : Value} {l : List Int} (h : w'.ownsRow w.heap.size 3 1 v l.length (ints l)) (hx : ∀ x ∈ l, -9223372036854775808 ≤ x ∧ x ≤ 9223372036854775807) (hf : l.length ≤ 17592186044416) (hb : Below w.heap.size w w') : RowP w l (.returned v) w' := by
  have hlt := h.lt
  obtain ⟨ao, cap, rfl, hv⟩ := hv_of_own h hx hf
  exact ⟨ao, cap, rfl, hv, fun b off e => (hlt b (by rw [e]; rfl)).1, hb⟩
theorem LrMid.pre_end {w : World} {p m pre z : Nat} {g : Lr} (h : LrMid w p m pre z g) : pre ≤ z := by
  rcases Nat.eq_zero_or_pos pre with e | e
  · omega
  · have := h.fin.all _ (h.all ((pre : Int) - 1) (by omega) (by omega))
    omega
/-- While the gaps are told. -/
def Gapping (w : World) (pre : Nat) (g : Lr) (k : Nat) (v : Value) (wr : World) : Prop := wr.ownsRow w.heap.size 3 1 v (gapsL g.ks pre k).length (ints (gapsL g.ks pre k)) ∧ Below w.heap.size w wr
set_option maxRecDepth 100000 in
set_option maxHeartbeats 1000000 in
theorem LrAt.missing {w : World} {p m pre z : Nat} {g : Lr} (h : LrAt w p m pre z g) (most : Int) : Calls Try.prog 20 #[.pointer (some ⟨p, 0, none⟩), .int .i64 most] w (RowP w (missL g.ks pre z most)) := by
  have H := hid h.toLrMid
  have HCL := hid H.out.closed
  have HPE : Hid (pre ≤ z) := H.out.pre_end
  have HZ : Hid (z ≤ 2147483648) := H.out.end_le
  obtain ⟨_, c1, _⟩ := H.out.cells
  have HRNG : Hid (∀ k, k ≤ z - pre → ∀ x ∈ gapsL g.ks pre k, -9223372036854775808 ≤ x ∧ x ≤ 9223372036854775807) := fun k hk x hx => by
    have := (gaps_mem.1 hx).1
    have := HZ.out
    have := HPE.out
    omega
  clear h
  go_enter Try.func20, Try.ntmps20
  go_wp2_with fail
  refine HCL.out.mono ?_
  rintro e w1 ⟨rfl, rfl⟩
  go_wp2
  go_loopw [5, 6] (fun v i wr => ∃ k : Nat, i = .int .i64 ((pre : Int) + (k : Int)) ∧ Hid (k ≤ z - pre) ∧ Hid ((gapsL g.ks pre k).length ≤ (min most 4096).toNat) ∧ Hid (Gapping w1 pre g k v wr)) (fun _ i _ => z - (intOf i).toNat)
  case atStart => exact ⟨0, by simp, Nat.zero_le _, by rw [gaps_zero]; exact Nat.zero_le _, ⟨ownI_nil _ _, Below.refl _ _⟩⟩
  case round =>
    obtain ⟨k, rfl, HK, HL, HG⟩ := hrel
    have HM := hid (H.out.below HG.out.2)
    obtain ⟨_, _, d2⟩ := HM.out.cells
    obtain ⟨L, HLL⟩ : ∃ L, Hid ((gapsL g.ks pre k).length = L) := ⟨_, hid rfl⟩
    have hrow := HG.out.1
    obtain ⟨eo, cap, hv⟩ := own_sliceC hrow
    rw [HLL.out] at hv
    subst hv
    have HROW := hid hrow
    clear hrow
    by_cases h1 : pre + k < z
    · have h1' : decide (((pre : Int) + (k : Int)) < (z : Int)) = true := decide_eq_true (by omega)
      by_cases h2 : L < (min most 4096).toNat
      · have h2' : decide ((L : Int) < min most 4096) = true := decide_eq_true (by omega)
        have HH := hid (HM.out.has ((pre : Int) + (k : Int)) (by have := HZ.out; unfold I64; omega))
        have H1 := hid h1
        have H2 := hid h2
        have hzb : pre + k < 2147483648 := by have := HZ.out; omega
        clear h1 h2
        go_wp2_with fail
        refine HH.out.mono ?_
        rintro e w3 ⟨rfl, hb3⟩
        have HROW3 : Hid (w3.ownsRow w1.heap.size 3 1 (.slice eo L cap) (gapsL g.ks pre k).length (ints (gapsL g.ks pre k))) := (Turns.of_below (F := fun _ => False) hb3 (Nat.le_refl _)).row HROW.out (fun _ _ h => h)
        have HB3 := hid (bt' HG.out.2 hb3)
        clear hb3
        by_cases hm : ((pre : Int) + (k : Int)) ∈ g.ks
        · rw [decide_eq_true hm]
          have HGI := hid (gaps_in g.ks pre k (by rw [show ((pre + k : Nat) : Int) = (pre : Int) + k by omega]; exact hm))
          clear hm
          go_wp2
          go_roundw
          case rel => exact ⟨k + 1, by go_num, by have := H1.out; show _ ≤ _; omega, by rw [HGI.out]; exact HL, by rw [HGI.out]; exact HROW3.out, HB3.out⟩
          case measure => have := H1.out; simp [intOf]; omega
        · rw [decide_eq_false hm]
          have HGO := hid (gaps_out g.ks pre k (by rw [show ((pre + k : Nat) : Int) = (pre : Int) + k by omega]; exact hm))
          have HFEW : Hid ((gapsL g.ks pre k).length < 17592186044416) := by show _ < _; have := gaps_len g.ks pre k; have := HZ.out; have := HK.out; omega
          clear hm
          go_wp2_with (at_builtin; refine wpList_append_one w3 _ ((pre : Int) + (k : Int)) rfl rfl _ _ rfl w1.heap.size _ (gapsL g.ks pre k) rfl rfl HROW3.out HB3.out.size HFEW.out ?_; intro v' w5 hown hb5; have HO5 := hid hown; have HB5 := hid (HB3.out.trans hb5); clear hown hb5)
          go_roundw
          case rel => exact ⟨k + 1, by go_num, by have := H1.out; show _ ≤ _; omega, by rw [HGO.out, List.length_append]; have := H2.out; have := HLL.out; show _ ≤ _; simp; omega, by rw [HGO.out, show ((pre + k : Nat) : Int) = (pre : Int) + k by omega]; exact HO5.out, HB5.out⟩
          case measure => have := H1.out; simp [intOf]; omega
      · have h2' : decide ((L : Int) < min most 4096) = false := decide_eq_false (by omega)
        have HFIN : Hid (gapsL g.ks pre k = missL g.ks pre z most) := miss_end HK.out HL.out (.inr (by rw [HLL.out]; omega))
        have HFEW : Hid ((gapsL g.ks pre k).length ≤ 17592186044416) := by show _ ≤ _; have := gaps_len g.ks pre k; have := HZ.out; have := HK.out; omega
        clear h1 h2
        go_wp2
        go_ret
        rw [← HFIN.out]
        exact rowP_of HROW.out (HRNG.out k HK.out) HFEW.out HG.out.2
    · have h1' : decide (((pre : Int) + (k : Int)) < (z : Int)) = false := decide_eq_false (by omega)
      have HFIN : Hid (gapsL g.ks pre k = missL g.ks pre z most) := miss_end HK.out HL.out (.inl (by have := HK.out; omega))
      have HFEW : Hid ((gapsL g.ks pre k).length ≤ 17592186044416) := by show _ ≤ _; have := gaps_len g.ks pre k; have := HZ.out; have := HK.out; omega
      clear h1
      go_wp2
      go_ret
      rw [← HFIN.out]
      exact rowP_of HROW.out (HRNG.out k HK.out) HFEW.out HG.out.2
end Go.Proofs.Ytkphdcdjmjjojaa
