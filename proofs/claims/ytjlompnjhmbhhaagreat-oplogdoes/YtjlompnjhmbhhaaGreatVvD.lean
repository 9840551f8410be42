/-
  Package vv: Below, Compare, Has, May, Count; the document's; Same.
-/
import Derived.Test.YtjlompnjhmbhhaaGreatVvC
import Derived.Deep.QuietTactic
import Derived.BigQuiet
namespace Go.Proofs.YtjlompnjhmbhhaaGreat
open Go.RowKit Go.Maps

theorem belowV_of {a b : List Int} {L k : Nat} (hL : L = max a.length b.length) (hk : ¬ k < L) (h : ∀ j, j < k → a.getD j 0 ≤ b.getD j 0) : BelowV a b := fun i hi => h i (by omega)
theorem belowV_step {a b : List Int} {k : Nat} (h : ∀ j, j < k → a.getD j 0 ≤ b.getD j 0) (h' : a.getD k 0 ≤ b.getD k 0) : ∀ j, j < k + 1 → a.getD j 0 ≤ b.getD j 0 := by
  intro j hj
  by_cases e : j = k
  · subst e; exact h'
  · exact h j (by omega)

set_option maxRecDepth 100000 in
theorem below_any (w : World) (ao bo : Option Addr) (ca cb : Nat) (a b : List Int) (m n : Nat) (hm : a.length = m) (hn : b.length = n) (ha : HV w ao ca a) (hb : HV w bo cb b) :
    Calls Tryz.prog 46 #[.slice ao m ca, .slice bo n cb] w fun e w' => e = .returned (.bool (decide (BelowV a b))) ∧ w' = w := by
  have hfa := ha.few
  have hfb := hb.few
  obtain ⟨L, hL⟩ : ∃ L, L = max m n := ⟨_, rfl⟩
  have HL : Hid (L = max a.length b.length) := by show _ = _; rw [hL, hm, hn]
  have HP := hid (places_any w ao bo ca cb m n)
  rw [← hL] at HP
  have hLs : L ≤ 17592186044416 := by omega
  have HOA := hid (fun k : Int => of_any w ao ca a m hm k ha.held)
  have HOB := hid (fun k : Int => of_any w bo cb b n hn k hb.held)
  clear ha hb hfa hfb hL hm hn
  go_enter Tryz.func46, Tryz.ntmps46
  go_wp2_with fail
  refine HP.out.mono ?_
  rintro e w' ⟨rfl, rfl⟩
  go_wp2
  go_loop [5, 9] (fun _ i => ∃ k : Nat, k ≤ L ∧ i = .int .i64 k ∧ Hid (∀ j, j < k → a.getD j 0 ≤ b.getD j 0)) (fun _ i => L - (intOf i).toNat)
  case atStart => exact ⟨0, Nat.zero_le _, rfl, fun j hj => absurd hj (Nat.not_lt_zero _)⟩
  case round =>
    obtain ⟨k, hk, rfl, HR⟩ := hrel
    by_cases hlt : k < L
    · have hlt' : (k : Int) < (L : Int) := by omega
      have HA := HOA.out k
      have HB := HOB.out k
      rw [ofV_nat] at HA HB
      obtain ⟨X, HX⟩ : ∃ X, Hid (a.getD k 0 = X) := ⟨_, hid rfl⟩
      obtain ⟨Y, HY⟩ : ∃ Y, Hid (b.getD k 0 = Y) := ⟨_, hid rfl⟩
      rw [HX.out] at HA
      rw [HY.out] at HB
      have HA := hid HA
      have HB := hid HB
      go_wp2_with fail
      refine HA.out.mono ?_
      rintro e w2 ⟨rfl, rfl⟩
      go_wp2_with fail
      refine HB.out.mono ?_
      rintro e w3 ⟨rfl, rfl⟩
      by_cases hxy : X ≤ Y
      · have hd : ¬ Y < X := by omega
        go_wp2
        go_round
        case rel => exact ⟨k + 1, by omega, by go_num, belowV_step HR.out (by rw [HX.out, HY.out]; exact hxy)⟩
        case measure => simp [intOf]; omega
      · have hd : Y < X := by omega
        go_wp2
        go_ret
        refine ⟨?_, rfl⟩
        have : ¬ BelowV a b := fun h => (by have := h k (by rw [← HL.out]; exact hlt); rw [HX.out, HY.out] at this; omega)
        rw [decide_eq_false this]
        rfl
    · have hlt' : ¬ (k : Int) < (L : Int) := by omega
      go_wp2
      go_ret
      refine ⟨?_, rfl⟩
      rw [decide_eq_true (belowV_of HL.out hlt HR.out)]
      rfl

set_option maxRecDepth 100000 in
theorem has_any (w : World) (ao : Option Addr) (ca : Nat) (a : List Int) (m : Nat) (hm : a.length = m) (ha : HV w ao ca a) (o s : Int) :
    Calls Tryz.prog 44 #[.slice ao m ca, .agg #[.int .i64 o, .int .i64 s]] w fun e w' => e = .returned (.bool (decide (HasV a o s))) ∧ Below w.heap.size w w' := by
  have HB : Hid (Below w.heap.size w (w.alloc (.cells #[.int .i64 o, .int .i64 s] 25))) := (Below.refl _ _).alloc (Nat.le_refl _) _
  have hbk := Blk.new w 25 [.int .i64 o, .int .i64 s]
  have hc0 := hbk.cell (i := 0) rfl
  have hc1 := hbk.cell (i := 1) rfl
  have HO : Hid (∀ q, Calls Tryz.prog 28 #[.slice ao m ca, .int .i64 o] ((w.alloc (.cells #[.int .i64 o, .int .i64 s] 25)).drewN q) fun e w' => e = .returned (.int .i64 (ofV a o)) ∧ w' = (w.alloc (.cells #[.int .i64 o, .int .i64 s] 25)).drewN q) :=
    fun q => of_any _ ao ca a m hm o ((ha.below HB.out).dn q).held
  clear ha hm hbk
  obtain ⟨Y, HY⟩ : ∃ Y, Hid (ofV a o = Y) := ⟨_, hid rfl⟩
  rw [HY.out] at HO
  have HD : Hid (decide (HasV a o s) = decide (1 ≤ s ∧ s ≤ Y)) := decide_eq_decide.2 (by unfold HasV; rw [HY.out])
  rw [HD.out]
  by_cases h1 : 1 ≤ s
  · have hd : decide (1 ≤ s) = true := by simp [h1]
    go_enter Tryz.func44, Tryz.ntmps44
    go_wp2
    go_quiet (first | (go_at_call 28; refine Calls.quiet_of_same (HO.out _)))
    all_goals
      go_wp2
      go_ret
      exact ⟨ret_bool (by simp [h1]), below_dn HB.out _⟩
  · have hd : decide (1 ≤ s) = false := by simp [h1]
    go_enter Tryz.func44, Tryz.ntmps44
    go_wp2
    go_quiet (fail)
    all_goals
      go_wp2
      go_ret
      exact ⟨ret_bool (by simp; omega), below_dn HB.out _⟩

set_option maxRecDepth 100000 in
theorem rbelow_any (w : World) (ao bo : Option Addr) (ca cb : Nat) (a b : List Int) (m n : Nat) (hm : a.length = m) (hn : b.length = n) (ha : HV w ao ca a) (hb : HV w bo cb b) :
    Calls Tryz.prog 52 #[.slice ao m ca, .slice bo n cb] w fun e w' => e = .returned (.bool (decide (BelowV a b))) ∧ w' = w := by
  have hfa := ha.few
  have hfb := hb.few
  obtain ⟨L, hL⟩ : ∃ L, L = max m n := ⟨_, rfl⟩
  have HL : Hid (L = max a.length b.length) := by show _ = _; rw [hL, hm, hn]
  have HP := hid (longer_any w ao bo ca cb m n)
  rw [← hL] at HP
  have hLs : L ≤ 17592186044416 := by omega
  have HOA := hid (fun k : Int => rof_any w ao ca a m hm k ha.held)
  have HOB := hid (fun k : Int => rof_any w bo cb b n hn k hb.held)
  clear ha hb hfa hfb hL hm hn
  go_enter Tryz.func52, Tryz.ntmps52
  go_wp2
  go_loop [5] (fun i => ∃ k : Nat, k ≤ L ∧ i = .int .i64 k ∧ Hid (∀ j, j < k → a.getD j 0 ≤ b.getD j 0)) (fun i => L - (intOf i).toNat)
  case atStart => exact ⟨0, Nat.zero_le _, rfl, fun j hj => absurd hj (Nat.not_lt_zero _)⟩
  case round =>
    obtain ⟨k, hk, rfl, HR⟩ := hrel
    go_wp2_with fail
    refine HP.out.mono ?_
    rintro e w' ⟨rfl, rfl⟩
    by_cases hlt : k < L
    · have hlt' : (k : Int) < (L : Int) := by omega
      have HA := HOA.out k
      have HB := HOB.out k
      rw [ofV_nat] at HA HB
      obtain ⟨X, HX⟩ : ∃ X, Hid (a.getD k 0 = X) := ⟨_, hid rfl⟩
      obtain ⟨Y, HY⟩ : ∃ Y, Hid (b.getD k 0 = Y) := ⟨_, hid rfl⟩
      rw [HX.out] at HA
      rw [HY.out] at HB
      have HA := hid HA
      have HB := hid HB
      go_wp2_with fail
      refine HA.out.mono ?_
      rintro e w2 ⟨rfl, rfl⟩
      go_wp2_with fail
      refine HB.out.mono ?_
      rintro e w3 ⟨rfl, rfl⟩
      by_cases hxy : X ≤ Y
      · have hd : ¬ Y < X := by omega
        go_wp2
        go_round
        case rel => exact ⟨k + 1, by omega, by go_num, belowV_step HR.out (by rw [HX.out, HY.out]; exact hxy)⟩
        case measure => simp [intOf]; omega
      · have hd : Y < X := by omega
        go_wp2
        go_ret
        refine ⟨?_, rfl⟩
        have : ¬ BelowV a b := fun h => (by have := h k (by rw [← HL.out]; exact hlt); rw [HX.out, HY.out] at this; omega)
        rw [decide_eq_false this]
        rfl
    · have hlt' : ¬ (k : Int) < (L : Int) := by omega
      go_wp2
      go_ret
      refine ⟨?_, rfl⟩
      rw [decide_eq_true (belowV_of HL.out hlt HR.out)]
      rfl

set_option maxRecDepth 100000 in
theorem rhas_any (w : World) (ao : Option Addr) (ca : Nat) (a : List Int) (m : Nat) (hm : a.length = m) (ha : HV w ao ca a) (o s : Int) :
    Calls Tryz.prog 22 #[.slice ao m ca, .agg #[.int .i64 o, .int .i64 s]] w fun e w' => e = .returned (.bool (decide (HasV a o s))) ∧ Below w.heap.size w w' := by
  have HB : Hid (Below w.heap.size w (w.alloc (.cells #[.int .i64 o, .int .i64 s] 25))) := (Below.refl _ _).alloc (Nat.le_refl _) _
  have hbk := Blk.new w 25 [.int .i64 o, .int .i64 s]
  have hc0 := hbk.cell (i := 0) rfl
  have hc1 := hbk.cell (i := 1) rfl
  have HO : Hid (∀ q, Calls Tryz.prog 30 #[.slice ao m ca, .int .i64 o] ((w.alloc (.cells #[.int .i64 o, .int .i64 s] 25)).drewN q) fun e w' => e = .returned (.int .i64 (ofV a o)) ∧ w' = (w.alloc (.cells #[.int .i64 o, .int .i64 s] 25)).drewN q) :=
    fun q => rof_any _ ao ca a m hm o ((ha.below HB.out).dn q).held
  clear ha hm hbk
  obtain ⟨Y, HY⟩ : ∃ Y, Hid (ofV a o = Y) := ⟨_, hid rfl⟩
  rw [HY.out] at HO
  have HD : Hid (decide (HasV a o s) = decide (1 ≤ s ∧ s ≤ Y)) := decide_eq_decide.2 (by unfold HasV; rw [HY.out])
  rw [HD.out]
  by_cases h1 : 1 ≤ s
  · have hd : decide (1 ≤ s) = true := by simp [h1]
    go_enter Tryz.func22, Tryz.ntmps22
    go_wp2
    go_quiet (first | (go_at_call 30; refine Calls.quiet_of_same (HO.out _)))
    all_goals
      go_wp2
      go_ret
      exact ⟨ret_bool (by simp [h1]), below_dn HB.out _⟩
  · have hd : decide (1 ≤ s) = false := by simp [h1]
    go_enter Tryz.func22, Tryz.ntmps22
    go_wp2
    go_quiet (fail)
    all_goals
      go_wp2
      go_ret
      exact ⟨ret_bool (by simp; omega), below_dn HB.out _⟩
end Go.Proofs.YtjlompnjhmbhhaaGreat
