/-
  Package vv: Below, Compare, Has, May, Count; the document's; Same.
-/
import Derived.Test.YtplecopphddjhaaVvC
import Derived.Deep.QuietTactic
import Derived.BigQuiet
namespace Go.Proofs.Ytplecopphddjhaa
open Go.RowKit Go.Maps

theorem belowV_of {a b : List Int} {L k : Nat} (hL : L = max a.length b.length) (hk : ¬ k < L) (h : ∀ j, j < k → a.getD j 0 ≤ b.getD j 0) : BelowV a b := fun i hi => h i (by omega)
theorem belowV_step {a b : List Int} {k : Nat} (h : ∀ j, j < k → a.getD j 0 ≤ b.getD j 0) (h' : a.getD k 0 ≤ b.getD k 0) : ∀ j, j < k + 1 → a.getD j 0 ≤ b.getD j 0 := by
  intro j hj
  by_cases e : j = k
  · subst e; exact h'
  · exact h j (by omega)

set_option maxRecDepth 100000 in
theorem has_any (w : World) (ao : Option Addr) (ca : Nat) (a : List Int) (m : Nat) (hm : a.length = m) (ha : HV w ao ca a) (o s : Int) :
    Calls Try.prog 36 #[.slice ao m ca, .agg #[.int .i64 o, .int .i64 s]] w fun e w' => e = .returned (.bool (decide (HasV a o s))) ∧ Below w.heap.size w w' := by
  have HB : Hid (Below w.heap.size w (w.alloc (.cells #[.int .i64 o, .int .i64 s] 25))) := (Below.refl _ _).alloc (Nat.le_refl _) _
  have hbk := Blk.new w 25 [.int .i64 o, .int .i64 s]
  have hc0 := hbk.cell (i := 0) rfl
  have hc1 := hbk.cell (i := 1) rfl
  have HO : Hid (∀ q, Calls Try.prog 48 #[.slice ao m ca, .int .i64 o] ((w.alloc (.cells #[.int .i64 o, .int .i64 s] 25)).drewN q) fun e w' => e = .returned (.int .i64 (ofV a o)) ∧ w' = (w.alloc (.cells #[.int .i64 o, .int .i64 s] 25)).drewN q) :=
    fun q => of_any _ ao ca a m hm o ((ha.below HB.out).dn q).held
  clear ha hm hbk
  obtain ⟨Y, HY⟩ : ∃ Y, Hid (ofV a o = Y) := ⟨_, hid rfl⟩
  rw [HY.out] at HO
  have HD : Hid (decide (HasV a o s) = decide (1 ≤ s ∧ s ≤ Y)) := decide_eq_decide.2 (by unfold HasV; rw [HY.out])
  rw [HD.out]
  by_cases h1 : 1 ≤ s
  · have hd : decide (1 ≤ s) = true := by simp [h1]
    go_enter Try.func36, Try.ntmps36
    go_wp2
    go_quiet (first | (go_at_call 48; refine Calls.quiet_of_same (HO.out _)))
    all_goals
      go_wp2
      go_ret
      exact ⟨ret_bool (by simp [h1]), below_dn HB.out _⟩
  · have hd : decide (1 ≤ s) = false := by simp [h1]
    go_enter Try.func36, Try.ntmps36
    go_wp2
    go_quiet (fail)
    all_goals
      go_wp2
      go_ret
      exact ⟨ret_bool (by simp; omega), below_dn HB.out _⟩

set_option maxRecDepth 100000 in
theorem rhas_any (w : World) (ao : Option Addr) (ca : Nat) (a : List Int) (m : Nat) (hm : a.length = m) (ha : HV w ao ca a) (o s : Int) :
    Calls Try.prog 43 #[.slice ao m ca, .agg #[.int .i64 o, .int .i64 s]] w fun e w' => e = .returned (.bool (decide (HasV a o s))) ∧ Below w.heap.size w w' := by
  have HB : Hid (Below w.heap.size w (w.alloc (.cells #[.int .i64 o, .int .i64 s] 25))) := (Below.refl _ _).alloc (Nat.le_refl _) _
  have hbk := Blk.new w 25 [.int .i64 o, .int .i64 s]
  have hc0 := hbk.cell (i := 0) rfl
  have hc1 := hbk.cell (i := 1) rfl
  have HO : Hid (∀ q, Calls Try.prog 55 #[.slice ao m ca, .int .i64 o] ((w.alloc (.cells #[.int .i64 o, .int .i64 s] 25)).drewN q) fun e w' => e = .returned (.int .i64 (ofV a o)) ∧ w' = (w.alloc (.cells #[.int .i64 o, .int .i64 s] 25)).drewN q) :=
    fun q => rof_any _ ao ca a m hm o ((ha.below HB.out).dn q).held
  clear ha hm hbk
  obtain ⟨Y, HY⟩ : ∃ Y, Hid (ofV a o = Y) := ⟨_, hid rfl⟩
  rw [HY.out] at HO
  have HD : Hid (decide (HasV a o s) = decide (1 ≤ s ∧ s ≤ Y)) := decide_eq_decide.2 (by unfold HasV; rw [HY.out])
  rw [HD.out]
  by_cases h1 : 1 ≤ s
  · have hd : decide (1 ≤ s) = true := by simp [h1]
    go_enter Try.func43, Try.ntmps43
    go_wp2
    go_quiet (first | (go_at_call 55; refine Calls.quiet_of_same (HO.out _)))
    all_goals
      go_wp2
      go_ret
      exact ⟨ret_bool (by simp [h1]), below_dn HB.out _⟩
  · have hd : decide (1 ≤ s) = false := by simp [h1]
    go_enter Try.func43, Try.ntmps43
    go_wp2
    go_quiet (fail)
    all_goals
      go_wp2
      go_ret
      exact ⟨ret_bool (by simp; omega), below_dn HB.out _⟩
end Go.Proofs.Ytplecopphddjhaa
