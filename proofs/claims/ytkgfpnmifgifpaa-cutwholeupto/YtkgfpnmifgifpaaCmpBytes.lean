/-
  The order of strings that strings.Compare tells is a strict order. No function of the program is named here.
-/
import Derived.Lib.Bytealg
import Derived.Sort.Statements
namespace Go.Proofs.Ytkgfpnmifgifpaa

theorem cb_anti : ∀ a b : List UInt8, Lib.compareBytes a b = - Lib.compareBytes b a
  | [], [] => rfl
  | [], _ :: _ => rfl
  | _ :: _, [] => rfl
  | x :: a, y :: b => by
    have ih := cb_anti a b
    simp only [Lib.compareBytes]
    by_cases h1 : x < y
    · have h2 : ¬ y < x := fun h => by rw [UInt8.lt_iff_toNat_lt] at h1 h; omega
      rw [if_pos h1, if_neg h2, if_pos h1]
    · by_cases h2 : y < x
      · rw [if_neg h1, if_pos h2, if_pos h2]
        rfl
      · rw [if_neg h1, if_neg h2, if_neg h2, if_neg h1]
        exact ih
theorem cb_refl (a : List UInt8) : Lib.compareBytes a a = 0 := by
  have := cb_anti a a
  omega
theorem u8_eq {x y : UInt8} (h1 : ¬ x < y) (h2 : ¬ y < x) : x = y := by
  rw [UInt8.lt_iff_toNat_lt] at h1 h2
  exact UInt8.toNat_inj.1 (by omega)
theorem cb_eq : ∀ a b : List UInt8, Lib.compareBytes a b = 0 → a = b
  | [], [], _ => rfl
  | [], _ :: _, h => by simp [Lib.compareBytes] at h
  | _ :: _, [], h => by simp [Lib.compareBytes] at h
  | x :: a, y :: b, h => by
    simp only [Lib.compareBytes] at h
    by_cases h1 : x < y
    · rw [if_pos h1] at h
      cases h
    · by_cases h2 : y < x
      · rw [if_neg h1, if_pos h2] at h
        cases h
      · rw [if_neg h1, if_neg h2] at h
        rw [u8_eq h1 h2, cb_eq a b h]
theorem cb_trans : ∀ a b c : List UInt8, Lib.compareBytes a b < 0 → Lib.compareBytes b c < 0 → Lib.compareBytes a c < 0
  | [], [], _, h, _ => by simp [Lib.compareBytes] at h
  | [], _ :: _, [], _, h => by simp [Lib.compareBytes] at h
  | [], _ :: _, _ :: _, _, _ => by simp [Lib.compareBytes]
  | _ :: _, [], _, h, _ => by simp [Lib.compareBytes] at h
  | _ :: _, _ :: _, [], _, h => by simp [Lib.compareBytes] at h
  | x :: a, y :: b, z :: c, h1, h2 => by
    simp only [Lib.compareBytes] at h1 h2 ⊢
    by_cases e1 : x < y
    · by_cases e2 : y < z
      · have e3 : x < z := by rw [UInt8.lt_iff_toNat_lt] at e1 e2 ⊢; omega
        rw [if_pos e3]
        decide
      · rw [if_neg e2] at h2
        by_cases e4 : z < y
        · rw [if_pos e4] at h2
          cases h2
        · rw [← u8_eq e2 e4, if_pos e1]
          decide
    · rw [if_neg e1] at h1
      by_cases e4 : y < x
      · rw [if_pos e4] at h1
        cases h1
      · rw [if_neg e4] at h1
        rw [u8_eq e1 e4]
        by_cases e2 : y < z
        · rw [if_pos e2]
          decide
        · rw [if_neg e2] at h2 ⊢
          by_cases e5 : z < y
          · rw [if_pos e5] at h2
            cases h2
          · rw [if_neg e5] at h2 ⊢
            exact cb_trans a b c h1 h2
theorem cb_ntrans (a b c : List UInt8) (h1 : ¬ Lib.compareBytes a b < 0) (h2 : ¬ Lib.compareBytes b c < 0) : ¬ Lib.compareBytes a c < 0 := by
  intro h
  have a1 := cb_anti a b
  have a2 := cb_anti b c
  by_cases e1 : Lib.compareBytes a b = 0
  · rw [cb_eq _ _ e1] at h
    exact h2 h
  · have h3 : Lib.compareBytes b a < 0 := by omega
    exact h2 (cb_trans _ _ _ h3 h)
/-- The order of elements by a name. -/
theorem cb_swo {α : Type} (f : α → List UInt8) : Sort.SWO (fun x y : α => decide (Lib.compareBytes (f x) (f y) < 0)) where
  irrefl x := by simp [cb_refl]
  trans x y z h1 h2 := by
    simp at h1 h2 ⊢
    exact cb_trans _ _ _ h1 h2
  ntrans x y z h1 h2 := by
    have := cb_ntrans (f x) (f y) (f z) (by simpa using h1) (by simpa using h2)
    simpa using this
end Go.Proofs.Ytkgfpnmifgifpaa
