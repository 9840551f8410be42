/-
  pannierlaw01.lives answers true in whatever memory, and writes nothing that was there.
-/
import Derived.Test.YtjjgojjllbdpkaaNames
import Derived.Test.YtjjgojjllbdpkaaReads
namespace Go.Proofs.Ytjjgojjllbdpkaa
open Go.RowKit

/-- A new block of bytes, read as a slice. -/
theorem held_new (w : World) (bs : List Int) (cs : Array Value) (t : TypeId) (hcs : cs = (nums bs).toArray) (hb : AllB bs) (hm : bs.length ≤ maxLen) : Held (w.alloc (.cells cs t)) (some ⟨w.heap.size, 0, none⟩) bs.length bs.length bs := by
  subst hcs
  refine ⟨rfl, Nat.le_refl _, hm, fun h => (by cases h), hb, fun ad h j hj => ?_, fun ad h _ => ?_⟩
  · obtain rfl := Option.some.inj h
    rw [Addr.add_lit]
    have hg := heap_alloc_new w (.cells (nums bs).toArray t)
    have := cell_of_row (w.alloc (.cells (nums bs).toArray t)) w.heap.size j (nums bs).toArray t (0, 0) hg
    rw [Nat.zero_add, this]
    simp [nums, List.getD, List.getElem?_eq_getElem hj]
  · obtain rfl := Option.some.inj h
    simp

theorem codecText_held (ao : Option Addr) (len cap : Nat) (bs : List Int) (s : ByteArray) (w : World) (h : Held w ao len cap bs) (hm : len + s.size ≤ 140737488355000) :
    Calls Try.prog 16 #[.slice ao len cap, .string s] w fun e w' => ∃ bo cp, e = .returned (.slice bo (len + (encText s).length) cp) ∧ Held w' bo (len + (encText s).length) cp (bs ++ encText s) ∧ w'.ownsRow w.heap.size 5 1 (.slice bo (len + (encText s).length) cp) (len + (encText s).length) (nums (bs ++ encText s)) ∧ Below w.heap.size w w' := by
  refine (codecText_any ao len cap bs s w h hm).mono ?_
  rintro e w' ⟨v, rfl, hown, hb⟩
  obtain ⟨bo, cp, rfl, hh⟩ := held_of_own hown (h.byte.append (encText_byte s))
  exact ⟨bo, cp, rfl, hh, hown, hb⟩

theorem read_ac (w : World) (n : Nat) (hn : n = w.heap.size) :
    Calls Try.prog 15 #[.slice (some ⟨n, 0, none⟩) 3 3] (w.alloc (.cells #[.int .u8 172, .int .u8 2, .int .u8 9] 5)) fun e w' => e = .returned (.tuple #[.int .u64 300, .int .i64 2, .int .i64 0]) ∧ w' = w.alloc (.cells #[.int .u8 172, .int .u8 2, .int .u8 9] 5) := by
  subst hn
  have h := readUint_any (some ⟨w.heap.size, 0, none⟩) 3 3 [172, 2, 9] _ (held_new w [172, 2, 9] #[.int .u8 172, .int .u8 2, .int .u8 9] 5 rfl (by unfold AllB; decide) (by decide))
  have e : dec 0 0 [172, 2, 9] = (300, 2, 0) := by decide
  rw [e] at h
  exact h

theorem read_80 (w : World) (n : Nat) (hn : n = w.heap.size) :
    Calls Try.prog 15 #[.slice (some ⟨n, 0, none⟩) 2 2] (w.alloc (.cells #[.int .u8 128, .int .u8 0] 5)) fun e w' => e = .returned (.tuple #[.int .u64 0, .int .i64 0, .int .i64 10]) ∧ w' = w.alloc (.cells #[.int .u8 128, .int .u8 0] 5) := by
  subst hn
  have h := readUint_any (some ⟨w.heap.size, 0, none⟩) 2 2 [128, 0] _ (held_new w [128, 0] #[.int .u8 128, .int .u8 0] 5 rfl (by unfold AllB; decide) (by decide))
  have e : dec 0 0 [128, 0] = (0, 0, 10) := by decide
  rw [e] at h
  exact h

theorem text_ab (w : World) (n : Nat) (hn : n = w.heap.size) :
    Calls Try.prog 16 #[.slice (some ⟨n, 0, none⟩) 1 1, .string ⟨#[97, 98]⟩] (w.alloc (.cells #[.int .u8 7] 5)) fun e w' => ∃ bo cp, e = .returned (.slice bo 4 cp) ∧ Held w' bo 4 cp [7, 2, 97, 98] ∧ Below w.heap.size w w' := by
  subst hn
  refine (codecText_held (some ⟨w.heap.size, 0, none⟩) 1 1 [7] ⟨#[97, 98]⟩ _ (held_new w [7] #[.int .u8 7] 5 rfl (by unfold AllB; decide) (by decide)) (by decide)).mono ?_
  rintro e w' ⟨bo, cp, rfl, hh, _, hb⟩
  exact ⟨bo, cp, rfl, hh, ((Below.refl _ w).alloc (Nat.le_refl _) _).trans (hb.mono (by simp))⟩

theorem name_yes (w : World) : Calls Try.prog 17 #[.string ⟨#[97, 45, 49]⟩] w fun e w' => e = .returned (.bool true) ∧ w' = w := by
  have h := codecName_any ⟨#[97, 45, 49]⟩ w (by decide)
  have e : nameS ⟨#[97, 45, 49]⟩ = true := by decide
  rw [e] at h
  exact h
theorem name_no (w : World) : Calls Try.prog 17 #[.string ⟨#[65]⟩] w fun e w' => e = .returned (.bool false) ∧ w' = w := by
  have h := codecName_any ⟨#[65]⟩ w (by decide)
  have e : nameS ⟨#[65]⟩ = false := by decide
  rw [e] at h
  exact h

set_option maxRecDepth 100000 in
theorem lives_any (w : World) : Calls Try.prog 6 #[] w fun e w' => e = .returned (.bool true) ∧ Below w.heap.size w w' := by
  go_enter Try.func6, Try.ntmps6
  go_wp2_with fail
  refine (read_ac w _ rfl).mono ?_
  rintro e w' ⟨rfl, rfl⟩
  go_wp2_with fail
  refine (read_80 _ _ (by simp)).mono ?_
  rintro e w' ⟨rfl, rfl⟩
  go_wp2_with fail
  refine (text_ab _ _ (by simp)).mono ?_
  rintro e w3 ⟨bo, cp, rfl, hh, hb⟩
  have hcv := run_convert_held (P := Try.prog) hh 37 5 9 Try.underlying37 Try.underlying5 Try.underlying9
  rw [show strOfNums [7, 2, 97, 98] = ⟨#[7, 2, 97, 98]⟩ from rfl] at hcv
  have HB : Hid (Below w.heap.size w w3) := (((Below.refl _ w).alloc (Nat.le_refl _) _).alloc (by simp) _).trans (hb.mono (by first | (simp; done) | (simp; omega) | omega))
  clear hh hb
  go_wp2_with fail
  refine (name_yes _).mono ?_
  rintro e w' ⟨rfl, rfl⟩
  go_wp2_with fail
  refine (name_no _).mono ?_
  rintro e w' ⟨rfl, rfl⟩
  go_wp2
  go_ret
  exact ⟨rfl, HB.out⟩
end Go.Proofs.Ytjjgojjllbdpkaa
