/-
  pannierlaw25.lives is true of this program.
-/
import Derived.Test.YtfjmhfbmphdjiaaLnK
namespace Go.Proofs.Ytfjmhfbmphdjiaa
open Go.RowKit Go.Maps

def tTok : ByteArray := ⟨#[116]⟩
def sn1 : Sn := ⟨true, tTok, 1, 2, 1⟩
def sn2 : Sn := ⟨false, tTok, 3, 4, 0⟩
theorem lv1 : checkL [sn1, sn2] [tTok] = 250 := by decide +kernel
theorem lv2 : checkL [sn1] [tTok] = 0 := by decide +kernel
theorem lv3 : checkL [sn1] [] = 250 := by decide +kernel
theorem lv4 : idsL [sn1, sn2] [tTok] = true := by decide +kernel
theorem lv5 : firstL [sn1, sn2] tTok = 3 ∧ lastL [sn1, sn2] tTok 1 = 2 := by decide +kernel
theorem sn_oks : AllSn [sn1, sn2] := by
  intro x hx
  simp only [List.mem_cons, List.not_mem_nil, or_false] at hx
  rcases hx with rfl | rfl
  · exact ⟨by decide, ⟨by decide, by decide⟩, ⟨by decide, by decide⟩, ⟨by decide, by decide⟩⟩
  · exact ⟨by decide, ⟨by decide, by decide⟩, ⟨by decide, by decide⟩, ⟨by decide, by decide⟩⟩
theorem heldSn_blk {w : World} {g : Nat} {xs : List Sn} (h : Blk w g 31 (flatN xs)) (hx : AllSn xs) : HeldSn w (some ⟨g, 0, none⟩) xs := by
  refine ⟨hx, .inr ⟨g, 0, rfl, h.lt, fun j hj c u hu => ?_⟩⟩
  rw [Nat.zero_add]
  exact h.cell (flatN_get xs j hj c u hu)
theorem heldStr_blk {w : World} {g : Nat} {t : ByteArray} (h : Blk w g 9 [.string t]) (ht : t.size ≤ maxLen) : HeldStr w (some ⟨g, 0, none⟩) [t] := by
  refine ⟨fun s hs => by rw [List.mem_singleton.1 hs]; exact ht, .inr ⟨g, 0, rfl, h.lt, fun j hj => ?_⟩⟩
  have hj0 : j = 0 := by simpa using hj
  subst hj0
  exact h.cell rfl
theorem heldStr_nil (w : World) : HeldStr w none [] := ⟨fun s hs => (by cases hs), .inl rfl⟩
set_option maxRecDepth 1000000 in
set_option maxHeartbeats 2000000 in
theorem lives25 (w : World) : Calls Try.prog 7 #[] w (SaysB w true) := by
  obtain ⟨W0, hW0⟩ : ∃ W, W = w.alloc (.cells #[.bool true, .string ⟨#[116]⟩, .int .i64 1, .int .i64 2, .int .i64 1, .bool false, .string ⟨#[116]⟩, .int .i64 3, .int .i64 4, .int .i64 0] 31) := ⟨_, rfl⟩
  have HB0 : Hid (Below w.heap.size w W0) := by rw [hW0]; exact one_new _ _
  have HK0 : Hid (Blk W0 w.heap.size 31 (flatN [sn1, sn2])) := by rw [hW0]; exact Blk.new w _ _
  have HS2 : Hid (∀ V, Below W0.heap.size W0 V → HeldSn V (some ⟨w.heap.size, 0, none⟩) [sn1, sn2]) := fun V hV => (heldSn_blk HK0.out sn_oks).below hV
  have HS1 : Hid (∀ V, Below W0.heap.size W0 V → HeldSn V (some ⟨w.heap.size, 0, none⟩) [sn1]) := fun V hV => (HS2.out V hV).sub 1
  have HT : Hid (∀ V, Below W0.heap.size W0 V → Below W0.heap.size W0 (V.alloc (.cells #[.string ⟨#[116]⟩] 9)) ∧ HeldStr (V.alloc (.cells #[.string ⟨#[116]⟩] 9)) (some ⟨V.heap.size, 0, none⟩) [tTok]) := fun V hV => ⟨bt' hV (one_new _ _), heldStr_blk (Blk.new V _ _) (by decide)⟩
  have HBO : Hid (∀ V, Below W0.heap.size W0 V → Calls Try.prog 11 #[.slice (some ⟨w.heap.size, 0, none⟩) 2 2, .string ⟨#[116]⟩, .int .i64 1] V (BndP V 3 2)) := fun V hV => by
    have := bounds_any V _ 2 [sn1, sn2] 2 rfl (HS2.out V hV) (by omega) tTok 1
    rwa [lv5.1, lv5.2] at this
  have HC1 : Hid (∀ V, Below W0.heap.size W0 V → Calls Try.prog 9 #[.slice (some ⟨w.heap.size, 0, none⟩) 2 2, .slice (some ⟨V.heap.size, 0, none⟩) 1 1] (V.alloc (.cells #[.string ⟨#[116]⟩] 9)) (SaysI (V.alloc (.cells #[.string ⟨#[116]⟩] 9)) 250)) := fun V hV => by
    have := check_any _ _ 2 [sn1, sn2] 2 rfl (HS2.out _ (HT.out V hV).1) (by omega) _ 1 [tTok] 1 rfl (HT.out V hV).2 (by omega)
    rwa [lv1] at this
  have HC2 : Hid (∀ V, Below W0.heap.size W0 V → Calls Try.prog 9 #[.slice (some ⟨w.heap.size, 0, none⟩) 1 2, .slice (some ⟨V.heap.size, 0, none⟩) 1 1] (V.alloc (.cells #[.string ⟨#[116]⟩] 9)) (SaysI (V.alloc (.cells #[.string ⟨#[116]⟩] 9)) 0)) := fun V hV => by
    have := check_any _ _ 2 [sn1] 1 rfl (HS1.out _ (HT.out V hV).1) (by omega) _ 1 [tTok] 1 rfl (HT.out V hV).2 (by omega)
    rwa [lv2] at this
  have HC3 : Hid (∀ V, Below W0.heap.size W0 V → Calls Try.prog 9 #[.slice (some ⟨w.heap.size, 0, none⟩) 1 2, .slice none 0 0] V (SaysI V 250)) := fun V hV => by
    have := check_any _ _ 2 [sn1] 1 rfl (HS1.out _ hV) (by omega) none 0 [] 0 rfl (heldStr_nil V) (by omega)
    rwa [lv3] at this
  have HI4 : Hid (∀ V, Below W0.heap.size W0 V → Calls Try.prog 12 #[.slice (some ⟨w.heap.size, 0, none⟩) 2 2, .slice (some ⟨V.heap.size, 0, none⟩) 1 1] (V.alloc (.cells #[.string ⟨#[116]⟩] 9)) (SaysB (V.alloc (.cells #[.string ⟨#[116]⟩] 9)) true)) := fun V hV => by
    have := ids_any _ _ 2 [sn1, sn2] (HS2.out _ (HT.out V hV).1) (by show 2 ≤ _; omega) _ 1 [tTok] (HT.out V hV).2 (by show 1 ≤ _; omega)
    rwa [lv4] at this
  have HW0 := hid hW0
  clear hW0 HS2 HS1
  go_enter Try.func7, Try.ntmps7
  go_wp2_with fail
  rw [← HW0.out]
  obtain ⟨p, hp⟩ : ∃ p, p = w.heap.size := ⟨_, rfl⟩
  rw [← hp] at HBO HC1 HC2 HC3 HI4 ⊢
  clear hp
  refine (HBO.out _ (Below.refl _ _)).mono ?_
  rintro e w1 ⟨rfl, hb1⟩
  have HB1 := hid hb1
  clear hb1
  go_wp2_with fail
  refine (HC1.out _ HB1.out).mono ?_
  rintro e w2 ⟨rfl, hb2⟩
  have HB2 : Hid (Below W0.heap.size W0 w2) := bt' (HT.out _ HB1.out).1 hb2
  clear hb2
  go_wp2_with fail
  refine (HC2.out _ HB2.out).mono ?_
  rintro e w3 ⟨rfl, hb3⟩
  have HB3 : Hid (Below W0.heap.size W0 w3) := bt' (HT.out _ HB2.out).1 hb3
  clear hb3
  go_wp2_with fail
  refine (HC3.out _ HB3.out).mono ?_
  rintro e w4 ⟨rfl, hb4⟩
  have HB4 : Hid (Below W0.heap.size W0 w4) := bt' HB3.out hb4
  clear hb4
  go_wp2_with fail
  refine (HI4.out _ HB4.out).mono ?_
  rintro e w5 ⟨rfl, hb5⟩
  have HB5 : Hid (Below w.heap.size w w5) := by
    have := bt' (HT.out _ HB4.out).1 hb5
    exact bt' HB0.out this
  clear hb5
  go_wp2
  go_ret
  exact ⟨rfl, HB5.out⟩
end Go.Proofs.Ytfjmhfbmphdjiaa
