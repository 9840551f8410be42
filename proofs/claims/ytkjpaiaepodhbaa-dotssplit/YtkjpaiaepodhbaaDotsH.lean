/-
  Package dots: slices.SortFunc over dots.
-/
import Derived.Test.YtkjpaiaepodhbaaDotsG
namespace Go.Proofs
open Go.Shelf Go.RowKit Go.Lib Go.Sort
shelf_lay_g SlLaysF0.n6 Slsf 6 at Try 68 as Ytkjpaiaepodhbaa.sortDots
end Go.Proofs
namespace Go.Proofs.Ytkjpaiaepodhbaa
open Go.Shelf Go.RowKit Go.Lib Go.Sort

def dotCells (x : Int × Int) : List Value := [.int .i64 x.1, .int .i64 x.2]
theorem flatD_eq (ds : List (Int × Int)) : flatD ds = ds.flatMap dotCells := rfl
theorem cmpD_lt (x y : Int × Int) : cmpD x y < 0 ↔ (x.1 < y.1 ∨ x.1 = y.1 ∧ x.2 < y.2) := by
  unfold cmpD cmpI
  (repeat' split) <;> omega
theorem cmpD_swo : Sort.SWO (ltOf cmpD) where
  irrefl x := by
    have := cmpD_lt x x
    simp [ltOf]
    omega
  trans x y z h1 h2 := by
    simp [ltOf, cmpD_lt] at h1 h2 ⊢
    omega
  ntrans x y z h1 h2 := by
    have a := cmpD_lt x y
    have b := cmpD_lt y z
    have c := cmpD_lt x z
    simp [ltOf] at h1 h2 ⊢
    omega
theorem insert_nil (w : World) (c : Nat) : Calls Try.prog 85 #[.slice none 0 0, .int .i64 0, .int .i64 0, .func (.func c) #[] #[]] w fun e w' => e = .returned (.tuple #[]) ∧ w' = w := by
  go_enter Try.func85, Try.ntmps85
  go_wp2
  refine wp_loop_rounds 1 ?_
  rw [rounds_succ]
  go_wp2
  refine bodyPost_end (results_none rfl _ _ _) rfl ?_
  exact ⟨rfl, rfl⟩
set_option maxRecDepth 100000 in
theorem pdq_nil (w : World) (c : Nat) (l : Int) : Calls Try.prog 80 #[.slice none 0 0, .int .i64 0, .int .i64 0, .int .i64 l, .func (.func c) #[] #[]] w fun e w' => e = .returned (.tuple #[]) ∧ w' = w := by
  have H := hid (insert_nil w c)
  go_enter Try.func80, Try.ntmps80
  go_wp2
  refine wp_loop_rounds 1 ?_
  rw [rounds_succ]
  go_wp2_with fail
  refine H.out.mono ?_
  rintro e w' ⟨rfl, rfl⟩
  go_wp2
  refine bodyPost_ret (results_none rfl _ _ _) rfl ?_
  exact ⟨rfl, rfl⟩
theorem sortD_nil (w : World) (c : Nat) : Calls Try.prog 68 #[.slice none 0 0, .func (.func c) #[] #[]] w fun e w' => e = .returned (.tuple #[]) ∧ w' = w := by
  have H := hid (fun l => pdq_nil w c l)
  have HB := hid (Any.bits_Len (SlLaysF0.n15.bits { sortDots with }) 0 w (by omega) (by omega))
  go_enter Try.func68, Try.ntmps68
  go_wp2_with fail
  refine HB.out.mono ?_
  rintro e w' ⟨rfl, rfl⟩
  go_wp2_with fail
  refine (H.out _).mono ?_
  rintro e w' ⟨rfl, rfl⟩
  go_wp2
  refine bodyPost_end (results_none rfl _ _ _) rfl ?_
  exact ⟨rfl, rfl⟩
theorem sortD_some {w : World} {B g cap : Nat} {gs : List (Int × Int)} (hown : w.ownsRow B 25 2 (.slice (some ⟨g, 0, none⟩) gs.length cap) gs.length (flatD gs)) (hsz : gs.length ≤ 65536) :
    Calls Try.prog 68 #[.slice (some ⟨g, 0, none⟩) gs.length cap, .func (.func 52) #[] #[]] w fun e w' => e = .returned (.tuple #[]) ∧ ∃ hs, hs.Perm gs ∧ hs.Pairwise (fun x y => ¬ cmpD y x < 0) ∧ w'.ownsRow B 25 2 (.slice (some ⟨g, 0, none⟩) gs.length cap) gs.length (flatD hs) ∧ w.grownBy w' (some g) := by
  obtain ⟨hH, hblk⟩ := holdsK_of_row (enc := dotCells) (fun _ => rfl) (by decide) hown
  have eg : ∀ args w, (callFunc 52 args).run Try.prog w = .ok (.enter 52 args) w := enters_of Try.func52 (by kernel_rfl) rfl
  have hcon := AnyQ.slices_SortFunc sortDots 2 (fun w => by kernel_rfl) (fun w => by kernel_rfl) dotCells (fun _ => rfl) (fun x v hv => by simp [dotCells] at hv; rcases hv with rfl | rfl <;> rfl) cmpD cmpD_swo 52 #[] g 0 cap gs.toArray w eg (fun _ _ _ _ x y => compareDots_any _ x y) hH hblk (by simp; omega)
  change Calls Try.prog 68 _ _ _ at hcon
  rw [List.size_toArray] at hcon
  refine hcon.mono ?_
  rintro e w' ⟨rfl, d', n, os, hp, hso, rfl⟩
  obtain ⟨h1, h2, h3⟩ := hp
  have hl : d'.toList.length = gs.length := by simpa using h1
  have hd : d' = d'.toList.toArray := by simp
  have hr := row_of_sort (enc := dotCells) (fun _ => rfl) (by decide) hown d'.toList hl n os
  rw [← hd] at hr
  refine ⟨rfl, d'.toList, ?_, ?_, hr.1, hr.2⟩
  · have hx : d'.extract 0 gs.length = d' := by
      have : gs.length = d'.size := by simpa using h1.symm
      rw [this]
      simp
    rw [hx] at h3
    simpa using h3
  · rw [List.pairwise_iff_getElem]
    intro i j hi hj hij
    have := hso i j (Nat.zero_le _) hij (by rw [← hl]; exact hj)
    rw [getElem!_pos d' j (by simpa using hj), getElem!_pos d' i (by simpa using hi)] at this
    simpa [ltOf] using this
end Go.Proofs.Ytkjpaiaepodhbaa
