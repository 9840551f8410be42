/-
  Package cart: the order of lines; slices.SortFunc of lines.
-/
import Derived.Test.YtkgfpnmifgifpaaRowSort
import Derived.Laws.Cover1
import Derived.Shelf.SlSortCmp.WholeK
import Derived.Shelf.Lay
import Derived.Ground.SlsfProg
namespace Go.Proofs
open Go.Shelf Go.RowKit Go.Lib Go.Sort
shelf_lay_g SlLaysF0.n6 Slsf 6 at Try 40 as Ytkgfpnmifgifpaa.sortLines
end Go.Proofs
namespace Go.Proofs.Ytkgfpnmifgifpaa
open Go.Shelf Go.RowKit Go.Lib Go.Sort Go.Maps

theorem bl_cb : ∀ a b : List UInt8, Op.bytesLess a b = decide (Lib.compareBytes a b < 0)
  | [], [] => by simp [Op.bytesLess, Lib.compareBytes]
  | [], _ :: _ => by simp [Op.bytesLess, Lib.compareBytes]
  | _ :: _, [] => by simp [Op.bytesLess, Lib.compareBytes]
  | x :: a, y :: b => by
    simp only [Op.bytesLess, Lib.compareBytes, bl_cb a b]
    by_cases h1 : x < y
    · simp [h1]
    · by_cases h2 : y < x
      · have h3 : ¬ x = y := fun e => by subst e; exact h1 h2
        simp [h1, h2, h3]
      · have h3 : x = y := u8_eq h1 h2
        simp [h3]
theorem cb_vals : ∀ a b : List UInt8, Lib.compareBytes a b = -1 ∨ Lib.compareBytes a b = 0 ∨ Lib.compareBytes a b = 1
  | [], [] => .inr (.inl rfl)
  | [], _ :: _ => .inl rfl
  | _ :: _, [] => .inr (.inr rfl)
  | x :: a, y :: b => by
    simp only [Lib.compareBytes]
    split
    · exact .inl rfl
    · split
      · exact .inr (.inr rfl)
      · exact cb_vals a b
theorem isNaN_str (w : World) (x : ByteArray) : Calls Try.prog 56 #[.string x] w fun e w' => e = .returned (.bool false) ∧ w' = w := by
  go_enter Try.func56, Try.ntmps56
  go_wp2
  go_ret
  exact ⟨by simp, rfl⟩
theorem compare_str (w : World) (x y : ByteArray) : Calls Try.prog 42 #[.string x, .string y] w fun e w' => e = .returned (.int .i64 (cmpS x y)) ∧ w' = w := by
  have HX := hid (isNaN_str w x)
  have HY := hid (isNaN_str w y)
  have hb := bl_cb x.toList y.toList
  have HV := hid (cb_vals x.data.toList y.data.toList)
  rw [ByteArray.toList_eq, ByteArray.toList_eq] at hb
  have HC : Hid (∀ r, Lib.compareBytes x.data.toList y.data.toList = r → cmpS x y = r) := fun r h => h
  by_cases h1 : Lib.compareBytes x.data.toList y.data.toList < 0
  · have hl : Op.bytesLess x.toList y.toList = true := by rw [ByteArray.toList_eq, ByteArray.toList_eq, hb]; simp [h1]
    have HR := hid (HC.out (-1) (by have := HV.out; omega))
    rw [HR.out]
    clear hb HV HC h1
    go_enter Try.func42, Try.ntmps42
    go_wp2_with fail
    refine HX.out.mono ?_
    rintro e w' ⟨rfl, rfl⟩
    go_wp2_with fail
    refine HY.out.mono ?_
    rintro e w' ⟨rfl, rfl⟩
    go_wp2
    go_ret
    exact ⟨rfl, rfl⟩
  · have hl : Op.bytesLess x.toList y.toList = false := by rw [ByteArray.toList_eq, ByteArray.toList_eq, hb]; simp [h1]
    by_cases h2 : Lib.compareBytes x.data.toList y.data.toList = 0
    · have he : x.toList = y.toList := by rw [ByteArray.toList_eq, ByteArray.toList_eq]; exact cb_eq _ _ h2
      have hbe : (x.toList == y.toList) = true := by simp [he]
      have HR := hid (HC.out 0 h2)
      rw [HR.out]
      clear hb HV HC h1 h2 he
      go_enter Try.func42, Try.ntmps42
      go_wp2_with fail
      refine HX.out.mono ?_
      rintro e w' ⟨rfl, rfl⟩
      go_wp2_with fail
      refine HY.out.mono ?_
      rintro e w' ⟨rfl, rfl⟩
      go_wp2
      go_ret
      exact ⟨rfl, rfl⟩
    · have he : ¬ x.toList = y.toList := fun e => h2 (by rw [ByteArray.toList_eq, ByteArray.toList_eq] at e; rw [e]; exact cb_refl _)
      have hbe : (x.toList == y.toList) = false := by simpa using he
      have HR := hid (HC.out 1 (by have := HV.out; omega))
      rw [HR.out]
      clear hb HV HC h1 h2
      go_enter Try.func42, Try.ntmps42
      go_wp2_with fail
      refine HX.out.mono ?_
      rintro e w' ⟨rfl, rfl⟩
      go_wp2_with fail
      refine HY.out.mono ?_
      rintro e w' ⟨rfl, rfl⟩
      go_wp2
      go_ret
      exact ⟨rfl, rfl⟩
theorem cmpL_swo : Sort.SWO (ltOf cmpL) := cb_swo (fun x : Ln => x.1.data.toList)
theorem lines2_any (W : World) (x y : Ln) : Calls Try.prog 41 #[.agg #[.string x.1, .int .i64 x.2], .agg #[.string y.1, .int .i64 y.2]] W fun e w' => e = .returned (.int .i64 (cmpL x y)) ∧ ∃ q os', w' = Sort.grow (W.drewN q) os' := by
  obtain ⟨x1, x2⟩ := x
  obtain ⟨y1, y2⟩ := y
  have HG : Hid ((W.alloc (.cells #[.string x1, .int .i64 x2] 57)).alloc (.cells #[.string y1, .int .i64 y2] 57) = Sort.grow W #[.cells #[.string x1, .int .i64 x2] 57, .cells #[.string y1, .int .i64 y2] 57]) := by show _ = _; rw [Sort.alloc_eq_grow, Sort.alloc_eq_grow, Sort.grow_grow]; rfl
  have HC := hid (fun V => compare_str V x1 y1)
  have HCT : Hid (cmpL (x1, x2) (y1, y2) = cmpS x1 y1) := rfl
  rw [HCT.out]
  obtain ⟨r, HR⟩ : ∃ r, Hid (cmpS x1 y1 = r) := ⟨_, hid rfl⟩
  rw [HR.out] at HC ⊢
  go_enter Try.func41, Try.ntmps41
  go_wp2_with fail
  refine (HC.out _).mono ?_
  rintro e w' ⟨rfl, rfl⟩
  go_wp2
  go_ret
  exact ⟨rfl, 0, _, HG.out⟩
theorem insertL_nil (w : World) (c : Nat) : Calls Try.prog 65 #[.slice none 0 0, .int .i64 0, .int .i64 0, .func (.func c) #[] #[]] w fun e w' => e = .returned (.tuple #[]) ∧ w' = w := by
  go_enter Try.func65, Try.ntmps65
  go_wp2
  refine wp_loop_rounds 1 ?_
  rw [rounds_succ]
  go_wp2
  refine bodyPost_end (results_none rfl _ _ _) rfl ?_
  exact ⟨rfl, rfl⟩
set_option maxRecDepth 100000 in
theorem pdqL_nil (w : World) (c : Nat) (l : Int) : Calls Try.prog 54 #[.slice none 0 0, .int .i64 0, .int .i64 0, .int .i64 l, .func (.func c) #[] #[]] w fun e w' => e = .returned (.tuple #[]) ∧ w' = w := by
  have H := hid (insertL_nil w c)
  go_enter Try.func54, Try.ntmps54
  go_wp2
  refine wp_loop_rounds 1 ?_
  rw [rounds_succ]
  go_wp2_with fail
  refine H.out.mono ?_
  rintro e w' ⟨rfl, rfl⟩
  go_wp2
  refine bodyPost_ret (results_none rfl _ _ _) rfl ?_
  exact ⟨rfl, rfl⟩
theorem sortL_nil (w : World) (c : Nat) : Calls Try.prog 40 #[.slice none 0 0, .func (.func c) #[] #[]] w fun e w' => e = .returned (.tuple #[]) ∧ w' = w := by
  have H := hid (fun l => pdqL_nil w c l)
  have HB := hid (Any.bits_Len (SlLaysF0.n15.bits { sortLines with }) 0 w (by omega) (by omega))
  go_enter Try.func40, Try.ntmps40
  go_wp2_with fail
  refine HB.out.mono ?_
  rintro e w' ⟨rfl, rfl⟩
  go_wp2_with fail
  refine (H.out _).mono ?_
  rintro e w' ⟨rfl, rfl⟩
  go_wp2
  refine bodyPost_end (results_none rfl _ _ _) rfl ?_
  exact ⟨rfl, rfl⟩
theorem sortL_some {w : World} {B g cap : Nat} {gs : List Ln} (hown : w.ownsRow B 57 2 (.slice (some ⟨g, 0, none⟩) gs.length cap) gs.length (flatL gs)) (hsz : gs.length ≤ 4194304) :
    Calls Try.prog 40 #[.slice (some ⟨g, 0, none⟩) gs.length cap, .func (.func 41) #[] #[]] w fun e w' => e = .returned (.tuple #[]) ∧ ∃ hs, hs.Perm gs ∧ hs.Pairwise (fun x y => ¬ cmpL y x < 0) ∧ w'.ownsRow B 57 2 (.slice (some ⟨g, 0, none⟩) gs.length cap) gs.length (flatL hs) ∧ w.grownBy w' (some g) := by
  obtain ⟨hH, hblk⟩ := holdsK_of_row (enc := lineCells) (fun _ => rfl) (by decide) hown
  have eg : ∀ args w, (callFunc 41 args).run Try.prog w = .ok (.enter 41 args) w := enters_of Try.func41 (by kernel_rfl) rfl
  have hcon := AnyQ.slices_SortFunc sortLines 2 (fun w => by kernel_rfl) (fun w => by kernel_rfl) lineCells (fun _ => rfl) (fun x v hv => by simp [lineCells] at hv; rcases hv with rfl | rfl <;> rfl) cmpL cmpL_swo 41 #[] g 0 cap gs.toArray w eg (fun _ _ _ _ x y => lines2_any _ x y) hH hblk (by simp; omega)
  change Calls Try.prog 40 _ _ _ at hcon
  rw [List.size_toArray] at hcon
  refine hcon.mono ?_
  rintro e w' ⟨rfl, d', n, os, hp, hso, rfl⟩
  obtain ⟨h1, h2, h3⟩ := hp
  have hl : d'.toList.length = gs.length := by simpa using h1
  have hd : d' = d'.toList.toArray := by simp
  have hr := row_of_sort (enc := lineCells) (fun _ => rfl) (by decide) hown d'.toList hl n os
  rw [← hd] at hr
  refine ⟨rfl, d'.toList, ?_, ?_, hr.1, hr.2⟩
  · have hx : d'.extract 0 gs.length = d' := by
      have : gs.length = d'.size := by simpa using h1.symm
      rw [this]
      simp
    rw [hx] at h3
    simpa using h3
  · rw [List.pairwise_iff_getElem]
    intro i j hi hj hij
    have := hso i j (Nat.zero_le _) hij (by rw [← hl]; exact hj)
    rw [getElem!_pos d' j (by simpa using hj), getElem!_pos d' i (by simpa using hi)] at this
    simpa [ltOf] using this

theorem sortL_any {w : World} {B : Nat} {v : Value} {gs : List Ln} (hown : w.ownsRow B 57 2 v gs.length (flatL gs)) (hsz : gs.length ≤ 4194304) :
    Calls Try.prog 40 #[v, .func (.func 41) #[] #[]] w fun e w' => e = .returned (.tuple #[]) ∧ ∃ hs, hs.Perm gs ∧ hs.Pairwise (fun x y => ¬ cmpL y x < 0) ∧ w'.ownsRow B 57 2 v gs.length (flatL hs) ∧ w.grownBy w' v.ownBlock := by
  rcases hown.2 with ⟨rfl, h0⟩ | ⟨g, cap, cur, rfl, _⟩
  · obtain rfl : gs = [] := List.eq_nil_of_length_eq_zero h0
    refine (sortL_nil w _).mono ?_
    rintro e w' ⟨rfl, rfl⟩
    exact ⟨rfl, [], .nil, .nil, hown, World.grownBy.refl _ _⟩
  · exact sortL_some hown hsz
end Go.Proofs.Ytkgfpnmifgifpaa
