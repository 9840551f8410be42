/-
  Package disk: the order of Files: slices.SortFunc over api.File.
-/
import Derived.Test.YtcjkpkeopofmbaaDiskJ0
import Derived.Test.YtcjkpkeopofmbaaRowSort
import Derived.Shelf.SlSortCmp.WholeK
import Derived.Shelf.Small.Strs
import Derived.Shelf.Lay
import Derived.Ground.SlsfProg
import Derived.Ground.NamesProg
namespace Go.Proofs
open Go.Shelf Go.RowKit Go.Lib Go.Sort
shelf_lay_g SlLaysF0.n6 Slsf 6 at Try 55 as Ytcjkpkeopofmbaa.sortFiles
shelf_lay Lays.n106 Nm 106 at Try as Ytcjkpkeopofmbaa.strCompare
end Go.Proofs
namespace Go.Proofs.Ytcjkpkeopofmbaa
open Go.Shelf Go.RowKit Go.Lib Go.Sort

instance : Inhabited Fl := ⟨⟨ByteArray.empty, 0, .slice none 0 0, [], 0⟩⟩
def cmpF (x y : Fl) : Int := Lib.compareBytes x.name.data.toList y.name.data.toList

theorem files1 (x y : Fl) (W : World) : Calls Try.prog 56 #[.agg #[.string x.name, .string (strOfNums x.bytes), .int .i64 x.sure], .agg #[.string y.name, .string (strOfNums y.bytes), .int .i64 y.sure]] W fun e w' => e = .returned (.int .i64 (cmpF x y)) ∧ ∃ q os', w' = grow (W.drewN q) os' := by
  have hcon := fun W' => Any.strings_Compare strCompare x.name y.name W'
  change ∀ W', Calls Try.prog 57 _ _ _ at hcon
  unfold cmpF
  generalize Lib.compareBytes x.name.data.toList y.name.data.toList = r at hcon ⊢
  generalize strOfNums x.bytes = bx at *
  generalize strOfNums y.bytes = by_ at *
  go_enter Try.func56, Try.ntmps56
  go_wp2_with (go_at_call 57; refine (hcon _).mono ?_; rintro e w' ⟨rfl, rfl⟩)
  go_ret
  exact ⟨rfl, 0, _, by rw [alloc_eq_grow, alloc_eq_grow, grow_grow]; rfl⟩

theorem sort_any {w : World} {B g cap : Nat} {gs : List Fl} (hown : w.ownsRow B 47 3 (.slice (some ⟨g, 0, none⟩) gs.length cap) gs.length (flatF gs)) (hsz : gs.length ≤ 64) :
    Calls Try.prog 55 #[.slice (some ⟨g, 0, none⟩) gs.length cap, .func (.func 56) #[] #[]] w fun e w' => e = .returned (.tuple #[]) ∧ ∃ hs, hs.Perm gs ∧ hs.Pairwise (fun x y => ¬ cmpF y x < 0) ∧ w'.ownsRow B 47 3 (.slice (some ⟨g, 0, none⟩) gs.length cap) gs.length (flatF hs) ∧ w.grownBy w' (some g) := by
  obtain ⟨hH, hblk⟩ := holdsK_of_row (enc := Fl.cells) (fun _ => rfl) (by decide) hown
  have eg : ∀ args w, (callFunc 56 args).run Try.prog w = .ok (.enter 56 args) w := enters_of Try.func56 (by kernel_rfl) rfl
  have hcon := AnyQ.slices_SortFunc sortFiles 3 (fun w => by kernel_rfl) (fun w => by kernel_rfl) Fl.cells (fun _ => rfl) fl_one cmpF (cb_swo (fun f : Fl => f.name.data.toList)) 56 #[] g 0 cap gs.toArray w eg (fun _ _ _ _ x y => files1 x y _) hH hblk (by simp; omega)
  change Calls Try.prog 55 _ _ _ at hcon
  rw [List.size_toArray] at hcon
  refine hcon.mono ?_
  rintro e w' ⟨rfl, d', n, os, hp, hso, rfl⟩
  obtain ⟨h1, h2, h3⟩ := hp
  have hl : d'.toList.length = gs.length := by simpa using h1
  have hd : d' = d'.toList.toArray := by simp
  have hr := row_of_sort (enc := Fl.cells) (fun _ => rfl) (by decide) hown d'.toList hl n os
  rw [← hd] at hr
  refine ⟨rfl, d'.toList, ?_, ?_, hr.1, hr.2⟩
  · have hx : d'.extract 0 gs.length = d' := by
      have : gs.length = d'.size := by simpa using h1.symm
      rw [this]
      simp
    rw [hx] at h3
    simpa using h3
  · rw [List.pairwise_iff_getElem]
    intro i j hi hj hij
    have := hso i j (Nat.zero_le _) hij (by rw [← hl]; exact hj)
    rw [getElem!_pos d' j (by simpa using hj), getElem!_pos d' i (by simpa using hi)] at this
    simpa [ltOf] using this
end Go.Proofs.Ytcjkpkeopofmbaa
