/-
  A row of elements of k cells, and the world that slices.SortFunc leaves ('sortWorldK'). No function of the program is named here.
-/
import Derived.Shelf.SlSortCmp.InsertionK
import Derived.Laws.AppendOwn
import Derived.Test.YtjfohnkfcfifeaaDiskJ0
import Derived.Shelf.SlSortCmp.WholeK
import Derived.Shelf.Small.Strs
import Derived.Shelf.Lay
import Derived.Ground.SlsfProg
import Derived.Ground.NamesProg
namespace Go.Proofs.Ytjfohnkfcfifeaa
open Go.RowKit Go.Sort

section
variable {α : Type} [Inhabited α] {enc : α → List Value} {k : Nat}

omit [Inhabited α] in
theorem rflat_len (hk : ∀ x, (enc x).length = k) : ∀ gs : List α, (gs.flatMap enc).length = gs.length * k
  | [] => by simp
  | x :: r => by
    rw [List.flatMap_cons, List.length_append, hk, rflat_len hk r, List.length_cons, Nat.succ_mul]
    omega
theorem rflat_get (hk : ∀ x, (enc x).length = k) (h0 : 0 < k) : ∀ (gs : List α) (j : Nat), j < gs.length * k → (gs.flatMap enc)[j]? = some (enc gs[j / k]!)[j % k]!
  | [], j, h => by simp at h
  | x :: r, j, h => by
    rw [List.flatMap_cons]
    by_cases hj : j < k
    · rw [List.getElem?_append_left (by rw [hk]; exact hj), Nat.div_eq_of_lt hj, Nat.mod_eq_of_lt hj]
      have hl : j < (enc x).length := by rw [hk]; exact hj
      simp [List.getElem?_eq_getElem hl, getElem!_pos (enc x) j hl]
    · obtain ⟨i, rfl⟩ : ∃ i, j = i + k := ⟨j - k, by omega⟩
      have hi : i < r.length * k := by rw [List.length_cons, Nat.succ_mul] at h; omega
      rw [List.getElem?_append_right (by rw [hk]; omega), hk, Nat.add_sub_cancel, rflat_get hk h0 r i hi, Nat.add_div_right _ h0, Nat.add_mod_right]
      simp

theorem flatK_list (hk : ∀ x, (enc x).length = k) (h0 : 0 < k) (gs : List α) (j : Nat) (hj : j < gs.length * k) : (gs.flatMap enc)[j]? = some (flatK enc k gs.toArray)[j]! := by
  rw [rflat_get hk h0 gs j hj, get_flatK enc k gs.toArray j (by simpa using hj)]
  simp

variable {w : World} {B e g cap : Nat} {gs : List α}
theorem holdsK_of_row (hk : ∀ x, (enc x).length = k) (h0 : 0 < k) (hown : w.ownsRow B e k (.slice (some ⟨g, 0, none⟩) gs.length cap) gs.length (gs.flatMap enc)) : HoldsK enc k w g 0 gs.toArray ∧ g < w.heap.size := by
  rcases hown.2 with ⟨h, _⟩ | ⟨g', cap', cur, he, _, hg, hn, _, hsz, htk⟩
  · cases h
  · cases he
    refine ⟨fun j hj => ?_, (Array.getElem?_eq_some_iff.1 hg).1⟩
    have hj' : j < gs.length * k := by simpa using hj
    have h1 : cur.toList[j]? = (gs.flatMap enc)[j]? := by rw [← htk, List.getElem?_take_of_lt hj']
    rw [flatK_list hk h0 gs j hj'] at h1
    constructor
    · simp only [World.cell?, hg, Nat.zero_add]
      simpa using h1
    · simp [World.frozen?, hg]

theorem row_of_sort (hk : ∀ x, (enc x).length = k) (h0 : 0 < k) (hown : w.ownsRow B e k (.slice (some ⟨g, 0, none⟩) gs.length cap) gs.length (gs.flatMap enc)) (hs : List α) (hl : hs.length = gs.length) (n : Nat) (os : Array Obj) :
    (sortWorldK enc k w g 0 n hs.toArray os).ownsRow B e k (.slice (some ⟨g, 0, none⟩) gs.length cap) gs.length (hs.flatMap enc) ∧ w.grownBy (sortWorldK enc k w g 0 n hs.toArray os) (some g) := by
  have hsize : ∀ i, i < w.heap.size → i < (putRowK enc k (Sort.ahead w n) g 0 hs.toArray).heap.size := fun i hi => by
    simpa [putRowK, putRow, mapBlock, Sort.ahead] using hi
  constructor
  · rcases hown.2 with ⟨h, _⟩ | ⟨g', cap', cur, he, hB, hg, hn, hm, hsz, htk⟩
    · cases h
    · cases he
      have hgl := (Array.getElem?_eq_some_iff.1 hg).1
      refine ⟨by rw [rflat_len hk, hl], .inr ⟨g, cap, putCells id 0 (flatK enc k hs.toArray) cur, rfl, hB, ?_, hn, hm, by simpa [putCells] using hsz, ?_⟩⟩
      · unfold sortWorldK
        rw [heap_grow_old _ _ (hsize g hgl)]
        show ((Sort.ahead w n).heap.modify g _)[g]? = _
        rw [Array.getElem?_modify]
        have hg' : (Sort.ahead w n).heap[g]? = some (.cells cur e (0, 0)) := hg
        rw [if_pos rfl, hg']
        rfl
      · apply List.ext_getElem?
        intro j
        by_cases hj : j < gs.length * k
        · rw [List.getElem?_take_of_lt hj, flatK_list hk h0 hs j (by rw [hl]; exact hj)]
          have hc : j < cur.size := by rw [hsz]; exact Nat.lt_of_lt_of_le hj (Nat.mul_le_mul_right k hn)
          have hf : j < (flatK enc k hs.toArray).size := by simpa [hl] using hj
          simp only [putCells, Array.getElem?_toList, Array.getElem?_mapIdx, Nat.zero_le, true_and, Nat.zero_add, Nat.sub_zero, id, hf, if_true]
          rw [Array.getElem?_eq_getElem hc]
          rfl
        · rw [List.getElem?_eq_none (by rw [List.length_take]; omega), List.getElem?_eq_none (by rw [rflat_len hk, hl]; omega)]
  · refine ⟨rfl, rfl, rfl, ?_, fun i hi hne => ?_⟩
    · have : (putRowK enc k (Sort.ahead w n) g 0 hs.toArray).heap.size = w.heap.size := by simp [putRowK, putRow, mapBlock, Sort.ahead]
      unfold sortWorldK grow
      simp [this]
    · unfold sortWorldK
      rw [heap_grow_old _ _ (hsize i hi)]
      show ((Sort.ahead w n).heap.modify g _)[i]? = _
      rw [Array.getElem?_modify, if_neg (fun e => hne (by rw [e]))]
      rfl
end
end Go.Proofs.Ytjfohnkfcfifeaa
/-
  Package disk: the order of Files: slices.SortFunc over api.File.
-/
namespace Go.Proofs
open Go.Shelf Go.RowKit Go.Lib Go.Sort
shelf_lay_g SlLaysF0.n6 Slsf 6 at Try 39 as Ytjfohnkfcfifeaa.sortFiles
shelf_lay Lays.n106 Nm 106 at Try as Ytjfohnkfcfifeaa.strCompare
end Go.Proofs
namespace Go.Proofs.Ytjfohnkfcfifeaa
open Go.Shelf Go.RowKit Go.Lib Go.Sort

instance : Inhabited Fl := ⟨⟨ByteArray.empty, 0, .slice none 0 0, [], 0⟩⟩
def cmpF (x y : Fl) : Int := Lib.compareBytes x.name.data.toList y.name.data.toList

theorem files1 (x y : Fl) (W : World) : Calls Try.prog 40 #[.agg #[.string x.name, .string (strOfNums x.bytes), .int .i64 x.sure], .agg #[.string y.name, .string (strOfNums y.bytes), .int .i64 y.sure]] W fun e w' => e = .returned (.int .i64 (cmpF x y)) ∧ ∃ q os', w' = grow (W.drewN q) os' := by
  have hcon := fun W' => Any.strings_Compare strCompare x.name y.name W'
  change ∀ W', Calls Try.prog 41 _ _ _ at hcon
  unfold cmpF
  generalize Lib.compareBytes x.name.data.toList y.name.data.toList = r at hcon ⊢
  generalize strOfNums x.bytes = bx at *
  generalize strOfNums y.bytes = by_ at *
  go_enter Try.func40, Try.ntmps40
  go_wp2_with (go_at_call 41; refine (hcon _).mono ?_; rintro e w' ⟨rfl, rfl⟩)
  go_ret
  exact ⟨rfl, 0, _, by rw [alloc_eq_grow, alloc_eq_grow, grow_grow]; rfl⟩

theorem sort_any {w : World} {B g cap : Nat} {gs : List Fl} (hown : w.ownsRow B 47 3 (.slice (some ⟨g, 0, none⟩) gs.length cap) gs.length (flatF gs)) (hsz : gs.length ≤ 64) :
    Calls Try.prog 39 #[.slice (some ⟨g, 0, none⟩) gs.length cap, .func (.func 40) #[] #[]] w fun e w' => e = .returned (.tuple #[]) ∧ ∃ hs, hs.Perm gs ∧ hs.Pairwise (fun x y => ¬ cmpF y x < 0) ∧ w'.ownsRow B 47 3 (.slice (some ⟨g, 0, none⟩) gs.length cap) gs.length (flatF hs) ∧ w.grownBy w' (some g) := by
  obtain ⟨hH, hblk⟩ := holdsK_of_row (enc := Fl.cells) (fun _ => rfl) (by decide) hown
  have eg : ∀ args w, (callFunc 40 args).run Try.prog w = .ok (.enter 40 args) w := enters_of Try.func40 (by kernel_rfl) rfl
  have hcon := AnyQ.slices_SortFunc sortFiles 3 (fun w => by kernel_rfl) (fun w => by kernel_rfl) Fl.cells (fun _ => rfl) fl_one cmpF (cb_swo (fun f : Fl => f.name.data.toList)) 40 #[] g 0 cap gs.toArray w eg (fun _ _ _ _ x y => files1 x y _) hH hblk (by simp; omega)
  change Calls Try.prog 39 _ _ _ at hcon
  rw [List.size_toArray] at hcon
  refine hcon.mono ?_
  rintro e w' ⟨rfl, d', n, os, hp, hso, rfl⟩
  obtain ⟨h1, h2, h3⟩ := hp
  have hl : d'.toList.length = gs.length := by simpa using h1
  have hd : d' = d'.toList.toArray := by simp
  have hr := row_of_sort (enc := Fl.cells) (fun _ => rfl) (by decide) hown d'.toList hl n os
  rw [← hd] at hr
  refine ⟨rfl, d'.toList, ?_, ?_, hr.1, hr.2⟩
  · have hx : d'.extract 0 gs.length = d' := by
      have : gs.length = d'.size := by simpa using h1.symm
      rw [this]
      simp
    rw [hx] at h3
    simpa using h3
  · rw [List.pairwise_iff_getElem]
    intro i j hi hj hij
    have := hso i j (Nat.zero_le _) hij (by rw [← hl]; exact hj)
    rw [getElem!_pos d' j (by simpa using hj), getElem!_pos d' i (by simpa using hi)] at this
    simpa [ltOf] using this
end Go.Proofs.Ytjfohnkfcfifeaa
