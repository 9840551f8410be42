/-
  Package dots: Vector.
-/
import Derived.Test.YtjcoahcbdlpcpaaGreatDotsE
import Derived.Shelf.SlSortCmp.InsertionK
import Derived.Laws.AppendOwn
namespace Go.Proofs.YtjcoahcbdlpcpaaGreat
open Go.RowKit Go.Maps

def lensOf (R : Nat → List Value) : List Int := [((R 0).length : Int), ((R 1).length : Int), ((R 2).length : Int), ((R 3).length : Int), ((R 4).length : Int), ((R 5).length : Int), ((R 6).length : Int)]
theorem vector_nil (w : World) : Calls Tryz.prog 12 #[.pointer none] w fun e w' => e = .returned (.slice none 0 0) ∧ w' = w := by
  go_enter Tryz.func12, Tryz.ntmps12
  go_wp2_with fail
  refine (closedD_nil _).mono ?_
  rintro e w' ⟨rfl, rfl⟩
  go_wp2
  go_ret
  exact ⟨rfl, rfl⟩
section
variable {w : World} {p m N : Nat} {rs : Nat → Value} {R : Nat → List Value} {D : DataW Value} {S : Int → Int → Option Value}
set_option maxRecDepth 100000 in
theorem vector_any (h : DotsPre w p rs R m D S N) : Calls Tryz.prog 12 #[.pointer (some ⟨p, 0, none⟩)] w (AnsV w (plainOf (lensOf R))) := by
  have hc7 := h.blk.cell (i := 7) rfl
  have hc0 := h.blk.cell (i := 0) rfl
  have hc1 := h.blk.cell (i := 1) rfl
  have hc2 := h.blk.cell (i := 2) rfl
  have hc3 := h.blk.cell (i := 3) rfl
  have hc4 := h.blk.cell (i := 4) rfl
  have hc5 := h.blk.cell (i := 5) rfl
  have hc6 := h.blk.cell (i := 6) rfl
  obtain ⟨a, c, hf⟩ := h.forms
  rw [hf 0 (by decide)] at hc0
  rw [hf 1 (by decide)] at hc1
  rw [hf 2 (by decide)] at hc2
  rw [hf 3 (by decide)] at hc3
  rw [hf 4 (by decide)] at hc4
  rw [hf 5 (by decide)] at hc5
  rw [hf 6 (by decide)] at hc6
  have HLN : Hid (∀ i, i < 7 → (R i).length ≤ 65536) := fun i hi => h.len hi
  have hpl := h.blk.lt
  clear hf h
  have x0 := fun W => idx0 W (.slice (a 0) (R 0).length (c 0)) (.slice (a 1) (R 1).length (c 1)) (.slice (a 2) (R 2).length (c 2)) (.slice (a 3) (R 3).length (c 3)) (.slice (a 4) (R 4).length (c 4)) (.slice (a 5) (R 5).length (c 5)) (.slice (a 6) (R 6).length (c 6))
  have x1 := fun W => idx1 W (.slice (a 0) (R 0).length (c 0)) (.slice (a 1) (R 1).length (c 1)) (.slice (a 2) (R 2).length (c 2)) (.slice (a 3) (R 3).length (c 3)) (.slice (a 4) (R 4).length (c 4)) (.slice (a 5) (R 5).length (c 5)) (.slice (a 6) (R 6).length (c 6))
  have x2 := fun W => idx2 W (.slice (a 0) (R 0).length (c 0)) (.slice (a 1) (R 1).length (c 1)) (.slice (a 2) (R 2).length (c 2)) (.slice (a 3) (R 3).length (c 3)) (.slice (a 4) (R 4).length (c 4)) (.slice (a 5) (R 5).length (c 5)) (.slice (a 6) (R 6).length (c 6))
  have x3 := fun W => idx3 W (.slice (a 0) (R 0).length (c 0)) (.slice (a 1) (R 1).length (c 1)) (.slice (a 2) (R 2).length (c 2)) (.slice (a 3) (R 3).length (c 3)) (.slice (a 4) (R 4).length (c 4)) (.slice (a 5) (R 5).length (c 5)) (.slice (a 6) (R 6).length (c 6))
  have x4 := fun W => idx4 W (.slice (a 0) (R 0).length (c 0)) (.slice (a 1) (R 1).length (c 1)) (.slice (a 2) (R 2).length (c 2)) (.slice (a 3) (R 3).length (c 3)) (.slice (a 4) (R 4).length (c 4)) (.slice (a 5) (R 5).length (c 5)) (.slice (a 6) (R 6).length (c 6))
  have x5 := fun W => idx5 W (.slice (a 0) (R 0).length (c 0)) (.slice (a 1) (R 1).length (c 1)) (.slice (a 2) (R 2).length (c 2)) (.slice (a 3) (R 3).length (c 3)) (.slice (a 4) (R 4).length (c 4)) (.slice (a 5) (R 5).length (c 5)) (.slice (a 6) (R 6).length (c 6))
  have x6 := fun W => idx6 W (.slice (a 0) (R 0).length (c 0)) (.slice (a 1) (R 1).length (c 1)) (.slice (a 2) (R 2).length (c 2)) (.slice (a 3) (R 3).length (c 3)) (.slice (a 4) (R 4).length (c 4)) (.slice (a 5) (R 5).length (c 5)) (.slice (a 6) (R 6).length (c 6))
  have hmk : ∀ W, (Instr.makeSlice 38 (.int .i64 7) (.int .i64 7)).run Tryz.prog W = .ok (.slice (some ⟨W.heap.size, 0, none⟩) 7 7) (W.alloc (.cells #[.int .i64 0, .int .i64 0, .int .i64 0, .int .i64 0, .int .i64 0, .int .i64 0, .int .i64 0] 3)) := fun W => by
    have h := run_make_row' (P := Tryz.prog) 38 3 (.int .i64 0) 8 Tryz.underlying38 Tryz.infoInt rfl .i64 .i64 7 (by decide) (by decide) W
    rw [show madeCells #[.int .i64 0] 7 = #[.int .i64 0, .int .i64 0, .int .i64 0, .int .i64 0, .int .i64 0, .int .i64 0, .int .i64 0] by kernel_rfl] at h
    exact h
  go_enter Tryz.func12, Tryz.ntmps12
  go_wp2_with fail
  refine (closedD_no w p m hc7).mono ?_
  rintro e w' ⟨rfl, rfl⟩
  go_wp2
  refine wp_loop_rounds 8 ?_
  rw [rounds_succ]
  go_wp2
  rw [rounds_succ]
  go_wp2
  rw [rounds_succ]
  go_wp2
  rw [rounds_succ]
  go_wp2
  rw [rounds_succ]
  go_wp2
  rw [rounds_succ]
  go_wp2
  rw [rounds_succ]
  go_wp2
  rw [rounds_succ]
  go_wp2_with fail
  have HB : Hid (Below w'.heap.size w' (w'.alloc (.cells (ints (lensOf R)).toArray 3))) := (Below.refl _ _).alloc (Nat.le_refl _) _
  have hh := HeldInt.new w' (lensOf R) (fun x hx => by
    have h0 := HLN.out 0 (by decide)
    have h1 := HLN.out 1 (by decide)
    have h2 := HLN.out 2 (by decide)
    have h3 := HLN.out 3 (by decide)
    have h4 := HLN.out 4 (by decide)
    have h5 := HLN.out 5 (by decide)
    have h6 := HLN.out 6 (by decide)
    simp [lensOf] at hx
    omega)
  have HPL := hid (plain_any (w'.alloc (.cells (ints (lensOf R)).toArray 3)) (some ⟨w'.heap.size, 0, none⟩) 7 (lensOf R) 7 rfl ⟨hh, Nat.le_refl _, by simp [lensOf]⟩)
  refine HPL.out.mono ?_
  rintro e w5 ⟨bo, cp, rfl, hv, hb5⟩
  have HV5 := hid hv
  have HB5 := hid (bt HB.out hb5)
  clear hv hb5
  go_wp2
  go_ret
  exact ⟨bo, cp, rfl, HV5.out, HB5.out⟩
end
end Go.Proofs.YtjcoahcbdlpcpaaGreat
/-
  A row of elements of k cells, and the world that slices.SortFunc leaves ('sortWorldK'). No function of the program is named here.
-/
namespace Go.Proofs.YtjcoahcbdlpcpaaGreat
open Go.RowKit Go.Sort

section
variable {α : Type} [Inhabited α] {enc : α → List Value} {k : Nat}

omit [Inhabited α] in
theorem rflat_len (hk : ∀ x, (enc x).length = k) : ∀ gs : List α, (gs.flatMap enc).length = gs.length * k
  | [] => by simp
  | x :: r => by
    rw [List.flatMap_cons, List.length_append, hk, rflat_len hk r, List.length_cons, Nat.succ_mul]
    omega
theorem rflat_get (hk : ∀ x, (enc x).length = k) (h0 : 0 < k) : ∀ (gs : List α) (j : Nat), j < gs.length * k → (gs.flatMap enc)[j]? = some (enc gs[j / k]!)[j % k]!
  | [], j, h => by simp at h
  | x :: r, j, h => by
    rw [List.flatMap_cons]
    by_cases hj : j < k
    · rw [List.getElem?_append_left (by rw [hk]; exact hj), Nat.div_eq_of_lt hj, Nat.mod_eq_of_lt hj]
      have hl : j < (enc x).length := by rw [hk]; exact hj
      simp [List.getElem?_eq_getElem hl, getElem!_pos (enc x) j hl]
    · obtain ⟨i, rfl⟩ : ∃ i, j = i + k := ⟨j - k, by omega⟩
      have hi : i < r.length * k := by rw [List.length_cons, Nat.succ_mul] at h; omega
      rw [List.getElem?_append_right (by rw [hk]; omega), hk, Nat.add_sub_cancel, rflat_get hk h0 r i hi, Nat.add_div_right _ h0, Nat.add_mod_right]
      simp

theorem flatK_list (hk : ∀ x, (enc x).length = k) (h0 : 0 < k) (gs : List α) (j : Nat) (hj : j < gs.length * k) : (gs.flatMap enc)[j]? = some (flatK enc k gs.toArray)[j]! := by
  rw [rflat_get hk h0 gs j hj, get_flatK enc k gs.toArray j (by simpa using hj)]
  simp

variable {w : World} {B e g cap : Nat} {gs : List α}
theorem holdsK_of_row (hk : ∀ x, (enc x).length = k) (h0 : 0 < k) (hown : w.ownsRow B e k (.slice (some ⟨g, 0, none⟩) gs.length cap) gs.length (gs.flatMap enc)) : HoldsK enc k w g 0 gs.toArray ∧ g < w.heap.size := by
  rcases hown.2 with ⟨h, _⟩ | ⟨g', cap', cur, he, _, hg, hn, _, hsz, htk⟩
  · cases h
  · cases he
    refine ⟨fun j hj => ?_, (Array.getElem?_eq_some_iff.1 hg).1⟩
    have hj' : j < gs.length * k := by simpa using hj
    have h1 : cur.toList[j]? = (gs.flatMap enc)[j]? := by rw [← htk, List.getElem?_take_of_lt hj']
    rw [flatK_list hk h0 gs j hj'] at h1
    constructor
    · simp only [World.cell?, hg, Nat.zero_add]
      simpa using h1
    · simp [World.frozen?, hg]

theorem row_of_sort (hk : ∀ x, (enc x).length = k) (h0 : 0 < k) (hown : w.ownsRow B e k (.slice (some ⟨g, 0, none⟩) gs.length cap) gs.length (gs.flatMap enc)) (hs : List α) (hl : hs.length = gs.length) (n : Nat) (os : Array Obj) :
    (sortWorldK enc k w g 0 n hs.toArray os).ownsRow B e k (.slice (some ⟨g, 0, none⟩) gs.length cap) gs.length (hs.flatMap enc) ∧ w.grownBy (sortWorldK enc k w g 0 n hs.toArray os) (some g) := by
  have hsize : ∀ i, i < w.heap.size → i < (putRowK enc k (Sort.ahead w n) g 0 hs.toArray).heap.size := fun i hi => by
    simpa [putRowK, putRow, mapBlock, Sort.ahead] using hi
  constructor
  · rcases hown.2 with ⟨h, _⟩ | ⟨g', cap', cur, he, hB, hg, hn, hm, hsz, htk⟩
    · cases h
    · cases he
      have hgl := (Array.getElem?_eq_some_iff.1 hg).1
      refine ⟨by rw [rflat_len hk, hl], .inr ⟨g, cap, putCells id 0 (flatK enc k hs.toArray) cur, rfl, hB, ?_, hn, hm, by simpa [putCells] using hsz, ?_⟩⟩
      · unfold sortWorldK
        rw [heap_grow_old _ _ (hsize g hgl)]
        show ((Sort.ahead w n).heap.modify g _)[g]? = _
        rw [Array.getElem?_modify]
        have hg' : (Sort.ahead w n).heap[g]? = some (.cells cur e (0, 0)) := hg
        rw [if_pos rfl, hg']
        rfl
      · apply List.ext_getElem?
        intro j
        by_cases hj : j < gs.length * k
        · rw [List.getElem?_take_of_lt hj, flatK_list hk h0 hs j (by rw [hl]; exact hj)]
          have hc : j < cur.size := by rw [hsz]; exact Nat.lt_of_lt_of_le hj (Nat.mul_le_mul_right k hn)
          have hf : j < (flatK enc k hs.toArray).size := by simpa [hl] using hj
          simp only [putCells, Array.getElem?_toList, Array.getElem?_mapIdx, Nat.zero_le, true_and, Nat.zero_add, Nat.sub_zero, id, hf, if_true]
          rw [Array.getElem?_eq_getElem hc]
          rfl
        · rw [List.getElem?_eq_none (by rw [List.length_take]; omega), List.getElem?_eq_none (by rw [rflat_len hk, hl]; omega)]
  · refine ⟨rfl, rfl, rfl, ?_, fun i hi hne => ?_⟩
    · have : (putRowK enc k (Sort.ahead w n) g 0 hs.toArray).heap.size = w.heap.size := by simp [putRowK, putRow, mapBlock, Sort.ahead]
      unfold sortWorldK grow
      simp [this]
    · unfold sortWorldK
      rw [heap_grow_old _ _ (hsize i hi)]
      show ((Sort.ahead w n).heap.modify g _)[i]? = _
      rw [Array.getElem?_modify, if_neg (fun e => hne (by rw [e]))]
      rfl
end
end Go.Proofs.YtjcoahcbdlpcpaaGreat
