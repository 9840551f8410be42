/-
  A row of elements of k cells, and the world that slices.SortFunc leaves ('sortWorldK'). No function of the program is named here.
-/
import Derived.Shelf.SlSortCmp.InsertionK
import Derived.Laws.AppendOwn
import Derived.Test.YtjfohnkfcfifeaaDiskJ0
import Derived.Shelf.SlSortCmp.WholeK
import Derived.Shelf.Small.Strs
import Derived.Shelf.Lay
import Derived.Ground.SlsfProg
import Derived.Ground.NamesProg
import Derived.Deep.RegionLaw
import Derived.Deep.AppendLies
namespace Go.Proofs.Ytjfohnkfcfifeaa
open Go.RowKit Go.Sort

section
variable {α : Type} [Inhabited α] {enc : α → List Value} {k : Nat}

omit [Inhabited α] in
theorem rflat_len (hk : ∀ x, (enc x).length = k) : ∀ gs : List α, (gs.flatMap enc).length = gs.length * k
  | [] => by simp
  | x :: r => by
    rw [List.flatMap_cons, List.length_append, hk, rflat_len hk r, List.length_cons, Nat.succ_mul]
    omega
theorem rflat_get (hk : ∀ x, (enc x).length = k) (h0 : 0 < k) : ∀ (gs : List α) (j : Nat), j < gs.length * k → (gs.flatMap enc)[j]? = some (enc gs[j / k]!)[j % k]!
  | [], j, h => by simp at h
  | x :: r, j, h => by
    rw [List.flatMap_cons]
    by_cases hj : j < k
    · rw [List.getElem?_append_left (by rw [hk]; exact hj), Nat.div_eq_of_lt hj, Nat.mod_eq_of_lt hj]
      have hl : j < (enc x).length := by rw [hk]; exact hj
      simp [List.getElem?_eq_getElem hl, getElem!_pos (enc x) j hl]
    · obtain ⟨i, rfl⟩ : ∃ i, j = i + k := ⟨j - k, by omega⟩
      have hi : i < r.length * k := by rw [List.length_cons, Nat.succ_mul] at h; omega
      rw [List.getElem?_append_right (by rw [hk]; omega), hk, Nat.add_sub_cancel, rflat_get hk h0 r i hi, Nat.add_div_right _ h0, Nat.add_mod_right]
      simp

theorem flatK_list (hk : ∀ x, (enc x).length = k) (h0 : 0 < k) (gs : List α) (j : Nat) (hj : j < gs.length * k) : (gs.flatMap enc)[j]? = some (flatK enc k gs.toArray)[j]! := by
  rw [rflat_get hk h0 gs j hj, get_flatK enc k gs.toArray j (by simpa using hj)]
  simp

variable {w : World} {B e g cap : Nat} {gs : List α}
theorem holdsK_of_row (hk : ∀ x, (enc x).length = k) (h0 : 0 < k) (hown : w.ownsRow B e k (.slice (some ⟨g, 0, none⟩) gs.length cap) gs.length (gs.flatMap enc)) : HoldsK enc k w g 0 gs.toArray ∧ g < w.heap.size := by
  rcases hown.2 with ⟨h, _⟩ | ⟨g', cap', cur, he, _, hg, hn, _, hsz, htk⟩
  · cases h
  · cases he
    refine ⟨fun j hj => ?_, (Array.getElem?_eq_some_iff.1 hg).1⟩
    have hj' : j < gs.length * k := by simpa using hj
    have h1 : cur.toList[j]? = (gs.flatMap enc)[j]? := by rw [← htk, List.getElem?_take_of_lt hj']
    rw [flatK_list hk h0 gs j hj'] at h1
    constructor
    · simp only [World.cell?, hg, Nat.zero_add]
      simpa using h1
    · simp [World.frozen?, hg]

theorem row_of_sort (hk : ∀ x, (enc x).length = k) (h0 : 0 < k) (hown : w.ownsRow B e k (.slice (some ⟨g, 0, none⟩) gs.length cap) gs.length (gs.flatMap enc)) (hs : List α) (hl : hs.length = gs.length) (n : Nat) (os : Array Obj) :
    (sortWorldK enc k w g 0 n hs.toArray os).ownsRow B e k (.slice (some ⟨g, 0, none⟩) gs.length cap) gs.length (hs.flatMap enc) ∧ w.grownBy (sortWorldK enc k w g 0 n hs.toArray os) (some g) := by
  have hsize : ∀ i, i < w.heap.size → i < (putRowK enc k (Sort.ahead w n) g 0 hs.toArray).heap.size := fun i hi => by
    simpa [putRowK, putRow, mapBlock, Sort.ahead] using hi
  constructor
  · rcases hown.2 with ⟨h, _⟩ | ⟨g', cap', cur, he, hB, hg, hn, hm, hsz, htk⟩
    · cases h
    · cases he
      have hgl := (Array.getElem?_eq_some_iff.1 hg).1
      refine ⟨by rw [rflat_len hk, hl], .inr ⟨g, cap, putCells id 0 (flatK enc k hs.toArray) cur, rfl, hB, ?_, hn, hm, by simpa [putCells] using hsz, ?_⟩⟩
      · unfold sortWorldK
        rw [heap_grow_old _ _ (hsize g hgl)]
        show ((Sort.ahead w n).heap.modify g _)[g]? = _
        rw [Array.getElem?_modify]
        have hg' : (Sort.ahead w n).heap[g]? = some (.cells cur e (0, 0)) := hg
        rw [if_pos rfl, hg']
        rfl
      · apply List.ext_getElem?
        intro j
        by_cases hj : j < gs.length * k
        · rw [List.getElem?_take_of_lt hj, flatK_list hk h0 hs j (by rw [hl]; exact hj)]
          have hc : j < cur.size := by rw [hsz]; exact Nat.lt_of_lt_of_le hj (Nat.mul_le_mul_right k hn)
          have hf : j < (flatK enc k hs.toArray).size := by simpa [hl] using hj
          simp only [putCells, Array.getElem?_toList, Array.getElem?_mapIdx, Nat.zero_le, true_and, Nat.zero_add, Nat.sub_zero, id, hf, if_true]
          rw [Array.getElem?_eq_getElem hc]
          rfl
        · rw [List.getElem?_eq_none (by rw [List.length_take]; omega), List.getElem?_eq_none (by rw [rflat_len hk, hl]; omega)]
  · refine ⟨rfl, rfl, rfl, ?_, fun i hi hne => ?_⟩
    · have : (putRowK enc k (Sort.ahead w n) g 0 hs.toArray).heap.size = w.heap.size := by simp [putRowK, putRow, mapBlock, Sort.ahead]
      unfold sortWorldK grow
      simp [this]
    · unfold sortWorldK
      rw [heap_grow_old _ _ (hsize i hi)]
      show ((Sort.ahead w n).heap.modify g _)[i]? = _
      rw [Array.getElem?_modify, if_neg (fun e => hne (by rw [e]))]
      rfl
end
end Go.Proofs.Ytjfohnkfcfifeaa
/-
  Package disk: the order of Files: slices.SortFunc over api.File.
-/
namespace Go.Proofs
open Go.Shelf Go.RowKit Go.Lib Go.Sort
shelf_lay_g SlLaysF0.n6 Slsf 6 at Try 39 as Ytjfohnkfcfifeaa.sortFiles
shelf_lay Lays.n106 Nm 106 at Try as Ytjfohnkfcfifeaa.strCompare
end Go.Proofs
namespace Go.Proofs.Ytjfohnkfcfifeaa
open Go.Shelf Go.RowKit Go.Lib Go.Sort

instance : Inhabited Fl := ⟨⟨ByteArray.empty, 0, .slice none 0 0, [], 0⟩⟩
def cmpF (x y : Fl) : Int := Lib.compareBytes x.name.data.toList y.name.data.toList

theorem files1 (x y : Fl) (W : World) : Calls Try.prog 40 #[.agg #[.string x.name, .string (strOfNums x.bytes), .int .i64 x.sure], .agg #[.string y.name, .string (strOfNums y.bytes), .int .i64 y.sure]] W fun e w' => e = .returned (.int .i64 (cmpF x y)) ∧ ∃ q os', w' = grow (W.drewN q) os' := by
  have hcon := fun W' => Any.strings_Compare strCompare x.name y.name W'
  change ∀ W', Calls Try.prog 41 _ _ _ at hcon
  unfold cmpF
  generalize Lib.compareBytes x.name.data.toList y.name.data.toList = r at hcon ⊢
  generalize strOfNums x.bytes = bx at *
  generalize strOfNums y.bytes = by_ at *
  go_enter Try.func40, Try.ntmps40
  go_wp2_with (go_at_call 41; refine (hcon _).mono ?_; rintro e w' ⟨rfl, rfl⟩)
  go_ret
  exact ⟨rfl, 0, _, by rw [alloc_eq_grow, alloc_eq_grow, grow_grow]; rfl⟩

theorem sort_any {w : World} {B g cap : Nat} {gs : List Fl} (hown : w.ownsRow B 47 3 (.slice (some ⟨g, 0, none⟩) gs.length cap) gs.length (flatF gs)) (hsz : gs.length ≤ 64) :
    Calls Try.prog 39 #[.slice (some ⟨g, 0, none⟩) gs.length cap, .func (.func 40) #[] #[]] w fun e w' => e = .returned (.tuple #[]) ∧ ∃ hs, hs.Perm gs ∧ hs.Pairwise (fun x y => ¬ cmpF y x < 0) ∧ w'.ownsRow B 47 3 (.slice (some ⟨g, 0, none⟩) gs.length cap) gs.length (flatF hs) ∧ w.grownBy w' (some g) := by
  obtain ⟨hH, hblk⟩ := holdsK_of_row (enc := Fl.cells) (fun _ => rfl) (by decide) hown
  have eg : ∀ args w, (callFunc 40 args).run Try.prog w = .ok (.enter 40 args) w := enters_of Try.func40 (by kernel_rfl) rfl
  have hcon := AnyQ.slices_SortFunc sortFiles 3 (fun w => by kernel_rfl) (fun w => by kernel_rfl) Fl.cells (fun _ => rfl) fl_one cmpF (cb_swo (fun f : Fl => f.name.data.toList)) 40 #[] g 0 cap gs.toArray w eg (fun _ _ _ _ x y => files1 x y _) hH hblk (by simp; omega)
  change Calls Try.prog 39 _ _ _ at hcon
  rw [List.size_toArray] at hcon
  refine hcon.mono ?_
  rintro e w' ⟨rfl, d', n, os, hp, hso, rfl⟩
  obtain ⟨h1, h2, h3⟩ := hp
  have hl : d'.toList.length = gs.length := by simpa using h1
  have hd : d' = d'.toList.toArray := by simp
  have hr := row_of_sort (enc := Fl.cells) (fun _ => rfl) (by decide) hown d'.toList hl n os
  rw [← hd] at hr
  refine ⟨rfl, d'.toList, ?_, ?_, hr.1, hr.2⟩
  · have hx : d'.extract 0 gs.length = d' := by
      have : gs.length = d'.size := by simpa using h1.symm
      rw [this]
      simp
    rw [hx] at h3
    simpa using h3
  · rw [List.pairwise_iff_getElem]
    intro i j hi hj hij
    have := hso i j (Nat.zero_le _) hij (by rw [← hl]; exact hj)
    rw [getElem!_pos d' j (by simpa using hj), getElem!_pos d' i (by simpa using hi)] at this
    simpa [ltOf] using this
end Go.Proofs.Ytjfohnkfcfifeaa
/-
  Package disk: Files answers what the files are, by rising names; nothing that was there is written.
-/
namespace Go.Proofs.Ytjfohnkfcfifeaa
open Go.RowKit Go.Maps

section
variable {w : World} {p bm : Nat} {size calls : Int} {fs : List Fl} {D : DataW Value}
set_option maxRecDepth 100000 in
theorem files_any (h : DiskAt w p bm size calls fs D) :
    Calls Try.prog 13 #[.pointer (some ⟨p, 0, none⟩)] w fun e w' => ∃ v, e = .returned v ∧ ∃ gs, gs.Perm fs ∧ gs.Pairwise (fun x y => ¬ cmpF y x < 0) ∧ w'.ownsRow w.heap.size 47 3 v fs.length (flatF gs) ∧ Below w.heap.size w w' := by
  obtain ⟨i0, hi, hz0, hz1, hz2⟩ := info_parts Try.infoFile
  have HCL := hid h.closed
  have hc1 := h.blk.cell (i := 1) rfl
  have HH := hid h
  have hln := h.map.len Try.underlying49 3
  rw [h.cnt] at hln
  have hfew := h.few
  obtain ⟨M, hM⟩ : ∃ M, M = madeCells (Value.agg #[.string ByteArray.empty, .string ByteArray.empty, .int .i64 0]).cells ((fs.length : Int).toNat * i0.size) := ⟨_, rfl⟩
  have hmk : ∀ W : World, (Instr.makeSlice 41 (.int .i64 0) (.int .i64 (fs.length : Int))).run Try.prog W = .ok (.slice (some ⟨W.heap.size, 0, none⟩) 0 fs.length) (W.alloc (.cells M 47)) := fun W => by
    have h := run_make (P := Try.prog) W 41 47 i0 _ Try.underlying41 hi hz0 .i64 .i64 0 (fs.length : Int) (by omega) (by omega) (by rw [hz2]; omega) (by omega)
    rw [← hM] at h
    simpa using h
  have hMs : M.size = fs.length * 3 := by rw [hM, size_madeCells, hz1]; simp
  have hpl := h.blk.lt
  clear hM h
  go_enter Try.func13, Try.ntmps13
  go_wp2_with fail
  refine HCL.out.mono ?_
  rintro e w' ⟨rfl, h'⟩
  subst h'
  go_wp2_with (at_range; refine wpList_range_own _ rfl _ 49 rfl 9 57 Try.keyedStr Try.underlying49 valR bm _ D rfl (HH.out.alloc _).map ?_; intro w0 hrg0 hg0 hs0)
  have hR0 : (w'.alloc (.cells M 47)).ownsRow w'.heap.size 47 3 (.slice (some ⟨w'.heap.size, 0, none⟩) 0 fs.length) 0 [] := ⟨rfl, .inr ⟨w'.heap.size, fs.length, M, rfl, Nat.le_refl _, World.alloc_heap_new w' _, Nat.zero_le _, by unfold maxLen; omega, hMs, by simp⟩⟩
  have hR1 : w0.ownsRow w'.heap.size 47 3 (.slice (some ⟨w'.heap.size, 0, none⟩) 0 fs.length) 0 [] := hR0.kept hg0 (.inr (by simp [Value.ownBlock]))
  clear hln hmk
  obtain ⟨r, hr⟩ : ∃ r, (w'.alloc (.cells M 47)).heap.size = r := ⟨_, rfl⟩
  rw [hr] at hrg0 ⊢
  have hr' : r = w'.heap.size + 1 := by rw [← hr]; simp
  have HR := hid hr'
  clear hr hr'
  go_frame
  go_loopw [3] (fun a wr => ∃ left cnt gs, gs.Perm (gone left fs) ∧ wr.ranges Try.prog 9 valR bm r fs.length D left cnt ∧ wr.ownsRow w'.heap.size 47 3 a gs.length (flatF gs) ∧ (∃ g, a.ownBlock = some g) ∧ Below w'.heap.size w' wr) (fun _ wr => wr.rangeLeft bm r)
  case atStart =>
    refine ⟨Maps.has D, Maps.size D, [], by rw [gone_start (fun f hf => HH.out.has hf)], ?_, hR1, ⟨_, rfl⟩, ((Below.refl _ w').alloc (Nat.le_refl _) _).grown hg0 (by simp) (fun k hk => by cases hk)⟩
    exact hrg0
  case round =>
    obtain ⟨left, cnt, gs, hperm, hrg, hown, ⟨g, hgo⟩, hbel⟩ := hrel
    have HRG := hid hrg
    have HB := hid hbel
    have HP := hid hperm
    obtain ⟨ao', cap', hv'⟩ := own_sl hown
    subst hv'
    have HO := hid hown
    have HGO := hid hgo
    clear hrg hbel hrg0 hg0 hs0 hown hperm hR0 hR1 hgo
    go_wp2_with (first | (at_next; refine wpList_next_fs _ rfl _ rfl fs bm r fs.length D HH.out.look left cnt rfl HRG.out ?_ ?_) | fail)
    · intro _ hl
      have HE : Hid (gs.Perm fs) := by have := HP.out; rw [gone_end hl] at this; exact this
      clear hl
      have hgo := HGO.out
      obtain ⟨g', cap0, hao⟩ : ∃ g' cap0, Value.slice ao' gs.length cap' = .slice (some ⟨g', 0, none⟩) gs.length cap0 := by
        rcases HO.out.2 with ⟨e, _⟩ | ⟨g', c, _, e, _⟩
        · rw [e] at hgo
          cases hgo
        · exact ⟨g', c, e⟩
      cases hao
      have hgl : gs.length ≤ 64 := by rw [HE.out.length_eq]; exact hfew
      have hg0 := own_at HO.out g' rfl
      clear hgo
      go_wp2_with fail
      refine (sort_any HO.out hgl).mono ?_
      rintro e w2 ⟨rfl, hs, hp2, hso, hown2, hgr2⟩
      have HO2 := hid hown2
      have HP2 := hid hp2
      have HS2 := hid hso
      have HB2 : Hid (Below w'.heap.size w' w2) := HB.out.grown hgr2 HB.out.size (fun k hk => by cases hk; exact hg0)
      clear hown2 hgr2 hp2 hso
      go_wp2
      go_ret
      refine ⟨.slice (some ⟨g', 0, none⟩) gs.length cap', rfl, hs, HP2.out.trans HE.out, HS2.out, ?_, HB2.out⟩
      rw [← HE.out.length_eq]
      exact HO2.out
    · intro f w1 cnt1 hfm _ hlf hrg1 hlt hgr hsz hen
      have hsz0 := HB.out.size
      have HB1 : Hid (Below w'.heap.size w' w1) := HB.out.grown hgr hsz0 (fun k hk => by cases hk; have := HR.out; omega)
      have hfa := (HH.out.below HB1.out (Nat.le_refl _)).files f hfm
      obtain ⟨ao, cap, hv, hheld⟩ := flAt_held hfa
      have hcf := hfa.blk.cell (i := 0) rfl
      rw [hv] at hcf
      have hcs := hfa.blk.cell (i := 1) rfl
      have hcv := run_convert_held (P := Try.prog) hheld.drew 31 5 9 Try.underlying31 Try.underlying5 Try.underlying9
      have HST := hid (gone_step HH.out.names hfm hlf)
      have HO1 : Hid (w1.ownsRow w'.heap.size 47 3 (.slice ao' gs.length cap') gs.length (flatF gs)) := HO.out.kept hgr (.inr (row_not_iter HO.out HRG.out).1.symm)
      have HR1 := hid hrg1
      have HLT := hid hlt
      have hgl : gs.length ≤ 64 := by
        have h1 := HP.out.length_eq
        have h2 : (gone left fs).length ≤ fs.length := List.length_filter_le _ _
        omega
      have hs1 : w'.heap.size ≤ w1.heap.size := HB1.out.size
      clear hfa hv hrg1 hlt hgr hsz hfm hlf hheld hsz0
      go_wp2
      go_region_law ((refine step_append_lies _ (by rfl) _ _ 41 (by rfl) w'.heap.size 47 i0 (.agg #[.string ByteArray.empty, .string ByteArray.empty, .int .i64 0]) 3 40 Try.underlying41 hi hz0 hz1 hz2 rfl (by decide) (.slice ao' gs.length cap') gs.length (flatF gs) (by rfl) (by exact (HO1.out.alloc _).drew) ⟨w1.heap.size, 0, none⟩ 1 1 f.cells (by rfl) rfl (by exact cells_newF _ _) (fl_one f) (by decide) (by unfold maxLen; omega) (by omega) (by simp; omega) (w1.heap.size + 1) (by simp) ?_; intro g3 cap3 w3 hown3 hgrow3 hat3 hlt3; have HO3 := hid hown3; have HG3 := hid hgrow3; clear hown3 hgrow3))
      all_goals
        have hb4 : Below w'.heap.size w' w3 := (((HB1.out.alloc hs1 _).drew).grown HG3.out (by simp; omega) (own_at HO1.out))
        have hrow1 := row_not_iter HO1.out HR1.out
        have HB4 := hid hb4
        have HR4 : Hid (w3.ranges Try.prog 9 valR bm r fs.length D (fun z => left z && !z.sameKey (key f.name)) cnt1) := (ranges_drew (HR1.out.alloc _)).kept HG3.out hrow1.2 hrow1.1
        clear hb4 hrow1
        simp only [List.getElem_toArray, List.getElem_cons_succ, List.getElem_cons_zero]
        go_frame
        go_roundw
        case rel =>
          refine ⟨_, _, _, _, _, _, _, _, _, _, _, _, _, _, _, _, _, _, _, _, _, _, ⟨fun z => left z && !z.sameKey (key f.name), cnt1, gs ++ [f], ?_⟩, rfl⟩
          exact ⟨((HP.out.append_right [f]).trans HST.out.symm), HR4.out, by rw [flatF_snoc, List.length_append]; exact HO3.out, ⟨g3, rfl⟩, HB4.out⟩
        case measure => rw [HR4.out.left_eq, HRG.out.left_eq]; exact HLT.out
end
end Go.Proofs.Ytjfohnkfcfifeaa
