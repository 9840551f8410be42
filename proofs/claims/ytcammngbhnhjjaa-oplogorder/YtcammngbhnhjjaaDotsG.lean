/-
  Package dots: what a set is in memory ('DotsAt'), and the contracts of closed, may, New, Len, Get, has.
-/
import Derived.Test.YtcammngbhnhjjaaDotKey
import Derived.Test.YtcammngbhnhjjaaVvO
import Derived.Deep.QuietTactic
import Derived.BigQuiet
import Derived.Deep.RegionHeld3
import Derived.Deep.AppendLies
import Derived.Deep.RegionLaw
import Derived.Shelf.SlSortCmp.InsertionK
import Derived.Laws.AppendOwn
import Derived.Shelf.SlSortCmp.WholeK
import Derived.Shelf.Lay
import Derived.Ground.SlsfProg
namespace Go.Proofs.Ytcammngbhnhjjaa
open Go.RowKit Go.Maps

def MayD (o s : Int) : Prop := (0 ≤ o ∧ o < 7) ∧ (1 ≤ s ∧ s ≤ 2147483647)
instance (o s : Int) : Decidable (MayD o s) := by unfold MayD; infer_instance
theorem MayD.i64 {o s : Int} (h : MayD o s) : I64 o ∧ I64 s := by
  unfold MayD at h
  unfold I64
  omega
def zeroE : Value := .string ⟨#[]⟩
def IsE (v : Value) : Prop := ∃ t, v = .string t
/-- How many values the runs have. -/
def sumR (R : Nat → List Value) : Nat := (R 0).length + (R 1).length + (R 2).length + (R 3).length + (R 4).length + (R 5).length + (R 6).length
theorem sumR_le (R : Nat → List Value) {k : Nat} (hk : k < 7) : (R k).length ≤ sumR R := by
  unfold sumR
  match k, hk with
  | 0, _ | 1, _ | 2, _ | 3, _ | 4, _ | 5, _ | 6, _ => omega
def setCells (rs : Nat → Value) (m : Nat) : List Value := [rs 0, rs 1, rs 2, rs 3, rs 4, rs 5, rs 6, .map (some m)]
theorem setCells_run (rs : Nat → Value) (m : Nat) {k : Nat} (hk : k < 7) : (setCells rs m)[k]? = some (rs k) := by
  match k, hk with
  | 0, _ | 1, _ | 2, _ | 3, _ | 4, _ | 5, _ | 6, _ => rfl
def FootD (p m : Nat) (rs : Nat → Value) (i : Nat) : Prop := i = p ∨ i = m ∨ ∃ k, k < 7 ∧ (rs k).ownBlock = some i

section
variable {w w' : World} {p m N : Nat} {rs : Nat → Value} {R : Nat → List Value} {D : DataW Value} {S : Int → Int → Option Value}
end

section
variable {w w' : World} {p m N : Nat} {rs : Nat → Value} {R : Nat → List Value} {D : DataW Value} {S : Int → Int → Option Value}
end
end Go.Proofs.Ytcammngbhnhjjaa
/-
  Package dots: Get and has.
-/
namespace Go.Proofs.Ytcammngbhnhjjaa
open Go.RowKit Go.Maps

theorem Try.zeroEl (w : World) : (zeroValue 9).run Try.prog w = .ok zeroE w := by kernel_rfl
section
variable {w w' : World} {p m N : Nat} {rs : Nat → Value} {R : Nat → List Value} {D : DataW Value} {S : Int → Int → Option Value}
end
end Go.Proofs.Ytcammngbhnhjjaa
/-
  Package dots: closeGap takes what stands without a gap to its origin's run.
-/
namespace Go.Proofs.Ytcammngbhnhjjaa
open Go.RowKit Go.Maps

def upd {α : Type} (f : Nat → α) (k : Nat) (v : α) (i : Nat) : α := if i = k then v else f i
theorem upd_same {α : Type} (f : Nat → α) (k : Nat) (v : α) : upd f k v k = v := by simp [upd]
theorem upd_other {α : Type} (f : Nat → α) {k i : Nat} (v : α) (h : i ≠ k) : upd f k v i = f i := by simp [upd, h]
theorem setCells_upd (rs : Nat → Value) (m : Nat) {k : Nat} (hk : k < 7) (v : Value) : (setCells rs m).set k v = setCells (upd rs k v) m := by
  match k, hk with
  | 0, _ | 1, _ | 2, _ | 3, _ | 4, _ | 5, _ | 6, _ => rfl
theorem sumR_upd (R : Nat → List Value) {k : Nat} (hk : k < 7) (l : List Value) : sumR (upd R k l) + (R k).length = sumR R + l.length := by
  unfold sumR
  match k, hk with
  | 0, _ | 1, _ | 2, _ | 3, _ | 4, _ | 5, _ | 6, _ => simp [upd]; omega
theorem size_tidy {w : World} {m n : Nat} {D : DataW Value} (h : w.ownsMap Try.prog 31 valR m n D) : Tidy D := by
  obtain ⟨es, e, hp, _⟩ := h.entries Try.keyedDot
  exact ⟨es, e, hp⟩
section
variable {w w2 w3 : World} {p m N k : Nat} {rs : Nat → Value} {R : Nat → List Value} {D : DataW Value} {S : Int → Int → Option Value}
end
end Go.Proofs.Ytcammngbhnhjjaa
/-
  Package dots: closeGap.
-/
namespace Go.Proofs.Ytcammngbhnhjjaa
open Go.RowKit Go.Maps

def mcount (w : World) (m : Nat) : Nat := match w.heap[m]? with
  | some (.map es _) => es.size
  | _ => 0
theorem mcount_eq {w : World} {m n : Nat} {D : DataW Value} (h : w.ownsMap Try.prog 31 valR m n D) : mcount w m = Maps.size D := by
  obtain ⟨es, clock, hb, F, _, rfl⟩ := h
  simp [mcount, hb, Maps.size, length_sorted]
theorem Try.infoS : (Try.prog.info? 9).map (fun i => (i.zero, i.size, i.bytes)) = some (some (.string ⟨#[]⟩), 1, 16) := by kernel_rfl
section
variable {w : World} {p m N k : Nat} {rs : Nat → Value} {R : Nat → List Value} {D : DataW Value} {S : Int → Int → Option Value}
end
end Go.Proofs.Ytcammngbhnhjjaa
/-
  Package dots: Add.
-/
namespace Go.Proofs.Ytcammngbhnhjjaa
open Go.RowKit Go.Maps

def updS (S : Int → Int → Option Value) (o s : Int) (x : Value) (o' s' : Int) : Option Value := if o' = o ∧ s' = s then some x else S o' s'
/-- What Add answers. -/
def addCode (S : Int → Int → Option Value) (N : Nat) (o s : Int) : Int := if MayD o s then (if (S o s).isSome then 5 else if 65536 ≤ N then 2 else 0) else 1
section
variable {w w3 : World} {p m N : Nat} {rs : Nat → Value} {R : Nat → List Value} {D : DataW Value} {S : Int → Int → Option Value}
end
end Go.Proofs.Ytcammngbhnhjjaa
/-
  Package dots: Vector.
-/
namespace Go.Proofs.Ytcammngbhnhjjaa
open Go.RowKit Go.Maps

def lensOf (R : Nat → List Value) : List Int := [((R 0).length : Int), ((R 1).length : Int), ((R 2).length : Int), ((R 3).length : Int), ((R 4).length : Int), ((R 5).length : Int), ((R 6).length : Int)]
section
variable {w : World} {p m N : Nat} {rs : Nat → Value} {R : Nat → List Value} {D : DataW Value} {S : Int → Int → Option Value}
end
end Go.Proofs.Ytcammngbhnhjjaa
/-
  A row of elements of k cells, and the world that slices.SortFunc leaves ('sortWorldK'). No function of the program is named here.
-/
namespace Go.Proofs.Ytcammngbhnhjjaa
open Go.RowKit Go.Sort

section
variable {α : Type} [Inhabited α] {enc : α → List Value} {k : Nat}

omit [Inhabited α] in
theorem rflat_len (hk : ∀ x, (enc x).length = k) : ∀ gs : List α, (gs.flatMap enc).length = gs.length * k
  | [] => by simp
  | x :: r => by
    rw [List.flatMap_cons, List.length_append, hk, rflat_len hk r, List.length_cons, Nat.succ_mul]
    omega
theorem rflat_get (hk : ∀ x, (enc x).length = k) (h0 : 0 < k) : ∀ (gs : List α) (j : Nat), j < gs.length * k → (gs.flatMap enc)[j]? = some (enc gs[j / k]!)[j % k]!
  | [], j, h => by simp at h
  | x :: r, j, h => by
    rw [List.flatMap_cons]
    by_cases hj : j < k
    · rw [List.getElem?_append_left (by rw [hk]; exact hj), Nat.div_eq_of_lt hj, Nat.mod_eq_of_lt hj]
      have hl : j < (enc x).length := by rw [hk]; exact hj
      simp [List.getElem?_eq_getElem hl, getElem!_pos (enc x) j hl]
    · obtain ⟨i, rfl⟩ : ∃ i, j = i + k := ⟨j - k, by omega⟩
      have hi : i < r.length * k := by rw [List.length_cons, Nat.succ_mul] at h; omega
      rw [List.getElem?_append_right (by rw [hk]; omega), hk, Nat.add_sub_cancel, rflat_get hk h0 r i hi, Nat.add_div_right _ h0, Nat.add_mod_right]
      simp

theorem flatK_list (hk : ∀ x, (enc x).length = k) (h0 : 0 < k) (gs : List α) (j : Nat) (hj : j < gs.length * k) : (gs.flatMap enc)[j]? = some (flatK enc k gs.toArray)[j]! := by
  rw [rflat_get hk h0 gs j hj, get_flatK enc k gs.toArray j (by simpa using hj)]
  simp

variable {w : World} {B e g cap : Nat} {gs : List α}
theorem holdsK_of_row (hk : ∀ x, (enc x).length = k) (h0 : 0 < k) (hown : w.ownsRow B e k (.slice (some ⟨g, 0, none⟩) gs.length cap) gs.length (gs.flatMap enc)) : HoldsK enc k w g 0 gs.toArray ∧ g < w.heap.size := by
  rcases hown.2 with ⟨h, _⟩ | ⟨g', cap', cur, he, _, hg, hn, _, hsz, htk⟩
  · cases h
  · cases he
    refine ⟨fun j hj => ?_, (Array.getElem?_eq_some_iff.1 hg).1⟩
    have hj' : j < gs.length * k := by simpa using hj
    have h1 : cur.toList[j]? = (gs.flatMap enc)[j]? := by rw [← htk, List.getElem?_take_of_lt hj']
    rw [flatK_list hk h0 gs j hj'] at h1
    constructor
    · simp only [World.cell?, hg, Nat.zero_add]
      simpa using h1
    · simp [World.frozen?, hg]

theorem row_of_sort (hk : ∀ x, (enc x).length = k) (h0 : 0 < k) (hown : w.ownsRow B e k (.slice (some ⟨g, 0, none⟩) gs.length cap) gs.length (gs.flatMap enc)) (hs : List α) (hl : hs.length = gs.length) (n : Nat) (os : Array Obj) :
    (sortWorldK enc k w g 0 n hs.toArray os).ownsRow B e k (.slice (some ⟨g, 0, none⟩) gs.length cap) gs.length (hs.flatMap enc) ∧ w.grownBy (sortWorldK enc k w g 0 n hs.toArray os) (some g) := by
  have hsize : ∀ i, i < w.heap.size → i < (putRowK enc k (Sort.ahead w n) g 0 hs.toArray).heap.size := fun i hi => by
    simpa [putRowK, putRow, mapBlock, Sort.ahead] using hi
  constructor
  · rcases hown.2 with ⟨h, _⟩ | ⟨g', cap', cur, he, hB, hg, hn, hm, hsz, htk⟩
    · cases h
    · cases he
      have hgl := (Array.getElem?_eq_some_iff.1 hg).1
      refine ⟨by rw [rflat_len hk, hl], .inr ⟨g, cap, putCells id 0 (flatK enc k hs.toArray) cur, rfl, hB, ?_, hn, hm, by simpa [putCells] using hsz, ?_⟩⟩
      · unfold sortWorldK
        rw [heap_grow_old _ _ (hsize g hgl)]
        show ((Sort.ahead w n).heap.modify g _)[g]? = _
        rw [Array.getElem?_modify]
        have hg' : (Sort.ahead w n).heap[g]? = some (.cells cur e (0, 0)) := hg
        rw [if_pos rfl, hg']
        rfl
      · apply List.ext_getElem?
        intro j
        by_cases hj : j < gs.length * k
        · rw [List.getElem?_take_of_lt hj, flatK_list hk h0 hs j (by rw [hl]; exact hj)]
          have hc : j < cur.size := by rw [hsz]; exact Nat.lt_of_lt_of_le hj (Nat.mul_le_mul_right k hn)
          have hf : j < (flatK enc k hs.toArray).size := by simpa [hl] using hj
          simp only [putCells, Array.getElem?_toList, Array.getElem?_mapIdx, Nat.zero_le, true_and, Nat.zero_add, Nat.sub_zero, id, hf, if_true]
          rw [Array.getElem?_eq_getElem hc]
          rfl
        · rw [List.getElem?_eq_none (by rw [List.length_take]; omega), List.getElem?_eq_none (by rw [rflat_len hk, hl]; omega)]
  · refine ⟨rfl, rfl, rfl, ?_, fun i hi hne => ?_⟩
    · have : (putRowK enc k (Sort.ahead w n) g 0 hs.toArray).heap.size = w.heap.size := by simp [putRowK, putRow, mapBlock, Sort.ahead]
      unfold sortWorldK grow
      simp [this]
    · unfold sortWorldK
      rw [heap_grow_old _ _ (hsize i hi)]
      show ((Sort.ahead w n).heap.modify g _)[i]? = _
      rw [Array.getElem?_modify, if_neg (fun e => hne (by rw [e]))]
      rfl
end
end Go.Proofs.Ytcammngbhnhjjaa
/-
  Package dots: the order of dots.
-/
namespace Go.Proofs.Ytcammngbhnhjjaa
open Go.RowKit Go.Maps

def cmpI (x y : Int) : Int := if x < y then -1 else if y < x then 1 else 0
def cmpD (a b : Int × Int) : Int := if cmpI a.1 b.1 ≠ 0 then cmpI a.1 b.1 else cmpI a.2 b.2
theorem isNaN_int (w : World) (x : Int) : Calls Try.prog 59 #[.int .i64 x] w fun e w' => e = .returned (.bool false) ∧ w' = w := by
  go_enter Try.func59, Try.ntmps59
  go_wp2
  go_ret
  exact ⟨by simp, rfl⟩
theorem compare_int (w : World) (x y : Int) : Calls Try.prog 49 #[.int .i64 x, .int .i64 y] w fun e w' => e = .returned (.int .i64 (cmpI x y)) ∧ w' = w := by
  have HX := hid (isNaN_int w x)
  have HY := hid (isNaN_int w y)
  by_cases h1 : x < y
  · have HC : Hid (cmpI x y = -1) := by show _ = _; unfold cmpI; rw [if_pos h1]
    go_enter Try.func49, Try.ntmps49
    go_wp2_with fail
    refine HX.out.mono ?_
    rintro e w' ⟨rfl, rfl⟩
    go_wp2_with fail
    refine HY.out.mono ?_
    rintro e w' ⟨rfl, rfl⟩
    go_wp2
    go_ret
    exact ⟨by rw [HC.out]; rfl, rfl⟩
  · by_cases h2 : y < x
    · have HC : Hid (cmpI x y = 1) := by show _ = _; unfold cmpI; rw [if_neg h1, if_pos h2]
      go_enter Try.func49, Try.ntmps49
      go_wp2_with fail
      refine HX.out.mono ?_
      rintro e w' ⟨rfl, rfl⟩
      go_wp2_with fail
      refine HY.out.mono ?_
      rintro e w' ⟨rfl, rfl⟩
      go_wp2
      go_ret
      exact ⟨by rw [HC.out]; rfl, rfl⟩
    · have HC : Hid (cmpI x y = 0) := by show _ = _; unfold cmpI; rw [if_neg h1, if_neg h2]
      go_enter Try.func49, Try.ntmps49
      go_wp2_with fail
      refine HX.out.mono ?_
      rintro e w' ⟨rfl, rfl⟩
      go_wp2_with fail
      refine HY.out.mono ?_
      rintro e w' ⟨rfl, rfl⟩
      go_wp2
      go_ret
      exact ⟨by rw [HC.out]; rfl, rfl⟩
set_option maxRecDepth 100000 in
theorem or_ints (w : World) (g : Nat) (a b : Int) (h0 : w.cell? ⟨g, 0, none⟩ = some (.int .i64 a)) (h1 : w.cell? ⟨g, 1, none⟩ = some (.int .i64 b)) :
    Calls Try.prog 48 #[.slice (some ⟨g, 0, none⟩) 2 2] w fun e w' => e = .returned (.int .i64 (if a ≠ 0 then a else b)) ∧ w' = w := by
  by_cases ha : a = 0
  · subst ha
    by_cases hb : b = 0
    · subst hb
      go_enter Try.func48, Try.ntmps48
      go_wp2
      refine wp_loop_rounds 3 ?_
      rw [rounds_succ]
      go_wp2
      rw [rounds_succ]
      go_wp2
      rw [rounds_succ]
      go_wp2
      go_ret
      exact ⟨rfl, rfl⟩
    · have hb' : (b != 0) = true := by simpa using hb
      go_enter Try.func48, Try.ntmps48
      go_wp2
      refine wp_loop_rounds 3 ?_
      rw [rounds_succ]
      go_wp2
      rw [rounds_succ]
      go_wp2
      go_ret
      exact ⟨rfl, rfl⟩
  · have ha' : (a != 0) = true := by simpa using ha
    go_enter Try.func48, Try.ntmps48
    go_wp2
    refine wp_loop_rounds 3 ?_
    rw [rounds_succ]
    go_wp2
    go_ret
    exact ⟨rfl, rfl⟩
theorem new2a (V : World) (g : Nat) (hg : g = V.heap.size) (a b : Value) (t : TypeId) : (V.alloc (.cells #[a, b] t)).cell? ⟨g, 0, none⟩ = some a := by subst hg; exact (Blk.new V t [a, b]).cell rfl
theorem new2b (V : World) (g : Nat) (hg : g = V.heap.size) (a b : Value) (t : TypeId) : (V.alloc (.cells #[a, b] t)).cell? ⟨g, 1, none⟩ = some b := by subst hg; exact (Blk.new V t [a, b]).cell rfl
end Go.Proofs.Ytcammngbhnhjjaa
