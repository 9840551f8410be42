/-
  Package vv: Of, cut, Plain; the document's Of, Plain.
-/
import Derived.Test.YtkgfpnmifgifpaaIntsA
import Derived.Test.YtkgfpnmifgifpaaVvMath
import Derived.Deep.OwnRows
import Derived.Laws.OwnMore
import Derived.Deep.QuietTactic
import Derived.BigQuiet
namespace Go.Proofs.Ytkgfpnmifgifpaa
open Go.RowKit Go.Maps

theorem Try.sizeI : ∀ w : World, (Go.sizeOf 3).run Try.prog w = .ok 1 w := by
  intro w
  obtain ⟨i, hi, _, hs, _⟩ := info_parts Try.infoInt
  simp [Go.sizeOf, typeInfo, hi, hs]

theorem of_any (w : World) (ao : Option Addr) (cap : Nat) (xs : List Int) (n : Nat) (hn : xs.length = n) (k : Int) (h : HeldInt w ao xs) :
    Calls Try.prog 14 #[.slice ao n cap, .int .i64 k] w fun e w' => e = .returned (.int .i64 (ofV xs k)) ∧ w' = w := by
  by_cases h0 : k < 0
  · clear h
    go_enter Try.func14, Try.ntmps14
    go_wp2
    go_ret
    exact ⟨ret_int (by simp [ofV, h0]), rfl⟩
  · by_cases h1 : (n : Int) ≤ k
    · clear h
      go_enter Try.func14, Try.ntmps14
      go_wp2
      go_ret
      exact ⟨ret_int (by rw [← hn] at h1; simp [ofV, h1]), rfl⟩
    · obtain ⟨j, rfl⟩ := Int.eq_ofNat_of_zero_le (by omega : 0 ≤ k)
      have hj : j < xs.length := by omega
      obtain ⟨b, off, rfl, hc⟩ := h.cellAt hj
      have hcell := hc j hj
      have HE := hid (ofV_nat xs j)
      clear hc h
      obtain ⟨X, hX⟩ : ∃ X, X = xs.getD j 0 := ⟨_, rfl⟩
      rw [← hX] at hcell HE
      clear hX
      have hlt : (j : Int) < (n : Int) := by omega
      clear hj hn
      go_enter Try.func14, Try.ntmps14
      go_wp2
      go_ret
      exact ⟨ret_int HE.out.symm, rfl⟩
theorem addr0 (p : Addr) : p.add 0 = p := by
  obtain ⟨b, o, s⟩ := p
  cases s <;> simp [Addr.add]
theorem run_cut_hm {P : Program} (W : World) (t e : TypeId) (ht : P.underlying t = some (.slice e)) (hz : ∀ w, (Go.sizeOf e).run P w = .ok 1 w) (a : Option Addr) (len cap n : Nat) (hh : n ≤ cap) :
    (Instr.slice t (.slice a len cap) none (some (.int .i64 (n : Int))) (some (.int .i64 (n : Int)))).run P W = .ok (.slice a n n) W := by
  have ht' : P.underlying t = some (.slice (P.elem t)) := by simp [Program.elem, ht]
  have he : P.elem t = e := by simp [Program.elem, ht]
  rw [run_slice_hm W t _ _ _ ht' .i64 .i64 _ _ (by omega) (by omega) (by omega), he, hz]
  cases a <;> simp [Result.andThen, sliced, addr0]

set_option maxRecDepth 100000 in
theorem cut_any (w : World) (ao : Option Addr) (cap : Nat) (xs : List Int) (n : Nat) (hn : xs.length = n) (h : HV w ao cap xs) :
    Calls Try.prog 30 #[.slice ao n cap] w fun e w' => (e = .returned (.slice ao (plainOf xs).length (plainOf xs).length) ∧ HV w ao (plainOf xs).length (plainOf xs)) ∧ w' = w := by
  have HR : Hid (HV w ao (plainOf xs).length (plainOf xs)) := ⟨h.held.take _, Nat.le_refl _, by have := h.few; have := endOf_le xs; rw [plain_len]; omega⟩
  have HS := hid (fun m (hm : m ≤ cap) => run_cut_hm (P := Try.prog) w 32 3 Try.underlying32 Try.sizeI ao n cap m hm)
  have hroom := h.room
  have hfew := h.few
  rw [hn] at hroom hfew
  have H := hid h.held
  have HN := hid hn
  clear h hn
  go_enter Try.func30, Try.ntmps30
  go_wp2
  go_loop [3] (fun i => ∃ k : Nat, k ≤ n ∧ i = .int .i64 k ∧ Hid (endF (fun i => xs.getD i 0) k = endOf xs)) (fun i => (intOf i).toNat)
  case atStart => exact ⟨n, Nat.le_refl _, rfl, by show _ = _; rw [endOf, HN.out]⟩
  case round =>
    obtain ⟨k, hk, rfl, HE⟩ := hrel
    by_cases h0 : 0 < k
    · obtain ⟨j, hkj⟩ : ∃ j, k = j + 1 := ⟨k - 1, by omega⟩
      have hj : Hid (j < xs.length) := (by have := HN.out; omega : j < xs.length)
      obtain ⟨b, off, rfl, hc⟩ := H.out.cellAt hj.out
      have hcell := hc j hj.out
      rw [show off + j = off + (k - 1) by omega] at hcell
      clear hc
      have hp : (0 : Int) < (k : Int) := by omega
      have HKJ := hid hkj
      clear hkj
      by_cases hz : xs.getD j 0 = 0
      · have HE' : Hid (endF (fun i => xs.getD i 0) j = endOf xs) := by
          have := HE.out
          rw [HKJ.out, endF, if_pos hz] at this
          exact this
        rw [hz] at hcell
        clear hz HE
        go_wp2
        go_round
        case rel => exact ⟨j, by have := HKJ.out; omega, by have := HKJ.out; simp; omega, HE'⟩
        case measure => have := HKJ.out; simp [intOf]; omega
      · have HE' : Hid (k = endOf xs) := by
          have := HE.out
          rw [HKJ.out, endF, if_neg hz] at this
          rw [HKJ.out]
          exact this
        have hs := HS.out k (by omega)
        obtain ⟨X, hX⟩ : ∃ X, X = xs.getD j 0 := ⟨_, rfl⟩
        rw [← hX] at hcell hz
        have hz' : (X == 0) = false := by simp [hz]
        clear hz HE hX
        go_wp2
        go_ret
        refine ⟨⟨?_, HR.out⟩, rfl⟩
        rw [plain_len, ← HE'.out]
        rfl
    · obtain rfl : k = 0 := by omega
      have hs : Sem.run Try.prog (Instr.slice 32 (.slice ao n cap) none (some (.int .i64 0)) (some (.int .i64 0))) w = .ok (.slice ao 0 0) w := HS.out 0 (by omega)
      go_wp2
      go_ret
      refine ⟨⟨?_, HR.out⟩, rfl⟩
      have : endOf xs = 0 := HE.out.symm
      rw [plain_len, this]
      rfl
end Go.Proofs.Ytkgfpnmifgifpaa
/-
  Package vv: Clone, Plain, joined, Merge, Meet; the document's Plain, Merge, Meet.
-/
namespace Go.Proofs.Ytkgfpnmifgifpaa
open Go.RowKit Go.Maps

theorem eqlI_some (W : World) (ad : Addr) (n c : Nat) : (binOp .eql 32 (.slice (some ad) n c) (.slice none 0 0)).run Try.prog W = .ok (.bool false) W := by kernel_rfl
theorem eqlI_none (W : World) (n c : Nat) : (binOp .eql 32 (.slice none n c) (.slice none 0 0)).run Try.prog W = .ok (.bool true) W := by kernel_rfl
theorem HeldInt.of_none {w : World} {xs : List Int} (h : HeldInt w none xs) : xs = [] := by
  rcases h.2 with h0 | ⟨b, off, e, _⟩
  · exact h0
  · cases e
theorem hv_nil (w : World) : HV w none 0 [] := ⟨⟨fun x hx => (by cases hx), .inl rfl⟩, Nat.le_refl _, by simp⟩

/-- A call that answers a vector. -/
def AnsV (w : World) (xs : List Int) (e : Ending) (w' : World) : Prop := ∃ bo cp, e = .returned (.slice bo xs.length cp) ∧ HV w' bo cp xs ∧ Below w.heap.size w w'

theorem places_any (w : World) (ao bo : Option Addr) (ca cb m n : Nat) :
    Calls Try.prog 49 #[.slice ao m ca, .slice bo n cb] w fun e w' => e = .returned (.int .i64 ((max m n : Nat) : Int)) ∧ w' = w := by
  go_enter Try.func49, Try.ntmps49
  go_wp2
  all_goals
    go_ret
    exact ⟨ret_int (by omega), rfl⟩
end Go.Proofs.Ytkgfpnmifgifpaa
/-
  Package vv: joined, Merge, Meet; the document's Merge, Meet.
-/
namespace Go.Proofs.Ytkgfpnmifgifpaa
open Go.RowKit Go.Maps

/-- The first k places are joined. -/
def partOf (f : Int → Int → Int) (a b : List Int) (k : Nat) : List Int := (List.range (max a.length b.length)).map fun i => if i < k then f (a.getD i 0) (b.getD i 0) else 0
theorem part_len (f : Int → Int → Int) (a b : List Int) (k : Nat) : (partOf f a b k).length = max a.length b.length := by simp [partOf]
theorem part_zero (f : Int → Int → Int) (a b : List Int) : partOf f a b 0 = List.replicate (max a.length b.length) 0 := by
  apply List.ext_getElem <;> simp [partOf]
theorem part_all (f : Int → Int → Int) (a b : List Int) {k : Nat} (hk : max a.length b.length ≤ k) : partOf f a b k = joinOf f a b := by
  apply List.ext_getElem
  · simp [partOf, joinOf]
  · intro i h1 h2
    simp [partOf] at h1
    simp [partOf, joinOf, show i < k by omega]
theorem part_set (f : Int → Int → Int) (a b : List Int) {k : Nat} (_ : k < max a.length b.length) : (partOf f a b k).set k (f (a.getD k 0) (b.getD k 0)) = partOf f a b (k + 1) := by
  apply List.ext_getElem
  · simp [partOf]
  · intro i h1 h2
    simp [partOf] at h2
    rw [List.getElem_set]
    by_cases e : k = i
    · subst e; simp [partOf]
    · by_cases e2 : i < k
      · simp [partOf, e, e2, show i < k + 1 by omega]
      · simp [partOf, e, e2, show ¬ i < k + 1 by omega]
theorem join_rng {f : Int → Int → Int} {a b : List Int} {p : Int → Prop} (h : ∀ i, p (f (a.getD i 0) (b.getD i 0))) : ∀ x ∈ joinOf f a b, p x := by
  intro x hx
  obtain ⟨i, _, rfl⟩ := List.mem_map.1 hx
  exact h i
theorem made_ints (n : Nat) : madeCells #[.int .i64 0] n = (ints (List.replicate n 0)).toArray := by
  apply Array.ext'
  rw [toList_madeCells_one]
  simp [ints]
def maxI (x y : Int) : Int := max x y
def minI (x y : Int) : Int := min x y
theorem hid_eq {α : Type} {a b : α} (h : a = b) : Hid (a = b) := h

end Go.Proofs.Ytkgfpnmifgifpaa
/-
  Package vv: Below, Compare, Has, May, Count; the document's; Same.
-/
namespace Go.Proofs.Ytkgfpnmifgifpaa
open Go.RowKit Go.Maps

theorem belowV_of {a b : List Int} {L k : Nat} (hL : L = max a.length b.length) (hk : ¬ k < L) (h : ∀ j, j < k → a.getD j 0 ≤ b.getD j 0) : BelowV a b := fun i hi => h i (by omega)
theorem belowV_step {a b : List Int} {k : Nat} (h : ∀ j, j < k → a.getD j 0 ≤ b.getD j 0) (h' : a.getD k 0 ≤ b.getD k 0) : ∀ j, j < k + 1 → a.getD j 0 ≤ b.getD j 0 := by
  intro j hj
  by_cases e : j = k
  · subst e; exact h'
  · exact h j (by omega)

set_option maxRecDepth 100000 in
theorem below_any (w : World) (ao bo : Option Addr) (ca cb : Nat) (a b : List Int) (m n : Nat) (hm : a.length = m) (hn : b.length = n) (ha : HV w ao ca a) (hb : HV w bo cb b) :
    Calls Try.prog 32 #[.slice ao m ca, .slice bo n cb] w fun e w' => e = .returned (.bool (decide (BelowV a b))) ∧ w' = w := by
  have hfa := ha.few
  have hfb := hb.few
  obtain ⟨L, hL⟩ : ∃ L, L = max m n := ⟨_, rfl⟩
  have HL : Hid (L = max a.length b.length) := by show _ = _; rw [hL, hm, hn]
  have HP := hid (places_any w ao bo ca cb m n)
  rw [← hL] at HP
  have hLs : L ≤ 17592186044416 := by omega
  have HOA := hid (fun k : Int => of_any w ao ca a m hm k ha.held)
  have HOB := hid (fun k : Int => of_any w bo cb b n hn k hb.held)
  clear ha hb hfa hfb hL hm hn
  go_enter Try.func32, Try.ntmps32
  go_wp2_with fail
  refine HP.out.mono ?_
  rintro e w' ⟨rfl, rfl⟩
  go_wp2
  go_loop [5, 9] (fun _ i => ∃ k : Nat, k ≤ L ∧ i = .int .i64 k ∧ Hid (∀ j, j < k → a.getD j 0 ≤ b.getD j 0)) (fun _ i => L - (intOf i).toNat)
  case atStart => exact ⟨0, Nat.zero_le _, rfl, fun j hj => absurd hj (Nat.not_lt_zero _)⟩
  case round =>
    obtain ⟨k, hk, rfl, HR⟩ := hrel
    by_cases hlt : k < L
    · have hlt' : (k : Int) < (L : Int) := by omega
      have HA := HOA.out k
      have HB := HOB.out k
      rw [ofV_nat] at HA HB
      obtain ⟨X, HX⟩ : ∃ X, Hid (a.getD k 0 = X) := ⟨_, hid rfl⟩
      obtain ⟨Y, HY⟩ : ∃ Y, Hid (b.getD k 0 = Y) := ⟨_, hid rfl⟩
      rw [HX.out] at HA
      rw [HY.out] at HB
      have HA := hid HA
      have HB := hid HB
      go_wp2_with fail
      refine HA.out.mono ?_
      rintro e w2 ⟨rfl, rfl⟩
      go_wp2_with fail
      refine HB.out.mono ?_
      rintro e w3 ⟨rfl, rfl⟩
      by_cases hxy : X ≤ Y
      · have hd : ¬ Y < X := by omega
        go_wp2
        go_round
        case rel => exact ⟨k + 1, by omega, by go_num, belowV_step HR.out (by rw [HX.out, HY.out]; exact hxy)⟩
        case measure => simp [intOf]; omega
      · have hd : Y < X := by omega
        go_wp2
        go_ret
        refine ⟨?_, rfl⟩
        have : ¬ BelowV a b := fun h => (by have := h k (by rw [← HL.out]; exact hlt); rw [HX.out, HY.out] at this; omega)
        rw [decide_eq_false this]
        rfl
    · have hlt' : ¬ (k : Int) < (L : Int) := by omega
      go_wp2
      go_ret
      refine ⟨?_, rfl⟩
      rw [decide_eq_true (belowV_of HL.out hlt HR.out)]
      rfl

set_option maxRecDepth 100000 in
theorem has_any (w : World) (ao : Option Addr) (ca : Nat) (a : List Int) (m : Nat) (hm : a.length = m) (ha : HV w ao ca a) (o s : Int) :
    Calls Try.prog 16 #[.slice ao m ca, .agg #[.int .i64 o, .int .i64 s]] w fun e w' => e = .returned (.bool (decide (HasV a o s))) ∧ Below w.heap.size w w' := by
  have HB : Hid (Below w.heap.size w (w.alloc (.cells #[.int .i64 o, .int .i64 s] 31))) := (Below.refl _ _).alloc (Nat.le_refl _) _
  have hbk := Blk.new w 31 [.int .i64 o, .int .i64 s]
  have hc0 := hbk.cell (i := 0) rfl
  have hc1 := hbk.cell (i := 1) rfl
  have HO : Hid (∀ q, Calls Try.prog 14 #[.slice ao m ca, .int .i64 o] ((w.alloc (.cells #[.int .i64 o, .int .i64 s] 31)).drewN q) fun e w' => e = .returned (.int .i64 (ofV a o)) ∧ w' = (w.alloc (.cells #[.int .i64 o, .int .i64 s] 31)).drewN q) :=
    fun q => of_any _ ao ca a m hm o ((ha.below HB.out).dn q).held
  clear ha hm hbk
  obtain ⟨Y, HY⟩ : ∃ Y, Hid (ofV a o = Y) := ⟨_, hid rfl⟩
  rw [HY.out] at HO
  have HD : Hid (decide (HasV a o s) = decide (1 ≤ s ∧ s ≤ Y)) := decide_eq_decide.2 (by unfold HasV; rw [HY.out])
  rw [HD.out]
  by_cases h1 : 1 ≤ s
  · have hd : decide (1 ≤ s) = true := by simp [h1]
    go_enter Try.func16, Try.ntmps16
    go_wp2
    go_quiet (first | (go_at_call 14; refine Calls.quiet_of_same (HO.out _)))
    all_goals
      go_wp2
      go_ret
      exact ⟨ret_bool (by simp [h1]), below_dn HB.out _⟩
  · have hd : decide (1 ≤ s) = false := by simp [h1]
    go_enter Try.func16, Try.ntmps16
    go_wp2
    go_quiet (fail)
    all_goals
      go_wp2
      go_ret
      exact ⟨ret_bool (by simp; omega), below_dn HB.out _⟩

end Go.Proofs.Ytkgfpnmifgifpaa
/-
  Same; package vv's May, the document's May.
-/
namespace Go.Proofs.Ytkgfpnmifgifpaa
open Go.RowKit Go.Maps

theorem eq_of_getD {a b : List Int} (hl : a.length = b.length) {k : Nat} (hk : ¬ k < a.length) (h : ∀ j, j < k → a.getD j 0 = b.getD j 0) : a = b := by
  apply List.ext_getElem hl
  intro i h1 h2
  have := h i (by omega)
  simpa [List.getD, List.getElem?_eq_getElem h1, List.getElem?_eq_getElem h2] using this
theorem eq_step {a b : List Int} {k : Nat} (h : ∀ j, j < k → a.getD j 0 = b.getD j 0) (h' : a.getD k 0 = b.getD k 0) : ∀ j, j < k + 1 → a.getD j 0 = b.getD j 0 := by
  intro j hj
  by_cases e : j = k
  · subst e; exact h'
  · exact h j (by omega)

/-- A number that may be. -/
def RightV (x : Int) : Prop := 0 ≤ x ∧ x ≤ 2147483647
instance (x : Int) : Decidable (RightV x) := by unfold RightV; infer_instance
theorem take_succ_all {p : Int → Prop} {xs : List Int} {k : Nat} (hk : k < xs.length) (h : ∀ x ∈ xs.take k, p x) (h' : p (xs.getD k 0)) : ∀ x ∈ xs.take (k + 1), p x := by
  intro x hx
  rw [List.take_succ_eq_append_getElem hk] at hx
  rcases List.mem_append.1 hx with h1 | h1
  · exact h x h1
  · simp at h1
    subst h1
    simpa [List.getD, List.getElem?_eq_getElem hk] using h'

theorem mayV_iff (xs : List Int) : MayV xs ↔ xs.length ≤ 7 ∧ ∀ x ∈ xs, RightV x := Iff.rfl
end Go.Proofs.Ytkgfpnmifgifpaa
