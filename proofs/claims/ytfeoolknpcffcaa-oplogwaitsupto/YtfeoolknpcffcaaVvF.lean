/-
  Package vv: Clone, Plain, joined, Merge, Meet; the document's Plain, Merge, Meet.
-/
import Derived.Test.YtfeoolknpcffcaaVvA
import Derived.Deep.OwnRows
import Derived.Laws.OwnMore
import Derived.Deep.QuietTactic
import Derived.BigQuiet
namespace Go.Proofs.Ytfeoolknpcffcaa
open Go.RowKit Go.Maps

theorem eqlI_some (W : World) (ad : Addr) (n c : Nat) : (binOp .eql 26 (.slice (some ad) n c) (.slice none 0 0)).run Try.prog W = .ok (.bool false) W := by kernel_rfl
theorem eqlI_none (W : World) (n c : Nat) : (binOp .eql 26 (.slice none n c) (.slice none 0 0)).run Try.prog W = .ok (.bool true) W := by kernel_rfl
theorem HeldInt.of_none {w : World} {xs : List Int} (h : HeldInt w none xs) : xs = [] := by
  rcases h.2 with h0 | ⟨b, off, e, _⟩
  · exact h0
  · cases e
theorem hv_nil (w : World) : HV w none 0 [] := ⟨⟨fun x hx => (by cases hx), .inl rfl⟩, Nat.le_refl _, by simp⟩

/-- A call that answers a vector. -/
def AnsV (w : World) (xs : List Int) (e : Ending) (w' : World) : Prop := ∃ bo cp, e = .returned (.slice bo xs.length cp) ∧ HV w' bo cp xs ∧ Below w.heap.size w w'

theorem clone_any (w : World) (ao : Option Addr) (cap : Nat) (xs : List Int) (n : Nat) (hn : xs.length = n) (h : HV w ao cap xs) :
    Calls Try.prog 41 #[.slice ao n cap] w (AnsV w xs) := by
  cases ao with
  | none =>
    have he := fun W => eqlI_none W n cap
    have hx := h.held.of_none
    clear h
    go_enter Try.func41, Try.ntmps41
    go_wp2
    go_ret
    subst hx
    exact ⟨_, _, rfl, hv_nil _, Below.refl _ _⟩
  | some ad =>
    have he := fun W => eqlI_some W ad n cap
    have H := hid h
    have HN := hid hn
    clear h hn
    go_enter Try.func41, Try.ntmps41
    go_wp2_with (at_builtin; refine wpList_append_copy w rfl _ _ rfl rfl _ _ xs n HN.out rfl H.out.held H.out.few ?_; intro bo cp w' _ hv hb)
    have HV' := hid hv
    have HB := hid hb
    clear hv hb
    go_wp2
    go_ret
    exact ⟨bo, cp, by rw [HN.out]; rfl, HV'.out, HB.out⟩

theorem plain_any (w : World) (ao : Option Addr) (cap : Nat) (xs : List Int) (n : Nat) (hn : xs.length = n) (h : HV w ao cap xs) :
    Calls Try.prog 33 #[.slice ao n cap] w (AnsV w (plainOf xs)) := by
  have HC := hid (clone_any w ao cap xs n hn h)
  clear h
  go_enter Try.func33, Try.ntmps33
  go_wp2_with fail
  refine HC.out.mono ?_
  rintro e w1 ⟨bo, cp, rfl, hv, hb⟩
  have HU := hid (cut_any w1 bo cp xs _ rfl hv)
  obtain ⟨m, HM⟩ : ∃ m, Hid ((plainOf xs).length = m) := ⟨_, hid rfl⟩
  rw [HM.out] at HU
  have HB := hid hb
  clear hv hb HC hn
  generalize xs.length = n1 at HU ⊢
  go_wp2_with fail
  refine HU.out.mono ?_
  rintro e w2 ⟨⟨rfl, hv⟩, rfl⟩
  have HV' := hid hv
  clear hv HU
  go_wp2
  go_ret
  exact ⟨bo, m, by rw [HM.out]; rfl, HV'.out, HB.out⟩

theorem places_any (w : World) (ao bo : Option Addr) (ca cb m n : Nat) :
    Calls Try.prog 31 #[.slice ao m ca, .slice bo n cb] w fun e w' => e = .returned (.int .i64 ((max m n : Nat) : Int)) ∧ w' = w := by
  go_enter Try.func31, Try.ntmps31
  go_wp2
  all_goals
    go_ret
    exact ⟨ret_int (by omega), rfl⟩
end Go.Proofs.Ytfeoolknpcffcaa
/-
  Package vv: joined, Merge, Meet; the document's Merge, Meet.
-/
namespace Go.Proofs.Ytfeoolknpcffcaa
open Go.RowKit Go.Maps

/-- The first k places are joined. -/
def partOf (f : Int → Int → Int) (a b : List Int) (k : Nat) : List Int := (List.range (max a.length b.length)).map fun i => if i < k then f (a.getD i 0) (b.getD i 0) else 0
theorem part_len (f : Int → Int → Int) (a b : List Int) (k : Nat) : (partOf f a b k).length = max a.length b.length := by simp [partOf]
theorem part_zero (f : Int → Int → Int) (a b : List Int) : partOf f a b 0 = List.replicate (max a.length b.length) 0 := by
  apply List.ext_getElem <;> simp [partOf]
theorem part_all (f : Int → Int → Int) (a b : List Int) {k : Nat} (hk : max a.length b.length ≤ k) : partOf f a b k = joinOf f a b := by
  apply List.ext_getElem
  · simp [partOf, joinOf]
  · intro i h1 h2
    simp [partOf] at h1
    simp [partOf, joinOf, show i < k by omega]
theorem part_set (f : Int → Int → Int) (a b : List Int) {k : Nat} (_ : k < max a.length b.length) : (partOf f a b k).set k (f (a.getD k 0) (b.getD k 0)) = partOf f a b (k + 1) := by
  apply List.ext_getElem
  · simp [partOf]
  · intro i h1 h2
    simp [partOf] at h2
    rw [List.getElem_set]
    by_cases e : k = i
    · subst e; simp [partOf]
    · by_cases e2 : i < k
      · simp [partOf, e, e2, show i < k + 1 by omega]
      · simp [partOf, e, e2, show ¬ i < k + 1 by omega]
theorem join_rng {f : Int → Int → Int} {a b : List Int} {p : Int → Prop} (h : ∀ i, p (f (a.getD i 0) (b.getD i 0))) : ∀ x ∈ joinOf f a b, p x := by
  intro x hx
  obtain ⟨i, _, rfl⟩ := List.mem_map.1 hx
  exact h i
theorem made_ints (n : Nat) : madeCells #[.int .i64 0] n = (ints (List.replicate n 0)).toArray := by
  apply Array.ext'
  rw [toList_madeCells_one]
  simp [ints]
def maxI (x y : Int) : Int := max x y
def minI (x y : Int) : Int := min x y
theorem hid_eq {α : Type} {a b : α} (h : a = b) : Hid (a = b) := h

end Go.Proofs.Ytfeoolknpcffcaa
/-
  Package vv: Below, Compare, Has, May, Count; the document's; Same.
-/
namespace Go.Proofs.Ytfeoolknpcffcaa
open Go.RowKit Go.Maps

theorem belowV_of {a b : List Int} {L k : Nat} (hL : L = max a.length b.length) (hk : ¬ k < L) (h : ∀ j, j < k → a.getD j 0 ≤ b.getD j 0) : BelowV a b := fun i hi => h i (by omega)
theorem belowV_step {a b : List Int} {k : Nat} (h : ∀ j, j < k → a.getD j 0 ≤ b.getD j 0) (h' : a.getD k 0 ≤ b.getD k 0) : ∀ j, j < k + 1 → a.getD j 0 ≤ b.getD j 0 := by
  intro j hj
  by_cases e : j = k
  · subst e; exact h'
  · exact h j (by omega)

set_option maxRecDepth 100000 in
theorem below_any (w : World) (ao bo : Option Addr) (ca cb : Nat) (a b : List Int) (m n : Nat) (hm : a.length = m) (hn : b.length = n) (ha : HV w ao ca a) (hb : HV w bo cb b) :
    Calls Try.prog 11 #[.slice ao m ca, .slice bo n cb] w fun e w' => e = .returned (.bool (decide (BelowV a b))) ∧ w' = w := by
  have hfa := ha.few
  have hfb := hb.few
  obtain ⟨L, hL⟩ : ∃ L, L = max m n := ⟨_, rfl⟩
  have HL : Hid (L = max a.length b.length) := by show _ = _; rw [hL, hm, hn]
  have HP := hid (places_any w ao bo ca cb m n)
  rw [← hL] at HP
  have hLs : L ≤ 17592186044416 := by omega
  have HOA := hid (fun k : Int => of_any w ao ca a m hm k ha.held)
  have HOB := hid (fun k : Int => of_any w bo cb b n hn k hb.held)
  clear ha hb hfa hfb hL hm hn
  go_enter Try.func11, Try.ntmps11
  go_wp2_with fail
  refine HP.out.mono ?_
  rintro e w' ⟨rfl, rfl⟩
  go_wp2
  go_loop [5, 9] (fun _ i => ∃ k : Nat, k ≤ L ∧ i = .int .i64 k ∧ Hid (∀ j, j < k → a.getD j 0 ≤ b.getD j 0)) (fun _ i => L - (intOf i).toNat)
  case atStart => exact ⟨0, Nat.zero_le _, rfl, fun j hj => absurd hj (Nat.not_lt_zero _)⟩
  case round =>
    obtain ⟨k, hk, rfl, HR⟩ := hrel
    by_cases hlt : k < L
    · have hlt' : (k : Int) < (L : Int) := by omega
      have HA := HOA.out k
      have HB := HOB.out k
      rw [ofV_nat] at HA HB
      obtain ⟨X, HX⟩ : ∃ X, Hid (a.getD k 0 = X) := ⟨_, hid rfl⟩
      obtain ⟨Y, HY⟩ : ∃ Y, Hid (b.getD k 0 = Y) := ⟨_, hid rfl⟩
      rw [HX.out] at HA
      rw [HY.out] at HB
      have HA := hid HA
      have HB := hid HB
      go_wp2_with fail
      refine HA.out.mono ?_
      rintro e w2 ⟨rfl, rfl⟩
      go_wp2_with fail
      refine HB.out.mono ?_
      rintro e w3 ⟨rfl, rfl⟩
      by_cases hxy : X ≤ Y
      · have hd : ¬ Y < X := by omega
        go_wp2
        go_round
        case rel => exact ⟨k + 1, by omega, by go_num, belowV_step HR.out (by rw [HX.out, HY.out]; exact hxy)⟩
        case measure => simp [intOf]; omega
      · have hd : Y < X := by omega
        go_wp2
        go_ret
        refine ⟨?_, rfl⟩
        have : ¬ BelowV a b := fun h => (by have := h k (by rw [← HL.out]; exact hlt); rw [HX.out, HY.out] at this; omega)
        rw [decide_eq_false this]
        rfl
    · have hlt' : ¬ (k : Int) < (L : Int) := by omega
      go_wp2
      go_ret
      refine ⟨?_, rfl⟩
      rw [decide_eq_true (belowV_of HL.out hlt HR.out)]
      rfl

set_option maxRecDepth 100000 in
theorem has_any (w : World) (ao : Option Addr) (ca : Nat) (a : List Int) (m : Nat) (hm : a.length = m) (ha : HV w ao ca a) (o s : Int) :
    Calls Try.prog 17 #[.slice ao m ca, .agg #[.int .i64 o, .int .i64 s]] w fun e w' => e = .returned (.bool (decide (HasV a o s))) ∧ Below w.heap.size w w' := by
  have HB : Hid (Below w.heap.size w (w.alloc (.cells #[.int .i64 o, .int .i64 s] 31))) := (Below.refl _ _).alloc (Nat.le_refl _) _
  have hbk := Blk.new w 31 [.int .i64 o, .int .i64 s]
  have hc0 := hbk.cell (i := 0) rfl
  have hc1 := hbk.cell (i := 1) rfl
  have HO : Hid (∀ q, Calls Try.prog 12 #[.slice ao m ca, .int .i64 o] ((w.alloc (.cells #[.int .i64 o, .int .i64 s] 31)).drewN q) fun e w' => e = .returned (.int .i64 (ofV a o)) ∧ w' = (w.alloc (.cells #[.int .i64 o, .int .i64 s] 31)).drewN q) :=
    fun q => of_any _ ao ca a m hm o ((ha.below HB.out).dn q).held
  clear ha hm hbk
  obtain ⟨Y, HY⟩ : ∃ Y, Hid (ofV a o = Y) := ⟨_, hid rfl⟩
  rw [HY.out] at HO
  have HD : Hid (decide (HasV a o s) = decide (1 ≤ s ∧ s ≤ Y)) := decide_eq_decide.2 (by unfold HasV; rw [HY.out])
  rw [HD.out]
  by_cases h1 : 1 ≤ s
  · have hd : decide (1 ≤ s) = true := by simp [h1]
    go_enter Try.func17, Try.ntmps17
    go_wp2
    go_quiet (first | (go_at_call 12; refine Calls.quiet_of_same (HO.out _)))
    all_goals
      go_wp2
      go_ret
      exact ⟨ret_bool (by simp [h1]), below_dn HB.out _⟩
  · have hd : decide (1 ≤ s) = false := by simp [h1]
    go_enter Try.func17, Try.ntmps17
    go_wp2
    go_quiet (fail)
    all_goals
      go_wp2
      go_ret
      exact ⟨ret_bool (by simp; omega), below_dn HB.out _⟩

end Go.Proofs.Ytfeoolknpcffcaa
/-
  Same; package vv's May, the document's May.
-/
namespace Go.Proofs.Ytfeoolknpcffcaa
open Go.RowKit Go.Maps

theorem eq_of_getD {a b : List Int} (hl : a.length = b.length) {k : Nat} (hk : ¬ k < a.length) (h : ∀ j, j < k → a.getD j 0 = b.getD j 0) : a = b := by
  apply List.ext_getElem hl
  intro i h1 h2
  have := h i (by omega)
  simpa [List.getD, List.getElem?_eq_getElem h1, List.getElem?_eq_getElem h2] using this
theorem eq_step {a b : List Int} {k : Nat} (h : ∀ j, j < k → a.getD j 0 = b.getD j 0) (h' : a.getD k 0 = b.getD k 0) : ∀ j, j < k + 1 → a.getD j 0 = b.getD j 0 := by
  intro j hj
  by_cases e : j = k
  · subst e; exact h'
  · exact h j (by omega)

set_option maxRecDepth 100000 in
theorem same_any (w : World) (ao bo : Option Addr) (ca cb : Nat) (a b : List Int) (m n : Nat) (hm : a.length = m) (hn : b.length = n) (ha : HV w ao ca a) (hb : HV w bo cb b) :
    Calls Try.prog 14 #[.slice ao m ca, .slice bo n cb] w fun e w' => e = .returned (.bool (decide (a = b))) ∧ ∃ q, w' = w.drewN q := by
  by_cases hmn : m = n
  · subst hmn
    have HA := hid ha.held
    have HB := hid hb.held
    have hfa := ha.few
    rw [hm] at hfa
    have HM := hid hm
    have HN := hid hn
    clear ha hb hm hn
    go_enter Try.func14, Try.ntmps14
    go_wp2
    go_loopw [5] (fun i wr => ∃ k : Nat, k ≤ m ∧ i = .int .i64 k ∧ Hid ((∃ q, wr = w.drewN q) ∧ ∀ j, j < k → a.getD j 0 = b.getD j 0)) (fun i _ => m - (intOf i).toNat)
    case atStart => exact ⟨0, Nat.zero_le _, rfl, ⟨0, rfl⟩, fun j hj => absurd hj (Nat.not_lt_zero _)⟩
    case round =>
      obtain ⟨k, hk, rfl, HR⟩ := hrel
      by_cases hlt : k < m
      · have hlt' : (k : Int) < (m : Int) := by omega
        obtain ⟨q, hq⟩ := HR.out.1
        have hka : k < a.length := by rw [HM.out]; exact hlt
        have hkb : k < b.length := by rw [HN.out]; exact hlt
        obtain ⟨b1, o1, rfl, hc1⟩ := HA.out.cellAt hka
        obtain ⟨b2, o2, rfl, hc2⟩ := HB.out.cellAt hkb
        have c1 : wr.cell? ⟨b1, o1 + k, none⟩ = some (.int .i64 (a.getD k 0)) := by rw [hq]; exact hc1 k hka
        have c2 : wr.cell? ⟨b2, o2 + k, none⟩ = some (.int .i64 (b.getD k 0)) := by rw [hq]; exact hc2 k hkb
        have HKB := hid hkb
        have HKA := hid hka
        have HQ := hid hq
        clear hc1 hc2 hka hkb hq
        obtain ⟨X, HX⟩ : ∃ X, Hid (a.getD k 0 = X) := ⟨_, hid rfl⟩
        obtain ⟨Y, HY⟩ : ∃ Y, Hid (b.getD k 0 = Y) := ⟨_, hid rfl⟩
        rw [HX.out] at c1
        rw [HY.out] at c2
        by_cases hxy : X = Y
        · have hb : (X != Y) = false := by simp [hxy]
          have HXY := hid hxy
          clear hxy
          go_wp2
          go_quiet (fail)
          all_goals
            go_wp2
            go_roundw
            case rel => exact ⟨k + 1, by omega, by go_num, ⟨_, by rw [HQ.out, drewN_add]⟩, eq_step HR.out.2 (by rw [HX.out, HY.out, HXY.out])⟩
            case measure => simp [intOf]; omega
        · have hb : (X != Y) = true := by simp [hxy]
          have HXY := hid hxy
          clear hxy
          go_wp2
          go_quiet (fail)
          all_goals
            go_wp2
            go_ret
            refine ⟨?_, _, by rw [HQ.out, drewN_add]⟩
            have : ¬ a = b := fun h => HXY.out (by rw [← HX.out, ← HY.out, h])
            rw [decide_eq_false this]
            rfl
      · have hlt' : ¬ (k : Int) < (m : Int) := by omega
        go_wp2
        go_ret
        refine ⟨?_, HR.out.1⟩
        rw [decide_eq_true (eq_of_getD (by rw [HM.out, HN.out]) (by rw [HM.out]; exact hlt) HR.out.2)]
        rfl
  · have hne : ((m : Int) != (n : Int)) = true := by simp; omega
    have HE : Hid (decide (a = b) = false) := decide_eq_false (fun h => hmn (by rw [← hm, ← hn, h]))
    clear ha hb hm hn
    rw [HE.out]
    go_enter Try.func14, Try.ntmps14
    go_wp2
    go_ret
    exact ⟨rfl, 0, rfl⟩

/-- A number that may be. -/
def RightV (x : Int) : Prop := 0 ≤ x ∧ x ≤ 2147483647
instance (x : Int) : Decidable (RightV x) := by unfold RightV; infer_instance
theorem take_succ_all {p : Int → Prop} {xs : List Int} {k : Nat} (hk : k < xs.length) (h : ∀ x ∈ xs.take k, p x) (h' : p (xs.getD k 0)) : ∀ x ∈ xs.take (k + 1), p x := by
  intro x hx
  rw [List.take_succ_eq_append_getElem hk] at hx
  rcases List.mem_append.1 hx with h1 | h1
  · exact h x h1
  · simp at h1
    subst h1
    simpa [List.getD, List.getElem?_eq_getElem hk] using h'

theorem mayV_iff (xs : List Int) : MayV xs ↔ xs.length ≤ 7 ∧ ∀ x ∈ xs, RightV x := Iff.rfl
end Go.Proofs.Ytfeoolknpcffcaa
/-
  The document's Merge and Meet; With, the document's With.
-/
namespace Go.Proofs.Ytfeoolknpcffcaa
open Go.RowKit Go.Maps

theorem join_snoc {f : Int → Int → Int} {a b : List Int} {k : Nat} (hk : k < max a.length b.length) : (joinOf f a b).take (k + 1) = (joinOf f a b).take k ++ [f (a.getD k 0) (b.getD k 0)] := by
  have hl : k < (joinOf f a b).length := by rw [join_len]; exact hk
  rw [List.take_succ_eq_append_getElem hl]
  simp [joinOf]

end Go.Proofs.Ytfeoolknpcffcaa
