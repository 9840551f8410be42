/-
  Version vectors as lists of numbers: without noughts at the end, the greater and the lesser of two, which one is below. No program is named here.
-/
import Derived.WalkKit
import Derived.Test.YtfeoolknpcffcaaIntsA
namespace Go.Proofs.Ytfeoolknpcffcaa

/-- The number of an origin. -/
def ofV (xs : List Int) (k : Int) : Int := if k < 0 ∨ (xs.length : Int) ≤ k then 0 else xs.getD k.toNat 0
theorem getD_far {xs : List Int} {k : Nat} (h : xs.length ≤ k) : xs.getD k 0 = 0 := by
  simp [List.getD, List.getElem?_eq_none h]
theorem ofV_nat (xs : List Int) (k : Nat) : ofV xs (k : Int) = xs.getD k 0 := by
  unfold ofV
  split
  · next h => rw [getD_far (by omega)]
  · simp
/-- Where f's first k numbers end, without noughts. -/
def endF (f : Nat → Int) : Nat → Nat
  | 0 => 0
  | k + 1 => if f k = 0 then endF f k else k + 1
theorem endF_le (f : Nat → Int) : ∀ k, endF f k ≤ k
  | 0 => Nat.le_refl _
  | k + 1 => by
    unfold endF
    split
    · have := endF_le f k; omega
    · exact Nat.le_refl _
theorem endF_zero (f : Nat → Int) : ∀ k i, endF f k ≤ i → i < k → f i = 0
  | 0, _, _, h => by omega
  | k + 1, i, h1, h2 => by
    unfold endF at h1
    split at h1
    · next h =>
      by_cases e : i = k
      · subst e; exact h
      · exact endF_zero f k i h1 (by omega)
    · omega
theorem endF_last (f : Nat → Int) : ∀ k, endF f k = 0 ∨ f (endF f k - 1) ≠ 0
  | 0 => .inl rfl
  | k + 1 => by
    unfold endF
    split
    · exact endF_last f k
    · right; simpa
def endOf (xs : List Int) : Nat := endF (fun i => xs.getD i 0) xs.length
/-- Without the noughts at the end. -/
def plainOf (xs : List Int) : List Int := xs.take (endOf xs)
theorem endOf_le (xs : List Int) : endOf xs ≤ xs.length := endF_le _ _
theorem plain_len (xs : List Int) : (plainOf xs).length = endOf xs := by
  unfold plainOf
  have := endOf_le xs
  simp
  omega
theorem plain_getD (xs : List Int) (i : Nat) : (plainOf xs).getD i 0 = xs.getD i 0 := by
  by_cases h : i < endOf xs
  · simp [plainOf, List.getD, List.getElem?_take_of_lt h]
  · rw [getD_far (by rw [plain_len]; omega)]
    by_cases h2 : i < xs.length
    · exact (endF_zero (fun i => xs.getD i 0) xs.length i (by unfold endOf at h; omega) h2).symm
    · rw [getD_far (by omega)]
theorem endOf_ext {a b : List Int} (h : ∀ i, a.getD i 0 = b.getD i 0) : endOf a = endOf b := by
  have key : ∀ a b : List Int, (∀ i, a.getD i 0 = b.getD i 0) → endOf a ≤ endOf b := by
    intro a b h
    rcases endF_last (fun i => a.getD i 0) a.length with h0 | h0
    · unfold endOf; rw [h0]; exact Nat.zero_le _
    · apply Nat.le_of_not_lt
      intro hlt
      apply h0
      show a.getD (endOf a - 1) 0 = 0
      rw [h]
      by_cases h2 : endOf a - 1 < b.length
      · exact endF_zero (fun i => b.getD i 0) b.length _ (by unfold endOf at hlt ⊢; omega) h2
      · rw [getD_far (by omega)]
  exact Nat.le_antisymm (key a b h) (key b a (fun i => (h i).symm))
theorem plain_ext {a b : List Int} (h : ∀ i, a.getD i 0 = b.getD i 0) : plainOf a = plainOf b := by
  have he := endOf_ext h
  apply List.ext_getElem
  · rw [plain_len, plain_len, he]
  · intro i h1 h2
    have := h i
    have e1 := plain_getD a i
    have e2 := plain_getD b i
    rw [← this, ← e1] at e2
    simpa [List.getD, List.getElem?_eq_getElem h1, List.getElem?_eq_getElem h2] using e2.symm
theorem plain_mem {xs : List Int} {p : Int → Prop} (h : ∀ x ∈ xs, p x) : ∀ x ∈ plainOf xs, p x := fun x hx => h x (List.mem_of_mem_take hx)

/-- Two vectors, place by place. -/
def joinOf (f : Int → Int → Int) (a b : List Int) : List Int := (List.range (max a.length b.length)).map fun i => f (a.getD i 0) (b.getD i 0)
theorem join_len (f : Int → Int → Int) (a b : List Int) : (joinOf f a b).length = max a.length b.length := by simp [joinOf]
theorem join_getD {f : Int → Int → Int} (hf : f 0 0 = 0) (a b : List Int) (i : Nat) : (joinOf f a b).getD i 0 = f (a.getD i 0) (b.getD i 0) := by
  by_cases h : i < max a.length b.length
  · simp [joinOf, List.getD, h]
  · rw [getD_far (by rw [join_len]; omega), getD_far (xs := a) (by omega), getD_far (xs := b) (by omega), hf]
def mergeOf (a b : List Int) : List Int := plainOf (joinOf (fun x y => max x y) a b)
def meetOf (a b : List Int) : List Int := plainOf (joinOf (fun x y => min x y) a b)
theorem merge_getD (a b : List Int) (i : Nat) : (mergeOf a b).getD i 0 = max (a.getD i 0) (b.getD i 0) := by
  unfold mergeOf
  rw [plain_getD, join_getD (by simp)]
theorem meet_getD (a b : List Int) (i : Nat) : (meetOf a b).getD i 0 = min (a.getD i 0) (b.getD i 0) := by
  unfold meetOf
  rw [plain_getD, join_getD (by simp)]
theorem ofV_merge (a b : List Int) (k : Int) : ofV (mergeOf a b) k = max (ofV a k) (ofV b k) := by
  by_cases h : k < 0
  · simp [ofV, h]
  · obtain ⟨n, rfl⟩ := Int.eq_ofNat_of_zero_le (by omega : 0 ≤ k)
    simp only [ofV_nat, merge_getD]
theorem ofV_meet (a b : List Int) (k : Int) : ofV (meetOf a b) k = min (ofV a k) (ofV b k) := by
  by_cases h : k < 0
  · simp [ofV, h]
  · obtain ⟨n, rfl⟩ := Int.eq_ofNat_of_zero_le (by omega : 0 ≤ k)
    simp only [ofV_nat, meet_getD]
/-- Each of a's numbers is at most b's. -/
def BelowV (a b : List Int) : Prop := ∀ i, i < max a.length b.length → a.getD i 0 ≤ b.getD i 0
instance (a b : List Int) : Decidable (BelowV a b) := by unfold BelowV; infer_instance
theorem belowV_iff {a b : List Int} : BelowV a b ↔ ∀ i, a.getD i 0 ≤ b.getD i 0 := by
  constructor
  · intro h i
    by_cases hi : i < max a.length b.length
    · exact h i hi
    · rw [getD_far (xs := a) (by omega), getD_far (xs := b) (by omega)]
      exact Int.le_refl _
  · exact fun h i _ => h i
def cmpOf (a b : List Int) : Int := if BelowV a b then (if BelowV b a then 0 else -1) else (if BelowV b a then 1 else 2)
/-- Has a dot. -/
def HasV (xs : List Int) (o s : Int) : Prop := 1 ≤ s ∧ s ≤ ofV xs o
instance (xs : List Int) (o s : Int) : Decidable (HasV xs o s) := by unfold HasV; infer_instance
/-- May be one. -/
def MayV (xs : List Int) : Prop := xs.length ≤ 7 ∧ ∀ x ∈ xs, 0 ≤ x ∧ x ≤ 2147483647
instance (xs : List Int) : Decidable (MayV xs) := by unfold MayV; infer_instance
theorem eq_iff_getD {a b : List Int} (ha : plainOf a = a) (hb : plainOf b = b) : a = b ↔ ∀ i, a.getD i 0 = b.getD i 0 := by
  constructor
  · rintro rfl i; rfl
  · intro h
    rw [← ha, ← hb]
    exact plain_ext h
theorem plain_plain (a : List Int) : plainOf (plainOf a) = plainOf a := plain_ext (plain_getD a)
theorem plain_merge (a b : List Int) : plainOf (mergeOf a b) = mergeOf a b := plain_plain _
theorem plain_meet (a b : List Int) : plainOf (meetOf a b) = meetOf a b := plain_plain _
end Go.Proofs.Ytfeoolknpcffcaa
/-
  Package vv: Of, cut, Plain; the document's Of, Plain.
-/
namespace Go.Proofs.Ytfeoolknpcffcaa
open Go.RowKit Go.Maps

theorem Try.sizeI : ∀ w : World, (Go.sizeOf 3).run Try.prog w = .ok 1 w := by
  intro w
  obtain ⟨i, hi, _, hs, _⟩ := info_parts Try.infoInt
  simp [Go.sizeOf, typeInfo, hi, hs]

theorem of_any (w : World) (ao : Option Addr) (cap : Nat) (xs : List Int) (n : Nat) (hn : xs.length = n) (k : Int) (h : HeldInt w ao xs) :
    Calls Try.prog 12 #[.slice ao n cap, .int .i64 k] w fun e w' => e = .returned (.int .i64 (ofV xs k)) ∧ w' = w := by
  by_cases h0 : k < 0
  · clear h
    go_enter Try.func12, Try.ntmps12
    go_wp2
    go_ret
    exact ⟨ret_int (by simp [ofV, h0]), rfl⟩
  · by_cases h1 : (n : Int) ≤ k
    · clear h
      go_enter Try.func12, Try.ntmps12
      go_wp2
      go_ret
      exact ⟨ret_int (by rw [← hn] at h1; simp [ofV, h1]), rfl⟩
    · obtain ⟨j, rfl⟩ := Int.eq_ofNat_of_zero_le (by omega : 0 ≤ k)
      have hj : j < xs.length := by omega
      obtain ⟨b, off, rfl, hc⟩ := h.cellAt hj
      have hcell := hc j hj
      have HE := hid (ofV_nat xs j)
      clear hc h
      obtain ⟨X, hX⟩ : ∃ X, X = xs.getD j 0 := ⟨_, rfl⟩
      rw [← hX] at hcell HE
      clear hX
      have hlt : (j : Int) < (n : Int) := by omega
      clear hj hn
      go_enter Try.func12, Try.ntmps12
      go_wp2
      go_ret
      exact ⟨ret_int HE.out.symm, rfl⟩
theorem addr0 (p : Addr) : p.add 0 = p := by
  obtain ⟨b, o, s⟩ := p
  cases s <;> simp [Addr.add]
theorem run_cut_hm {P : Program} (W : World) (t e : TypeId) (ht : P.underlying t = some (.slice e)) (hz : ∀ w, (Go.sizeOf e).run P w = .ok 1 w) (a : Option Addr) (len cap n : Nat) (hh : n ≤ cap) :
    (Instr.slice t (.slice a len cap) none (some (.int .i64 (n : Int))) (some (.int .i64 (n : Int)))).run P W = .ok (.slice a n n) W := by
  have ht' : P.underlying t = some (.slice (P.elem t)) := by simp [Program.elem, ht]
  have he : P.elem t = e := by simp [Program.elem, ht]
  rw [run_slice_hm W t _ _ _ ht' .i64 .i64 _ _ (by omega) (by omega) (by omega), he, hz]
  cases a <;> simp [Result.andThen, sliced, addr0]

set_option maxRecDepth 100000 in
theorem cut_any (w : World) (ao : Option Addr) (cap : Nat) (xs : List Int) (n : Nat) (hn : xs.length = n) (h : HV w ao cap xs) :
    Calls Try.prog 32 #[.slice ao n cap] w fun e w' => (e = .returned (.slice ao (plainOf xs).length (plainOf xs).length) ∧ HV w ao (plainOf xs).length (plainOf xs)) ∧ w' = w := by
  have HR : Hid (HV w ao (plainOf xs).length (plainOf xs)) := ⟨h.held.take _, Nat.le_refl _, by have := h.few; have := endOf_le xs; rw [plain_len]; omega⟩
  have HS := hid (fun m (hm : m ≤ cap) => run_cut_hm (P := Try.prog) w 26 3 Try.underlying26 Try.sizeI ao n cap m hm)
  have hroom := h.room
  have hfew := h.few
  rw [hn] at hroom hfew
  have H := hid h.held
  have HN := hid hn
  clear h hn
  go_enter Try.func32, Try.ntmps32
  go_wp2
  go_loop [3] (fun i => ∃ k : Nat, k ≤ n ∧ i = .int .i64 k ∧ Hid (endF (fun i => xs.getD i 0) k = endOf xs)) (fun i => (intOf i).toNat)
  case atStart => exact ⟨n, Nat.le_refl _, rfl, by show _ = _; rw [endOf, HN.out]⟩
  case round =>
    obtain ⟨k, hk, rfl, HE⟩ := hrel
    by_cases h0 : 0 < k
    · obtain ⟨j, hkj⟩ : ∃ j, k = j + 1 := ⟨k - 1, by omega⟩
      have hj : Hid (j < xs.length) := (by have := HN.out; omega : j < xs.length)
      obtain ⟨b, off, rfl, hc⟩ := H.out.cellAt hj.out
      have hcell := hc j hj.out
      rw [show off + j = off + (k - 1) by omega] at hcell
      clear hc
      have hp : (0 : Int) < (k : Int) := by omega
      have HKJ := hid hkj
      clear hkj
      by_cases hz : xs.getD j 0 = 0
      · have HE' : Hid (endF (fun i => xs.getD i 0) j = endOf xs) := by
          have := HE.out
          rw [HKJ.out, endF, if_pos hz] at this
          exact this
        rw [hz] at hcell
        clear hz HE
        go_wp2
        go_round
        case rel => exact ⟨j, by have := HKJ.out; omega, by have := HKJ.out; simp; omega, HE'⟩
        case measure => have := HKJ.out; simp [intOf]; omega
      · have HE' : Hid (k = endOf xs) := by
          have := HE.out
          rw [HKJ.out, endF, if_neg hz] at this
          rw [HKJ.out]
          exact this
        have hs := HS.out k (by omega)
        obtain ⟨X, hX⟩ : ∃ X, X = xs.getD j 0 := ⟨_, rfl⟩
        rw [← hX] at hcell hz
        have hz' : (X == 0) = false := by simp [hz]
        clear hz HE hX
        go_wp2
        go_ret
        refine ⟨⟨?_, HR.out⟩, rfl⟩
        rw [plain_len, ← HE'.out]
        rfl
    · obtain rfl : k = 0 := by omega
      have hs : Sem.run Try.prog (Instr.slice 26 (.slice ao n cap) none (some (.int .i64 0)) (some (.int .i64 0))) w = .ok (.slice ao 0 0) w := HS.out 0 (by omega)
      go_wp2
      go_ret
      refine ⟨⟨?_, HR.out⟩, rfl⟩
      have : endOf xs = 0 := HE.out.symm
      rw [plain_len, this]
      rfl
end Go.Proofs.Ytfeoolknpcffcaa
