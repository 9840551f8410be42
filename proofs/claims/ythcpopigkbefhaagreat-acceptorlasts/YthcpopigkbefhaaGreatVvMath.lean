/-
  codec.Name and pannierref01.Name: both tell of any string whether it may be a name ('nameS': 1 to 32 bytes, each a letter from a to z, a digit or the sign 45), and write nothing.
-/
import Derived.Test.YthcpopigkbefhaaGreatRows
import Derived.Test.YthcpopigkbefhaaGreatBase
import Derived.Sort.QuietIn
import Derived.RangeFuncCalls
import Derived.OwnWalkIn
import Derived.RowKit
import Derived.WalkKit
namespace Go.Proofs.YthcpopigkbefhaaGreat
open Go.RowKit

/-- May c be a name's byte? -/
def nameB (c : Int) : Bool := (decide (97 ≤ c) && decide (c ≤ 122)) || (decide (48 ≤ c) && decide (c ≤ 57)) || c == 45
/-- May s be a name? -/
def nameS (s : ByteArray) : Bool := decide (1 ≤ s.size) && decide (s.size ≤ 32) && (strNums s).all nameB

theorem nameB_cases (c : Int) : (c < 45 ∧ nameB c = false) ∨ (c = 45 ∧ nameB c = true) ∨ ((45 < c ∧ c < 48) ∧ nameB c = false) ∨ ((48 ≤ c ∧ c ≤ 57) ∧ nameB c = true) ∨ ((57 < c ∧ c < 97) ∧ nameB c = false) ∨ ((97 ≤ c ∧ c ≤ 122) ∧ nameB c = true) ∨ (122 < c ∧ nameB c = false) := by
  have h45 : ∀ b : Bool, c ≠ 45 → (b || c == 45) = b := by
    intro b h
    rw [beq_eq_false_iff_ne.2 h, Bool.or_false]
  by_cases h1 : c < 45
  · refine .inl ⟨h1, ?_⟩
    unfold nameB
    rw [h45 _ (by omega), decide_eq_false (p := 97 ≤ c) (by omega), decide_eq_false (p := 48 ≤ c) (by omega)]
    rfl
  by_cases h2 : c = 45
  · subst h2
    exact .inr (.inl ⟨rfl, rfl⟩)
  by_cases h3 : c < 48
  · refine .inr (.inr (.inl ⟨⟨by omega, h3⟩, ?_⟩))
    unfold nameB
    rw [h45 _ (by omega), decide_eq_false (p := 97 ≤ c) (by omega), decide_eq_false (p := 48 ≤ c) (by omega)]
    rfl
  by_cases h4 : c ≤ 57
  · refine .inr (.inr (.inr (.inl ⟨⟨by omega, h4⟩, ?_⟩)))
    unfold nameB
    rw [h45 _ (by omega), decide_eq_true (p := 48 ≤ c) (by omega), decide_eq_true (p := c ≤ 57) h4]
    simp
  by_cases h5 : c < 97
  · refine .inr (.inr (.inr (.inr (.inl ⟨⟨by omega, h5⟩, ?_⟩))))
    unfold nameB
    rw [h45 _ (by omega), decide_eq_false (p := 97 ≤ c) (by omega), decide_eq_false (p := c ≤ 57) h4]
    simp
  by_cases h6 : c ≤ 122
  · refine .inr (.inr (.inr (.inr (.inr (.inl ⟨⟨by omega, h6⟩, ?_⟩)))))
    unfold nameB
    rw [h45 _ (by omega), decide_eq_true (p := 97 ≤ c) (by omega), decide_eq_true (p := c ≤ 122) h6]
    simp
  · refine .inr (.inr (.inr (.inr (.inr (.inr ⟨by omega, ?_⟩)))))
    unfold nameB
    rw [h45 _ (by omega), decide_eq_false (p := c ≤ 122) h6, decide_eq_false (p := c ≤ 57) h4]
    simp

theorem nameByte_any (c : Int) (w : World) : Calls Tryz.prog 128 #[.int .u8 c] w fun e w' => e = .returned (.bool (nameB c)) ∧ w' = w := by
  rcases nameB_cases c with ⟨h, e⟩ | ⟨h, e⟩ | ⟨⟨h, h'⟩, e⟩ | ⟨⟨h, h'⟩, e⟩ | ⟨⟨h, h'⟩, e⟩ | ⟨⟨h, h'⟩, e⟩ | ⟨h, e⟩
  all_goals
    rw [e]
    clear e
    go_enter Tryz.func128, Tryz.ntmps128
    go_wp2
    go_ret
    exact ⟨ret_bool (by first | rfl | (simp; done) | (simp; omega)), rfl⟩

theorem strNums_at {s : ByteArray} {k : Nat} (h : k < s.size) : (strNums s)[k]? = some ((s[k].toNat : Nat) : Int) := by
  have h2 : k < s.data.size := h
  simp [strNums, List.getElem?_map]
  rw [Array.getElem?_eq_getElem h2]
  exact ⟨_, rfl, rfl⟩

theorem all_snoc {s : ByteArray} {k : Nat} (h : k < s.size) : ((strNums s).take (k + 1)).all nameB = (((strNums s).take k).all nameB && nameB ((s[k].toNat : Nat) : Int)) := by
  have h2 : k < (strNums s).length := by rw [strNums_len]; exact h
  have h3 := strNums_at h
  rw [List.getElem?_eq_getElem h2] at h3
  rw [List.take_succ_eq_append_getElem h2, List.all_append, Option.some.inj h3]
  simp

theorem all_no {s : ByteArray} {k : Nat} (h : k < s.size) (hn : nameB ((s[k].toNat : Nat) : Int) = false) : (strNums s).all nameB = false := by
  rw [← List.take_append_drop (k + 1) (strNums s), List.all_append, all_snoc h, hn]
  simp

theorem codecName_any (s : ByteArray) (w : World) (hs : s.size ≤ maxLen) : Calls Tryz.prog 97 #[.string s] w fun e w' => e = .returned (.bool (nameS s)) ∧ w' = w := by
  unfold maxLen at hs
  by_cases h1 : s.size < 1
  · have e : nameS s = false := by simp [nameS]; omega
    rw [e]
    have h1' : (s.size : Int) < 1 := by omega
    go_enter Tryz.func97, Tryz.ntmps97
    go_wp2
    go_ret
    exact ⟨rfl, rfl⟩
  · have h1' : ¬ (s.size : Int) < 1 := by omega
    by_cases h2 : 32 < s.size
    · have e : nameS s = false := by simp [nameS]; omega
      rw [e]
      have h2' : (32 : Int) < (s.size : Int) := by omega
      go_enter Tryz.func97, Tryz.ntmps97
      go_wp2
      go_ret
      exact ⟨rfl, rfl⟩
    · have e : nameS s = (strNums s).all nameB := by
        unfold nameS
        rw [decide_eq_true (p := 1 ≤ s.size) (by omega), decide_eq_true (p := s.size ≤ 32) (by omega)]
        simp
      rw [e]
      have h2' : ¬ (32 : Int) < (s.size : Int) := by omega
      clear e
      go_enter Tryz.func97, Tryz.ntmps97
      go_wp2
      go_loop [14] (fun i => ∃ k : Nat, k ≤ s.size ∧ i = .int .i64 k ∧ ((strNums s).take k).all nameB = true) (fun i => s.size - (intOf i).toNat)
      case atStart => exact ⟨0, by omega, rfl, rfl⟩
      case round =>
        obtain ⟨k, hk, rfl, hall⟩ := hrel
        by_cases hlt : k < s.size
        · by_cases hn : nameB ((s[k].toNat : Nat) : Int) = true
          · have HA : Hid (((strNums s).take (k + 1)).all nameB = true) := by show _ = _; rw [all_snoc hlt, hall, hn]; rfl
            have hcl := nameByte_any ((s[k].toNat : Nat) : Int) w
            rw [hn] at hcl
            have HCL := hid hcl
            clear hall hn hcl
            go_wp2_with fail
            refine HCL.out.mono ?_
            rintro e w' ⟨rfl, rfl⟩
            go_wp2
            go_round
            case rel => exact ⟨k + 1, by omega, by go_num, HA.out⟩
            case measure => simp [intOf]; omega
          · have hn' := Bool.eq_false_iff.2 hn
            have HA : Hid ((strNums s).all nameB = false) := all_no hlt hn'
            have hcl := nameByte_any ((s[k].toNat : Nat) : Int) w
            rw [hn'] at hcl
            have HCL := hid hcl
            clear hall hn hn' hcl
            go_wp2_with fail
            refine HCL.out.mono ?_
            rintro e w' ⟨rfl, rfl⟩
            go_wp2
            go_ret
            exact ⟨ret_bool HA.out.symm, rfl⟩
        · have HA : Hid ((strNums s).all nameB = true) := by
            show _ = _
            rw [List.take_of_length_le (by rw [strNums_len]; omega)] at hall
            exact hall
          clear hall
          go_wp2
          go_ret
          exact ⟨ret_bool HA.out.symm, rfl⟩

end Go.Proofs.YthcpopigkbefhaaGreat
/-
  A drawn region that only reads, inside a round of a range over a function: one walk of the lexical order serves every order. No function of the program is named here.
-/
namespace Go.Proofs.YthcpopigkbefhaaGreat
open Go.RowKit

section
variable {F : Fence} {n : Nat} {P : Program} {ops : Array Oper} {Q : Exit → Act → World → Prop}
def noDefer (o : Oper) : Bool := match o.op with
  | .defer _ => false
  | _ => true
theorem noDefer_ne {o : Oper} (h : noDefer o = true) : ∀ c, o.op ≠ .defer c := by
  intro c hc
  simp [noDefer, hc] at h
theorem oper_round {o : Oper} {a : Act} {w : World} {K : Act → World → Prop} (r : Nat) (hro : F.round = none) (hd : noDefer o = true) (h : o.wpIn F n P a w K Q) : o.wpIn (F.inRound r) n P a w K Q := by
  unfold Oper.wpIn at *
  refine ⟨h.1, ?_⟩
  have h2 := h.2
  rw [hro, Oper.semAt_none] at h2
  rw [Fence.inRound_round, Oper.semAt_some r _ _ (noDefer_ne hd)]
  exact h2
theorem wpOp_round {i : Nat} {a : Act} {w : World} {K : Act → World → Prop} (r : Nat) (hro : F.round = none) (hd : ∀ (i : Nat) (o : Oper), ops[i]? = some o → noDefer o = true) (h : wpOpIn F n P ops Q i K a w) : wpOpIn (F.inRound r) n P ops Q i K a w := by
  unfold wpOpIn at *
  split
  · next h0 => simpa [h0] using h
  · next o h0 =>
    simp only [h0] at h
    split at h
    · next hw => rw [if_pos hw]; exact oper_round r hro (hd i o h0) h
    · next hw => rw [if_neg hw]; exact h
theorem wpAny_round {md : Region.Mode} (r : Nat) (hro : F.round = none) (hd : ∀ (i : Nat) (o : Oper), ops[i]? = some o → noDefer o = true) : ∀ (fuel : Nat) (listed : Array Bool) (a : Act) (w : World), wpAnyIn F n P md ops Q fuel listed a w → wpAnyIn (F.inRound r) n P md ops Q fuel listed a w
  | 0, _, _, _, h => h
  | fuel + 1, _, _, _, h => ⟨h.1, fun i hi => wpOp_round r hro hd (wpOpIn_mono (fun a' w' h' => wpAny_round r hro hd fuel _ a' w' h') (h.2 i hi))⟩
/-- A quiet region in a round, over whatever class of worlds. -/
theorem wpIn_region_round {id : Nat} {a : Act} {w : World} {l : List Oper} (C : World → Prop) (r : Nat) (hro : F.round = none) (hd : l.all noDefer = true) (hm : P.follows .mixedOrders = true) (hB : Region.lexB .any l.toArray = true) (hC : C { w with drawn := w.drawn + 1 })
    (h : wpQuietIn F n P l.toArray C (fun a' => ∀ w', C w' → Q .normal a' w') l a) : (Code.region id l.toArray true).wpIn (F.inRound r) n P Q a w := by
  simp only [Region.lexB, Bool.and_eq_true] at hB
  have hd' : ∀ (i : Nat) (o : Oper), l.toArray[i]? = some o → noDefer o = true := fun i o ho => by
    rw [List.getElem?_toArray] at ho
    exact List.all_eq_true.1 hd o (List.mem_of_getElem? ho)
  refine wpIn_region_any hm (wpAny_round r hro hd' _ _ _ _ (wpAnyIn_of_quiet (Q := fun a' => ∀ w', C w' → Q .normal a' w') hro (fun _ w' hw' h => h w' hw') _ _ _ _ hC ?_))
  have := wpAnyQIn_lex (F := F) (n := n) (C := C) (md := .any) hB.1 l.toArray.toList 0 (Array.replicate l.toArray.size false) a (by simp) (by simpa using hB.2) (by simpa using h)
  simpa using this
/-- .. over the class 'some draws'. -/
theorem wpIn_region_quiet_round {id : Nat} {a : Act} {w : World} {l : List Oper} (r : Nat) (hro : F.round = none) (hd : l.all noDefer = true) (hm : P.follows .mixedOrders = true) (hB : Region.lexB .any l.toArray = true)
    (h : wpQuietIn F n P l.toArray (fun w' => ∃ n, w' = w.drewN n) (fun a' => ∀ w', (∃ n, w' = w.drewN n) → Q .normal a' w') l a) : (Code.region id l.toArray true).wpIn (F.inRound r) n P Q a w :=
  wpIn_region_round (fun w' => ∃ n, w' = w.drewN n) r hro hd hm hB ⟨1, rfl⟩ h
/-- One operation of the lexical walk over any class. -/
theorem quiet_run {C : World → Prop} {R : Act → Prop} {o : Oper} {rest : List Oper} {a : Act} (v : Value) (hask : o.askedIn F P a C) (hw : Region.wanted o (yielded ops a.tmps) = true) (hrun : ∀ w', C w' → (execOp a.eval o).run P w' = .ok (.value v) w')
    (hK : wpQuietIn F n P ops C R rest (a.put o.dst v)) : wpQuietIn F n P ops C R (o :: rest) a := by
  refine wpQuietIn_step hask (fun K hk => ?_)
  rw [if_pos hw]
  refine ⟨v, fun w' hc => ?_, hk _ hK⟩
  unfold Oper.quietAtIn
  rw [hrun w' hc]
  exact ⟨rfl, rfl⟩
theorem quiet_call {C : World → Prop} {R : Act → Prop} {o : Oper} {rest : List Oper} {a : Act} (v : Value) (hask : o.askedIn F P a C) (hw : Region.wanted o (yielded ops a.tmps) = true) (f : FuncId) (args : Array Value) (hrun : ∀ w', C w' → (execOp a.eval o).run P w' = .ok (.enter f args) w') (hdep : F.depth.isSome = true → 1 ≤ n)
    (hcall : ∀ w', C w' → CallsIn F (n - 1) P f args w' (fun e w'' => e = .returned v ∧ C w''))
    (hK : wpQuietIn F n P ops C R rest (a.put o.dst v)) : wpQuietIn F n P ops C R (o :: rest) a := by
  refine wpQuietIn_step hask (fun K hk => ?_)
  rw [if_pos hw]
  refine ⟨v, fun w' hc => ?_, hk _ hK⟩
  unfold Oper.quietAtIn
  rw [hrun w' hc]
  exact ⟨rfl, hdep, hcall w' hc⟩
end
/-- A world in which all of W's blocks are as they were. -/
structure Beyond (W : World) where
  now : World
  is : Below W.heap.size W now
instance (W : World) : Nonempty (Beyond W) := ⟨⟨W, Below.refl _ _⟩⟩
theorem Beyond.cell {W : World} {p : Addr} {v : Value} (h : W.cell? p = some v) (hp : p.block < W.heap.size) (X : Beyond W) : X.now.cell? p = some v := (X.is.cell hp).trans h
end Go.Proofs.YthcpopigkbefhaaGreat
/-
  Version vectors as lists of numbers: without noughts at the end, the greater and the lesser of two, which one is below. No program is named here.
-/
namespace Go.Proofs.YthcpopigkbefhaaGreat

/-- The number of an origin. -/
def ofV (xs : List Int) (k : Int) : Int := if k < 0 ∨ (xs.length : Int) ≤ k then 0 else xs.getD k.toNat 0
theorem getD_far {xs : List Int} {k : Nat} (h : xs.length ≤ k) : xs.getD k 0 = 0 := by
  simp [List.getD, List.getElem?_eq_none h]
theorem ofV_nat (xs : List Int) (k : Nat) : ofV xs (k : Int) = xs.getD k 0 := by
  unfold ofV
  split
  · next h => rw [getD_far (by omega)]
  · simp
/-- Where f's first k numbers end, without noughts. -/
def endF (f : Nat → Int) : Nat → Nat
  | 0 => 0
  | k + 1 => if f k = 0 then endF f k else k + 1
theorem endF_le (f : Nat → Int) : ∀ k, endF f k ≤ k
  | 0 => Nat.le_refl _
  | k + 1 => by
    unfold endF
    split
    · have := endF_le f k; omega
    · exact Nat.le_refl _
theorem endF_zero (f : Nat → Int) : ∀ k i, endF f k ≤ i → i < k → f i = 0
  | 0, _, _, h => by omega
  | k + 1, i, h1, h2 => by
    unfold endF at h1
    split at h1
    · next h =>
      by_cases e : i = k
      · subst e; exact h
      · exact endF_zero f k i h1 (by omega)
    · omega
theorem endF_last (f : Nat → Int) : ∀ k, endF f k = 0 ∨ f (endF f k - 1) ≠ 0
  | 0 => .inl rfl
  | k + 1 => by
    unfold endF
    split
    · exact endF_last f k
    · right; simpa
def endOf (xs : List Int) : Nat := endF (fun i => xs.getD i 0) xs.length
/-- Without the noughts at the end. -/
def plainOf (xs : List Int) : List Int := xs.take (endOf xs)
theorem endOf_le (xs : List Int) : endOf xs ≤ xs.length := endF_le _ _
theorem plain_len (xs : List Int) : (plainOf xs).length = endOf xs := by
  unfold plainOf
  have := endOf_le xs
  simp
  omega
theorem plain_getD (xs : List Int) (i : Nat) : (plainOf xs).getD i 0 = xs.getD i 0 := by
  by_cases h : i < endOf xs
  · simp [plainOf, List.getD, List.getElem?_take_of_lt h]
  · rw [getD_far (by rw [plain_len]; omega)]
    by_cases h2 : i < xs.length
    · exact (endF_zero (fun i => xs.getD i 0) xs.length i (by unfold endOf at h; omega) h2).symm
    · rw [getD_far (by omega)]
theorem endOf_ext {a b : List Int} (h : ∀ i, a.getD i 0 = b.getD i 0) : endOf a = endOf b := by
  have key : ∀ a b : List Int, (∀ i, a.getD i 0 = b.getD i 0) → endOf a ≤ endOf b := by
    intro a b h
    rcases endF_last (fun i => a.getD i 0) a.length with h0 | h0
    · unfold endOf; rw [h0]; exact Nat.zero_le _
    · apply Nat.le_of_not_lt
      intro hlt
      apply h0
      show a.getD (endOf a - 1) 0 = 0
      rw [h]
      by_cases h2 : endOf a - 1 < b.length
      · exact endF_zero (fun i => b.getD i 0) b.length _ (by unfold endOf at hlt ⊢; omega) h2
      · rw [getD_far (by omega)]
  exact Nat.le_antisymm (key a b h) (key b a (fun i => (h i).symm))
theorem plain_ext {a b : List Int} (h : ∀ i, a.getD i 0 = b.getD i 0) : plainOf a = plainOf b := by
  have he := endOf_ext h
  apply List.ext_getElem
  · rw [plain_len, plain_len, he]
  · intro i h1 h2
    have := h i
    have e1 := plain_getD a i
    have e2 := plain_getD b i
    rw [← this, ← e1] at e2
    simpa [List.getD, List.getElem?_eq_getElem h1, List.getElem?_eq_getElem h2] using e2.symm
theorem plain_mem {xs : List Int} {p : Int → Prop} (h : ∀ x ∈ xs, p x) : ∀ x ∈ plainOf xs, p x := fun x hx => h x (List.mem_of_mem_take hx)

/-- Two vectors, place by place. -/
def joinOf (f : Int → Int → Int) (a b : List Int) : List Int := (List.range (max a.length b.length)).map fun i => f (a.getD i 0) (b.getD i 0)
theorem join_len (f : Int → Int → Int) (a b : List Int) : (joinOf f a b).length = max a.length b.length := by simp [joinOf]
theorem join_getD {f : Int → Int → Int} (hf : f 0 0 = 0) (a b : List Int) (i : Nat) : (joinOf f a b).getD i 0 = f (a.getD i 0) (b.getD i 0) := by
  by_cases h : i < max a.length b.length
  · simp [joinOf, List.getD, h]
  · rw [getD_far (by rw [join_len]; omega), getD_far (xs := a) (by omega), getD_far (xs := b) (by omega), hf]
def mergeOf (a b : List Int) : List Int := plainOf (joinOf (fun x y => max x y) a b)
def meetOf (a b : List Int) : List Int := plainOf (joinOf (fun x y => min x y) a b)
theorem merge_getD (a b : List Int) (i : Nat) : (mergeOf a b).getD i 0 = max (a.getD i 0) (b.getD i 0) := by
  unfold mergeOf
  rw [plain_getD, join_getD (by simp)]
theorem meet_getD (a b : List Int) (i : Nat) : (meetOf a b).getD i 0 = min (a.getD i 0) (b.getD i 0) := by
  unfold meetOf
  rw [plain_getD, join_getD (by simp)]
theorem ofV_merge (a b : List Int) (k : Int) : ofV (mergeOf a b) k = max (ofV a k) (ofV b k) := by
  by_cases h : k < 0
  · simp [ofV, h]
  · obtain ⟨n, rfl⟩ := Int.eq_ofNat_of_zero_le (by omega : 0 ≤ k)
    simp only [ofV_nat, merge_getD]
theorem ofV_meet (a b : List Int) (k : Int) : ofV (meetOf a b) k = min (ofV a k) (ofV b k) := by
  by_cases h : k < 0
  · simp [ofV, h]
  · obtain ⟨n, rfl⟩ := Int.eq_ofNat_of_zero_le (by omega : 0 ≤ k)
    simp only [ofV_nat, meet_getD]
/-- Each of a's numbers is at most b's. -/
def BelowV (a b : List Int) : Prop := ∀ i, i < max a.length b.length → a.getD i 0 ≤ b.getD i 0
instance (a b : List Int) : Decidable (BelowV a b) := by unfold BelowV; infer_instance
theorem belowV_iff {a b : List Int} : BelowV a b ↔ ∀ i, a.getD i 0 ≤ b.getD i 0 := by
  constructor
  · intro h i
    by_cases hi : i < max a.length b.length
    · exact h i hi
    · rw [getD_far (xs := a) (by omega), getD_far (xs := b) (by omega)]
      exact Int.le_refl _
  · exact fun h i _ => h i
def cmpOf (a b : List Int) : Int := if BelowV a b then (if BelowV b a then 0 else -1) else (if BelowV b a then 1 else 2)
/-- Has a dot. -/
def HasV (xs : List Int) (o s : Int) : Prop := 1 ≤ s ∧ s ≤ ofV xs o
instance (xs : List Int) (o s : Int) : Decidable (HasV xs o s) := by unfold HasV; infer_instance
/-- May be one. -/
def MayV (xs : List Int) : Prop := xs.length ≤ 7 ∧ ∀ x ∈ xs, 0 ≤ x ∧ x ≤ 2147483647
instance (xs : List Int) : Decidable (MayV xs) := by unfold MayV; infer_instance
theorem eq_iff_getD {a b : List Int} (ha : plainOf a = a) (hb : plainOf b = b) : a = b ↔ ∀ i, a.getD i 0 = b.getD i 0 := by
  constructor
  · rintro rfl i; rfl
  · intro h
    rw [← ha, ← hb]
    exact plain_ext h
theorem plain_plain (a : List Int) : plainOf (plainOf a) = plainOf a := plain_ext (plain_getD a)
theorem plain_merge (a b : List Int) : plainOf (mergeOf a b) = mergeOf a b := plain_plain _
theorem plain_meet (a b : List Int) : plainOf (meetOf a b) = meetOf a b := plain_plain _
end Go.Proofs.YthcpopigkbefhaaGreat
