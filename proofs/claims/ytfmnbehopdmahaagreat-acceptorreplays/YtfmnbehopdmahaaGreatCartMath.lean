/-
  codec.Name and pannierref01.Name: both tell of any string whether it may be a name ('nameS': 1 to 32 bytes, each a letter from a to z, a digit or the sign 45), and write nothing.
-/
import Derived.Test.YtfmnbehopdmahaaGreatRows
import Derived.Test.YtfmnbehopdmahaaGreatBase
import Derived.Sort.QuietIn
import Derived.RangeFuncCalls
import Derived.OwnWalkIn
import Derived.RowKit
import Derived.WalkKit
namespace Go.Proofs.YtfmnbehopdmahaaGreat
open Go.RowKit

/-- May c be a name's byte? -/
def nameB (c : Int) : Bool := (decide (97 ≤ c) && decide (c ≤ 122)) || (decide (48 ≤ c) && decide (c ≤ 57)) || c == 45
/-- May s be a name? -/
def nameS (s : ByteArray) : Bool := decide (1 ≤ s.size) && decide (s.size ≤ 32) && (strNums s).all nameB

theorem nameB_cases (c : Int) : (c < 45 ∧ nameB c = false) ∨ (c = 45 ∧ nameB c = true) ∨ ((45 < c ∧ c < 48) ∧ nameB c = false) ∨ ((48 ≤ c ∧ c ≤ 57) ∧ nameB c = true) ∨ ((57 < c ∧ c < 97) ∧ nameB c = false) ∨ ((97 ≤ c ∧ c ≤ 122) ∧ nameB c = true) ∨ (122 < c ∧ nameB c = false) := by
  have h45 : ∀ b : Bool, c ≠ 45 → (b || c == 45) = b := by
    intro b h
    rw [beq_eq_false_iff_ne.2 h, Bool.or_false]
  by_cases h1 : c < 45
  · refine .inl ⟨h1, ?_⟩
    unfold nameB
    rw [h45 _ (by omega), decide_eq_false (p := 97 ≤ c) (by omega), decide_eq_false (p := 48 ≤ c) (by omega)]
    rfl
  by_cases h2 : c = 45
  · subst h2
    exact .inr (.inl ⟨rfl, rfl⟩)
  by_cases h3 : c < 48
  · refine .inr (.inr (.inl ⟨⟨by omega, h3⟩, ?_⟩))
    unfold nameB
    rw [h45 _ (by omega), decide_eq_false (p := 97 ≤ c) (by omega), decide_eq_false (p := 48 ≤ c) (by omega)]
    rfl
  by_cases h4 : c ≤ 57
  · refine .inr (.inr (.inr (.inl ⟨⟨by omega, h4⟩, ?_⟩)))
    unfold nameB
    rw [h45 _ (by omega), decide_eq_true (p := 48 ≤ c) (by omega), decide_eq_true (p := c ≤ 57) h4]
    simp
  by_cases h5 : c < 97
  · refine .inr (.inr (.inr (.inr (.inl ⟨⟨by omega, h5⟩, ?_⟩))))
    unfold nameB
    rw [h45 _ (by omega), decide_eq_false (p := 97 ≤ c) (by omega), decide_eq_false (p := c ≤ 57) h4]
    simp
  by_cases h6 : c ≤ 122
  · refine .inr (.inr (.inr (.inr (.inr (.inl ⟨⟨by omega, h6⟩, ?_⟩)))))
    unfold nameB
    rw [h45 _ (by omega), decide_eq_true (p := 97 ≤ c) (by omega), decide_eq_true (p := c ≤ 122) h6]
    simp
  · refine .inr (.inr (.inr (.inr (.inr (.inr ⟨by omega, ?_⟩)))))
    unfold nameB
    rw [h45 _ (by omega), decide_eq_false (p := c ≤ 122) h6, decide_eq_false (p := c ≤ 57) h4]
    simp

theorem nameByte_any (c : Int) (w : World) : Calls Tryz.prog 179 #[.int .u8 c] w fun e w' => e = .returned (.bool (nameB c)) ∧ w' = w := by
  rcases nameB_cases c with ⟨h, e⟩ | ⟨h, e⟩ | ⟨⟨h, h'⟩, e⟩ | ⟨⟨h, h'⟩, e⟩ | ⟨⟨h, h'⟩, e⟩ | ⟨⟨h, h'⟩, e⟩ | ⟨h, e⟩
  all_goals
    rw [e]
    clear e
    go_enter Tryz.func179, Tryz.ntmps179
    go_wp2
    go_ret
    exact ⟨ret_bool (by first | rfl | (simp; done) | (simp; omega)), rfl⟩

theorem strNums_at {s : ByteArray} {k : Nat} (h : k < s.size) : (strNums s)[k]? = some ((s[k].toNat : Nat) : Int) := by
  have h2 : k < s.data.size := h
  simp [strNums, List.getElem?_map]
  rw [Array.getElem?_eq_getElem h2]
  exact ⟨_, rfl, rfl⟩

theorem all_snoc {s : ByteArray} {k : Nat} (h : k < s.size) : ((strNums s).take (k + 1)).all nameB = (((strNums s).take k).all nameB && nameB ((s[k].toNat : Nat) : Int)) := by
  have h2 : k < (strNums s).length := by rw [strNums_len]; exact h
  have h3 := strNums_at h
  rw [List.getElem?_eq_getElem h2] at h3
  rw [List.take_succ_eq_append_getElem h2, List.all_append, Option.some.inj h3]
  simp

theorem all_no {s : ByteArray} {k : Nat} (h : k < s.size) (hn : nameB ((s[k].toNat : Nat) : Int) = false) : (strNums s).all nameB = false := by
  rw [← List.take_append_drop (k + 1) (strNums s), List.all_append, all_snoc h, hn]
  simp

theorem codecName_any (s : ByteArray) (w : World) (hs : s.size ≤ maxLen) : Calls Tryz.prog 148 #[.string s] w fun e w' => e = .returned (.bool (nameS s)) ∧ w' = w := by
  unfold maxLen at hs
  by_cases h1 : s.size < 1
  · have e : nameS s = false := by simp [nameS]; omega
    rw [e]
    have h1' : (s.size : Int) < 1 := by omega
    go_enter Tryz.func148, Tryz.ntmps148
    go_wp2
    go_ret
    exact ⟨rfl, rfl⟩
  · have h1' : ¬ (s.size : Int) < 1 := by omega
    by_cases h2 : 32 < s.size
    · have e : nameS s = false := by simp [nameS]; omega
      rw [e]
      have h2' : (32 : Int) < (s.size : Int) := by omega
      go_enter Tryz.func148, Tryz.ntmps148
      go_wp2
      go_ret
      exact ⟨rfl, rfl⟩
    · have e : nameS s = (strNums s).all nameB := by
        unfold nameS
        rw [decide_eq_true (p := 1 ≤ s.size) (by omega), decide_eq_true (p := s.size ≤ 32) (by omega)]
        simp
      rw [e]
      have h2' : ¬ (32 : Int) < (s.size : Int) := by omega
      clear e
      go_enter Tryz.func148, Tryz.ntmps148
      go_wp2
      go_loop [14] (fun i => ∃ k : Nat, k ≤ s.size ∧ i = .int .i64 k ∧ ((strNums s).take k).all nameB = true) (fun i => s.size - (intOf i).toNat)
      case atStart => exact ⟨0, by omega, rfl, rfl⟩
      case round =>
        obtain ⟨k, hk, rfl, hall⟩ := hrel
        by_cases hlt : k < s.size
        · by_cases hn : nameB ((s[k].toNat : Nat) : Int) = true
          · have HA : Hid (((strNums s).take (k + 1)).all nameB = true) := by show _ = _; rw [all_snoc hlt, hall, hn]; rfl
            have hcl := nameByte_any ((s[k].toNat : Nat) : Int) w
            rw [hn] at hcl
            have HCL := hid hcl
            clear hall hn hcl
            go_wp2_with fail
            refine HCL.out.mono ?_
            rintro e w' ⟨rfl, rfl⟩
            go_wp2
            go_round
            case rel => exact ⟨k + 1, by omega, by go_num, HA.out⟩
            case measure => simp [intOf]; omega
          · have hn' := Bool.eq_false_iff.2 hn
            have HA : Hid ((strNums s).all nameB = false) := all_no hlt hn'
            have hcl := nameByte_any ((s[k].toNat : Nat) : Int) w
            rw [hn'] at hcl
            have HCL := hid hcl
            clear hall hn hn' hcl
            go_wp2_with fail
            refine HCL.out.mono ?_
            rintro e w' ⟨rfl, rfl⟩
            go_wp2
            go_ret
            exact ⟨ret_bool HA.out.symm, rfl⟩
        · have HA : Hid ((strNums s).all nameB = true) := by
            show _ = _
            rw [List.take_of_length_le (by rw [strNums_len]; omega)] at hall
            exact hall
          clear hall
          go_wp2
          go_ret
          exact ⟨ret_bool HA.out.symm, rfl⟩

theorem refName_any (s : ByteArray) (w : World) (hs : s.size ≤ maxLen) : Calls Tryz.prog 110 #[.string s] w fun e w' => e = .returned (.bool (nameS s)) ∧ w' = w := by
  unfold maxLen at hs
  go_enter Tryz.func110, Tryz.ntmps110
  go_wp2
  go_loop [3] (fun i => ∃ k : Nat, k ≤ s.size ∧ i = .int .i64 k ∧ ((strNums s).take k).all nameB = true) (fun i => s.size - (intOf i).toNat)
  case atStart => exact ⟨0, by omega, rfl, rfl⟩
  case round =>
    obtain ⟨k, hk, rfl, hall⟩ := hrel
    by_cases hlt : k < s.size
    · have HY : nameB ((s[k].toNat : Nat) : Int) = true → Hid (((strNums s).take (k + 1)).all nameB = true) := by intro hn; show _ = _; rw [all_snoc hlt, hall, hn]; rfl
      have HN : nameB ((s[k].toNat : Nat) : Int) = false → Hid (nameS s = false) := by intro hn; show _ = _; unfold nameS; rw [all_no hlt hn]; simp
      rcases nameB_cases ((s[k].toNat : Nat) : Int) with ⟨h, e⟩ | ⟨h, e⟩ | ⟨⟨h, h'⟩, e⟩ | ⟨⟨h, h'⟩, e⟩ | ⟨⟨h, h'⟩, e⟩ | ⟨⟨h, h'⟩, e⟩ | ⟨h, e⟩
      · have HF := HN e
        clear HY HN e hall
        have hne : ((s[k].toNat : Int) != 45) = true := by simp; omega
        go_wp2
        go_ret
        exact ⟨ret_bool HF.out.symm, rfl⟩
      · have HF := HY e
        clear HY HN e hall
        go_wp2
        go_round
        case rel => exact ⟨k + 1, by omega, by go_num, HF.out⟩
        case measure => simp [intOf]; omega
      · have HF := HN e
        clear HY HN e hall
        have hne : ((s[k].toNat : Int) != 45) = true := by simp; omega
        go_wp2
        go_ret
        exact ⟨ret_bool HF.out.symm, rfl⟩
      · have HF := HY e
        clear HY HN e hall
        go_wp2
        go_round
        case rel => exact ⟨k + 1, by omega, by go_num, HF.out⟩
        case measure => simp [intOf]; omega
      · have HF := HN e
        clear HY HN e hall
        have hne : ((s[k].toNat : Int) != 45) = true := by simp; omega
        go_wp2
        go_ret
        exact ⟨ret_bool HF.out.symm, rfl⟩
      · have HF := HY e
        clear HY HN e hall
        go_wp2
        go_round
        case rel => exact ⟨k + 1, by omega, by go_num, HF.out⟩
        case measure => simp [intOf]; omega
      · have HF := HN e
        clear HY HN e hall
        have hne : ((s[k].toNat : Int) != 45) = true := by simp; omega
        go_wp2
        go_ret
        exact ⟨ret_bool HF.out.symm, rfl⟩
    · have hall' : (strNums s).all nameB = true := by
        rw [List.take_of_length_le (by rw [strNums_len]; omega)] at hall
        exact hall
      have e0 : nameS s = (decide (1 ≤ s.size) && decide (s.size ≤ 32)) := by unfold nameS; rw [hall']; simp
      clear hall hall'
      by_cases h1 : 1 ≤ s.size
      · have h1' : (1 : Int) ≤ (s.size : Int) := by omega
        by_cases h2 : s.size ≤ 32
        · have h2' : (s.size : Int) ≤ 32 := by omega
          have HE : Hid (nameS s = true) := by show _ = _; rw [e0, decide_eq_true h1, decide_eq_true h2]; rfl
          clear e0
          go_wp2
          go_ret
          exact ⟨ret_bool HE.out.symm, rfl⟩
        · have h2' : ¬ (s.size : Int) ≤ 32 := by omega
          have HE : Hid (nameS s = false) := by show _ = _; rw [e0, decide_eq_false h2]; simp
          clear e0
          go_wp2
          go_ret
          exact ⟨ret_bool HE.out.symm, rfl⟩
      · have h1' : ¬ (1 : Int) ≤ (s.size : Int) := by omega
        have HE : Hid (nameS s = false) := by show _ = _; rw [e0, decide_eq_false h1]; rfl
        clear e0
        go_wp2
        go_ret
        exact ⟨ret_bool HE.out.symm, rfl⟩
end Go.Proofs.YtfmnbehopdmahaaGreat
/-
  A drawn region that only reads, inside a round of a range over a function: one walk of the lexical order serves every order. No function of the program is named here.
-/
namespace Go.Proofs.YtfmnbehopdmahaaGreat
open Go.RowKit

section
variable {F : Fence} {n : Nat} {P : Program} {ops : Array Oper} {Q : Exit → Act → World → Prop}
def noDefer (o : Oper) : Bool := match o.op with
  | .defer _ => false
  | _ => true
theorem noDefer_ne {o : Oper} (h : noDefer o = true) : ∀ c, o.op ≠ .defer c := by
  intro c hc
  simp [noDefer, hc] at h
theorem oper_round {o : Oper} {a : Act} {w : World} {K : Act → World → Prop} (r : Nat) (hro : F.round = none) (hd : noDefer o = true) (h : o.wpIn F n P a w K Q) : o.wpIn (F.inRound r) n P a w K Q := by
  unfold Oper.wpIn at *
  refine ⟨h.1, ?_⟩
  have h2 := h.2
  rw [hro, Oper.semAt_none] at h2
  rw [Fence.inRound_round, Oper.semAt_some r _ _ (noDefer_ne hd)]
  exact h2
theorem wpOp_round {i : Nat} {a : Act} {w : World} {K : Act → World → Prop} (r : Nat) (hro : F.round = none) (hd : ∀ (i : Nat) (o : Oper), ops[i]? = some o → noDefer o = true) (h : wpOpIn F n P ops Q i K a w) : wpOpIn (F.inRound r) n P ops Q i K a w := by
  unfold wpOpIn at *
  split
  · next h0 => simpa [h0] using h
  · next o h0 =>
    simp only [h0] at h
    split at h
    · next hw => rw [if_pos hw]; exact oper_round r hro (hd i o h0) h
    · next hw => rw [if_neg hw]; exact h
theorem wpAny_round {md : Region.Mode} (r : Nat) (hro : F.round = none) (hd : ∀ (i : Nat) (o : Oper), ops[i]? = some o → noDefer o = true) : ∀ (fuel : Nat) (listed : Array Bool) (a : Act) (w : World), wpAnyIn F n P md ops Q fuel listed a w → wpAnyIn (F.inRound r) n P md ops Q fuel listed a w
  | 0, _, _, _, h => h
  | fuel + 1, _, _, _, h => ⟨h.1, fun i hi => wpOp_round r hro hd (wpOpIn_mono (fun a' w' h' => wpAny_round r hro hd fuel _ a' w' h') (h.2 i hi))⟩
/-- A quiet region in a round, over whatever class of worlds. -/
theorem wpIn_region_round {id : Nat} {a : Act} {w : World} {l : List Oper} (C : World → Prop) (r : Nat) (hro : F.round = none) (hd : l.all noDefer = true) (hm : P.follows .mixedOrders = true) (hB : Region.lexB .any l.toArray = true) (hC : C { w with drawn := w.drawn + 1 })
    (h : wpQuietIn F n P l.toArray C (fun a' => ∀ w', C w' → Q .normal a' w') l a) : (Code.region id l.toArray true).wpIn (F.inRound r) n P Q a w := by
  simp only [Region.lexB, Bool.and_eq_true] at hB
  have hd' : ∀ (i : Nat) (o : Oper), l.toArray[i]? = some o → noDefer o = true := fun i o ho => by
    rw [List.getElem?_toArray] at ho
    exact List.all_eq_true.1 hd o (List.mem_of_getElem? ho)
  refine wpIn_region_any hm (wpAny_round r hro hd' _ _ _ _ (wpAnyIn_of_quiet (Q := fun a' => ∀ w', C w' → Q .normal a' w') hro (fun _ w' hw' h => h w' hw') _ _ _ _ hC ?_))
  have := wpAnyQIn_lex (F := F) (n := n) (C := C) (md := .any) hB.1 l.toArray.toList 0 (Array.replicate l.toArray.size false) a (by simp) (by simpa using hB.2) (by simpa using h)
  simpa using this
/-- .. over the class 'some draws'. -/
theorem wpIn_region_quiet_round {id : Nat} {a : Act} {w : World} {l : List Oper} (r : Nat) (hro : F.round = none) (hd : l.all noDefer = true) (hm : P.follows .mixedOrders = true) (hB : Region.lexB .any l.toArray = true)
    (h : wpQuietIn F n P l.toArray (fun w' => ∃ n, w' = w.drewN n) (fun a' => ∀ w', (∃ n, w' = w.drewN n) → Q .normal a' w') l a) : (Code.region id l.toArray true).wpIn (F.inRound r) n P Q a w :=
  wpIn_region_round (fun w' => ∃ n, w' = w.drewN n) r hro hd hm hB ⟨1, rfl⟩ h
/-- One operation of the lexical walk over any class. -/
theorem quiet_run {C : World → Prop} {R : Act → Prop} {o : Oper} {rest : List Oper} {a : Act} (v : Value) (hask : o.askedIn F P a C) (hw : Region.wanted o (yielded ops a.tmps) = true) (hrun : ∀ w', C w' → (execOp a.eval o).run P w' = .ok (.value v) w')
    (hK : wpQuietIn F n P ops C R rest (a.put o.dst v)) : wpQuietIn F n P ops C R (o :: rest) a := by
  refine wpQuietIn_step hask (fun K hk => ?_)
  rw [if_pos hw]
  refine ⟨v, fun w' hc => ?_, hk _ hK⟩
  unfold Oper.quietAtIn
  rw [hrun w' hc]
  exact ⟨rfl, rfl⟩
theorem quiet_call {C : World → Prop} {R : Act → Prop} {o : Oper} {rest : List Oper} {a : Act} (v : Value) (hask : o.askedIn F P a C) (hw : Region.wanted o (yielded ops a.tmps) = true) (f : FuncId) (args : Array Value) (hrun : ∀ w', C w' → (execOp a.eval o).run P w' = .ok (.enter f args) w') (hdep : F.depth.isSome = true → 1 ≤ n)
    (hcall : ∀ w', C w' → CallsIn F (n - 1) P f args w' (fun e w'' => e = .returned v ∧ C w''))
    (hK : wpQuietIn F n P ops C R rest (a.put o.dst v)) : wpQuietIn F n P ops C R (o :: rest) a := by
  refine wpQuietIn_step hask (fun K hk => ?_)
  rw [if_pos hw]
  refine ⟨v, fun w' hc => ?_, hk _ hK⟩
  unfold Oper.quietAtIn
  rw [hrun w' hc]
  exact ⟨rfl, hdep, hcall w' hc⟩
end
/-- A world in which all of W's blocks are as they were. -/
structure Beyond (W : World) where
  now : World
  is : Below W.heap.size W now
instance (W : World) : Nonempty (Beyond W) := ⟨⟨W, Below.refl _ _⟩⟩
theorem Beyond.cell {W : World} {p : Addr} {v : Value} (h : W.cell? p = some v) (hp : p.block < W.heap.size) (X : Beyond W) : X.now.cell? p = some v := (X.is.cell hp).trans h
end Go.Proofs.YtfmnbehopdmahaaGreat
/-
  Version vectors as lists of numbers: without noughts at the end, the greater and the lesser of two, which one is below. No program is named here.
-/
namespace Go.Proofs.YtfmnbehopdmahaaGreat

/-- The number of an origin. -/
def ofV (xs : List Int) (k : Int) : Int := if k < 0 ∨ (xs.length : Int) ≤ k then 0 else xs.getD k.toNat 0
theorem getD_far {xs : List Int} {k : Nat} (h : xs.length ≤ k) : xs.getD k 0 = 0 := by
  simp [List.getD, List.getElem?_eq_none h]
theorem ofV_nat (xs : List Int) (k : Nat) : ofV xs (k : Int) = xs.getD k 0 := by
  unfold ofV
  split
  · next h => rw [getD_far (by omega)]
  · simp
/-- Where f's first k numbers end, without noughts. -/
def endF (f : Nat → Int) : Nat → Nat
  | 0 => 0
  | k + 1 => if f k = 0 then endF f k else k + 1
theorem endF_le (f : Nat → Int) : ∀ k, endF f k ≤ k
  | 0 => Nat.le_refl _
  | k + 1 => by
    unfold endF
    split
    · have := endF_le f k; omega
    · exact Nat.le_refl _
theorem endF_zero (f : Nat → Int) : ∀ k i, endF f k ≤ i → i < k → f i = 0
  | 0, _, _, h => by omega
  | k + 1, i, h1, h2 => by
    unfold endF at h1
    split at h1
    · next h =>
      by_cases e : i = k
      · subst e; exact h
      · exact endF_zero f k i h1 (by omega)
    · omega
theorem endF_last (f : Nat → Int) : ∀ k, endF f k = 0 ∨ f (endF f k - 1) ≠ 0
  | 0 => .inl rfl
  | k + 1 => by
    unfold endF
    split
    · exact endF_last f k
    · right; simpa
def endOf (xs : List Int) : Nat := endF (fun i => xs.getD i 0) xs.length
/-- Without the noughts at the end. -/
def plainOf (xs : List Int) : List Int := xs.take (endOf xs)
theorem endOf_le (xs : List Int) : endOf xs ≤ xs.length := endF_le _ _
theorem plain_len (xs : List Int) : (plainOf xs).length = endOf xs := by
  unfold plainOf
  have := endOf_le xs
  simp
  omega
theorem plain_getD (xs : List Int) (i : Nat) : (plainOf xs).getD i 0 = xs.getD i 0 := by
  by_cases h : i < endOf xs
  · simp [plainOf, List.getD, List.getElem?_take_of_lt h]
  · rw [getD_far (by rw [plain_len]; omega)]
    by_cases h2 : i < xs.length
    · exact (endF_zero (fun i => xs.getD i 0) xs.length i (by unfold endOf at h; omega) h2).symm
    · rw [getD_far (by omega)]
theorem endOf_ext {a b : List Int} (h : ∀ i, a.getD i 0 = b.getD i 0) : endOf a = endOf b := by
  have key : ∀ a b : List Int, (∀ i, a.getD i 0 = b.getD i 0) → endOf a ≤ endOf b := by
    intro a b h
    rcases endF_last (fun i => a.getD i 0) a.length with h0 | h0
    · unfold endOf; rw [h0]; exact Nat.zero_le _
    · apply Nat.le_of_not_lt
      intro hlt
      apply h0
      show a.getD (endOf a - 1) 0 = 0
      rw [h]
      by_cases h2 : endOf a - 1 < b.length
      · exact endF_zero (fun i => b.getD i 0) b.length _ (by unfold endOf at hlt ⊢; omega) h2
      · rw [getD_far (by omega)]
  exact Nat.le_antisymm (key a b h) (key b a (fun i => (h i).symm))
theorem plain_ext {a b : List Int} (h : ∀ i, a.getD i 0 = b.getD i 0) : plainOf a = plainOf b := by
  have he := endOf_ext h
  apply List.ext_getElem
  · rw [plain_len, plain_len, he]
  · intro i h1 h2
    have := h i
    have e1 := plain_getD a i
    have e2 := plain_getD b i
    rw [← this, ← e1] at e2
    simpa [List.getD, List.getElem?_eq_getElem h1, List.getElem?_eq_getElem h2] using e2.symm
theorem plain_mem {xs : List Int} {p : Int → Prop} (h : ∀ x ∈ xs, p x) : ∀ x ∈ plainOf xs, p x := fun x hx => h x (List.mem_of_mem_take hx)

/-- Two vectors, place by place. -/
def joinOf (f : Int → Int → Int) (a b : List Int) : List Int := (List.range (max a.length b.length)).map fun i => f (a.getD i 0) (b.getD i 0)
theorem join_len (f : Int → Int → Int) (a b : List Int) : (joinOf f a b).length = max a.length b.length := by simp [joinOf]
theorem join_getD {f : Int → Int → Int} (hf : f 0 0 = 0) (a b : List Int) (i : Nat) : (joinOf f a b).getD i 0 = f (a.getD i 0) (b.getD i 0) := by
  by_cases h : i < max a.length b.length
  · simp [joinOf, List.getD, h]
  · rw [getD_far (by rw [join_len]; omega), getD_far (xs := a) (by omega), getD_far (xs := b) (by omega), hf]
def mergeOf (a b : List Int) : List Int := plainOf (joinOf (fun x y => max x y) a b)
def meetOf (a b : List Int) : List Int := plainOf (joinOf (fun x y => min x y) a b)
theorem merge_getD (a b : List Int) (i : Nat) : (mergeOf a b).getD i 0 = max (a.getD i 0) (b.getD i 0) := by
  unfold mergeOf
  rw [plain_getD, join_getD (by simp)]
theorem meet_getD (a b : List Int) (i : Nat) : (meetOf a b).getD i 0 = min (a.getD i 0) (b.getD i 0) := by
  unfold meetOf
  rw [plain_getD, join_getD (by simp)]
theorem ofV_merge (a b : List Int) (k : Int) : ofV (mergeOf a b) k = max (ofV a k) (ofV b k) := by
  by_cases h : k < 0
  · simp [ofV, h]
  · obtain ⟨n, rfl⟩ := Int.eq_ofNat_of_zero_le (by omega : 0 ≤ k)
    simp only [ofV_nat, merge_getD]
theorem ofV_meet (a b : List Int) (k : Int) : ofV (meetOf a b) k = min (ofV a k) (ofV b k) := by
  by_cases h : k < 0
  · simp [ofV, h]
  · obtain ⟨n, rfl⟩ := Int.eq_ofNat_of_zero_le (by omega : 0 ≤ k)
    simp only [ofV_nat, meet_getD]
/-- Each of a's numbers is at most b's. -/
def BelowV (a b : List Int) : Prop := ∀ i, i < max a.length b.length → a.getD i 0 ≤ b.getD i 0
instance (a b : List Int) : Decidable (BelowV a b) := by unfold BelowV; infer_instance
theorem belowV_iff {a b : List Int} : BelowV a b ↔ ∀ i, a.getD i 0 ≤ b.getD i 0 := by
  constructor
  · intro h i
    by_cases hi : i < max a.length b.length
    · exact h i hi
    · rw [getD_far (xs := a) (by omega), getD_far (xs := b) (by omega)]
      exact Int.le_refl _
  · exact fun h i _ => h i
def cmpOf (a b : List Int) : Int := if BelowV a b then (if BelowV b a then 0 else -1) else (if BelowV b a then 1 else 2)
/-- Has a dot. -/
def HasV (xs : List Int) (o s : Int) : Prop := 1 ≤ s ∧ s ≤ ofV xs o
instance (xs : List Int) (o s : Int) : Decidable (HasV xs o s) := by unfold HasV; infer_instance
/-- May be one. -/
def MayV (xs : List Int) : Prop := xs.length ≤ 7 ∧ ∀ x ∈ xs, 0 ≤ x ∧ x ≤ 2147483647
instance (xs : List Int) : Decidable (MayV xs) := by unfold MayV; infer_instance
theorem eq_iff_getD {a b : List Int} (ha : plainOf a = a) (hb : plainOf b = b) : a = b ↔ ∀ i, a.getD i 0 = b.getD i 0 := by
  constructor
  · rintro rfl i; rfl
  · intro h
    rw [← ha, ← hb]
    exact plain_ext h
theorem plain_plain (a : List Int) : plainOf (plainOf a) = plainOf a := plain_ext (plain_getD a)
theorem plain_merge (a b : List Int) : plainOf (mergeOf a b) = mergeOf a b := plain_plain _
theorem plain_meet (a b : List Int) : plainOf (meetOf a b) = meetOf a b := plain_plain _
end Go.Proofs.YtfmnbehopdmahaaGreat
/-
  What stands of events, of each dot the first one, how many of an article: as lists. No program is named here.
-/
namespace Go.Proofs.YtfmnbehopdmahaaGreat

/-- An event. -/
structure Ev where
  o : Int
  s : Int
  deps : List Int
  cart : ByteArray
  epoch : Int
  sku : ByteArray
  qty : Int
  clears : Bool
deriving DecidableEq
def zeroEv : Ev := ⟨0, 0, [], ByteArray.empty, 0, ByteArray.empty, 0, false⟩
/-- e goes by f. -/
def Goes (e f : Ev) : Prop := f.clears = true ∧ f.cart = e.cart ∧ f.sku = e.sku ∧ HasV f.deps e.o e.s ∧ e ≠ f
instance (e f : Ev) : Decidable (Goes e f) := by unfold Goes; infer_instance
/-- Nothing of l lets e go. -/
def Stands (l : List Ev) (e : Ev) : Prop := ∀ f ∈ l, ¬ Goes e f
instance (l : List Ev) (e : Ev) : Decidable (Stands l e) := by unfold Stands; infer_instance
def standOf (l : List Ev) : List Ev := l.filter fun e => decide (Stands l e)

/-- Two clearing events. -/
structure Tw where
  first : Ev
  second : Ev
def zeroTw : Tw := ⟨zeroEv, zeroEv⟩
def twWith (t : Tw) (f : Ev) (o : Int) : Tw :=
  if f.o = o ∧ f = t.first then t else if ofV t.first.deps o < ofV f.deps o then ⟨f, t.first⟩ else if ofV t.second.deps o < ofV f.deps o then ⟨t.first, f⟩ else t
/-- Does f count for that sight? -/
def Counts (c k : ByteArray) (o : Int) (f : Ev) : Prop := f.clears = true ∧ f.cart = c ∧ f.sku = k ∧ 0 < ofV f.deps o
instance (c k : ByteArray) (o : Int) (f : Ev) : Decidable (Counts c k o f) := by unfold Counts; infer_instance
def twOf (c k : ByteArray) (o : Int) (l : List Ev) : Tw := l.foldl (fun t f => if Counts c k o f then twWith t f o else t) zeroTw
theorem twOf_snoc (c k : ByteArray) (o : Int) (l : List Ev) (f : Ev) : twOf c k o (l ++ [f]) = if Counts c k o f then twWith (twOf c k o l) f o else twOf c k o l := by
  simp [twOf, List.foldl_append]
theorem ofV_nil (o : Int) : ofV [] o = 0 := by
  unfold ofV
  split
  · rfl
  · simp

structure TwInv (c k : ByteArray) (o : Int) (l : List Ev) (t : Tw) : Prop where
  memF : t.first = zeroEv ∨ t.first ∈ l ∧ Counts c k o t.first
  memS : t.second = zeroEv ∨ t.second ∈ l ∧ Counts c k o t.second
  top : ∀ f ∈ l, Counts c k o f → ofV f.deps o ≤ ofV t.first.deps o
  sec : t.first.o = o → ∀ f ∈ l, Counts c k o f → f ≠ t.first → ofV f.deps o ≤ ofV t.second.deps o
  dif : t.first.o = o → t.second ≠ t.first ∨ ofV t.second.deps o ≤ 0
theorem twInv_nil (c k : ByteArray) (o : Int) : TwInv c k o [] zeroTw :=
  ⟨.inl rfl, .inl rfl, fun f hf => (by cases hf), fun _ f hf => (by cases hf), fun _ => .inr (by show ofV [] o ≤ 0; rw [ofV_nil]; exact Int.le_refl _)⟩
theorem twInv_skip {c k : ByteArray} {o : Int} {l : List Ev} {t : Tw} (h : TwInv c k o l t) (f : Ev) (hf : ¬ Counts c k o f) : TwInv c k o (l ++ [f]) t := by
  refine ⟨h.memF.imp_right fun x => ⟨List.mem_append_left _ x.1, x.2⟩, h.memS.imp_right fun x => ⟨List.mem_append_left _ x.1, x.2⟩, fun g hg hc => ?_, fun ho g hg hc hne => ?_, h.dif⟩
  · rcases List.mem_append.1 hg with hg | hg
    · exact h.top g hg hc
    · obtain rfl := List.mem_singleton.1 hg
      exact absurd hc hf
  · rcases List.mem_append.1 hg with hg | hg
    · exact h.sec ho g hg hc hne
    · obtain rfl := List.mem_singleton.1 hg
      exact absurd hc hf
theorem twInv_step {c k : ByteArray} {o : Int} {l : List Ev} {t : Tw} (h : TwInv c k o l t) (f : Ev) (hf : Counts c k o f) : TwInv c k o (l ++ [f]) (twWith t f o) := by
  have hmf : f ∈ l ++ [f] := List.mem_append_right _ (List.mem_singleton.2 rfl)
  have hF := h.memF.imp_right fun (x : t.first ∈ l ∧ Counts c k o t.first) => (⟨List.mem_append_left [f] x.1, x.2⟩ : t.first ∈ l ++ [f] ∧ _)
  have hS := h.memS.imp_right fun (x : t.second ∈ l ∧ Counts c k o t.second) => (⟨List.mem_append_left [f] x.1, x.2⟩ : t.second ∈ l ++ [f] ∧ _)
  unfold twWith
  split
  · next h1 =>
    refine ⟨hF, hS, fun g hg hc => ?_, fun ho g hg hc hne => ?_, h.dif⟩
    · rcases List.mem_append.1 hg with hg | hg
      · exact h.top g hg hc
      · obtain rfl := List.mem_singleton.1 hg
        rw [← h1.2]
        exact Int.le_refl _
    · rcases List.mem_append.1 hg with hg | hg
      · exact h.sec ho g hg hc hne
      · obtain rfl := List.mem_singleton.1 hg
        exact absurd h1.2 hne
  · next h1 =>
    split
    · next h2 =>
      refine ⟨.inr ⟨hmf, hf⟩, hF, fun g hg hc => ?_, fun ho g hg hc hne => ?_, fun _ => .inl fun e => ?_⟩
      · rcases List.mem_append.1 hg with hg | hg
        · exact Int.le_trans (h.top g hg hc) (Int.le_of_lt h2)
        · obtain rfl := List.mem_singleton.1 hg
          exact Int.le_refl _
      · rcases List.mem_append.1 hg with hg | hg
        · exact h.top g hg hc
        · obtain rfl := List.mem_singleton.1 hg
          exact absurd rfl hne
      · simp only at e
        rw [e] at h2
        exact absurd h2 (Int.lt_irrefl _)
    · next h2 =>
      split
      · next h3 =>
        refine ⟨hF, .inr ⟨hmf, hf⟩, fun g hg hc => ?_, fun ho g hg hc hne => ?_, fun ho => .inl fun e => ?_⟩
        · rcases List.mem_append.1 hg with hg | hg
          · exact h.top g hg hc
          · obtain rfl := List.mem_singleton.1 hg
            exact Int.not_lt.1 h2
        · rcases List.mem_append.1 hg with hg | hg
          · exact Int.le_trans (h.sec ho g hg hc hne) (Int.le_of_lt h3)
          · obtain rfl := List.mem_singleton.1 hg
            exact Int.le_refl _
        · simp only at e ho
          exact h1 ⟨by rw [e]; exact ho, e⟩
      · next h3 =>
        refine ⟨hF, hS, fun g hg hc => ?_, fun ho g hg hc hne => ?_, h.dif⟩
        · rcases List.mem_append.1 hg with hg | hg
          · exact h.top g hg hc
          · obtain rfl := List.mem_singleton.1 hg
            exact Int.not_lt.1 h2
        · rcases List.mem_append.1 hg with hg | hg
          · exact h.sec ho g hg hc hne
          · obtain rfl := List.mem_singleton.1 hg
            exact Int.not_lt.1 h3
theorem twInv_of (c k : ByteArray) (o : Int) : ∀ (r l : List Ev) (t : Tw), TwInv c k o l t → TwInv c k o (l ++ r) (r.foldl (fun t f => if Counts c k o f then twWith t f o else t) t)
  | [], l, t, h => by simpa using h
  | f :: r, l, t, h => by
    rw [List.foldl_cons, show l ++ f :: r = (l ++ [f]) ++ r by simp]
    refine twInv_of c k o r _ _ ?_
    split
    · next hf => exact twInv_step h f hf
    · next hf => exact twInv_skip h f hf
theorem tw_inv (c k : ByteArray) (o : Int) (l : List Ev) : TwInv c k o l (twOf c k o l) := by
  have := twInv_of c k o l [] zeroTw (twInv_nil c k o)
  rw [List.nil_append] at this
  exact this
theorem goes_zero (e : Ev) : ¬ Goes e zeroEv := fun h => by
  have := h.1
  cases this
/-- An event goes by one of l just where it goes by one of the two. -/
theorem stands_two (l : List Ev) (e : Ev) : Stands l e ↔ ¬ Goes e (twOf e.cart e.sku e.o l).first ∧ ¬ Goes e (twOf e.cart e.sku e.o l).second := by
  have hI := tw_inv e.cart e.sku e.o l
  constructor
  · intro h
    constructor
    · rcases hI.memF with hz | ⟨hm, _⟩
      · rw [hz]; exact goes_zero e
      · exact h _ hm
    · rcases hI.memS with hz | ⟨hm, _⟩
      · rw [hz]; exact goes_zero e
      · exact h _ hm
  · rintro ⟨h1, h2⟩ f hf hg
    obtain ⟨g1, g2, g3, g4, g5⟩ := hg
    have hv : 1 ≤ e.s ∧ e.s ≤ ofV f.deps e.o := g4
    have hc : Counts e.cart e.sku e.o f := ⟨g1, g2, g3, by omega⟩
    have ht := hI.top f hf hc
    have hz0 : ofV zeroEv.deps e.o = 0 := ofV_nil _
    have hF : Counts e.cart e.sku e.o (twOf e.cart e.sku e.o l).first := by
      rcases hI.memF with hz | ⟨_, h⟩
      · rw [hz] at ht
        omega
      · exact h
    by_cases he : e = (twOf e.cart e.sku e.o l).first
    · have ho : (twOf e.cart e.sku e.o l).first.o = e.o := by rw [← he]
      have hs := hI.sec ho f hf hc (fun x => g5 (he.trans x.symm))
      have hS : Counts e.cart e.sku e.o (twOf e.cart e.sku e.o l).second := by
        rcases hI.memS with hz | ⟨_, h⟩
        · rw [hz] at hs
          omega
        · exact h
      have hd : (twOf e.cart e.sku e.o l).second ≠ (twOf e.cart e.sku e.o l).first := by
        rcases hI.dif ho with h | h
        · exact h
        · omega
      exact h2 ⟨hS.1, hS.2.1, hS.2.2.1, ⟨hv.1, by omega⟩, fun x => hd (x.symm.trans he)⟩
    · exact h1 ⟨hF.1, hF.2.1, hF.2.2.1, ⟨hv.1, by omega⟩, he⟩

/-! ### Of each dot the first one -/
def firstsFrom (met : List (Int × Int)) : List Ev → List Ev
  | [] => []
  | e :: r => if (e.o, e.s) ∈ met then firstsFrom met r else e :: firstsFrom ((e.o, e.s) :: met) r
/-- How many of an article events have. -/
def qtyOf (k : ByteArray) : List Ev → Int
  | [] => 0
  | e :: r => (if e.sku = k then e.qty else 0) + qtyOf k r
def ofCart (c : ByteArray) (l : List Ev) : List Ev := l.filter fun e => decide (e.cart = c)
/-- The events that count for a cart. -/
def countOf (c : ByteArray) (l : List Ev) : List Ev := firstsFrom [] (standOf (ofCart c l))
/-- How many of an article a cart has. -/
def linesQ (c : ByteArray) (l : List Ev) (k : ByteArray) : Int := qtyOf k (countOf c l)
theorem qtyOf_append (k : ByteArray) (a b : List Ev) : qtyOf k (a ++ b) = qtyOf k a + qtyOf k b := by
  induction a with
  | nil => simp [qtyOf]
  | cons x r ih => simp only [List.cons_append, qtyOf, ih]; omega
theorem qtyOf_perm {k : ByteArray} {a b : List Ev} (h : a.Perm b) : qtyOf k a = qtyOf k b := by
  induction h with
  | nil => rfl
  | cons x _ ih => simp only [qtyOf, ih]
  | swap x y l => simp only [qtyOf]; omega
  | trans _ _ h1 h2 => exact h1.trans h2
theorem firstsFrom_sub : ∀ (l : List Ev) (met : List (Int × Int)), ∀ e ∈ firstsFrom met l, e ∈ l
  | [], _, e, h => by simp [firstsFrom] at h
  | x :: r, met, e, h => by
    unfold firstsFrom at h
    split at h
    · exact List.mem_cons_of_mem _ (firstsFrom_sub r _ e h)
    · rcases List.mem_cons.1 h with rfl | h
      · exact List.mem_cons_self ..
      · exact List.mem_cons_of_mem _ (firstsFrom_sub r _ e h)
theorem firstsFrom_dots : ∀ (l : List Ev) (met : List (Int × Int)), ((firstsFrom met l).map fun e => (e.o, e.s)).Nodup ∧ ∀ d ∈ (firstsFrom met l).map (fun e => (e.o, e.s)), d ∉ met
  | [], _ => by simp [firstsFrom]
  | x :: r, met => by
    unfold firstsFrom
    split
    · exact firstsFrom_dots r met
    · next hx =>
      obtain ⟨h1, h2⟩ := firstsFrom_dots r ((x.o, x.s) :: met)
      refine ⟨?_, fun d hd => ?_⟩
      · rw [List.map_cons, List.nodup_cons]
        exact ⟨fun hm => h2 _ hm (List.mem_cons_self ..), h1⟩
      · rw [List.map_cons, List.mem_cons] at hd
        rcases hd with rfl | hd
        · exact hx
        · exact fun hm => h2 d hd (List.mem_cons_of_mem _ hm)
theorem firstsFrom_has : ∀ (l : List Ev) (met : List (Int × Int)), ∀ e ∈ l, (e.o, e.s) ∈ met ∨ ∃ f ∈ firstsFrom met l, f.o = e.o ∧ f.s = e.s
  | [], _, e, h => by cases h
  | x :: r, met, e, h => by
    unfold firstsFrom
    split
    · next hx =>
      rcases List.mem_cons.1 h with rfl | h
      · exact .inl hx
      · exact firstsFrom_has r met e h
    · next hx =>
      rcases List.mem_cons.1 h with rfl | h
      · exact .inr ⟨_, List.mem_cons_self .., rfl, rfl⟩
      · rcases firstsFrom_has r ((x.o, x.s) :: met) e h with h1 | ⟨f, hf, h1⟩
        · rcases List.mem_cons.1 h1 with h1 | h1
          · simp only [Prod.mk.injEq] at h1
            exact .inr ⟨x, List.mem_cons_self .., h1.1.symm, h1.2.symm⟩
          · exact .inl h1
        · exact .inr ⟨f, List.mem_cons_of_mem _ hf, h1⟩
/-- Has each dot one event? -/
def OneEach (l : List Ev) : Prop := ∀ e ∈ l, ∀ f ∈ l, e.o = f.o → e.s = f.s → e = f
theorem OneEach.sub {l m : List Ev} (h : OneEach l) (hm : ∀ e ∈ m, e ∈ l) : OneEach m := fun e he f hf => h e (hm e he) f (hm f hf)
theorem firsts_nodup (l : List Ev) (met : List (Int × Int)) : (firstsFrom met l).Nodup := by
  have := (firstsFrom_dots l met).1
  rw [List.nodup_iff_pairwise_ne, List.pairwise_map] at this
  rw [List.nodup_iff_pairwise_ne]
  exact this.imp fun h e => h (by rw [e])
theorem firsts_mem {l : List Ev} (h : OneEach l) (e : Ev) : e ∈ firstsFrom [] l ↔ e ∈ l := by
  refine ⟨firstsFrom_sub l [] e, fun he => ?_⟩
  rcases firstsFrom_has l [] e he with h0 | ⟨f, hf, h1, h2⟩
  · cases h0
  · have := h f (firstsFrom_sub l [] f hf) e he h1 h2
    rw [← this]
    exact hf
theorem ofCart_mem {c : ByteArray} {l : List Ev} {e : Ev} : e ∈ ofCart c l ↔ e ∈ l ∧ e.cart = c := by simp [ofCart]
theorem standOf_mem {l : List Ev} {e : Ev} : e ∈ standOf l ↔ e ∈ l ∧ Stands l e := by simp [standOf]
/-- Whether a cart's event counts: nothing of l lets it go. -/
theorem count_mem {c : ByteArray} {l : List Ev} (h : OneEach l) (e : Ev) : e ∈ countOf c l ↔ e ∈ l ∧ e.cart = c ∧ Stands l e := by
  unfold countOf
  rw [firsts_mem (h.sub fun e he => (ofCart_mem.1 (standOf_mem.1 he).1).1), standOf_mem, ofCart_mem]
  constructor
  · rintro ⟨⟨h1, h2⟩, h3⟩
    exact ⟨h1, h2, fun f hf hg => h3 f (ofCart_mem.2 ⟨hf, hg.2.1.trans h2⟩) hg⟩
  · rintro ⟨h1, h2, h3⟩
    exact ⟨⟨h1, h2⟩, fun f hf hg => h3 f (ofCart_mem.1 hf).1 hg⟩
theorem count_nodup (c : ByteArray) (l : List Ev) : (countOf c l).Nodup := firsts_nodup _ _
theorem perm_of_mem {a b : List Ev} (ha : a.Nodup) (hb : b.Nodup) (h : ∀ e, e ∈ a ↔ e ∈ b) : a.Perm b := (List.perm_ext_iff_of_nodup ha hb).2 h
/-- Lines hang on the set of events alone. -/
theorem linesQ_set {a b : List Ev} (ha : OneEach a) (h : ∀ e, e ∈ a ↔ e ∈ b) (c k : ByteArray) : linesQ c a k = linesQ c b k := by
  have hb : OneEach b := ha.sub fun e he => (h e).2 he
  refine qtyOf_perm (perm_of_mem (count_nodup _ _) (count_nodup _ _) fun e => ?_)
  rw [count_mem ha, count_mem hb, h]
  constructor
  · rintro ⟨h1, h2, h3⟩
    exact ⟨h1, h2, fun f hf => h3 f ((h f).2 hf)⟩
  · rintro ⟨h1, h2, h3⟩
    exact ⟨h1, h2, fun f hf => h3 f ((h f).1 hf)⟩
theorem qtyOf_nonneg {k : ByteArray} : ∀ {l : List Ev}, (∀ e ∈ l, 0 ≤ e.qty) → 0 ≤ qtyOf k l
  | [], _ => Int.le_refl _
  | x :: r, h => by
    have h1 := h x (List.mem_cons_self ..)
    have h2 := qtyOf_nonneg (k := k) (l := r) fun e he => h e (List.mem_cons_of_mem _ he)
    unfold qtyOf
    split <;> omega
theorem qtyOf_le {k : ByteArray} : ∀ {l : List Ev}, (∀ e ∈ l, 0 ≤ e.qty ∧ e.qty ≤ 1000) → qtyOf k l ≤ 1000 * (l.length : Int)
  | [], _ => Int.le_refl _
  | x :: r, h => by
    have h1 := h x (List.mem_cons_self ..)
    have h2 := qtyOf_le (k := k) (l := r) fun e he => h e (List.mem_cons_of_mem _ he)
    unfold qtyOf
    rw [List.length_cons]
    split <;> omega
end Go.Proofs.YtfmnbehopdmahaaGreat
