/-
  The writers of numbers: codec.ownCopy, codec.appendUint, codec.Uint and pannierref01.Uint write the one form 'enc' behind what was there, in memory of their own, for every uint64; conditions: the lengths stay below 2^47.
-/
import Derived.Test.YtcammngbhnhjjaaRows
import Derived.Test.YtcammngbhnhjjaaApps
import Derived.Test.YtcammngbhnhjjaaBase
import Derived.Test.YtcammngbhnhjjaaVvMath
namespace Go.Proofs.Ytcammngbhnhjjaa
open Go.RowKit

theorem Try.info5 : (Try.prog.info? 5).map (fun i => (i.zero, i.size, i.bytes)) = some (some (.int .u8 0), 1, 1) := by kernel_rfl

theorem Try.size5 : ∀ w, (Go.sizeOf 5).run Try.prog w = .ok 1 w := by
  intro w
  obtain ⟨i0, hi, hz0, hz1, hz2⟩ := info_parts Try.info5
  simp [Go.sizeOf, typeInfo, hi, hz1]

theorem appendUint_any (v : Value) (n : Nat) (bs : List Int) (x B : Nat) (w : World) (hx : x < 18446744073709551616) (hown : w.ownsRow B 5 1 v n (nums bs)) (hB : B ≤ w.heap.size) (hn : n ≤ 140737488355000) :
    Calls Try.prog 81 #[v, .int .u64 x] w fun e w' => ∃ v', e = .returned v' ∧ w'.ownsRow B 5 1 v' (n + (enc x).length) (nums (bs ++ enc x)) ∧ Grew w w' v v' := by
  obtain ⟨i0, hi, hz0, hz1, hz2⟩ := info_parts Try.info5
  go_enter Try.func81, Try.ntmps81
  go_wp2
  go_loopw [0, 1] (fun b t wr => ∃ (y m : Nat) (cs : List Int), t = .int .u64 y ∧ y < 18446744073709551616 ∧ wr.ownsRow B 5 1 b m (nums cs) ∧ m ≤ n + 10 ∧ cs ++ enc y = bs ++ enc x ∧ Grew w wr v b) (fun _ t _ => (intOf t).toNat)
  case atStart => exact ⟨x, n, bs, rfl, hx, hown, by omega, rfl, Grew.refl _ _⟩
  case round =>
    obtain ⟨y, m, cs, rfl, hy, hownr, hm, hcs, hgr⟩ := hrel
    have hl := congrArg List.length hcs
    simp only [List.length_append] at hl
    have hcl : cs.length = m := by simpa [nums] using hownr.1
    have hbl : bs.length = n := by simpa [nums] using hown.1
    have h10 := enc_le10 hx
    have hyp := enc_pos y
    have hsz : w.heap.size ≤ wr.heap.size := hgr.1.size
    have HC : Hid (cs ++ enc y = bs ++ enc x) := hcs
    have HG : Hid (Grew w wr v u0) := hgr
    have hsum : m + (enc y).length ≤ n + 10 := by omega
    clear hcs hgr hcl hl
    by_cases hlt : 128 ≤ y
    · have hy1 : (127 : Int) < (y : Int) := by omega
      have ha := and127 hy
      have ho := or128 (c := (y : Int) % 128) (by omega) (by omega)
      go_wp2_with (at_builtin; refine wpList_append_own_at _ rfl _ _ 67 rfl B 5 i0 (.int .u8 0) 1 1 Try.underlying67 hi hz0 hz1 hz2 rfl (by decide) _ _ _ rfl (hownr.alloc _) ⟨wr.heap.size, 0, none⟩ 1 1 [.int .u8 ((y : Int) % 128 + 128)] rfl rfl (cell_one_new _ _ _) (one_int _ _) (by unfold maxLen; omega) (by omega) (by simp; omega) ?_)
      · intro v' w1 hown' hgrow _ hat
        have hg2 : Grew w w1 v v' := HG.out.trans ((Grew.alloc _ _ _).trans (Grew.of hgrow (by simpa using hat)))
        have HG2 : Hid (Grew w w1 v v') := hg2
        have HO : Hid (w1.ownsRow B 5 1 v' (m + 1) (nums (cs ++ [(y : Int) % 128 + 128]))) := by rw [nums_append]; exact hown'
        clear hown' hgrow hat hg2 HG hownr
        go_wp2
        go_roundw
        case rel => exact ⟨y / 128, m + 1, cs ++ [(y : Int) % 128 + 128], by go_num, by omega, HO.out, by omega, by rw [← HC.out, enc_ge hlt, List.append_assoc]; rfl, HG2.out⟩
        case measure => simp [intOf]; omega
    · have hy1 : ¬ (127 : Int) < (y : Int) := by omega
      go_wp2_with (at_builtin; refine wpList_append_own_at _ rfl _ _ 67 rfl B 5 i0 (.int .u8 0) 1 1 Try.underlying67 hi hz0 hz1 hz2 rfl (by decide) _ _ _ rfl (hownr.alloc _) ⟨wr.heap.size, 0, none⟩ 1 1 [.int .u8 (y : Int)] rfl rfl (cell_one_new _ _ _) (one_int _ _) (by unfold maxLen; omega) (by omega) (by simp; omega) ?_)
      · intro v' w1 hown' hgrow _ hat
        have hg2 : Grew w w1 v v' := HG.out.trans ((Grew.alloc _ _ _).trans (Grew.of hgrow (by simpa using hat)))
        have he : bs ++ enc x = cs ++ [(y : Int)] := by rw [← HC.out, enc_lt (by omega)]
        have hlen : n + (enc x).length = m + 1 := by
          have h2 := congrArg List.length he
          have h3 := hownr.1
          simp [nums] at h2 h3
          omega
        have HO : Hid (w1.ownsRow B 5 1 v' (n + (enc x).length) (nums (bs ++ enc x))) := by rw [he, nums_append, hlen]; exact hown'
        have HG2 : Hid (Grew w w1 v v') := hg2
        clear hown' hgrow hat hg2 HG hownr he hlen
        go_wp2
        go_ret
        exact ⟨v', rfl, HO.out, HG2.out⟩


/-- The same, in words that a caller wants who holds nothing from B on but this row. -/
theorem appendUint_own (v : Value) (n : Nat) (bs : List Int) (x : Int) (B : Nat) (w : World) (h0 : 0 ≤ x) (hx : x < 18446744073709551616) (hown : w.ownsRow B 5 1 v n (nums bs)) (hB : B ≤ w.heap.size) (hn : n ≤ 140737488355000) :
    Calls Try.prog 81 #[v, .int .u64 x] w fun e w' => ∃ v', e = .returned v' ∧ w'.ownsRow B 5 1 v' (n + (enc x.toNat).length) (nums (bs ++ enc x.toNat)) ∧ Below B w w' := by
  obtain ⟨y, rfl⟩ := Int.eq_ofNat_of_zero_le h0
  refine (appendUint_any v n bs y B w (by omega) hown hB hn).mono ?_
  rintro e w' ⟨v', rfl, h1, h2⟩
  exact ⟨v', rfl, by simpa using h1, h2.below (Below.refl _ _) hB (own_lt hown)⟩

end Go.Proofs.Ytcammngbhnhjjaa
/-
  The writers of texts: codec.appendText, codec.Text and pannierref01.Text write how many bytes a text has, and these, behind what was there; conditions: the lengths stay below 2^47.
-/
namespace Go.Proofs.Ytcammngbhnhjjaa
open Go.RowKit

/-- A text's bytes: how many, and these. -/
def encText (s : ByteArray) : List Int := enc s.size ++ strNums s
theorem encText_len (s : ByteArray) : (encText s).length = (enc s.size).length + s.size := by simp [encText, strNums_len]
theorem encText_byte (s : ByteArray) : AllB (encText s) := AllB.append (enc_byte _) (strNums_byte s)

theorem appendText_own (v : Value) (n : Nat) (bs : List Int) (s : ByteArray) (B : Nat) (w : World) (hown : w.ownsRow B 5 1 v n (nums bs)) (hB : B ≤ w.heap.size) (hn : n + s.size ≤ 140737488355000) :
    Calls Try.prog 65 #[v, .string s] w fun e w' => ∃ v', e = .returned v' ∧ w'.ownsRow B 5 1 v' (n + (encText s).length) (nums (bs ++ encText s)) ∧ Below B w w' := by
  obtain ⟨i0, hi, hz0, hz1, hz2⟩ := info_parts Try.info5
  have h10 := enc_le10 (x := s.size) (by omega)
  have HO : Hid (w.ownsRow B 5 1 v n (nums bs)) := hown
  clear hown
  go_enter Try.func65, Try.ntmps65
  go_wp2_with fail
  refine (appendUint_own v n bs s.size B w (by omega) (by omega) HO.out hB (by omega)).mono ?_
  rintro e w1 ⟨v1, rfl, hown1, hb1⟩
  rw [Int.toNat_natCast] at hown1
  have hs1 : w.heap.size ≤ w1.heap.size := hb1.size
  have HB : Hid (Below B w w1) := hb1
  have HL : Hid (∀ k, v1.ownBlock = some k → B ≤ k) := own_lt hown1
  clear hb1
  go_wp2_with (at_builtin; refine Lib.wpList_append_own_string _ rfl _ _ 67 9 rfl B 5 i0 Try.underlying67 Try.underlying9 hi hz0 hz1 hz2 _ _ _ rfl hown1 s rfl (by unfold maxLen; omega) (by omega) (by omega) ?_)
  intro v' w2 hown' hgrow _
  have HB2 : Hid (Below B w w2) := HB.out.grown hgrow (by omega) HL.out
  have HO2 : Hid (w2.ownsRow B 5 1 v' (n + (encText s).length) (nums (bs ++ encText s))) := by
    rw [encText_len, encText, ← List.append_assoc, nums_append, strNums_cells, ← Nat.add_assoc]
    exact hown'
  clear hown' hgrow hown1
  go_wp2
  go_ret
  exact ⟨v', rfl, HO2.out, HB2.out⟩

end Go.Proofs.Ytcammngbhnhjjaa
/-
  codec.Name and pannierref01.Name: both tell of any string whether it may be a name ('nameS': 1 to 32 bytes, each a letter from a to z, a digit or the sign 45), and write nothing.
-/
namespace Go.Proofs.Ytcammngbhnhjjaa
open Go.RowKit

/-- May c be a name's byte? -/
def nameB (c : Int) : Bool := (decide (97 ≤ c) && decide (c ≤ 122)) || (decide (48 ≤ c) && decide (c ≤ 57)) || c == 45
/-- May s be a name? -/
def nameS (s : ByteArray) : Bool := decide (1 ≤ s.size) && decide (s.size ≤ 32) && (strNums s).all nameB

theorem nameB_cases (c : Int) : (c < 45 ∧ nameB c = false) ∨ (c = 45 ∧ nameB c = true) ∨ ((45 < c ∧ c < 48) ∧ nameB c = false) ∨ ((48 ≤ c ∧ c ≤ 57) ∧ nameB c = true) ∨ ((57 < c ∧ c < 97) ∧ nameB c = false) ∨ ((97 ≤ c ∧ c ≤ 122) ∧ nameB c = true) ∨ (122 < c ∧ nameB c = false) := by
  have h45 : ∀ b : Bool, c ≠ 45 → (b || c == 45) = b := by
    intro b h
    rw [beq_eq_false_iff_ne.2 h, Bool.or_false]
  by_cases h1 : c < 45
  · refine .inl ⟨h1, ?_⟩
    unfold nameB
    rw [h45 _ (by omega), decide_eq_false (p := 97 ≤ c) (by omega), decide_eq_false (p := 48 ≤ c) (by omega)]
    rfl
  by_cases h2 : c = 45
  · subst h2
    exact .inr (.inl ⟨rfl, rfl⟩)
  by_cases h3 : c < 48
  · refine .inr (.inr (.inl ⟨⟨by omega, h3⟩, ?_⟩))
    unfold nameB
    rw [h45 _ (by omega), decide_eq_false (p := 97 ≤ c) (by omega), decide_eq_false (p := 48 ≤ c) (by omega)]
    rfl
  by_cases h4 : c ≤ 57
  · refine .inr (.inr (.inr (.inl ⟨⟨by omega, h4⟩, ?_⟩)))
    unfold nameB
    rw [h45 _ (by omega), decide_eq_true (p := 48 ≤ c) (by omega), decide_eq_true (p := c ≤ 57) h4]
    simp
  by_cases h5 : c < 97
  · refine .inr (.inr (.inr (.inr (.inl ⟨⟨by omega, h5⟩, ?_⟩))))
    unfold nameB
    rw [h45 _ (by omega), decide_eq_false (p := 97 ≤ c) (by omega), decide_eq_false (p := c ≤ 57) h4]
    simp
  by_cases h6 : c ≤ 122
  · refine .inr (.inr (.inr (.inr (.inr (.inl ⟨⟨by omega, h6⟩, ?_⟩)))))
    unfold nameB
    rw [h45 _ (by omega), decide_eq_true (p := 97 ≤ c) (by omega), decide_eq_true (p := c ≤ 122) h6]
    simp
  · refine .inr (.inr (.inr (.inr (.inr (.inr ⟨by omega, ?_⟩)))))
    unfold nameB
    rw [h45 _ (by omega), decide_eq_false (p := c ≤ 122) h6, decide_eq_false (p := c ≤ 57) h4]
    simp

theorem nameByte_any (c : Int) (w : World) : Calls Try.prog 80 #[.int .u8 c] w fun e w' => e = .returned (.bool (nameB c)) ∧ w' = w := by
  rcases nameB_cases c with ⟨h, e⟩ | ⟨h, e⟩ | ⟨⟨h, h'⟩, e⟩ | ⟨⟨h, h'⟩, e⟩ | ⟨⟨h, h'⟩, e⟩ | ⟨⟨h, h'⟩, e⟩ | ⟨h, e⟩
  all_goals
    rw [e]
    clear e
    go_enter Try.func80, Try.ntmps80
    go_wp2
    go_ret
    exact ⟨ret_bool (by first | rfl | (simp; done) | (simp; omega)), rfl⟩

theorem strNums_at {s : ByteArray} {k : Nat} (h : k < s.size) : (strNums s)[k]? = some ((s[k].toNat : Nat) : Int) := by
  have h2 : k < s.data.size := h
  simp [strNums, List.getElem?_map]
  rw [Array.getElem?_eq_getElem h2]
  exact ⟨_, rfl, rfl⟩

theorem all_snoc {s : ByteArray} {k : Nat} (h : k < s.size) : ((strNums s).take (k + 1)).all nameB = (((strNums s).take k).all nameB && nameB ((s[k].toNat : Nat) : Int)) := by
  have h2 : k < (strNums s).length := by rw [strNums_len]; exact h
  have h3 := strNums_at h
  rw [List.getElem?_eq_getElem h2] at h3
  rw [List.take_succ_eq_append_getElem h2, List.all_append, Option.some.inj h3]
  simp

theorem all_no {s : ByteArray} {k : Nat} (h : k < s.size) (hn : nameB ((s[k].toNat : Nat) : Int) = false) : (strNums s).all nameB = false := by
  rw [← List.take_append_drop (k + 1) (strNums s), List.all_append, all_snoc h, hn]
  simp

theorem codecName_any (s : ByteArray) (w : World) (hs : s.size ≤ maxLen) : Calls Try.prog 62 #[.string s] w fun e w' => e = .returned (.bool (nameS s)) ∧ w' = w := by
  unfold maxLen at hs
  by_cases h1 : s.size < 1
  · have e : nameS s = false := by simp [nameS]; omega
    rw [e]
    have h1' : (s.size : Int) < 1 := by omega
    go_enter Try.func62, Try.ntmps62
    go_wp2
    go_ret
    exact ⟨rfl, rfl⟩
  · have h1' : ¬ (s.size : Int) < 1 := by omega
    by_cases h2 : 32 < s.size
    · have e : nameS s = false := by simp [nameS]; omega
      rw [e]
      have h2' : (32 : Int) < (s.size : Int) := by omega
      go_enter Try.func62, Try.ntmps62
      go_wp2
      go_ret
      exact ⟨rfl, rfl⟩
    · have e : nameS s = (strNums s).all nameB := by
        unfold nameS
        rw [decide_eq_true (p := 1 ≤ s.size) (by omega), decide_eq_true (p := s.size ≤ 32) (by omega)]
        simp
      rw [e]
      have h2' : ¬ (32 : Int) < (s.size : Int) := by omega
      clear e
      go_enter Try.func62, Try.ntmps62
      go_wp2
      go_loop [14] (fun i => ∃ k : Nat, k ≤ s.size ∧ i = .int .i64 k ∧ ((strNums s).take k).all nameB = true) (fun i => s.size - (intOf i).toNat)
      case atStart => exact ⟨0, by omega, rfl, rfl⟩
      case round =>
        obtain ⟨k, hk, rfl, hall⟩ := hrel
        by_cases hlt : k < s.size
        · by_cases hn : nameB ((s[k].toNat : Nat) : Int) = true
          · have HA : Hid (((strNums s).take (k + 1)).all nameB = true) := by show _ = _; rw [all_snoc hlt, hall, hn]; rfl
            have hcl := nameByte_any ((s[k].toNat : Nat) : Int) w
            rw [hn] at hcl
            have HCL := hid hcl
            clear hall hn hcl
            go_wp2_with fail
            refine HCL.out.mono ?_
            rintro e w' ⟨rfl, rfl⟩
            go_wp2
            go_round
            case rel => exact ⟨k + 1, by omega, by go_num, HA.out⟩
            case measure => simp [intOf]; omega
          · have hn' := Bool.eq_false_iff.2 hn
            have HA : Hid ((strNums s).all nameB = false) := all_no hlt hn'
            have hcl := nameByte_any ((s[k].toNat : Nat) : Int) w
            rw [hn'] at hcl
            have HCL := hid hcl
            clear hall hn hn' hcl
            go_wp2_with fail
            refine HCL.out.mono ?_
            rintro e w' ⟨rfl, rfl⟩
            go_wp2
            go_ret
            exact ⟨ret_bool HA.out.symm, rfl⟩
        · have HA : Hid ((strNums s).all nameB = true) := by
            show _ = _
            rw [List.take_of_length_le (by rw [strNums_len]; omega)] at hall
            exact hall
          clear hall
          go_wp2
          go_ret
          exact ⟨ret_bool HA.out.symm, rfl⟩

end Go.Proofs.Ytcammngbhnhjjaa
/-
  What stands of events, of each dot the first one, how many of an article: as lists. No program is named here.
-/
namespace Go.Proofs.Ytcammngbhnhjjaa

/-- An event. -/
structure Ev where
  o : Int
  s : Int
  deps : List Int
  cart : ByteArray
  epoch : Int
  sku : ByteArray
  qty : Int
  clears : Bool
deriving DecidableEq
def zeroEv : Ev := ⟨0, 0, [], ByteArray.empty, 0, ByteArray.empty, 0, false⟩
/-- e goes by f. -/
def Goes (e f : Ev) : Prop := f.clears = true ∧ f.cart = e.cart ∧ f.sku = e.sku ∧ HasV f.deps e.o e.s ∧ e ≠ f
instance (e f : Ev) : Decidable (Goes e f) := by unfold Goes; infer_instance
/-- Nothing of l lets e go. -/
def Stands (l : List Ev) (e : Ev) : Prop := ∀ f ∈ l, ¬ Goes e f
instance (l : List Ev) (e : Ev) : Decidable (Stands l e) := by unfold Stands; infer_instance
def standOf (l : List Ev) : List Ev := l.filter fun e => decide (Stands l e)

/-- Two clearing events. -/
structure Tw where
  first : Ev
  second : Ev
def zeroTw : Tw := ⟨zeroEv, zeroEv⟩
def twWith (t : Tw) (f : Ev) (o : Int) : Tw :=
  if f.o = o ∧ f = t.first then t else if ofV t.first.deps o < ofV f.deps o then ⟨f, t.first⟩ else if ofV t.second.deps o < ofV f.deps o then ⟨t.first, f⟩ else t
/-- Does f count for that sight? -/
def Counts (c k : ByteArray) (o : Int) (f : Ev) : Prop := f.clears = true ∧ f.cart = c ∧ f.sku = k ∧ 0 < ofV f.deps o
instance (c k : ByteArray) (o : Int) (f : Ev) : Decidable (Counts c k o f) := by unfold Counts; infer_instance
def twOf (c k : ByteArray) (o : Int) (l : List Ev) : Tw := l.foldl (fun t f => if Counts c k o f then twWith t f o else t) zeroTw
theorem twOf_snoc (c k : ByteArray) (o : Int) (l : List Ev) (f : Ev) : twOf c k o (l ++ [f]) = if Counts c k o f then twWith (twOf c k o l) f o else twOf c k o l := by
  simp [twOf, List.foldl_append]
theorem ofV_nil (o : Int) : ofV [] o = 0 := by
  unfold ofV
  split
  · rfl
  · simp

structure TwInv (c k : ByteArray) (o : Int) (l : List Ev) (t : Tw) : Prop where
  memF : t.first = zeroEv ∨ t.first ∈ l ∧ Counts c k o t.first
  memS : t.second = zeroEv ∨ t.second ∈ l ∧ Counts c k o t.second
  top : ∀ f ∈ l, Counts c k o f → ofV f.deps o ≤ ofV t.first.deps o
  sec : t.first.o = o → ∀ f ∈ l, Counts c k o f → f ≠ t.first → ofV f.deps o ≤ ofV t.second.deps o
  dif : t.first.o = o → t.second ≠ t.first ∨ ofV t.second.deps o ≤ 0
theorem twInv_nil (c k : ByteArray) (o : Int) : TwInv c k o [] zeroTw :=
  ⟨.inl rfl, .inl rfl, fun f hf => (by cases hf), fun _ f hf => (by cases hf), fun _ => .inr (by show ofV [] o ≤ 0; rw [ofV_nil]; exact Int.le_refl _)⟩
theorem twInv_skip {c k : ByteArray} {o : Int} {l : List Ev} {t : Tw} (h : TwInv c k o l t) (f : Ev) (hf : ¬ Counts c k o f) : TwInv c k o (l ++ [f]) t := by
  refine ⟨h.memF.imp_right fun x => ⟨List.mem_append_left _ x.1, x.2⟩, h.memS.imp_right fun x => ⟨List.mem_append_left _ x.1, x.2⟩, fun g hg hc => ?_, fun ho g hg hc hne => ?_, h.dif⟩
  · rcases List.mem_append.1 hg with hg | hg
    · exact h.top g hg hc
    · obtain rfl := List.mem_singleton.1 hg
      exact absurd hc hf
  · rcases List.mem_append.1 hg with hg | hg
    · exact h.sec ho g hg hc hne
    · obtain rfl := List.mem_singleton.1 hg
      exact absurd hc hf
theorem twInv_step {c k : ByteArray} {o : Int} {l : List Ev} {t : Tw} (h : TwInv c k o l t) (f : Ev) (hf : Counts c k o f) : TwInv c k o (l ++ [f]) (twWith t f o) := by
  have hmf : f ∈ l ++ [f] := List.mem_append_right _ (List.mem_singleton.2 rfl)
  have hF := h.memF.imp_right fun (x : t.first ∈ l ∧ Counts c k o t.first) => (⟨List.mem_append_left [f] x.1, x.2⟩ : t.first ∈ l ++ [f] ∧ _)
  have hS := h.memS.imp_right fun (x : t.second ∈ l ∧ Counts c k o t.second) => (⟨List.mem_append_left [f] x.1, x.2⟩ : t.second ∈ l ++ [f] ∧ _)
  unfold twWith
  split
  · next h1 =>
    refine ⟨hF, hS, fun g hg hc => ?_, fun ho g hg hc hne => ?_, h.dif⟩
    · rcases List.mem_append.1 hg with hg | hg
      · exact h.top g hg hc
      · obtain rfl := List.mem_singleton.1 hg
        rw [← h1.2]
        exact Int.le_refl _
    · rcases List.mem_append.1 hg with hg | hg
      · exact h.sec ho g hg hc hne
      · obtain rfl := List.mem_singleton.1 hg
        exact absurd h1.2 hne
  · next h1 =>
    split
    · next h2 =>
      refine ⟨.inr ⟨hmf, hf⟩, hF, fun g hg hc => ?_, fun ho g hg hc hne => ?_, fun _ => .inl fun e => ?_⟩
      · rcases List.mem_append.1 hg with hg | hg
        · exact Int.le_trans (h.top g hg hc) (Int.le_of_lt h2)
        · obtain rfl := List.mem_singleton.1 hg
          exact Int.le_refl _
      · rcases List.mem_append.1 hg with hg | hg
        · exact h.top g hg hc
        · obtain rfl := List.mem_singleton.1 hg
          exact absurd rfl hne
      · simp only at e
        rw [e] at h2
        exact absurd h2 (Int.lt_irrefl _)
    · next h2 =>
      split
      · next h3 =>
        refine ⟨hF, .inr ⟨hmf, hf⟩, fun g hg hc => ?_, fun ho g hg hc hne => ?_, fun ho => .inl fun e => ?_⟩
        · rcases List.mem_append.1 hg with hg | hg
          · exact h.top g hg hc
          · obtain rfl := List.mem_singleton.1 hg
            exact Int.not_lt.1 h2
        · rcases List.mem_append.1 hg with hg | hg
          · exact Int.le_trans (h.sec ho g hg hc hne) (Int.le_of_lt h3)
          · obtain rfl := List.mem_singleton.1 hg
            exact Int.le_refl _
        · simp only at e ho
          exact h1 ⟨by rw [e]; exact ho, e⟩
      · next h3 =>
        refine ⟨hF, hS, fun g hg hc => ?_, fun ho g hg hc hne => ?_, h.dif⟩
        · rcases List.mem_append.1 hg with hg | hg
          · exact h.top g hg hc
          · obtain rfl := List.mem_singleton.1 hg
            exact Int.not_lt.1 h2
        · rcases List.mem_append.1 hg with hg | hg
          · exact h.sec ho g hg hc hne
          · obtain rfl := List.mem_singleton.1 hg
            exact Int.not_lt.1 h3
theorem twInv_of (c k : ByteArray) (o : Int) : ∀ (r l : List Ev) (t : Tw), TwInv c k o l t → TwInv c k o (l ++ r) (r.foldl (fun t f => if Counts c k o f then twWith t f o else t) t)
  | [], l, t, h => by simpa using h
  | f :: r, l, t, h => by
    rw [List.foldl_cons, show l ++ f :: r = (l ++ [f]) ++ r by simp]
    refine twInv_of c k o r _ _ ?_
    split
    · next hf => exact twInv_step h f hf
    · next hf => exact twInv_skip h f hf
theorem tw_inv (c k : ByteArray) (o : Int) (l : List Ev) : TwInv c k o l (twOf c k o l) := by
  have := twInv_of c k o l [] zeroTw (twInv_nil c k o)
  rw [List.nil_append] at this
  exact this
theorem goes_zero (e : Ev) : ¬ Goes e zeroEv := fun h => by
  have := h.1
  cases this
/-- An event goes by one of l just where it goes by one of the two. -/
theorem stands_two (l : List Ev) (e : Ev) : Stands l e ↔ ¬ Goes e (twOf e.cart e.sku e.o l).first ∧ ¬ Goes e (twOf e.cart e.sku e.o l).second := by
  have hI := tw_inv e.cart e.sku e.o l
  constructor
  · intro h
    constructor
    · rcases hI.memF with hz | ⟨hm, _⟩
      · rw [hz]; exact goes_zero e
      · exact h _ hm
    · rcases hI.memS with hz | ⟨hm, _⟩
      · rw [hz]; exact goes_zero e
      · exact h _ hm
  · rintro ⟨h1, h2⟩ f hf hg
    obtain ⟨g1, g2, g3, g4, g5⟩ := hg
    have hv : 1 ≤ e.s ∧ e.s ≤ ofV f.deps e.o := g4
    have hc : Counts e.cart e.sku e.o f := ⟨g1, g2, g3, by omega⟩
    have ht := hI.top f hf hc
    have hz0 : ofV zeroEv.deps e.o = 0 := ofV_nil _
    have hF : Counts e.cart e.sku e.o (twOf e.cart e.sku e.o l).first := by
      rcases hI.memF with hz | ⟨_, h⟩
      · rw [hz] at ht
        omega
      · exact h
    by_cases he : e = (twOf e.cart e.sku e.o l).first
    · have ho : (twOf e.cart e.sku e.o l).first.o = e.o := by rw [← he]
      have hs := hI.sec ho f hf hc (fun x => g5 (he.trans x.symm))
      have hS : Counts e.cart e.sku e.o (twOf e.cart e.sku e.o l).second := by
        rcases hI.memS with hz | ⟨_, h⟩
        · rw [hz] at hs
          omega
        · exact h
      have hd : (twOf e.cart e.sku e.o l).second ≠ (twOf e.cart e.sku e.o l).first := by
        rcases hI.dif ho with h | h
        · exact h
        · omega
      exact h2 ⟨hS.1, hS.2.1, hS.2.2.1, ⟨hv.1, by omega⟩, fun x => hd (x.symm.trans he)⟩
    · exact h1 ⟨hF.1, hF.2.1, hF.2.2.1, ⟨hv.1, by omega⟩, he⟩

/-! ### Of each dot the first one -/
def firstsFrom (met : List (Int × Int)) : List Ev → List Ev
  | [] => []
  | e :: r => if (e.o, e.s) ∈ met then firstsFrom met r else e :: firstsFrom ((e.o, e.s) :: met) r
/-- How many of an article events have. -/
def qtyOf (k : ByteArray) : List Ev → Int
  | [] => 0
  | e :: r => (if e.sku = k then e.qty else 0) + qtyOf k r
def ofCart (c : ByteArray) (l : List Ev) : List Ev := l.filter fun e => decide (e.cart = c)
/-- The events that count for a cart. -/
def countOf (c : ByteArray) (l : List Ev) : List Ev := firstsFrom [] (standOf (ofCart c l))
/-- How many of an article a cart has. -/
def linesQ (c : ByteArray) (l : List Ev) (k : ByteArray) : Int := qtyOf k (countOf c l)
theorem qtyOf_append (k : ByteArray) (a b : List Ev) : qtyOf k (a ++ b) = qtyOf k a + qtyOf k b := by
  induction a with
  | nil => simp [qtyOf]
  | cons x r ih => simp only [List.cons_append, qtyOf, ih]; omega
theorem qtyOf_perm {k : ByteArray} {a b : List Ev} (h : a.Perm b) : qtyOf k a = qtyOf k b := by
  induction h with
  | nil => rfl
  | cons x _ ih => simp only [qtyOf, ih]
  | swap x y l => simp only [qtyOf]; omega
  | trans _ _ h1 h2 => exact h1.trans h2
theorem firstsFrom_sub : ∀ (l : List Ev) (met : List (Int × Int)), ∀ e ∈ firstsFrom met l, e ∈ l
  | [], _, e, h => by simp [firstsFrom] at h
  | x :: r, met, e, h => by
    unfold firstsFrom at h
    split at h
    · exact List.mem_cons_of_mem _ (firstsFrom_sub r _ e h)
    · rcases List.mem_cons.1 h with rfl | h
      · exact List.mem_cons_self ..
      · exact List.mem_cons_of_mem _ (firstsFrom_sub r _ e h)
theorem firstsFrom_dots : ∀ (l : List Ev) (met : List (Int × Int)), ((firstsFrom met l).map fun e => (e.o, e.s)).Nodup ∧ ∀ d ∈ (firstsFrom met l).map (fun e => (e.o, e.s)), d ∉ met
  | [], _ => by simp [firstsFrom]
  | x :: r, met => by
    unfold firstsFrom
    split
    · exact firstsFrom_dots r met
    · next hx =>
      obtain ⟨h1, h2⟩ := firstsFrom_dots r ((x.o, x.s) :: met)
      refine ⟨?_, fun d hd => ?_⟩
      · rw [List.map_cons, List.nodup_cons]
        exact ⟨fun hm => h2 _ hm (List.mem_cons_self ..), h1⟩
      · rw [List.map_cons, List.mem_cons] at hd
        rcases hd with rfl | hd
        · exact hx
        · exact fun hm => h2 d hd (List.mem_cons_of_mem _ hm)
theorem firstsFrom_has : ∀ (l : List Ev) (met : List (Int × Int)), ∀ e ∈ l, (e.o, e.s) ∈ met ∨ ∃ f ∈ firstsFrom met l, f.o = e.o ∧ f.s = e.s
  | [], _, e, h => by cases h
  | x :: r, met, e, h => by
    unfold firstsFrom
    split
    · next hx =>
      rcases List.mem_cons.1 h with rfl | h
      · exact .inl hx
      · exact firstsFrom_has r met e h
    · next hx =>
      rcases List.mem_cons.1 h with rfl | h
      · exact .inr ⟨_, List.mem_cons_self .., rfl, rfl⟩
      · rcases firstsFrom_has r ((x.o, x.s) :: met) e h with h1 | ⟨f, hf, h1⟩
        · rcases List.mem_cons.1 h1 with h1 | h1
          · simp only [Prod.mk.injEq] at h1
            exact .inr ⟨x, List.mem_cons_self .., h1.1.symm, h1.2.symm⟩
          · exact .inl h1
        · exact .inr ⟨f, List.mem_cons_of_mem _ hf, h1⟩
/-- Has each dot one event? -/
def OneEach (l : List Ev) : Prop := ∀ e ∈ l, ∀ f ∈ l, e.o = f.o → e.s = f.s → e = f
theorem OneEach.sub {l m : List Ev} (h : OneEach l) (hm : ∀ e ∈ m, e ∈ l) : OneEach m := fun e he f hf => h e (hm e he) f (hm f hf)
theorem firsts_nodup (l : List Ev) (met : List (Int × Int)) : (firstsFrom met l).Nodup := by
  have := (firstsFrom_dots l met).1
  rw [List.nodup_iff_pairwise_ne, List.pairwise_map] at this
  rw [List.nodup_iff_pairwise_ne]
  exact this.imp fun h e => h (by rw [e])
theorem firsts_mem {l : List Ev} (h : OneEach l) (e : Ev) : e ∈ firstsFrom [] l ↔ e ∈ l := by
  refine ⟨firstsFrom_sub l [] e, fun he => ?_⟩
  rcases firstsFrom_has l [] e he with h0 | ⟨f, hf, h1, h2⟩
  · cases h0
  · have := h f (firstsFrom_sub l [] f hf) e he h1 h2
    rw [← this]
    exact hf
theorem ofCart_mem {c : ByteArray} {l : List Ev} {e : Ev} : e ∈ ofCart c l ↔ e ∈ l ∧ e.cart = c := by simp [ofCart]
theorem standOf_mem {l : List Ev} {e : Ev} : e ∈ standOf l ↔ e ∈ l ∧ Stands l e := by simp [standOf]
/-- Whether a cart's event counts: nothing of l lets it go. -/
theorem count_mem {c : ByteArray} {l : List Ev} (h : OneEach l) (e : Ev) : e ∈ countOf c l ↔ e ∈ l ∧ e.cart = c ∧ Stands l e := by
  unfold countOf
  rw [firsts_mem (h.sub fun e he => (ofCart_mem.1 (standOf_mem.1 he).1).1), standOf_mem, ofCart_mem]
  constructor
  · rintro ⟨⟨h1, h2⟩, h3⟩
    exact ⟨h1, h2, fun f hf hg => h3 f (ofCart_mem.2 ⟨hf, hg.2.1.trans h2⟩) hg⟩
  · rintro ⟨h1, h2, h3⟩
    exact ⟨⟨h1, h2⟩, fun f hf hg => h3 f (ofCart_mem.1 hf).1 hg⟩
theorem count_nodup (c : ByteArray) (l : List Ev) : (countOf c l).Nodup := firsts_nodup _ _
theorem perm_of_mem {a b : List Ev} (ha : a.Nodup) (hb : b.Nodup) (h : ∀ e, e ∈ a ↔ e ∈ b) : a.Perm b := (List.perm_ext_iff_of_nodup ha hb).2 h
/-- Lines hang on the set of events alone. -/
theorem linesQ_set {a b : List Ev} (ha : OneEach a) (h : ∀ e, e ∈ a ↔ e ∈ b) (c k : ByteArray) : linesQ c a k = linesQ c b k := by
  have hb : OneEach b := ha.sub fun e he => (h e).2 he
  refine qtyOf_perm (perm_of_mem (count_nodup _ _) (count_nodup _ _) fun e => ?_)
  rw [count_mem ha, count_mem hb, h]
  constructor
  · rintro ⟨h1, h2, h3⟩
    exact ⟨h1, h2, fun f hf => h3 f ((h f).2 hf)⟩
  · rintro ⟨h1, h2, h3⟩
    exact ⟨h1, h2, fun f hf => h3 f ((h f).1 hf)⟩
theorem qtyOf_nonneg {k : ByteArray} : ∀ {l : List Ev}, (∀ e ∈ l, 0 ≤ e.qty) → 0 ≤ qtyOf k l
  | [], _ => Int.le_refl _
  | x :: r, h => by
    have h1 := h x (List.mem_cons_self ..)
    have h2 := qtyOf_nonneg (k := k) (l := r) fun e he => h e (List.mem_cons_of_mem _ he)
    unfold qtyOf
    split <;> omega
theorem qtyOf_le {k : ByteArray} : ∀ {l : List Ev}, (∀ e ∈ l, 0 ≤ e.qty ∧ e.qty ≤ 1000) → qtyOf k l ≤ 1000 * (l.length : Int)
  | [], _ => Int.le_refl _
  | x :: r, h => by
    have h1 := h x (List.mem_cons_self ..)
    have h2 := qtyOf_le (k := k) (l := r) fun e he => h e (List.mem_cons_of_mem _ he)
    unfold qtyOf
    rw [List.length_cons]
    split <;> omega
end Go.Proofs.Ytcammngbhnhjjaa
