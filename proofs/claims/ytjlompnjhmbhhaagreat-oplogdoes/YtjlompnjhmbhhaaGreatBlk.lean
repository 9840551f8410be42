/-
  codec.Name and pannierref01.Name: both tell of any string whether it may be a name ('nameS': 1 to 32 bytes, each a letter from a to z, a digit or the sign 45), and write nothing.
-/
import Derived.Test.YtjlompnjhmbhhaaGreatRows
import Derived.Test.YtjlompnjhmbhhaaGreatTexts
import Derived.Maps.OwnSet
import Derived.Maps.RangeWalk
import Derived.RangeFuncBox
namespace Go.Proofs.YtjlompnjhmbhhaaGreat
open Go.RowKit

/-- May c be a name's byte? -/
def nameB (c : Int) : Bool := (decide (97 ≤ c) && decide (c ≤ 122)) || (decide (48 ≤ c) && decide (c ≤ 57)) || c == 45
/-- May s be a name? -/
def nameS (s : ByteArray) : Bool := decide (1 ≤ s.size) && decide (s.size ≤ 32) && (strNums s).all nameB

theorem nameB_cases (c : Int) : (c < 45 ∧ nameB c = false) ∨ (c = 45 ∧ nameB c = true) ∨ ((45 < c ∧ c < 48) ∧ nameB c = false) ∨ ((48 ≤ c ∧ c ≤ 57) ∧ nameB c = true) ∨ ((57 < c ∧ c < 97) ∧ nameB c = false) ∨ ((97 ≤ c ∧ c ≤ 122) ∧ nameB c = true) ∨ (122 < c ∧ nameB c = false) := by
  have h45 : ∀ b : Bool, c ≠ 45 → (b || c == 45) = b := by
    intro b h
    rw [beq_eq_false_iff_ne.2 h, Bool.or_false]
  by_cases h1 : c < 45
  · refine .inl ⟨h1, ?_⟩
    unfold nameB
    rw [h45 _ (by omega), decide_eq_false (p := 97 ≤ c) (by omega), decide_eq_false (p := 48 ≤ c) (by omega)]
    rfl
  by_cases h2 : c = 45
  · subst h2
    exact .inr (.inl ⟨rfl, rfl⟩)
  by_cases h3 : c < 48
  · refine .inr (.inr (.inl ⟨⟨by omega, h3⟩, ?_⟩))
    unfold nameB
    rw [h45 _ (by omega), decide_eq_false (p := 97 ≤ c) (by omega), decide_eq_false (p := 48 ≤ c) (by omega)]
    rfl
  by_cases h4 : c ≤ 57
  · refine .inr (.inr (.inr (.inl ⟨⟨by omega, h4⟩, ?_⟩)))
    unfold nameB
    rw [h45 _ (by omega), decide_eq_true (p := 48 ≤ c) (by omega), decide_eq_true (p := c ≤ 57) h4]
    simp
  by_cases h5 : c < 97
  · refine .inr (.inr (.inr (.inr (.inl ⟨⟨by omega, h5⟩, ?_⟩))))
    unfold nameB
    rw [h45 _ (by omega), decide_eq_false (p := 97 ≤ c) (by omega), decide_eq_false (p := c ≤ 57) h4]
    simp
  by_cases h6 : c ≤ 122
  · refine .inr (.inr (.inr (.inr (.inr (.inl ⟨⟨by omega, h6⟩, ?_⟩)))))
    unfold nameB
    rw [h45 _ (by omega), decide_eq_true (p := 97 ≤ c) (by omega), decide_eq_true (p := c ≤ 122) h6]
    simp
  · refine .inr (.inr (.inr (.inr (.inr (.inr ⟨by omega, ?_⟩)))))
    unfold nameB
    rw [h45 _ (by omega), decide_eq_false (p := c ≤ 122) h6, decide_eq_false (p := c ≤ 57) h4]
    simp

theorem nameByte_any (c : Int) (w : World) : Calls Tryz.prog 89 #[.int .u8 c] w fun e w' => e = .returned (.bool (nameB c)) ∧ w' = w := by
  rcases nameB_cases c with ⟨h, e⟩ | ⟨h, e⟩ | ⟨⟨h, h'⟩, e⟩ | ⟨⟨h, h'⟩, e⟩ | ⟨⟨h, h'⟩, e⟩ | ⟨⟨h, h'⟩, e⟩ | ⟨h, e⟩
  all_goals
    rw [e]
    clear e
    go_enter Tryz.func89, Tryz.ntmps89
    go_wp2
    go_ret
    exact ⟨ret_bool (by first | rfl | (simp; done) | (simp; omega)), rfl⟩

theorem strNums_at {s : ByteArray} {k : Nat} (h : k < s.size) : (strNums s)[k]? = some ((s[k].toNat : Nat) : Int) := by
  have h2 : k < s.data.size := h
  simp [strNums, List.getElem?_map]
  rw [Array.getElem?_eq_getElem h2]
  exact ⟨_, rfl, rfl⟩

theorem all_snoc {s : ByteArray} {k : Nat} (h : k < s.size) : ((strNums s).take (k + 1)).all nameB = (((strNums s).take k).all nameB && nameB ((s[k].toNat : Nat) : Int)) := by
  have h2 : k < (strNums s).length := by rw [strNums_len]; exact h
  have h3 := strNums_at h
  rw [List.getElem?_eq_getElem h2] at h3
  rw [List.take_succ_eq_append_getElem h2, List.all_append, Option.some.inj h3]
  simp

theorem all_no {s : ByteArray} {k : Nat} (h : k < s.size) (hn : nameB ((s[k].toNat : Nat) : Int) = false) : (strNums s).all nameB = false := by
  rw [← List.take_append_drop (k + 1) (strNums s), List.all_append, all_snoc h, hn]
  simp

theorem codecName_any (s : ByteArray) (w : World) (hs : s.size ≤ maxLen) : Calls Tryz.prog 75 #[.string s] w fun e w' => e = .returned (.bool (nameS s)) ∧ w' = w := by
  unfold maxLen at hs
  by_cases h1 : s.size < 1
  · have e : nameS s = false := by simp [nameS]; omega
    rw [e]
    have h1' : (s.size : Int) < 1 := by omega
    go_enter Tryz.func75, Tryz.ntmps75
    go_wp2
    go_ret
    exact ⟨rfl, rfl⟩
  · have h1' : ¬ (s.size : Int) < 1 := by omega
    by_cases h2 : 32 < s.size
    · have e : nameS s = false := by simp [nameS]; omega
      rw [e]
      have h2' : (32 : Int) < (s.size : Int) := by omega
      go_enter Tryz.func75, Tryz.ntmps75
      go_wp2
      go_ret
      exact ⟨rfl, rfl⟩
    · have e : nameS s = (strNums s).all nameB := by
        unfold nameS
        rw [decide_eq_true (p := 1 ≤ s.size) (by omega), decide_eq_true (p := s.size ≤ 32) (by omega)]
        simp
      rw [e]
      have h2' : ¬ (32 : Int) < (s.size : Int) := by omega
      clear e
      go_enter Tryz.func75, Tryz.ntmps75
      go_wp2
      go_loop [14] (fun i => ∃ k : Nat, k ≤ s.size ∧ i = .int .i64 k ∧ ((strNums s).take k).all nameB = true) (fun i => s.size - (intOf i).toNat)
      case atStart => exact ⟨0, by omega, rfl, rfl⟩
      case round =>
        obtain ⟨k, hk, rfl, hall⟩ := hrel
        by_cases hlt : k < s.size
        · by_cases hn : nameB ((s[k].toNat : Nat) : Int) = true
          · have HA : Hid (((strNums s).take (k + 1)).all nameB = true) := by show _ = _; rw [all_snoc hlt, hall, hn]; rfl
            have hcl := nameByte_any ((s[k].toNat : Nat) : Int) w
            rw [hn] at hcl
            have HCL := hid hcl
            clear hall hn hcl
            go_wp2_with fail
            refine HCL.out.mono ?_
            rintro e w' ⟨rfl, rfl⟩
            go_wp2
            go_round
            case rel => exact ⟨k + 1, by omega, by go_num, HA.out⟩
            case measure => simp [intOf]; omega
          · have hn' := Bool.eq_false_iff.2 hn
            have HA : Hid ((strNums s).all nameB = false) := all_no hlt hn'
            have hcl := nameByte_any ((s[k].toNat : Nat) : Int) w
            rw [hn'] at hcl
            have HCL := hid hcl
            clear hall hn hn' hcl
            go_wp2_with fail
            refine HCL.out.mono ?_
            rintro e w' ⟨rfl, rfl⟩
            go_wp2
            go_ret
            exact ⟨ret_bool HA.out.symm, rfl⟩
        · have HA : Hid ((strNums s).all nameB = true) := by
            show _ = _
            rw [List.take_of_length_le (by rw [strNums_len]; omega)] at hall
            exact hall
          clear hall
          go_wp2
          go_ret
          exact ⟨ret_bool HA.out.symm, rfl⟩

theorem refName_any (s : ByteArray) (w : World) (hs : s.size ≤ maxLen) : Calls Tryz.prog 59 #[.string s] w fun e w' => e = .returned (.bool (nameS s)) ∧ w' = w := by
  unfold maxLen at hs
  go_enter Tryz.func59, Tryz.ntmps59
  go_wp2
  go_loop [3] (fun i => ∃ k : Nat, k ≤ s.size ∧ i = .int .i64 k ∧ ((strNums s).take k).all nameB = true) (fun i => s.size - (intOf i).toNat)
  case atStart => exact ⟨0, by omega, rfl, rfl⟩
  case round =>
    obtain ⟨k, hk, rfl, hall⟩ := hrel
    by_cases hlt : k < s.size
    · have HY : nameB ((s[k].toNat : Nat) : Int) = true → Hid (((strNums s).take (k + 1)).all nameB = true) := by intro hn; show _ = _; rw [all_snoc hlt, hall, hn]; rfl
      have HN : nameB ((s[k].toNat : Nat) : Int) = false → Hid (nameS s = false) := by intro hn; show _ = _; unfold nameS; rw [all_no hlt hn]; simp
      rcases nameB_cases ((s[k].toNat : Nat) : Int) with ⟨h, e⟩ | ⟨h, e⟩ | ⟨⟨h, h'⟩, e⟩ | ⟨⟨h, h'⟩, e⟩ | ⟨⟨h, h'⟩, e⟩ | ⟨⟨h, h'⟩, e⟩ | ⟨h, e⟩
      · have HF := HN e
        clear HY HN e hall
        have hne : ((s[k].toNat : Int) != 45) = true := by simp; omega
        go_wp2
        go_ret
        exact ⟨ret_bool HF.out.symm, rfl⟩
      · have HF := HY e
        clear HY HN e hall
        go_wp2
        go_round
        case rel => exact ⟨k + 1, by omega, by go_num, HF.out⟩
        case measure => simp [intOf]; omega
      · have HF := HN e
        clear HY HN e hall
        have hne : ((s[k].toNat : Int) != 45) = true := by simp; omega
        go_wp2
        go_ret
        exact ⟨ret_bool HF.out.symm, rfl⟩
      · have HF := HY e
        clear HY HN e hall
        go_wp2
        go_round
        case rel => exact ⟨k + 1, by omega, by go_num, HF.out⟩
        case measure => simp [intOf]; omega
      · have HF := HN e
        clear HY HN e hall
        have hne : ((s[k].toNat : Int) != 45) = true := by simp; omega
        go_wp2
        go_ret
        exact ⟨ret_bool HF.out.symm, rfl⟩
      · have HF := HY e
        clear HY HN e hall
        go_wp2
        go_round
        case rel => exact ⟨k + 1, by omega, by go_num, HF.out⟩
        case measure => simp [intOf]; omega
      · have HF := HN e
        clear HY HN e hall
        have hne : ((s[k].toNat : Int) != 45) = true := by simp; omega
        go_wp2
        go_ret
        exact ⟨ret_bool HF.out.symm, rfl⟩
    · have hall' : (strNums s).all nameB = true := by
        rw [List.take_of_length_le (by rw [strNums_len]; omega)] at hall
        exact hall
      have e0 : nameS s = (decide (1 ≤ s.size) && decide (s.size ≤ 32)) := by unfold nameS; rw [hall']; simp
      clear hall hall'
      by_cases h1 : 1 ≤ s.size
      · have h1' : (1 : Int) ≤ (s.size : Int) := by omega
        by_cases h2 : s.size ≤ 32
        · have h2' : (s.size : Int) ≤ 32 := by omega
          have HE : Hid (nameS s = true) := by show _ = _; rw [e0, decide_eq_true h1, decide_eq_true h2]; rfl
          clear e0
          go_wp2
          go_ret
          exact ⟨ret_bool HE.out.symm, rfl⟩
        · have h2' : ¬ (s.size : Int) ≤ 32 := by omega
          have HE : Hid (nameS s = false) := by show _ = _; rw [e0, decide_eq_false h2]; simp
          clear e0
          go_wp2
          go_ret
          exact ⟨ret_bool HE.out.symm, rfl⟩
      · have h1' : ¬ (1 : Int) ≤ (s.size : Int) := by omega
        have HE : Hid (nameS s = false) := by show _ = _; rw [e0, decide_eq_false h1]; rfl
        clear e0
        go_wp2
        go_ret
        exact ⟨ret_bool HE.out.symm, rfl⟩
end Go.Proofs.YtjlompnjhmbhhaaGreat
/-
  Maps whose elements are whatever values: what lies at a key, behind a store and a delete; the operations' laws for a walk. No function of the program is named here.
-/
namespace Go.Proofs.YtjlompnjhmbhhaaGreat
open Go.RowKit Go.Maps
open Go.WideElems (rg rg_of rd_val)

/-- An element reads as itself. -/
def valR (v : Value) : Option (DataW Value × List MemPlace) := some (.held v, [])
/-- What lies at a key. -/
def look (D : DataW Value) (kl : Lit) : Option Value := match D.atKey kl .nil with
  | .held v => some v
  | _ => none
def AllHeld (D : DataW Value) : Prop := ∃ es, D = .map es ∧ ∀ p ∈ es, ∃ v, p.2 = .held v

theorem allHeld_of {w : World} {P : Program} {k : TypeId} {b n : Nat} {D : DataW Value} (h : w.ownsMap P k valR b n D) : AllHeld D := by
  obtain ⟨es, clock, _, F, _, rfl⟩ := h
  refine ⟨_, rfl, fun p hp => ?_⟩
  obtain ⟨x, hx, rfl⟩ := List.mem_map.1 (mem_sorted.1 hp)
  obtain ⟨y, hy⟩ := F.reads x hx
  obtain ⟨z, hz, hzd⟩ := rd_val hy
  rw [rg_of hy, hzd]
  unfold valR at hz
  cases hz
  exact ⟨_, rfl⟩

theorem find_held {es : List (Lit × DataW Value)} (h : ∀ p ∈ es, ∃ v, p.2 = .held v) (kl : Lit) : (es.find? (fun p => p.1.sameKey kl) = none) ∨ ∃ p v, es.find? (fun p => p.1.sameKey kl) = some p ∧ p.2 = .held v := by
  cases hf : es.find? (fun p => p.1.sameKey kl) with
  | none => exact .inl rfl
  | some p =>
    obtain ⟨v, hv⟩ := h p (List.mem_of_find?_eq_some hf)
    exact .inr ⟨p, v, rfl, hv⟩

theorem has_look {D : DataW Value} (h : AllHeld D) (kl : Lit) : Maps.has D kl = (look D kl).isSome := by
  obtain ⟨es, rfl, hh⟩ := h
  have e1 : Maps.has (.map es) kl = (es.find? (fun p => p.1.sameKey kl)).isSome := by
    rw [Maps.has_eq, Bool.eq_iff_iff, List.find?_isSome, List.any_eq_true]
  rw [e1]
  rcases find_held hh kl with hf | ⟨p, v, hf, hv⟩
  · simp [look, DataW.atKey, hf]
  · simp [look, DataW.atKey, hf, hv]

theorem at_look {D : DataW Value} (h : AllHeld D) (kl : Lit) (z : Value) : D.atKey kl (.held z) = .held ((look D kl).getD z) := by
  obtain ⟨es, rfl, hh⟩ := h
  rcases find_held hh kl with hf | ⟨p, v, hf, hv⟩
  · simp [look, DataW.atKey, hf]
  · simp [look, DataW.atKey, hf, hv]

theorem look_at {D : DataW Value} {kl : Lit} {v : Value} (h : ∀ zd, D.atKey kl zd = .held v) : look D kl = some v := by simp [look, h]
theorem look_put_same {D : DataW Value} (hD : IsMap D) {kl : Lit} (hk : WideAt.IsKeyLit kl) (v : Value) : look (D.put kl (.held v)) kl = some v := by
  unfold look
  rw [atKey_put_same hD hk]
theorem look_put_other {D : DataW Value} {kl kl' : Lit} (h : kl' ≠ kl) (d : DataW Value) : look (D.put kl d) kl' = look D kl' := by
  unfold look
  rw [atKey_put_other h]
theorem look_del_same {D : DataW Value} {kl : Lit} : look (D.del kl) kl = none := by
  unfold look
  rw [atKey_del_same]
theorem look_del_other {D : DataW Value} {kl kl' : Lit} (h : kl' ≠ kl) : look (D.del kl) kl' = look D kl' := by
  unfold look
  rw [atKey_del_other h]
theorem look_empty (kl : Lit) : look (.map []) kl = none := rfl

section
variable {P : Program} {w : World} {k e t : TypeId} {b n : Nat} {D : DataW Value}

theorem run_look (h : w.ownsMap P k valR b n D) (K : Keyed P k) (ht : P.underlying t = some (.map k e)) {z : Value} (hz : (zeroValue e).run P w = .ok z w) {key : Value} {kl : Lit} (hkey : keyOf P k key = some kl) :
    (Instr.lookup t (.map (some b)) key false).run P w = .ok ((look D kl).getD z) w := by
  obtain ⟨v, ps, hrun, hv⟩ := h.lookup K ht hz (zd := .held z) (zp := []) rfl hkey
  rw [at_look (allHeld_of h)] at hv
  unfold valR at hv
  simp at hv
  rw [hrun, hv.1]

theorem run_look_ok (h : w.ownsMap P k valR b n D) (K : Keyed P k) (ht : P.underlying t = some (.map k e)) {z : Value} (hz : (zeroValue e).run P w = .ok z w) {key : Value} {kl : Lit} (hkey : keyOf P k key = some kl) :
    (Instr.lookup t (.map (some b)) key true).run P w = .ok (.tuple #[(look D kl).getD z, .bool (look D kl).isSome]) w := by
  obtain ⟨v, ps, hrun, hv⟩ := h.look_ok K ht hz (zd := .held z) (zp := []) rfl hkey
  rw [at_look (allHeld_of h)] at hv
  unfold valR at hv
  simp at hv
  rw [hrun, hv.1, has_look (allHeld_of h)]
end

section
variable {P : Program} (w : World) {ops : Array Oper} {rest : List Oper} {o : Oper} {a : Act} {Q : Exit → Act → World → Prop}

/-- 'm[k]'. -/
theorem wpList_look (hg : o.guard = none) (m x : Operand) (t : TypeId) (hop : o.op = Op.lookup t m x false) (k e : TypeId) (K : Keyed P k) (ht : P.underlying t = some (.map k e)) (z : Value) (hz : (zeroValue e).run P w = .ok z w) (b n : Nat) (D : DataW Value)
    (hm : a.eval m = .map (some b)) (hown : w.ownsMap P k valR b n D) (key : Value) (kl : Lit) (hx : a.eval x = key) (hkey : keyOf P k key = some kl) (v : Value) (hv : (look D kl).getD z = v)
    (hK : wpList P ops Q rest (a.put o.dst v) w) : wpList P ops Q (o :: rest) a w := by
  refine wpList_plain hg fun K' hK' => ?_
  have hrun := run_look hown K ht hz hkey
  rw [hv] at hrun
  unfold Oper.wp
  simp [execOp, hop, hm, hx, hrun, Result.andThen]
  exact hK' _ _ hK

/-- 'v, ok := m[k]'. -/
theorem wpList_look_ok (hg : o.guard = none) (m x : Operand) (t : TypeId) (hop : o.op = Op.lookup t m x true) (k e : TypeId) (K : Keyed P k) (ht : P.underlying t = some (.map k e)) (z : Value) (hz : (zeroValue e).run P w = .ok z w) (b n : Nat) (D : DataW Value)
    (hm : a.eval m = .map (some b)) (hown : w.ownsMap P k valR b n D) (key : Value) (kl : Lit) (hx : a.eval x = key) (hkey : keyOf P k key = some kl) (v : Value) (ok : Bool) (hv : (look D kl).getD z = v) (hok : (look D kl).isSome = ok)
    (hK : wpList P ops Q rest (a.put o.dst (.tuple #[v, .bool ok])) w) : wpList P ops Q (o :: rest) a w := by
  refine wpList_plain hg fun K' hK' => ?_
  have hrun := run_look_ok hown K ht hz hkey
  rw [hv, hok] at hrun
  unfold Oper.wp
  simp [execOp, hop, hm, hx, hrun, Result.andThen]
  exact hK' _ _ hK
end
end Go.Proofs.YtjlompnjhmbhhaaGreat
/-
  Words on worlds for the walks over objects behind pointers: a block of cells ('Blk'), and what a call may have turned ('Turns': nothing but the blocks of F; new blocks may lie behind). No function of the program is named here.
-/
namespace Go.Proofs.YtjlompnjhmbhhaaGreat
open Go.RowKit

/-- Block B is an array of these cells. -/
def Blk (w : World) (B : Nat) (t : TypeId) (cs : List Value) : Prop := w.heap[B]? = some (.cells cs.toArray t (0, 0))
section
variable {w w' : World} {B C i : Nat} {t e : TypeId} {cs : List Value} {v : Value}
theorem Blk.lt (h : Blk w B t cs) : B < w.heap.size := (Array.getElem?_eq_some_iff.1 h).1
theorem Blk.cell (h : Blk w B t cs) (hi : cs[i]? = some v) : w.cell? ⟨B, i, none⟩ = some v := by
  have h' : w.heap[B]? = some (.cells cs.toArray t (0, 0)) := h
  simp [World.cell?, h', hi]
theorem Blk.frozen (h : Blk w B t cs) (i : Nat) : w.frozen? ⟨B, i, none⟩ = false := by
  have h' : w.heap[B]? = some (.cells cs.toArray t (0, 0)) := h
  simp [World.frozen?, h']
theorem Blk.new (w : World) (t : TypeId) (cs : List Value) : Blk (w.alloc (.cells cs.toArray t)) w.heap.size t cs := World.alloc_heap_new w _
theorem Blk.kept {row : Option Nat} (h : Blk w B t cs) (hg : w.grownBy w' row) (hne : some B ≠ row) : Blk w' B t cs := (hg.block B h.lt hne).trans h
theorem Blk.alloc (h : Blk w B t cs) (o : Obj) : Blk (w.alloc o) B t cs := h.kept (World.grownBy_alloc w o none) (by simp)
theorem Blk.other (h : Blk w B t cs) (hne : B ≠ C) (i : Nat) (v : Value) : Blk (w.setCell ⟨C, i, none⟩ v) B t cs := (RowKit.Below.heap_setCell _ _ _ _ hne).trans h
theorem Blk.set (h : Blk w B t cs) (i : Nat) (v : Value) : Blk (w.setCell ⟨B, i, none⟩ v) B t (cs.set i v) := by
  obtain ⟨hlt, hk⟩ := Array.getElem?_eq_some_iff.1 h
  show (w.heap.modify B _)[B]? = _
  rw [Array.getElem?_modify]
  simp [hlt, hk]
theorem Blk.drewN (h : Blk w B t cs) (q : Nat) : Blk (w.drewN q) B t cs := h
theorem Blk.drew (h : Blk w B t cs) : Blk w.drew B t cs := h
theorem Blk.below {K : Nat} (h : Blk w B t cs) (hb : Below K w w') (hK : B < K) : Blk w' B t cs := (hb.block B hK).trans h
theorem Blk.not_row (h : Blk w B t cs) (hte : t ≠ e) {base size k : Nat} {u : Value} {xs : List Value} (hr : w.ownsRow base e size u k xs) : some B ≠ u.ownBlock := by
  rcases hr.2 with ⟨rfl, _⟩ | ⟨g, cap, cur, rfl, _, hg, _⟩
  · simp [Value.ownBlock]
  · intro he
    have e1 : B = g := by simpa [Value.ownBlock] using he
    subst e1
    have h' : w.heap[B]? = some (.cells cs.toArray t (0, 0)) := h
    rw [h'] at hg
    simp at hg
    exact hte hg.2
theorem Blk.not_map (h : Blk w B t cs) {P : Program} {k : TypeId} {b n : Nat} {D : DataW Value} (hm : w.ownsMap P k valR b n D) : B ≠ b := by
  obtain ⟨es, clock, hb, _⟩ := hm
  rintro rfl
  have h' : w.heap[B]? = some (.cells cs.toArray t (0, 0)) := h
  rw [h'] at hb
  cases hb
theorem row_not_map {base size k n : Nat} {u : Value} {xs : List Value} (hr : w.ownsRow base e size u k xs) {P : Program} {kt : TypeId} {b : Nat} {D : DataW Value} (hm : w.ownsMap P kt valR b n D) : some b ≠ u.ownBlock := by
  obtain ⟨es, clock, hb, _⟩ := hm
  rcases hr.2 with ⟨rfl, _⟩ | ⟨g, cap, cur, rfl, _, hg, _⟩
  · simp [Value.ownBlock]
  · intro he
    have e1 : b = g := by simpa [Value.ownBlock] using he
    subst e1
    rw [hb] at hg
    cases hg
end

/-- Nothing but the blocks of F has turned; new blocks may lie behind. -/
structure Turns (F : Nat → Prop) (w w' : World) : Prop where
  os : w'.os = w.os
  tape : w'.tape = w.tape
  output : w'.output = w.output
  size : w.heap.size ≤ w'.heap.size
  block : ∀ k, k < w.heap.size → ¬ F k → w'.heap[k]? = w.heap[k]?
section
variable {F G : Nat → Prop} {a b c : World}
theorem Turns.refl (F : Nat → Prop) (w : World) : Turns F w w := ⟨rfl, rfl, rfl, Nat.le_refl _, fun _ _ _ => rfl⟩
theorem Turns.trans (h : Turns F a b) (k : Turns G b c) (hG : ∀ i, G i → F i ∨ a.heap.size ≤ i) : Turns F a c :=
  ⟨k.os.trans h.os, k.tape.trans h.tape, k.output.trans h.output, Nat.le_trans h.size k.size, fun i hi hn => (k.block i (Nat.lt_of_lt_of_le hi h.size) (fun hg => by
    rcases hG i hg with h1 | h1
    · exact hn h1
    · omega)).trans (h.block i hi hn)⟩
theorem Turns.mono (h : Turns F a b) (hF : ∀ i, F i → G i) : Turns G a b := ⟨h.os, h.tape, h.output, h.size, fun k hk hn => h.block k hk (fun hf => hn (hF k hf))⟩
theorem Turns.of_grown {row : Option Nat} (h : a.grownBy b row) (hF : ∀ k, row = some k → F k) : Turns F a b := ⟨h.os, h.tape, h.output, h.size, fun k hk hn => h.block k hk (fun e => hn (hF k e.symm))⟩
theorem Turns.grown {row : Option Nat} (h : Turns F a b) (k : b.grownBy c row) (hF : ∀ k, row = some k → F k ∨ a.heap.size ≤ k) : Turns F a c := h.trans (Turns.of_grown (F := fun i => row = some i) k (fun _ h => h)) hF
theorem Turns.alloc (h : Turns F a b) (o : Obj) : Turns F a (b.alloc o) := h.grown (World.grownBy_alloc b o none) (fun _ h => by cases h)
theorem Turns.setCell (h : Turns F a b) {p : Addr} (hp : F p.block ∨ a.heap.size ≤ p.block) (u : Value) : Turns F a (b.setCell p u) :=
  h.trans (G := fun i => i = p.block) ⟨rfl, rfl, rfl, by simp, fun k _ hn => RowKit.Below.heap_setCell _ _ _ _ hn⟩ (fun i hi => by subst hi; exact hp)
theorem Turns.drew (h : Turns F a b) : Turns F a b.drew := ⟨h.os, h.tape, h.output, h.size, h.block⟩
theorem Turns.drewN (h : Turns F a b) (q : Nat) : Turns F a (b.drewN q) := ⟨h.os, h.tape, h.output, h.size, h.block⟩
theorem Turns.of_below {B : Nat} (h : Below B a b) (hB : a.heap.size ≤ B) : Turns F a b := ⟨h.os, h.tape, h.output, h.size, fun k hk _ => h.block k (Nat.lt_of_lt_of_le hk hB)⟩
theorem Turns.below {B : Nat} (h : Turns F a b) (hF : ∀ i, F i → B ≤ i) (hB : B ≤ a.heap.size) : Below B a b := ⟨h.os, h.tape, h.output, h.size, fun k hk => h.block k (Nat.lt_of_lt_of_le hk hB) (fun hf => by have := hF k hf; omega)⟩
theorem Turns.keeps (h : Turns F a b) {k : Nat} (hk : k < a.heap.size) (hn : ¬ F k) : b.heap[k]? = a.heap[k]? := h.block k hk hn
theorem Turns.blk (h : Turns F a b) {B : Nat} {t : TypeId} {cs : List Value} (hb : Blk a B t cs) (hn : ¬ F B) : Blk b B t cs := (h.block B hb.lt hn).trans hb
theorem Turns.map (h : Turns F a b) {P : Program} {k : TypeId} {m n : Nat} {D : DataW Value} (hm : a.ownsMap P k valR m n D) (hn : ¬ F m) : b.ownsMap P k valR m n D := by
  have hlt := hm.lt
  obtain ⟨es, clock, hb, r⟩ := hm
  exact ⟨es, clock, (h.block m hlt hn).trans hb, r⟩
theorem Turns.row (h : Turns F a b) {base size k : Nat} {e : TypeId} {u : Value} {xs : List Value} (hr : a.ownsRow base e size u k xs) (hn : ∀ g, u.ownBlock = some g → ¬ F g) : b.ownsRow base e size u k xs := by
  refine ⟨hr.1, ?_⟩
  rcases hr.2 with h0 | ⟨g, cap, cur, rfl, hbg, hg, r⟩
  · exact .inl h0
  · exact .inr ⟨g, cap, cur, rfl, hbg, (h.block g (Array.getElem?_eq_some_iff.1 hg).1 (hn g rfl)).trans hg, r⟩
end

theorem ownsRow_lt {w : World} {base size k : Nat} {e : TypeId} {u : Value} {xs : List Value} (hr : w.ownsRow base e size u k xs) {g : Nat} (hg : u.ownBlock = some g) : g < w.heap.size := (hr.lt g hg).2
end Go.Proofs.YtjlompnjhmbhhaaGreat
