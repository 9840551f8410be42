/-
  pannierref25.Try: is there a row that fits? What it answers is 'Play'.
-/
import Derived.Test.YtfjmhfbmphdjiaaLnU
namespace Go.Proofs.Ytfjmhfbmphdjiaa
open Go.RowKit Go.Maps

open Classical in
noncomputable def tryB (xs : List Sn) (ts : List ByteArray) (hs : List Bool) (md : Nat) : Bool := decide (Play xs ts (hvOf hs) md)
theorem tryB_iff {xs : List Sn} {ts : List ByteArray} {hs : List Bool} {md : Nat} : tryB xs ts hs md = true ↔ Play xs ts (hvOf hs) md := by
  classical
  unfold tryB
  exact decide_eq_true_iff
/-- How many orders there are behind a sight. -/
def stepNow (q : Nat) (co : Bool) (md : Nat) : Option Nat := if co = true ∧ (q = 0 ∨ md < q) then (if q = md + 1 then some (md + 1) else none) else some md
def toldI (q now : Nat) : Int := if now < q then 0 else (q : Int)
theorem stepOk_iff {ts : List ByteArray} {s : Sn} {md now : Nat} : StepOk ts s md now ↔ stepNow (numL ts s.tok) s.co md = some now ∧ (s.e ≠ 0 → s.id = toldI (numL ts s.tok) now) := by
  unfold stepNow toldI
  constructor
  · intro h
    refine ⟨?_, h.told⟩
    rcases h.go with ⟨g1, g2, g3, g4⟩ | ⟨g1, g2⟩
    · rw [if_pos ⟨g1, .inr g2⟩, if_pos g3, g4]
    · rw [if_neg, g2]
      rintro ⟨a, b⟩
      rcases g1 with g1 | g1
      · rw [g1] at a; cases a
      · omega
  · rintro ⟨h1, h2⟩
    refine ⟨?_, h2⟩
    split at h1
    · next hc =>
      split at h1
      · next hq =>
        cases h1
        exact .inl ⟨hc.1, by omega, hq, rfl⟩
      · cases h1
    · next hc =>
      cases h1
      refine .inr ⟨?_, rfl⟩
      cases hco : s.co with
      | false => exact .inl rfl
      | true =>
        right
        apply Classical.byContradiction
        intro hn
        exact hc ⟨hco, by omega⟩
/-- Sight i can't stand next. -/
def NoAt (xs : List Sn) (ts : List ByteArray) (hs : List Bool) (md i : Nat) : Prop := ∀ (h : i < xs.length) (now : Nat), MayN xs (hvOf hs) i xs[i].b → StepOk ts xs[i] md now → ¬ Play xs ts (fun k => if k = i then true else hvOf hs k) now
def NoTo (xs : List Sn) (ts : List ByteArray) (hs : List Bool) (md k : Nat) : Prop := ∀ i, i < k → NoAt xs ts hs md i
theorem NoTo.next {xs : List Sn} {ts : List ByteArray} {hs : List Bool} {md k : Nat} (h : NoTo xs ts hs md k) (h1 : NoAt xs ts hs md k) : NoTo xs ts hs md (k + 1) := fun i hi => by
  by_cases e : i = k
  · subst e; exact h1
  · exact h i (by omega)
def doneTo (xs : List Sn) (hs : List Bool) (d : Bool) : Nat → Bool
  | 0 => d
  | k + 1 => doneTo xs hs d k && (hs.getD k false || decide ((xs.getD k default).e = 0))
theorem doneTo_iff {xs : List Sn} {hs : List Bool} {d : Bool} : ∀ {n : Nat}, n ≤ xs.length → (doneTo xs hs d n = true ↔ d = true ∧ ∀ i (h : i < xs.length), i < n → hvOf hs i = true ∨ xs[i].e = 0)
  | 0, _ => by simp [doneTo]
  | n + 1, hn => by
    have ih := doneTo_iff (xs := xs) (hs := hs) (d := d) (n := n) (by omega)
    have hg : xs.getD n default = xs[n]'(by omega) := by simp [List.getD, List.getElem?_eq_getElem (show n < xs.length by omega)]
    unfold doneTo
    rw [Bool.and_eq_true, ih, hg, Bool.or_eq_true, decide_eq_true_eq]
    constructor
    · rintro ⟨⟨h1, h2⟩, h3⟩
      refine ⟨h1, fun i h hi => ?_⟩
      by_cases e : i = n
      · subst e; exact h3
      · exact h2 i h (by omega)
    · rintro ⟨h1, h2⟩
      exact ⟨⟨h1, fun i h hi => h2 i h (by omega)⟩, h2 n (by omega) (by omega)⟩
/-- What Try answers. -/
def TryIs (xs : List Sn) (ts : List ByteArray) (hs : List Bool) (md : Nat) (z : Bool) : Prop := z = true ↔ Play xs ts (hvOf hs) md
theorem TryIs.done {xs : List Sn} {ts : List ByteArray} {hs : List Bool} {md : Nat} {z d : Bool} (h : TryIs xs ts hs md z) (hd : d = true → md = ts.length) (hall : doneTo xs hs d xs.length = true) : z = true := by
  obtain ⟨h1, h2⟩ := (doneTo_iff (Nat.le_refl _)).1 hall
  exact h.2 (Play.done (hd h1) (fun i hi => h2 i hi hi))
theorem TryIs.none {xs : List Sn} {ts : List ByteArray} {hs : List Bool} {md : Nat} {z d : Bool} (h : TryIs xs ts hs md z) (hd : md = ts.length → d = true) (hall : doneTo xs hs d xs.length = false) (hno : NoTo xs ts hs md xs.length) : z = false := by
  cases hz : z with
  | false => rfl
  | true =>
    exfalso
    cases h.1 hz with
    | done h1 h2 =>
      have := (doneTo_iff (xs := xs) (hs := hs) (d := d) (Nat.le_refl _)).2 ⟨hd h1, fun i hi _ => h2 i hi⟩
      rw [hall] at this
      cases this
    | step i hi hmay hst hp => exact hno i hi hi _ hmay hst hp
/-- What the sight k makes of it: s is what it is, q its token's number. -/
structure AtK (xs : List Sn) (ts : List ByteArray) (hs : List Bool) (md k q : Nat) (s : Sn) (z : Bool) : Prop where
  stop : stepNow q s.co md = none → NoTo xs ts hs md (k + 1)
  told : ∀ now, stepNow q s.co md = some now → s.e ≠ 0 → s.id ≠ toldI q now → NoTo xs ts hs md (k + 1)
  no : ∀ now, stepNow q s.co md = some now → tryB xs ts (hs.set k true) now = false → NoTo xs ts hs md (k + 1)
  yes : ∀ now, stepNow q s.co md = some now → (s.e ≠ 0 → s.id = toldI q now) → tryB xs ts (hs.set k true) now = true → z = true
  le : ∀ now, stepNow q s.co md = some now → md ≤ ts.length → now ≤ ts.length
theorem AtK.of {xs : List Sn} {ts : List ByteArray} {hs : List Bool} {md k : Nat} {z : Bool} (h : TryIs xs ts hs md z) (hno : NoTo xs ts hs md k) (hk : k < xs.length) (hl : hs.length = xs.length) (hm : MayN xs (hvOf hs) k xs[k].b) : AtK xs ts hs md k (numL ts xs[k].tok) xs[k] z := by
  have hkl : k < hs.length := by omega
  refine ⟨fun h1 => hno.next fun hi now _ hst _ => ?_, fun now h1 h2 h3 => hno.next fun hi now' _ hst _ => ?_, fun now h1 h2 => hno.next fun hi now' _ hst hp => ?_, fun now h1 h2 h3 => ?_, fun now h1 h2 => ?_⟩
  · have := (stepOk_iff.1 hst).1
    rw [h1] at this
    cases this
  · obtain ⟨a, b⟩ := stepOk_iff.1 hst
    rw [h1] at a
    cases a
    exact h3 (b h2)
  · obtain ⟨a, b⟩ := stepOk_iff.1 hst
    rw [h1] at a
    cases a
    rw [← hvOf_set hkl] at hp
    have := tryB_iff.2 hp
    rw [h2] at this
    cases this
  · refine h.2 (Play.step (now := now) k hk hm (stepOk_iff.2 ⟨h1, h2⟩) ?_)
    rw [← hvOf_set hkl]
    exact tryB_iff.1 h3
  · have := num_le ts xs[k].tok
    unfold stepNow at h1
    split at h1
    · split at h1
      · cases h1; omega
      · cases h1
    · cases h1; omega
theorem NoTo.notMay {xs : List Sn} {ts : List ByteArray} {hs : List Bool} {md k : Nat} (hno : NoTo xs ts hs md k) (hk : k < xs.length) (hm : mayB xs (hvOf hs) k xs[k].b = false) : NoTo xs ts hs md (k + 1) :=
  hno.next fun hi now h _ _ => by
    have := mayB_iff.2 h
    rw [hm] at this
    cases this
theorem left_next {xs : List Sn} {hs : List Bool} {k N : Nat} {b : Int} (hk : k < hs.length) (hm : MayN xs (hvOf hs) k b) (h : leftN (hvOf hs) hs.length ≤ N + 1) : leftN (hvOf (hs.set k true)) (hs.set k true).length ≤ N := by
  rw [hvOf_set hk, List.length_set]
  have := left_set hm.1 hs.length
  rw [if_pos hk] at this
  omega
theorem left_none {xs : List Sn} {hs : List Bool} {k : Nat} {b : Int} (hk : k < hs.length) (hm : MayN xs (hvOf hs) k b) (h : leftN (hvOf hs) hs.length ≤ 0) : False := by
  have h1 := left_zero (hv := hvOf hs) hs.length (by omega) k hk
  rw [hm.1] at h1
  cases h1
/-- append([]bool{}, have...). -/
theorem wpList_copy_bo {ops : Array Oper} {rest : List Oper} {o : Oper} {a : Act} {w : World} {Q : Exit → Act → World → Prop} (hgd : o.guard = none) (s x : Operand)
    (ho : o.op = .call { callee := .builtin .append, args := #[s, x], argTypes := #[29, 29] })
    (base : Nat) (v : Value) (hs : a.eval s = v) (hown : w.ownsRow base 4 1 v 0 (boV []))
    (ad : Addr) (m c : Nat) (ys : List Bool) (hm : ys.length = m) (hx : a.eval x = .slice (some ad) m c) (hh : HeldBo w (some ad) ys) (hpos : 0 < m) (hsum : m ≤ 1000) (hbase : base ≤ w.heap.size)
    (h : ∀ bo cp w', w'.ownsRow base 4 1 (.slice bo m cp) m (boV ys) → Below base w w' → wpList Try.prog ops Q rest (a.put o.dst (.slice bo m cp)) w') :
    wpList Try.prog ops Q (o :: rest) a w := by
  obtain ⟨iI, hj, hy0, hy1, hy2⟩ := info_parts Try.infoBoT
  subst hm
  refine wpList_append_own_at _ hgd s x 29 ho base 4 iI _ 1 1 Try.underlying29 hj hy0 hy1 hy2 rfl (by decide) v 0 (boV []) hs hown ad ys.length c (boV ys) hx (by simp [boV]) (fun j u hu => ?_) (boV_one ys) (by unfold maxLen; omega) (by omega) (by omega) ?_
  · obtain ⟨b, off, h1, _, h3⟩ : ∃ b off, some ad = some ⟨b, off, none⟩ ∧ b < w.heap.size ∧ ∀ j, j < ys.length → w.cell? ⟨b, off + j, none⟩ = some (.bool (ys.getD j false)) := by
      rcases hh with h0 | h0
      · subst h0; simp at hpos
      · exact h0
    cases h1
    have hjl : j < ys.length := by
      have := (List.getElem?_eq_some_iff.1 hu).1
      simpa [boV] using this
    rw [boV_get hjl] at hu
    cases hu
    rw [Addr.add_lit]
    exact h3 j hjl
  · intro v' w' hown' hgrow _ _
    have hown2 : w'.ownsRow base 4 1 v' ys.length (boV ys) := by simpa [boV] using hown'
    obtain ⟨bo, cp, rfl, _⟩ := own_form8 hown2
    have := h bo cp w' hown2 ((Below.refl _ _).grown hgrow hbase (fun k hk => (hown.lt k hk).1))
    simpa using this
theorem ownB_made (w : World) (B : Nat) (hB : B ≤ w.heap.size) : (w.alloc (.cells #[] 4)).ownsRow B 4 1 (.slice (some ⟨w.heap.size, 0, none⟩) 0 0) 0 (boV []) :=
  ⟨rfl, .inr ⟨w.heap.size, 0, #[], rfl, hB, World.alloc_heap_new w _, Nat.le_refl _, Nat.zero_le _, rfl, rfl⟩⟩
theorem own_someT {w : World} {B e sz n c : Nat} {b : Option Addr} {xs : List Value} (hn : 0 < n) (h : w.ownsRow B e sz (.slice b n c) n xs) : ∃ g, b = some ⟨g, 0, none⟩ ∧ B ≤ g := by
  rcases h.2 with ⟨_, h0⟩ | ⟨g, cap, cur, he, hB, _⟩
  · omega
  · cases he
    exact ⟨g, rfl, hB⟩
/-- A row of bools of the call's own, one of them set. -/
theorem row_setT {w : World} {B g n cap : Nat} {hs : List Bool} (h : w.ownsRow B 4 1 (.slice (some ⟨g, 0, none⟩) n cap) n (boV hs)) {j : Nat} (hj : j < hs.length) (hn : hs.length = n) (b : Bool) : HeldBo (w.setCell ⟨g, j, none⟩ (.bool b)) (some ⟨g, 0, none⟩) (hs.set j b) ∧ w.cell? ⟨g, j, none⟩ = some (.bool (hs.getD j false)) ∧ w.frozen? ⟨g, j, none⟩ = false := by
  have hcell := h.cells (g := g) rfl j _ (boV_get hj)
  have hcell' : w.cell? ⟨g, j, none⟩ = some (.bool (hs.getD j false)) := by simpa [Addr.add_lit] using hcell
  rcases h.2 with ⟨h0, _⟩ | ⟨g', cap', cur, he, hB, hg, hnn, hm, hsz, htk⟩
  · cases h0
  · cases he
    have hb : Blk w g 4 cur.toList := hg
    refine ⟨?_, hcell', hb.frozen j⟩
    have h2 : (w.setCell ⟨g, j, none⟩ (.bool b)).ownsRow B 4 1 (.slice (some ⟨g, 0, none⟩) n cap) n (boV (hs.set j b)) := by
      refine ⟨by have := h.1; simpa [boV] using this, .inr ⟨g, cap, (cur.toList.set j (.bool b)).toArray, rfl, hB, hb.set j _, hnn, hm, by simp [hsz], ?_⟩⟩
      show (cur.toList.set j (.bool b)).take (n * 1) = boV (hs.set j b)
      have h3 : cur.toList.take (n * 1) = boV hs := htk
      rw [List.take_set, h3]
      simp [boV, List.map_set]
    obtain ⟨ao, cp, he2, _, hh⟩ := heldBo_of_own (by simpa using hn) h2
    cases he2
    exact hh
end Go.Proofs.Ytfjmhfbmphdjiaa
