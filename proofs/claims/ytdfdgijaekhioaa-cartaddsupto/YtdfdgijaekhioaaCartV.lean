/-
  An event of a vector of its own behind others: what CartAdds asks.
-/
import Derived.Test.YtdfdgijaekhioaaCartApartW
import Derived.Test.YtdfdgijaekhioaaVvI
namespace Go.Proofs.Ytdfdgijaekhioaa
open Go.RowKit Go.Maps

/-- e is one of the vector's. -/
def SeenBy (sv : List Int) (e : Ev) : Prop := 0 ≤ e.o ∧ e.o ≤ 5 ∧ 1 ≤ e.s ∧ ofV e.deps 6 ≤ 0 ∧ e.s ≤ ofV sv e.o
theorem ofV_with (sv : List Int) (k : Nat) (n o : Int) (ho : 0 ≤ o) : ofV (plainOf (withOf sv k n)) o = if o = (k : Int) then n else ofV sv o := by
  obtain ⟨j, rfl⟩ := Int.eq_ofNat_of_zero_le ho
  rw [ofV_nat, ofV_nat, plain_getD, with_getD]
  by_cases h : j = k
  · rw [if_pos h, if_pos (by omega)]
  · rw [if_neg h, if_neg (by omega)]
theorem seen_with {sv : List Int} {k : Nat} {n : Int} (hn : ofV sv (k : Int) < n) {e : Ev} (h : SeenBy sv e) : SeenBy (plainOf (withOf sv k n)) e := by
  obtain ⟨h1, h2, h3, h4, h5⟩ := h
  refine ⟨h1, h2, h3, h4, ?_⟩
  rw [ofV_with _ _ _ _ h1]
  split
  · next h6 => rw [h6] at h5; omega
  · exact h5
theorem with_few {sv : List Int} {k : Nat} (h : sv.length ≤ 7) (hk : k ≤ 6) (n : Int) : (plainOf (withOf sv k n)).length ≤ 7 := by
  have h1 := endOf_le (withOf sv k n)
  have h2 := with_len sv k n
  rw [plain_len]
  omega
def sx (sv : List Int) (name sku : ByteArray) (qty : Int) (c : Bool) : Ev := ⟨6, 1, sv, name, 0, sku, qty, c⟩
theorem adds_q {l : List Ev} (hl : OneEach l) {sv : List Int} {name sku : ByteArray} {qty : Int} (h6 : ∀ f ∈ l, SeenBy sv f) : linesQ name (l ++ [sx sv name sku qty false]) sku = linesQ name l sku + qty := by
  obtain ⟨_, h2⟩ := count_snoc (e := sx sv name sku qty false) hl rfl (fun f hf hg => by
    have h1 := hg.2.2.2.1
    have h3 : (1 : Int) ≤ 1 ∧ 1 ≤ ofV f.deps 6 := h1
    have h4 := (h6 f hf).2.2.2.1
    omega) (fun f hf h => by
      have h1 : f.o = 6 := h.1
      have := (h6 f hf).2.1
      omega) name
  unfold linesQ
  rw [qtyOf_perm h2, qtyOf_append, if_pos (show (sx sv name sku qty false).cart = name from rfl)]
  simp [qtyOf, sx]
theorem qtyOf_zero {k : ByteArray} : ∀ {l : List Ev}, (∀ x ∈ l, ¬ x.sku = k) → qtyOf k l = 0
  | [], _ => rfl
  | x :: r, h => by
    show (if x.sku = k then x.qty else 0) + qtyOf k r = 0
    rw [if_neg (h x (List.mem_cons_self ..)), qtyOf_zero fun y hy => h y (List.mem_cons_of_mem _ hy)]
    rfl
theorem qtyOf_alone {k : ByteArray} {e : Ev} (he : e.sku = k) : ∀ {l : List Ev}, l.Nodup → e ∈ l → (∀ x ∈ l, x.sku = k → x = e) → qtyOf k l = e.qty
  | [], _, h, _ => by cases h
  | x :: r, hn, h, ha => by
    obtain ⟨h1, h2⟩ := List.nodup_cons.1 hn
    show (if x.sku = k then x.qty else 0) + qtyOf k r = e.qty
    by_cases hx : x = e
    · subst hx
      rw [if_pos he, qtyOf_zero fun y hy hk => h1 (by rw [← ha y (List.mem_cons_of_mem _ hy) hk]; exact hy)]
      omega
    · have hm : e ∈ r := by
        rcases List.mem_cons.1 h with h | h
        · exact absurd h.symm hx
        · exact h
      rw [if_neg (fun hk => hx (ha x (List.mem_cons_self ..) hk)), qtyOf_alone he h2 hm fun y hy => ha y (List.mem_cons_of_mem _ hy)]
      omega
theorem sets_q {l : List Ev} (hl : OneEach l) {sv : List Int} {name sku : ByteArray} {qty : Int} (h6 : ∀ f ∈ l, SeenBy sv f) : linesQ name (l ++ [sx sv name sku qty true]) sku = qty := by
  have hd : ∀ f ∈ l, ¬ f.o = 6 := fun f hf h => by
    have := (h6 f hf).2.1
    omega
  have h1 : OneEach (l ++ [sx sv name sku qty true]) := by
    intro x hx y hy a b
    rcases List.mem_append.1 hx with hx' | hx' <;> rcases List.mem_append.1 hy with hy' | hy'
    · exact hl x hx' y hy' a b
    · rw [List.mem_singleton.1 hy'] at a
      exact absurd a (hd x hx')
    · rw [List.mem_singleton.1 hx'] at a
      exact absurd a.symm (hd y hy')
    · rw [List.mem_singleton.1 hx', List.mem_singleton.1 hy']
  have hem : sx sv name sku qty true ∈ l ++ [sx sv name sku qty true] := List.mem_append_right _ (List.mem_singleton.2 rfl)
  unfold linesQ
  rw [qtyOf_alone (k := sku) (e := sx sv name sku qty true) rfl (count_nodup _ _)]
  · rfl
  · rw [count_mem h1]
    refine ⟨hem, rfl, fun f hf hg => ?_⟩
    rcases List.mem_append.1 hf with hf | hf
    · have h3 : (1 : Int) ≤ 1 ∧ 1 ≤ ofV f.deps 6 := hg.2.2.2.1
      have h4 := (h6 f hf).2.2.2.1
      omega
    · exact hg.2.2.2.2 (List.mem_singleton.1 hf).symm
  · intro x hx hk
    rw [count_mem h1] at hx
    obtain ⟨h2, h3, h4⟩ := hx
    rcases List.mem_append.1 h2 with h2 | h2
    · refine absurd ⟨rfl, h3.symm, hk.symm, ?_, ?_⟩ (h4 _ hem)
      · exact ⟨(h6 x h2).2.2.1, (h6 x h2).2.2.2.2⟩
      · intro e
        exact hd x h2 (by rw [e]; rfl)
    · exact List.mem_singleton.1 h2

/-- Events, and one more. -/
structure App (W : World) (ao : Option Addr) (n : Nat) (xs : List EvM) (X : EvM) : Prop where
  hn : xs.length = n
  held : HeldE W ao xs
  ok : EvOk W X
namespace App
variable {W V U : World} {ao : Option Addr} {n : Nat} {xs : List EvM} {X : EvM}
theorem one (h : App W ao n xs X) (hV : Sc W V) : EvOk V X := h.ok.below hV.out
theorem ones (h : App W ao n xs X) (hV : Sc W V) : AllOk V [X] := fun x hx => by rw [List.mem_singleton.1 hx]; exact h.one hV
theorem at' (h : App W ao n xs X) (hV : Sc W V) : HeldE V ao xs := h.held.below hV.out
theorem all1 (h : App W ao n xs X) (hV : Sc W V) (hU : Below W.heap.size V U) : AllOk U xs := (h.at' (hV.grown hU)).1
theorem all2 (h : App W ao n xs X) (hV : Sc W V) (hU : Below W.heap.size V U) : AllOk U (xs ++ [X]) := fun x hx => by
  rcases List.mem_append.1 hx with hx | hx
  · exact (h.at' (hV.grown hU)).1 x hx
  · rw [List.mem_singleton.1 hx]
    exact h.one (hV.grown hU)
theorem len (h : App W ao n xs X) : (xs ++ [X]).length = n + 1 := by rw [List.length_append, h.hn]; rfl
theorem hh1 (h : App W ao n xs X) {cs : List Value} (hc : X.cells = cs) : HeldE ((W.alloc (.cells cs.toArray 29)).alloc (.cells #[] 29)).drew (some ⟨W.heap.size, 0, none⟩) [X] := by
  have := (held_new (V := W) (h.ones (Sc.start W))).below ((Below.refl _ _).alloc (Nat.le_refl _) (.cells #[] 29))
  rw [show flatE [X] = cs by rw [show flatE [X] = X.cells ++ [] from rfl, List.append_nil, hc]] at this
  exact this.below (below_dr (Below.refl _ _))
theorem hh2 (h : App W ao n xs X) {cs : List Value} (hc : X.cells = cs) : HeldE ((W.alloc (.cells #[] 29)).alloc (.cells cs.toArray 29)).drew (some ⟨W.heap.size + 1, 0, none⟩) [X] := by
  have := held_new (V := W.alloc (.cells #[] 29)) (h.ones ((Sc.start W).alloc _))
  rw [World.size_alloc, show flatE [X] = cs by rw [show flatE [X] = X.cells ++ [] from rfl, List.append_nil, hc]] at this
  exact this.below (below_dr (Below.refl _ _))
theorem hh3 (h : App W ao n xs X) {cs : List Value} (hc : X.cells = cs) (hV : Sc W V) : HeldE (V.alloc (.cells cs.toArray 29)) (some ⟨V.heap.size, 0, none⟩) [X] := by
  have := held_new (V := V) (h.ones hV)
  rw [show flatE [X] = cs by rw [show flatE [X] = X.cells ++ [] from rfl, List.append_nil, hc]] at this
  exact this
theorem grown (h : App W ao n xs X) {b : Nat} {row : Option Nat} (hh : HeldE V (some ⟨b, 0, none⟩) [X]) (hg : V.grownBy U row) (hne : some b ≠ row) (hU : Sc W U) : HeldE U (some ⟨b, 0, none⟩) [X] := by
  refine ⟨h.ones hU, ?_⟩
  rcases hh.2 with h0 | ⟨b', off, e, h2, h3⟩
  · cases h0
  · cases e
    refine .inr ⟨b, 0, rfl, Nat.lt_of_lt_of_le h2 hg.size, fun j hj c u hu => ?_⟩
    exact hg.cell (h3 j hj c u hu) (by simpa using hne)
end App
end Go.Proofs.Ytdfdgijaekhioaa
