/-
  Package cart: two.with.
-/
import Derived.Test.YtfeoolknpcffcaaCartBa
import Derived.Test.YtfeoolknpcffcaaCartBb
import Derived.Test.YtfeoolknpcffcaaCartBc
import Derived.Test.YtfeoolknpcffcaaCartBd
import Derived.Test.YtfeoolknpcffcaaDotKey
import Derived.Test.YtfeoolknpcffcaaCartA
namespace Go.Proofs.Ytfeoolknpcffcaa
open Go.RowKit Go.Maps

end Go.Proofs.Ytfeoolknpcffcaa
/-
  cart.sight as a map's key. No function of the program is named here.
-/
namespace Go.Proofs.Ytfeoolknpcffcaa
open Go.RowKit Go.Maps

def sightVal (c k : ByteArray) (o : Int) : Value := .agg #[.string c, .string k, .int .i64 o]
/-- What a sight reads as, as a key. -/
def sk (c k : ByteArray) (o : Int) : Lit := .string (keyBytes [.string c.data.toList, .string k.data.toList, .int .i64 o])
end Go.Proofs.Ytfeoolknpcffcaa
/-
  Package cart: lookouts.
-/
namespace Go.Proofs.Ytfeoolknpcffcaa
open Go.RowKit Go.Maps

def twM (c k : ByteArray) (o : Int) (l : List EvM) : TwM := l.foldl (fun t f => if Counts c k o f.e then twWithM t f o else t) zeroTM
theorem twM_snoc (c k : ByteArray) (o : Int) (l : List EvM) (f : EvM) : twM c k o (l ++ [f]) = if Counts c k o f.e then twWithM (twM c k o l) f o else twM c k o l := by
  simp [twM, List.foldl_append]
theorem twM_fold (c k : ByteArray) (o : Int) : ∀ (l : List EvM) (t : TwM), (l.foldl (fun t f => if Counts c k o f.e then twWithM t f o else t) t).tw = (l.map (·.e)).foldl (fun t f => if Counts c k o f then twWith t f o else t) t.tw
  | [], _ => rfl
  | f :: l, t => by
    rw [List.foldl_cons, List.map_cons, List.foldl_cons, twM_fold c k o l]
    congr 1
    split
    · exact twWithM_tw t f o
    · rfl
theorem twM_tw (c k : ByteArray) (o : Int) (l : List EvM) : (twM c k o l).tw = twOf c k o (l.map (·.e)) := twM_fold c k o l zeroTM
theorem twM_ok {w : World} (c k : ByteArray) (o : Int) : ∀ (l : List EvM) (t : TwM), AllOk w l → TwOk w t → TwOk w (l.foldl (fun t f => if Counts c k o f.e then twWithM t f o else t) t)
  | [], _, _, h => h
  | f :: l, t, hl, h => by
    rw [List.foldl_cons]
    refine twM_ok c k o l _ (fun x hx => hl x (List.mem_cons_of_mem _ hx)) ?_
    split
    · exact twWithM_ok h (hl f (List.mem_cons_self ..)) o
    · exact h
/-- What is known behind i events and j numbers of the next one. -/
def midM (l : List EvM) (f : EvM) (j : Nat) (c k : ByteArray) (o : Int) : TwM := if Counts c k o f.e ∧ o < (j : Int) then twWithM (twM c k o l) f o else twM c k o l
theorem midM_zero (l : List EvM) (f : EvM) (c k : ByteArray) (o : Int) : midM l f 0 c k o = twM c k o l := by
  unfold midM
  rw [if_neg]
  rintro ⟨⟨_, _, _, h⟩, h0⟩
  unfold ofV at h
  rw [if_pos (.inl h0)] at h
  exact absurd h (Int.lt_irrefl _)
theorem ofV_lt {xs : List Int} {o : Int} (h : 0 < ofV xs o) : 0 ≤ o ∧ o < (xs.length : Int) := by
  unfold ofV at h
  split at h
  · exact absurd h (Int.lt_irrefl _)
  · next hn => omega
theorem midM_all (l : List EvM) (f : EvM) (c k : ByteArray) (o : Int) : midM l f f.e.deps.length c k o = twM c k o (l ++ [f]) := by
  unfold midM
  rw [twM_snoc]
  by_cases h : Counts c k o f.e
  · rw [if_pos h, if_pos ⟨h, (ofV_lt h.2.2.2).2⟩]
  · rw [if_neg h, if_neg (fun x => h x.1)]
theorem twM_quiet (l : List EvM) (f : EvM) (h : f.e.clears = false) (c k : ByteArray) (o : Int) : twM c k o l = twM c k o (l ++ [f]) := by
  rw [twM_snoc, if_neg]
  rintro ⟨h1, _⟩
  rw [h] at h1
  cases h1
theorem midM_no (l : List EvM) (f : EvM) (j : Nat) (h : ¬ 0 < f.e.deps.getD j 0) (c k : ByteArray) (o : Int) : midM l f (j + 1) c k o = midM l f j c k o := by
  unfold midM
  have : (Counts c k o f.e ∧ o < ((j + 1 : Nat) : Int)) ↔ (Counts c k o f.e ∧ o < (j : Int)) := by
    constructor
    · rintro ⟨h1, h2⟩
      refine ⟨h1, ?_⟩
      apply Classical.byContradiction
      intro hn
      have : o = (j : Int) := by omega
      subst this
      have h3 := h1.2.2.2
      rw [ofV_nat] at h3
      exact h h3
    · rintro ⟨h1, h2⟩
      exact ⟨h1, by omega⟩
  simp only [this]
theorem midM_put (l : List EvM) (f : EvM) (j : Nat) (hc : f.e.clears = true) (h : 0 < f.e.deps.getD j 0) (c k : ByteArray) (o : Int) : midM l f (j + 1) c k o = if c = f.e.cart ∧ k = f.e.sku ∧ o = (j : Int) then twWithM (midM l f j f.e.cart f.e.sku (j : Int)) f (j : Int) else midM l f j c k o := by
  split
  · next he =>
    obtain ⟨rfl, rfl, rfl⟩ := he
    unfold midM
    rw [if_pos ⟨⟨hc, rfl, rfl, by rw [ofV_nat]; exact h⟩, by omega⟩, if_neg (fun x => by have := x.2; omega)]
  · next he =>
    unfold midM
    have : (Counts c k o f.e ∧ o < ((j + 1 : Nat) : Int)) ↔ (Counts c k o f.e ∧ o < (j : Int)) := by
      constructor
      · rintro ⟨h1, h2⟩
        refine ⟨h1, ?_⟩
        apply Classical.byContradiction
        intro hn
        have : o = (j : Int) := by omega
        exact he ⟨h1.2.1.symm, h1.2.2.1.symm, this⟩
      · rintro ⟨h1, h2⟩
        exact ⟨h1, by omega⟩
    simp only [this]
section
variable {w w' : World} {m N N' : Nat} {M M' : ByteArray → ByteArray → Int → TwM}
end
end Go.Proofs.Ytfeoolknpcffcaa
/-
  Package cart: lookouts.
-/
namespace Go.Proofs.Ytfeoolknpcffcaa
open Go.RowKit Go.Maps

theorem take_snoc {xs : List EvM} {k : Nat} (hk : k < xs.length) {X : EvM} (hX : xs[k] = X) : xs.take (k + 1) = xs.take k ++ [X] := by
  rw [List.take_succ_eq_append_getElem hk, hX]
end Go.Proofs.Ytfeoolknpcffcaa
/-
  Package cart: chosen.
-/
namespace Go.Proofs.Ytfeoolknpcffcaa
open Go.RowKit Go.Maps

/-- Those of the first k of xs for which b holds of their place. -/
def selTo (b : Nat → Bool) (xs : List EvM) : Nat → List EvM
  | 0 => []
  | k + 1 => selTo b xs k ++ (if b k = true then [xs.getD k zeroEM] else [])
theorem selTo_len (b : Nat → Bool) (xs : List EvM) : ∀ k, (selTo b xs k).length ≤ k
  | 0 => Nat.le_refl _
  | k + 1 => by
    have := selTo_len b xs k
    unfold selTo
    rw [List.length_append]
    split <;> simp <;> omega
theorem selTo_yes {b : Nat → Bool} {xs : List EvM} {k : Nat} (h : b k = true) (hk : k < xs.length) : selTo b xs (k + 1) = selTo b xs k ++ [xs[k]] := by
  rw [selTo, if_pos h]
  simp [List.getD, List.getElem?_eq_getElem hk]
theorem selTo_no {b : Nat → Bool} {xs : List EvM} {k : Nat} (h : b k = false) : selTo b xs (k + 1) = selTo b xs k := by
  rw [selTo, if_neg (by rw [h]; exact Bool.false_ne_true)]
  simp
theorem selTo_sub (b : Nat → Bool) (xs : List EvM) : ∀ k, k ≤ xs.length → ∀ x ∈ selTo b xs k, x ∈ xs
  | 0, _, x, h => by cases h
  | k + 1, hk, x, h => by
    unfold selTo at h
    rcases List.mem_append.1 h with h | h
    · exact selTo_sub b xs k (by omega) x h
    · split at h
      · obtain rfl := List.mem_singleton.1 h
        simp [List.getD, List.getElem?_eq_getElem (show k < xs.length by omega)]
      · cases h
theorem selTo_filter (f : EvM → Bool) (xs : List EvM) : ∀ k, k ≤ xs.length → selTo (fun i => f (xs.getD i zeroEM)) xs k = (xs.take k).filter f
  | 0, _ => by simp [selTo]
  | k + 1, hk => by
    rw [selTo, selTo_filter f xs k (by omega), List.take_succ_eq_append_getElem (show k < xs.length by omega), List.filter_append]
    congr 1
    have e : xs.getD k zeroEM = xs[k] := by simp [List.getD, List.getElem?_eq_getElem (show k < xs.length by omega)]
    rw [e]
    cases h : f xs[k] <;> simp [h]
/-- What chosen leaves. -/
def Chose (w0 w : World) (FT : Nat → Prop) (ys : List EvM) (e : Ending) (w' : World) : Prop :=
  ∃ v, e = .returned v ∧ w'.ownsRow w.heap.size 33 8 v ys.length (flatE ys) ∧ Turns (fun i => FT i ∨ w.heap.size ≤ i) w w' ∧ Below w0.heap.size w0 w'
structure ChRel (w0 w : World) (FT : Nat → Prop) (I : Nat → World → Prop) (b : Nat → Bool) (xs : List EvM) (out : Value) (k : Nat) (wr : World) : Prop where
  inv : I k wr
  row : wr.ownsRow w.heap.size 33 8 out (selTo b xs k).length (flatE (selTo b xs k))
  turn : Turns (fun i => FT i ∨ w.heap.size ≤ i) w wr
end Go.Proofs.Ytfeoolknpcffcaa
/-
  Package cart: standing.
-/
namespace Go.Proofs.Ytfeoolknpcffcaa
open Go.RowKit Go.Maps

/-- What stands of events in memory. -/
def standM (xs : List EvM) : List EvM := xs.filter fun x => decide (Stands (xs.map (·.e)) x.e)
theorem filter_map_e (f : Ev → Bool) (l : List EvM) : (l.filter fun x => f x.e).map (·.e) = (l.map (·.e)).filter f := by
  induction l with
  | nil => rfl
  | cons x r ih =>
    rw [List.map_cons]
    cases h : f x.e
    · rw [List.filter_cons_of_neg (by simp [h]), List.filter_cons_of_neg (by simp [h]), ih]
    · rw [List.filter_cons_of_pos (by simp [h]), List.filter_cons_of_pos (by simp [h]), List.map_cons, ih]
theorem standM_e (xs : List EvM) : (standM xs).map (·.e) = standOf (xs.map (·.e)) := filter_map_e (fun e => decide (Stands (xs.map fun y : EvM => y.e) e)) xs
/-- What a call that makes a list of events leaves. -/
def MadeE (w : World) (ys : List EvM) (e : Ending) (w' : World) : Prop :=
  ∃ v, e = .returned v ∧ w'.ownsRow w.heap.size 33 8 v ys.length (flatE ys) ∧ Below w.heap.size w w'
end Go.Proofs.Ytfeoolknpcffcaa
/-
  Package cart: what Lines chooses, firsts.
-/
namespace Go.Proofs.Ytfeoolknpcffcaa
open Go.RowKit Go.Maps

/-- The dots of events. -/
def dotsE (l : List EvM) : List (Int × Int) := l.map fun x => (x.e.o, x.e.s)
/-- A map of dots in memory. -/
def MetAt (V : World) (m N : Nat) (ds : List (Int × Int)) : Prop :=
  ∃ D, V.ownsMap Try.prog 31 valR m N D ∧ ∀ o s, I64 o → I64 s → look D (dk o s) = if (o, s) ∈ ds then some (.agg #[]) else none
section
variable {V V' : World} {m N : Nat} {ds : List (Int × Int)}
theorem MetAt.turned {F : Nat → Prop} (h : MetAt V m N ds) (ht : Turns F V V') (hF : ¬ F m) : MetAt V' m N ds := by
  obtain ⟨D, h1, h2⟩ := h
  exact ⟨D, ht.map h1 hF, h2⟩
theorem MetAt.lt (h : MetAt V m N ds) : m < V.heap.size := by
  obtain ⟨D, h1, _⟩ := h
  exact h1.lt
theorem MetAt.new (w : World) : MetAt (w.alloc (.map #[] 0)) w.heap.size 0 [] := ⟨_, World.ownsMap_made w _ _ _, fun _ _ _ _ => by rw [look_empty]; simp⟩
end

/-- Of each dot the first one. -/
def firstsB (xs : List EvM) (i : Nat) : Bool := !decide ((xs.getD i zeroEM).e.o = (xs.getD i zeroEM).e.o ∧ ((xs.getD i zeroEM).e.o, (xs.getD i zeroEM).e.s) ∈ dotsE (xs.take i))
end Go.Proofs.Ytfeoolknpcffcaa
