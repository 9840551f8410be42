/-
  Package cart: two.with.
-/
import Derived.Test.YtcammngbhnhjjaaCartBa
import Derived.Test.YtcammngbhnhjjaaCartBb
import Derived.Test.YtcammngbhnhjjaaCartBc
import Derived.Test.YtcammngbhnhjjaaCartBd
import Derived.Test.YtcammngbhnhjjaaDotKey
import Derived.Test.YtcammngbhnhjjaaCartA
import Derived.Lib.Bytealg
import Derived.Sort.Statements
import Derived.Test.YtcammngbhnhjjaaMayA
namespace Go.Proofs.Ytcammngbhnhjjaa
open Go.RowKit Go.Maps

end Go.Proofs.Ytcammngbhnhjjaa
/-
  cart.sight as a map's key. No function of the program is named here.
-/
namespace Go.Proofs.Ytcammngbhnhjjaa
open Go.RowKit Go.Maps

def sightVal (c k : ByteArray) (o : Int) : Value := .agg #[.string c, .string k, .int .i64 o]
/-- What a sight reads as, as a key. -/
def sk (c k : ByteArray) (o : Int) : Lit := .string (keyBytes [.string c.data.toList, .string k.data.toList, .int .i64 o])
end Go.Proofs.Ytcammngbhnhjjaa
/-
  Package cart: lookouts.
-/
namespace Go.Proofs.Ytcammngbhnhjjaa
open Go.RowKit Go.Maps

def twM (c k : ByteArray) (o : Int) (l : List EvM) : TwM := l.foldl (fun t f => if Counts c k o f.e then twWithM t f o else t) zeroTM
theorem twM_snoc (c k : ByteArray) (o : Int) (l : List EvM) (f : EvM) : twM c k o (l ++ [f]) = if Counts c k o f.e then twWithM (twM c k o l) f o else twM c k o l := by
  simp [twM, List.foldl_append]
theorem twM_fold (c k : ByteArray) (o : Int) : ∀ (l : List EvM) (t : TwM), (l.foldl (fun t f => if Counts c k o f.e then twWithM t f o else t) t).tw = (l.map (·.e)).foldl (fun t f => if Counts c k o f then twWith t f o else t) t.tw
  | [], _ => rfl
  | f :: l, t => by
    rw [List.foldl_cons, List.map_cons, List.foldl_cons, twM_fold c k o l]
    congr 1
    split
    · exact twWithM_tw t f o
    · rfl
theorem twM_tw (c k : ByteArray) (o : Int) (l : List EvM) : (twM c k o l).tw = twOf c k o (l.map (·.e)) := twM_fold c k o l zeroTM
theorem twM_ok {w : World} (c k : ByteArray) (o : Int) : ∀ (l : List EvM) (t : TwM), AllOk w l → TwOk w t → TwOk w (l.foldl (fun t f => if Counts c k o f.e then twWithM t f o else t) t)
  | [], _, _, h => h
  | f :: l, t, hl, h => by
    rw [List.foldl_cons]
    refine twM_ok c k o l _ (fun x hx => hl x (List.mem_cons_of_mem _ hx)) ?_
    split
    · exact twWithM_ok h (hl f (List.mem_cons_self ..)) o
    · exact h
/-- What is known behind i events and j numbers of the next one. -/
def midM (l : List EvM) (f : EvM) (j : Nat) (c k : ByteArray) (o : Int) : TwM := if Counts c k o f.e ∧ o < (j : Int) then twWithM (twM c k o l) f o else twM c k o l
theorem midM_zero (l : List EvM) (f : EvM) (c k : ByteArray) (o : Int) : midM l f 0 c k o = twM c k o l := by
  unfold midM
  rw [if_neg]
  rintro ⟨⟨_, _, _, h⟩, h0⟩
  unfold ofV at h
  rw [if_pos (.inl h0)] at h
  exact absurd h (Int.lt_irrefl _)
theorem ofV_lt {xs : List Int} {o : Int} (h : 0 < ofV xs o) : 0 ≤ o ∧ o < (xs.length : Int) := by
  unfold ofV at h
  split at h
  · exact absurd h (Int.lt_irrefl _)
  · next hn => omega
theorem midM_all (l : List EvM) (f : EvM) (c k : ByteArray) (o : Int) : midM l f f.e.deps.length c k o = twM c k o (l ++ [f]) := by
  unfold midM
  rw [twM_snoc]
  by_cases h : Counts c k o f.e
  · rw [if_pos h, if_pos ⟨h, (ofV_lt h.2.2.2).2⟩]
  · rw [if_neg h, if_neg (fun x => h x.1)]
theorem twM_quiet (l : List EvM) (f : EvM) (h : f.e.clears = false) (c k : ByteArray) (o : Int) : twM c k o l = twM c k o (l ++ [f]) := by
  rw [twM_snoc, if_neg]
  rintro ⟨h1, _⟩
  rw [h] at h1
  cases h1
theorem midM_no (l : List EvM) (f : EvM) (j : Nat) (h : ¬ 0 < f.e.deps.getD j 0) (c k : ByteArray) (o : Int) : midM l f (j + 1) c k o = midM l f j c k o := by
  unfold midM
  have : (Counts c k o f.e ∧ o < ((j + 1 : Nat) : Int)) ↔ (Counts c k o f.e ∧ o < (j : Int)) := by
    constructor
    · rintro ⟨h1, h2⟩
      refine ⟨h1, ?_⟩
      apply Classical.byContradiction
      intro hn
      have : o = (j : Int) := by omega
      subst this
      have h3 := h1.2.2.2
      rw [ofV_nat] at h3
      exact h h3
    · rintro ⟨h1, h2⟩
      exact ⟨h1, by omega⟩
  simp only [this]
theorem midM_put (l : List EvM) (f : EvM) (j : Nat) (hc : f.e.clears = true) (h : 0 < f.e.deps.getD j 0) (c k : ByteArray) (o : Int) : midM l f (j + 1) c k o = if c = f.e.cart ∧ k = f.e.sku ∧ o = (j : Int) then twWithM (midM l f j f.e.cart f.e.sku (j : Int)) f (j : Int) else midM l f j c k o := by
  split
  · next he =>
    obtain ⟨rfl, rfl, rfl⟩ := he
    unfold midM
    rw [if_pos ⟨⟨hc, rfl, rfl, by rw [ofV_nat]; exact h⟩, by omega⟩, if_neg (fun x => by have := x.2; omega)]
  · next he =>
    unfold midM
    have : (Counts c k o f.e ∧ o < ((j + 1 : Nat) : Int)) ↔ (Counts c k o f.e ∧ o < (j : Int)) := by
      constructor
      · rintro ⟨h1, h2⟩
        refine ⟨h1, ?_⟩
        apply Classical.byContradiction
        intro hn
        have : o = (j : Int) := by omega
        exact he ⟨h1.2.1.symm, h1.2.2.1.symm, this⟩
      · rintro ⟨h1, h2⟩
        exact ⟨h1, by omega⟩
    simp only [this]
section
variable {w w' : World} {m N N' : Nat} {M M' : ByteArray → ByteArray → Int → TwM}
end
end Go.Proofs.Ytcammngbhnhjjaa
/-
  Package cart: lookouts.
-/
namespace Go.Proofs.Ytcammngbhnhjjaa
open Go.RowKit Go.Maps

theorem take_snoc {xs : List EvM} {k : Nat} (hk : k < xs.length) {X : EvM} (hX : xs[k] = X) : xs.take (k + 1) = xs.take k ++ [X] := by
  rw [List.take_succ_eq_append_getElem hk, hX]
end Go.Proofs.Ytcammngbhnhjjaa
/-
  Package cart: chosen.
-/
namespace Go.Proofs.Ytcammngbhnhjjaa
open Go.RowKit Go.Maps

/-- Those of the first k of xs for which b holds of their place. -/
def selTo (b : Nat → Bool) (xs : List EvM) : Nat → List EvM
  | 0 => []
  | k + 1 => selTo b xs k ++ (if b k = true then [xs.getD k zeroEM] else [])
theorem selTo_len (b : Nat → Bool) (xs : List EvM) : ∀ k, (selTo b xs k).length ≤ k
  | 0 => Nat.le_refl _
  | k + 1 => by
    have := selTo_len b xs k
    unfold selTo
    rw [List.length_append]
    split <;> simp <;> omega
theorem selTo_yes {b : Nat → Bool} {xs : List EvM} {k : Nat} (h : b k = true) (hk : k < xs.length) : selTo b xs (k + 1) = selTo b xs k ++ [xs[k]] := by
  rw [selTo, if_pos h]
  simp [List.getD, List.getElem?_eq_getElem hk]
theorem selTo_no {b : Nat → Bool} {xs : List EvM} {k : Nat} (h : b k = false) : selTo b xs (k + 1) = selTo b xs k := by
  rw [selTo, if_neg (by rw [h]; exact Bool.false_ne_true)]
  simp
theorem selTo_sub (b : Nat → Bool) (xs : List EvM) : ∀ k, k ≤ xs.length → ∀ x ∈ selTo b xs k, x ∈ xs
  | 0, _, x, h => by cases h
  | k + 1, hk, x, h => by
    unfold selTo at h
    rcases List.mem_append.1 h with h | h
    · exact selTo_sub b xs k (by omega) x h
    · split at h
      · obtain rfl := List.mem_singleton.1 h
        simp [List.getD, List.getElem?_eq_getElem (show k < xs.length by omega)]
      · cases h
theorem selTo_filter (f : EvM → Bool) (xs : List EvM) : ∀ k, k ≤ xs.length → selTo (fun i => f (xs.getD i zeroEM)) xs k = (xs.take k).filter f
  | 0, _ => by simp [selTo]
  | k + 1, hk => by
    rw [selTo, selTo_filter f xs k (by omega), List.take_succ_eq_append_getElem (show k < xs.length by omega), List.filter_append]
    congr 1
    have e : xs.getD k zeroEM = xs[k] := by simp [List.getD, List.getElem?_eq_getElem (show k < xs.length by omega)]
    rw [e]
    cases h : f xs[k] <;> simp [h]
/-- What chosen leaves. -/
def Chose (w0 w : World) (FT : Nat → Prop) (ys : List EvM) (e : Ending) (w' : World) : Prop :=
  ∃ v, e = .returned v ∧ w'.ownsRow w.heap.size 33 8 v ys.length (flatE ys) ∧ Turns (fun i => FT i ∨ w.heap.size ≤ i) w w' ∧ Below w0.heap.size w0 w'
structure ChRel (w0 w : World) (FT : Nat → Prop) (I : Nat → World → Prop) (b : Nat → Bool) (xs : List EvM) (out : Value) (k : Nat) (wr : World) : Prop where
  inv : I k wr
  row : wr.ownsRow w.heap.size 33 8 out (selTo b xs k).length (flatE (selTo b xs k))
  turn : Turns (fun i => FT i ∨ w.heap.size ≤ i) w wr
end Go.Proofs.Ytcammngbhnhjjaa
/-
  Package cart: standing.
-/
namespace Go.Proofs.Ytcammngbhnhjjaa
open Go.RowKit Go.Maps

/-- What stands of events in memory. -/
def standM (xs : List EvM) : List EvM := xs.filter fun x => decide (Stands (xs.map (·.e)) x.e)
theorem filter_map_e (f : Ev → Bool) (l : List EvM) : (l.filter fun x => f x.e).map (·.e) = (l.map (·.e)).filter f := by
  induction l with
  | nil => rfl
  | cons x r ih =>
    rw [List.map_cons]
    cases h : f x.e
    · rw [List.filter_cons_of_neg (by simp [h]), List.filter_cons_of_neg (by simp [h]), ih]
    · rw [List.filter_cons_of_pos (by simp [h]), List.filter_cons_of_pos (by simp [h]), List.map_cons, ih]
theorem standM_e (xs : List EvM) : (standM xs).map (·.e) = standOf (xs.map (·.e)) := filter_map_e (fun e => decide (Stands (xs.map fun y : EvM => y.e) e)) xs
/-- What a call that makes a list of events leaves. -/
def MadeE (w : World) (ys : List EvM) (e : Ending) (w' : World) : Prop :=
  ∃ v, e = .returned v ∧ w'.ownsRow w.heap.size 33 8 v ys.length (flatE ys) ∧ Below w.heap.size w w'
end Go.Proofs.Ytcammngbhnhjjaa
/-
  Package cart: what Lines chooses, firsts.
-/
namespace Go.Proofs.Ytcammngbhnhjjaa
open Go.RowKit Go.Maps

/-- The dots of events. -/
def dotsE (l : List EvM) : List (Int × Int) := l.map fun x => (x.e.o, x.e.s)
/-- A map of dots in memory. -/
def MetAt (V : World) (m N : Nat) (ds : List (Int × Int)) : Prop :=
  ∃ D, V.ownsMap Try.prog 31 valR m N D ∧ ∀ o s, I64 o → I64 s → look D (dk o s) = if (o, s) ∈ ds then some (.agg #[]) else none
section
variable {V V' : World} {m N : Nat} {ds : List (Int × Int)}
theorem MetAt.turned {F : Nat → Prop} (h : MetAt V m N ds) (ht : Turns F V V') (hF : ¬ F m) : MetAt V' m N ds := by
  obtain ⟨D, h1, h2⟩ := h
  exact ⟨D, ht.map h1 hF, h2⟩
theorem MetAt.lt (h : MetAt V m N ds) : m < V.heap.size := by
  obtain ⟨D, h1, _⟩ := h
  exact h1.lt
theorem MetAt.new (w : World) : MetAt (w.alloc (.map #[] 0)) w.heap.size 0 [] := ⟨_, World.ownsMap_made w _ _ _, fun _ _ _ _ => by rw [look_empty]; simp⟩
end

/-- Of each dot the first one. -/
def firstsB (xs : List EvM) (i : Nat) : Bool := !decide ((xs.getD i zeroEM).e.o = (xs.getD i zeroEM).e.o ∧ ((xs.getD i zeroEM).e.o, (xs.getD i zeroEM).e.s) ∈ dotsE (xs.take i))
end Go.Proofs.Ytcammngbhnhjjaa
/-
  Package cart: firsts; the choice of a cart's events.
-/
namespace Go.Proofs.Ytcammngbhnhjjaa
open Go.RowKit Go.Maps

theorem firstsFrom_congr : ∀ (l : List Ev) (m m' : List (Int × Int)), (∀ d, d ∈ m ↔ d ∈ m') → firstsFrom m l = firstsFrom m' l
  | [], _, _, _ => rfl
  | x :: r, m, m', h => by
    unfold firstsFrom
    rw [firstsFrom_congr r m m' h, firstsFrom_congr r ((x.o, x.s) :: m) ((x.o, x.s) :: m') (fun d => by simp [h])]
    simp only [h]
def dotAt (xs : List EvM) (i : Nat) : Int × Int := ((xs.getD i zeroEM).e.o, (xs.getD i zeroEM).e.s)
/-- Of each dot the first event, in memory. -/
def firstsM (xs : List EvM) : List EvM := selTo (fun i => !decide (dotAt xs i ∈ dotsE (xs.take i))) xs xs.length
theorem dotsE_take {xs : List EvM} {k : Nat} (hk : k < xs.length) : dotsE (xs.take (k + 1)) = dotsE (xs.take k) ++ [(xs[k].e.o, xs[k].e.s)] := by
  rw [List.take_succ_eq_append_getElem hk, dotsE, List.map_append]
  rfl
theorem dotAt_eq {xs : List EvM} {k : Nat} (hk : k < xs.length) : dotAt xs k = (xs[k].e.o, xs[k].e.s) := by
  simp [dotAt, List.getD, List.getElem?_eq_getElem hk]
theorem firsts_upto (xs : List EvM) : ∀ k, k ≤ xs.length → (selTo (fun i => !decide (dotAt xs i ∈ dotsE (xs.take i))) xs k).map (·.e) ++ firstsFrom (dotsE (xs.take k)) ((xs.drop k).map (·.e)) = firstsFrom [] (xs.map (·.e))
  | 0, _ => by simp [selTo, dotsE]
  | k + 1, hk => by
    have hk' : k < xs.length := by omega
    rw [← firsts_upto xs k (by omega), List.drop_eq_getElem_cons hk', List.map_cons, dotsE_take hk']
    by_cases hm : (xs[k].e.o, xs[k].e.s) ∈ dotsE (xs.take k)
    · rw [selTo_no (by rw [dotAt_eq hk', decide_eq_true hm]; rfl)]
      rw [show firstsFrom (dotsE (xs.take k)) (xs[k].e :: (xs.drop (k + 1)).map (·.e)) = firstsFrom (dotsE (xs.take k)) ((xs.drop (k + 1)).map (·.e)) by rw [firstsFrom, if_pos hm]]
      congr 1
      refine firstsFrom_congr _ _ _ (fun d => ?_)
      simp only [List.mem_append, List.mem_singleton]
      exact ⟨fun h => h.elim id (fun e => by rw [e]; exact hm), .inl⟩
    · rw [selTo_yes (by rw [dotAt_eq hk', decide_eq_false hm]; rfl) hk']
      rw [show firstsFrom (dotsE (xs.take k)) (xs[k].e :: (xs.drop (k + 1)).map (·.e)) = xs[k].e :: firstsFrom ((xs[k].e.o, xs[k].e.s) :: dotsE (xs.take k)) ((xs.drop (k + 1)).map (·.e)) by rw [firstsFrom, if_neg hm]]
      rw [List.map_append, List.append_assoc]
      congr 1
      simp only [List.map_cons, List.map_nil, List.singleton_append, List.cons.injEq, true_and]
      refine firstsFrom_congr _ _ _ (fun d => ?_)
      rw [List.mem_append, List.mem_singleton, List.mem_cons]
      exact ⟨fun h => h.symm, fun h => h.symm⟩
theorem firstsM_e (xs : List EvM) : (firstsM xs).map (·.e) = firstsFrom [] (xs.map (·.e)) := by
  have := firsts_upto xs xs.length (Nat.le_refl _)
  rw [List.drop_length, List.map_nil] at this
  rw [show firstsFrom (dotsE (xs.take xs.length)) [] = [] from rfl, List.append_nil] at this
  exact this
end Go.Proofs.Ytcammngbhnhjjaa
/-
  The order of strings that strings.Compare tells is a strict order. No function of the program is named here.
-/
namespace Go.Proofs.Ytcammngbhnhjjaa

theorem cb_anti : ∀ a b : List UInt8, Lib.compareBytes a b = - Lib.compareBytes b a
  | [], [] => rfl
  | [], _ :: _ => rfl
  | _ :: _, [] => rfl
  | x :: a, y :: b => by
    have ih := cb_anti a b
    simp only [Lib.compareBytes]
    by_cases h1 : x < y
    · have h2 : ¬ y < x := fun h => by rw [UInt8.lt_iff_toNat_lt] at h1 h; omega
      rw [if_pos h1, if_neg h2, if_pos h1]
    · by_cases h2 : y < x
      · rw [if_neg h1, if_pos h2, if_pos h2]
        rfl
      · rw [if_neg h1, if_neg h2, if_neg h2, if_neg h1]
        exact ih
theorem cb_refl (a : List UInt8) : Lib.compareBytes a a = 0 := by
  have := cb_anti a a
  omega
theorem u8_eq {x y : UInt8} (h1 : ¬ x < y) (h2 : ¬ y < x) : x = y := by
  rw [UInt8.lt_iff_toNat_lt] at h1 h2
  exact UInt8.toNat_inj.1 (by omega)
theorem cb_eq : ∀ a b : List UInt8, Lib.compareBytes a b = 0 → a = b
  | [], [], _ => rfl
  | [], _ :: _, h => by simp [Lib.compareBytes] at h
  | _ :: _, [], h => by simp [Lib.compareBytes] at h
  | x :: a, y :: b, h => by
    simp only [Lib.compareBytes] at h
    by_cases h1 : x < y
    · rw [if_pos h1] at h
      cases h
    · by_cases h2 : y < x
      · rw [if_neg h1, if_pos h2] at h
        cases h
      · rw [if_neg h1, if_neg h2] at h
        rw [u8_eq h1 h2, cb_eq a b h]
theorem cb_trans : ∀ a b c : List UInt8, Lib.compareBytes a b < 0 → Lib.compareBytes b c < 0 → Lib.compareBytes a c < 0
  | [], [], _, h, _ => by simp [Lib.compareBytes] at h
  | [], _ :: _, [], _, h => by simp [Lib.compareBytes] at h
  | [], _ :: _, _ :: _, _, _ => by simp [Lib.compareBytes]
  | _ :: _, [], _, h, _ => by simp [Lib.compareBytes] at h
  | _ :: _, _ :: _, [], _, h => by simp [Lib.compareBytes] at h
  | x :: a, y :: b, z :: c, h1, h2 => by
    simp only [Lib.compareBytes] at h1 h2 ⊢
    by_cases e1 : x < y
    · by_cases e2 : y < z
      · have e3 : x < z := by rw [UInt8.lt_iff_toNat_lt] at e1 e2 ⊢; omega
        rw [if_pos e3]
        decide
      · rw [if_neg e2] at h2
        by_cases e4 : z < y
        · rw [if_pos e4] at h2
          cases h2
        · rw [← u8_eq e2 e4, if_pos e1]
          decide
    · rw [if_neg e1] at h1
      by_cases e4 : y < x
      · rw [if_pos e4] at h1
        cases h1
      · rw [if_neg e4] at h1
        rw [u8_eq e1 e4]
        by_cases e2 : y < z
        · rw [if_pos e2]
          decide
        · rw [if_neg e2] at h2 ⊢
          by_cases e5 : z < y
          · rw [if_pos e5] at h2
            cases h2
          · rw [if_neg e5] at h2 ⊢
            exact cb_trans a b c h1 h2
theorem cb_ntrans (a b c : List UInt8) (h1 : ¬ Lib.compareBytes a b < 0) (h2 : ¬ Lib.compareBytes b c < 0) : ¬ Lib.compareBytes a c < 0 := by
  intro h
  have a1 := cb_anti a b
  have a2 := cb_anti b c
  by_cases e1 : Lib.compareBytes a b = 0
  · rw [cb_eq _ _ e1] at h
    exact h2 h
  · have h3 : Lib.compareBytes b a < 0 := by omega
    exact h2 (cb_trans _ _ _ h3 h)
/-- The order of elements by a name. -/
theorem cb_swo {α : Type} (f : α → List UInt8) : Sort.SWO (fun x y : α => decide (Lib.compareBytes (f x) (f y) < 0)) where
  irrefl x := by simp [cb_refl]
  trans x y z h1 h2 := by
    simp at h1 h2 ⊢
    exact cb_trans _ _ _ h1 h2
  ntrans x y z h1 h2 := by
    have := cb_ntrans (f x) (f y) (f z) (by simpa using h1) (by simpa using h2)
    simpa using this
end Go.Proofs.Ytcammngbhnhjjaa
/-
  Lines as lists: by rising articles, those of which there are more than 0; sums of events in a map.
-/
namespace Go.Proofs.Ytcammngbhnhjjaa
open Go.RowKit Go.Maps

/-- A line. -/
abbrev Ln := ByteArray × Int
def lineCells (x : Ln) : List Value := [.string x.1, .int .i64 x.2]
def flatL (xs : List Ln) : List Value := xs.flatMap lineCells
theorem flatL_snoc (xs : List Ln) (x : Ln) : flatL (xs ++ [x]) = flatL xs ++ lineCells x := by simp [flatL]
def cmpS (x y : ByteArray) : Int := Lib.compareBytes x.data.toList y.data.toList
def cmpL (x y : Ln) : Int := cmpS x.1 y.1
theorem cmpS_anti (x y : ByteArray) : cmpS x y = - cmpS y x := cb_anti _ _
theorem cmpS_eq {x y : ByteArray} (h : cmpS x y = 0) : x = y := ByteArray.ext (Array.toList_inj.1 (cb_eq _ _ h))
theorem cmpS_refl (x : ByteArray) : cmpS x x = 0 := cb_refl _
theorem cmpS_trans {x y z : ByteArray} (h : cmpS x y < 0) (k : cmpS y z < 0) : cmpS x z < 0 := cb_trans _ _ _ h k
/-- The lines that f tells. -/
def LinesOf (f : ByteArray → Int) (ls : List Ln) : Prop := ls.Pairwise (fun x y => cmpS x.1 y.1 < 0) ∧ ∀ s q, (s, q) ∈ ls ↔ (0 < q ∧ q = f s)
theorem sorted_eq : ∀ {a b : List Ln}, a.Pairwise (fun x y => cmpS x.1 y.1 < 0) → b.Pairwise (fun x y => cmpS x.1 y.1 < 0) → (∀ x, x ∈ a ↔ x ∈ b) → a = b
  | [], [], _, _, _ => rfl
  | [], y :: b, _, _, h => by have := (h y).2 (List.mem_cons_self ..); cases this
  | x :: a, [], _, _, h => by have := (h x).1 (List.mem_cons_self ..); cases this
  | x :: a, y :: b, ha, hb, h => by
    obtain ⟨ha1, ha2⟩ := List.pairwise_cons.1 ha
    obtain ⟨hb1, hb2⟩ := List.pairwise_cons.1 hb
    have hxy : x = y := by
      rcases List.mem_cons.1 ((h x).1 (List.mem_cons_self ..)) with e | e
      · exact e
      · rcases List.mem_cons.1 ((h y).2 (List.mem_cons_self ..)) with e' | e'
        · exact e'.symm
        · have h1 := hb1 x e
          have h2 := ha1 y e'
          have h3 := cmpS_anti x.1 y.1
          omega
    subst hxy
    congr 1
    refine sorted_eq ha2 hb2 (fun z => ⟨fun hz => ?_, fun hz => ?_⟩)
    · rcases List.mem_cons.1 ((h z).1 (List.mem_cons_of_mem _ hz)) with e | e
      · subst e
        have h1 := ha1 z hz
        rw [cmpS_refl] at h1
        omega
      · exact e
    · rcases List.mem_cons.1 ((h z).2 (List.mem_cons_of_mem _ hz)) with e | e
      · subst e
        have h1 := hb1 z hz
        rw [cmpS_refl] at h1
        omega
      · exact e
theorem linesOf_unique {f g : ByteArray → Int} {a b : List Ln} (ha : LinesOf f a) (hb : LinesOf g b) (h : ∀ s, f s = g s) : a = b :=
  sorted_eq ha.1 hb.1 (fun x => by rw [show x = (x.1, x.2) from rfl, ha.2, hb.2, h])
/-- Sorted, with each article once: strictly rising. -/
theorem rising {ls ss : List Ln} (hp : ls.Perm ss) (hn : (ss.map (·.1)).Nodup) (hw : ls.Pairwise (fun x y => ¬ cmpL y x < 0)) : ls.Pairwise (fun x y => cmpS x.1 y.1 < 0) := by
  have h1 : (ls.map (·.1)).Nodup := (hp.map _).nodup_iff.2 hn
  rw [List.nodup_iff_pairwise_ne, List.pairwise_map] at h1
  refine (hw.and h1).imp ?_
  rintro x y ⟨h2, h3⟩
  have h4 := cmpS_anti x.1 y.1
  have h5 : cmpS x.1 y.1 ≠ 0 := fun e => h3 (cmpS_eq e)
  have h6 : ¬ cmpS y.1 x.1 < 0 := h2
  omega
def posL (x : Ln) : Bool := decide (0 < x.2)
theorem nodup_pos {ss : List Ln} (h : (ss.map (·.1)).Nodup) : ((ss.filter posL).map (·.1)).Nodup := (List.filter_sublist.map _).nodup h

/-- Sums of events in memory. -/
def SumsAt (w : World) (m N : Nat) (D : DataW Value) (l : List Ev) : Prop :=
  w.ownsMap Try.prog 9 valR m N D ∧ ∀ s, s.size ≤ maxLen → look D (key s) = if ∃ e ∈ l, e.sku = s then some (.int .i64 (qtyOf s l)) else none
theorem qtyOf_none {s : ByteArray} : ∀ {l : List Ev}, (¬ ∃ e ∈ l, e.sku = s) → qtyOf s l = 0
  | [], _ => rfl
  | x :: r, h => by
    unfold qtyOf
    rw [if_neg (fun e => h ⟨x, List.mem_cons_self .., e⟩), qtyOf_none (fun ⟨e, he, h1⟩ => h ⟨e, List.mem_cons_of_mem _ he, h1⟩)]
    rfl
theorem qtyOf_some {s : ByteArray} {l : List Ev} (h : qtyOf s l ≠ 0) : ∃ e ∈ l, e.sku = s := Classical.byContradiction fun hn => h (qtyOf_none hn)
section
variable {w w' : World} {m N : Nat} {D : DataW Value} {l : List Ev}
theorem SumsAt.turned {F : Nat → Prop} (h : SumsAt w m N D l) (ht : Turns F w w') (hF : ¬ F m) : SumsAt w' m N D l := ⟨ht.map h.1 hF, h.2⟩
theorem SumsAt.below (h : SumsAt w m N D l) (hb : Below w.heap.size w w') : SumsAt w' m N D l := h.turned (F := fun _ => False) (Turns.of_below hb (Nat.le_refl _)) (fun h => h)
theorem SumsAt.new (w : World) : SumsAt (w.alloc (.map #[] 0)) w.heap.size 0 (.map []) [] := ⟨World.ownsMap_made w _ _ _, fun s _ => by rw [look_empty]; simp⟩
theorem Try.zeroInt' (w : World) : (zeroValue 3).run Try.prog w = .ok (.int .i64 0) w := by kernel_rfl
/-- What a range over the sums yields are the lines. -/
theorem sums_lines (h : SumsAt w m N D l) (hl : ∀ e ∈ l, e.sku.size ≤ maxLen) {ss ls : List Ln} (hc : ∀ s q, (s, q) ∈ ss ↔ s.size ≤ maxLen ∧ look D (key s) = some (.int .i64 q)) (hn : (ss.map (·.1)).Nodup) (hp : ls.Perm (ss.filter posL)) (hw : ls.Pairwise (fun x y => ¬ cmpL y x < 0)) : LinesOf (fun s => qtyOf s l) ls := by
  refine ⟨rising hp (nodup_pos hn) hw, fun s q => ?_⟩
  rw [hp.mem_iff, List.mem_filter, hc]
  unfold posL
  simp only [decide_eq_true_eq]
  constructor
  · rintro ⟨⟨h0, h1⟩, h2⟩
    have h3 := h.2 s h0
    rw [h1] at h3
    split at h3
    · cases h3
      exact ⟨h2, rfl⟩
    · cases h3
  · rintro ⟨h1, rfl⟩
    obtain ⟨e, he, rfl⟩ := qtyOf_some (s := s) (l := l) (by omega)
    rw [h.2 _ (hl e he), if_pos ⟨e, he, rfl⟩]
    exact ⟨⟨hl e he, rfl⟩, h1⟩
end
end Go.Proofs.Ytcammngbhnhjjaa
