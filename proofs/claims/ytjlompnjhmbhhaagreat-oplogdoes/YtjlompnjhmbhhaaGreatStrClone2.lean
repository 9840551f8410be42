/-
  Package cart: two.with.
-/
import Derived.Test.YtjlompnjhmbhhaaGreatCartBa
import Derived.Test.YtjlompnjhmbhhaaGreatCartBb
import Derived.Test.YtjlompnjhmbhhaaGreatCartBc
import Derived.Test.YtjlompnjhmbhhaaGreatCartBd
import Derived.Test.YtjlompnjhmbhhaaGreatSealA
import Derived.Test.YtjlompnjhmbhhaaGreatSealI
import Derived.Lib.Bytealg
import Derived.Sort.Statements
import Derived.Shelf.SlSortCmp.InsertionK
import Derived.Laws.AppendOwn
import Derived.Laws.Cover1
import Derived.Shelf.SlSortCmp.WholeK
import Derived.Shelf.Lay
import Derived.Ground.SlsfProg
import Derived.Test.YtjlompnjhmbhhaaGreatRows
import Derived.Test.YtjlompnjhmbhhaaGreatTexts
import Derived.Lib.BufferWrite
import Derived.Lib.UnsafeStr
import Derived.Laws.MakeOwn
namespace Go.Proofs.YtjlompnjhmbhhaaGreat
open Go.RowKit Go.Maps

end Go.Proofs.YtjlompnjhmbhhaaGreat
/-
  cart.sight as a map's key. No function of the program is named here.
-/
namespace Go.Proofs.YtjlompnjhmbhhaaGreat
open Go.RowKit Go.Maps

def sightVal (c k : ByteArray) (o : Int) : Value := .agg #[.string c, .string k, .int .i64 o]
/-- What a sight reads as, as a key. -/
def sk (c k : ByteArray) (o : Int) : Lit := .string (keyBytes [.string c.data.toList, .string k.data.toList, .int .i64 o])
end Go.Proofs.YtjlompnjhmbhhaaGreat
/-
  Package cart: lookouts.
-/
namespace Go.Proofs.YtjlompnjhmbhhaaGreat
open Go.RowKit Go.Maps

def twM (c k : ByteArray) (o : Int) (l : List EvM) : TwM := l.foldl (fun t f => if Counts c k o f.e then twWithM t f o else t) zeroTM
theorem twM_snoc (c k : ByteArray) (o : Int) (l : List EvM) (f : EvM) : twM c k o (l ++ [f]) = if Counts c k o f.e then twWithM (twM c k o l) f o else twM c k o l := by
  simp [twM, List.foldl_append]
theorem twM_fold (c k : ByteArray) (o : Int) : ∀ (l : List EvM) (t : TwM), (l.foldl (fun t f => if Counts c k o f.e then twWithM t f o else t) t).tw = (l.map (·.e)).foldl (fun t f => if Counts c k o f then twWith t f o else t) t.tw
  | [], _ => rfl
  | f :: l, t => by
    rw [List.foldl_cons, List.map_cons, List.foldl_cons, twM_fold c k o l]
    congr 1
    split
    · exact twWithM_tw t f o
    · rfl
theorem twM_tw (c k : ByteArray) (o : Int) (l : List EvM) : (twM c k o l).tw = twOf c k o (l.map (·.e)) := twM_fold c k o l zeroTM
theorem twM_ok {w : World} (c k : ByteArray) (o : Int) : ∀ (l : List EvM) (t : TwM), AllOk w l → TwOk w t → TwOk w (l.foldl (fun t f => if Counts c k o f.e then twWithM t f o else t) t)
  | [], _, _, h => h
  | f :: l, t, hl, h => by
    rw [List.foldl_cons]
    refine twM_ok c k o l _ (fun x hx => hl x (List.mem_cons_of_mem _ hx)) ?_
    split
    · exact twWithM_ok h (hl f (List.mem_cons_self ..)) o
    · exact h
/-- What is known behind i events and j numbers of the next one. -/
def midM (l : List EvM) (f : EvM) (j : Nat) (c k : ByteArray) (o : Int) : TwM := if Counts c k o f.e ∧ o < (j : Int) then twWithM (twM c k o l) f o else twM c k o l
theorem midM_zero (l : List EvM) (f : EvM) (c k : ByteArray) (o : Int) : midM l f 0 c k o = twM c k o l := by
  unfold midM
  rw [if_neg]
  rintro ⟨⟨_, _, _, h⟩, h0⟩
  unfold ofV at h
  rw [if_pos (.inl h0)] at h
  exact absurd h (Int.lt_irrefl _)
theorem ofV_lt {xs : List Int} {o : Int} (h : 0 < ofV xs o) : 0 ≤ o ∧ o < (xs.length : Int) := by
  unfold ofV at h
  split at h
  · exact absurd h (Int.lt_irrefl _)
  · next hn => omega
theorem midM_all (l : List EvM) (f : EvM) (c k : ByteArray) (o : Int) : midM l f f.e.deps.length c k o = twM c k o (l ++ [f]) := by
  unfold midM
  rw [twM_snoc]
  by_cases h : Counts c k o f.e
  · rw [if_pos h, if_pos ⟨h, (ofV_lt h.2.2.2).2⟩]
  · rw [if_neg h, if_neg (fun x => h x.1)]
theorem twM_quiet (l : List EvM) (f : EvM) (h : f.e.clears = false) (c k : ByteArray) (o : Int) : twM c k o l = twM c k o (l ++ [f]) := by
  rw [twM_snoc, if_neg]
  rintro ⟨h1, _⟩
  rw [h] at h1
  cases h1
theorem midM_no (l : List EvM) (f : EvM) (j : Nat) (h : ¬ 0 < f.e.deps.getD j 0) (c k : ByteArray) (o : Int) : midM l f (j + 1) c k o = midM l f j c k o := by
  unfold midM
  have : (Counts c k o f.e ∧ o < ((j + 1 : Nat) : Int)) ↔ (Counts c k o f.e ∧ o < (j : Int)) := by
    constructor
    · rintro ⟨h1, h2⟩
      refine ⟨h1, ?_⟩
      apply Classical.byContradiction
      intro hn
      have : o = (j : Int) := by omega
      subst this
      have h3 := h1.2.2.2
      rw [ofV_nat] at h3
      exact h h3
    · rintro ⟨h1, h2⟩
      exact ⟨h1, by omega⟩
  simp only [this]
theorem midM_put (l : List EvM) (f : EvM) (j : Nat) (hc : f.e.clears = true) (h : 0 < f.e.deps.getD j 0) (c k : ByteArray) (o : Int) : midM l f (j + 1) c k o = if c = f.e.cart ∧ k = f.e.sku ∧ o = (j : Int) then twWithM (midM l f j f.e.cart f.e.sku (j : Int)) f (j : Int) else midM l f j c k o := by
  split
  · next he =>
    obtain ⟨rfl, rfl, rfl⟩ := he
    unfold midM
    rw [if_pos ⟨⟨hc, rfl, rfl, by rw [ofV_nat]; exact h⟩, by omega⟩, if_neg (fun x => by have := x.2; omega)]
  · next he =>
    unfold midM
    have : (Counts c k o f.e ∧ o < ((j + 1 : Nat) : Int)) ↔ (Counts c k o f.e ∧ o < (j : Int)) := by
      constructor
      · rintro ⟨h1, h2⟩
        refine ⟨h1, ?_⟩
        apply Classical.byContradiction
        intro hn
        have : o = (j : Int) := by omega
        exact he ⟨h1.2.1.symm, h1.2.2.1.symm, this⟩
      · rintro ⟨h1, h2⟩
        exact ⟨h1, by omega⟩
    simp only [this]
section
variable {w w' : World} {m N N' : Nat} {M M' : ByteArray → ByteArray → Int → TwM}
end
end Go.Proofs.YtjlompnjhmbhhaaGreat
/-
  Package cart: lookouts.
-/
namespace Go.Proofs.YtjlompnjhmbhhaaGreat
open Go.RowKit Go.Maps

theorem take_snoc {xs : List EvM} {k : Nat} (hk : k < xs.length) {X : EvM} (hX : xs[k] = X) : xs.take (k + 1) = xs.take k ++ [X] := by
  rw [List.take_succ_eq_append_getElem hk, hX]
end Go.Proofs.YtjlompnjhmbhhaaGreat
/-
  Package cart: chosen.
-/
namespace Go.Proofs.YtjlompnjhmbhhaaGreat
open Go.RowKit Go.Maps

/-- Those of the first k of xs for which b holds of their place. -/
def selTo (b : Nat → Bool) (xs : List EvM) : Nat → List EvM
  | 0 => []
  | k + 1 => selTo b xs k ++ (if b k = true then [xs.getD k zeroEM] else [])
theorem selTo_len (b : Nat → Bool) (xs : List EvM) : ∀ k, (selTo b xs k).length ≤ k
  | 0 => Nat.le_refl _
  | k + 1 => by
    have := selTo_len b xs k
    unfold selTo
    rw [List.length_append]
    split <;> simp <;> omega
theorem selTo_yes {b : Nat → Bool} {xs : List EvM} {k : Nat} (h : b k = true) (hk : k < xs.length) : selTo b xs (k + 1) = selTo b xs k ++ [xs[k]] := by
  rw [selTo, if_pos h]
  simp [List.getD, List.getElem?_eq_getElem hk]
theorem selTo_no {b : Nat → Bool} {xs : List EvM} {k : Nat} (h : b k = false) : selTo b xs (k + 1) = selTo b xs k := by
  rw [selTo, if_neg (by rw [h]; exact Bool.false_ne_true)]
  simp
theorem selTo_sub (b : Nat → Bool) (xs : List EvM) : ∀ k, k ≤ xs.length → ∀ x ∈ selTo b xs k, x ∈ xs
  | 0, _, x, h => by cases h
  | k + 1, hk, x, h => by
    unfold selTo at h
    rcases List.mem_append.1 h with h | h
    · exact selTo_sub b xs k (by omega) x h
    · split at h
      · obtain rfl := List.mem_singleton.1 h
        simp [List.getD, List.getElem?_eq_getElem (show k < xs.length by omega)]
      · cases h
theorem selTo_filter (f : EvM → Bool) (xs : List EvM) : ∀ k, k ≤ xs.length → selTo (fun i => f (xs.getD i zeroEM)) xs k = (xs.take k).filter f
  | 0, _ => by simp [selTo]
  | k + 1, hk => by
    rw [selTo, selTo_filter f xs k (by omega), List.take_succ_eq_append_getElem (show k < xs.length by omega), List.filter_append]
    congr 1
    have e : xs.getD k zeroEM = xs[k] := by simp [List.getD, List.getElem?_eq_getElem (show k < xs.length by omega)]
    rw [e]
    cases h : f xs[k] <;> simp [h]
/-- What chosen leaves. -/
def Chose (w0 w : World) (FT : Nat → Prop) (ys : List EvM) (e : Ending) (w' : World) : Prop :=
  ∃ v, e = .returned v ∧ w'.ownsRow w.heap.size 33 8 v ys.length (flatE ys) ∧ Turns (fun i => FT i ∨ w.heap.size ≤ i) w w' ∧ Below w0.heap.size w0 w'
structure ChRel (w0 w : World) (FT : Nat → Prop) (I : Nat → World → Prop) (b : Nat → Bool) (xs : List EvM) (out : Value) (k : Nat) (wr : World) : Prop where
  inv : I k wr
  row : wr.ownsRow w.heap.size 33 8 out (selTo b xs k).length (flatE (selTo b xs k))
  turn : Turns (fun i => FT i ∨ w.heap.size ≤ i) w wr
end Go.Proofs.YtjlompnjhmbhhaaGreat
/-
  Package cart: standing.
-/
namespace Go.Proofs.YtjlompnjhmbhhaaGreat
open Go.RowKit Go.Maps

/-- What stands of events in memory. -/
def standM (xs : List EvM) : List EvM := xs.filter fun x => decide (Stands (xs.map (·.e)) x.e)
theorem filter_map_e (f : Ev → Bool) (l : List EvM) : (l.filter fun x => f x.e).map (·.e) = (l.map (·.e)).filter f := by
  induction l with
  | nil => rfl
  | cons x r ih =>
    rw [List.map_cons]
    cases h : f x.e
    · rw [List.filter_cons_of_neg (by simp [h]), List.filter_cons_of_neg (by simp [h]), ih]
    · rw [List.filter_cons_of_pos (by simp [h]), List.filter_cons_of_pos (by simp [h]), List.map_cons, ih]
theorem standM_e (xs : List EvM) : (standM xs).map (·.e) = standOf (xs.map (·.e)) := filter_map_e (fun e => decide (Stands (xs.map fun y : EvM => y.e) e)) xs
/-- What a call that makes a list of events leaves. -/
def MadeE (w : World) (ys : List EvM) (e : Ending) (w' : World) : Prop :=
  ∃ v, e = .returned v ∧ w'.ownsRow w.heap.size 33 8 v ys.length (flatE ys) ∧ Below w.heap.size w w'
end Go.Proofs.YtjlompnjhmbhhaaGreat
/-
  Package cart: what Lines chooses, firsts.
-/
namespace Go.Proofs.YtjlompnjhmbhhaaGreat
open Go.RowKit Go.Maps

/-- The dots of events. -/
def dotsE (l : List EvM) : List (Int × Int) := l.map fun x => (x.e.o, x.e.s)
/-- A map of dots in memory. -/
def MetAt (V : World) (m N : Nat) (ds : List (Int × Int)) : Prop :=
  ∃ D, V.ownsMap Tryz.prog 25 valR m N D ∧ ∀ o s, I64 o → I64 s → look D (dk o s) = if (o, s) ∈ ds then some (.agg #[]) else none
section
variable {V V' : World} {m N : Nat} {ds : List (Int × Int)}
theorem MetAt.turned {F : Nat → Prop} (h : MetAt V m N ds) (ht : Turns F V V') (hF : ¬ F m) : MetAt V' m N ds := by
  obtain ⟨D, h1, h2⟩ := h
  exact ⟨D, ht.map h1 hF, h2⟩
theorem MetAt.lt (h : MetAt V m N ds) : m < V.heap.size := by
  obtain ⟨D, h1, _⟩ := h
  exact h1.lt
theorem MetAt.new (w : World) : MetAt (w.alloc (.map #[] 0)) w.heap.size 0 [] := ⟨_, World.ownsMap_made w _ _ _, fun _ _ _ _ => by rw [look_empty]; simp⟩
end

/-- Of each dot the first one. -/
def firstsB (xs : List EvM) (i : Nat) : Bool := !decide ((xs.getD i zeroEM).e.o = (xs.getD i zeroEM).e.o ∧ ((xs.getD i zeroEM).e.o, (xs.getD i zeroEM).e.s) ∈ dotsE (xs.take i))
end Go.Proofs.YtjlompnjhmbhhaaGreat
/-
  Package cart: firsts; the choice of a cart's events.
-/
namespace Go.Proofs.YtjlompnjhmbhhaaGreat
open Go.RowKit Go.Maps

theorem firstsFrom_congr : ∀ (l : List Ev) (m m' : List (Int × Int)), (∀ d, d ∈ m ↔ d ∈ m') → firstsFrom m l = firstsFrom m' l
  | [], _, _, _ => rfl
  | x :: r, m, m', h => by
    unfold firstsFrom
    rw [firstsFrom_congr r m m' h, firstsFrom_congr r ((x.o, x.s) :: m) ((x.o, x.s) :: m') (fun d => by simp [h])]
    simp only [h]
def dotAt (xs : List EvM) (i : Nat) : Int × Int := ((xs.getD i zeroEM).e.o, (xs.getD i zeroEM).e.s)
/-- Of each dot the first event, in memory. -/
def firstsM (xs : List EvM) : List EvM := selTo (fun i => !decide (dotAt xs i ∈ dotsE (xs.take i))) xs xs.length
theorem dotsE_take {xs : List EvM} {k : Nat} (hk : k < xs.length) : dotsE (xs.take (k + 1)) = dotsE (xs.take k) ++ [(xs[k].e.o, xs[k].e.s)] := by
  rw [List.take_succ_eq_append_getElem hk, dotsE, List.map_append]
  rfl
theorem dotAt_eq {xs : List EvM} {k : Nat} (hk : k < xs.length) : dotAt xs k = (xs[k].e.o, xs[k].e.s) := by
  simp [dotAt, List.getD, List.getElem?_eq_getElem hk]
theorem firsts_upto (xs : List EvM) : ∀ k, k ≤ xs.length → (selTo (fun i => !decide (dotAt xs i ∈ dotsE (xs.take i))) xs k).map (·.e) ++ firstsFrom (dotsE (xs.take k)) ((xs.drop k).map (·.e)) = firstsFrom [] (xs.map (·.e))
  | 0, _ => by simp [selTo, dotsE]
  | k + 1, hk => by
    have hk' : k < xs.length := by omega
    rw [← firsts_upto xs k (by omega), List.drop_eq_getElem_cons hk', List.map_cons, dotsE_take hk']
    by_cases hm : (xs[k].e.o, xs[k].e.s) ∈ dotsE (xs.take k)
    · rw [selTo_no (by rw [dotAt_eq hk', decide_eq_true hm]; rfl)]
      rw [show firstsFrom (dotsE (xs.take k)) (xs[k].e :: (xs.drop (k + 1)).map (·.e)) = firstsFrom (dotsE (xs.take k)) ((xs.drop (k + 1)).map (·.e)) by rw [firstsFrom, if_pos hm]]
      congr 1
      refine firstsFrom_congr _ _ _ (fun d => ?_)
      simp only [List.mem_append, List.mem_singleton]
      exact ⟨fun h => h.elim id (fun e => by rw [e]; exact hm), .inl⟩
    · rw [selTo_yes (by rw [dotAt_eq hk', decide_eq_false hm]; rfl) hk']
      rw [show firstsFrom (dotsE (xs.take k)) (xs[k].e :: (xs.drop (k + 1)).map (·.e)) = xs[k].e :: firstsFrom ((xs[k].e.o, xs[k].e.s) :: dotsE (xs.take k)) ((xs.drop (k + 1)).map (·.e)) by rw [firstsFrom, if_neg hm]]
      rw [List.map_append, List.append_assoc]
      congr 1
      simp only [List.map_cons, List.map_nil, List.singleton_append, List.cons.injEq, true_and]
      refine firstsFrom_congr _ _ _ (fun d => ?_)
      rw [List.mem_append, List.mem_singleton, List.mem_cons]
      exact ⟨fun h => h.symm, fun h => h.symm⟩
theorem firstsM_e (xs : List EvM) : (firstsM xs).map (·.e) = firstsFrom [] (xs.map (·.e)) := by
  have := firsts_upto xs xs.length (Nat.le_refl _)
  rw [List.drop_length, List.map_nil] at this
  rw [show firstsFrom (dotsE (xs.take xs.length)) [] = [] from rfl, List.append_nil] at this
  exact this
end Go.Proofs.YtjlompnjhmbhhaaGreat
/-
  The order of strings that strings.Compare tells is a strict order. No function of the program is named here.
-/
namespace Go.Proofs.YtjlompnjhmbhhaaGreat

theorem cb_anti : ∀ a b : List UInt8, Lib.compareBytes a b = - Lib.compareBytes b a
  | [], [] => rfl
  | [], _ :: _ => rfl
  | _ :: _, [] => rfl
  | x :: a, y :: b => by
    have ih := cb_anti a b
    simp only [Lib.compareBytes]
    by_cases h1 : x < y
    · have h2 : ¬ y < x := fun h => by rw [UInt8.lt_iff_toNat_lt] at h1 h; omega
      rw [if_pos h1, if_neg h2, if_pos h1]
    · by_cases h2 : y < x
      · rw [if_neg h1, if_pos h2, if_pos h2]
        rfl
      · rw [if_neg h1, if_neg h2, if_neg h2, if_neg h1]
        exact ih
theorem cb_refl (a : List UInt8) : Lib.compareBytes a a = 0 := by
  have := cb_anti a a
  omega
theorem u8_eq {x y : UInt8} (h1 : ¬ x < y) (h2 : ¬ y < x) : x = y := by
  rw [UInt8.lt_iff_toNat_lt] at h1 h2
  exact UInt8.toNat_inj.1 (by omega)
theorem cb_eq : ∀ a b : List UInt8, Lib.compareBytes a b = 0 → a = b
  | [], [], _ => rfl
  | [], _ :: _, h => by simp [Lib.compareBytes] at h
  | _ :: _, [], h => by simp [Lib.compareBytes] at h
  | x :: a, y :: b, h => by
    simp only [Lib.compareBytes] at h
    by_cases h1 : x < y
    · rw [if_pos h1] at h
      cases h
    · by_cases h2 : y < x
      · rw [if_neg h1, if_pos h2] at h
        cases h
      · rw [if_neg h1, if_neg h2] at h
        rw [u8_eq h1 h2, cb_eq a b h]
theorem cb_trans : ∀ a b c : List UInt8, Lib.compareBytes a b < 0 → Lib.compareBytes b c < 0 → Lib.compareBytes a c < 0
  | [], [], _, h, _ => by simp [Lib.compareBytes] at h
  | [], _ :: _, [], _, h => by simp [Lib.compareBytes] at h
  | [], _ :: _, _ :: _, _, _ => by simp [Lib.compareBytes]
  | _ :: _, [], _, h, _ => by simp [Lib.compareBytes] at h
  | _ :: _, _ :: _, [], _, h => by simp [Lib.compareBytes] at h
  | x :: a, y :: b, z :: c, h1, h2 => by
    simp only [Lib.compareBytes] at h1 h2 ⊢
    by_cases e1 : x < y
    · by_cases e2 : y < z
      · have e3 : x < z := by rw [UInt8.lt_iff_toNat_lt] at e1 e2 ⊢; omega
        rw [if_pos e3]
        decide
      · rw [if_neg e2] at h2
        by_cases e4 : z < y
        · rw [if_pos e4] at h2
          cases h2
        · rw [← u8_eq e2 e4, if_pos e1]
          decide
    · rw [if_neg e1] at h1
      by_cases e4 : y < x
      · rw [if_pos e4] at h1
        cases h1
      · rw [if_neg e4] at h1
        rw [u8_eq e1 e4]
        by_cases e2 : y < z
        · rw [if_pos e2]
          decide
        · rw [if_neg e2] at h2 ⊢
          by_cases e5 : z < y
          · rw [if_pos e5] at h2
            cases h2
          · rw [if_neg e5] at h2 ⊢
            exact cb_trans a b c h1 h2
theorem cb_ntrans (a b c : List UInt8) (h1 : ¬ Lib.compareBytes a b < 0) (h2 : ¬ Lib.compareBytes b c < 0) : ¬ Lib.compareBytes a c < 0 := by
  intro h
  have a1 := cb_anti a b
  have a2 := cb_anti b c
  by_cases e1 : Lib.compareBytes a b = 0
  · rw [cb_eq _ _ e1] at h
    exact h2 h
  · have h3 : Lib.compareBytes b a < 0 := by omega
    exact h2 (cb_trans _ _ _ h3 h)
/-- The order of elements by a name. -/
theorem cb_swo {α : Type} (f : α → List UInt8) : Sort.SWO (fun x y : α => decide (Lib.compareBytes (f x) (f y) < 0)) where
  irrefl x := by simp [cb_refl]
  trans x y z h1 h2 := by
    simp at h1 h2 ⊢
    exact cb_trans _ _ _ h1 h2
  ntrans x y z h1 h2 := by
    have := cb_ntrans (f x) (f y) (f z) (by simpa using h1) (by simpa using h2)
    simpa using this
end Go.Proofs.YtjlompnjhmbhhaaGreat
/-
  Lines as lists: by rising articles, those of which there are more than 0; sums of events in a map.
-/
namespace Go.Proofs.YtjlompnjhmbhhaaGreat
open Go.RowKit Go.Maps

/-- A line. -/
abbrev Ln := ByteArray × Int
def lineCells (x : Ln) : List Value := [.string x.1, .int .i64 x.2]
def flatL (xs : List Ln) : List Value := xs.flatMap lineCells
theorem flatL_snoc (xs : List Ln) (x : Ln) : flatL (xs ++ [x]) = flatL xs ++ lineCells x := by simp [flatL]
def cmpS (x y : ByteArray) : Int := Lib.compareBytes x.data.toList y.data.toList
def cmpL (x y : Ln) : Int := cmpS x.1 y.1
theorem cmpS_anti (x y : ByteArray) : cmpS x y = - cmpS y x := cb_anti _ _
theorem cmpS_eq {x y : ByteArray} (h : cmpS x y = 0) : x = y := ByteArray.ext (Array.toList_inj.1 (cb_eq _ _ h))
theorem cmpS_refl (x : ByteArray) : cmpS x x = 0 := cb_refl _
theorem cmpS_trans {x y z : ByteArray} (h : cmpS x y < 0) (k : cmpS y z < 0) : cmpS x z < 0 := cb_trans _ _ _ h k
/-- The lines that f tells. -/
def LinesOf (f : ByteArray → Int) (ls : List Ln) : Prop := ls.Pairwise (fun x y => cmpS x.1 y.1 < 0) ∧ ∀ s q, (s, q) ∈ ls ↔ (0 < q ∧ q = f s)
theorem sorted_eq : ∀ {a b : List Ln}, a.Pairwise (fun x y => cmpS x.1 y.1 < 0) → b.Pairwise (fun x y => cmpS x.1 y.1 < 0) → (∀ x, x ∈ a ↔ x ∈ b) → a = b
  | [], [], _, _, _ => rfl
  | [], y :: b, _, _, h => by have := (h y).2 (List.mem_cons_self ..); cases this
  | x :: a, [], _, _, h => by have := (h x).1 (List.mem_cons_self ..); cases this
  | x :: a, y :: b, ha, hb, h => by
    obtain ⟨ha1, ha2⟩ := List.pairwise_cons.1 ha
    obtain ⟨hb1, hb2⟩ := List.pairwise_cons.1 hb
    have hxy : x = y := by
      rcases List.mem_cons.1 ((h x).1 (List.mem_cons_self ..)) with e | e
      · exact e
      · rcases List.mem_cons.1 ((h y).2 (List.mem_cons_self ..)) with e' | e'
        · exact e'.symm
        · have h1 := hb1 x e
          have h2 := ha1 y e'
          have h3 := cmpS_anti x.1 y.1
          omega
    subst hxy
    congr 1
    refine sorted_eq ha2 hb2 (fun z => ⟨fun hz => ?_, fun hz => ?_⟩)
    · rcases List.mem_cons.1 ((h z).1 (List.mem_cons_of_mem _ hz)) with e | e
      · subst e
        have h1 := ha1 z hz
        rw [cmpS_refl] at h1
        omega
      · exact e
    · rcases List.mem_cons.1 ((h z).2 (List.mem_cons_of_mem _ hz)) with e | e
      · subst e
        have h1 := hb1 z hz
        rw [cmpS_refl] at h1
        omega
      · exact e
theorem linesOf_unique {f g : ByteArray → Int} {a b : List Ln} (ha : LinesOf f a) (hb : LinesOf g b) (h : ∀ s, f s = g s) : a = b :=
  sorted_eq ha.1 hb.1 (fun x => by rw [show x = (x.1, x.2) from rfl, ha.2, hb.2, h])
/-- Sorted, with each article once: strictly rising. -/
theorem rising {ls ss : List Ln} (hp : ls.Perm ss) (hn : (ss.map (·.1)).Nodup) (hw : ls.Pairwise (fun x y => ¬ cmpL y x < 0)) : ls.Pairwise (fun x y => cmpS x.1 y.1 < 0) := by
  have h1 : (ls.map (·.1)).Nodup := (hp.map _).nodup_iff.2 hn
  rw [List.nodup_iff_pairwise_ne, List.pairwise_map] at h1
  refine (hw.and h1).imp ?_
  rintro x y ⟨h2, h3⟩
  have h4 := cmpS_anti x.1 y.1
  have h5 : cmpS x.1 y.1 ≠ 0 := fun e => h3 (cmpS_eq e)
  have h6 : ¬ cmpS y.1 x.1 < 0 := h2
  omega
def posL (x : Ln) : Bool := decide (0 < x.2)
theorem nodup_pos {ss : List Ln} (h : (ss.map (·.1)).Nodup) : ((ss.filter posL).map (·.1)).Nodup := (List.filter_sublist.map _).nodup h

/-- Sums of events in memory. -/
def SumsAt (w : World) (m N : Nat) (D : DataW Value) (l : List Ev) : Prop :=
  w.ownsMap Tryz.prog 9 valR m N D ∧ ∀ s, s.size ≤ maxLen → look D (key s) = if ∃ e ∈ l, e.sku = s then some (.int .i64 (qtyOf s l)) else none
theorem qtyOf_none {s : ByteArray} : ∀ {l : List Ev}, (¬ ∃ e ∈ l, e.sku = s) → qtyOf s l = 0
  | [], _ => rfl
  | x :: r, h => by
    unfold qtyOf
    rw [if_neg (fun e => h ⟨x, List.mem_cons_self .., e⟩), qtyOf_none (fun ⟨e, he, h1⟩ => h ⟨e, List.mem_cons_of_mem _ he, h1⟩)]
    rfl
theorem qtyOf_some {s : ByteArray} {l : List Ev} (h : qtyOf s l ≠ 0) : ∃ e ∈ l, e.sku = s := Classical.byContradiction fun hn => h (qtyOf_none hn)
section
variable {w w' : World} {m N : Nat} {D : DataW Value} {l : List Ev}
theorem SumsAt.turned {F : Nat → Prop} (h : SumsAt w m N D l) (ht : Turns F w w') (hF : ¬ F m) : SumsAt w' m N D l := ⟨ht.map h.1 hF, h.2⟩
theorem SumsAt.below (h : SumsAt w m N D l) (hb : Below w.heap.size w w') : SumsAt w' m N D l := h.turned (F := fun _ => False) (Turns.of_below hb (Nat.le_refl _)) (fun h => h)
theorem SumsAt.new (w : World) : SumsAt (w.alloc (.map #[] 0)) w.heap.size 0 (.map []) [] := ⟨World.ownsMap_made w _ _ _, fun s _ => by rw [look_empty]; simp⟩
theorem Tryz.zeroInt' (w : World) : (zeroValue 3).run Tryz.prog w = .ok (.int .i64 0) w := by kernel_rfl
/-- What a range over the sums yields are the lines. -/
theorem sums_lines (h : SumsAt w m N D l) (hl : ∀ e ∈ l, e.sku.size ≤ maxLen) {ss ls : List Ln} (hc : ∀ s q, (s, q) ∈ ss ↔ s.size ≤ maxLen ∧ look D (key s) = some (.int .i64 q)) (hn : (ss.map (·.1)).Nodup) (hp : ls.Perm (ss.filter posL)) (hw : ls.Pairwise (fun x y => ¬ cmpL y x < 0)) : LinesOf (fun s => qtyOf s l) ls := by
  refine ⟨rising hp (nodup_pos hn) hw, fun s q => ?_⟩
  rw [hp.mem_iff, List.mem_filter, hc]
  unfold posL
  simp only [decide_eq_true_eq]
  constructor
  · rintro ⟨⟨h0, h1⟩, h2⟩
    have h3 := h.2 s h0
    rw [h1] at h3
    split at h3
    · cases h3
      exact ⟨h2, rfl⟩
    · cases h3
  · rintro ⟨h1, rfl⟩
    obtain ⟨e, he, rfl⟩ := qtyOf_some (s := s) (l := l) (by omega)
    rw [h.2 _ (hl e he), if_pos ⟨e, he, rfl⟩]
    exact ⟨⟨hl e he, rfl⟩, h1⟩
end
end Go.Proofs.YtjlompnjhmbhhaaGreat
/-
  A row of elements of k cells, and the world that slices.SortFunc leaves ('sortWorldK'). No function of the program is named here.
-/
namespace Go.Proofs.YtjlompnjhmbhhaaGreat
open Go.RowKit Go.Sort

section
variable {α : Type} [Inhabited α] {enc : α → List Value} {k : Nat}

omit [Inhabited α] in
theorem rflat_len (hk : ∀ x, (enc x).length = k) : ∀ gs : List α, (gs.flatMap enc).length = gs.length * k
  | [] => by simp
  | x :: r => by
    rw [List.flatMap_cons, List.length_append, hk, rflat_len hk r, List.length_cons, Nat.succ_mul]
    omega
theorem rflat_get (hk : ∀ x, (enc x).length = k) (h0 : 0 < k) : ∀ (gs : List α) (j : Nat), j < gs.length * k → (gs.flatMap enc)[j]? = some (enc gs[j / k]!)[j % k]!
  | [], j, h => by simp at h
  | x :: r, j, h => by
    rw [List.flatMap_cons]
    by_cases hj : j < k
    · rw [List.getElem?_append_left (by rw [hk]; exact hj), Nat.div_eq_of_lt hj, Nat.mod_eq_of_lt hj]
      have hl : j < (enc x).length := by rw [hk]; exact hj
      simp [List.getElem?_eq_getElem hl, getElem!_pos (enc x) j hl]
    · obtain ⟨i, rfl⟩ : ∃ i, j = i + k := ⟨j - k, by omega⟩
      have hi : i < r.length * k := by rw [List.length_cons, Nat.succ_mul] at h; omega
      rw [List.getElem?_append_right (by rw [hk]; omega), hk, Nat.add_sub_cancel, rflat_get hk h0 r i hi, Nat.add_div_right _ h0, Nat.add_mod_right]
      simp

theorem flatK_list (hk : ∀ x, (enc x).length = k) (h0 : 0 < k) (gs : List α) (j : Nat) (hj : j < gs.length * k) : (gs.flatMap enc)[j]? = some (flatK enc k gs.toArray)[j]! := by
  rw [rflat_get hk h0 gs j hj, get_flatK enc k gs.toArray j (by simpa using hj)]
  simp

variable {w : World} {B e g cap : Nat} {gs : List α}
theorem holdsK_of_row (hk : ∀ x, (enc x).length = k) (h0 : 0 < k) (hown : w.ownsRow B e k (.slice (some ⟨g, 0, none⟩) gs.length cap) gs.length (gs.flatMap enc)) : HoldsK enc k w g 0 gs.toArray ∧ g < w.heap.size := by
  rcases hown.2 with ⟨h, _⟩ | ⟨g', cap', cur, he, _, hg, hn, _, hsz, htk⟩
  · cases h
  · cases he
    refine ⟨fun j hj => ?_, (Array.getElem?_eq_some_iff.1 hg).1⟩
    have hj' : j < gs.length * k := by simpa using hj
    have h1 : cur.toList[j]? = (gs.flatMap enc)[j]? := by rw [← htk, List.getElem?_take_of_lt hj']
    rw [flatK_list hk h0 gs j hj'] at h1
    constructor
    · simp only [World.cell?, hg, Nat.zero_add]
      simpa using h1
    · simp [World.frozen?, hg]

theorem row_of_sort (hk : ∀ x, (enc x).length = k) (h0 : 0 < k) (hown : w.ownsRow B e k (.slice (some ⟨g, 0, none⟩) gs.length cap) gs.length (gs.flatMap enc)) (hs : List α) (hl : hs.length = gs.length) (n : Nat) (os : Array Obj) :
    (sortWorldK enc k w g 0 n hs.toArray os).ownsRow B e k (.slice (some ⟨g, 0, none⟩) gs.length cap) gs.length (hs.flatMap enc) ∧ w.grownBy (sortWorldK enc k w g 0 n hs.toArray os) (some g) := by
  have hsize : ∀ i, i < w.heap.size → i < (putRowK enc k (Sort.ahead w n) g 0 hs.toArray).heap.size := fun i hi => by
    simpa [putRowK, putRow, mapBlock, Sort.ahead] using hi
  constructor
  · rcases hown.2 with ⟨h, _⟩ | ⟨g', cap', cur, he, hB, hg, hn, hm, hsz, htk⟩
    · cases h
    · cases he
      have hgl := (Array.getElem?_eq_some_iff.1 hg).1
      refine ⟨by rw [rflat_len hk, hl], .inr ⟨g, cap, putCells id 0 (flatK enc k hs.toArray) cur, rfl, hB, ?_, hn, hm, by simpa [putCells] using hsz, ?_⟩⟩
      · unfold sortWorldK
        rw [heap_grow_old _ _ (hsize g hgl)]
        show ((Sort.ahead w n).heap.modify g _)[g]? = _
        rw [Array.getElem?_modify]
        have hg' : (Sort.ahead w n).heap[g]? = some (.cells cur e (0, 0)) := hg
        rw [if_pos rfl, hg']
        rfl
      · apply List.ext_getElem?
        intro j
        by_cases hj : j < gs.length * k
        · rw [List.getElem?_take_of_lt hj, flatK_list hk h0 hs j (by rw [hl]; exact hj)]
          have hc : j < cur.size := by rw [hsz]; exact Nat.lt_of_lt_of_le hj (Nat.mul_le_mul_right k hn)
          have hf : j < (flatK enc k hs.toArray).size := by simpa [hl] using hj
          simp only [putCells, Array.getElem?_toList, Array.getElem?_mapIdx, Nat.zero_le, true_and, Nat.zero_add, Nat.sub_zero, id, hf, if_true]
          rw [Array.getElem?_eq_getElem hc]
          rfl
        · rw [List.getElem?_eq_none (by rw [List.length_take]; omega), List.getElem?_eq_none (by rw [rflat_len hk, hl]; omega)]
  · refine ⟨rfl, rfl, rfl, ?_, fun i hi hne => ?_⟩
    · have : (putRowK enc k (Sort.ahead w n) g 0 hs.toArray).heap.size = w.heap.size := by simp [putRowK, putRow, mapBlock, Sort.ahead]
      unfold sortWorldK grow
      simp [this]
    · unfold sortWorldK
      rw [heap_grow_old _ _ (hsize i hi)]
      show ((Sort.ahead w n).heap.modify g _)[i]? = _
      rw [Array.getElem?_modify, if_neg (fun e => hne (by rw [e]))]
      rfl
end
end Go.Proofs.YtjlompnjhmbhhaaGreat
/-
  Package cart: the order of lines; slices.SortFunc of lines.
-/
namespace Go.Proofs
open Go.Shelf Go.RowKit Go.Lib Go.Sort
end Go.Proofs
namespace Go.Proofs.YtjlompnjhmbhhaaGreat
open Go.Shelf Go.RowKit Go.Lib Go.Sort Go.Maps

theorem bl_cb : ∀ a b : List UInt8, Op.bytesLess a b = decide (Lib.compareBytes a b < 0)
  | [], [] => by simp [Op.bytesLess, Lib.compareBytes]
  | [], _ :: _ => by simp [Op.bytesLess, Lib.compareBytes]
  | _ :: _, [] => by simp [Op.bytesLess, Lib.compareBytes]
  | x :: a, y :: b => by
    simp only [Op.bytesLess, Lib.compareBytes, bl_cb a b]
    by_cases h1 : x < y
    · simp [h1]
    · by_cases h2 : y < x
      · have h3 : ¬ x = y := fun e => by subst e; exact h1 h2
        simp [h1, h2, h3]
      · have h3 : x = y := u8_eq h1 h2
        simp [h3]
theorem cb_vals : ∀ a b : List UInt8, Lib.compareBytes a b = -1 ∨ Lib.compareBytes a b = 0 ∨ Lib.compareBytes a b = 1
  | [], [] => .inr (.inl rfl)
  | [], _ :: _ => .inl rfl
  | _ :: _, [] => .inr (.inr rfl)
  | x :: a, y :: b => by
    simp only [Lib.compareBytes]
    split
    · exact .inl rfl
    · split
      · exact .inr (.inr rfl)
      · exact cb_vals a b
theorem cmpL_swo : Sort.SWO (ltOf cmpL) := cb_swo (fun x : Ln => x.1.data.toList)
end Go.Proofs.YtjlompnjhmbhhaaGreat
/-
  Package cart: Lines.
-/
namespace Go.Proofs.YtjlompnjhmbhhaaGreat
open Go.RowKit Go.Maps

/-- The events of a cart that count, in memory. -/
def mineM (name : ByteArray) (xs : List EvM) : List EvM := xs.filter fun x => decide (x.e.cart = name)
def countM (name : ByteArray) (xs : List EvM) : List EvM := firstsM (standM (mineM name xs))
theorem countM_e (name : ByteArray) (xs : List EvM) : (countM name xs).map (·.e) = countOf name (xs.map (·.e)) := by
  unfold countM countOf ofCart
  rw [firstsM_e, standM_e]
  have := filter_map_e (fun e => decide (e.cart = name)) xs
  unfold mineM
  rw [this]
theorem firstsM_sub (xs : List EvM) : ∀ x ∈ firstsM xs, x ∈ xs := selTo_sub _ xs xs.length (Nat.le_refl _)
theorem firstsM_len (xs : List EvM) : (firstsM xs).length ≤ xs.length := selTo_len _ _ _
theorem standM_sub (xs : List EvM) : ∀ x ∈ standM xs, x ∈ xs := fun _ hx => (List.mem_filter.1 hx).1
theorem standM_len (xs : List EvM) : (standM xs).length ≤ xs.length := List.length_filter_le _ _
theorem mineM_sub (name : ByteArray) (xs : List EvM) : ∀ x ∈ mineM name xs, x ∈ xs := fun _ hx => (List.mem_filter.1 hx).1
theorem mineM_len (name : ByteArray) (xs : List EvM) : (mineM name xs).length ≤ xs.length := List.length_filter_le _ _
theorem countM_sub (name : ByteArray) (xs : List EvM) : ∀ x ∈ countM name xs, x ∈ xs := fun x hx => mineM_sub name xs x (standM_sub _ x (firstsM_sub _ x hx))
theorem countM_len (name : ByteArray) (xs : List EvM) : (countM name xs).length ≤ xs.length := Nat.le_trans (firstsM_len _) (Nat.le_trans (standM_len _) (mineM_len _ _))
/-- While the sums are made. -/
def Summing (w : World) (m : Nat) (v : Value) (c : Nat) (ys : List EvM) (k : Nat) (wr : World) : Prop :=
  (∃ D, SumsAt wr m k D ((ys.take k).map (·.e))) ∧ wr.ownsRow w.heap.size 33 8 v c (flatE ys) ∧ Below w.heap.size w wr
end Go.Proofs.YtjlompnjhmbhhaaGreat
/-
  Package cart: Same, Total, told, Stand; how lines lie in memory.
-/
namespace Go.Proofs.YtjlompnjhmbhhaaGreat
open Go.RowKit Go.Maps

/-- A slice of lines holds ls. -/
def HeldL (w : World) (ao : Option Addr) (ls : List Ln) : Prop :=
  ls = [] ∨ ∃ b off, ao = some ⟨b, off, none⟩ ∧ b < w.heap.size ∧ ∀ j (hj : j < ls.length), w.cell? ⟨b, off + j * 2, none⟩ = some (.string ls[j].1) ∧ w.cell? ⟨b, off + j * 2 + 1, none⟩ = some (.int .i64 ls[j].2)
theorem HeldL.below {w w' : World} {ao : Option Addr} {ls : List Ln} (h : HeldL w ao ls) (hb : Below w.heap.size w w') : HeldL w' ao ls := by
  rcases h with h0 | ⟨b, off, h1, h2, h3⟩
  · exact .inl h0
  · exact .inr ⟨b, off, h1, Nat.lt_of_lt_of_le h2 hb.size, fun j hj => ⟨(hb.cell (p := ⟨b, off + j * 2, none⟩) h2).trans (h3 j hj).1, (hb.cell (p := ⟨b, off + j * 2 + 1, none⟩) h2).trans (h3 j hj).2⟩⟩
theorem HeldL.at {w : World} {ao : Option Addr} {ls : List Ln} (h : HeldL w ao ls) {j : Nat} (hj : j < ls.length) : ∃ b off, ao = some ⟨b, off, none⟩ ∧ w.cell? ⟨b, off + j * 2, none⟩ = some (.string ls[j].1) ∧ w.cell? ⟨b, off + j * 2 + 1, none⟩ = some (.int .i64 ls[j].2) := by
  rcases h with h0 | ⟨b, off, h1, h2, h3⟩
  · subst h0
    cases hj
  · exact ⟨b, off, h1, (h3 j hj).1, (h3 j hj).2⟩
theorem flatL_get : ∀ (xs : List Ln) (j : Nat) (hj : j < xs.length), (flatL xs)[j * 2]? = some (.string xs[j].1) ∧ (flatL xs)[j * 2 + 1]? = some (.int .i64 xs[j].2)
  | [], j, hj => by cases hj
  | x :: r, 0, _ => ⟨rfl, rfl⟩
  | x :: r, j + 1, hj => by
    have := flatL_get r j (by simpa using hj)
    simp only [List.getElem_cons_succ]
    rw [show (j + 1) * 2 = j * 2 + 2 by omega, show j * 2 + 2 + 1 = (j * 2 + 1) + 2 by omega]
    exact this
theorem ext_lines {a b : List Ln} (hl : a.length = b.length) {k : Nat} (hk : ¬ k < a.length) (h : ∀ j (h1 : j < a.length) (h2 : j < b.length), j < k → a[j] = b[j]) : a = b :=
  List.ext_getElem hl fun i h1 h2 => h i h1 h2 (by omega)
end Go.Proofs.YtjlompnjhmbhhaaGreat
/-
  Package cart: Same, Total, told, Stand; the law's of.
-/
namespace Go.Proofs.YtjlompnjhmbhhaaGreat
open Go.RowKit Go.Maps

/-- The sum of all lines. -/
def totalL : List Ln → Int
  | [] => 0
  | x :: r => x.2 + totalL r
theorem totalL_append (a b : List Ln) : totalL (a ++ b) = totalL a + totalL b := by
  induction a with
  | nil => simp [totalL]
  | cons x r ih => simp only [List.cons_append, totalL, ih]; omega
theorem totalL_bd : ∀ {l : List Ln}, (∀ x ∈ l, 0 ≤ x.2 ∧ x.2 ≤ 4194304000) → 0 ≤ totalL l ∧ totalL l ≤ 4194304000 * (l.length : Int)
  | [], _ => by simp [totalL]
  | x :: r, h => by
    have h1 := h x (List.mem_cons_self ..)
    have h2 := totalL_bd (l := r) fun e he => h e (List.mem_cons_of_mem _ he)
    unfold totalL
    rw [List.length_cons]
    omega
/-- How many of an article lines have. -/
def ofL (s : ByteArray) : List Ln → Int
  | [] => 0
  | x :: r => if x.1 = s then x.2 else ofL s r
theorem ofL_skip {s : ByteArray} : ∀ {a : List Ln} (b : List Ln), (∀ x ∈ a, x.1 ≠ s) → ofL s (a ++ b) = ofL s b
  | [], _, _ => rfl
  | x :: r, b, h => by
    rw [List.cons_append, ofL, if_neg (h x (List.mem_cons_self ..)), ofL_skip b (fun y hy => h y (List.mem_cons_of_mem _ hy))]
theorem ofL_mem {s : ByteArray} : ∀ {a : List Ln}, ofL s a ≠ 0 → (s, ofL s a) ∈ a
  | [], h => absurd rfl h
  | x :: r, h => by
    unfold ofL at h ⊢
    split
    · next e => rw [if_pos e] at h; rw [← e]; exact List.mem_cons_self ..
    · next e => rw [if_neg e] at h; exact List.mem_cons_of_mem _ (ofL_mem h)
theorem ofL_zero {s : ByteArray} : ∀ {a : List Ln}, ofL s a = 0 → (∀ x ∈ a, 0 < x.2) → ∀ x ∈ a, x.1 ≠ s
  | [], _, _, x, hx => by cases hx
  | y :: r, h, hp, x, hx => by
    unfold ofL at h
    split at h
    · have := hp y (List.mem_cons_self ..)
      omega
    · next e =>
      rcases List.mem_cons.1 hx with rfl | hx
      · exact e
      · exact ofL_zero h (fun z hz => hp z (List.mem_cons_of_mem _ hz)) x hx
/-- Lines tell what f tells. -/
theorem ofL_lines {f : ByteArray → Int} {ls : List Ln} (h : LinesOf f ls) (hf : ∀ s, 0 ≤ f s) (s : ByteArray) : ofL s ls = f s := by
  by_cases h0 : ofL s ls = 0
  · rw [h0]
    apply Classical.byContradiction
    intro hn
    have h1 := hf s
    exact ofL_zero h0 (fun x hx => ((h.2 x.1 x.2).1 hx).1) (s, f s) ((h.2 s (f s)).2 ⟨by omega, rfl⟩) rfl
  · exact ((h.2 s (ofL s ls)).1 (ofL_mem h0)).2
end Go.Proofs.YtjlompnjhmbhhaaGreat
/-
  Package cart: told, Stand.
-/
namespace Go.Proofs.YtjlompnjhmbhhaaGreat
open Go.RowKit Go.Maps

/-- append([]int(nil), x...): a new row that holds x's numbers. -/
theorem wpList_append_nil {ops : Array Oper} {rest : List Oper} {o : Oper} {a : Act} {Q : Exit → Act → World → Prop} (W : World) (hgd : o.guard = none) (s x : Operand)
    (ho : o.op = .call { callee := .builtin .append, args := #[s, x], argTypes := #[23, 23] })
    (hs : a.eval s = .slice none 0 0) (ao : Option Addr) (c : Nat) (xs : List Int) (n : Nat) (hn : xs.length = n) (hx : a.eval x = .slice ao n c) (hh : HeldInt W ao xs) (hl : xs.length ≤ 17592186044416)
    (h : ∀ bo cp w', HV w' bo cp xs → (∀ b off, bo = some ⟨b, off, none⟩ → W.heap.size ≤ b) → Below W.heap.size W w' → wpList Tryz.prog ops Q rest (a.put o.dst (.slice bo n cp)) w') :
    wpList Tryz.prog ops Q (o :: rest) a W := by
  subst hn
  obtain ⟨iI, hj, hy0, hy1, hy2⟩ := info_parts Tryz.infoInt
  have fin : ∀ (v' : Value) (w' : World), w'.ownsRow W.heap.size 3 1 v' xs.length (ints xs) → Below W.heap.size W w' → wpList Tryz.prog ops Q rest (a.put o.dst v') w' := by
    intro v' w' hown hb
    have hlt := hown.lt
    obtain ⟨eo, cap, rfl, hv⟩ := hv_of_own hown hh.1 hl
    exact h eo cap w' hv (fun b off e => (hlt b (by rw [e]; rfl)).1) hb
  cases ao with
  | none =>
    have hx0 : xs = [] := by
      rcases hh.2 with h0 | ⟨b, off, e, _⟩
      · exact h0
      · cases e
    subst hx0
    refine wpList_plain hgd fun K hK => ?_
    have hr := run_append_noneI (P := Tryz.prog) W W.heap.size 23 o.type 3 iI 1 Tryz.underlying23 hj _ 0 c _ (ownI_nil W W.heap.size)
    unfold Oper.wp execOp
    simp only [ho, resolve, invoke, builtin, Sem.run_bind, Sem.run_pure, Result.andThen_ok, List.map_toArray, List.map_cons, List.map_nil, hs, hx, List.length_nil, hr]
    exact hK _ _ (fin _ _ (ownI_nil W W.heap.size) (Below.refl _ _))
  | some ad =>
    have hnews : ∀ j u, (ints xs)[j]? = some u → W.cell? (ad.add j) = some u := by
      intro j u hu
      rcases hh.2 with h0 | ⟨b, off, e, _⟩
      · subst h0
        simp [ints] at hu
      · cases e
        exact hh.news j u hu
    refine wpList_append_own_at _ hgd s x 23 ho W.heap.size 3 iI (.int .i64 0) 1 8 Tryz.underlying23 hj hy0 hy1 hy2 rfl (by decide) _ 0 (ints []) hs (ownI_nil W W.heap.size) ad xs.length c (ints xs) hx (by rw [ints_len]; omega) hnews (ints_one xs) (by unfold maxLen; omega) (by omega) (Nat.le_refl _) ?_
    intro v' w' hown hgrow _ _
    exact fin v' w' (by simpa [ints] using hown) ((Below.refl _ _).grown hgrow (Nat.le_refl _) (fun k e => by cases e))
theorem row_set {w : World} {B e size g n cap : Nat} {xs : List Value} (h : w.ownsRow B e size (.slice (some ⟨g, 0, none⟩) n cap) n xs) {j : Nat} (u : Value) : (w.setCell ⟨g, j, none⟩ u).ownsRow B e size (.slice (some ⟨g, 0, none⟩) n cap) n (xs.set j u) := by
  refine ⟨by rw [List.length_set]; exact h.1, ?_⟩
  rcases h.2 with ⟨h0, _⟩ | ⟨g', cap', cur, he, hB, hg, hn, hm, hsz, htk⟩
  · cases h0
  · cases he
    have hb : Blk w g e cur.toList := hg
    refine .inr ⟨g, cap, (cur.toList.set j u).toArray, rfl, hB, hb.set j u, hn, hm, by simp [hsz], ?_⟩
    show (cur.toList.set j u).take (n * size) = xs.set j u
    rw [← htk, List.take_set]
theorem row_frozen {w : World} {B e size g n cap : Nat} {xs : List Value} (h : w.ownsRow B e size (.slice (some ⟨g, 0, none⟩) n cap) n xs) (j : Nat) : w.frozen? ⟨g, j, none⟩ = false := by
  rcases h.2 with ⟨h0, _⟩ | ⟨g', cap', cur, he, hB, hg, _⟩
  · cases h0
  · cases he
    exact (show Blk w g e cur.toList from hg).frozen j
theorem flatE_set : ∀ (xs : List EvM) (k : Nat) (hk : k < xs.length) (bo : Option Addr) (cp : Nat), (flatE xs).set (k * 8 + 2) (.slice bo xs[k].e.deps.length cp) = flatE (xs.set k ⟨xs[k].e, bo, cp⟩)
  | [], k, hk, _, _ => by cases hk
  | x :: r, 0, _, bo, cp => by simp [flatE, EvM.cells]
  | x :: r, k + 1, hk, bo, cp => by
    have := flatE_set r k (by simpa using hk) bo cp
    unfold flatE at this ⊢
    simp only [List.getElem_cons_succ, List.set_cons_succ, List.flatMap_cons]
    rw [← this, List.set_append, if_neg (show ¬ (k + 1) * 8 + 2 < x.cells.length by show ¬ _ < 8; omega), show (k + 1) * 8 + 2 - x.cells.length = k * 8 + 2 by show _ - 8 = _; omega]
/-- The vector of x does not lie in block g. -/
def EvOff (g : Nat) (x : EvM) : Prop := ∀ b off, x.ao = some ⟨b, off, none⟩ → x.e.deps ≠ [] → b ≠ g
theorem evOff_of {w : World} {x : EvM} (h : EvOk w x) {g : Nat} (hg : w.heap.size ≤ g) : EvOff g x := by
  intro b off ho hne
  rcases h.deps.held.2 with h0 | ⟨b', off', h1, h2, _⟩
  · exact absurd h0 hne
  · rw [ho] at h1
    cases h1
    omega
theorem EvOk.turned {w w' : World} {x : EvM} {g : Nat} (h : EvOk w x) (ho : EvOff g x) (ht : Turns (fun i => i = g) w w') : EvOk w' x :=
  ⟨⟨h.deps.held.turned ht ho, h.deps.room, h.deps.few⟩, h.io, h.is, h.ie, h.iq, h.hc, h.hs⟩
/-- While vectors are told anew. -/
structure Telling (w : World) (B g n cap : Nat) (xs : List EvM) (wr : World) (ys : List EvM) : Prop where
  same : ys.map (·.e) = xs.map (·.e)
  row : wr.ownsRow B 33 8 (.slice (some ⟨g, 0, none⟩) n cap) n (flatE ys)
  ok : AllOk wr ys
  off : ∀ y ∈ ys, EvOff g y
  turn : Turns (fun i => i = g) w wr
theorem mem_set' {xs : List EvM} {k : Nat} {a x : EvM} (h : x ∈ xs.set k a) : x = a ∨ x ∈ xs := by
  rcases List.mem_or_eq_of_mem_set h with h | h
  · exact .inr h
  · exact .inl h
theorem Telling.step {w wr w2 : World} {B g n cap : Nat} {xs ys : List EvM} (h : Telling w B g n cap xs wr ys) {k : Nat} (hk : k < ys.length) (hb : Below wr.heap.size wr w2) {bo : Option Addr} {cp : Nat} (hv : HV w2 bo cp ys[k].e.deps) (hbo : ∀ b off, bo = some ⟨b, off, none⟩ → wr.heap.size ≤ b) (hg : g < wr.heap.size) :
    Telling w B g n cap xs (w2.setCell ⟨g, k * 8 + 2, none⟩ (.slice bo ys[k].e.deps.length cp)) (ys.set k ⟨ys[k].e, bo, cp⟩) := by
  have ht : Turns (fun i => i = g) w2 (w2.setCell ⟨g, k * 8 + 2, none⟩ (.slice bo ys[k].e.deps.length cp)) := (Turns.refl (fun i => i = g) w2).setCell (p := ⟨g, k * 8 + 2, none⟩) (.inl rfl) _
  have hnew : EvOff g ⟨ys[k].e, bo, cp⟩ := fun b off e _ => by have := hbo b off e; omega
  refine ⟨?_, ?_, fun x hx => ?_, fun x hx => ?_, ?_⟩
  · rw [← h.same, List.map_set]
    apply List.ext_getElem (by simp)
    intro i h1 h2
    rw [List.getElem_set]
    split
    · next e => subst e; simp
    · rfl
  · have := row_set ((Turns.of_below (F := fun _ => False) hb (Nat.le_refl _)).row h.row (fun _ _ h => h)) (j := k * 8 + 2) (.slice bo ys[k].e.deps.length cp)
    rw [flatE_set ys k hk bo cp] at this
    exact this
  · rcases mem_set' hx with rfl | hx
    · have hy := h.ok _ (List.getElem_mem hk)
      exact EvOk.turned (x := ⟨ys[k].e, bo, cp⟩) ⟨hv, hy.io, hy.is, hy.ie, hy.iq, hy.hc, hy.hs⟩ hnew ht
    · exact ((h.ok x hx).below hb).turned (h.off x hx) ht
  · rcases mem_set' hx with rfl | hx
    · exact hnew
    · exact h.off x hx
  · exact (h.turn.trans (Turns.of_below (F := fun _ => False) hb (Nat.le_refl _)) (fun _ hf => hf.elim)).setCell (p := ⟨g, k * 8 + 2, none⟩) (.inl rfl) _
/-- What told leaves. -/
def Told (w : World) (B : Nat) (v : Value) (n : Nat) (xs : List EvM) (e : Ending) (w' : World) : Prop :=
  ∃ ys, e = .returned v ∧ ys.map (·.e) = xs.map (·.e) ∧ w'.ownsRow B 33 8 v n (flatE ys) ∧ AllOk w' ys ∧ Turns (fun i => v.ownBlock = some i) w w'
end Go.Proofs.YtjlompnjhmbhhaaGreat
/-
  strings.Clone answers the same bytes; nothing that was there is written; condition: at most 2^47 bytes.
-/
namespace Go.Proofs.YtjlompnjhmbhhaaGreat
open Go.RowKit


set_option maxRecDepth 100000 in
set_option maxHeartbeats 2000000 in
theorem strCloneLite_any (s : ByteArray) (w : World) (hlim : s.size ≤ 140737488355328) :
    Calls Tryz.prog 71 #[.string s] w fun e w' => e = .returned (.string s) ∧ Below w.heap.size w w' := by
  by_cases h0 : s.size = 0
  · obtain rfl : s = ⟨#[]⟩ := ByteArray.ext (Array.eq_empty_of_size_eq_zero h0)
    go_enter Tryz.func71, Tryz.ntmps71
    go_wp2
    go_ret
    exact ⟨rfl, Below.refl _ _⟩
  obtain ⟨i0, hi, hz0, hz1, hz2⟩ := info_parts Tryz.info5
  have hone : (Tryz.prog.info? 5).map (·.size) = some 1 := by rw [hi]; simp [hz1]
  have hcells : Tryz.prog.cellsOf 5 = 1 := by simp [Program.cellsOf, hi, hz1]
  obtain ⟨M, hM⟩ : ∃ M, M = madeCells (Value.int .u8 0).cells ((s.size : Int).toNat * i0.size) := ⟨_, rfl⟩
  have hmk : ∀ W : World, (Instr.makeSlice 56 (.int .i64 (s.size : Int)) (.int .i64 (s.size : Int))).run Tryz.prog W = .ok (.slice (some ⟨W.heap.size, 0, none⟩) s.size s.size) (W.alloc (.cells M 5)) := fun W => by
    have h := run_make (P := Tryz.prog) W 56 5 i0 (.int .u8 0) Tryz.underlying56 hi hz0 .i64 .i64 (s.size : Int) (s.size : Int) (by omega) (by omega) (by rw [hz2]; omega) (by omega)
    rw [← hM] at h
    simpa using h
  have hMs : M.size = s.size := by rw [hM, size_madeCells, hz1]; simp
  clear hM
  have hcp := Lib.run_copy_row_string (P := Tryz.prog) (w.alloc (.cells M 5)) 56 9 3 5 w.heap.size 0 s.size s.size s M 5 Tryz.underlying56 hone (heap_alloc_new w _) (Nat.le_refl _) (by omega)
  obtain ⟨Y, hY⟩ : ∃ Y, Y = (M.toList.take 0 ++ Lib.byteCells s.data.toList ++ M.toList.drop (0 + s.size)).toArray := ⟨_, rfl⟩
  rw [← hY] at hcp
  have hYl : Y.toList = Lib.byteCells s.data.toList := by rw [hY]; simp [List.drop_of_length_le (show M.toList.length ≤ s.size by simp; omega)]
  clear hY
  have hYs : Y.size = s.size := by rw [← Array.length_toList, hYl, Lib.byteCells_length, ← Lib.size_eq]
  have hgY : ((w.alloc (.cells M 5)).setRow w.heap.size Y).heap[w.heap.size]? = some (.cells Y 5 (0, 0)) := setRow_heap _ _ M _ 5 (0, 0) (heap_alloc_new w _)
  have hne : s.data.toList ≠ [] := fun e => h0 (by rw [Lib.size_eq, e]; rfl)
  have hUS := Lib.run_unsafeString_row (P := Tryz.prog) ((w.alloc (.cells M 5)).setRow w.heap.size Y) 101 3 9 5 Tryz.underlying101 hcells w.heap.size Y.size (by unfold World.shape?; rw [hgY]) s.data.toList hne (by rw [← Lib.size_eq]; omega) (by rw [← Lib.size_eq]; omega)
    (fun j x hx => Lib.cells_of_row hgY Y.size j _ (by rw [List.take_of_length_le (by rw [Array.length_toList]; exact Nat.le_refl _), hYl]; simp [Lib.byteCells, hx]))
  rw [← Lib.size_eq] at hUS
  go_enter Tryz.func71, Tryz.ntmps71
  go_wp2
  go_ret
  have hb2 : Below w.heap.size (w.alloc (.cells M 5)) ((w.alloc (.cells M 5)).setRow w.heap.size Y) := ⟨rfl, rfl, rfl, by simp, fun k hk => setRow_other _ _ _ _ (by omega)⟩
  exact ⟨rfl, Lib.below_freeze (((Below.refl _ w).alloc (Nat.le_refl _) _).trans hb2) (p := ⟨w.heap.size, 0, none⟩) (Nat.le_refl _) _⟩

theorem strClone_any (s : ByteArray) (w : World) (hlim : s.size ≤ 140737488355328) : Calls Tryz.prog 50 #[.string s] w fun e w' => e = .returned (.string s) ∧ Below w.heap.size w w' := by
  go_enter Tryz.func50, Tryz.ntmps50
  go_wp2_with fail
  refine (strCloneLite_any s _ hlim).mono ?_
  rintro e w' ⟨rfl, hb⟩
  go_wp2
  go_ret
  exact ⟨rfl, hb⟩
end Go.Proofs.YtjlompnjhmbhhaaGreat
