/-
  Votes, and the list of who has voted that the law keeps beside: what each call makes of both.
-/
import Derived.Test.YtdceenejijigdaaBallotMeetsW
namespace Go.Proofs.Ytdceenejijigdaa
open Go.RowKit Go.Maps

theorem cntF_add (f : Nat → Bool) (x : Nat) : ∀ k, cntF (addV f x) k = cntF f k + (if x < k ∧ f x = false then 1 else 0)
  | 0 => by simp [cntF]
  | k + 1 => by
    have ih := cntF_add f x k
    show cntF (addV f x) k + _ = cntF f k + _ + _
    rw [ih]
    by_cases hk : k = x
    · subst hk
      have e : addV f k k = true := by simp [addV]
      rw [e]
      cases hf : f k <;> simp
    · have e : addV f x k = f k := by simp [addV, hk]
      rw [e]
      have : x < k ↔ x < k + 1 := by omega
      simp only [this]
      omega
theorem addV_same {f : Nat → Bool} {x : Nat} (h : f x = true) : addV f x = f := by
  funext i
  unfold addV
  split
  · next e => rw [e, h]
  · rfl
def boolsTo (f : Nat → Bool) (N : Nat) : List Value := (List.range N).map fun i => Value.bool (f i)
theorem boolsTo_get {f : Nat → Bool} {N i : Nat} (hi : i < N) : (boolsTo f N)[i]? = some (.bool (f i)) := by simp [boolsTo, hi]
theorem boolsTo_set (f : Nat → Bool) (N x : Nat) : (boolsTo f N).set x (.bool true) = boolsTo (addV f x) N := by
  apply List.ext_getElem?
  intro i
  rw [List.getElem?_set]
  by_cases hi : i < N
  · rw [boolsTo_get hi]
    by_cases hx : x = i
    · subst hx
      rw [if_pos rfl, if_pos (by simp [boolsTo]; exact hi), boolsTo_get hi]
      unfold addV
      rw [if_pos rfl]
    · rw [if_neg hx, boolsTo_get hi]
      unfold addV
      rw [if_neg (fun e => hx e.symm)]
  · have e1 : ∀ g : Nat → Bool, (boolsTo g N)[i]? = none := fun g => by simp [boolsTo]; omega
    rw [e1, e1]
    split
    · rw [if_neg (by simp [boolsTo]; omega)]
    · rfl
theorem allTo_pre (f : Nat → Bool) (i : Nat) : ∀ d, ∃ r, allTo f (i + d) = allTo f i ++ r
  | 0 => ⟨[], by simp⟩
  | d + 1 => by
    obtain ⟨r, hr⟩ := allTo_pre f i d
    refine ⟨r ++ (if f (i + d) then [((i + d : Nat) : Int)] else []), ?_⟩
    show allTo f (i + d) ++ _ = _
    rw [hr, List.append_assoc]
    rfl
theorem allTo_at {f : Nat → Bool} {i N : Nat} (hi : i < N) (hf : f i = true) : (allTo f N)[cntF f i]? = some (i : Int) := by
  obtain ⟨r, hr⟩ := allTo_pre f (i + 1) (N - (i + 1))
  rw [show i + 1 + (N - (i + 1)) = N by omega] at hr
  rw [hr]
  show ((allTo f i ++ _) ++ r)[_]? = _
  rw [hf, if_pos rfl, List.append_assoc, List.getElem?_append_right (by rw [allTo_len]; exact Nat.le_refl _), allTo_len]
  simp
theorem cntF_mono (f : Nat → Bool) {i N : Nat} (hi : i < N) (hf : f i = true) : cntF f i < cntF f N := by
  have h := allTo_at hi hf
  have := (List.getElem?_eq_some_iff.1 h).1
  rw [allTo_len] at this
  exact this
/-- Votes at p, and at h the truths of who has voted. -/
structure V15 (w : World) (p h : Nat) (N : Nat) (f : Nat → Bool) (wr : World) : Prop where
  v : VotesAt wr p (N : Int) f
  b : Blk wr h 4 (boolsTo f N)
  lp : w.heap.size ≤ p
  lh : w.heap.size ≤ h
  bel : Below w.heap.size w wr
theorem V15.ne {w : World} {p h N : Nat} {f : Nat → Bool} {wr : World} (x : V15 w p h N f wr) : p ≠ h := by
  rintro rfl
  have h1 : wr.heap[p]? = some (.cells _ 64 (0, 0)) := x.v.blk
  have h2 : wr.heap[p]? = some (.cells _ 4 (0, 0)) := x.b
  rw [h1] at h2
  injection h2 with h2
  injection h2 with _ h2
  exact absurd h2 (by decide)
theorem V15.below {w : World} {p h N : Nat} {f : Nat → Bool} {wr V : World} (x : V15 w p h N f wr) (hb : Below wr.heap.size wr V) : V15 w p h N f V := ⟨x.v.below hb, x.b.below hb x.b.lt, x.lp, x.lh, bt' x.bel hb⟩
/-- Votes at p whatever, votes at q with f, and at h the truths of f. -/
structure W15 (w : World) (p q h : Nat) (N : Nat) (f : Nat → Bool) (wr : World) : Prop where
  o : ∃ g, VotesAt wr p (N : Int) g
  x : V15 w q h N f wr
  lp : w.heap.size ≤ p
  ne : p ≠ q
  nh : p ≠ h
theorem V15.fork {w : World} {p h N : Nat} {f : Nat → Bool} {wr : World} (x : V15 w p h N f wr) : Calls Try.prog 22 #[.pointer (some ⟨p, 0, none⟩)] wr fun e w' => ∃ q, e = .returned (.pointer (some ⟨q, 0, none⟩)) ∧ W15 w p q h N f w' :=
  (forkV x.v).mono fun _ _ hh => ⟨_, hh.1, ⟨f, x.v.below hh.2.2⟩, ⟨hh.2.1, x.b.below hh.2.2 x.b.lt, x.bel.size, x.lh, bt' x.bel hh.2.2⟩, x.lp, Nat.ne_of_lt x.v.blk.lt, x.ne⟩
theorem W15.add {w : World} {p q h N : Nat} {f : Nat → Bool} {wr : World} (x : W15 w p q h N f wr) (k : Nat) (hk : k < N) : Calls Try.prog 23 #[.pointer (some ⟨p, 0, none⟩), .int .i64 (k : Int)] wr fun e w' => ∃ b, e = .returned (.bool b) ∧ W15 w p q h N f w' := by
  obtain ⟨g, hg⟩ := x.o
  refine (addVotes_in hg k (by omega)).mono fun e w' hh => ⟨_, hh.1, ⟨_, hh.2.1⟩, ⟨x.x.v.turned hh.2.2 (fun e => x.ne e.symm), hh.2.2.blk x.x.b (fun e => x.nh e.symm), x.x.lp, x.x.lh, x.x.bel.trans (hh.2.2.below (fun i hi => by have := x.lp; omega) x.x.bel.size)⟩, x.lp, x.ne, x.nh⟩
/-- Add of a node that there is. -/
theorem V15.add_in {w : World} {p h N : Nat} {f : Nat → Bool} {wr : World} (x : V15 w p h N f wr) (k : Nat) (hk : k < N) : Calls Try.prog 23 #[.pointer (some ⟨p, 0, none⟩), .int .i64 (k : Int)] wr fun e w' => e = .returned (.bool (!f k)) ∧ (VotesAt w' p (N : Int) (addV f k) ∧ Blk w' h 4 (boolsTo f N) ∧ Below w.heap.size w w') :=
  (addVotes_in x.v k (by omega)).mono fun _ _ hh => ⟨hh.1, hh.2.1, hh.2.2.blk x.b (fun e => x.ne e.symm), x.bel.trans (hh.2.2.below (fun i hi => by have := x.lp; omega) x.bel.size)⟩
theorem V15.add_had {w : World} {p h N : Nat} {f : Nat → Bool} {wr : World} (x : V15 w p h N f wr) (k : Nat) (hk : k < N) (hf : f k = true) : Calls Try.prog 23 #[.pointer (some ⟨p, 0, none⟩), .int .i64 (k : Int)] wr fun e w' => e = .returned (.bool false) ∧ V15 w p h N f w' := by
  refine (x.add_in k hk).mono fun e w' hh => ⟨?_, ?_, hh.2.2.1, x.lp, x.lh, hh.2.2.2⟩
  · rw [hh.1, hf]
    rfl
  · have := hh.2.1
    rwa [addV_same hf] at this
theorem V15.new_in {w : World} {p h N : Nat} {f : Nat → Bool} {wr V : World} (x : V15 w p h N f wr) {k : Nat} (hv : VotesAt V p (N : Int) (addV f k)) (hb : Blk V h 4 (boolsTo f N)) (hbel : Below w.heap.size w V) : V15 w p h N (addV f k) (V.setCell ⟨h, k, none⟩ (.bool true)) := by
  refine ⟨hv.turned (F := fun i => i = h) (Turns.setCell (F := fun i => i = h) (a := V) (Turns.refl _ _) (p := ⟨h, k, none⟩) (.inl rfl) _) x.ne, ?_, x.lp, x.lh, hbel.setCell x.lh _⟩
  rw [← boolsTo_set]
  exact hb.set k _
theorem V15.add_out {w : World} {p h N : Nat} {f : Nat → Bool} {wr : World} (x : V15 w p h N f wr) (k : Int) (hk : ¬ (0 ≤ k ∧ k < N)) : Calls Try.prog 23 #[.pointer (some ⟨p, 0, none⟩), .int .i64 k] wr fun e w' => e = .returned (.bool false) ∧ V15 w p h N f w' := by
  refine (addVotes_out x.v k hk).mono fun e w' hh => ⟨hh.1, ?_⟩
  rw [hh.2]
  exact x
theorem enough_iff {N c : Nat} (h : 1 ≤ (N : Int) ∧ (N : Int) ≤ 7) : decide (quorum N ≤ (c : Int)) = decide ((N : Int) / 2 < (c : Int)) := by
  unfold quorum
  rw [if_pos h, Bool.eq_iff_iff]
  simp only [decide_eq_true_eq]
  omega
end Go.Proofs.Ytdceenejijigdaa
