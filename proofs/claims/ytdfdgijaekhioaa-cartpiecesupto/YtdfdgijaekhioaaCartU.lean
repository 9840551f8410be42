/-
  Sets of events without clearing ones, in two pieces; the sum of lines. No program is named here.
-/
import Derived.Test.YtdfdgijaekhioaaCartN
namespace Go.Proofs.Ytdfdgijaekhioaa

/-- The sum of all Qtys. -/
def sumQ : List Ev → Int
  | [] => 0
  | e :: r => e.qty + sumQ r
theorem sumQ_append (a b : List Ev) : sumQ (a ++ b) = sumQ a + sumQ b := by
  induction a with
  | nil => simp [sumQ]
  | cons x r ih => simp only [List.cons_append, sumQ, ih]; omega
theorem sumQ_perm {a b : List Ev} (h : a.Perm b) : sumQ a = sumQ b := by
  induction h with
  | nil => rfl
  | cons x _ ih => simp only [sumQ, ih]
  | swap x y l => simp only [sumQ]; omega
  | trans _ _ h1 h2 => exact h1.trans h2
/-- The sum over articles. -/
def overK (l : List Ev) : List ByteArray → Int
  | [] => 0
  | k :: r => qtyOf k l + overK l r
theorem overK_nil (ks : List ByteArray) : overK [] ks = 0 := by
  induction ks with
  | nil => rfl
  | cons k r ih => simp [overK, qtyOf, ih]
instance memDec (k : ByteArray) : (ks : List ByteArray) → Decidable (k ∈ ks)
  | [] => isFalse (by simp)
  | x :: r => by
    have := memDec k r
    exact decidable_of_iff (k = x ∨ k ∈ r) List.mem_cons.symm
theorem overK_cons (e : Ev) (l : List Ev) : ∀ (ks : List ByteArray), ks.Nodup → overK (e :: l) ks = (if e.sku ∈ ks then e.qty else 0) + overK l ks
  | [], _ => by simp [overK]
  | k :: r, h => by
    obtain ⟨h1, h2⟩ := List.nodup_cons.1 h
    simp only [overK, qtyOf, overK_cons e l r h2]
    by_cases hk : e.sku = k
    · subst hk
      rw [if_pos rfl, if_neg h1, if_pos (List.mem_cons_self ..)]
      omega
    · rw [if_neg hk]
      by_cases hr : e.sku ∈ r
      · rw [if_pos hr, if_pos (List.mem_cons_of_mem _ hr)]
        omega
      · rw [if_neg hr, if_neg (fun hm => by rcases List.mem_cons.1 hm with h | h; exact hk h; exact hr h)]
        omega
theorem qtyOf_zero {k : ByteArray} : ∀ {l : List Ev}, (∀ e ∈ l, 0 ≤ e.qty) → qtyOf k l ≤ 0 → ∀ e ∈ l, e.sku = k → e.qty = 0
  | [], _, _, e, he, _ => by cases he
  | x :: r, h, hz, e, he, hk => by
    have h1 := h x (List.mem_cons_self ..)
    have h2 := qtyOf_nonneg (k := k) (l := r) fun y hy => h y (List.mem_cons_of_mem _ hy)
    unfold qtyOf at hz
    rcases List.mem_cons.1 he with rfl | he
    · rw [if_pos hk] at hz
      omega
    · refine qtyOf_zero (fun y hy => h y (List.mem_cons_of_mem _ hy)) ?_ e he hk
      split at hz <;> omega
theorem overK_all : ∀ {l : List Ev} {ks : List ByteArray}, ks.Nodup → (∀ e ∈ l, e.sku ∉ ks → e.qty = 0) → overK l ks = sumQ l
  | [], ks, _, _ => overK_nil ks
  | e :: l, ks, hn, h => by
    rw [overK_cons e l ks hn, overK_all hn (fun x hx => h x (List.mem_cons_of_mem _ hx)), sumQ]
    by_cases hk : e.sku ∈ ks
    · rw [if_pos hk]
    · rw [if_neg hk, h e (List.mem_cons_self ..) hk]
/-- What lines have together is what the events have. -/
theorem total_lines {l : List Ev} {ls : List Ln} (h : LinesOf (fun s => qtyOf s l) ls) (hq : ∀ e ∈ l, 0 ≤ e.qty) : totalL ls = sumQ l := by
  have hn : (ls.map (·.1)).Nodup := by
    rw [List.nodup_iff_pairwise_ne, List.pairwise_map]
    refine h.1.imp ?_
    intro x y hxy e
    rw [e, cmpS_refl] at hxy
    omega
  have h1 : ∀ (m : List Ln), (∀ x ∈ m, x.2 = qtyOf x.1 l) → totalL m = overK l (m.map (·.1)) := by
    intro m hm
    induction m with
    | nil => rfl
    | cons x r ih =>
      rw [List.map_cons, totalL, overK, hm x (List.mem_cons_self ..), ih (fun y hy => hm y (List.mem_cons_of_mem _ hy))]
  rw [h1 ls (fun x hx => ((h.2 x.1 x.2).1 hx).2)]
  refine overK_all hn (fun e he hk => ?_)
  have h2 : ¬ 0 < qtyOf e.sku l := fun hp => hk (List.mem_map.2 ⟨(e.sku, qtyOf e.sku l), (h.2 _ _).2 ⟨hp, rfl⟩, rfl⟩)
  exact qtyOf_zero hq (by omega) e he rfl
/-- Two pieces of events that clear nothing. -/
theorem pieces_perm {l a b : List Ev} (hl : OneEach l) (hc : ∀ e ∈ l, e.clears = false) (p : Ev → Bool) (ha : ∀ e, e ∈ a ↔ e ∈ l ∧ p e = true) (hb : ∀ e, e ∈ b ↔ e ∈ l ∧ p e = false) (c : ByteArray) : (countOf c l).Perm (countOf c a ++ countOf c b) := by
  have ha1 : OneEach a := hl.sub fun e he => ((ha e).1 he).1
  have hb1 : OneEach b := hl.sub fun e he => ((hb e).1 he).1
  have hst : ∀ (m : List Ev), (∀ e ∈ m, e ∈ l) → ∀ e, Stands m e := fun m hm e f hf hg => by
    have := hg.1
    rw [hc f (hm f hf)] at this
    cases this
  refine perm_of_mem (count_nodup _ _) ?_ (fun e => ?_)
  · refine List.nodup_append.2 ⟨count_nodup _ _, count_nodup _ _, fun x hx y hy e => ?_⟩
    subst e
    have h1 := ((ha x).1 ((count_mem ha1 x).1 hx).1).2
    have h2 := ((hb x).1 ((count_mem hb1 x).1 hy).1).2
    rw [h1] at h2
    cases h2
  · rw [List.mem_append, count_mem hl, count_mem ha1, count_mem hb1, ha, hb]
    constructor
    · rintro ⟨h1, h2, _⟩
      cases hp : p e
      · exact .inr ⟨⟨h1, rfl⟩, h2, hst b (fun e he => ((hb e).1 he).1) e⟩
      · exact .inl ⟨⟨h1, rfl⟩, h2, hst a (fun e he => ((ha e).1 he).1) e⟩
    · rintro (⟨⟨h1, _⟩, h2, _⟩ | ⟨⟨h1, _⟩, h2, _⟩)
      · exact ⟨h1, h2, hst l (fun e he => he) e⟩
      · exact ⟨h1, h2, hst l (fun e he => he) e⟩
end Go.Proofs.Ytdfdgijaekhioaa
