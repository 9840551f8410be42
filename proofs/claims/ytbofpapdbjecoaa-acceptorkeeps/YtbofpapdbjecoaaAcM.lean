/-
  What an acceptor has, with no memory in it: what it promised, its last votes; what a message makes of it.
-/
import Derived.Test.YtbofpapdbjecoaaSetM
import Derived.Test.YtbofpapdbjecoaaCodY
import Derived.Test.YtbofpapdbjecoaaBalA
namespace Go.Proofs.Ytbofpapdbjecoaa
open Go.RowKit

abbrev Vt := (Int × Int) × En
structure Ac where
  node : Int
  pr : Int × Int
  f : Int → Option Vt
  ks : List Int
theorem leB_trans {a b c : Int × Int} (h : cmpB a b ≤ 0) (k : cmpB b c ≤ 0) : cmpB a c ≤ 0 := by
  have h1 : ¬ LtB b a := fun hh => by have := cmpB_lt.2 hh; rw [cmpB_neg] at this; omega
  have h2 : ¬ LtB c b := fun hh => by have := cmpB_lt.2 hh; rw [cmpB_neg] at this; omega
  have h3 : ¬ LtB c a := by unfold LtB at *; omega
  rcases cmpB_or a c with e | e | e
  · omega
  · omega
  · have : cmpB c a < 0 := by rw [cmpB_neg]; omega
    exact absurd (cmpB_lt.1 this) h3
structure AcOk (a : Ac) : Prop where
  rise : Rises a.ks
  has : ∀ s, s ∈ a.ks ↔ (a.f s).isSome = true
  slot : ∀ s ∈ a.ks, 0 ≤ s ∧ s ≤ 2147483647
  few : a.ks.length ≤ 4096
  right : ∀ s v, a.f s = some v → RightEn v.2 = true ∧ RightBal v.1 = true ∧ cmpB v.1 a.pr ≤ 0
  pr : RightBal a.pr = true
  node : 0 ≤ a.node ∧ a.node ≤ 6
def newAc (n : Int) : Ac := ⟨n, (0, 0), fun _ => none, []⟩
theorem newAc_ok {n : Int} (h : 0 ≤ n ∧ n ≤ 6) : AcOk (newAc n) := ⟨.nil, fun s => by simp [newAc], fun s h => by simp [newAc] at h, by simp [newAc], fun s v h => by simp [newAc] at h, rfl, h⟩
/-- A message that it takes. -/
def takesA (a : Ac) (x : MsM) : Bool := decide (x.to = a.node) && (decide (x.kind = 1 ∨ x.kind = 3) && (RightMs x && decide ((encMs x).length ≤ 65536)))
/-- The kind of its answer. -/
def kindA (a : Ac) (x : MsM) : Int := if 0 < cmpB a.pr x.bal then 5 else if x.kind = 1 then 2 else if a.f x.slot = none ∧ 4096 ≤ a.ks.length then 5 else 4
def changesA (a : Ac) (x : MsM) : Bool := if kindA a x = 2 then decide (x.bal ≠ a.pr) else if kindA a x = 4 then decide (a.f x.slot ≠ some (x.bal, x.en.e)) else false
def promA (a : Ac) (b : Int × Int) : Ac := ⟨a.node, b, a.f, a.ks⟩
def voteA (a : Ac) (s : Int) (v : Vt) : Ac := ⟨a.node, v.1, fun t => if t = s then some v else a.f t, putS a.ks s⟩
def afterA (a : Ac) (x : MsM) : Ac := if kindA a x = 2 then promA a x.bal else if kindA a x = 4 then voteA a x.slot (x.bal, x.en.e) else a
theorem putS_old {l : List Int} (hl : Rises l) {x : Int} (hx : x ∈ l) : putS l x = l :=
  rises_unique (putS_rises hl x) hl (fun y => by rw [putS_mem]; exact ⟨fun h => h.elim id (fun e => e ▸ hx), .inl⟩)
theorem putS_fresh_len {l : List Int} {x : Int} (hx : x ∉ l) : (putS l x).length = l.length + 1 := by
  unfold putS
  rw [if_pos]
  · have := aheadOf_le l x
    simp
    omega
  · by_cases h : aheadOf l x = l.length
    · exact .inl h
    · refine .inr (fun e => hx ?_)
      have hl : aheadOf l x < l.length := by have := aheadOf_le l x; omega
      rw [show l.getD (aheadOf l x) 0 = l[aheadOf l x] by simp [List.getD, List.getElem?_eq_getElem hl]] at e
      rw [← e]
      exact List.getElem_mem hl
theorem promA_ok {a : Ac} (h : AcOk a) {b : Int × Int} (hr : RightBal b = true) (hc : ¬ 0 < cmpB a.pr b) : AcOk (promA a b) :=
  ⟨h.rise, h.has, h.slot, h.few, fun s v hv => ⟨(h.right s v hv).1, (h.right s v hv).2.1, leB_trans (h.right s v hv).2.2 (by show cmpB a.pr b ≤ 0; omega)⟩, hr, h.node⟩
theorem voteA_ok {a : Ac} (h : AcOk a) {s : Int} {v : Vt} (h0 : 0 ≤ s ∧ s ≤ 2147483647) (hr : RightBal v.1 = true) (he : RightEn v.2 = true) (hc : ¬ 0 < cmpB a.pr v.1) (hf : ¬ (a.f s = none ∧ 4096 ≤ a.ks.length)) : AcOk (voteA a s v) := by
  refine ⟨putS_rises h.rise s, fun t => ?_, fun t ht => ?_, ?_, fun t u hu => ?_, hr, h.node⟩
  · show t ∈ putS a.ks s ↔ (if t = s then some v else a.f t).isSome = true
    rw [putS_mem]
    by_cases e : t = s
    · simp [e]
    · rw [if_neg e, ← h.has t]
      simp [e]
  · rcases (putS_mem _ _ _).1 ht with h2 | h2
    · exact h.slot t h2
    · subst h2; exact h0
  · show (putS a.ks s).length ≤ 4096
    by_cases hm : s ∈ a.ks
    · rw [putS_old h.rise hm]; exact h.few
    · rw [putS_fresh_len hm]
      have : a.f s = none := by
        cases hh : a.f s with
        | none => rfl
        | some y => exact absurd ((h.has s).2 (by rw [hh]; rfl)) hm
      have hk : ¬ 4096 ≤ a.ks.length := fun k => hf ⟨this, k⟩
      omega
  · have hu' : (if t = s then some v else a.f t) = some u := hu
    by_cases e : t = s
    · rw [if_pos e] at hu'
      cases hu'
      exact ⟨he, hr, by rw [show (voteA a s v).pr = v.1 from rfl, cmpB_same]; omega⟩
    · rw [if_neg e] at hu'
      have := h.right t u hu'
      exact ⟨this.1, this.2.1, leB_trans this.2.2 (by show cmpB a.pr v.1 ≤ 0; omega)⟩
theorem rightMs_bal {x : MsM} (h : RightMs x = true) : RightBal x.bal = true ∧ RightEn x.en.e = true ∧ (0 ≤ x.slot ∧ x.slot ≤ 2147483647) := by
  unfold RightMs at h
  simp only [Bool.and_eq_true, decide_eq_true_eq] at h
  exact ⟨h.2.2.2.1, h.2.2.2.2.2.1, h.2.2.2.2.1⟩
theorem afterA_ok {a : Ac} (h : AcOk a) {x : MsM} (hr : RightMs x = true) : AcOk (afterA a x) := by
  obtain ⟨h1, h2, h3⟩ := rightMs_bal hr
  unfold afterA kindA
  by_cases hc : 0 < cmpB a.pr x.bal
  · simp only [hc, if_true]
    exact h
  · simp only [hc, if_false]
    by_cases hk : x.kind = 1
    · simp only [hk, if_true]
      exact promA_ok h h1 hc
    · simp only [hk, if_false]
      by_cases hf : a.f x.slot = none ∧ 4096 ≤ a.ks.length
      · simp only [hf, and_self, if_true]
        exact h
      · simp only [hf, if_false]
        exact voteA_ok h h3 h1 h2 hc hf
/-- The votes from a slot on. -/
def fromA (a : Ac) (s : Int) : List (Int × Vt) := (a.ks.filter (fun t => decide (s ≤ t))).map (fun t => (t, (a.f t).getD ((0, 0), noopEn)))
end Go.Proofs.Ytbofpapdbjecoaa
