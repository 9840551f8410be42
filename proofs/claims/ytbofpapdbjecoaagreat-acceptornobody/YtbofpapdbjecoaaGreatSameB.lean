/-
  What an acceptor has, with no memory in it: what it promised, its last votes; what a message makes of it.
-/
import Derived.Test.YtbofpapdbjecoaaGreatSetM
import Derived.Test.YtbofpapdbjecoaaGreatCodY
import Derived.Test.YtbofpapdbjecoaaGreatBalA
import Derived.Test.YtbofpapdbjecoaaGreatVoA
namespace Go.Proofs.YtbofpapdbjecoaaGreat
open Go.RowKit

abbrev Vt := (Int × Int) × En
structure Ac where
  node : Int
  pr : Int × Int
  f : Int → Option Vt
  ks : List Int
theorem leB_trans {a b c : Int × Int} (h : cmpB a b ≤ 0) (k : cmpB b c ≤ 0) : cmpB a c ≤ 0 := by
  have h1 : ¬ LtB b a := fun hh => by have := cmpB_lt.2 hh; rw [cmpB_neg] at this; omega
  have h2 : ¬ LtB c b := fun hh => by have := cmpB_lt.2 hh; rw [cmpB_neg] at this; omega
  have h3 : ¬ LtB c a := by unfold LtB at *; omega
  rcases cmpB_or a c with e | e | e
  · omega
  · omega
  · have : cmpB c a < 0 := by rw [cmpB_neg]; omega
    exact absurd (cmpB_lt.1 this) h3
structure AcOk (a : Ac) : Prop where
  rise : Rises a.ks
  has : ∀ s, s ∈ a.ks ↔ (a.f s).isSome = true
  slot : ∀ s ∈ a.ks, 0 ≤ s ∧ s ≤ 2147483647
  few : a.ks.length ≤ 4096
  right : ∀ s v, a.f s = some v → RightEn v.2 = true ∧ RightBal v.1 = true ∧ cmpB v.1 a.pr ≤ 0
  pr : RightBal a.pr = true
  node : 0 ≤ a.node ∧ a.node ≤ 6
def newAc (n : Int) : Ac := ⟨n, (0, 0), fun _ => none, []⟩
theorem newAc_ok {n : Int} (h : 0 ≤ n ∧ n ≤ 6) : AcOk (newAc n) := ⟨.nil, fun s => by simp [newAc], fun s h => by simp [newAc] at h, by simp [newAc], fun s v h => by simp [newAc] at h, rfl, h⟩
/-- A message that it takes. -/
def takesA (a : Ac) (x : MsM) : Bool := decide (x.to = a.node) && (decide (x.kind = 1 ∨ x.kind = 3) && (RightMs x && decide ((encMs x).length ≤ 65536)))
/-- The kind of its answer. -/
def kindA (a : Ac) (x : MsM) : Int := if 0 < cmpB a.pr x.bal then 5 else if x.kind = 1 then 2 else if a.f x.slot = none ∧ 4096 ≤ a.ks.length then 5 else 4
def changesA (a : Ac) (x : MsM) : Bool := if kindA a x = 2 then decide (x.bal ≠ a.pr) else if kindA a x = 4 then decide (a.f x.slot ≠ some (x.bal, x.en.e)) else false
def promA (a : Ac) (b : Int × Int) : Ac := ⟨a.node, b, a.f, a.ks⟩
def voteA (a : Ac) (s : Int) (v : Vt) : Ac := ⟨a.node, v.1, fun t => if t = s then some v else a.f t, putS a.ks s⟩
def afterA (a : Ac) (x : MsM) : Ac := if kindA a x = 2 then promA a x.bal else if kindA a x = 4 then voteA a x.slot (x.bal, x.en.e) else a
theorem putS_old {l : List Int} (hl : Rises l) {x : Int} (hx : x ∈ l) : putS l x = l :=
  rises_unique (putS_rises hl x) hl (fun y => by rw [putS_mem]; exact ⟨fun h => h.elim id (fun e => e ▸ hx), .inl⟩)
theorem putS_fresh_len {l : List Int} {x : Int} (hx : x ∉ l) : (putS l x).length = l.length + 1 := by
  unfold putS
  rw [if_pos]
  · have := aheadOf_le l x
    simp
    omega
  · by_cases h : aheadOf l x = l.length
    · exact .inl h
    · refine .inr (fun e => hx ?_)
      have hl : aheadOf l x < l.length := by have := aheadOf_le l x; omega
      rw [show l.getD (aheadOf l x) 0 = l[aheadOf l x] by simp [List.getD, List.getElem?_eq_getElem hl]] at e
      rw [← e]
      exact List.getElem_mem hl
theorem promA_ok {a : Ac} (h : AcOk a) {b : Int × Int} (hr : RightBal b = true) (hc : ¬ 0 < cmpB a.pr b) : AcOk (promA a b) :=
  ⟨h.rise, h.has, h.slot, h.few, fun s v hv => ⟨(h.right s v hv).1, (h.right s v hv).2.1, leB_trans (h.right s v hv).2.2 (by show cmpB a.pr b ≤ 0; omega)⟩, hr, h.node⟩
theorem voteA_ok {a : Ac} (h : AcOk a) {s : Int} {v : Vt} (h0 : 0 ≤ s ∧ s ≤ 2147483647) (hr : RightBal v.1 = true) (he : RightEn v.2 = true) (hc : ¬ 0 < cmpB a.pr v.1) (hf : ¬ (a.f s = none ∧ 4096 ≤ a.ks.length)) : AcOk (voteA a s v) := by
  refine ⟨putS_rises h.rise s, fun t => ?_, fun t ht => ?_, ?_, fun t u hu => ?_, hr, h.node⟩
  · show t ∈ putS a.ks s ↔ (if t = s then some v else a.f t).isSome = true
    rw [putS_mem]
    by_cases e : t = s
    · simp [e]
    · rw [if_neg e, ← h.has t]
      simp [e]
  · rcases (putS_mem _ _ _).1 ht with h2 | h2
    · exact h.slot t h2
    · subst h2; exact h0
  · show (putS a.ks s).length ≤ 4096
    by_cases hm : s ∈ a.ks
    · rw [putS_old h.rise hm]; exact h.few
    · rw [putS_fresh_len hm]
      have : a.f s = none := by
        cases hh : a.f s with
        | none => rfl
        | some y => exact absurd ((h.has s).2 (by rw [hh]; rfl)) hm
      have hk : ¬ 4096 ≤ a.ks.length := fun k => hf ⟨this, k⟩
      omega
  · have hu' : (if t = s then some v else a.f t) = some u := hu
    by_cases e : t = s
    · rw [if_pos e] at hu'
      cases hu'
      exact ⟨he, hr, by rw [show (voteA a s v).pr = v.1 from rfl, cmpB_same]; omega⟩
    · rw [if_neg e] at hu'
      have := h.right t u hu'
      exact ⟨this.1, this.2.1, leB_trans this.2.2 (by show cmpB a.pr v.1 ≤ 0; omega)⟩
theorem rightMs_bal {x : MsM} (h : RightMs x = true) : RightBal x.bal = true ∧ RightEn x.en.e = true ∧ (0 ≤ x.slot ∧ x.slot ≤ 2147483647) := by
  unfold RightMs at h
  simp only [Bool.and_eq_true, decide_eq_true_eq] at h
  exact ⟨h.2.2.2.1, h.2.2.2.2.2.1, h.2.2.2.2.1⟩
theorem afterA_ok {a : Ac} (h : AcOk a) {x : MsM} (hr : RightMs x = true) : AcOk (afterA a x) := by
  obtain ⟨h1, h2, h3⟩ := rightMs_bal hr
  unfold afterA kindA
  by_cases hc : 0 < cmpB a.pr x.bal
  · simp only [hc, if_true]
    exact h
  · simp only [hc, if_false]
    by_cases hk : x.kind = 1
    · simp only [hk, if_true]
      exact promA_ok h h1 hc
    · simp only [hk, if_false]
      by_cases hf : a.f x.slot = none ∧ 4096 ≤ a.ks.length
      · simp only [hf, and_self, if_true]
        exact h
      · simp only [hf, if_false]
        exact voteA_ok h h3 h1 h2 hc hf
/-- The votes from a slot on. -/
def fromA (a : Ac) (s : Int) : List (Int × Vt) := (a.ks.filter (fun t => decide (s ≤ t))).map (fun t => (t, (a.f t).getD ((0, 0), noopEn)))
end Go.Proofs.YtbofpapdbjecoaaGreat
/-
  The laws' sameVector, SameSeal, SameEntry.
-/
namespace Go.Proofs.YtbofpapdbjecoaaGreat
open Go.RowKit Go.Maps

theorem eq_of_getDB {a b : List Int} (hl : a.length = b.length) {k : Nat} (hk : ¬ k < a.length) (h : ∀ j, j < k → a.getD j 0 = b.getD j 0) : a = b := by
  apply List.ext_getElem hl
  intro i h1 h2
  have := h i (by omega)
  simpa [List.getD, List.getElem?_eq_getElem h1, List.getElem?_eq_getElem h2] using this
theorem eq_stepB {a b : List Int} {k : Nat} (h : ∀ j, j < k → a.getD j 0 = b.getD j 0) (h' : a.getD k 0 = b.getD k 0) : ∀ j, j < k + 1 → a.getD j 0 = b.getD j 0 := by
  intro j hj
  by_cases e : j = k
  · subst e; exact h'
  · exact h j (by omega)

set_option maxRecDepth 100000 in
theorem sameVec_B (w : World) (ao bo : Option Addr) (ca cb : Nat) (a b : List Int) (m n : Nat) (hm : a.length = m) (hn : b.length = n) (ha : HV w ao ca a) (hb : HV w bo cb b) :
    Calls Tryz.prog 30 #[.slice ao m ca, .slice bo n cb] w fun e w' => e = .returned (.bool (decide (a = b))) ∧ ∃ q, w' = w.drewN q := by
  by_cases hmn : m = n
  · subst hmn
    have HA := hid ha.held
    have HB := hid hb.held
    have hfa := ha.few
    rw [hm] at hfa
    have HM := hid hm
    have HN := hid hn
    clear ha hb hm hn
    go_enter Tryz.func30, Tryz.ntmps30
    go_wp2
    go_loopw [5] (fun i wr => ∃ k : Nat, k ≤ m ∧ i = .int .i64 k ∧ Hid ((∃ q, wr = w.drewN q) ∧ ∀ j, j < k → a.getD j 0 = b.getD j 0)) (fun i _ => m - (intOf i).toNat)
    case atStart => exact ⟨0, Nat.zero_le _, rfl, ⟨0, rfl⟩, fun j hj => absurd hj (Nat.not_lt_zero _)⟩
    case round =>
      obtain ⟨k, hk, rfl, HR⟩ := hrel
      by_cases hlt : k < m
      · have hlt' : (k : Int) < (m : Int) := by omega
        obtain ⟨q, hq⟩ := HR.out.1
        have hka : k < a.length := by rw [HM.out]; exact hlt
        have hkb : k < b.length := by rw [HN.out]; exact hlt
        obtain ⟨b1, o1, rfl, hc1⟩ := HA.out.cellAt hka
        obtain ⟨b2, o2, rfl, hc2⟩ := HB.out.cellAt hkb
        have c1 : wr.cell? ⟨b1, o1 + k, none⟩ = some (.int .i64 (a.getD k 0)) := by rw [hq]; exact hc1 k hka
        have c2 : wr.cell? ⟨b2, o2 + k, none⟩ = some (.int .i64 (b.getD k 0)) := by rw [hq]; exact hc2 k hkb
        have HKB := hid hkb
        have HKA := hid hka
        have HQ := hid hq
        clear hc1 hc2 hka hkb hq
        obtain ⟨X, HX⟩ : ∃ X, Hid (a.getD k 0 = X) := ⟨_, hid rfl⟩
        obtain ⟨Y, HY⟩ : ∃ Y, Hid (b.getD k 0 = Y) := ⟨_, hid rfl⟩
        rw [HX.out] at c1
        rw [HY.out] at c2
        by_cases hxy : X = Y
        · have hb : (X != Y) = false := by simp [hxy]
          have HXY := hid hxy
          clear hxy
          go_wp2
          go_quiet (fail)
          all_goals
            go_wp2
            go_roundw
            case rel => exact ⟨k + 1, by omega, by go_num, ⟨_, by rw [HQ.out, drewN_add]⟩, eq_stepB HR.out.2 (by rw [HX.out, HY.out, HXY.out])⟩
            case measure => simp [intOf]; omega
        · have hb : (X != Y) = true := by simp [hxy]
          have HXY := hid hxy
          clear hxy
          go_wp2
          go_quiet (fail)
          all_goals
            go_wp2
            go_ret
            refine ⟨?_, _, by rw [HQ.out, drewN_add]⟩
            have : ¬ a = b := fun h => HXY.out (by rw [← HX.out, ← HY.out, h])
            rw [decide_eq_false this]
            rfl
      · have hlt' : ¬ (k : Int) < (m : Int) := by omega
        go_wp2
        go_ret
        refine ⟨?_, HR.out.1⟩
        rw [decide_eq_true (eq_of_getDB (by rw [HM.out, HN.out]) (by rw [HM.out]; exact hlt) HR.out.2)]
        rfl
  · have hne : ((m : Int) != (n : Int)) = true := by simp; omega
    have HE : Hid (decide (a = b) = false) := decide_eq_false (fun h => hmn (by rw [← hm, ← hn, h]))
    clear ha hb hm hn
    rw [HE.out]
    go_enter Tryz.func30, Tryz.ntmps30
    go_wp2
    go_ret
    exact ⟨rfl, 0, rfl⟩

set_option maxRecDepth 100000 in
theorem sameSeal_B (w : World) (tk ct : ByteArray) (ep : Int) (ao bo : Option Addr) (ca cb : Nat) (cut : List Int) (n : Nat) (hn : cut.length = n) (ha : HV w ao ca cut) (hb : HV w bo cb cut) :
    Calls Tryz.prog 46 #[.agg #[.string tk, .string ct, .int .i64 ep, .slice ao n ca], .agg #[.string tk, .string ct, .int .i64 ep, .slice bo n cb]] w fun e w' => e = .returned (.bool true) ∧ Below w.heap.size w w' := by
  obtain ⟨W, hW⟩ : ∃ W, W = (w.alloc (.cells #[.string tk, .string ct, .int .i64 ep, .slice ao n ca] 37)).alloc (.cells #[.string tk, .string ct, .int .i64 ep, .slice bo n cb] 37) := ⟨_, rfl⟩
  have HB : Hid (Below w.heap.size w W) := by rw [hW]; exact ((Below.refl _ _).alloc (Nat.le_refl _) _).alloc (by simp) _
  have HS := hid (sameVec_B W ao bo ca cb cut cut n n hn hn (ha.below HB.out) (hb.below HB.out))
  rw [decide_eq_true rfl] at HS
  have HW := hid hW
  clear ha hb hn hW
  go_enter Tryz.func46, Tryz.ntmps46
  go_wp2_with fail
  rw [← HW.out]
  refine HS.out.mono ?_
  rintro e w' ⟨rfl, q, rfl⟩
  go_wp2
  go_ret
  exact ⟨rfl, below_dn HB.out q⟩
set_option maxRecDepth 100000 in
theorem sameEntry_B (w : World) (e0 : En) (ao bo : Option Addr) (ca cb : Nat) (ha : HV w ao ca e0.cut) (hb : HV w bo cb e0.cut) :
    Calls Tryz.prog 29 #[EnM.val ⟨e0, ao, ca⟩, EnM.val ⟨e0, bo, cb⟩] w fun e w' => e = .returned (.bool true) ∧ Below w.heap.size w w' := by
  obtain ⟨np, tk, ct, ep, cut⟩ := e0
  simp only [EnM.val] at *
  obtain ⟨n, hn⟩ : ∃ n, cut.length = n := ⟨_, rfl⟩
  rw [hn]
  obtain ⟨W, hW⟩ : ∃ W, W = (w.alloc (.cells #[.bool np, .string tk, .string ct, .int .i64 ep, .slice ao n ca] 39)).alloc (.cells #[.bool np, .string tk, .string ct, .int .i64 ep, .slice bo n cb] 39) := ⟨_, rfl⟩
  have HB : Hid (Below w.heap.size w W) := by rw [hW]; exact ((Below.refl _ _).alloc (Nat.le_refl _) _).alloc (by simp) _
  have HS := hid (sameSeal_B W tk ct ep ao bo ca cb cut n hn (ha.below HB.out) (hb.below HB.out))
  have HW := hid hW
  clear ha hb hn hW
  cases np with
  | true =>
    go_enter Tryz.func29, Tryz.ntmps29
    go_wp2_with fail
    rw [← HW.out]
    refine HS.out.mono ?_
    rintro e w' ⟨rfl, hb⟩
    have HBF := hid (bt' HB.out hb)
    clear hb
    go_wp2
    go_ret
    exact ⟨rfl, HBF.out⟩
  | false =>
    go_enter Tryz.func29, Tryz.ntmps29
    go_wp2_with fail
    rw [← HW.out]
    refine HS.out.mono ?_
    rintro e w' ⟨rfl, hb⟩
    have HBF := hid (bt' HB.out hb)
    clear hb
    go_wp2
    go_ret
    exact ⟨rfl, HBF.out⟩
end Go.Proofs.YtbofpapdbjecoaaGreat
