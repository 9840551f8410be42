/-
  Package ballot: the order of ballots, the next one, how many are a majority; the document's own.
-/
import Derived.Test.YthcpopigkbefhaaGreatIntsA
import Derived.Deep.RegionHeld3
import Derived.Deep.RegionWith
import Derived.Deep.QuietTactic
import Derived.BigQuiet
import Derived.Test.YthcpopigkbefhaaGreatTexts
import Derived.Test.YthcpopigkbefhaaGreatCodY
import Derived.Test.YthcpopigkbefhaaGreatVoA
namespace Go.Proofs.YthcpopigkbefhaaGreat
open Go.RowKit Go.Maps

/-- Two numbers, held against one another. -/
def cmpN (x y : Int) : Int := if x < y then -1 else if y < x then 1 else 0
/-- Two ballots, held against one another. -/
def cmpB (a b : Int × Int) : Int := if cmpN a.1 b.1 ≠ 0 then cmpN a.1 b.1 else cmpN a.2 b.2
theorem cmpN_same (x : Int) : cmpN x x = 0 := by simp [cmpN]
theorem cmpN_zero {x y : Int} : cmpN x y = 0 ↔ x = y := by
  unfold cmpN
  split
  · constructor <;> intro h <;> omega
  · split <;> constructor <;> intro h <;> omega
theorem cmpN_neg (x y : Int) : cmpN y x = - cmpN x y := by
  unfold cmpN
  by_cases h1 : x < y
  · have : ¬ y < x := by omega
    simp [h1, this]
  · by_cases h2 : y < x
    · simp [h1, h2]
    · simp [h1, h2]
theorem cmpB_same (a : Int × Int) : cmpB a a = 0 := by simp [cmpB, cmpN_same]
theorem cmpB_zero {a b : Int × Int} : cmpB a b = 0 ↔ a = b := by
  unfold cmpB
  constructor
  · intro h
    by_cases h1 : cmpN a.1 b.1 = 0
    · rw [if_neg (by simpa using h1)] at h
      exact Prod.ext (cmpN_zero.1 h1) (cmpN_zero.1 h)
    · rw [if_pos h1] at h
      exact absurd h h1
  · rintro rfl
    simp [cmpN_same]
theorem cmpB_neg (a b : Int × Int) : cmpB b a = - cmpB a b := by
  unfold cmpB
  rw [cmpN_neg a.1 b.1, cmpN_neg a.2 b.2]
  by_cases h : cmpN a.1 b.1 = 0
  · simp [h]
  · rw [if_pos h, if_pos (by omega)]
/-- What a comparison may answer. -/
theorem cmpN_or (x y : Int) : cmpN x y = -1 ∨ cmpN x y = 0 ∨ cmpN x y = 1 := by
  unfold cmpN
  split
  · simp
  · split <;> simp
theorem cmpB_or (a b : Int × Int) : cmpB a b = -1 ∨ cmpB a b = 0 ∨ cmpB a b = 1 := by
  unfold cmpB
  split
  · exact cmpN_or _ _
  · exact cmpN_or _ _
/-- a is below b. -/
def LtB (a b : Int × Int) : Prop := a.1 < b.1 ∨ a.1 = b.1 ∧ a.2 < b.2
theorem cmpB_lt {a b : Int × Int} : cmpB a b < 0 ↔ LtB a b := by
  unfold cmpB cmpN LtB
  by_cases h1 : a.1 < b.1
  · simp [h1]
  · by_cases h2 : b.1 < a.1
    · simp only [if_neg h1, if_pos h2]
      simp
      omega
    · simp only [if_neg h1, if_neg h2]
      by_cases h3 : a.2 < b.2
      · simp [h3]
        omega
      · by_cases h4 : b.2 < a.2
        · simp [h3, h4]
          omega
        · simp [h3, h4]
          omega
theorem LtB.trans {a b c : Int × Int} (h : LtB a b) (k : LtB b c) : LtB a c := by
  unfold LtB at *
  omega

theorem isNaN_B (w : World) (x : Int) : Calls Tryz.prog 134 #[.int .i64 x] w fun e w' => e = .returned (.bool false) ∧ w' = w := by
  go_enter Tryz.func134, Tryz.ntmps134
  go_wp2
  go_ret
  exact ⟨by simp, rfl⟩
theorem compare_B (w : World) (x y : Int) : Calls Tryz.prog 125 #[.int .i64 x, .int .i64 y] w fun e w' => e = .returned (.int .i64 (cmpN x y)) ∧ w' = w := by
  have HX := hid (isNaN_B w x)
  have HY := hid (isNaN_B w y)
  by_cases h1 : x < y
  · have HC : Hid (cmpN x y = -1) := by show _ = _; unfold cmpN; rw [if_pos h1]
    go_enter Tryz.func125, Tryz.ntmps125
    go_wp2_with fail
    refine HX.out.mono ?_
    rintro e w' ⟨rfl, rfl⟩
    go_wp2_with fail
    refine HY.out.mono ?_
    rintro e w' ⟨rfl, rfl⟩
    go_wp2
    go_ret
    exact ⟨by rw [HC.out]; rfl, rfl⟩
  · by_cases h2 : y < x
    · have HC : Hid (cmpN x y = 1) := by show _ = _; unfold cmpN; rw [if_neg h1, if_pos h2]
      go_enter Tryz.func125, Tryz.ntmps125
      go_wp2_with fail
      refine HX.out.mono ?_
      rintro e w' ⟨rfl, rfl⟩
      go_wp2_with fail
      refine HY.out.mono ?_
      rintro e w' ⟨rfl, rfl⟩
      go_wp2
      go_ret
      exact ⟨by rw [HC.out]; rfl, rfl⟩
    · have HC : Hid (cmpN x y = 0) := by show _ = _; unfold cmpN; rw [if_neg h1, if_neg h2]
      go_enter Tryz.func125, Tryz.ntmps125
      go_wp2_with fail
      refine HX.out.mono ?_
      rintro e w' ⟨rfl, rfl⟩
      go_wp2_with fail
      refine HY.out.mono ?_
      rintro e w' ⟨rfl, rfl⟩
      go_wp2
      go_ret
      exact ⟨by rw [HC.out]; rfl, rfl⟩
set_option maxRecDepth 100000 in
theorem or_B (w : World) (g : Nat) (a b : Int) (h0 : w.cell? ⟨g, 0, none⟩ = some (.int .i64 a)) (h1 : w.cell? ⟨g, 1, none⟩ = some (.int .i64 b)) :
    Calls Tryz.prog 124 #[.slice (some ⟨g, 0, none⟩) 2 2] w fun e w' => e = .returned (.int .i64 (if a ≠ 0 then a else b)) ∧ w' = w := by
  by_cases ha : a = 0
  · subst ha
    by_cases hb : b = 0
    · subst hb
      go_enter Tryz.func124, Tryz.ntmps124
      go_wp2
      refine wp_loop_rounds 3 ?_
      rw [rounds_succ]
      go_wp2
      rw [rounds_succ]
      go_wp2
      rw [rounds_succ]
      go_wp2
      go_ret
      exact ⟨rfl, rfl⟩
    · have hb' : (b != 0) = true := by simpa using hb
      go_enter Tryz.func124, Tryz.ntmps124
      go_wp2
      refine wp_loop_rounds 3 ?_
      rw [rounds_succ]
      go_wp2
      rw [rounds_succ]
      go_wp2
      go_ret
      exact ⟨rfl, rfl⟩
  · have ha' : (a != 0) = true := by simpa using ha
    go_enter Tryz.func124, Tryz.ntmps124
    go_wp2
    refine wp_loop_rounds 3 ?_
    rw [rounds_succ]
    go_wp2
    go_ret
    exact ⟨rfl, rfl⟩
theorem newBa (V : World) (g : Nat) (hg : g = V.heap.size) (a b : Value) (t : TypeId) : (V.alloc (.cells #[a, b] t)).cell? ⟨g, 0, none⟩ = some a := by subst hg; exact (Blk.new V t [a, b]).cell rfl
theorem newBb (V : World) (g : Nat) (hg : g = V.heap.size) (a b : Value) (t : TypeId) : (V.alloc (.cells #[a, b] t)).cell? ⟨g, 1, none⟩ = some b := by subst hg; exact (Blk.new V t [a, b]).cell rfl
/-- A ballot as a value. -/
abbrev blt (a : Int × Int) : Value := .agg #[.int .i64 a.1, .int .i64 a.2]
set_option maxRecDepth 100000 in
theorem compareEq (W : World) (x1 x2 : Int) : Calls Tryz.prog 87 #[blt (x1, x2), blt (x1, x2)] W fun e w' => e = .returned (.int .i64 0) ∧ Below W.heap.size W w' := by
  have HB : Hid (Below W.heap.size W ((W.alloc (.cells #[.int .i64 x1, .int .i64 x2] 29)).alloc (.cells #[.int .i64 x1, .int .i64 x2] 29))) := ((Below.refl _ _).alloc (Nat.le_refl _) _).alloc (by simp) _
  go_enter Tryz.func87, Tryz.ntmps87
  go_wp2
  go_ret
  exact ⟨rfl, HB.out⟩
set_option maxRecDepth 100000 in
theorem compareNe (W : World) (x y : Int × Int) (hne : x ≠ y) : Calls Tryz.prog 87 #[blt x, blt y] W fun e w' => e = .returned (.int .i64 (cmpB x y)) ∧ Below W.heap.size W w' := by
  obtain ⟨x1, x2⟩ := x
  obtain ⟨y1, y2⟩ := y
  obtain ⟨c1, HC1⟩ : ∃ c, Hid (cmpN x1 y1 = c) := ⟨_, hid rfl⟩
  obtain ⟨c2, HC2⟩ : ∃ c, Hid (cmpN x2 y2 = c) := ⟨_, hid rfl⟩
  have HK1 : Hid (∀ V, Calls Tryz.prog 125 #[.int .i64 x1, .int .i64 y1] V fun e w' => e = .returned (.int .i64 c1) ∧ w' = V) := fun V => by rw [← HC1.out]; exact compare_B V x1 y1
  have HK2 : Hid (∀ V, Calls Tryz.prog 125 #[.int .i64 x2, .int .i64 y2] V fun e w' => e = .returned (.int .i64 c2) ∧ w' = V) := fun V => by rw [← HC2.out]; exact compare_B V x2 y2
  obtain ⟨r, HR⟩ : ∃ r, Hid ((if c1 ≠ 0 then c1 else c2) = r) := ⟨_, hid rfl⟩
  have HRD : Hid (cmpB (x1, x2) (y1, y2) = r) := by show _ = _; unfold cmpB; rw [HC1.out, HC2.out]; exact HR.out
  have HK3 : Hid (∀ V g, V.cell? ⟨g, 0, none⟩ = some (.int .i64 c1) → V.cell? ⟨g, 1, none⟩ = some (.int .i64 c2) → Calls Tryz.prog 124 #[.slice (some ⟨g, 0, none⟩) 2 2] V fun e w' => e = .returned (.int .i64 r) ∧ w' = V) := fun V g h0 h1 => by rw [← HR.out]; exact or_B V g c1 c2 h0 h1
  rw [HRD.out]
  have hne2 : (x1 == y1) = false ∨ ((x1 == y1) = true ∧ (x2 == y2) = false) := by
    simp only [ne_eq, Prod.mk.injEq] at hne
    simp only [beq_eq_false_iff_ne, beq_iff_eq]
    omega
  clear hne
  go_enter Tryz.func87, Tryz.ntmps87
  have hbA : Blk ((W.alloc (.cells #[.int .i64 x1, .int .i64 x2] 29)).alloc (.cells #[.int .i64 y1, .int .i64 y2] 29)) W.heap.size 29 [.int .i64 x1, .int .i64 x2] := (Blk.new W 29 [.int .i64 x1, .int .i64 x2]).alloc _
  have hbB : Blk ((W.alloc (.cells #[.int .i64 x1, .int .i64 x2] 29)).alloc (.cells #[.int .i64 y1, .int .i64 y2] 29)) (W.heap.size + 1) 29 [.int .i64 y1, .int .i64 y2] := by
    have := Blk.new (W.alloc (.cells #[.int .i64 x1, .int .i64 x2] 29)) 29 [.int .i64 y1, .int .i64 y2]
    rw [World.size_alloc] at this
    exact this
  have HG : Hid (Below W.heap.size W ((W.alloc (.cells #[.int .i64 x1, .int .i64 x2] 29)).alloc (.cells #[.int .i64 y1, .int .i64 y2] 29))) := ((Below.refl _ _).alloc (Nat.le_refl _) _).alloc (by simp) _
  rcases hne2 with hx | ⟨hy, hx⟩
  all_goals
    go_wp2
    generalize (W.alloc (.cells #[.int .i64 x1, .int .i64 x2] 29)).alloc (.cells #[.int .i64 y1, .int .i64 y2] 29) = W2 at *
    obtain ⟨pa, hpa⟩ : ∃ p, p = W.heap.size := ⟨_, rfl⟩
    obtain ⟨pb, hpb⟩ : ∃ p, p = W.heap.size + 1 := ⟨_, rfl⟩
    rw [← hpb, ← hpa]
    rw [← hpa] at hbA
    rw [← hpb] at hbB
    have a0 := hbA.cell (i := 0) rfl
    have a1 := hbA.cell (i := 1) rfl
    have b0 := hbB.cell (i := 0) rfl
    have b1 := hbB.cell (i := 1) rfl
    have n1 := hbA.lt
    have n2 := hbB.lt
    have HPW := hid hpa
    clear hbA hbB hpa hpb hx
    go_region_held3 (fun V => V.cell? ⟨pa, 0, none⟩ = some (.int .i64 x1) ∧ V.cell? ⟨pa, 1, none⟩ = some (.int .i64 x2) ∧ V.cell? ⟨pb, 0, none⟩ = some (.int .i64 y1) ∧ V.cell? ⟨pb, 1, none⟩ = some (.int .i64 y2)) (go_keep) (first
      | (go_at_call 125; with_reducible refine (HK1.out _).mono ?_; rintro e w' ⟨rfl, rfl⟩)
      | (go_at_call 125; with_reducible refine (HK2.out _).mono ?_; rintro e w' ⟨rfl, rfl⟩)
      | (go_at_call 124; refine (HK3.out _ _ ?_ ?_).mono ?_; (first | exact newBa _ _ rfl _ _ _ | (simp; exact newBa _ _ (by simp) _ _ _)); (first | exact newBb _ _ rfl _ _ _ | (simp; exact newBb _ _ (by simp) _ _ _)); rintro e w' ⟨rfl, rfl⟩))
    all_goals
      go_wp2
      go_ret
      refine ⟨rfl, ?_⟩
      exact below_dn (HG.out.alloc HG.out.size _) 1
theorem compareB (W : World) (x y : Int × Int) : Calls Tryz.prog 87 #[blt x, blt y] W fun e w' => e = .returned (.int .i64 (cmpB x y)) ∧ Below W.heap.size W w' := by
  by_cases h : x = y
  · subst h
    rw [cmpB_same]
    exact compareEq W x.1 x.2
  · exact compareNe W x y h
end Go.Proofs.YthcpopigkbefhaaGreat
/-
  What an acceptor has, with no memory in it: what it promised, its last votes; what a message makes of it.
-/
namespace Go.Proofs.YthcpopigkbefhaaGreat
open Go.RowKit

abbrev Vt := (Int × Int) × En
structure Ac where
  node : Int
  pr : Int × Int
  f : Int → Option Vt
  ks : List Int
theorem leB_trans {a b c : Int × Int} (h : cmpB a b ≤ 0) (k : cmpB b c ≤ 0) : cmpB a c ≤ 0 := by
  have h1 : ¬ LtB b a := fun hh => by have := cmpB_lt.2 hh; rw [cmpB_neg] at this; omega
  have h2 : ¬ LtB c b := fun hh => by have := cmpB_lt.2 hh; rw [cmpB_neg] at this; omega
  have h3 : ¬ LtB c a := by unfold LtB at *; omega
  rcases cmpB_or a c with e | e | e
  · omega
  · omega
  · have : cmpB c a < 0 := by rw [cmpB_neg]; omega
    exact absurd (cmpB_lt.1 this) h3
structure AcOk (a : Ac) : Prop where
  rise : Rises a.ks
  has : ∀ s, s ∈ a.ks ↔ (a.f s).isSome = true
  slot : ∀ s ∈ a.ks, 0 ≤ s ∧ s ≤ 2147483647
  few : a.ks.length ≤ 4096
  right : ∀ s v, a.f s = some v → RightEn v.2 = true ∧ RightBal v.1 = true ∧ cmpB v.1 a.pr ≤ 0
  pr : RightBal a.pr = true
  node : 0 ≤ a.node ∧ a.node ≤ 6
def newAc (n : Int) : Ac := ⟨n, (0, 0), fun _ => none, []⟩
theorem newAc_ok {n : Int} (h : 0 ≤ n ∧ n ≤ 6) : AcOk (newAc n) := ⟨.nil, fun s => by simp [newAc], fun s h => by simp [newAc] at h, by simp [newAc], fun s v h => by simp [newAc] at h, rfl, h⟩
/-- A message that it takes. -/
def takesA (a : Ac) (x : MsM) : Bool := decide (x.to = a.node) && (decide (x.kind = 1 ∨ x.kind = 3) && (RightMs x && decide ((encMs x).length ≤ 65536)))
/-- The kind of its answer. -/
def kindA (a : Ac) (x : MsM) : Int := if 0 < cmpB a.pr x.bal then 5 else if x.kind = 1 then 2 else if a.f x.slot = none ∧ 4096 ≤ a.ks.length then 5 else 4
def changesA (a : Ac) (x : MsM) : Bool := if kindA a x = 2 then decide (x.bal ≠ a.pr) else if kindA a x = 4 then decide (a.f x.slot ≠ some (x.bal, x.en.e)) else false
def promA (a : Ac) (b : Int × Int) : Ac := ⟨a.node, b, a.f, a.ks⟩
def voteA (a : Ac) (s : Int) (v : Vt) : Ac := ⟨a.node, v.1, fun t => if t = s then some v else a.f t, putS a.ks s⟩
def afterA (a : Ac) (x : MsM) : Ac := if kindA a x = 2 then promA a x.bal else if kindA a x = 4 then voteA a x.slot (x.bal, x.en.e) else a
theorem putS_old {l : List Int} (hl : Rises l) {x : Int} (hx : x ∈ l) : putS l x = l :=
  rises_unique (putS_rises hl x) hl (fun y => by rw [putS_mem]; exact ⟨fun h => h.elim id (fun e => e ▸ hx), .inl⟩)
theorem putS_fresh_len {l : List Int} {x : Int} (hx : x ∉ l) : (putS l x).length = l.length + 1 := by
  unfold putS
  rw [if_pos]
  · have := aheadOf_le l x
    simp
    omega
  · by_cases h : aheadOf l x = l.length
    · exact .inl h
    · refine .inr (fun e => hx ?_)
      have hl : aheadOf l x < l.length := by have := aheadOf_le l x; omega
      rw [show l.getD (aheadOf l x) 0 = l[aheadOf l x] by simp [List.getD, List.getElem?_eq_getElem hl]] at e
      rw [← e]
      exact List.getElem_mem hl
theorem promA_ok {a : Ac} (h : AcOk a) {b : Int × Int} (hr : RightBal b = true) (hc : ¬ 0 < cmpB a.pr b) : AcOk (promA a b) :=
  ⟨h.rise, h.has, h.slot, h.few, fun s v hv => ⟨(h.right s v hv).1, (h.right s v hv).2.1, leB_trans (h.right s v hv).2.2 (by show cmpB a.pr b ≤ 0; omega)⟩, hr, h.node⟩
theorem voteA_ok {a : Ac} (h : AcOk a) {s : Int} {v : Vt} (h0 : 0 ≤ s ∧ s ≤ 2147483647) (hr : RightBal v.1 = true) (he : RightEn v.2 = true) (hc : ¬ 0 < cmpB a.pr v.1) (hf : ¬ (a.f s = none ∧ 4096 ≤ a.ks.length)) : AcOk (voteA a s v) := by
  refine ⟨putS_rises h.rise s, fun t => ?_, fun t ht => ?_, ?_, fun t u hu => ?_, hr, h.node⟩
  · show t ∈ putS a.ks s ↔ (if t = s then some v else a.f t).isSome = true
    rw [putS_mem]
    by_cases e : t = s
    · simp [e]
    · rw [if_neg e, ← h.has t]
      simp [e]
  · rcases (putS_mem _ _ _).1 ht with h2 | h2
    · exact h.slot t h2
    · subst h2; exact h0
  · show (putS a.ks s).length ≤ 4096
    by_cases hm : s ∈ a.ks
    · rw [putS_old h.rise hm]; exact h.few
    · rw [putS_fresh_len hm]
      have : a.f s = none := by
        cases hh : a.f s with
        | none => rfl
        | some y => exact absurd ((h.has s).2 (by rw [hh]; rfl)) hm
      have hk : ¬ 4096 ≤ a.ks.length := fun k => hf ⟨this, k⟩
      omega
  · have hu' : (if t = s then some v else a.f t) = some u := hu
    by_cases e : t = s
    · rw [if_pos e] at hu'
      cases hu'
      exact ⟨he, hr, by rw [show (voteA a s v).pr = v.1 from rfl, cmpB_same]; omega⟩
    · rw [if_neg e] at hu'
      have := h.right t u hu'
      exact ⟨this.1, this.2.1, leB_trans this.2.2 (by show cmpB a.pr v.1 ≤ 0; omega)⟩
theorem rightMs_bal {x : MsM} (h : RightMs x = true) : RightBal x.bal = true ∧ RightEn x.en.e = true ∧ (0 ≤ x.slot ∧ x.slot ≤ 2147483647) := by
  unfold RightMs at h
  simp only [Bool.and_eq_true, decide_eq_true_eq] at h
  exact ⟨h.2.2.2.1, h.2.2.2.2.2.1, h.2.2.2.2.1⟩
theorem afterA_ok {a : Ac} (h : AcOk a) {x : MsM} (hr : RightMs x = true) : AcOk (afterA a x) := by
  obtain ⟨h1, h2, h3⟩ := rightMs_bal hr
  unfold afterA kindA
  by_cases hc : 0 < cmpB a.pr x.bal
  · simp only [hc, if_true]
    exact h
  · simp only [hc, if_false]
    by_cases hk : x.kind = 1
    · simp only [hk, if_true]
      exact promA_ok h h1 hc
    · simp only [hk, if_false]
      by_cases hf : a.f x.slot = none ∧ 4096 ≤ a.ks.length
      · simp only [hf, and_self, if_true]
        exact h
      · simp only [hf, if_false]
        exact voteA_ok h h3 h1 h2 hc hf
/-- The votes from a slot on. -/
def fromA (a : Ac) (s : Int) : List (Int × Vt) := (a.ks.filter (fun t => decide (s ≤ t))).map (fun t => (t, (a.f t).getD ((0, 0), noopEn)))
end Go.Proofs.YthcpopigkbefhaaGreat
/-
  The laws' sameVector, SameSeal, SameEntry.
-/
namespace Go.Proofs.YthcpopigkbefhaaGreat
open Go.RowKit Go.Maps

theorem eq_of_getDB {a b : List Int} (hl : a.length = b.length) {k : Nat} (hk : ¬ k < a.length) (h : ∀ j, j < k → a.getD j 0 = b.getD j 0) : a = b := by
  apply List.ext_getElem hl
  intro i h1 h2
  have := h i (by omega)
  simpa [List.getD, List.getElem?_eq_getElem h1, List.getElem?_eq_getElem h2] using this
theorem eq_stepB {a b : List Int} {k : Nat} (h : ∀ j, j < k → a.getD j 0 = b.getD j 0) (h' : a.getD k 0 = b.getD k 0) : ∀ j, j < k + 1 → a.getD j 0 = b.getD j 0 := by
  intro j hj
  by_cases e : j = k
  · subst e; exact h'
  · exact h j (by omega)

set_option maxRecDepth 100000 in
theorem sameVec_B (w : World) (ao bo : Option Addr) (ca cb : Nat) (a b : List Int) (m n : Nat) (hm : a.length = m) (hn : b.length = n) (ha : HV w ao ca a) (hb : HV w bo cb b) :
    Calls Tryz.prog 39 #[.slice ao m ca, .slice bo n cb] w fun e w' => e = .returned (.bool (decide (a = b))) ∧ ∃ q, w' = w.drewN q := by
  by_cases hmn : m = n
  · subst hmn
    have HA := hid ha.held
    have HB := hid hb.held
    have hfa := ha.few
    rw [hm] at hfa
    have HM := hid hm
    have HN := hid hn
    clear ha hb hm hn
    go_enter Tryz.func39, Tryz.ntmps39
    go_wp2
    go_loopw [5] (fun i wr => ∃ k : Nat, k ≤ m ∧ i = .int .i64 k ∧ Hid ((∃ q, wr = w.drewN q) ∧ ∀ j, j < k → a.getD j 0 = b.getD j 0)) (fun i _ => m - (intOf i).toNat)
    case atStart => exact ⟨0, Nat.zero_le _, rfl, ⟨0, rfl⟩, fun j hj => absurd hj (Nat.not_lt_zero _)⟩
    case round =>
      obtain ⟨k, hk, rfl, HR⟩ := hrel
      by_cases hlt : k < m
      · have hlt' : (k : Int) < (m : Int) := by omega
        obtain ⟨q, hq⟩ := HR.out.1
        have hka : k < a.length := by rw [HM.out]; exact hlt
        have hkb : k < b.length := by rw [HN.out]; exact hlt
        obtain ⟨b1, o1, rfl, hc1⟩ := HA.out.cellAt hka
        obtain ⟨b2, o2, rfl, hc2⟩ := HB.out.cellAt hkb
        have c1 : wr.cell? ⟨b1, o1 + k, none⟩ = some (.int .i64 (a.getD k 0)) := by rw [hq]; exact hc1 k hka
        have c2 : wr.cell? ⟨b2, o2 + k, none⟩ = some (.int .i64 (b.getD k 0)) := by rw [hq]; exact hc2 k hkb
        have HKB := hid hkb
        have HKA := hid hka
        have HQ := hid hq
        clear hc1 hc2 hka hkb hq
        obtain ⟨X, HX⟩ : ∃ X, Hid (a.getD k 0 = X) := ⟨_, hid rfl⟩
        obtain ⟨Y, HY⟩ : ∃ Y, Hid (b.getD k 0 = Y) := ⟨_, hid rfl⟩
        rw [HX.out] at c1
        rw [HY.out] at c2
        by_cases hxy : X = Y
        · have hb : (X != Y) = false := by simp [hxy]
          have HXY := hid hxy
          clear hxy
          go_wp2
          go_quiet (fail)
          all_goals
            go_wp2
            go_roundw
            case rel => exact ⟨k + 1, by omega, by go_num, ⟨_, by rw [HQ.out, drewN_add]⟩, eq_stepB HR.out.2 (by rw [HX.out, HY.out, HXY.out])⟩
            case measure => simp [intOf]; omega
        · have hb : (X != Y) = true := by simp [hxy]
          have HXY := hid hxy
          clear hxy
          go_wp2
          go_quiet (fail)
          all_goals
            go_wp2
            go_ret
            refine ⟨?_, _, by rw [HQ.out, drewN_add]⟩
            have : ¬ a = b := fun h => HXY.out (by rw [← HX.out, ← HY.out, h])
            rw [decide_eq_false this]
            rfl
      · have hlt' : ¬ (k : Int) < (m : Int) := by omega
        go_wp2
        go_ret
        refine ⟨?_, HR.out.1⟩
        rw [decide_eq_true (eq_of_getDB (by rw [HM.out, HN.out]) (by rw [HM.out]; exact hlt) HR.out.2)]
        rfl
  · have hne : ((m : Int) != (n : Int)) = true := by simp; omega
    have HE : Hid (decide (a = b) = false) := decide_eq_false (fun h => hmn (by rw [← hm, ← hn, h]))
    clear ha hb hm hn
    rw [HE.out]
    go_enter Tryz.func39, Tryz.ntmps39
    go_wp2
    go_ret
    exact ⟨rfl, 0, rfl⟩

set_option maxRecDepth 100000 in
theorem sameSeal_B (w : World) (tk ct : ByteArray) (ep : Int) (ao bo : Option Addr) (ca cb : Nat) (cut : List Int) (n : Nat) (hn : cut.length = n) (ha : HV w ao ca cut) (hb : HV w bo cb cut) :
    Calls Tryz.prog 21 #[.agg #[.string tk, .string ct, .int .i64 ep, .slice ao n ca], .agg #[.string tk, .string ct, .int .i64 ep, .slice bo n cb]] w fun e w' => e = .returned (.bool true) ∧ Below w.heap.size w w' := by
  obtain ⟨W, hW⟩ : ∃ W, W = (w.alloc (.cells #[.string tk, .string ct, .int .i64 ep, .slice ao n ca] 32)).alloc (.cells #[.string tk, .string ct, .int .i64 ep, .slice bo n cb] 32) := ⟨_, rfl⟩
  have HB : Hid (Below w.heap.size w W) := by rw [hW]; exact ((Below.refl _ _).alloc (Nat.le_refl _) _).alloc (by simp) _
  have HS := hid (sameVec_B W ao bo ca cb cut cut n n hn hn (ha.below HB.out) (hb.below HB.out))
  rw [decide_eq_true rfl] at HS
  have HW := hid hW
  clear ha hb hn hW
  go_enter Tryz.func21, Tryz.ntmps21
  go_wp2_with fail
  rw [← HW.out]
  refine HS.out.mono ?_
  rintro e w' ⟨rfl, q, rfl⟩
  go_wp2
  go_ret
  exact ⟨rfl, below_dn HB.out q⟩
set_option maxRecDepth 100000 in
theorem sameEntry_B (w : World) (e0 : En) (ao bo : Option Addr) (ca cb : Nat) (ha : HV w ao ca e0.cut) (hb : HV w bo cb e0.cut) :
    Calls Tryz.prog 15 #[EnM.val ⟨e0, ao, ca⟩, EnM.val ⟨e0, bo, cb⟩] w fun e w' => e = .returned (.bool true) ∧ Below w.heap.size w w' := by
  obtain ⟨np, tk, ct, ep, cut⟩ := e0
  simp only [EnM.val] at *
  obtain ⟨n, hn⟩ : ∃ n, cut.length = n := ⟨_, rfl⟩
  rw [hn]
  obtain ⟨W, hW⟩ : ∃ W, W = (w.alloc (.cells #[.bool np, .string tk, .string ct, .int .i64 ep, .slice ao n ca] 34)).alloc (.cells #[.bool np, .string tk, .string ct, .int .i64 ep, .slice bo n cb] 34) := ⟨_, rfl⟩
  have HB : Hid (Below w.heap.size w W) := by rw [hW]; exact ((Below.refl _ _).alloc (Nat.le_refl _) _).alloc (by simp) _
  have HS := hid (sameSeal_B W tk ct ep ao bo ca cb cut n hn (ha.below HB.out) (hb.below HB.out))
  have HW := hid hW
  clear ha hb hn hW
  cases np with
  | true =>
    go_enter Tryz.func15, Tryz.ntmps15
    go_wp2_with fail
    rw [← HW.out]
    refine HS.out.mono ?_
    rintro e w' ⟨rfl, hb⟩
    have HBF := hid (bt' HB.out hb)
    clear hb
    go_wp2
    go_ret
    exact ⟨rfl, HBF.out⟩
  | false =>
    go_enter Tryz.func15, Tryz.ntmps15
    go_wp2_with fail
    rw [← HW.out]
    refine HS.out.mono ?_
    rintro e w' ⟨rfl, hb⟩
    have HBF := hid (bt' HB.out hb)
    clear hb
    go_wp2
    go_ret
    exact ⟨rfl, HBF.out⟩
end Go.Proofs.YthcpopigkbefhaaGreat
/-
  Worlds behind another.
-/
namespace Go.Proofs.YthcpopigkbefhaaGreat
open Go.RowKit Go.Maps

/-- V is a world behind W. -/
structure ScL (W V : World) : Prop where
  out : Below W.heap.size W V
theorem ScL.start (W : World) : ScL W W := ⟨Below.refl _ _⟩
theorem ScL.go {W V U : World} (h : ScL W V) (hb : Below V.heap.size V U) : ScL W U := ⟨bt' h.out hb⟩
theorem ScL.dr {W V : World} (h : ScL W V) : ScL W V.drew := ⟨h.out.drew⟩
theorem ScL.alloc {W V : World} (h : ScL W V) (o : Obj) : ScL W (V.alloc o) := ⟨h.out.alloc h.out.size _⟩
end Go.Proofs.YthcpopigkbefhaaGreat
