/-
  Package ballot: the order of ballots, the next one, how many are a majority; the document's own.
-/
import Derived.Test.YtbofpapdbjecoaaGreatIntsA
import Derived.Deep.RegionHeld3
import Derived.Deep.RegionWith
import Derived.Deep.QuietTactic
import Derived.BigQuiet
namespace Go.Proofs.YtbofpapdbjecoaaGreat
open Go.RowKit Go.Maps

/-- Two numbers, held against one another. -/
def cmpN (x y : Int) : Int := if x < y then -1 else if y < x then 1 else 0
/-- Two ballots, held against one another. -/
def cmpB (a b : Int × Int) : Int := if cmpN a.1 b.1 ≠ 0 then cmpN a.1 b.1 else cmpN a.2 b.2
theorem cmpN_same (x : Int) : cmpN x x = 0 := by simp [cmpN]
theorem cmpN_zero {x y : Int} : cmpN x y = 0 ↔ x = y := by
  unfold cmpN
  split
  · constructor <;> intro h <;> omega
  · split <;> constructor <;> intro h <;> omega
theorem cmpN_neg (x y : Int) : cmpN y x = - cmpN x y := by
  unfold cmpN
  by_cases h1 : x < y
  · have : ¬ y < x := by omega
    simp [h1, this]
  · by_cases h2 : y < x
    · simp [h1, h2]
    · simp [h1, h2]
theorem cmpB_same (a : Int × Int) : cmpB a a = 0 := by simp [cmpB, cmpN_same]
theorem cmpB_zero {a b : Int × Int} : cmpB a b = 0 ↔ a = b := by
  unfold cmpB
  constructor
  · intro h
    by_cases h1 : cmpN a.1 b.1 = 0
    · rw [if_neg (by simpa using h1)] at h
      exact Prod.ext (cmpN_zero.1 h1) (cmpN_zero.1 h)
    · rw [if_pos h1] at h
      exact absurd h h1
  · rintro rfl
    simp [cmpN_same]
theorem cmpB_neg (a b : Int × Int) : cmpB b a = - cmpB a b := by
  unfold cmpB
  rw [cmpN_neg a.1 b.1, cmpN_neg a.2 b.2]
  by_cases h : cmpN a.1 b.1 = 0
  · simp [h]
  · rw [if_pos h, if_pos (by omega)]
/-- What a comparison may answer. -/
theorem cmpN_or (x y : Int) : cmpN x y = -1 ∨ cmpN x y = 0 ∨ cmpN x y = 1 := by
  unfold cmpN
  split
  · simp
  · split <;> simp
theorem cmpB_or (a b : Int × Int) : cmpB a b = -1 ∨ cmpB a b = 0 ∨ cmpB a b = 1 := by
  unfold cmpB
  split
  · exact cmpN_or _ _
  · exact cmpN_or _ _
/-- a is below b. -/
def LtB (a b : Int × Int) : Prop := a.1 < b.1 ∨ a.1 = b.1 ∧ a.2 < b.2
theorem cmpB_lt {a b : Int × Int} : cmpB a b < 0 ↔ LtB a b := by
  unfold cmpB cmpN LtB
  by_cases h1 : a.1 < b.1
  · simp [h1]
  · by_cases h2 : b.1 < a.1
    · simp only [if_neg h1, if_pos h2]
      simp
      omega
    · simp only [if_neg h1, if_neg h2]
      by_cases h3 : a.2 < b.2
      · simp [h3]
        omega
      · by_cases h4 : b.2 < a.2
        · simp [h3, h4]
          omega
        · simp [h3, h4]
          omega
theorem LtB.trans {a b c : Int × Int} (h : LtB a b) (k : LtB b c) : LtB a c := by
  unfold LtB at *
  omega

theorem isNaN_B (w : World) (x : Int) : Calls Tryz.prog 187 #[.int .i64 x] w fun e w' => e = .returned (.bool false) ∧ w' = w := by
  go_enter Tryz.func187, Tryz.ntmps187
  go_wp2
  go_ret
  exact ⟨by simp, rfl⟩
theorem compare_B (w : World) (x y : Int) : Calls Tryz.prog 178 #[.int .i64 x, .int .i64 y] w fun e w' => e = .returned (.int .i64 (cmpN x y)) ∧ w' = w := by
  have HX := hid (isNaN_B w x)
  have HY := hid (isNaN_B w y)
  by_cases h1 : x < y
  · have HC : Hid (cmpN x y = -1) := by show _ = _; unfold cmpN; rw [if_pos h1]
    go_enter Tryz.func178, Tryz.ntmps178
    go_wp2_with fail
    refine HX.out.mono ?_
    rintro e w' ⟨rfl, rfl⟩
    go_wp2_with fail
    refine HY.out.mono ?_
    rintro e w' ⟨rfl, rfl⟩
    go_wp2
    go_ret
    exact ⟨by rw [HC.out]; rfl, rfl⟩
  · by_cases h2 : y < x
    · have HC : Hid (cmpN x y = 1) := by show _ = _; unfold cmpN; rw [if_neg h1, if_pos h2]
      go_enter Tryz.func178, Tryz.ntmps178
      go_wp2_with fail
      refine HX.out.mono ?_
      rintro e w' ⟨rfl, rfl⟩
      go_wp2_with fail
      refine HY.out.mono ?_
      rintro e w' ⟨rfl, rfl⟩
      go_wp2
      go_ret
      exact ⟨by rw [HC.out]; rfl, rfl⟩
    · have HC : Hid (cmpN x y = 0) := by show _ = _; unfold cmpN; rw [if_neg h1, if_neg h2]
      go_enter Tryz.func178, Tryz.ntmps178
      go_wp2_with fail
      refine HX.out.mono ?_
      rintro e w' ⟨rfl, rfl⟩
      go_wp2_with fail
      refine HY.out.mono ?_
      rintro e w' ⟨rfl, rfl⟩
      go_wp2
      go_ret
      exact ⟨by rw [HC.out]; rfl, rfl⟩
set_option maxRecDepth 100000 in
theorem or_B (w : World) (g : Nat) (a b : Int) (h0 : w.cell? ⟨g, 0, none⟩ = some (.int .i64 a)) (h1 : w.cell? ⟨g, 1, none⟩ = some (.int .i64 b)) :
    Calls Tryz.prog 177 #[.slice (some ⟨g, 0, none⟩) 2 2] w fun e w' => e = .returned (.int .i64 (if a ≠ 0 then a else b)) ∧ w' = w := by
  by_cases ha : a = 0
  · subst ha
    by_cases hb : b = 0
    · subst hb
      go_enter Tryz.func177, Tryz.ntmps177
      go_wp2
      refine wp_loop_rounds 3 ?_
      rw [rounds_succ]
      go_wp2
      rw [rounds_succ]
      go_wp2
      rw [rounds_succ]
      go_wp2
      go_ret
      exact ⟨rfl, rfl⟩
    · have hb' : (b != 0) = true := by simpa using hb
      go_enter Tryz.func177, Tryz.ntmps177
      go_wp2
      refine wp_loop_rounds 3 ?_
      rw [rounds_succ]
      go_wp2
      rw [rounds_succ]
      go_wp2
      go_ret
      exact ⟨rfl, rfl⟩
  · have ha' : (a != 0) = true := by simpa using ha
    go_enter Tryz.func177, Tryz.ntmps177
    go_wp2
    refine wp_loop_rounds 3 ?_
    rw [rounds_succ]
    go_wp2
    go_ret
    exact ⟨rfl, rfl⟩
theorem newBa (V : World) (g : Nat) (hg : g = V.heap.size) (a b : Value) (t : TypeId) : (V.alloc (.cells #[a, b] t)).cell? ⟨g, 0, none⟩ = some a := by subst hg; exact (Blk.new V t [a, b]).cell rfl
theorem newBb (V : World) (g : Nat) (hg : g = V.heap.size) (a b : Value) (t : TypeId) : (V.alloc (.cells #[a, b] t)).cell? ⟨g, 1, none⟩ = some b := by subst hg; exact (Blk.new V t [a, b]).cell rfl
/-- A ballot as a value. -/
abbrev blt (a : Int × Int) : Value := .agg #[.int .i64 a.1, .int .i64 a.2]
set_option maxRecDepth 100000 in
theorem compareEq (W : World) (x1 x2 : Int) : Calls Tryz.prog 140 #[blt (x1, x2), blt (x1, x2)] W fun e w' => e = .returned (.int .i64 0) ∧ Below W.heap.size W w' := by
  have HB : Hid (Below W.heap.size W ((W.alloc (.cells #[.int .i64 x1, .int .i64 x2] 35)).alloc (.cells #[.int .i64 x1, .int .i64 x2] 35))) := ((Below.refl _ _).alloc (Nat.le_refl _) _).alloc (by simp) _
  go_enter Tryz.func140, Tryz.ntmps140
  go_wp2
  go_ret
  exact ⟨rfl, HB.out⟩
set_option maxRecDepth 100000 in
theorem compareNe (W : World) (x y : Int × Int) (hne : x ≠ y) : Calls Tryz.prog 140 #[blt x, blt y] W fun e w' => e = .returned (.int .i64 (cmpB x y)) ∧ Below W.heap.size W w' := by
  obtain ⟨x1, x2⟩ := x
  obtain ⟨y1, y2⟩ := y
  obtain ⟨c1, HC1⟩ : ∃ c, Hid (cmpN x1 y1 = c) := ⟨_, hid rfl⟩
  obtain ⟨c2, HC2⟩ : ∃ c, Hid (cmpN x2 y2 = c) := ⟨_, hid rfl⟩
  have HK1 : Hid (∀ V, Calls Tryz.prog 178 #[.int .i64 x1, .int .i64 y1] V fun e w' => e = .returned (.int .i64 c1) ∧ w' = V) := fun V => by rw [← HC1.out]; exact compare_B V x1 y1
  have HK2 : Hid (∀ V, Calls Tryz.prog 178 #[.int .i64 x2, .int .i64 y2] V fun e w' => e = .returned (.int .i64 c2) ∧ w' = V) := fun V => by rw [← HC2.out]; exact compare_B V x2 y2
  obtain ⟨r, HR⟩ : ∃ r, Hid ((if c1 ≠ 0 then c1 else c2) = r) := ⟨_, hid rfl⟩
  have HRD : Hid (cmpB (x1, x2) (y1, y2) = r) := by show _ = _; unfold cmpB; rw [HC1.out, HC2.out]; exact HR.out
  have HK3 : Hid (∀ V g, V.cell? ⟨g, 0, none⟩ = some (.int .i64 c1) → V.cell? ⟨g, 1, none⟩ = some (.int .i64 c2) → Calls Tryz.prog 177 #[.slice (some ⟨g, 0, none⟩) 2 2] V fun e w' => e = .returned (.int .i64 r) ∧ w' = V) := fun V g h0 h1 => by rw [← HR.out]; exact or_B V g c1 c2 h0 h1
  rw [HRD.out]
  have hne2 : (x1 == y1) = false ∨ ((x1 == y1) = true ∧ (x2 == y2) = false) := by
    simp only [ne_eq, Prod.mk.injEq] at hne
    simp only [beq_eq_false_iff_ne, beq_iff_eq]
    omega
  clear hne
  go_enter Tryz.func140, Tryz.ntmps140
  have hbA : Blk ((W.alloc (.cells #[.int .i64 x1, .int .i64 x2] 35)).alloc (.cells #[.int .i64 y1, .int .i64 y2] 35)) W.heap.size 35 [.int .i64 x1, .int .i64 x2] := (Blk.new W 35 [.int .i64 x1, .int .i64 x2]).alloc _
  have hbB : Blk ((W.alloc (.cells #[.int .i64 x1, .int .i64 x2] 35)).alloc (.cells #[.int .i64 y1, .int .i64 y2] 35)) (W.heap.size + 1) 35 [.int .i64 y1, .int .i64 y2] := by
    have := Blk.new (W.alloc (.cells #[.int .i64 x1, .int .i64 x2] 35)) 35 [.int .i64 y1, .int .i64 y2]
    rw [World.size_alloc] at this
    exact this
  have HG : Hid (Below W.heap.size W ((W.alloc (.cells #[.int .i64 x1, .int .i64 x2] 35)).alloc (.cells #[.int .i64 y1, .int .i64 y2] 35))) := ((Below.refl _ _).alloc (Nat.le_refl _) _).alloc (by simp) _
  rcases hne2 with hx | ⟨hy, hx⟩
  all_goals
    go_wp2
    generalize (W.alloc (.cells #[.int .i64 x1, .int .i64 x2] 35)).alloc (.cells #[.int .i64 y1, .int .i64 y2] 35) = W2 at *
    obtain ⟨pa, hpa⟩ : ∃ p, p = W.heap.size := ⟨_, rfl⟩
    obtain ⟨pb, hpb⟩ : ∃ p, p = W.heap.size + 1 := ⟨_, rfl⟩
    rw [← hpb, ← hpa]
    rw [← hpa] at hbA
    rw [← hpb] at hbB
    have a0 := hbA.cell (i := 0) rfl
    have a1 := hbA.cell (i := 1) rfl
    have b0 := hbB.cell (i := 0) rfl
    have b1 := hbB.cell (i := 1) rfl
    have n1 := hbA.lt
    have n2 := hbB.lt
    have HPW := hid hpa
    clear hbA hbB hpa hpb hx
    go_region_held3 (fun V => V.cell? ⟨pa, 0, none⟩ = some (.int .i64 x1) ∧ V.cell? ⟨pa, 1, none⟩ = some (.int .i64 x2) ∧ V.cell? ⟨pb, 0, none⟩ = some (.int .i64 y1) ∧ V.cell? ⟨pb, 1, none⟩ = some (.int .i64 y2)) (go_keep) (first
      | (go_at_call 178; with_reducible refine (HK1.out _).mono ?_; rintro e w' ⟨rfl, rfl⟩)
      | (go_at_call 178; with_reducible refine (HK2.out _).mono ?_; rintro e w' ⟨rfl, rfl⟩)
      | (go_at_call 177; refine (HK3.out _ _ ?_ ?_).mono ?_; (first | exact newBa _ _ rfl _ _ _ | (simp; exact newBa _ _ (by simp) _ _ _)); (first | exact newBb _ _ rfl _ _ _ | (simp; exact newBb _ _ (by simp) _ _ _)); rintro e w' ⟨rfl, rfl⟩))
    all_goals
      go_wp2
      go_ret
      refine ⟨rfl, ?_⟩
      exact below_dn (HG.out.alloc HG.out.size _) 1
theorem compareB (W : World) (x y : Int × Int) : Calls Tryz.prog 140 #[blt x, blt y] W fun e w' => e = .returned (.int .i64 (cmpB x y)) ∧ Below W.heap.size W w' := by
  by_cases h : x = y
  · subst h
    rw [cmpB_same]
    exact compareEq W x.1 x.2
  · exact compareNe W x y h
end Go.Proofs.YtbofpapdbjecoaaGreat
