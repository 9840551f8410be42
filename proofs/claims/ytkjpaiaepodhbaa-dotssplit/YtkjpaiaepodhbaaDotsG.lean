/-
  Package dots: the order of dots.
-/
import Derived.Test.YtkjpaiaepodhbaaDotsF
import Derived.Test.YtkjpaiaepodhbaaRowSort
import Derived.Shelf.SlSortCmp.WholeK
import Derived.Shelf.Lay
import Derived.Ground.SlsfProg
namespace Go.Proofs.Ytkjpaiaepodhbaa
open Go.RowKit Go.Maps

def cmpI (x y : Int) : Int := if x < y then -1 else if y < x then 1 else 0
def cmpD (a b : Int × Int) : Int := if cmpI a.1 b.1 ≠ 0 then cmpI a.1 b.1 else cmpI a.2 b.2
theorem isNaN_int (w : World) (x : Int) : Calls Try.prog 82 #[.int .i64 x] w fun e w' => e = .returned (.bool false) ∧ w' = w := by
  go_enter Try.func82, Try.ntmps82
  go_wp2
  go_ret
  exact ⟨by simp, rfl⟩
theorem compare_int (w : World) (x y : Int) : Calls Try.prog 71 #[.int .i64 x, .int .i64 y] w fun e w' => e = .returned (.int .i64 (cmpI x y)) ∧ w' = w := by
  have HX := hid (isNaN_int w x)
  have HY := hid (isNaN_int w y)
  by_cases h1 : x < y
  · have HC : Hid (cmpI x y = -1) := by show _ = _; unfold cmpI; rw [if_pos h1]
    go_enter Try.func71, Try.ntmps71
    go_wp2_with fail
    refine HX.out.mono ?_
    rintro e w' ⟨rfl, rfl⟩
    go_wp2_with fail
    refine HY.out.mono ?_
    rintro e w' ⟨rfl, rfl⟩
    go_wp2
    go_ret
    exact ⟨by rw [HC.out]; rfl, rfl⟩
  · by_cases h2 : y < x
    · have HC : Hid (cmpI x y = 1) := by show _ = _; unfold cmpI; rw [if_neg h1, if_pos h2]
      go_enter Try.func71, Try.ntmps71
      go_wp2_with fail
      refine HX.out.mono ?_
      rintro e w' ⟨rfl, rfl⟩
      go_wp2_with fail
      refine HY.out.mono ?_
      rintro e w' ⟨rfl, rfl⟩
      go_wp2
      go_ret
      exact ⟨by rw [HC.out]; rfl, rfl⟩
    · have HC : Hid (cmpI x y = 0) := by show _ = _; unfold cmpI; rw [if_neg h1, if_neg h2]
      go_enter Try.func71, Try.ntmps71
      go_wp2_with fail
      refine HX.out.mono ?_
      rintro e w' ⟨rfl, rfl⟩
      go_wp2_with fail
      refine HY.out.mono ?_
      rintro e w' ⟨rfl, rfl⟩
      go_wp2
      go_ret
      exact ⟨by rw [HC.out]; rfl, rfl⟩
set_option maxRecDepth 100000 in
theorem or_ints (w : World) (g : Nat) (a b : Int) (h0 : w.cell? ⟨g, 0, none⟩ = some (.int .i64 a)) (h1 : w.cell? ⟨g, 1, none⟩ = some (.int .i64 b)) :
    Calls Try.prog 70 #[.slice (some ⟨g, 0, none⟩) 2 2] w fun e w' => e = .returned (.int .i64 (if a ≠ 0 then a else b)) ∧ w' = w := by
  by_cases ha : a = 0
  · subst ha
    by_cases hb : b = 0
    · subst hb
      go_enter Try.func70, Try.ntmps70
      go_wp2
      refine wp_loop_rounds 3 ?_
      rw [rounds_succ]
      go_wp2
      rw [rounds_succ]
      go_wp2
      rw [rounds_succ]
      go_wp2
      go_ret
      exact ⟨rfl, rfl⟩
    · have hb' : (b != 0) = true := by simpa using hb
      go_enter Try.func70, Try.ntmps70
      go_wp2
      refine wp_loop_rounds 3 ?_
      rw [rounds_succ]
      go_wp2
      rw [rounds_succ]
      go_wp2
      go_ret
      exact ⟨rfl, rfl⟩
  · have ha' : (a != 0) = true := by simpa using ha
    go_enter Try.func70, Try.ntmps70
    go_wp2
    refine wp_loop_rounds 3 ?_
    rw [rounds_succ]
    go_wp2
    go_ret
    exact ⟨rfl, rfl⟩
theorem new2a (V : World) (g : Nat) (hg : g = V.heap.size) (a b : Value) (t : TypeId) : (V.alloc (.cells #[a, b] t)).cell? ⟨g, 0, none⟩ = some a := by subst hg; exact (Blk.new V t [a, b]).cell rfl
theorem new2b (V : World) (g : Nat) (hg : g = V.heap.size) (a b : Value) (t : TypeId) : (V.alloc (.cells #[a, b] t)).cell? ⟨g, 1, none⟩ = some b := by subst hg; exact (Blk.new V t [a, b]).cell rfl
set_option maxRecDepth 100000 in
theorem compareDots_any (W : World) (x y : Int × Int) : Calls Try.prog 52 #[.agg #[.int .i64 x.1, .int .i64 x.2], .agg #[.int .i64 y.1, .int .i64 y.2]] W fun e w' => e = .returned (.int .i64 (cmpD x y)) ∧ ∃ q os', w' = Sort.grow (W.drewN q) os' := by
  obtain ⟨x1, x2⟩ := x
  obtain ⟨y1, y2⟩ := y
  obtain ⟨c1, HC1⟩ : ∃ c, Hid (cmpI x1 y1 = c) := ⟨_, hid rfl⟩
  obtain ⟨c2, HC2⟩ : ∃ c, Hid (cmpI x2 y2 = c) := ⟨_, hid rfl⟩
  have HK1 : Hid (∀ V, Calls Try.prog 71 #[.int .i64 x1, .int .i64 y1] V fun e w' => e = .returned (.int .i64 c1) ∧ w' = V) := fun V => by rw [← HC1.out]; exact compare_int V x1 y1
  have HK2 : Hid (∀ V, Calls Try.prog 71 #[.int .i64 x2, .int .i64 y2] V fun e w' => e = .returned (.int .i64 c2) ∧ w' = V) := fun V => by rw [← HC2.out]; exact compare_int V x2 y2
  obtain ⟨r, HR⟩ : ∃ r, Hid ((if c1 ≠ 0 then c1 else c2) = r) := ⟨_, hid rfl⟩
  have HRD : Hid (cmpD (x1, x2) (y1, y2) = r) := by show _ = _; unfold cmpD; rw [HC1.out, HC2.out]; exact HR.out
  have HK3 : Hid (∀ V g, V.cell? ⟨g, 0, none⟩ = some (.int .i64 c1) → V.cell? ⟨g, 1, none⟩ = some (.int .i64 c2) → Calls Try.prog 70 #[.slice (some ⟨g, 0, none⟩) 2 2] V fun e w' => e = .returned (.int .i64 r) ∧ w' = V) := fun V g h0 h1 => by rw [← HR.out]; exact or_ints V g c1 c2 h0 h1
  rw [HRD.out]
  go_enter Try.func52, Try.ntmps52
  have hbA : Blk ((W.alloc (.cells #[.int .i64 x1, .int .i64 x2] 25)).alloc (.cells #[.int .i64 y1, .int .i64 y2] 25)) W.heap.size 25 [.int .i64 x1, .int .i64 x2] := (Blk.new W 25 [.int .i64 x1, .int .i64 x2]).alloc _
  have hbB : Blk ((W.alloc (.cells #[.int .i64 x1, .int .i64 x2] 25)).alloc (.cells #[.int .i64 y1, .int .i64 y2] 25)) (W.heap.size + 1) 25 [.int .i64 y1, .int .i64 y2] := by
    have := Blk.new (W.alloc (.cells #[.int .i64 x1, .int .i64 x2] 25)) 25 [.int .i64 y1, .int .i64 y2]
    rw [World.size_alloc] at this
    exact this
  have HG : Hid ((W.alloc (.cells #[.int .i64 x1, .int .i64 x2] 25)).alloc (.cells #[.int .i64 y1, .int .i64 y2] 25) = Sort.grow W #[.cells #[.int .i64 x1, .int .i64 x2] 25, .cells #[.int .i64 y1, .int .i64 y2] 25]) := by show _ = _; rw [Sort.alloc_eq_grow, Sort.alloc_eq_grow, Sort.grow_grow]; rfl
  go_wp2
  generalize (W.alloc (.cells #[.int .i64 x1, .int .i64 x2] 25)).alloc (.cells #[.int .i64 y1, .int .i64 y2] 25) = W2 at *
  obtain ⟨pa, hpa⟩ : ∃ p, p = W.heap.size := ⟨_, rfl⟩
  obtain ⟨pb, hpb⟩ : ∃ p, p = W.heap.size + 1 := ⟨_, rfl⟩
  rw [← hpb, ← hpa]
  rw [← hpa] at hbA
  rw [← hpb] at hbB
  have a0 := hbA.cell (i := 0) rfl
  have a1 := hbA.cell (i := 1) rfl
  have b0 := hbB.cell (i := 0) rfl
  have b1 := hbB.cell (i := 1) rfl
  have n1 := hbA.lt
  have n2 := hbB.lt
  clear hbA hbB hpa hpb
  go_region_held3 (fun V => V.cell? ⟨pa, 0, none⟩ = some (.int .i64 x1) ∧ V.cell? ⟨pa, 1, none⟩ = some (.int .i64 x2) ∧ V.cell? ⟨pb, 0, none⟩ = some (.int .i64 y1) ∧ V.cell? ⟨pb, 1, none⟩ = some (.int .i64 y2)) (go_keep) (first
    | (go_at_call 71; with_reducible refine (HK1.out _).mono ?_; rintro e w' ⟨rfl, rfl⟩)
    | (go_at_call 71; with_reducible refine (HK2.out _).mono ?_; rintro e w' ⟨rfl, rfl⟩)
    | (go_at_call 70; refine (HK3.out _ _ ?_ ?_).mono ?_; (first | exact new2a _ _ rfl _ _ _ | (simp; exact new2a _ _ (by simp) _ _ _)); (first | exact new2b _ _ rfl _ _ _ | (simp; exact new2b _ _ (by simp) _ _ _)); rintro e w' ⟨rfl, rfl⟩))
  all_goals
    go_wp2
    go_ret
    refine ⟨rfl, 1, #[.cells #[.int .i64 x1, .int .i64 x2] 25, .cells #[.int .i64 y1, .int .i64 y2] 25, .cells #[.int .i64 c1, .int .i64 c2] 3], ?_⟩
    rw [HG.out, Sort.alloc_eq_grow, Sort.grow_grow]
    rfl
end Go.Proofs.Ytkjpaiaepodhbaa
