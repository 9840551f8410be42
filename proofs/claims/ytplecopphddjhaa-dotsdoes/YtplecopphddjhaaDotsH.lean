/-
  Package dots: the order of dots.
-/
import Derived.Test.YtplecopphddjhaaDotsF
import Derived.Test.YtplecopphddjhaaRowSort
import Derived.Shelf.SlSortCmp.WholeK
import Derived.Shelf.Lay
import Derived.Ground.SlsfProg
namespace Go.Proofs.Ytplecopphddjhaa
open Go.RowKit Go.Maps

def cmpI (x y : Int) : Int := if x < y then -1 else if y < x then 1 else 0
def cmpD (a b : Int × Int) : Int := if cmpI a.1 b.1 ≠ 0 then cmpI a.1 b.1 else cmpI a.2 b.2
theorem isNaN_int (w : World) (x : Int) : Calls Try.prog 64 #[.int .i64 x] w fun e w' => e = .returned (.bool false) ∧ w' = w := by
  go_enter Try.func64, Try.ntmps64
  go_wp2
  go_ret
  exact ⟨by simp, rfl⟩
theorem compare_int (w : World) (x y : Int) : Calls Try.prog 54 #[.int .i64 x, .int .i64 y] w fun e w' => e = .returned (.int .i64 (cmpI x y)) ∧ w' = w := by
  have HX := hid (isNaN_int w x)
  have HY := hid (isNaN_int w y)
  by_cases h1 : x < y
  · have HC : Hid (cmpI x y = -1) := by show _ = _; unfold cmpI; rw [if_pos h1]
    go_enter Try.func54, Try.ntmps54
    go_wp2_with fail
    refine HX.out.mono ?_
    rintro e w' ⟨rfl, rfl⟩
    go_wp2_with fail
    refine HY.out.mono ?_
    rintro e w' ⟨rfl, rfl⟩
    go_wp2
    go_ret
    exact ⟨by rw [HC.out]; rfl, rfl⟩
  · by_cases h2 : y < x
    · have HC : Hid (cmpI x y = 1) := by show _ = _; unfold cmpI; rw [if_neg h1, if_pos h2]
      go_enter Try.func54, Try.ntmps54
      go_wp2_with fail
      refine HX.out.mono ?_
      rintro e w' ⟨rfl, rfl⟩
      go_wp2_with fail
      refine HY.out.mono ?_
      rintro e w' ⟨rfl, rfl⟩
      go_wp2
      go_ret
      exact ⟨by rw [HC.out]; rfl, rfl⟩
    · have HC : Hid (cmpI x y = 0) := by show _ = _; unfold cmpI; rw [if_neg h1, if_neg h2]
      go_enter Try.func54, Try.ntmps54
      go_wp2_with fail
      refine HX.out.mono ?_
      rintro e w' ⟨rfl, rfl⟩
      go_wp2_with fail
      refine HY.out.mono ?_
      rintro e w' ⟨rfl, rfl⟩
      go_wp2
      go_ret
      exact ⟨by rw [HC.out]; rfl, rfl⟩
set_option maxRecDepth 100000 in
theorem or_ints (w : World) (g : Nat) (a b : Int) (h0 : w.cell? ⟨g, 0, none⟩ = some (.int .i64 a)) (h1 : w.cell? ⟨g, 1, none⟩ = some (.int .i64 b)) :
    Calls Try.prog 53 #[.slice (some ⟨g, 0, none⟩) 2 2] w fun e w' => e = .returned (.int .i64 (if a ≠ 0 then a else b)) ∧ w' = w := by
  by_cases ha : a = 0
  · subst ha
    by_cases hb : b = 0
    · subst hb
      go_enter Try.func53, Try.ntmps53
      go_wp2
      refine wp_loop_rounds 3 ?_
      rw [rounds_succ]
      go_wp2
      rw [rounds_succ]
      go_wp2
      rw [rounds_succ]
      go_wp2
      go_ret
      exact ⟨rfl, rfl⟩
    · have hb' : (b != 0) = true := by simpa using hb
      go_enter Try.func53, Try.ntmps53
      go_wp2
      refine wp_loop_rounds 3 ?_
      rw [rounds_succ]
      go_wp2
      rw [rounds_succ]
      go_wp2
      go_ret
      exact ⟨rfl, rfl⟩
  · have ha' : (a != 0) = true := by simpa using ha
    go_enter Try.func53, Try.ntmps53
    go_wp2
    refine wp_loop_rounds 3 ?_
    rw [rounds_succ]
    go_wp2
    go_ret
    exact ⟨rfl, rfl⟩
theorem new2a (V : World) (g : Nat) (hg : g = V.heap.size) (a b : Value) (t : TypeId) : (V.alloc (.cells #[a, b] t)).cell? ⟨g, 0, none⟩ = some a := by subst hg; exact (Blk.new V t [a, b]).cell rfl
theorem new2b (V : World) (g : Nat) (hg : g = V.heap.size) (a b : Value) (t : TypeId) : (V.alloc (.cells #[a, b] t)).cell? ⟨g, 1, none⟩ = some b := by subst hg; exact (Blk.new V t [a, b]).cell rfl
set_option maxRecDepth 100000 in
theorem compareDots_any (W : World) (x y : Int × Int) : Calls Try.prog 40 #[.agg #[.int .i64 x.1, .int .i64 x.2], .agg #[.int .i64 y.1, .int .i64 y.2]] W fun e w' => e = .returned (.int .i64 (cmpD x y)) ∧ ∃ q os', w' = Sort.grow (W.drewN q) os' := by
  obtain ⟨x1, x2⟩ := x
  obtain ⟨y1, y2⟩ := y
  obtain ⟨c1, HC1⟩ : ∃ c, Hid (cmpI x1 y1 = c) := ⟨_, hid rfl⟩
  obtain ⟨c2, HC2⟩ : ∃ c, Hid (cmpI x2 y2 = c) := ⟨_, hid rfl⟩
  have HK1 : Hid (∀ V, Calls Try.prog 54 #[.int .i64 x1, .int .i64 y1] V fun e w' => e = .returned (.int .i64 c1) ∧ w' = V) := fun V => by rw [← HC1.out]; exact compare_int V x1 y1
  have HK2 : Hid (∀ V, Calls Try.prog 54 #[.int .i64 x2, .int .i64 y2] V fun e w' => e = .returned (.int .i64 c2) ∧ w' = V) := fun V => by rw [← HC2.out]; exact compare_int V x2 y2
  obtain ⟨r, HR⟩ : ∃ r, Hid ((if c1 ≠ 0 then c1 else c2) = r) := ⟨_, hid rfl⟩
  have HRD : Hid (cmpD (x1, x2) (y1, y2) = r) := by show _ = _; unfold cmpD; rw [HC1.out, HC2.out]; exact HR.out
  have HK3 : Hid (∀ V g, V.cell? ⟨g, 0, none⟩ = some (.int .i64 c1) → V.cell? ⟨g, 1, none⟩ = some (.int .i64 c2) → Calls Try.prog 53 #[.slice (some ⟨g, 0, none⟩) 2 2] V fun e w' => e = .returned (.int .i64 r) ∧ w' = V) := fun V g h0 h1 => by rw [← HR.out]; exact or_ints V g c1 c2 h0 h1
  rw [HRD.out]
  go_enter Try.func40, Try.ntmps40
  have hbA : Blk ((W.alloc (.cells #[.int .i64 x1, .int .i64 x2] 25)).alloc (.cells #[.int .i64 y1, .int .i64 y2] 25)) W.heap.size 25 [.int .i64 x1, .int .i64 x2] := (Blk.new W 25 [.int .i64 x1, .int .i64 x2]).alloc _
  have hbB : Blk ((W.alloc (.cells #[.int .i64 x1, .int .i64 x2] 25)).alloc (.cells #[.int .i64 y1, .int .i64 y2] 25)) (W.heap.size + 1) 25 [.int .i64 y1, .int .i64 y2] := by
    have := Blk.new (W.alloc (.cells #[.int .i64 x1, .int .i64 x2] 25)) 25 [.int .i64 y1, .int .i64 y2]
    rw [World.size_alloc] at this
    exact this
  have HG : Hid ((W.alloc (.cells #[.int .i64 x1, .int .i64 x2] 25)).alloc (.cells #[.int .i64 y1, .int .i64 y2] 25) = Sort.grow W #[.cells #[.int .i64 x1, .int .i64 x2] 25, .cells #[.int .i64 y1, .int .i64 y2] 25]) := by show _ = _; rw [Sort.alloc_eq_grow, Sort.alloc_eq_grow, Sort.grow_grow]; rfl
  go_wp2
  generalize (W.alloc (.cells #[.int .i64 x1, .int .i64 x2] 25)).alloc (.cells #[.int .i64 y1, .int .i64 y2] 25) = W2 at *
  obtain ⟨pa, hpa⟩ : ∃ p, p = W.heap.size := ⟨_, rfl⟩
  obtain ⟨pb, hpb⟩ : ∃ p, p = W.heap.size + 1 := ⟨_, rfl⟩
  rw [← hpb, ← hpa]
  rw [← hpa] at hbA
  rw [← hpb] at hbB
  have a0 := hbA.cell (i := 0) rfl
  have a1 := hbA.cell (i := 1) rfl
  have b0 := hbB.cell (i := 0) rfl
  have b1 := hbB.cell (i := 1) rfl
  have n1 := hbA.lt
  have n2 := hbB.lt
  clear hbA hbB hpa hpb
  go_region_held3 (fun V => V.cell? ⟨pa, 0, none⟩ = some (.int .i64 x1) ∧ V.cell? ⟨pa, 1, none⟩ = some (.int .i64 x2) ∧ V.cell? ⟨pb, 0, none⟩ = some (.int .i64 y1) ∧ V.cell? ⟨pb, 1, none⟩ = some (.int .i64 y2)) (go_keep) (first
    | (go_at_call 54; with_reducible refine (HK1.out _).mono ?_; rintro e w' ⟨rfl, rfl⟩)
    | (go_at_call 54; with_reducible refine (HK2.out _).mono ?_; rintro e w' ⟨rfl, rfl⟩)
    | (go_at_call 53; refine (HK3.out _ _ ?_ ?_).mono ?_; (first | exact new2a _ _ rfl _ _ _ | (simp; exact new2a _ _ (by simp) _ _ _)); (first | exact new2b _ _ rfl _ _ _ | (simp; exact new2b _ _ (by simp) _ _ _)); rintro e w' ⟨rfl, rfl⟩))
  all_goals
    go_wp2
    go_ret
    refine ⟨rfl, 1, #[.cells #[.int .i64 x1, .int .i64 x2] 25, .cells #[.int .i64 y1, .int .i64 y2] 25, .cells #[.int .i64 c1, .int .i64 c2] 3], ?_⟩
    rw [HG.out, Sort.alloc_eq_grow, Sort.grow_grow]
    rfl
end Go.Proofs.Ytplecopphddjhaa
/-
  Package dots: slices.SortFunc over dots.
-/
namespace Go.Proofs
open Go.Shelf Go.RowKit Go.Lib Go.Sort
shelf_lay_g SlLaysF0.n6 Slsf 6 at Try 51 as Ytplecopphddjhaa.sortDots
end Go.Proofs
namespace Go.Proofs.Ytplecopphddjhaa
open Go.Shelf Go.RowKit Go.Lib Go.Sort

def dotCells (x : Int × Int) : List Value := [.int .i64 x.1, .int .i64 x.2]
theorem flatD_eq (ds : List (Int × Int)) : flatD ds = ds.flatMap dotCells := rfl
theorem cmpD_lt (x y : Int × Int) : cmpD x y < 0 ↔ (x.1 < y.1 ∨ x.1 = y.1 ∧ x.2 < y.2) := by
  unfold cmpD cmpI
  (repeat' split) <;> omega
theorem cmpD_swo : Sort.SWO (ltOf cmpD) where
  irrefl x := by
    have := cmpD_lt x x
    simp [ltOf]
    omega
  trans x y z h1 h2 := by
    simp [ltOf, cmpD_lt] at h1 h2 ⊢
    omega
  ntrans x y z h1 h2 := by
    have a := cmpD_lt x y
    have b := cmpD_lt y z
    have c := cmpD_lt x z
    simp [ltOf] at h1 h2 ⊢
    omega
theorem insert_nil (w : World) (c : Nat) : Calls Try.prog 66 #[.slice none 0 0, .int .i64 0, .int .i64 0, .func (.func c) #[] #[]] w fun e w' => e = .returned (.tuple #[]) ∧ w' = w := by
  go_enter Try.func66, Try.ntmps66
  go_wp2
  refine wp_loop_rounds 1 ?_
  rw [rounds_succ]
  go_wp2
  refine bodyPost_end (results_none rfl _ _ _) rfl ?_
  exact ⟨rfl, rfl⟩
set_option maxRecDepth 100000 in
theorem pdq_nil (w : World) (c : Nat) (l : Int) : Calls Try.prog 62 #[.slice none 0 0, .int .i64 0, .int .i64 0, .int .i64 l, .func (.func c) #[] #[]] w fun e w' => e = .returned (.tuple #[]) ∧ w' = w := by
  have H := hid (insert_nil w c)
  go_enter Try.func62, Try.ntmps62
  go_wp2
  refine wp_loop_rounds 1 ?_
  rw [rounds_succ]
  go_wp2_with fail
  refine H.out.mono ?_
  rintro e w' ⟨rfl, rfl⟩
  go_wp2
  refine bodyPost_ret (results_none rfl _ _ _) rfl ?_
  exact ⟨rfl, rfl⟩
theorem sortD_nil (w : World) (c : Nat) : Calls Try.prog 51 #[.slice none 0 0, .func (.func c) #[] #[]] w fun e w' => e = .returned (.tuple #[]) ∧ w' = w := by
  have H := hid (fun l => pdq_nil w c l)
  have HB := hid (Any.bits_Len (SlLaysF0.n15.bits { sortDots with }) 0 w (by omega) (by omega))
  go_enter Try.func51, Try.ntmps51
  go_wp2_with fail
  refine HB.out.mono ?_
  rintro e w' ⟨rfl, rfl⟩
  go_wp2_with fail
  refine (H.out _).mono ?_
  rintro e w' ⟨rfl, rfl⟩
  go_wp2
  refine bodyPost_end (results_none rfl _ _ _) rfl ?_
  exact ⟨rfl, rfl⟩
theorem sortD_some {w : World} {B g cap : Nat} {gs : List (Int × Int)} (hown : w.ownsRow B 25 2 (.slice (some ⟨g, 0, none⟩) gs.length cap) gs.length (flatD gs)) (hsz : gs.length ≤ 65536) :
    Calls Try.prog 51 #[.slice (some ⟨g, 0, none⟩) gs.length cap, .func (.func 40) #[] #[]] w fun e w' => e = .returned (.tuple #[]) ∧ ∃ hs, hs.Perm gs ∧ hs.Pairwise (fun x y => ¬ cmpD y x < 0) ∧ w'.ownsRow B 25 2 (.slice (some ⟨g, 0, none⟩) gs.length cap) gs.length (flatD hs) ∧ w.grownBy w' (some g) := by
  obtain ⟨hH, hblk⟩ := holdsK_of_row (enc := dotCells) (fun _ => rfl) (by decide) hown
  have eg : ∀ args w, (callFunc 40 args).run Try.prog w = .ok (.enter 40 args) w := enters_of Try.func40 (by kernel_rfl) rfl
  have hcon := AnyQ.slices_SortFunc sortDots 2 (fun w => by kernel_rfl) (fun w => by kernel_rfl) dotCells (fun _ => rfl) (fun x v hv => by simp [dotCells] at hv; rcases hv with rfl | rfl <;> rfl) cmpD cmpD_swo 40 #[] g 0 cap gs.toArray w eg (fun _ _ _ _ x y => compareDots_any _ x y) hH hblk (by simp; omega)
  change Calls Try.prog 51 _ _ _ at hcon
  rw [List.size_toArray] at hcon
  refine hcon.mono ?_
  rintro e w' ⟨rfl, d', n, os, hp, hso, rfl⟩
  obtain ⟨h1, h2, h3⟩ := hp
  have hl : d'.toList.length = gs.length := by simpa using h1
  have hd : d' = d'.toList.toArray := by simp
  have hr := row_of_sort (enc := dotCells) (fun _ => rfl) (by decide) hown d'.toList hl n os
  rw [← hd] at hr
  refine ⟨rfl, d'.toList, ?_, ?_, hr.1, hr.2⟩
  · have hx : d'.extract 0 gs.length = d' := by
      have : gs.length = d'.size := by simpa using h1.symm
      rw [this]
      simp
    rw [hx] at h3
    simpa using h3
  · rw [List.pairwise_iff_getElem]
    intro i j hi hj hij
    have := hso i j (Nat.zero_le _) hij (by rw [← hl]; exact hj)
    rw [getElem!_pos d' j (by simpa using hj), getElem!_pos d' i (by simpa using hi)] at this
    simpa [ltOf] using this
end Go.Proofs.Ytplecopphddjhaa
