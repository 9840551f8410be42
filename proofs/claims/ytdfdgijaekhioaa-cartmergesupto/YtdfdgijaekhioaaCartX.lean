/-
  Package cart: the order of events by their dots; slices.SortFunc of events.
-/
import Derived.Test.YtdfdgijaekhioaaEvA
import Derived.Test.YtdfdgijaekhioaaRowSort
import Derived.Deep.RegionHeld3
import Derived.Shelf.SlSortCmp.WholeK
import Derived.Shelf.Lay
import Derived.Ground.SlsfProg
namespace Go.Proofs
open Go.Shelf Go.RowKit Go.Lib Go.Sort
shelf_lay_g SlLaysF0.n6 Slsf 6 at Try 32 as Ytdfdgijaekhioaa.sortEvents
end Go.Proofs
namespace Go.Proofs.Ytdfdgijaekhioaa
open Go.Shelf Go.RowKit Go.Lib Go.Sort Go.Maps

def kI (x y : Int) : Int := if x < y then -1 else if y < x then 1 else 0
def kD (a b : Int × Int) : Int := if kI a.1 b.1 ≠ 0 then kI a.1 b.1 else kI a.2 b.2
def kE (x y : EvM) : Int := kD (x.e.o, x.e.s) (y.e.o, y.e.s)
theorem kD_lt (x y : Int × Int) : kD x y < 0 ↔ (x.1 < y.1 ∨ x.1 = y.1 ∧ x.2 < y.2) := by
  unfold kD kI
  (repeat' split) <;> omega
theorem kE_lt (x y : EvM) : kE x y < 0 ↔ (x.e.o < y.e.o ∨ x.e.o = y.e.o ∧ x.e.s < y.e.s) := kD_lt _ _
theorem kE_swo : Sort.SWO (ltOf kE) where
  irrefl x := by
    have := kE_lt x x
    simp [ltOf]
    omega
  trans x y z h1 h2 := by
    simp [ltOf, kE_lt] at h1 h2 ⊢
    omega
  ntrans x y z h1 h2 := by
    have a := kE_lt x y
    have b := kE_lt y z
    have c := kE_lt x z
    simp [ltOf] at h1 h2 ⊢
    omega
theorem knan (w : World) (x : Int) : Calls Try.prog 70 #[.int .i64 x] w fun e w' => e = .returned (.bool false) ∧ w' = w := by
  go_enter Try.func70, Try.ntmps70
  go_wp2
  go_ret
  exact ⟨by simp, rfl⟩
theorem kcompare (w : World) (x y : Int) : Calls Try.prog 49 #[.int .i64 x, .int .i64 y] w fun e w' => e = .returned (.int .i64 (kI x y)) ∧ w' = w := by
  have HX := hid (knan w x)
  have HY := hid (knan w y)
  by_cases h1 : x < y
  · have HC : Hid (kI x y = -1) := by show _ = _; unfold kI; rw [if_pos h1]
    go_enter Try.func49, Try.ntmps49
    go_wp2_with fail
    refine HX.out.mono ?_
    rintro e w' ⟨rfl, rfl⟩
    go_wp2_with fail
    refine HY.out.mono ?_
    rintro e w' ⟨rfl, rfl⟩
    go_wp2
    go_ret
    exact ⟨by rw [HC.out]; rfl, rfl⟩
  · by_cases h2 : y < x
    · have HC : Hid (kI x y = 1) := by show _ = _; unfold kI; rw [if_neg h1, if_pos h2]
      go_enter Try.func49, Try.ntmps49
      go_wp2_with fail
      refine HX.out.mono ?_
      rintro e w' ⟨rfl, rfl⟩
      go_wp2_with fail
      refine HY.out.mono ?_
      rintro e w' ⟨rfl, rfl⟩
      go_wp2
      go_ret
      exact ⟨by rw [HC.out]; rfl, rfl⟩
    · have HC : Hid (kI x y = 0) := by show _ = _; unfold kI; rw [if_neg h1, if_neg h2]
      go_enter Try.func49, Try.ntmps49
      go_wp2_with fail
      refine HX.out.mono ?_
      rintro e w' ⟨rfl, rfl⟩
      go_wp2_with fail
      refine HY.out.mono ?_
      rintro e w' ⟨rfl, rfl⟩
      go_wp2
      go_ret
      exact ⟨by rw [HC.out]; rfl, rfl⟩
set_option maxRecDepth 100000 in
theorem kor (w : World) (g : Nat) (a b : Int) (h0 : w.cell? ⟨g, 0, none⟩ = some (.int .i64 a)) (h1 : w.cell? ⟨g, 1, none⟩ = some (.int .i64 b)) :
    Calls Try.prog 48 #[.slice (some ⟨g, 0, none⟩) 2 2] w fun e w' => e = .returned (.int .i64 (if a ≠ 0 then a else b)) ∧ w' = w := by
  by_cases ha : a = 0
  · subst ha
    by_cases hb : b = 0
    · subst hb
      go_enter Try.func48, Try.ntmps48
      go_wp2
      refine wp_loop_rounds 3 ?_
      rw [rounds_succ]
      go_wp2
      rw [rounds_succ]
      go_wp2
      rw [rounds_succ]
      go_wp2
      go_ret
      exact ⟨rfl, rfl⟩
    · have hb' : (b != 0) = true := by simpa using hb
      go_enter Try.func48, Try.ntmps48
      go_wp2
      refine wp_loop_rounds 3 ?_
      rw [rounds_succ]
      go_wp2
      rw [rounds_succ]
      go_wp2
      go_ret
      exact ⟨rfl, rfl⟩
  · have ha' : (a != 0) = true := by simpa using ha
    go_enter Try.func48, Try.ntmps48
    go_wp2
    refine wp_loop_rounds 3 ?_
    rw [rounds_succ]
    go_wp2
    go_ret
    exact ⟨rfl, rfl⟩
theorem knew2a (V : World) (g : Nat) (hg : g = V.heap.size) (a b : Value) (t : TypeId) : (V.alloc (.cells #[a, b] t)).cell? ⟨g, 0, none⟩ = some a := by subst hg; exact (Blk.new V t [a, b]).cell rfl
theorem knew2b (V : World) (g : Nat) (hg : g = V.heap.size) (a b : Value) (t : TypeId) : (V.alloc (.cells #[a, b] t)).cell? ⟨g, 1, none⟩ = some b := by subst hg; exact (Blk.new V t [a, b]).cell rfl
set_option maxRecDepth 100000 in
theorem kdots_any (W : World) (x y : Int × Int) : Calls Try.prog 34 #[.agg #[.int .i64 x.1, .int .i64 x.2], .agg #[.int .i64 y.1, .int .i64 y.2]] W fun e w' => e = .returned (.int .i64 (kD x y)) ∧ ∃ q os', w' = Sort.grow (W.drewN q) os' := by
  obtain ⟨x1, x2⟩ := x
  obtain ⟨y1, y2⟩ := y
  obtain ⟨c1, HC1⟩ : ∃ c, Hid (kI x1 y1 = c) := ⟨_, hid rfl⟩
  obtain ⟨c2, HC2⟩ : ∃ c, Hid (kI x2 y2 = c) := ⟨_, hid rfl⟩
  have HK1 : Hid (∀ V, Calls Try.prog 49 #[.int .i64 x1, .int .i64 y1] V fun e w' => e = .returned (.int .i64 c1) ∧ w' = V) := fun V => by rw [← HC1.out]; exact kcompare V x1 y1
  have HK2 : Hid (∀ V, Calls Try.prog 49 #[.int .i64 x2, .int .i64 y2] V fun e w' => e = .returned (.int .i64 c2) ∧ w' = V) := fun V => by rw [← HC2.out]; exact kcompare V x2 y2
  obtain ⟨r, HR⟩ : ∃ r, Hid ((if c1 ≠ 0 then c1 else c2) = r) := ⟨_, hid rfl⟩
  have HRD : Hid (kD (x1, x2) (y1, y2) = r) := by show _ = _; unfold kD; rw [HC1.out, HC2.out]; exact HR.out
  have HK3 : Hid (∀ V g, V.cell? ⟨g, 0, none⟩ = some (.int .i64 c1) → V.cell? ⟨g, 1, none⟩ = some (.int .i64 c2) → Calls Try.prog 48 #[.slice (some ⟨g, 0, none⟩) 2 2] V fun e w' => e = .returned (.int .i64 r) ∧ w' = V) := fun V g h0 h1 => by rw [← HR.out]; exact kor V g c1 c2 h0 h1
  rw [HRD.out]
  go_enter Try.func34, Try.ntmps34
  have hbA : Blk ((W.alloc (.cells #[.int .i64 x1, .int .i64 x2] 26)).alloc (.cells #[.int .i64 y1, .int .i64 y2] 26)) W.heap.size 26 [.int .i64 x1, .int .i64 x2] := (Blk.new W 26 [.int .i64 x1, .int .i64 x2]).alloc _
  have hbB : Blk ((W.alloc (.cells #[.int .i64 x1, .int .i64 x2] 26)).alloc (.cells #[.int .i64 y1, .int .i64 y2] 26)) (W.heap.size + 1) 26 [.int .i64 y1, .int .i64 y2] := by
    have := Blk.new (W.alloc (.cells #[.int .i64 x1, .int .i64 x2] 26)) 26 [.int .i64 y1, .int .i64 y2]
    rw [World.size_alloc] at this
    exact this
  have HG : Hid ((W.alloc (.cells #[.int .i64 x1, .int .i64 x2] 26)).alloc (.cells #[.int .i64 y1, .int .i64 y2] 26) = Sort.grow W #[.cells #[.int .i64 x1, .int .i64 x2] 26, .cells #[.int .i64 y1, .int .i64 y2] 26]) := by show _ = _; rw [Sort.alloc_eq_grow, Sort.alloc_eq_grow, Sort.grow_grow]; rfl
  go_wp2
  generalize (W.alloc (.cells #[.int .i64 x1, .int .i64 x2] 26)).alloc (.cells #[.int .i64 y1, .int .i64 y2] 26) = W2 at *
  obtain ⟨pa, hpa⟩ : ∃ p, p = W.heap.size := ⟨_, rfl⟩
  obtain ⟨pb, hpb⟩ : ∃ p, p = W.heap.size + 1 := ⟨_, rfl⟩
  rw [← hpb, ← hpa]
  rw [← hpa] at hbA
  rw [← hpb] at hbB
  have a0 := hbA.cell (i := 0) rfl
  have a1 := hbA.cell (i := 1) rfl
  have b0 := hbB.cell (i := 0) rfl
  have b1 := hbB.cell (i := 1) rfl
  have n1 := hbA.lt
  have n2 := hbB.lt
  clear hbA hbB hpa hpb
  go_region_held3 (fun V => V.cell? ⟨pa, 0, none⟩ = some (.int .i64 x1) ∧ V.cell? ⟨pa, 1, none⟩ = some (.int .i64 x2) ∧ V.cell? ⟨pb, 0, none⟩ = some (.int .i64 y1) ∧ V.cell? ⟨pb, 1, none⟩ = some (.int .i64 y2)) (go_keep) (first
    | (go_at_call 49; with_reducible refine (HK1.out _).mono ?_; rintro e w' ⟨rfl, rfl⟩)
    | (go_at_call 49; with_reducible refine (HK2.out _).mono ?_; rintro e w' ⟨rfl, rfl⟩)
    | (go_at_call 48; refine (HK3.out _ _ ?_ ?_).mono ?_; (first | exact knew2a _ _ rfl _ _ _ | (simp; exact knew2a _ _ (by simp) _ _ _)); (first | exact knew2b _ _ rfl _ _ _ | (simp; exact knew2b _ _ (by simp) _ _ _)); rintro e w' ⟨rfl, rfl⟩))
  all_goals
    go_wp2
    go_ret
    refine ⟨rfl, 1, #[.cells #[.int .i64 x1, .int .i64 x2] 26, .cells #[.int .i64 y1, .int .i64 y2] 26, .cells #[.int .i64 c1, .int .i64 c2] 3], ?_⟩
    rw [HG.out, Sort.alloc_eq_grow, Sort.grow_grow]
    rfl
theorem grow_dn (W : World) (a b : Array Obj) (q : Nat) : Sort.grow ((Sort.grow W a).drewN q) b = Sort.grow (W.drewN q) (a ++ b) := by
  rw [show (Sort.grow W a).drewN q = Sort.grow (W.drewN q) a from rfl, Sort.grow_grow]
set_option maxRecDepth 100000 in
theorem merge1_any (W : World) (x y : EvM) : Calls Try.prog 33 #[x.val, y.val] W fun e w' => e = .returned (.int .i64 (kE x y)) ∧ ∃ q os', w' = Sort.grow (W.drewN q) os' := by
  obtain ⟨⟨o1, s1, d1, c1, p1, k1, q1, b1⟩, ao1, cap1⟩ := x
  obtain ⟨⟨o2, s2, d2, c2, p2, k2, q2, b2⟩, ao2, cap2⟩ := y
  simp only [EvM.val]
  obtain ⟨n1, HN1⟩ : ∃ n, Hid (d1.length = n) := ⟨_, hid rfl⟩
  obtain ⟨n2, HN2⟩ : ∃ n, Hid (d2.length = n) := ⟨_, hid rfl⟩
  rw [HN1.out, HN2.out]
  have HG : Hid ((W.alloc (.cells #[.int .i64 o1, .int .i64 s1, .slice ao1 n1 cap1, .string c1, .int .i64 p1, .string k1, .int .i64 q1, .bool b1] 29)).alloc (.cells #[.int .i64 o2, .int .i64 s2, .slice ao2 n2 cap2, .string c2, .int .i64 p2, .string k2, .int .i64 q2, .bool b2] 29) = Sort.grow W #[.cells #[.int .i64 o1, .int .i64 s1, .slice ao1 n1 cap1, .string c1, .int .i64 p1, .string k1, .int .i64 q1, .bool b1] 29, .cells #[.int .i64 o2, .int .i64 s2, .slice ao2 n2 cap2, .string c2, .int .i64 p2, .string k2, .int .i64 q2, .bool b2] 29]) := by show _ = _; rw [Sort.alloc_eq_grow, Sort.alloc_eq_grow, Sort.grow_grow]; rfl
  have HC := hid (fun V => kdots_any V (o1, s1) (o2, s2))
  have HCT : Hid (kE ⟨⟨o1, s1, d1, c1, p1, k1, q1, b1⟩, ao1, cap1⟩ ⟨⟨o2, s2, d2, c2, p2, k2, q2, b2⟩, ao2, cap2⟩ = kD (o1, s1) (o2, s2)) := rfl
  rw [HCT.out]
  obtain ⟨r, HR⟩ : ∃ r, Hid (kD (o1, s1) (o2, s2) = r) := ⟨_, hid rfl⟩
  rw [HR.out] at HC ⊢
  go_enter Try.func33, Try.ntmps33
  go_wp2_with fail
  refine (HC.out _).mono ?_
  rintro e w' ⟨rfl, q, os', rfl⟩
  rw [HG.out]
  go_wp2
  go_ret
  exact ⟨rfl, q, _, grow_dn _ _ _ _⟩
theorem insertE_nil (w : World) (c : Nat) : Calls Try.prog 62 #[.slice none 0 0, .int .i64 0, .int .i64 0, .func (.func c) #[] #[]] w fun e w' => e = .returned (.tuple #[]) ∧ w' = w := by
  go_enter Try.func62, Try.ntmps62
  go_wp2
  refine wp_loop_rounds 1 ?_
  rw [rounds_succ]
  go_wp2
  refine bodyPost_end (results_none rfl _ _ _) rfl ?_
  exact ⟨rfl, rfl⟩
set_option maxRecDepth 100000 in
theorem pdqE_nil (w : World) (c : Nat) (l : Int) : Calls Try.prog 47 #[.slice none 0 0, .int .i64 0, .int .i64 0, .int .i64 l, .func (.func c) #[] #[]] w fun e w' => e = .returned (.tuple #[]) ∧ w' = w := by
  have H := hid (insertE_nil w c)
  go_enter Try.func47, Try.ntmps47
  go_wp2
  refine wp_loop_rounds 1 ?_
  rw [rounds_succ]
  go_wp2_with fail
  refine H.out.mono ?_
  rintro e w' ⟨rfl, rfl⟩
  go_wp2
  refine bodyPost_ret (results_none rfl _ _ _) rfl ?_
  exact ⟨rfl, rfl⟩
theorem sortE_nil (w : World) (c : Nat) : Calls Try.prog 32 #[.slice none 0 0, .func (.func c) #[] #[]] w fun e w' => e = .returned (.tuple #[]) ∧ w' = w := by
  have H := hid (fun l => pdqE_nil w c l)
  have HB := hid (Any.bits_Len (SlLaysF0.n15.bits { sortEvents with }) 0 w (by omega) (by omega))
  go_enter Try.func32, Try.ntmps32
  go_wp2_with fail
  refine HB.out.mono ?_
  rintro e w' ⟨rfl, rfl⟩
  go_wp2_with fail
  refine (H.out _).mono ?_
  rintro e w' ⟨rfl, rfl⟩
  go_wp2
  refine bodyPost_end (results_none rfl _ _ _) rfl ?_
  exact ⟨rfl, rfl⟩
theorem sortE_some {w : World} {B g cap : Nat} {gs : List EvM} (hown : w.ownsRow B 29 8 (.slice (some ⟨g, 0, none⟩) gs.length cap) gs.length (flatE gs)) (hsz : gs.length ≤ 4194304) :
    Calls Try.prog 32 #[.slice (some ⟨g, 0, none⟩) gs.length cap, .func (.func 33) #[] #[]] w fun e w' => e = .returned (.tuple #[]) ∧ ∃ hs, hs.Perm gs ∧ hs.Pairwise (fun x y => ¬ kE y x < 0) ∧ w'.ownsRow B 29 8 (.slice (some ⟨g, 0, none⟩) gs.length cap) gs.length (flatE hs) ∧ w.grownBy w' (some g) := by
  obtain ⟨hH, hblk⟩ := holdsK_of_row (enc := EvM.cells) (fun _ => rfl) (by decide) hown
  have eg : ∀ args w, (callFunc 33 args).run Try.prog w = .ok (.enter 33 args) w := enters_of Try.func33 (by kernel_rfl) rfl
  have hcon := AnyQ.slices_SortFunc sortEvents 8 (fun w => by kernel_rfl) (fun w => by kernel_rfl) EvM.cells (fun _ => rfl) (fun x v hv => ev_one x v hv) kE kE_swo 33 #[] g 0 cap gs.toArray w eg (fun _ _ _ _ x y => merge1_any _ x y) hH hblk (by simp; omega)
  change Calls Try.prog 32 _ _ _ at hcon
  rw [List.size_toArray] at hcon
  refine hcon.mono ?_
  rintro e w' ⟨rfl, d', n, os, hp, hso, rfl⟩
  obtain ⟨h1, h2, h3⟩ := hp
  have hl : d'.toList.length = gs.length := by simpa using h1
  have hd : d' = d'.toList.toArray := by simp
  have hr := row_of_sort (enc := EvM.cells) (fun _ => rfl) (by decide) hown d'.toList hl n os
  rw [← hd] at hr
  refine ⟨rfl, d'.toList, ?_, ?_, hr.1, hr.2⟩
  · have hx : d'.extract 0 gs.length = d' := by
      have : gs.length = d'.size := by simpa using h1.symm
      rw [this]
      simp
    rw [hx] at h3
    simpa using h3
  · rw [List.pairwise_iff_getElem]
    intro i j hi hj hij
    have := hso i j (Nat.zero_le _) hij (by rw [← hl]; exact hj)
    rw [getElem!_pos d' j (by simpa using hj), getElem!_pos d' i (by simpa using hi)] at this
    simpa [ltOf] using this

theorem sortE_any {w : World} {B : Nat} {v : Value} {gs : List EvM} (hown : w.ownsRow B 29 8 v gs.length (flatE gs)) (hsz : gs.length ≤ 4194304) :
    Calls Try.prog 32 #[v, .func (.func 33) #[] #[]] w fun e w' => e = .returned (.tuple #[]) ∧ ∃ hs, hs.Perm gs ∧ hs.Pairwise (fun x y => ¬ kE y x < 0) ∧ w'.ownsRow B 29 8 v gs.length (flatE hs) ∧ w.grownBy w' v.ownBlock := by
  rcases hown.2 with ⟨rfl, h0⟩ | ⟨g, cap, cur, rfl, _⟩
  · obtain rfl : gs = [] := List.eq_nil_of_length_eq_zero h0
    refine (sortE_nil w _).mono ?_
    rintro e w' ⟨rfl, rfl⟩
    exact ⟨rfl, [], .nil, .nil, hown, World.grownBy.refl _ _⟩
  · exact sortE_some hown hsz
end Go.Proofs.Ytdfdgijaekhioaa
