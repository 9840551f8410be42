/-
  The laws' SameVoted and SameEvents of whatever two lists.
-/
import Derived.Test.YtjjgojjllbdpkaaSaE
import Derived.Test.YtjjgojjllbdpkaaEvSame
import Derived.Deep.RegionHeld3
import Derived.Deep.QuietTactic
import Derived.BigQuiet
namespace Go.Proofs.Ytjjgojjllbdpkaa
open Go.RowKit Go.Maps

/-- V is a world behind W. -/
structure ScP (W V : World) : Prop where
  out : Below W.heap.size W V
theorem ScP.start (W : World) : ScP W W := ⟨Below.refl _ _⟩
theorem ScP.go {W V U : World} (h : ScP W V) (hb : Below V.heap.size V U) : ScP W U := ⟨bt' h.out hb⟩
theorem ScP.dr {W V : World} (h : ScP W V) : ScP W V.drew := ⟨h.out.drew⟩
theorem ScP.alloc {W V : World} (h : ScP W V) (o : Obj) : ScP W (V.alloc o) := ⟨h.out.alloc h.out.size _⟩
/-- A region with a few leaves: the walk goes on once. -/
theorem wp_shareP {P : Program} {id : Nat} {ops : Array Oper} {b : Bool} {Q : Exit → Act → World → Prop} {a : Act} {w : World} {A : Act} {S : World → Prop}
    (h1 : (Code.region id ops b).wp P (NoPanic (fun e a w => e = .normal ∧ a = A ∧ S w)) a w) (h2 : ∀ w, S w → Q .normal A w) : (Code.region id ops b).wp P Q a w :=
  Code.wp_mono (fun e a w h => by
    cases e with
    | panic c => exact (h : False).elim
    | _ =>
      obtain ⟨e1, rfl, h3⟩ := h
      first | (cases e1; done) | exact h2 _ h3) h1
theorem wrapP {k : Nat} (h : k ≤ 65536) : wrap64 ((k : Int) + 1) = (k : Int) + 1 := by unfold wrap64; omega
theorem measP {n k : Nat} (h : k + 1 ≤ n) (hw : wrap64 ((k : Int) + 1) = (k : Int) + 1) : n - (intOf (.int .i64 (wrap64 ((k : Int) + 1)))).toNat < n - (intOf (.int .i64 (k : Int))).toNat := by
  rw [hw]
  simp [intOf]
  omega
theorem measP1 {n k : Nat} (h : k + 1 ≤ n) : n - (intOf (.int .i64 ((k : Int) + 1))).toNat < n - (intOf (.int .i64 (k : Int))).toNat := by
  simp [intOf]
  omega

theorem map_to {α β : Type} {f : α → β} {xs ys : List α} {N : Nat} (hx : xs.length = N) (hy : ys.length = N) {k : Nat} (hk : ¬ k < N) (h : ∀ j (h1 : j < xs.length) (h2 : j < ys.length), j < k → f xs[j] = f ys[j]) : xs.map f = ys.map f := by
  apply List.ext_getElem
  · simp; omega
  · intro i h1 h2
    simp at h1 h2
    simp only [List.getElem_map]
    exact h i h1 h2 (by omega)
theorem map_not {α β : Type} {f : α → β} {xs ys : List α} {k : Nat} (h1 : k < xs.length) (h2 : k < ys.length) (hne : f xs[k] ≠ f ys[k]) : xs.map f ≠ ys.map f := fun e => hne (by
  have h3 : (xs.map f)[k]? = (ys.map f)[k]? := by rw [e]
  simpa [List.getElem?_eq_getElem h1, List.getElem?_eq_getElem h2] using h3)
theorem map_len {α β : Type} {f : α → β} {xs ys : List α} {m n : Nat} (hx : xs.length = m) (hy : ys.length = n) (hne : m ≠ n) : xs.map f ≠ ys.map f := fun e => hne (by
  have h1 := congrArg List.length e
  simp at h1
  omega)
theorem step_to {α β : Type} {f : α → β} {xs ys : List α} {k : Nat} (h : ∀ j (h1 : j < xs.length) (h2 : j < ys.length), j < k → f xs[j] = f ys[j]) (hk1 : k < xs.length) (hk2 : k < ys.length) (he : f xs[k] = f ys[k]) : ∀ j (h1 : j < xs.length) (h2 : j < ys.length), j < k + 1 → f xs[j] = f ys[j] := fun j h1 h2 hj => by
  by_cases e : j = k
  · subst e; exact he
  · exact h j h1 h2 (by omega)
set_option maxRecDepth 1000000 in
set_option maxHeartbeats 4000000 in
theorem sameEvents_A (w : World) (ao bo : Option Addr) (ca cb : Nat) (xs ys : List EvM) (m n : Nat) (hm : xs.length = m) (hn : ys.length = n) (hx : HeldE w ao xs) (hy : HeldE w bo ys) (hl : m ≤ 65536) :
    Calls Try.prog 21 #[.slice ao m ca, .slice bo n cb] w fun e w' => e = .returned (.bool (decide (xs.map (fun y => y.e) = ys.map (fun y => y.e)))) ∧ Below w.heap.size w w' := by
  by_cases hmn : m = n
  · subst hmn
    have HXL := hid hm
    have HYL := hid hn
    have HX := hid hx
    have HY := hid hy
    have HL := hid hl
    have hnn : ((m : Int) != (m : Int)) = false := by simp
    clear hm hn hx hy hl
    go_enter Try.func21, Try.ntmps21
    go_wp2
    go_loopw [5] (fun i wr => ∃ k : Nat, k ≤ m ∧ i = .int .i64 k ∧ Hid (Below w.heap.size w wr ∧ ∀ j (h1 : j < xs.length) (h2 : j < ys.length), j < k → xs[j].e = ys[j].e)) (fun i _ => m - (intOf i).toNat)
    case atStart => exact ⟨0, Nat.zero_le _, rfl, Below.refl _ _, fun j _ _ hj => absurd hj (Nat.not_lt_zero _)⟩
    case round =>
      obtain ⟨k, hk, rfl, HR⟩ := hrel
      by_cases hlt : k < m
      · have hlt' : (k : Int) < (m : Int) := by omega
        have hkx : Hid (k < xs.length) := (by rw [HXL.out]; exact hlt : k < xs.length)
        have hky : Hid (k < ys.length) := (by rw [HYL.out]; exact hlt : k < ys.length)
        have HKM : Hid (k + 1 ≤ m) := (by omega : k + 1 ≤ m)
        have HST : Hid ((xs[k]'hkx.out).e = (ys[k]'hky.out).e → ∀ j (h1 : j < xs.length) (h2 : j < ys.length), j < k + 1 → xs[j].e = ys[j].e) := fun he => step_to (f := fun y : EvM => y.e) HR.out.2 hkx.out hky.out he
        have HNO : Hid ((xs[k]'hkx.out).e ≠ (ys[k]'hky.out).e → decide (xs.map (fun y => y.e) = ys.map (fun y => y.e)) = false) := fun he => decide_eq_false (map_not (f := fun y : EvM => y.e) hkx.out hky.out he)
        have HOX := hid ((HX.out.1 _ (List.getElem_mem hkx.out)).below HR.out.1)
        have HOY := hid ((HY.out.1 _ (List.getElem_mem hky.out)).below HR.out.1)
        obtain ⟨b1, o1, hao, _⟩ := HX.out.at hkx.out
        obtain ⟨b2, o2, hbo, _⟩ := HY.out.at hky.out
        subst hao hbo
        have HX1 := hid (HX.out.below HR.out.1)
        have HX2 := hid (HY.out.below HR.out.1)
        have HSE : Hid (∀ V, ScP wr V → Calls Try.prog 8 #[(xs[k]'hkx.out).val, (ys[k]'hky.out).val] V fun e w' => e = .returned (.bool (decide ((xs[k]'hkx.out).e = (ys[k]'hky.out).e))) ∧ ScP wr w') := fun V hV =>
          (sameEv_any V _ _ (HOX.out.below hV.out) (HOY.out.below hV.out)).mono (fun e w' hh => ⟨hh.1, hV.go hh.2⟩)
        obtain ⟨r, HRR⟩ : ∃ r, Hid (decide ((xs[k]'hkx.out).e = (ys[k]'hky.out).e) = r) := ⟨_, hid rfl⟩
        rw [HRR.out] at HSE
        obtain ⟨X, HXX⟩ : ∃ X, Hid (xs[k]'hkx.out = X) := ⟨_, hid rfl⟩
        obtain ⟨Y, HYY⟩ : ∃ Y, Hid (ys[k]'hky.out = Y) := ⟨_, hid rfl⟩
        rw [HXX.out, HYY.out] at HSE
        obtain ⟨⟨xo, xs', xd, xc, xp, xk, xq, xb⟩, ao1, cap1⟩ := X
        obtain ⟨⟨yo, ys', yd, yc, yp, yk, yq, yb⟩, ao2, cap2⟩ := Y
        obtain ⟨XN, HXN⟩ : ∃ m, Hid (xd.length = m) := ⟨_, hid rfl⟩
        obtain ⟨YN, HYN⟩ : ∃ m, Hid (yd.length = m) := ⟨_, hid rfl⟩
        simp only [EvM.val] at HSE
        rw [HXN.out, HYN.out] at HSE
        have HSA : Hid (∀ V, ScP wr V → (ScP wr V ∧ V.cell? ⟨b1, o1 + k * 8, none⟩ = some (.int .i64 xo) ∧ V.cell? ⟨b1, o1 + k * 8 + 1, none⟩ = some (.int .i64 xs') ∧ V.cell? ⟨b1, o1 + k * 8 + 2, none⟩ = some (.slice ao1 XN cap1) ∧ V.cell? ⟨b1, o1 + k * 8 + 3, none⟩ = some (.string xc) ∧ V.cell? ⟨b1, o1 + k * 8 + 4, none⟩ = some (.int .i64 xp) ∧ V.cell? ⟨b1, o1 + k * 8 + 5, none⟩ = some (.string xk) ∧ V.cell? ⟨b1, o1 + k * 8 + 6, none⟩ = some (.int .i64 xq) ∧ V.cell? ⟨b1, o1 + k * 8 + 7, none⟩ = some (.bool xb) ∧ V.cell? ⟨b2, o2 + k * 8, none⟩ = some (.int .i64 yo) ∧ V.cell? ⟨b2, o2 + k * 8 + 1, none⟩ = some (.int .i64 ys') ∧ V.cell? ⟨b2, o2 + k * 8 + 2, none⟩ = some (.slice ao2 YN cap2) ∧ V.cell? ⟨b2, o2 + k * 8 + 3, none⟩ = some (.string yc) ∧ V.cell? ⟨b2, o2 + k * 8 + 4, none⟩ = some (.int .i64 yp) ∧ V.cell? ⟨b2, o2 + k * 8 + 5, none⟩ = some (.string yk) ∧ V.cell? ⟨b2, o2 + k * 8 + 6, none⟩ = some (.int .i64 yq) ∧ V.cell? ⟨b2, o2 + k * 8 + 7, none⟩ = some (.bool yb))) := fun V hV => by
          obtain ⟨b', o', he, _, f0, f1, f2, f3, f4, f5, f6, f7⟩ := (HX1.out.below hV.out).at hkx.out
          cases he
          obtain ⟨b', o', he, _, g0, g1, g2, g3, g4, g5, g6, g7⟩ := (HX2.out.below hV.out).at hky.out
          cases he
          rw [HXX.out] at f0 f1 f2 f3 f4 f5 f6 f7
          rw [HYY.out] at g0 g1 g2 g3 g4 g5 g6 g7
          simp only at f0 f1 f2 f3 f4 f5 f6 f7 g0 g1 g2 g3 g4 g5 g6 g7
          rw [HXN.out] at f2
          rw [HYN.out] at g2
          exact ⟨hV, f0, f1, f2, f3, f4, f5, f6, f7, g0, g1, g2, g3, g4, g5, g6, g7⟩
        have hw0 : wrap64 ((k : Int) + 1) = (k : Int) + 1 := wrapP (Nat.le_trans hk HL.out)
        go_wp2
        apply wp_shareP (S := fun V => ScP wr V)
        · go_region_held3 (fun V => ScP wr V ∧ V.cell? ⟨b1, o1 + k * 8, none⟩ = some (.int .i64 xo) ∧ V.cell? ⟨b1, o1 + k * 8 + 1, none⟩ = some (.int .i64 xs') ∧ V.cell? ⟨b1, o1 + k * 8 + 2, none⟩ = some (.slice ao1 XN cap1) ∧ V.cell? ⟨b1, o1 + k * 8 + 3, none⟩ = some (.string xc) ∧ V.cell? ⟨b1, o1 + k * 8 + 4, none⟩ = some (.int .i64 xp) ∧ V.cell? ⟨b1, o1 + k * 8 + 5, none⟩ = some (.string xk) ∧ V.cell? ⟨b1, o1 + k * 8 + 6, none⟩ = some (.int .i64 xq) ∧ V.cell? ⟨b1, o1 + k * 8 + 7, none⟩ = some (.bool xb) ∧ V.cell? ⟨b2, o2 + k * 8, none⟩ = some (.int .i64 yo) ∧ V.cell? ⟨b2, o2 + k * 8 + 1, none⟩ = some (.int .i64 ys') ∧ V.cell? ⟨b2, o2 + k * 8 + 2, none⟩ = some (.slice ao2 YN cap2) ∧ V.cell? ⟨b2, o2 + k * 8 + 3, none⟩ = some (.string yc) ∧ V.cell? ⟨b2, o2 + k * 8 + 4, none⟩ = some (.int .i64 yp) ∧ V.cell? ⟨b2, o2 + k * 8 + 5, none⟩ = some (.string yk) ∧ V.cell? ⟨b2, o2 + k * 8 + 6, none⟩ = some (.int .i64 yq) ∧ V.cell? ⟨b2, o2 + k * 8 + 7, none⟩ = some (.bool yb))
            ((refine HSA.out _ ?_; (repeat (first | with_reducible assumption | exact ScP.start _ | apply ScP.dr))))
            (first
              | (go_at_call 8; with_reducible refine (HSE.out _ (by (repeat (first | with_reducible assumption | exact ScP.start _ | apply ScP.dr)))).mono ?_; rintro e x5 ⟨rfl, hs5⟩))
          all_goals
            rename_i hHeld
            exact NoPanic.normal ⟨rfl, rfl, hHeld.1⟩
        rintro W2 hs2
        have HB2 : Hid (Below w.heap.size w W2) := bt' HR.out.1 hs2.out
        clear hs2 HSE HSA
        cases r with
        | true =>
          have HN2 := hid (HST.out (of_decide_eq_true HRR.out))
          go_wp2
          go_roundw
          case rel => exact ⟨k + 1, HKM.out, by go_num, HB2.out, HN2.out⟩
          case measure => first | exact measP HKM.out hw0 | exact measP1 HKM.out
        | false =>
          have HN2 := hid (HNO.out (of_decide_eq_false HRR.out))
          go_wp2
          go_ret
          exact ⟨by rw [HN2.out]; rfl, HB2.out⟩
      · have hlt' : ¬ (k : Int) < (m : Int) := by omega
        have HE : Hid (decide (xs.map (fun y => y.e) = ys.map (fun y => y.e)) = true) := decide_eq_true (map_to (f := fun y : EvM => y.e) HXL.out HYL.out hlt HR.out.2)
        go_wp2
        go_ret
        exact ⟨by rw [HE.out]; rfl, HR.out.1⟩
  · have hne : ((m : Int) != (n : Int)) = true := by simp; omega
    have HE : Hid (decide (xs.map (fun y => y.e) = ys.map (fun y => y.e)) = false) := decide_eq_false (map_len hm hn hmn)
    clear hm hn hx hy
    rw [HE.out]
    go_enter Try.func21, Try.ntmps21
    go_wp2
    go_ret
    exact ⟨rfl, Below.refl _ _⟩
end Go.Proofs.Ytjjgojjllbdpkaa
