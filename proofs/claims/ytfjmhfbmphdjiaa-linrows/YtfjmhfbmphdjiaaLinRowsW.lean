/-
  LinRows: the walk.
-/
import Derived.Test.YtfjmhfbmphdjiaaLnW
import Derived.Deep.OwnRows
import Derived.Laws.OwnMore
namespace Go.Proofs.Ytfjmhfbmphdjiaa
open Go.RowKit Go.Maps

theorem check_bad {xs : List Sn} {ts : List ByteArray} (h : rightQ xs ts = false) : checkL xs ts = 1 := by
  unfold checkL
  rw [if_pos]
  rw [Bool.or_eq_true]
  apply Classical.byContradiction
  intro hn
  have hr : RightP xs ts := by
    refine ⟨fun x hx => ?_, ?_⟩
    · cases hm : mayS x with
      | true => rfl
      | false => exact absurd (.inl (List.any_eq_true.2 ⟨x, hx, by rw [hm]; rfl⟩)) hn
    · apply Classical.byContradiction
      intro hd
      exact hn (.inr (by rw [decide_eq_false hd]; rfl))
  rw [rightQ_iff.2 hr] at h
  cases h
theorem hvOf_none (n : Nat) : hvOf (List.replicate n false) = fun _ => false := by
  funext k
  unfold hvOf
  by_cases h : k < n
  · simp [List.getD, h]
  · simp [List.getD, h]
theorem rows_agree {xs : List Sn} {ts : List ByteArray} (h : rightQ xs ts = true) (n : Nat) : (checkL xs ts = 0 ∧ tryB xs ts (List.replicate n false) 0 = true) ∨ (checkL xs ts ≠ 0 ∧ tryB xs ts (List.replicate n false) 0 = false) := by
  obtain ⟨h1, h2⟩ := rightQ_iff.1 h
  have h3 := rowed_iff h1 h2
  have h4 : tryB xs ts (List.replicate n false) 0 = true ↔ Play xs ts (fun _ => false) 0 := by rw [← hvOf_none n]; exact tryB_iff
  by_cases hr : Rowed xs ts
  · exact .inl ⟨check_ok.2 hr, h4.2 (h3.1 hr)⟩
  · right
    refine ⟨fun h => hr (check_ok.1 h), ?_⟩
    cases ht : tryB xs ts (List.replicate n false) 0 with
    | false => rfl
    | true => exact absurd (h3.2 (h4.1 ht)) hr
theorem left_le (hv : Nat → Bool) : ∀ n : Nat, leftN hv n ≤ n
  | 0 => Nat.le_refl _
  | n + 1 => by
    have := left_le hv n
    unfold leftN
    split <;> omega
theorem heldBo_made (W : World) (n : Nat) : HeldBo (W.alloc (.cells (madeCells #[.bool false] n) 4)) (some ⟨W.heap.size, 0, none⟩) (List.replicate n false) := by
  by_cases h0 : n = 0
  · left
    simp [h0]
  · refine .inr ⟨W.heap.size, 0, rfl, by simp, fun j hj => ?_⟩
    rw [Nat.zero_add]
    have hb : Blk (W.alloc (.cells (madeCells #[.bool false] n) 4)) W.heap.size 4 (madeCells #[.bool false] n).toList := Blk.new W _ _
    refine hb.cell ?_
    rw [toList_madeCells_one]
    simp at hj
    simp [List.getD, hj]
set_option maxRecDepth 1000000 in
set_option maxHeartbeats 4000000 in
theorem linRows_walk (ao : Option Addr) (cap : Nat) (xs : List Sn) (bo : Option Addr) (cb : Nat) (ts : List ByteArray) (w : World) (h : HeldSn w ao xs ∧ xs.length ≤ cap) (hl : xs.length ≤ 2932031007402) (h2 : HeldStr w bo ts) (hl2 : ts.length ≤ 8796093022208) :
    Calls Try.prog 3 #[.slice ao xs.length cap, .slice bo ts.length cb] w fun e w' => e = .returned (.bool true) ∧ Below w.heap.size w w' := by
  obtain ⟨n, hn⟩ : ∃ n, xs.length = n := ⟨_, rfl⟩
  obtain ⟨m, hm⟩ : ∃ m, ts.length = m := ⟨_, rfl⟩
  have HL := hid (lives25 w)
  have H := hid h.1
  have H2 := hid h2
  rw [hn, hm]
  have HRI : Hid (∀ V, Below w.heap.size w V → Calls Try.prog 8 #[.slice ao n cap, .slice bo m cb] V (SaysB V (rightQ xs ts))) := fun V hV => right_any V ao cap xs n hn (H.out.below hV) (by omega) bo cb ts m hm (H2.out.below hV) (by omega)
  have HCK : Hid (∀ V, Below w.heap.size w V → Calls Try.prog 9 #[.slice ao n cap, .slice bo m cb] V (SaysI V (checkL xs ts))) := fun V hV => check_any V ao cap xs n hn (H.out.below hV) (by omega) bo cb ts m hm (H2.out.below hV) (by omega)
  have HTR : Hid (n ≤ 1000 → m ≤ 1000 → ∀ V g, Below w.heap.size w V → HeldBo V (some ⟨g, 0, none⟩) (List.replicate n false) → Calls Try.prog 10 #[.slice ao n cap, .slice bo m cb, .slice (some ⟨g, 0, none⟩) n n, .int .i64 0] V (SaysB V (tryB xs ts (List.replicate n false) 0))) := fun a b V g hV hh =>
    try_any ao cap xs n hn bo cb ts m hm a b n V _ n (List.replicate n false) 0 0 rfl (by simp) (H.out.below hV) (H2.out.below hV) hh (Nat.zero_le _) (by have := left_le (hvOf (List.replicate n false)) (List.replicate n false).length; simpa using this)
  have HBD := hid (check_bad (xs := xs) (ts := ts))
  have HAG := hid (rows_agree (xs := xs) (ts := ts))
  obtain ⟨RB, HRB⟩ : ∃ z, Hid (rightQ xs ts = z) := ⟨_, hid rfl⟩
  obtain ⟨C, HC⟩ : ∃ z, Hid (checkL xs ts = z) := ⟨_, hid rfl⟩
  obtain ⟨TB, HTB⟩ : ∃ z, Hid (tryB xs ts (List.replicate n false) 0 = z) := ⟨_, hid rfl⟩
  have HAG2 : Hid (RB = true → (C = 0 ∧ TB = true) ∨ (C ≠ 0 ∧ TB = false)) := fun hh => by
    have := HAG.out (by rw [HRB.out]; exact hh) n
    rw [HC.out, HTB.out] at this
    exact this
  have HBD2 : Hid (RB = false → C = 1) := fun hh => by
    have := HBD.out (by rw [HRB.out]; exact hh)
    rw [HC.out] at this
    exact this
  rw [HRB.out] at HRI
  rw [HC.out] at HCK
  rw [HTB.out] at HTR
  clear HAG HBD HRB HC HTB h h2 hl hl2 hn hm H H2
  go_enter Try.func3, Try.ntmps3
  go_wp2_with fail
  refine HL.out.mono ?_
  rintro e w1 ⟨rfl, hb1⟩
  have HB1 := hid hb1
  clear hb1 HL
  by_cases hn6 : 6 < n
  · have hn6' : (6 : Int) < (n : Int) := by omega
    clear hn6 HTR HAG2
    go_wp2_with fail
    refine (HRI.out _ HB1.out).mono ?_
    rintro e w3 ⟨rfl, hb3⟩
    have HB3 : Hid (Below w.heap.size w w3) := bt' HB1.out hb3
    clear hb3
    cases RB with
    | true =>
      go_wp2
      go_ret
      exact ⟨rfl, HB3.out⟩
    | false =>
      have hC : C = 1 := HBD2.out rfl
      subst hC
      go_wp2_with fail
      refine (HCK.out _ HB3.out).mono ?_
      rintro e w4 ⟨rfl, hb4⟩
      have HB4 : Hid (Below w.heap.size w w4) := bt' HB3.out hb4
      clear hb4
      go_wp2
      go_ret
      exact ⟨rfl, HB4.out⟩
  · have hn6' : ¬ (6 : Int) < (n : Int) := by omega
    by_cases hm4 : 4 < m
    · have hm4' : (4 : Int) < (m : Int) := by omega
      clear hn6 hm4 HTR HAG2
      go_wp2_with fail
      refine (HRI.out _ HB1.out).mono ?_
      rintro e w3 ⟨rfl, hb3⟩
      have HB3 : Hid (Below w.heap.size w w3) := bt' HB1.out hb3
      clear hb3
      cases RB with
      | true =>
        go_wp2
        go_ret
        exact ⟨rfl, HB3.out⟩
      | false =>
        have hC : C = 1 := HBD2.out rfl
        subst hC
        go_wp2_with fail
        refine (HCK.out _ HB3.out).mono ?_
        rintro e w4 ⟨rfl, hb4⟩
        have HB4 : Hid (Below w.heap.size w w4) := bt' HB3.out hb4
        clear hb4
        go_wp2
        go_ret
        exact ⟨rfl, HB4.out⟩
    · have hm4' : ¬ (4 : Int) < (m : Int) := by omega
      have HTR2 := hid (HTR.out (by omega) (by omega))
      have hmk := run_make_row' (P := Try.prog) 29 4 (.bool false) 1 Try.underlying29 Try.infoBoT rfl .i64 .i64 n (by omega) (by omega)
      clear hn6 hm4 HTR
      go_wp2_with fail
      refine (HRI.out _ HB1.out).mono ?_
      rintro e w2 ⟨rfl, hb2⟩
      have HB2 : Hid (Below w.heap.size w w2) := bt' HB1.out hb2
      clear hb2
      obtain ⟨RB2, hRB⟩ : ∃ z, RB = z := ⟨_, rfl⟩
      rw [hRB]
      cases RB2 with
      | false =>
        subst hRB
        have hC : C = 1 := HBD2.out rfl
        subst hC
        clear HAG2 HBD2
        go_wp2_with fail
        refine (HRI.out _ HB2.out).mono ?_
        rintro e w3 ⟨rfl, hb3⟩
        have HB3 : Hid (Below w.heap.size w w3) := bt' HB2.out hb3
        clear hb3
        go_wp2_with fail
        refine (HCK.out _ HB3.out).mono ?_
        rintro e w4 ⟨rfl, hb4⟩
        have HB4 : Hid (Below w.heap.size w w4) := bt' HB3.out hb4
        clear hb4
        go_wp2
        go_ret
        exact ⟨rfl, HB4.out⟩
      | true =>
        have HW2 : Hid (∀ V, ScS w2 V → Below w.heap.size w V) := fun V hV => bt' HB2.out hV.out
        have HMK : Hid (∀ U : World, HeldBo (U.alloc (.cells (madeCells #[.bool false] n) 4)) (some ⟨U.heap.size, 0, none⟩) (List.replicate n false)) := fun U => heldBo_made U n
        have HMK2 : Hid (∀ U : World, HeldBo (U.alloc (.cells (madeCells #[.bool false] n) 4)).drew (some ⟨U.heap.size, 0, none⟩) (List.replicate n false)) := fun U => (heldBo_made U n).below (below_dn (Below.refl _ _) 1)
        have HAA := HAG2.out hRB
        clear hRB HBD2 HRI HAG2
        rcases HAA with ⟨hC, hT⟩ | ⟨hC, hT⟩
        · subst hT
          subst hC
          go_wp2
          go_region_with (first
        | (go_at_call 9
           refine (HCK.out _ (HW2.out _ (by (repeat (first | assumption | exact ScS.start _ | apply ScS.dr | apply ScS.alloc))))).mono ?_
           rintro e w5 ⟨rfl, hb5⟩
           have HB5 : Hid (ScS w2 w5) := ScS.go (by (repeat (first | assumption | exact ScS.start _ | apply ScS.dr | apply ScS.alloc))) hb5
           have hs5 := HB5.out)
        | (go_at_call 10
           refine (HTR2.out _ _ (HW2.out _ (by (repeat (first | assumption | exact ScS.start _ | apply ScS.dr | apply ScS.alloc)))) ?_).mono ?_
           · first | exact HMK.out _ | exact (HMK.out w2.drew).below hb5 | exact (HMK2.out w2).below hb5 | exact (HMK.out w2).below hb5
           rintro e w6 ⟨rfl, hb6⟩
           have hs6 : ScS w2 w6 := ScS.go (by (repeat (first | assumption | exact ScS.start _ | apply ScS.dr | apply ScS.alloc))) hb6)
        | fail)
          all_goals (
            have HB6 : Hid (Below w.heap.size w w6) := HW2.out _ hs6
            clear hs6
            go_wp2
            go_ret
            exact ⟨rfl, HB6.out⟩)
        · subst hT
          have hC2 : (C == 0) = false := beq_eq_false_iff_ne.2 hC
          go_wp2
          go_region_with (first
        | (go_at_call 9
           refine (HCK.out _ (HW2.out _ (by (repeat (first | assumption | exact ScS.start _ | apply ScS.dr | apply ScS.alloc))))).mono ?_
           rintro e w5 ⟨rfl, hb5⟩
           have HB5 : Hid (ScS w2 w5) := ScS.go (by (repeat (first | assumption | exact ScS.start _ | apply ScS.dr | apply ScS.alloc))) hb5
           have hs5 := HB5.out)
        | (go_at_call 10
           refine (HTR2.out _ _ (HW2.out _ (by (repeat (first | assumption | exact ScS.start _ | apply ScS.dr | apply ScS.alloc)))) ?_).mono ?_
           · first | exact HMK.out _ | exact (HMK.out w2.drew).below hb5 | exact (HMK2.out w2).below hb5 | exact (HMK.out w2).below hb5
           rintro e w6 ⟨rfl, hb6⟩
           have hs6 : ScS w2 w6 := ScS.go (by (repeat (first | assumption | exact ScS.start _ | apply ScS.dr | apply ScS.alloc))) hb6)
        | fail)
          all_goals (
            have HB6 : Hid (Below w.heap.size w w6) := HW2.out _ hs6
            clear hs6
            go_wp2
            go_ret
            exact ⟨rfl, HB6.out⟩)
end Go.Proofs.Ytfjmhfbmphdjiaa
