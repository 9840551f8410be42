/-
  RouterRound's walk: which nodes were the target ('seenL').
-/
import Derived.Test.YtppllbdoihfcbaaDoorRouterFinerW
import Derived.Deep.OwnRows
namespace Go.Proofs.YtppllbdoihfcbaaDoor
open Go.RowKit Go.Maps

/-- Which nodes were the target in i rounds. -/
def seenL (c : Int) (n i : Nat) : List Value := (List.range n).map fun (j : Nat) => Value.bool (decide (((j : Int) - c) % (n : Int) < (i : Int)))
/-- The target of round i. -/
def tgt (c : Int) (n i : Nat) : Int := (c + (i : Int)) % (n : Int)
theorem seven {n : Nat} (h : 1 ≤ n ∧ n ≤ 7) : n = 1 ∨ n = 2 ∨ n = 3 ∨ n = 4 ∨ n = 5 ∨ n = 6 ∨ n = 7 := by omega
theorem seenL_len (c : Int) (n i : Nat) : (seenL c n i).length = n := by simp [seenL]
theorem tgt_rng {c : Int} {n i : Nat} (hn : 1 ≤ n ∧ n ≤ 7) : 0 ≤ tgt c n i ∧ tgt c n i < (n : Int) := ⟨Int.emod_nonneg _ (by omega), Int.emod_lt_of_pos _ (by omega)⟩
theorem seenL_zero (c : Int) {n : Nat} (hn : 1 ≤ n ∧ n ≤ 7) : seenL c n 0 = List.replicate n (.bool false) := by
  apply List.ext_getElem?
  intro j
  by_cases hj : j < n
  · have : ¬ ((j : Int) - c) % (n : Int) < 0 := by have := Int.emod_nonneg ((j : Int) - c) (show (n : Int) ≠ 0 by omega); omega
    simp [seenL, hj, this]
  · simp [seenL, hj]
theorem tgt_back {c : Int} {n i : Nat} (hn : 1 ≤ n ∧ n ≤ 7) (hi : i < n) : (tgt c n i - c) % (n : Int) = (i : Int) := by
  unfold tgt
  rcases seven hn with rfl | rfl | rfl | rfl | rfl | rfl | rfl <;> omega
theorem tgt_only {c : Int} {n i j : Nat} (hn : 1 ≤ n ∧ n ≤ 7) (hi : i < n) (hj : j < n) (h : ((j : Int) - c) % (n : Int) = (i : Int)) : (j : Int) = tgt c n i := by
  unfold tgt
  rcases seven hn with rfl | rfl | rfl | rfl | rfl | rfl | rfl <;> omega
theorem tgt_next {c : Int} {n i : Nat} (hn : 1 ≤ n ∧ n ≤ 7) : (tgt c n i + 1) % (n : Int) = tgt c n (i + 1) := by
  unfold tgt
  rcases seven hn with rfl | rfl | rfl | rfl | rfl | rfl | rfl <;> omega
theorem tgt_end (c : Int) (n : Nat) : tgt c n n = c % (n : Int) := by
  unfold tgt
  rw [Int.add_emod_right]
theorem tgt_zero (c : Int) (n : Nat) : tgt c n 0 = c % (n : Int) := by
  unfold tgt
  rw [show ((0 : Nat) : Int) = 0 from rfl, Int.add_zero]
theorem seenL_at {c : Int} {n i k : Nat} (hn : 1 ≤ n ∧ n ≤ 7) (hi : i < n) (hk : (k : Int) = tgt c n i) : (seenL c n i)[k]? = some (.bool false) := by
  have hr := tgt_rng (c := c) (i := i) hn
  have hkn : k < n := by omega
  have hb := tgt_back (c := c) hn hi
  rw [← hk] at hb
  simp [seenL, hkn, hb]
theorem seenL_set {c : Int} {n i k : Nat} (hn : 1 ≤ n ∧ n ≤ 7) (hi : i < n) (hk : (k : Int) = tgt c n i) : (seenL c n i).set k (.bool true) = seenL c n (i + 1) := by
  have hr := tgt_rng (c := c) (i := i) hn
  have hkn : k < n := by omega
  have hb := tgt_back (c := c) hn hi
  rw [← hk] at hb
  apply List.ext_getElem?
  intro j
  by_cases hj : j < n
  · by_cases e : k = j
    · subst e
      rw [List.getElem?_set_self (by rw [seenL_len]; exact hkn)]
      have : (i : Int) < (i + 1 : Nat) := by omega
      simp only [seenL, List.getElem?_map, List.getElem?_range hkn, Option.map_some, hb, decide_eq_true this]
    · rw [List.getElem?_set_ne e]
      have h1 : ((j : Int) - c) % (n : Int) ≠ (i : Int) := fun h => e (by have := tgt_only hn hi hj h; omega)
      have h2 : (((j : Int) - c) % (n : Int) < (i : Int)) ↔ (((j : Int) - c) % (n : Int) < ((i + 1 : Nat) : Int)) := by omega
      simp only [seenL, List.getElem?_map, List.getElem?_range hj, Option.map_some, decide_eq_decide.2 h2]
  · rw [List.getElem?_eq_none (by simp [seenL]; omega), List.getElem?_eq_none (by simp [seenL]; omega)]
theorem Tryd.infoBoolR : (Tryd.prog.info? 4).map (fun i => (i.zero, i.size, i.bytes)) = some (some (.bool false), 1, 1) := by kernel_rfl
theorem madeBoolR (n : Nat) : (madeCells #[Value.bool false] n) = (List.replicate n (Value.bool false)).toArray := by
  apply Array.ext'
  rw [toList_madeCells_one]
/-- What stands between two rounds. -/
structure RR (w wr : World) (p g : Nat) (c : Int) (n i : Nat) : Prop where
  sr : SR w wr p c (n : Int) 0 (tgt c n i) (i : Int)
  row : Blk wr g 4 (seenL c n i)
  hg : w.heap.size ≤ g
theorem RR.ne {w wr : World} {p g : Nat} {c : Int} {n i : Nat} (h : RR w wr p g c n i) : g ≠ p := by
  rintro rfl
  have h1 : wr.heap[g]? = some (.cells _ 4 _) := h.row
  have h2 : wr.heap[g]? = some (.cells _ 52 _) := h.sr.se.blk
  rw [h1] at h2
  injection h2 with h2
  injection h2 with _ h2
  exact absurd h2 (by decide)
theorem RR.store {w wr : World} {p g : Nat} {c : Int} {n i k : Nat} (h : RR w wr p g c n i) (hn : 1 ≤ n ∧ n ≤ 7) (hi : i < n) (hk : (k : Int) = tgt c n i) : SR w (wr.setCell ⟨g, k, none⟩ (.bool true)) p c (n : Int) 0 (tgt c n i) (i : Int) ∧ Blk (wr.setCell ⟨g, k, none⟩ (.bool true)) g 4 (seenL c n (i + 1)) := by
  have ht : Turns (fun j => j = g) wr (wr.setCell ⟨g, k, none⟩ (.bool true)) := (Turns.refl (fun j => j = g) wr).setCell (p := ⟨g, k, none⟩) (.inl rfl) _
  refine ⟨⟨h.sr.se.turned ht (fun e => h.ne e.symm), h.sr.tb.turned ht (fun q hq e => ?_), h.sr.bel.trans (ht.below (fun j hj => by have := h.hg; omega) h.sr.bel.size), h.sr.hp, h.sr.old⟩, ?_⟩
  · have h1 := h.sr.old.old q hq
    have h2 := h.hg
    omega
  · have := h.row.set k (.bool true)
    rw [seenL_set hn hi hk] at this
    exact this
set_option maxRecDepth 100000 in
set_option maxHeartbeats 2000000 in
theorem round_good (c : Int) (n : Nat) (w : World) (hT : TbR w) (hc : 0 ≤ c ∧ c ≤ 2147483647) (hn : 1 ≤ n ∧ n ≤ 7) : Calls Tryd.prog 6 #[.int .i64 c, .int .i64 (n : Int)] w fun e w' => e = .returned (.bool true) ∧ Below w.heap.size w w' := by
  have HT := hid hT
  have HN := hid hn
  have HC := hid hc
  have HNW := hid (newR_good w c (n : Int) ⟨hc.1, hc.2, by omega, by omega⟩)
  have hmk := run_make_row' (P := Tryd.prog) 40 4 (.bool false) 1 Tryd.underlying40 Tryd.infoBoolR rfl .i64 .i64 n (by omega) (by omega)
  have hn7 : n ≤ 7 := hn.2
  clear hT hn hc
  go_enter Tryd.func6, Tryd.ntmps6
  go_wp2_with fail
  refine HNW.out.mono ?_
  rintro e w1 ⟨rfl, hse, hb1⟩
  have H1 : Hid (SR w w1 w.heap.size c (n : Int) 0 (c % (n : Int)) 0) := SR.new w HT.out hb1 (Below.refl _ _) hse
  clear hse hb1 HNW
  obtain ⟨p, HP⟩ : ∃ p, Hid (w.heap.size = p) := ⟨_, hid rfl⟩
  rw [HP.out] at H1 ⊢
  go_wp2_with fail
  refine (livesR _ H1.out.tb).mono ?_
  rintro e w2 ⟨rfl, hb2⟩
  have H2 := hid (H1.out.grow hb2)
  clear hb2 H1
  go_wp2
  obtain ⟨W, hW⟩ : ∃ W, W = w2.alloc (.cells (madeCells #[Value.bool false] n) 4) := ⟨_, rfl⟩
  have HRR : Hid (RR w W p w2.heap.size c n 0) := by
    refine ⟨?_, ?_, H2.out.bel.size⟩
    · rw [tgt_zero, hW]
      exact H2.out.grow ((Below.refl _ _).alloc (Nat.le_refl _) _)
    · rw [seenL_zero c HN.out, hW, madeBoolR]
      exact Blk.new w2 _ _
  have HW := hid hW
  clear hW hmk
  rw [← HW.out]
  obtain ⟨g, HG⟩ : ∃ g, Hid (w2.heap.size = g) := ⟨_, hid rfl⟩
  rw [HG.out] at HRR ⊢
  clear HW H2 HG
  go_loopw [8] (fun i wr => ∃ k : Nat, k ≤ n ∧ i = .int .i64 k ∧ Hid (RR w wr p g c n k)) (fun i _ => n - (intOf i).toNat)
  case atStart => exact ⟨0, by omega, rfl, HRR.out⟩
  case round =>
    obtain ⟨k, hk, rfl, HA⟩ := hrel
    clear HRR
    by_cases hlt : k < n
    · have hlt' : (k : Int) < (n : Int) := by omega
      have hr := tgt_rng (c := c) (i := k) HN.out
      obtain ⟨t, ht⟩ : ∃ t : Nat, (t : Int) = tgt c n k := ⟨(tgt c n k).toNat, by omega⟩
      have HTG : Hid (Calls Tryd.prog 20 #[.pointer (some ⟨p, 0, none⟩)] wr fun e w' => e = .returned (.int .i64 (t : Int)) ∧ w' = wr) := by rw [ht]; exact HA.out.sr.se.target
      have ht0 : ¬ (t : Int) < 0 := by omega
      have htn : ¬ (n : Int) ≤ (t : Int) := by omega
      have htn' : (t : Int) < (n : Int) := by omega
      have ct := HA.out.row.cell (seenL_at HN.out hlt ht)
      have ft := HA.out.row.frozen t
      have HST := hid (HA.out.store HN.out hlt ht)
      have HGG := hid HA.out.hg
      clear hr ht
      go_wp2_with fail
      refine HTG.out.mono ?_
      rintro e w3 ⟨rfl, rfl⟩
      go_wp2_with fail
      refine (HST.out.1.fail (by omega)).mono ?_
      rintro e w4 ⟨rfl, h4, ht4⟩
      have HF : Hid (RR w w4 p g c n (k + 1)) := by
        refine ⟨?_, ht4.blk HST.out.2 ?_, HGG.out⟩
        · rw [← tgt_next HN.out, show ((k + 1 : Nat) : Int) = (k : Int) + 1 by omega]
          exact h4
        · exact HA.out.ne
      clear h4 ht4 HST HA ct ft
      go_wp2
      go_roundw
      case rel => exact ⟨k + 1, by omega, by go_num, HF.out⟩
      case measure => simp [intOf]; omega
    · have hlt' : ¬ (k : Int) < (n : Int) := by omega
      obtain rfl : k = n := by omega
      have HSR : Hid (SR w wr p c (k : Int) 0 (c % (k : Int)) (k : Int)) := by
        have := HA.out.sr
        rw [tgt_end] at this
        exact this
      have HTG : Hid (∀ V, ScR wr V → Calls Tryd.prog 20 #[.pointer (some ⟨p, 0, none⟩)] V fun e w' => e = .returned (.int .i64 (c % (k : Int))) ∧ ScR wr w') := fun V hV => (HSR.out.grow hV.out).se.target.mono fun _ _ ⟨he, hw⟩ => ⟨he, by rw [hw]; exact hV⟩
      have HTR : Hid (∀ V, ScR wr V → Calls Tryd.prog 21 #[.pointer (some ⟨p, 0, none⟩)] V fun e w' => e = .returned (.int .i64 (k : Int)) ∧ ScR wr w') := fun V hV => (HSR.out.grow hV.out).se.tries.mono fun _ _ ⟨he, hw⟩ => ⟨he, by rw [hw]; exact hV⟩
      have e1 : c.tmod (k : Int) = c % (k : Int) := Int.tmod_eq_emod_of_nonneg HC.out.1
      have e2 : IntKind.i64.wrap (c % (k : Int)) = c % (k : Int) := wrapI (by have := Int.emod_nonneg c (show (k : Int) ≠ 0 by have := HN.out; omega); omega) (by have := Int.emod_lt_of_pos c (show 0 < (k : Int) by have := HN.out; omega); omega)
      have e3 : ¬ (k : Int) = 0 := by have := HN.out; omega
      go_wp2
      have e4 : ¬ k = 0 := by have := HN.out; omega
      refine wp_region_noPanic ?_
      go_region_held3 (fun V => ScR wr V)
        (first | with_reducible assumption | exact ScR.start _ | (repeat (first | with_reducible assumption | exact ScR.start _ | apply ScR.dr)))
        (first
          | (go_at_call 20; with_reducible refine (HTG.out _ (by (repeat (first | with_reducible assumption | exact ScR.start _ | apply ScR.dr)))).mono ?_; rintro e w5 ⟨rfl, hs5⟩)
          | (go_at_call 21; with_reducible refine (HTR.out _ (by (repeat (first | with_reducible assumption | exact ScR.start _ | apply ScR.dr)))).mono ?_; rintro e w6 ⟨rfl, hs6⟩))
      have HB := (HSR.out.grow hs6.out).bel
      refine NoPanic.normal ?_
      go_wp2
      go_ret
      exact ⟨rfl, HB⟩
theorem round_bad (c n : Int) (w : World) (hT : TbR w) (h : ¬ (0 ≤ c ∧ c ≤ 2147483647 ∧ 1 ≤ n ∧ n ≤ 7)) : Calls Tryd.prog 6 #[.int .i64 c, .int .i64 n] w fun e w' => e = .returned (.bool true) ∧ Below w.heap.size w w' := by
  have HT := hid hT
  have HNW := hid (newR_bad w c n h)
  clear hT h
  go_enter Tryd.func6, Tryd.ntmps6
  go_wp2_with fail
  refine HNW.out.mono ?_
  rintro e w' ⟨rfl, rfl⟩
  go_wp2_with fail
  refine (livesR _ HT.out).mono ?_
  rintro e w2 ⟨rfl, hb2⟩
  have HB := hid hb2
  clear hb2
  go_wp2
  go_ret
  exact ⟨rfl, HB.out⟩
theorem routerRound_walk (c n : Int) (w : World) (hT : TbR w) (_ : -9223372036854775808 ≤ c ∧ c ≤ 9223372036854775807) (_ : -9223372036854775808 ≤ n ∧ n ≤ 9223372036854775807) : Calls Tryd.prog 6 #[.int .i64 c, .int .i64 n] w fun e w' => e = .returned (.bool true) ∧ Below w.heap.size w w' := by
  by_cases h : 0 ≤ c ∧ c ≤ 2147483647 ∧ 1 ≤ n ∧ n ≤ 7
  · obtain ⟨m, rfl⟩ : ∃ m : Nat, n = (m : Int) := ⟨n.toNat, by omega⟩
    exact round_good c m w hT ⟨h.1, h.2.1⟩ (by omega)
  · exact round_bad c n w hT h
end Go.Proofs.YtppllbdoihfcbaaDoor
