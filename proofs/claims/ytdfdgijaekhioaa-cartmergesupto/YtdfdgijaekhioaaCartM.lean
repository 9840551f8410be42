/-
  Package cart: Same, Total, told, Stand; how lines lie in memory.
-/
import Derived.Test.YtdfdgijaekhioaaCartL
namespace Go.Proofs.Ytdfdgijaekhioaa
open Go.RowKit Go.Maps

/-- A slice of lines holds ls. -/
def HeldL (w : World) (ao : Option Addr) (ls : List Ln) : Prop :=
  ls = [] ∨ ∃ b off, ao = some ⟨b, off, none⟩ ∧ b < w.heap.size ∧ ∀ j (hj : j < ls.length), w.cell? ⟨b, off + j * 2, none⟩ = some (.string ls[j].1) ∧ w.cell? ⟨b, off + j * 2 + 1, none⟩ = some (.int .i64 ls[j].2)
theorem HeldL.below {w w' : World} {ao : Option Addr} {ls : List Ln} (h : HeldL w ao ls) (hb : Below w.heap.size w w') : HeldL w' ao ls := by
  rcases h with h0 | ⟨b, off, h1, h2, h3⟩
  · exact .inl h0
  · exact .inr ⟨b, off, h1, Nat.lt_of_lt_of_le h2 hb.size, fun j hj => ⟨(hb.cell (p := ⟨b, off + j * 2, none⟩) h2).trans (h3 j hj).1, (hb.cell (p := ⟨b, off + j * 2 + 1, none⟩) h2).trans (h3 j hj).2⟩⟩
theorem HeldL.at {w : World} {ao : Option Addr} {ls : List Ln} (h : HeldL w ao ls) {j : Nat} (hj : j < ls.length) : ∃ b off, ao = some ⟨b, off, none⟩ ∧ w.cell? ⟨b, off + j * 2, none⟩ = some (.string ls[j].1) ∧ w.cell? ⟨b, off + j * 2 + 1, none⟩ = some (.int .i64 ls[j].2) := by
  rcases h with h0 | ⟨b, off, h1, h2, h3⟩
  · subst h0
    cases hj
  · exact ⟨b, off, h1, (h3 j hj).1, (h3 j hj).2⟩
theorem flatL_get : ∀ (xs : List Ln) (j : Nat) (hj : j < xs.length), (flatL xs)[j * 2]? = some (.string xs[j].1) ∧ (flatL xs)[j * 2 + 1]? = some (.int .i64 xs[j].2)
  | [], j, hj => by cases hj
  | x :: r, 0, _ => ⟨rfl, rfl⟩
  | x :: r, j + 1, hj => by
    have := flatL_get r j (by simpa using hj)
    simp only [List.getElem_cons_succ]
    rw [show (j + 1) * 2 = j * 2 + 2 by omega, show j * 2 + 2 + 1 = (j * 2 + 1) + 2 by omega]
    exact this
theorem heldL_of_own {w : World} {B : Nat} {v : Value} {ls : List Ln} {n : Nat} (hn : ls.length = n) (h : w.ownsRow B 49 2 v n (flatL ls)) : ∃ ao cap, v = .slice ao n cap ∧ HeldL w ao ls := by
  subst hn
  obtain ⟨eo, cap, rfl, hnc, hc⟩ := own_form8 h
  refine ⟨eo, cap, rfl, ?_⟩
  by_cases h0 : ls = []
  · exact .inl h0
  · obtain ⟨g, rfl, _, hg, hcell⟩ := hc (List.length_pos_iff.2 h0)
    refine .inr ⟨g, 0, rfl, hg, fun j hj => ?_⟩
    rw [Nat.zero_add]
    exact ⟨hcell _ _ (flatL_get ls j hj).1, hcell _ _ (flatL_get ls j hj).2⟩
theorem ext_lines {a b : List Ln} (hl : a.length = b.length) {k : Nat} (hk : ¬ k < a.length) (h : ∀ j (h1 : j < a.length) (h2 : j < b.length), j < k → a[j] = b[j]) : a = b :=
  List.ext_getElem hl fun i h1 h2 => h i h1 h2 (by omega)
set_option maxRecDepth 1000000 in
set_option maxHeartbeats 1000000 in
theorem equalL_any (w : World) (ao bo : Option Addr) (ca cb : Nat) (a b : List Ln) (m n : Nat) (hm : a.length = m) (hn : b.length = n) (hl : m ≤ 100000000) (ha : HeldL w ao a) (hb : HeldL w bo b) :
    Calls Try.prog 23 #[.slice ao m ca, .slice bo n cb] w fun e w' => e = .returned (.bool (decide (a = b))) ∧ ∃ q, w' = w.drewN q := by
  by_cases hmn : m = n
  · subst hmn
    have HA := hid ha
    have HB := hid hb
    have HM := hid hm
    have HN := hid hn
    clear ha hb hm hn
    go_enter Try.func23, Try.ntmps23
    go_wp2
    go_loopw [5, 13] (fun _ i wr => ∃ k : Nat, k ≤ m ∧ i = .int .i64 k ∧ Hid ((∃ q, wr = w.drewN q) ∧ ∀ j (h1 : j < a.length) (h2 : j < b.length), j < k → a[j] = b[j])) (fun _ i _ => m - (intOf i).toNat)
    case atStart => exact ⟨0, Nat.zero_le _, rfl, ⟨0, rfl⟩, fun j _ _ hj => absurd hj (Nat.not_lt_zero _)⟩
    case round =>
      obtain ⟨k, hk, rfl, HR⟩ := hrel
      by_cases hlt : k < m
      · have hlt' : (k : Int) < (m : Int) := by omega
        obtain ⟨q, hq⟩ := HR.out.1
        have hka : Hid (k < a.length) := by show _ < _; rw [HM.out]; exact hlt
        have hkb : Hid (k < b.length) := by show _ < _; rw [HN.out]; exact hlt
        obtain ⟨b1, o1, rfl, d1, d2⟩ := (show HeldL wr ao a by rw [hq]; exact HA.out.below (below_dn (Below.refl _ _) q)).at hka.out
        obtain ⟨b2, o2, rfl, d3, d4⟩ := (show HeldL wr bo b by rw [hq]; exact HB.out.below (below_dn (Below.refl _ _) q)).at hkb.out
        obtain ⟨X, HX⟩ : ∃ X, Hid (a[k]'hka.out = X) := ⟨_, hid rfl⟩
        obtain ⟨Y, HY⟩ : ∃ Y, Hid (b[k]'hkb.out = Y) := ⟨_, hid rfl⟩
        rw [HX.out] at d1 d2
        rw [HY.out] at d3 d4
        have HQ := hid hq
        have HKM : Hid (k + 1 ≤ m) := (by omega : k + 1 ≤ m)
        clear hq
        obtain ⟨x1, x2⟩ := X
        obtain ⟨y1, y2⟩ := Y
        simp only at d1 d2 d3 d4
        by_cases h1 : x1 = y1
        · subst h1
          by_cases h2 : x2 = y2
          · subst h2
            go_wp2
            go_quiet (fail)
            all_goals
              go_wp2
              go_roundw
              case rel =>
                refine ⟨k + 1, HKM.out, by go_num, ⟨_, by rw [HQ.out, drewN_add]⟩, fun j g1 g2 hj => ?_⟩
                by_cases e : j = k
                · subst e
                  exact HX.out.trans HY.out.symm
                · exact HR.out.2 j g1 g2 (by omega)
              case measure => simp [intOf]; have := HKM.out; omega
          · have HNE : Hid (¬ a = b) := fun e => by
              subst e
              have := HX.out.symm.trans HY.out
              simp at this
              exact h2 this
            go_wp2
            go_quiet (fail)
            all_goals
              go_wp2
              go_ret
              refine ⟨?_, _, by rw [HQ.out, drewN_add]⟩
              rw [decide_eq_false HNE.out]
              rfl
        · have hbb : ¬ x1.toList = y1.toList := fun hh => h1 (bytes_inj hh)
          have HNE : Hid (¬ a = b) := fun e => by
            subst e
            have := HX.out.symm.trans HY.out
            simp at this
            exact h1 this.1
          go_wp2
          go_quiet (fail)
          all_goals
            go_wp2
            go_ret
            refine ⟨?_, _, by rw [HQ.out, drewN_add]⟩
            rw [decide_eq_false HNE.out]
            rfl
      · have hlt' : ¬ (k : Int) < (m : Int) := by omega
        go_wp2
        go_ret
        refine ⟨?_, HR.out.1⟩
        rw [decide_eq_true (ext_lines (by rw [HM.out, HN.out]) (by rw [HM.out]; exact hlt) HR.out.2)]
        rfl
  · have hne : ((m : Int) != (n : Int)) = true := by simp; omega
    have HE : Hid (decide (a = b) = false) := decide_eq_false (fun h => hmn (by rw [← hm, ← hn, h]))
    clear ha hb hm hn
    rw [HE.out]
    go_enter Try.func23, Try.ntmps23
    go_wp2
    go_ret
    exact ⟨rfl, 0, rfl⟩
end Go.Proofs.Ytdfdgijaekhioaa
