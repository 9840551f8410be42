/-
  Rows of bools; pannierref25.may.
-/
import Derived.Test.YtfjmhfbmphdjiaaLnS
import Derived.Test.YtfjmhfbmphdjiaaRoundQuiet
import Derived.Deep.QuietTactic
import Derived.BigQuiet
namespace Go.Proofs.Ytfjmhfbmphdjiaa
open Go.RowKit Go.Maps

def boV (hs : List Bool) : List Value := hs.map Value.bool
theorem boV_one (hs : List Bool) : ∀ u ∈ boV hs, u.oneCell' = true := by
  intro u hu
  obtain ⟨_, _, rfl⟩ := List.mem_map.1 hu
  rfl
theorem boV_get {hs : List Bool} {j : Nat} (hj : j < hs.length) : (boV hs)[j]? = some (.bool (hs.getD j false)) := by
  simp [boV, List.getD, List.getElem?_eq_getElem hj]
/-- A slice of bools holds hs. -/
def HeldBo (w : World) (ao : Option Addr) (hs : List Bool) : Prop :=
  hs = [] ∨ ∃ b off, ao = some ⟨b, off, none⟩ ∧ b < w.heap.size ∧ ∀ j, j < hs.length → w.cell? ⟨b, off + j, none⟩ = some (.bool (hs.getD j false))
theorem HeldBo.below {w w' : World} {ao : Option Addr} {hs : List Bool} (h : HeldBo w ao hs) (hb : Below w.heap.size w w') : HeldBo w' ao hs := by
  rcases h with h0 | ⟨b, off, h1, h2, h3⟩
  · exact .inl h0
  · exact .inr ⟨b, off, h1, Nat.lt_of_lt_of_le h2 hb.size, fun j hj => (hb.cell (p := ⟨b, off + j, none⟩) h2).trans (h3 j hj)⟩
theorem HeldBo.at {w : World} {ao : Option Addr} {hs : List Bool} (h : HeldBo w ao hs) {j : Nat} (hj : j < hs.length) : ∃ b off, ao = some ⟨b, off, none⟩ ∧ b < w.heap.size ∧ w.cell? ⟨b, off + j, none⟩ = some (.bool (hs.getD j false)) := by
  rcases h with h0 | ⟨b, off, h1, h2, h3⟩
  · subst h0
    cases hj
  · exact ⟨b, off, h1, h2, h3 j hj⟩
theorem Try.infoBoT : (Try.prog.info? 4).map (fun i => (i.zero, i.size, i.bytes)) = some (some (.bool false), 1, 1) := by kernel_rfl
theorem heldBo_of_own {w : World} {B : Nat} {v : Value} {hs : List Bool} {n : Nat} (hn : hs.length = n) (h : w.ownsRow B 4 1 v n (boV hs)) : ∃ ao cap, v = .slice ao n cap ∧ n ≤ cap ∧ HeldBo w ao hs := by
  subst hn
  obtain ⟨eo, cap, rfl, hnc, hc⟩ := own_form8 h
  refine ⟨eo, cap, rfl, hnc, ?_⟩
  by_cases h0 : hs = []
  · exact .inl h0
  · obtain ⟨g, rfl, _, hg, hcell⟩ := hc (List.length_pos_iff.2 h0)
    refine .inr ⟨g, 0, rfl, hg, fun j hj => ?_⟩
    rw [Nat.zero_add]
    exact hcell _ _ (boV_get hj)
/-- Which sights have stood. -/
def hvOf (hs : List Bool) (k : Nat) : Bool := hs.getD k false
theorem hvOf_set {hs : List Bool} {i : Nat} (hi : i < hs.length) : hvOf (hs.set i true) = fun k => if k = i then true else hvOf hs k := by
  funext k
  unfold hvOf
  by_cases e : k = i
  · subst e
    simp [List.getD, hi]
  · rw [if_neg e]
    simp [List.getD, Ne.symm e]
open Classical in
noncomputable def mayB (xs : List Sn) (hv : Nat → Bool) (i : Nat) (b : Int) : Bool := decide (MayN xs hv i b)
theorem mayB_iff {xs : List Sn} {hv : Nat → Bool} {i : Nat} {b : Int} : mayB xs hv i b = true ↔ MayN xs hv i b := by
  classical
  unfold mayB
  exact decide_eq_true_iff
/-- No sight among the first k must stand ahead of i. -/
def MayTo (xs : List Sn) (hs : List Bool) (i : Nat) (b : Int) (k : Nat) : Prop := ∀ j (hj : j < xs.length), j < k → j ≠ i → hvOf hs j = false → xs[j].e ≠ 0 → ¬ xs[j].e < b
def MayAll (xs : List Sn) (hs : List Bool) (i : Nat) (b : Int) (z : Bool) : Prop := z = true ↔ MayN xs (hvOf hs) i b
def MayGo (xs : List Sn) (hs : List Bool) (k i : Nat) (v : Bool) (e b : Int) (z : Bool) : Prop := ((k ≠ i → v = false → e ≠ 0 → ¬ e < b) → MayTo xs hs i b (k + 1)) ∧ (k ≠ i → v = false → e ≠ 0 → e < b → z = false)
set_option maxRecDepth 100000 in
set_option maxHeartbeats 2000000 in
theorem may_any (w : World) (lo : Option Addr) (lc : Nat) (xs : List Sn) (n : Nat) (hn : xs.length = n) (hx : HeldSn w lo xs) (bo : Option Addr) (bc : Nat) (hs : List Bool) (hm : hs.length = n) (hb : HeldBo w bo hs) (hl : n ≤ 1000) (i : Nat) (hi : i < xs.length) :
    Calls Try.prog 18 #[.slice lo n lc, .slice bo n bc, .int .i64 i] w (SaysB w (mayB xs (hvOf hs) i xs[i].b)) := by
  obtain ⟨b2, o2, hbo, _, gi⟩ := hb.at (j := i) (by rw [hm, ← hn]; exact hi)
  obtain ⟨b1, o1, hlo, _, x0, x1, gb, x3, x4⟩ := hx.at hi
  clear x0 x1 x3 x4
  obtain ⟨BI, HBI⟩ : ∃ z, Hid (xs[i].b = z) := ⟨_, hid rfl⟩
  obtain ⟨HI, HHI⟩ : ∃ z, Hid (hs.getD i false = z) := ⟨_, hid rfl⟩
  rw [HBI.out] at ⊢
  clear gb
  clear gi
  obtain ⟨Z, HZ⟩ : ∃ z, Hid (mayB xs (hvOf hs) i BI = z) := ⟨_, hid rfl⟩
  rw [HZ.out]
  have H := hid hx
  have HB := hid hb
  have HN := hid hn
  have HM := hid hm
  have HIN : Hid (i < n) := by rw [← hn]; exact hi
  have hiN : ((i : Int) < (n : Int)) := by have := HIN.out; omega
  have HI0 : Hid (MayAll xs hs i BI Z) := by rw [← HZ.out]; exact mayB_iff
  have HL := hid hl
  clear hx hb hn hm HZ hl
  subst hbo
  subst hlo
  go_enter Try.func18, Try.ntmps18
  go_wp2
  go_loopw [7] (fun s7 wr => ∃ k : Nat, k ≤ n ∧ s7 = .int .i64 k ∧ Hid (Below w.heap.size w wr ∧ MayTo xs hs i BI k)) (fun s7 _ => n - (intOf s7).toNat)
  case atStart => exact ⟨0, Nat.zero_le _, rfl, Below.refl _ _, fun j _ h => (by omega)⟩
  case round =>
    obtain ⟨k, hk, rfl, HR⟩ := hrel
    have gi' : wr.cell? ⟨b2, o2 + i, none⟩ = some (.bool HI) := by
      have := (HB.out.below HR.out.1).at (j := i) (by rw [HM.out]; exact HIN.out)
      obtain ⟨b', o', he, _, hc⟩ := this
      cases he
      rw [HHI.out] at hc
      exact hc
    by_cases hlt : k < n
    · have hlt' : (k : Int) < (n : Int) := by omega
      have HKM : Hid (k + 1 ≤ n) := (by omega : k + 1 ≤ n)
      have HKX : Hid (k < xs.length) := by rw [HN.out]; exact hlt
      have HIX : Hid (i < xs.length) := by rw [HN.out]; exact HIN.out
      have hwk : wrap64 ((k : Int) + 1) = (k : Int) + 1 := wrapS (by omega) (by have := HL.out; omega)
      obtain ⟨b1', o1', he1, _, _, _, gb', _, _⟩ := (H.out.below HR.out.1).at HIX.out
      cases he1
      rw [HBI.out] at gb'
      obtain ⟨b1', o1', he1, _, _, _, _, ge, _⟩ := (H.out.below HR.out.1).at HKX.out
      cases he1
      obtain ⟨b2', o2', he2, _, gk⟩ := (HB.out.below HR.out.1).at (j := k) (by rw [HM.out]; exact hlt)
      cases he2
      obtain ⟨E, HE⟩ : ∃ z, Hid ((xs[k]'HKX.out).e = z) := ⟨_, hid rfl⟩
      obtain ⟨V, HV⟩ : ∃ z, Hid (hs.getD k false = z) := ⟨_, hid rfl⟩
      rw [HE.out] at ge
      rw [HV.out] at gk
      have HGO : Hid (MayGo xs hs k i V E BI Z) := by
        refine ⟨fun hh j hj hjk hji hv he => ?_, fun a b c d => ?_⟩
        · by_cases e : j = k
          · subst e
            rw [HE.out] at he ⊢
            exact hh hji (by rw [← HV.out]; exact hv) he
          · exact HR.out.2 j hj (by omega) hji hv he
        · cases hz : Z with
          | false => rfl
          | true =>
            have := (HI0.out.1 hz).2 k HKX.out a (by unfold hvOf; rw [HV.out]; exact b) (by rw [HE.out]; exact c)
            rw [HE.out] at this
            exact absurd d this
      have HRB := hid HR.out.1
      clear HE HV hlt HR
      by_cases c1 : k = i
      · have HG := hid (HGO.out.1 (fun h => absurd c1 h))
        clear HGO HI0
        subst c1
        go_wp2
        go_quiet (fail)
        go_wp2
        go_roundw
        case rel => exact ⟨k + 1, HKM.out, by go_num, below_dn HRB.out _, HG.out⟩
        case measure => first | exact measWS HKM.out hwk | exact meas1S HKM.out
      · have hd2 : ((k : Int) != (i : Int)) = true := bne_iff_ne.2 (by omega)
        have HC1 := hid c1
        clear c1
        cases V with
        | true =>
          have HG := hid (HGO.out.1 (fun _ h => by cases h))
          clear HGO HI0
          go_wp2
          go_quiet (fail)
          go_wp2
          go_roundw
          case rel => exact ⟨k + 1, HKM.out, by go_num, below_dn HRB.out _, HG.out⟩
          case measure => first | exact measWS HKM.out hwk | exact meas1S HKM.out
        | false =>
          by_cases c3 : E = 0
          · have HG := hid (HGO.out.1 (fun _ _ h => absurd c3 h))
            clear HGO HI0
            subst c3
            go_wp2
            go_quiet (fail)
            go_wp2
            go_roundw
            case rel => exact ⟨k + 1, HKM.out, by go_num, below_dn HRB.out _, HG.out⟩
            case measure => first | exact measWS HKM.out hwk | exact meas1S HKM.out
          · have hc3 : (E != 0) = true := bne_iff_ne.2 c3
            by_cases c4 : E < BI
            · have HF := hid (HGO.out.2 HC1.out rfl c3 c4)
              have hd4 : decide (E < BI) = true := decide_eq_true c4
              clear HGO HI0 c4 c3
              go_wp2
              go_quiet (fail)
              go_wp2
              go_ret
              exact ⟨by rw [HF.out]; rfl, below_dn HRB.out _⟩
            · have HG := hid (HGO.out.1 (fun _ _ _ => c4))
              clear HGO HI0
              have hd4 : decide (E < BI) = false := decide_eq_false c4
              clear c4 c3
              go_wp2
              go_quiet (fail)
              go_wp2
              go_roundw
              case rel => exact ⟨k + 1, HKM.out, by go_num, below_dn HRB.out _, HG.out⟩
              case measure => first | exact measWS HKM.out hwk | exact meas1S HKM.out
    · have hlt' : ¬ (k : Int) < (n : Int) := by omega
      have HF : Hid (Z = !HI) := by
        cases hh : HI with
        | true =>
          cases hz : Z with
          | false => rfl
          | true =>
            have := (HI0.out.1 hz).1
            unfold hvOf at this
            rw [HHI.out, hh] at this
            cases this
        | false =>
          exact HI0.out.2 ⟨by unfold hvOf; rw [HHI.out, hh], fun j hj => HR.out.2 j hj (by have := HN.out; omega)⟩
      have HRB := hid HR.out.1
      clear HR
      go_wp2
      go_ret
      exact ⟨by rw [HF.out]; rfl, HRB.out⟩
end Go.Proofs.Ytfjmhfbmphdjiaa
