/-
  The law's lives (oplog): what must come of every program.
-/
import Derived.Test.YtjlompnjhmbhhaaGreatSeqG
import Derived.Test.YtjlompnjhmbhhaaGreatRows
import Derived.Test.YtjlompnjhmbhhaaGreatRoundQuiet
import Derived.Sort.CutIn
import Derived.Test.YtjlompnjhmbhhaaGreatSealI
import Derived.Test.YtjlompnjhmbhhaaGreatOlT
import Derived.Deep.QuietTactic
import Derived.BigQuiet
namespace Go.Proofs.YtjlompnjhmbhhaaGreat
open Go.RowKit Go.Maps

def bC : ByteArray := { data := #[99] }
def bS : ByteArray := { data := #[115] }
def lvB : Ev := ⟨0, 2, [1], bC, 0, bS, 1, false⟩
def lvA : Ev := ⟨0, 1, [], bC, 0, bS, 1, false⟩
theorem mayB : MayE lvB := by decide +kernel
theorem mayA : MayE lvA := by decide +kernel
theorem putB {w w' : World} {p me mw : Nat} {e : Ending} (h : PutP w p me mw emptyLg lvB e w') : ∃ y : EvM, y.e = lvB ∧ e = .returned (.tuple #[.slice none 0 0, .int .i64 0]) ∧ AtG w p me mw (waitG emptyLg y) w' := by
  have hr : ¬ ReadyE emptyLg.A lvB := by decide +kernel
  have hh : ¬ HasV emptyLg.A lvB.o lvB.s := by decide +kernel
  cases h with
  | wrong h1 _ => exact absurd mayB h1
  | twice _ h1 _ =>
    rcases h1 with h1 | h1
    · cases h1
    · exact absurd h1 hh
  | full _ _ _ h1 _ =>
    rcases h1 with h1 | ⟨_, h1⟩
    · exact absurd h1 (by decide)
    · exact absurd h1 (by decide)
  | goes _ _ _ _ h1 => exact absurd h1 hr
  | waits _ _ _ _ _ _ h1 h2 => exact ⟨_, h1, rfl, h2⟩
/-- The log in which b waits. -/
theorem putA {w w' : World} {p me mw : Nat} {e : Ending} {y : EvM} (hy : y.e = lvB) (h : PutP w p me mw (waitG emptyLg y) lvA e w') : ∃ v ys g', e = .returned (.tuple #[v, .int .i64 0]) ∧ RowE w.heap.size w' v ys ∧ ys.map (·.e) = [lvA, lvB] ∧ g'.A = [2] ∧ AtG w p me mw g' w' := by
  have hW : ∀ o s, (waitG emptyLg y).W o s = if o = 0 ∧ s = 2 then some y else none := fun o s => by
    show updD _ y.e.o y.e.s (some y) o s = _
    rw [hy]
    rfl
  have hr : ReadyE (waitG emptyLg y).A lvA := (by decide +kernel : ReadyE [] lvA)
  have hh : ¬ HasV (waitG emptyLg y).A lvA.o lvA.s := (by decide +kernel : ¬ HasV [] 0 1)
  have hw : (waitG emptyLg y).W lvA.o lvA.s = none := by rw [hW, if_neg (by decide)]
  cases h with
  | wrong h1 _ => exact absurd mayA h1
  | twice _ h1 _ =>
    rcases h1 with h1 | h1
    · rw [hw] at h1
      cases h1
    · exact absurd h1 hh
  | full _ _ _ h1 _ =>
    rcases h1 with h1 | ⟨h1, _⟩
    · exact absurd h1 (by show ¬ 65536 ≤ 0; decide)
    · exact absurd hr h1
  | waits _ _ _ _ h1 => exact absurd hr h1
  | goes _ _ _ _ _ h1 h2 h3 h4 h5 =>
    obtain ⟨r, hr'⟩ := h2
    have hwt := h3.waited
    have hnw := h3.nw
    have hst := h4
    have hA := h3.A
    have hne := h3.ne
    have hWW := h3.W
    rw [hr'] at hwt hnw hA hne hWW
    have hrl : r.length ≤ 1 := by
      have h6 : (waitG emptyLg y).nw = 1 := rfl
      rw [h6, List.length_cons] at hnw
      omega
    have hall : ∀ e ∈ r, e = lvB := fun e he => by
      obtain ⟨x, hx, rfl⟩ := hwt e he
      rw [hW] at hx
      split at hx
      · cases hx
        exact hy
      · cases hx
    cases r with
    | nil =>
      exfalso
      rename_i g'
      have h6 : (waitG emptyLg y).ne = 0 := rfl
      rw [h6] at hne
      rcases hst with hst | hst
      · rw [hne] at hst
        exact absurd hst (by decide)
      · refine hst 0 2 y ?_ ?_
        · rw [hWW, if_neg (by decide +kernel), hW, if_pos ⟨rfl, rfl⟩]
        · rw [hA, hy]
          exact (by decide +kernel : ReadyE (addL [] [lvA]) lvB)
    | cons e r2 =>
      have he := hall e (List.mem_cons_self ..)
      cases r2 with
      | cons _ _ =>
        simp at hrl
      | nil =>
        subst he
        refine ⟨_, _, _, rfl, h1, hr', ?_, h5⟩
        rw [hA]
        exact (by decide +kernel : addL [] [lvA, lvB] = [2])
theorem putA2 {w w' : World} {p me mw : Nat} {e : Ending} {g : Lg} (hA : g.A = [2]) (h : PutP w p me mw g lvA e w') : e = .returned (.tuple #[.slice none 0 0, .int .i64 5]) ∧ Below w.heap.size w w' := by
  have hh : HasV g.A lvA.o lvA.s := by rw [hA]; decide +kernel
  cases h with
  | wrong h1 _ => exact absurd mayA h1
  | twice _ _ h1 => exact ⟨rfl, h1⟩
  | full _ _ h1 _ _ => exact absurd hh h1
  | goes _ _ h1 => exact absurd hh h1
  | waits _ _ h1 => exact absurd hh h1
theorem waitsB {y : EvM} (hy : y.e = lvB) {ss : List (Int × Int)} (h : WaitsOf (waitG emptyLg y) ss) : ss = [(0, 2)] := by
  have hW : ∀ o s, (waitG emptyLg y).W o s = if o = 0 ∧ s = 2 then some y else none := fun o s => by
    show updD _ y.e.o y.e.s (some y) o s = _
    rw [hy]
    rfl
  have hm : ∀ d, d ∈ ss ↔ d = (0, 2) := fun ⟨o, s⟩ => by
    rw [h.2.1, hW]
    simp only [Prod.mk.injEq]
    split
    · next hc => simp [hc]
    · next hc => simp; omega
  cases ss with
  | nil => exact absurd ((hm (0, 2)).2 rfl) (by simp)
  | cons d r =>
    have h1 := (hm d).1 (List.mem_cons_self ..)
    subst h1
    cases r with
    | nil => rfl
    | cons e r2 =>
      have h2 := (hm e).1 (by simp)
      have h3 := h.1
      rw [h2] at h3
      simp at h3
end Go.Proofs.YtjlompnjhmbhhaaGreat
/-
  The law's lives (oplog), walked.
-/
namespace Go.Proofs.YtjlompnjhmbhhaaGreat
open Go.RowKit Go.Maps

theorem hv_oneL (w : World) : HV (w.alloc (.cells #[.int .i64 1] 3)) (some ⟨w.heap.size, 0, none⟩) 1 [1] := by
  have hb := Blk.new w 3 [.int .i64 1]
  refine ⟨⟨fun x hx => ?_, .inr ⟨_, 0, rfl, hb.lt, fun j hj => ?_⟩⟩, by decide, by decide⟩
  · simp at hx
    subst hx
    decide
  · obtain rfl : j = 0 := by simp at hj; omega
    exact hb.cell rfl
theorem itL_eql (a b : Nat) (W : World) : (binOp .eql 45 (.func (.func 61) #[] #[.pointer (some ⟨a, 0, none⟩), .pointer (some ⟨b, 0, none⟩)]) .nilFunc).run Tryz.prog W = .ok (.bool false) W := by kernel_rfl
theorem row_ev {B : Nat} {w : World} {v : Value} {ys : List EvM} (h : w.ownsRow B 33 8 v ys.length (flatE ys)) (hp : 0 < ys.length) : ∃ g cap, v = .slice (some ⟨g, 0, none⟩) ys.length cap ∧ g < w.heap.size ∧ ∀ j (hj : j < ys.length) c u, ys[j].cells[c]? = some u → w.cell? ⟨g, j * 8 + c, none⟩ = some u := by
  obtain ⟨eo, cap, rfl, _, hc⟩ := own_form8 h
  obtain ⟨g, rfl, _, hg, hcell⟩ := hc hp
  exact ⟨g, cap, rfl, hg, fun j hj c u hu => hcell _ _ (flatE_get ys j hj c u hu)⟩
set_option maxRecDepth 1000000 in
set_option maxHeartbeats 8000000 in
theorem lives10_any (w : World) : Calls Tryz.prog 5 #[] w fun e w' => e = .returned (.bool true) ∧ Below w.heap.size w w' := by
  have hit := fun W a b => itL_eql a b W
  go_enter Tryz.func5, Tryz.ntmps5
  go_wp2_with fail
  refine (newL_any w).mono ?_
  rintro e w1 ⟨p, me, mw, rfl, hl, hf, hb⟩
  have HL1 := hid hl
  have HF1 := hid hf
  have HB1 := hid hb
  clear hl hf hb
  go_wp2_with fail
  refine (all_any w1 _).mono ?_
  rintro e w2 ⟨rfl, hw2⟩
  have HB2 : Hid (Below w1.heap.size w1 w2) := by rw [hw2]; exact ((Below.refl _ _).alloc (Nat.le_refl _) _).alloc (by simp) _
  clear hw2
  have HL2 := hid (HL1.out.below HB2.out)
  obtain ⟨W3, hW3⟩ : ∃ W, W = w2.alloc (.cells #[.int .i64 1] 3) := ⟨_, rfl⟩
  obtain ⟨W4, hW4⟩ : ∃ W, W = W3.alloc (.cells #[.int .i64 0, .int .i64 2, .slice (some ⟨w2.heap.size, 0, none⟩) 1 1, .string bC, .int .i64 0, .string bS, .int .i64 1, .bool false] 33) := ⟨_, rfl⟩
  obtain ⟨W5, hW5⟩ : ∃ W, W = W4.alloc (.cells #[.int .i64 0, .int .i64 1, .slice none 0 0, .string bC, .int .i64 0, .string bS, .int .i64 1, .bool false] 33) := ⟨_, rfl⟩
  have hs3 : W3.heap.size = w2.heap.size + 1 := by rw [hW3]; simp
  have hs4 : W4.heap.size = w2.heap.size + 1 + 1 := by rw [hW4, World.size_alloc, hs3]
  have hb3 : Below w2.heap.size w2 W3 := by rw [hW3]; exact (Below.refl _ _).alloc (Nat.le_refl _) _
  have hb4 : Below W3.heap.size W3 W4 := by rw [hW4]; exact (Below.refl _ _).alloc (Nat.le_refl _) _
  have hb5 : Below W4.heap.size W4 W5 := by rw [hW5]; exact (Below.refl _ _).alloc (Nat.le_refl _) _
  have HB5 : Hid (Below w2.heap.size w2 W5) := bt (bt hb3 hb4) hb5
  have HL5 := hid (HL2.out.below HB5.out)
  have HV5 : Hid (HV W5 (some ⟨w2.heap.size, 0, none⟩) 1 [1]) := (by rw [hW3]; exact hv_oneL w2 : HV W3 (some ⟨w2.heap.size, 0, none⟩) 1 [1]).below (bt hb4 hb5)
  have HKB : Hid (Blk W5 (w2.heap.size + 1) 33 [.int .i64 0, .int .i64 2, .slice (some ⟨w2.heap.size, 0, none⟩) 1 1, .string bC, .int .i64 0, .string bS, .int .i64 1, .bool false]) := by
    have := Blk.new W3 33 [.int .i64 0, .int .i64 2, .slice (some ⟨w2.heap.size, 0, none⟩) 1 1, .string bC, .int .i64 0, .string bS, .int .i64 1, .bool false]
    rw [hs3] at this
    rw [hW5, hW4]
    exact this.alloc _
  have HKA : Hid (Blk W5 (w2.heap.size + 1 + 1) 33 [.int .i64 0, .int .i64 1, .slice none 0 0, .string bC, .int .i64 0, .string bS, .int .i64 1, .bool false]) := by
    have := Blk.new W4 33 [.int .i64 0, .int .i64 1, .slice none 0 0, .string bC, .int .i64 0, .string bS, .int .i64 1, .bool false]
    rw [hs4] at this
    rw [hW5]
    exact this
  have HW : Hid (W5 = ((w2.alloc (.cells #[.int .i64 1] 3)).alloc (.cells #[.int .i64 0, .int .i64 2, .slice (some ⟨w2.heap.size, 0, none⟩) 1 1, .string bC, .int .i64 0, .string bS, .int .i64 1, .bool false] 33)).alloc (.cells #[.int .i64 0, .int .i64 1, .slice none 0 0, .string bC, .int .i64 0, .string bS, .int .i64 1, .bool false] 33)) := by show _ = _; rw [hW5, hW4, hW3]
  have HXB : Hid (EvOk W5 ⟨lvB, some ⟨w2.heap.size, 0, none⟩, 1⟩) := ⟨HV5.out, (by unfold I64; decide : I64 lvB.o), (by unfold I64; decide : I64 lvB.s), (by unfold I64; decide : I64 lvB.epoch), (by unfold I64; decide : I64 lvB.qty), (by decide : lvB.cart.size ≤ maxLen), (by decide : lvB.sku.size ≤ maxLen)⟩
  have HXA : Hid (∀ V, EvOk V ⟨lvA, none, 0⟩) := fun V => ⟨hv_none _ 0, (by unfold I64; decide : I64 lvA.o), (by unfold I64; decide : I64 lvA.s), (by unfold I64; decide : I64 lvA.epoch), (by unfold I64; decide : I64 lvA.qty), (by decide : lvA.cart.size ≤ maxLen), (by decide : lvA.sku.size ≤ maxLen)⟩
  have HP1 := hid (put_any HL5.out ⟨lvB, some ⟨w2.heap.size, 0, none⟩, 1⟩ HXB.out)
  clear hW3 hW4 hW5 hs3 hs4 hb3 hb4 hb5
  simp only [EvM.val, lvB, bC, bS, List.length_cons, List.length_nil, Nat.zero_add] at HP1
  simp only [bC, bS] at HW HKA HKB
  go_wp2_with fail
  rw [← HW.out]
  obtain ⟨pB, hpB⟩ : ∃ z, z = w2.heap.size + 1 := ⟨_, rfl⟩
  obtain ⟨pA, hpA⟩ : ∃ z, z = w2.heap.size + 1 + 1 := ⟨_, rfl⟩
  rw [← hpA] at HKA ⊢
  rw [← hpB] at HKB ⊢
  have HNB : Hid (¬ FootL p me mw pB ∧ ¬ FootL p me mw pA) := ⟨fun h => by have := HL2.out.lt pB h; omega, fun h => by have := HL2.out.lt pA h; omega⟩
  have HFW : Hid (∀ i, FootL p me mw i → w.heap.size ≤ i) := HF1.out
  clear hpA hpB hit
  refine HP1.out.mono ?_
  intro e w6 h6
  obtain ⟨y, hy, rfl, hl6, ht6⟩ := putB h6
  have HY := hid hy
  have HL6 := hid hl6
  have HKB6 := hid (ht6.blk HKB.out HNB.out.1)
  have HKA6 := hid (ht6.blk HKA.out HNB.out.2)
  have HT6 : Hid (Turns (FootL p me mw) W5 w6) := ht6
  clear h6 hy hl6 ht6 HP1
  have HWT := hid (waiting_any HL6.out)
  go_wp2_with fail
  refine HWT.out.mono ?_
  rintro e w7 ⟨v7, ss, rfl, hss, _, hrow7, hb7⟩
  have hse := waitsB HY.out hss
  subst hse
  obtain ⟨eo7, cap7, rfl, _, hc7⟩ := own_form8 hrow7
  obtain ⟨g7, rfl, _, hg7, hcell7⟩ := hc7 (by decide)
  have HC7 : Hid (w7.cell? ⟨g7, 0, none⟩ = some (.int .i64 0) ∧ w7.cell? ⟨g7, 1, none⟩ = some (.int .i64 2)) := ⟨hcell7 0 _ rfl, hcell7 1 _ rfl⟩
  have HG7 := hid hg7
  have HGB : Hid (w6.heap.size ≤ g7) := (hrow7.lt g7 rfl).1
  have HB7 := hid hb7
  have HL7 := hid (HL6.out.below hb7)
  have HKB7 := hid (HKB6.out.below hb7 HKB6.out.lt)
  have HKA7 := hid (HKA6.out.below hb7 HKA6.out.lt)
  clear hss hrow7 hb7 hc7 hcell7 hg7 HWT
  have HP2 := hid (put_any HL7.out ⟨lvA, none, 0⟩ (HXA.out _))
  simp only [EvM.val, lvA, bC, bS, List.length_nil] at HP2
  have t0 := HKA7.out.cell (i := 0) rfl
  have t1 := HKA7.out.cell (i := 1) rfl
  have t2 := HKA7.out.cell (i := 2) rfl
  have t3 := HKA7.out.cell (i := 3) rfl
  have t4 := HKA7.out.cell (i := 4) rfl
  have t5 := HKA7.out.cell (i := 5) rfl
  have t6 := HKA7.out.cell (i := 6) rfl
  have t7 := HKA7.out.cell (i := 7) rfl
  go_wp2_with fail
  refine HP2.out.mono ?_
  intro e w8 h8
  obtain ⟨v8, ys, g8, rfl, hrow8, hys, hA8, hl8, ht8⟩ := putA HY.out h8
  have HL8 := hid hl8
  have HA8 := hid hA8
  have HNF7 : Hid (¬ FootL p me mw g7) := fun h => by have := HL6.out.lt g7 h; have := HGB.out; omega
  have HKB8 := hid (ht8.blk HKB7.out HNB.out.1)
  have HKA8 := hid (ht8.blk HKA7.out HNB.out.2)
  have HC8 : Hid (w8.cell? ⟨g7, 0, none⟩ = some (.int .i64 0) ∧ w8.cell? ⟨g7, 1, none⟩ = some (.int .i64 2)) := by
    have hbk := ht8.block g7 HG7.out HNF7.out
    have h0 := HC7.out.1
    have h1 := HC7.out.2
    simp only [World.cell?] at h0 h1 ⊢
    rw [hbk]
    exact ⟨h0, h1⟩
  have HG8 : Hid (g7 < w8.heap.size) := Nat.lt_of_lt_of_le HG7.out ht8.size
  have HT8 := hid ht8
  have hlen : ys.length = 2 := by have := congrArg List.length hys; simpa using this
  obtain ⟨gr, capr, rfl, hgr, hcr⟩ := row_ev hrow8.row (by omega)
  have hy1 : (ys[1]'(by omega)).e = lvB := by
    have h1 : (ys.map (·.e))[1]? = some lvB := by rw [hys]; rfl
    rw [List.getElem?_map, List.getElem?_eq_getElem (by omega : 1 < ys.length)] at h1
    simpa using h1
  have HR8 : Hid (w8.cell? ⟨gr, 8, none⟩ = some (.int .i64 0) ∧ w8.cell? ⟨gr, 9, none⟩ = some (.int .i64 2)) := by
    have h0 := hcr 1 (by omega) 0 _ rfl
    have h1 := hcr 1 (by omega) 1 _ rfl
    rw [hy1] at h0 h1
    exact ⟨h0, h1⟩
  have HGR := hid hgr
  rw [hlen]
  clear h8 hrow8 hys hA8 hl8 ht8 hgr hcr hy1 hlen HP2 t0 t1 t2 t3 t4 t5 t6 t7
  have HP3 := hid (put_any HL8.out ⟨lvA, none, 0⟩ (HXA.out _))
  simp only [EvM.val, lvA, bC, bS, List.length_nil] at HP3
  have t0 := HKA8.out.cell (i := 0) rfl
  have t1 := HKA8.out.cell (i := 1) rfl
  have t2 := HKA8.out.cell (i := 2) rfl
  have t3 := HKA8.out.cell (i := 3) rfl
  have t4 := HKA8.out.cell (i := 4) rfl
  have t5 := HKA8.out.cell (i := 5) rfl
  have t6 := HKA8.out.cell (i := 6) rfl
  have t7 := HKA8.out.cell (i := 7) rfl
  go_wp2_with fail
  refine HP3.out.mono ?_
  intro e w9 h9
  obtain ⟨rfl, hb9⟩ := putA2 HA8.out h9
  have HL9 := hid (HL8.out.below hb9)
  have HB9 := hid hb9
  have HSA : Hid (∀ V, Sc w9 V → (Sc w9 V ∧ V.cell? ⟨pB, 0, none⟩ = some (.int .i64 0) ∧ V.cell? ⟨pB, 1, none⟩ = some (.int .i64 2) ∧ V.cell? ⟨g7, 0, none⟩ = some (.int .i64 0) ∧ V.cell? ⟨g7, 1, none⟩ = some (.int .i64 2) ∧ V.cell? ⟨gr, 8, none⟩ = some (.int .i64 0) ∧ V.cell? ⟨gr, 9, none⟩ = some (.int .i64 2))) := fun V hV => by
    have h1 := bt HB9.out hV.out
    have hk := HKB8.out.below h1 HKB8.out.lt
    exact ⟨hV, hk.cell rfl, hk.cell rfl, (h1.cell (p := ⟨g7, 0, none⟩) HG8.out).trans HC8.out.1, (h1.cell (p := ⟨g7, 1, none⟩) HG8.out).trans HC8.out.2, (h1.cell (p := ⟨gr, 8, none⟩) HGR.out).trans HR8.out.1, (h1.cell (p := ⟨gr, 9, none⟩) HGR.out).trans HR8.out.2⟩
  have HAP : Hid (∀ V, Sc w9 V → Calls Tryz.prog 15 #[.pointer (some ⟨p, 0, none⟩)] V fun e w' => ∃ bo cp, e = .returned (.slice bo 1 cp) ∧ Sc w9 w') := fun V hV => by
    refine (applied_any (HL9.out.below hV.out)).mono ?_
    rintro e w' ⟨bo, cp, rfl, _, h2⟩
    rw [HA8.out]
    exact ⟨bo, cp, rfl, hV.go h2⟩
  have HBF : Hid (Below w.heap.size w w9) := by
    have t1 : Turns (FootL p me mw) w W5 := Turns.of_below (bt (bt HB1.out HB2.out) HB5.out) (Nat.le_refl _)
    have t2 := t1.trans HT6.out (fun i hi => .inl hi)
    have t3 := t2.trans (Turns.of_below (F := fun _ => False) HB7.out (Nat.le_refl _)) (fun _ h => h.elim)
    have t4 := t3.trans HT8.out (fun i hi => .inl hi)
    have t5 := t4.trans (Turns.of_below (F := fun _ => False) HB9.out (Nat.le_refl _)) (fun _ h => h.elim)
    exact t5.below HFW.out (Nat.le_refl _)
  clear h9 hb9 HP3 t0 t1 t2 t3 t4 t5 t6 t7
  go_wp2
  go_region_held3 (fun V => Sc w9 V ∧ V.cell? ⟨pB, 0, none⟩ = some (.int .i64 0) ∧ V.cell? ⟨pB, 1, none⟩ = some (.int .i64 2) ∧ V.cell? ⟨g7, 0, none⟩ = some (.int .i64 0) ∧ V.cell? ⟨g7, 1, none⟩ = some (.int .i64 2) ∧ V.cell? ⟨gr, 8, none⟩ = some (.int .i64 0) ∧ V.cell? ⟨gr, 9, none⟩ = some (.int .i64 2))
    (first | (refine ⟨?_, ?_, ?_, ?_, ?_, ?_, ?_⟩ <;> assumption) | (refine HSA.out _ ?_; (repeat (first | assumption | exact Sc.start _ | apply Sc.dr))))
    (first
      | (go_at_call 15; with_reducible refine (HAP.out _ (by (repeat (first | assumption | exact Sc.start _ | apply Sc.dr)))).mono ?_; rintro e w10 ⟨bo, cp, rfl, hs10⟩))
  all_goals
    have HSF := hid (bt HBF.out hs10.out)
    go_wp2
    go_ret
    exact ⟨by simp, HSF.out⟩
end Go.Proofs.YtjlompnjhmbhhaaGreat
/-
  A range over an iterator that yields what it has just made, its variable in a box (as in LogQ; here with no log about it).
-/
namespace Go.Proofs.YtjlompnjhmbhhaaGreat
open Go.RowKit Go.Shelf Go.Maps
attribute [local go_sem] Oper.semAt_some

/-- A range whose variable lies in a box of its own. -/
theorem wpIn_rangeFunc_Gc {F : Fence} {n : Nat} {P : Program} {α : Type} {g : Operand} {ps : Array Tmp} {assign body : Code} {Q : Exit → Act → World → Prop} {a : Act} {w : World}
    (hro : F.round = none) (h1 : 1 ≤ n) {gf : Nat} {lb : Array Value} (hg : a.eval g = .func (.func gf) #[] lb) (hFg : F.fn gf) (eg : ∀ args w, (callFunc gf args).run P w = .ok (.enter gf args) w)
    {encs : α → Array Value} {Kp : World → World → Prop} {G : List α → α → World → Prop} {S Sp : List α → Prop} (hseq : ∀ r, SeqAt F (n - 1) P (w.heap.size + 1) gf lb encs Kp G S Sp ((w.alloc (.deferred (some []))).alloc (.loop r)))
    (hKt : ∀ {A B C : World}, Kp A B → Kp B C → Kp A C) (hKb : ∀ (V : World) (r r' : Loop), V.heap[w.heap.size + 1]? = some (.loop r) → Kp V (V.putObj (w.heap.size + 1) (.loop r'))) (hps : ∀ x, (encs x).size = ps.size)
    (I : List α → World → Prop) (Ix : Code → List α → World → Prop) (hI : OwnFrom w.heap.size I) (hIx : ∀ c, OwnFrom w.heap.size (Ix c)) (h0 : I [] w) (X : List α → α → World → Prop) (hX : ∀ pre x, OwnFrom w.heap.size (fun (_ : Unit) V => X pre x V)) (Bx : α → List Value) (t : TypeId) (A : α → Nat → Act)
    (hassign : ∀ (l : Nat) (pre : List α) (x : α) (V : World) (K : Act → World → Prop), w.heap.size + 1 < V.heap.size → I pre V → G pre x V → (∀ gg V', KeptAs w.heap.size V V' → Kp V V' → I pre V' → X pre x V' → Blk V' gg t (Bx x) → w.heap.size ≤ gg → K (A x gg) V') →
      assign.wpIn (F.inRound l) (n - 1 - 1) P (Exit.then K (fun _ _ _ => False)) { tmps := (ps.zip (encs x)).foldl (fun t (p, v) => t.setIfInBounds p v) a.tmps, defers := [] } V)
    (hbody : ∀ (l : Nat) (pre : List α) (x : α) (gg : Nat) (V : World), (∃ r, Kept w.heap.size r V) → I pre V → X pre x V → Blk V gg t (Bx x) → w.heap.size ≤ gg → body.wpIn (F.inRound l) (n - 1 - 1) P (roundG w.heap.size Kp I Ix (pre ++ [x]) V) (A x gg) V)
    (hdone : ∀ (D : Nat) (xs : List α) (V : World), w.heap.size ≤ D → S xs → I xs V → V.heap[D]? = some (.deferred (some [])) → Q .normal { a with defers := { target := .collected D, args := #[] } :: a.defers } V)
    (hstop : ∀ (D : Nat) (c : Code) (pre : List α) (V : World), w.heap.size ≤ D → Sp pre → Ix c pre V → V.heap[D]? = some (.deferred (some [])) → c.wpIn F n P Q { a with defers := { target := .collected D, args := #[] } :: a.defers } V) :
    (Code.rangeFunc g ps assign body).wpIn F n P Q a w :=
  wpIn_rangeFunc_G hro h1 hg hFg eg hseq (fun h k => hKt h k) hKb hps I Ix hI hIx h0 (fun pre x a' V => ∃ gg, a' = A x gg ∧ X pre x V ∧ Blk V gg t (Bx x) ∧ w.heap.size ≤ gg)
    (fun pre x a' _ V V' row ⟨gg, e, hx, hb, hl⟩ hg hr => ⟨gg, e, hX pre x () V V' row hx hg hr, blk_own2 () V V' row hb hg hr, hl⟩)
    (fun l pre x V K hlt hi hG hK => hassign l pre x V K hlt hi hG (fun gg V' h1 h2 h3 h4 h5 h6 => hK _ V' h1 h2 h3 ⟨gg, rfl, h4, h5, h6⟩))
    (fun l pre x a' V _ hr hi ⟨gg, e, hx, hb, hl⟩ => by subst e; exact hbody l pre x gg V hr hi hx hb hl) hdone hstop
end Go.Proofs.YtjlompnjhmbhhaaGreat
/-
  A range over a function inside a loop: the marks that its rounds leave, boxes, what a round may change. As LoopM, over SeqG.
-/
namespace Go.Proofs.YtjlompnjhmbhhaaGreat
open Go.RowKit Go.Shelf Go.Maps
attribute [local go_sem] Oper.semAt_some

theorem btM {a b c : World} (h : Below a.heap.size a b) (k : Below b.heap.size b c) : Below a.heap.size a c := h.trans (k.mono h.size)
def markD (D : Nat) : Deferred := { target := .collected D, args := #[] }
structure Marks (B : Nat) (Ds : List Nat) (V : World) : Prop where
  one : Ds.Nodup
  at_ : ∀ D ∈ Ds, B ≤ D ∧ V.heap[D]? = some (.deferred (some []))
theorem Marks.nil (B : Nat) (V : World) : Marks B [] V := ⟨List.nodup_nil, fun D h => (by cases h)⟩
theorem Marks.turned {B : Nat} {Ds : List Nat} {V V' : World} {F : Nat → Prop} (h : Marks B Ds V) (ht : Turns F V V') (hF : ∀ i, F i → V.heap[i]? ≠ some (.deferred (some []))) : Marks B Ds V' :=
  ⟨h.one, fun D hD => ⟨(h.at_ D hD).1, (ht.block D (Array.getElem?_eq_some_iff.1 (h.at_ D hD).2).1 (fun hf => hF D hf (h.at_ D hD).2)).trans (h.at_ D hD).2⟩⟩
theorem Marks.below {B : Nat} {Ds : List Nat} {V V' : World} (h : Marks B Ds V) (hb : Below V.heap.size V V') : Marks B Ds V' := h.turned (F := fun _ => False) (Turns.of_below hb (Nat.le_refl _)) (fun _ h => h.elim)
theorem Marks.push {B : Nat} {Ds : List Nat} {V : World} (h : Marks B Ds V) {D : Nat} (h1 : B ≤ D) (h2 : V.heap[D]? = some (.deferred (some []))) (h3 : D ∉ Ds) : Marks B (D :: Ds) V :=
  ⟨List.nodup_cons.2 ⟨h3, h.one⟩, fun E hE => by
    rcases List.mem_cons.1 hE with rfl | hE
    · exact ⟨h1, h2⟩
    · exact h.at_ E hE⟩
/-- The end of a function that left marks: they are taken, one by one. -/
theorem leavesM_all {F : Fence} {n : Nat} {P : Program} {fn : Func} {tmps : Array Value} {R : Ending → World → Prop} {B : Nat} (Inv : World → Prop) (hInv : ∀ V D, Inv V → B ≤ D → V.heap[D]? = some (.deferred (some [])) → Inv (V.putObj D (.deferred none)))
    (hend : ∀ V, Inv V → LeavesIn F n P fn tmps R [] .returning V) : ∀ (Ds : List Nat) (V : World), Marks B Ds V → Inv V → LeavesInM F n P fn tmps R (Ds.map markD) .returning V
  | [], V, _, h => hend V h
  | D :: Ds, V, hm, h => by
    obtain ⟨h1, h2⟩ := hm.at_ D List.mem_cons_self
    refine ⟨by simp, .inl ⟨D, V.putObj D (.deferred none), rfl, run_takeDeferred h2, ?_⟩⟩
    refine leavesM_all Inv hInv hend Ds _ ⟨(List.nodup_cons.1 hm.one).2, fun E hE => ?_⟩ (hInv V D h h1 h2)
    obtain ⟨h3, h4⟩ := hm.at_ E (List.mem_cons_of_mem _ hE)
    refine ⟨h3, ?_⟩
    rw [World.putObj_heap_other (by rintro rfl; exact (List.nodup_cons.1 hm.one).1 hE)]
    exact h4
theorem infoBR : (Tryz.prog.info? 4).map (fun i => (i.zero, i.size, i.bytes)) = some (some (.bool false), 1, 1) := by kernel_rfl
theorem results_cellR {fn : Func} {t : Tmp} (h : fn.results = #[.cell t 4]) (tmps : Array Value) (w : World) {B : Nat} {v : Value} (hp : tmps.getD t undef = .pointer (some ⟨B, 0, none⟩)) (hc : w.cell? ⟨B, 0, none⟩ = some v) :
    (results fn tmps).run Tryz.prog w = .ok v w := by
  obtain ⟨i, hi, _, hs, _⟩ := info_parts infoBR
  have hp' : tmps[t]?.getD undef = .pointer (some ⟨B, 0, none⟩) := by simpa using hp
  simp [results, h, hp', hc, go_sem]
theorem boxed_own {W W' : World} {B : Nat} {t : TypeId} {v : Value} {row : Option Nat} (h : Boxed W B t v) (hg : W.grownBy W' row) (hr : ∀ r, row = some r → ∃ o : Obj, W.heap[r]? = some o ∧ o.isCells = false) : Boxed W' B t v := h.kept hg (fun e => by
  obtain ⟨o, ho, hc⟩ := hr B e.symm
  have h' : W.heap[B]? = some (.cells #[v] t (0, 0)) := h
  rw [h'] at ho
  cases ho
  cases hc)
theorem turns_set (V : World) (b : Nat) (u : Value) : Turns (fun i => i = b) V (V.setCell ⟨b, 0, none⟩ u) := (Turns.refl (fun i => i = b) V).setCell (p := ⟨b, 0, none⟩) (.inl rfl) _
theorem boxed_turned {V V' : World} {F : Nat → Prop} {b : Nat} {t : TypeId} {v : Value} (h : Boxed V b t v) (ht : Turns F V V') (hn : ¬ F b) : Boxed V' b t v := (ht.block _ h.lt hn).trans h
/-- n's box is set. -/
theorem belowJ {w V : World} {D : Nat} (hb : Below w.heap.size w V) (hD : w.heap.size ≤ D) (o : Obj) : Below w.heap.size w (V.putObj D o) := by
  have hT : Turns (fun i => i = D) V (V.putObj D o) := Turns.of_grown (grownBy_putObj' V _ _) (fun j e => by cases e; rfl)
  exact hb.trans (hT.below (fun i hi => by rw [hi]; exact hD) hb.size)
/-- What a round may change. -/
def FoJ (ib l : Nat) (k : Nat) : Prop := k = ib ∨ k = l
def KpJ (ib l : Nat) (A B : World) : Prop := Turns (FoJ ib l) A B
theorem KpJ.refl (ib l : Nat) (A : World) : KpJ ib l A A := Turns.refl _ _
theorem KpJ.trans {ib l : Nat} {A B C : World} (h : KpJ ib l A B) (k : KpJ ib l B C) : KpJ ib l A C := Turns.trans h k (fun _ hi => .inl hi)
theorem KpJ.below {ib l : Nat} {A B : World} (h : Below A.heap.size A B) : KpJ ib l A B := Turns.of_below h (Nat.le_refl _)
theorem wpIn_loop_k {F : Fence} {n : Nat} {P : Program} {Q : Exit → Act → World → Prop} {a : Act} {w : World} {c : Code} (I : Act → World → Prop) (μ : Act → World → Nat) (h₀ : I a w)
    (round : ∀ a w, I a w → ∀ K : Act → World → Prop, (∀ a' w', I a' w' → μ a' w' < μ a w → K a' w') → c.wpIn F n P (Exit.then K Q) a w) : (Code.loop c).wpIn F n P Q a w :=
  wpIn_loop I μ h₀ fun a w h => round a w h _ fun _ _ h1 h2 => ⟨h1, h2⟩

end Go.Proofs.YtjlompnjhmbhhaaGreat
/-
  The laws' SameEvent of whatever two events.
-/
namespace Go.Proofs.YtjlompnjhmbhhaaGreat
open Go.RowKit Go.Maps

end Go.Proofs.YtjlompnjhmbhhaaGreat
/-
  SameEvents of lists that are the same.
-/
namespace Go.Proofs.YtjlompnjhmbhhaaGreat
open Go.RowKit Go.Shelf Go.Maps
attribute [local go_sem] Oper.semAt_some

set_option maxRecDepth 1000000 in
set_option maxHeartbeats 4000000 in
theorem sameEvs_anyO (w : World) (ao bo : Option Addr) (ca cb : Nat) (xs ys : List EvM) (n : Nat) (hn : xs.length = n) (hm : ys.length = n) (hx : HeldE w ao xs) (hy : HeldE w bo ys) (he : xs.map (·.e) = ys.map (·.e)) (hl : n ≤ 4194304) :
    Calls Tryz.prog 8 #[.slice ao n ca, .slice bo n cb] w fun e w' => e = .returned (.bool true) ∧ Below w.heap.size w w' := by
  have HN := hid hn
  have HM := hid hm
  have HX := hid hx
  have HY := hid hy
  have HE := hid he
  clear hn hm hx hy he
  go_enter Tryz.func8, Tryz.ntmps8
  go_wp2
  go_loopw [5] (fun x wr => ∃ i : Nat, i ≤ n ∧ x = .int .i64 i ∧ Hid (Below w.heap.size w wr)) (fun x _ => n - (intOf x).toNat)
  case atStart => exact ⟨0, Nat.zero_le _, rfl, Below.refl _ _⟩
  case round =>
    obtain ⟨i, hi, rfl, HB⟩ := hrel
    by_cases hlt : i < n
    · have hlt' : (i : Int) < (n : Int) := by omega
      have hix : Hid (i < xs.length) := (by rw [HN.out]; exact hlt : i < xs.length)
      have hiy : Hid (i < ys.length) := (by rw [HM.out]; exact hlt : i < ys.length)
      have HIM : Hid (i + 1 ≤ n) := (by omega : i + 1 ≤ n)
      obtain ⟨g1, f1, hao, hg1, e0, e1, e2, e3, e4, e5, e6, e7⟩ := (HX.out.below HB.out).at hix.out
      obtain ⟨g2, f2, hbo, hg2, r0, r1, r2, r3, r4, r5, r6, r7⟩ := (HY.out.below HB.out).at hiy.out
      subst hao hbo
      have HL1 := hid hg1
      have HL2 := hid hg2
      clear hg1 hg2
      have HOX := hid ((HX.out.1 _ (List.getElem_mem hix.out)).below HB.out)
      have HOY := hid ((HY.out.1 _ (List.getElem_mem hiy.out)).below HB.out)
      have HEE : Hid ((xs[i]'hix.out).e = (ys[i]'hiy.out).e) := by
        have h1 : (xs.map (·.e))[i]? = (ys.map (·.e))[i]? := by rw [HE.out]
        rw [List.getElem?_map, List.getElem?_map, List.getElem?_eq_getElem hix.out, List.getElem?_eq_getElem hiy.out] at h1
        exact Option.some.inj h1
      obtain ⟨X, HXX⟩ : ∃ X, Hid (xs[i]'hix.out = X) := ⟨_, hid rfl⟩
      obtain ⟨Y, HYY⟩ : ∃ Y, Hid (ys[i]'hiy.out = Y) := ⟨_, hid rfl⟩
      rw [HXX.out] at e0 e1 e2 e3 e4 e5 e6 e7 HOX
      rw [HYY.out] at r0 r1 r2 r3 r4 r5 r6 r7 HOY
      rw [HXX.out, HYY.out] at HEE
      have HSE : Hid (∀ V, Sc wr V → Calls Tryz.prog 26 #[X.val, Y.val] V fun e w' => e = .returned (.bool true) ∧ Sc wr w') := fun V hV => by
        have h1 := sameEv_any V X Y (HOX.out.below hV.out) (HOY.out.below hV.out)
        rw [decide_eq_true HEE.out] at h1
        exact h1.mono fun e w' ⟨h2, h3⟩ => ⟨h2, hV.go h3⟩
      clear HXX HYY HOX HOY HEE
      obtain ⟨⟨o1, s1, d1, c1, p1, k1, q1, b1⟩, ao1, cap1⟩ := X
      obtain ⟨⟨o2, s2, d2, c2, p2, k2, q2, b2⟩, ao2, cap2⟩ := Y
      simp only [EvM.val] at e0 e1 e2 e3 e4 e5 e6 e7 r0 r1 r2 r3 r4 r5 r6 r7 HSE
      obtain ⟨n1, HN1⟩ : ∃ n, Hid (d1.length = n) := ⟨_, hid rfl⟩
      obtain ⟨n2, HN2⟩ : ∃ n, Hid (d2.length = n) := ⟨_, hid rfl⟩
      rw [HN1.out] at e2
      rw [HN2.out] at r2
      rw [HN1.out, HN2.out] at HSE
      have HSA : Hid (∀ V, Sc wr V → (Sc wr V ∧ V.cell? ⟨g1, f1 + i * 8, none⟩ = some (.int .i64 o1) ∧ V.cell? ⟨g1, f1 + i * 8 + 1, none⟩ = some (.int .i64 s1) ∧ V.cell? ⟨g1, f1 + i * 8 + 2, none⟩ = some (.slice ao1 n1 cap1) ∧ V.cell? ⟨g1, f1 + i * 8 + 3, none⟩ = some (.string c1) ∧ V.cell? ⟨g1, f1 + i * 8 + 4, none⟩ = some (.int .i64 p1) ∧ V.cell? ⟨g1, f1 + i * 8 + 5, none⟩ = some (.string k1) ∧ V.cell? ⟨g1, f1 + i * 8 + 6, none⟩ = some (.int .i64 q1) ∧ V.cell? ⟨g1, f1 + i * 8 + 7, none⟩ = some (.bool b1) ∧ V.cell? ⟨g2, f2 + i * 8, none⟩ = some (.int .i64 o2) ∧ V.cell? ⟨g2, f2 + i * 8 + 1, none⟩ = some (.int .i64 s2) ∧ V.cell? ⟨g2, f2 + i * 8 + 2, none⟩ = some (.slice ao2 n2 cap2) ∧ V.cell? ⟨g2, f2 + i * 8 + 3, none⟩ = some (.string c2) ∧ V.cell? ⟨g2, f2 + i * 8 + 4, none⟩ = some (.int .i64 p2) ∧ V.cell? ⟨g2, f2 + i * 8 + 5, none⟩ = some (.string k2) ∧ V.cell? ⟨g2, f2 + i * 8 + 6, none⟩ = some (.int .i64 q2) ∧ V.cell? ⟨g2, f2 + i * 8 + 7, none⟩ = some (.bool b2))) := fun V hV => ⟨hV, (hV.out.cell (p := ⟨g1, f1 + i * 8, none⟩) HL1.out).trans e0, (hV.out.cell (p := ⟨g1, f1 + i * 8 + 1, none⟩) HL1.out).trans e1, (hV.out.cell (p := ⟨g1, f1 + i * 8 + 2, none⟩) HL1.out).trans e2, (hV.out.cell (p := ⟨g1, f1 + i * 8 + 3, none⟩) HL1.out).trans e3, (hV.out.cell (p := ⟨g1, f1 + i * 8 + 4, none⟩) HL1.out).trans e4, (hV.out.cell (p := ⟨g1, f1 + i * 8 + 5, none⟩) HL1.out).trans e5, (hV.out.cell (p := ⟨g1, f1 + i * 8 + 6, none⟩) HL1.out).trans e6, (hV.out.cell (p := ⟨g1, f1 + i * 8 + 7, none⟩) HL1.out).trans e7, (hV.out.cell (p := ⟨g2, f2 + i * 8, none⟩) HL2.out).trans r0, (hV.out.cell (p := ⟨g2, f2 + i * 8 + 1, none⟩) HL2.out).trans r1, (hV.out.cell (p := ⟨g2, f2 + i * 8 + 2, none⟩) HL2.out).trans r2, (hV.out.cell (p := ⟨g2, f2 + i * 8 + 3, none⟩) HL2.out).trans r3, (hV.out.cell (p := ⟨g2, f2 + i * 8 + 4, none⟩) HL2.out).trans r4, (hV.out.cell (p := ⟨g2, f2 + i * 8 + 5, none⟩) HL2.out).trans r5, (hV.out.cell (p := ⟨g2, f2 + i * 8 + 6, none⟩) HL2.out).trans r6, (hV.out.cell (p := ⟨g2, f2 + i * 8 + 7, none⟩) HL2.out).trans r7⟩
      have hsc0 := Sc.start wr
      go_wp2
      go_region_held3 (fun V => Sc wr V ∧ V.cell? ⟨g1, f1 + i * 8, none⟩ = some (.int .i64 o1) ∧ V.cell? ⟨g1, f1 + i * 8 + 1, none⟩ = some (.int .i64 s1) ∧ V.cell? ⟨g1, f1 + i * 8 + 2, none⟩ = some (.slice ao1 n1 cap1) ∧ V.cell? ⟨g1, f1 + i * 8 + 3, none⟩ = some (.string c1) ∧ V.cell? ⟨g1, f1 + i * 8 + 4, none⟩ = some (.int .i64 p1) ∧ V.cell? ⟨g1, f1 + i * 8 + 5, none⟩ = some (.string k1) ∧ V.cell? ⟨g1, f1 + i * 8 + 6, none⟩ = some (.int .i64 q1) ∧ V.cell? ⟨g1, f1 + i * 8 + 7, none⟩ = some (.bool b1) ∧ V.cell? ⟨g2, f2 + i * 8, none⟩ = some (.int .i64 o2) ∧ V.cell? ⟨g2, f2 + i * 8 + 1, none⟩ = some (.int .i64 s2) ∧ V.cell? ⟨g2, f2 + i * 8 + 2, none⟩ = some (.slice ao2 n2 cap2) ∧ V.cell? ⟨g2, f2 + i * 8 + 3, none⟩ = some (.string c2) ∧ V.cell? ⟨g2, f2 + i * 8 + 4, none⟩ = some (.int .i64 p2) ∧ V.cell? ⟨g2, f2 + i * 8 + 5, none⟩ = some (.string k2) ∧ V.cell? ⟨g2, f2 + i * 8 + 6, none⟩ = some (.int .i64 q2) ∧ V.cell? ⟨g2, f2 + i * 8 + 7, none⟩ = some (.bool b2)) (first | (refine ⟨?_, ?_, ?_, ?_, ?_, ?_, ?_, ?_, ?_, ?_, ?_, ?_, ?_, ?_, ?_, ?_, ?_⟩ <;> assumption) | (refine HSA.out _ ?_; (repeat (first | assumption | exact Sc.start _ | apply Sc.dr | apply Sc.alloc))))
        ((go_at_call 26; with_reducible refine (HSE.out _ (by (repeat (first | assumption | exact Sc.start _ | apply Sc.dr | apply Sc.alloc)))).mono ?_; rintro e w5 ⟨rfl, hs5⟩; have HS5 := hid hs5))
      all_goals
        go_wp2
        go_roundw
        case rel => exact ⟨i + 1, HIM.out, by go_num, bt HB.out HS5.out.out⟩
        case measure => simp [intOf]; have := HIM.out; omega
    · have hlt' : ¬ (i : Int) < (n : Int) := by omega
      go_wp2
      go_ret
      exact ⟨rfl, HB.out⟩

end Go.Proofs.YtjlompnjhmbhhaaGreat
/-
  OplogDoes: rounds of the law's looks (generated by genolu.py).
-/
namespace Go.Proofs.YtjlompnjhmbhhaaGreat
open Go.RowKit Go.Shelf Go.Maps

/-- Between two items. -/
structure RnL (X : World) (ib l : Nat) (pr : List EvM) (V : World) : Prop where
  ibx : Boxed V ib 3 (.int .i64 ((pr.length : Nat) : Int))
  kp : KpJ ib l X V
theorem rnL_own (X : World) (ib l : Nat) : OwnFrom X.heap.size (RnL X ib l) := by
  rintro pr V V' row h hg hr
  exact ⟨boxed_own h.ibx hg (fun r e => (hr r e).2), Turns.grown h.kp hg (fun j e => .inr (hr j e).1)⟩
/-- Between two rounds. -/
structure LkL (w V : World) (ab sb rb rnb r : Nat) (o s : Int) (so : Option Addr) (M sc : Nat) (S : List EvM) (Ds : List Nat) : Prop where
  bel : Below w.heap.size w V
  res : Boxed V rb 4 (.bool false)
  abx : Blk V ab 25 [.int .i64 o, .int .i64 s]
  sbx : Boxed V sb 22 (.slice so M sc)
  row : HeldE V so S
  rdx : Boxed V rnb 3 (.int .i64 (r : Int))
  mks : Marks w.heap.size Ds V
  rl : w.heap.size ≤ rb
  nl : w.heap.size ≤ rnb
  le : r ≤ 2
section
variable {w V V' : World} {ab sb rb rnb r : Nat} {o s : Int} {so : Option Addr} {M sc : Nat} {S : List EvM} {Ds : List Nat}
theorem LkL.below (h : LkL w V ab sb rb rnb r o s so M sc S Ds) (hb : Below V.heap.size V V') : LkL w V' ab sb rb rnb r o s so M sc S Ds :=
  ⟨bt h.bel hb, (hb.block _ h.res.lt).trans h.res, h.abx.below hb h.abx.lt, (hb.block _ h.sbx.lt).trans h.sbx, h.row.below hb, (hb.block _ h.rdx.lt).trans h.rdx, h.mks.below hb, h.rl, h.nl, h.le⟩
/-- The next round has a number of its own. -/
theorem LkL.next {U W : World} (h : LkL w U ab sb rb rnb r o s so M sc S Ds) (hr : r < 2) {D : Nat} (hD : w.heap.size ≤ D) (hDef : U.heap[D]? = some (.deferred (some []))) (hnot : D ∉ Ds) (hW : W = U.alloc (.cells #[.int .i64 ((r : Int) + 1)] 3)) : LkL w W ab sb rb U.heap.size (r + 1) o s so M sc S (D :: Ds) := by
  have hb : Below U.heap.size U W := by rw [hW]; exact (Below.refl _ _).alloc (Nat.le_refl _) _
  have h1 := h.below hb
  have hm : Marks w.heap.size (D :: Ds) W := h1.mks.push hD ((hb.block D (Array.getElem?_eq_some_iff.1 hDef).1).trans hDef) hnot
  refine ⟨h1.bel, h1.res, h1.abx, h1.sbx, h1.row, ?_, hm, h1.rl, h.bel.size, by omega⟩
  have := Boxed.new U 3 (.int .i64 ((r : Int) + 1))
  rw [hW, show (((r + 1 : Nat)) : Int) = (r : Int) + 1 by omega]
  exact this
end
theorem arr136 (A : Array Value) (h : A.size = 136) : A = ((List.range 136).map (fun i => A.getD i undef)).toArray := by
  apply Array.ext
  · simp [h]
  · intro i h1 h2
    simp [h1]
theorem arr136L (A : Array Value) (h : A.size = 136) : A = #[A.getD 0 undef, A.getD 1 undef, A.getD 2 undef, A.getD 3 undef, A.getD 4 undef, A.getD 5 undef, A.getD 6 undef, A.getD 7 undef, A.getD 8 undef, A.getD 9 undef, A.getD 10 undef, A.getD 11 undef, A.getD 12 undef, A.getD 13 undef, A.getD 14 undef, A.getD 15 undef, A.getD 16 undef, A.getD 17 undef, A.getD 18 undef, A.getD 19 undef, A.getD 20 undef, A.getD 21 undef, A.getD 22 undef, A.getD 23 undef, A.getD 24 undef, A.getD 25 undef, A.getD 26 undef, A.getD 27 undef, A.getD 28 undef, A.getD 29 undef, A.getD 30 undef, A.getD 31 undef, A.getD 32 undef, A.getD 33 undef, A.getD 34 undef, A.getD 35 undef, A.getD 36 undef, A.getD 37 undef, A.getD 38 undef, A.getD 39 undef, A.getD 40 undef, A.getD 41 undef, A.getD 42 undef, A.getD 43 undef, A.getD 44 undef, A.getD 45 undef, A.getD 46 undef, A.getD 47 undef, A.getD 48 undef, A.getD 49 undef, A.getD 50 undef, A.getD 51 undef, A.getD 52 undef, A.getD 53 undef, A.getD 54 undef, A.getD 55 undef, A.getD 56 undef, A.getD 57 undef, A.getD 58 undef, A.getD 59 undef, A.getD 60 undef, A.getD 61 undef, A.getD 62 undef, A.getD 63 undef, A.getD 64 undef, A.getD 65 undef, A.getD 66 undef, A.getD 67 undef, A.getD 68 undef, A.getD 69 undef, A.getD 70 undef, A.getD 71 undef, A.getD 72 undef, A.getD 73 undef, A.getD 74 undef, A.getD 75 undef, A.getD 76 undef, A.getD 77 undef, A.getD 78 undef, A.getD 79 undef, A.getD 80 undef, A.getD 81 undef, A.getD 82 undef, A.getD 83 undef, A.getD 84 undef, A.getD 85 undef, A.getD 86 undef, A.getD 87 undef, A.getD 88 undef, A.getD 89 undef, A.getD 90 undef, A.getD 91 undef, A.getD 92 undef, A.getD 93 undef, A.getD 94 undef, A.getD 95 undef, A.getD 96 undef, A.getD 97 undef, A.getD 98 undef, A.getD 99 undef, A.getD 100 undef, A.getD 101 undef, A.getD 102 undef, A.getD 103 undef, A.getD 104 undef, A.getD 105 undef, A.getD 106 undef, A.getD 107 undef, A.getD 108 undef, A.getD 109 undef, A.getD 110 undef, A.getD 111 undef, A.getD 112 undef, A.getD 113 undef, A.getD 114 undef, A.getD 115 undef, A.getD 116 undef, A.getD 117 undef, A.getD 118 undef, A.getD 119 undef, A.getD 120 undef, A.getD 121 undef, A.getD 122 undef, A.getD 123 undef, A.getD 124 undef, A.getD 125 undef, A.getD 126 undef, A.getD 127 undef, A.getD 128 undef, A.getD 129 undef, A.getD 130 undef, A.getD 131 undef, A.getD 132 undef, A.getD 133 undef, A.getD 134 undef, A.getD 135 undef] := (arr136 A h).trans rfl
def LoI (w : World) (p x ab sb rb : Nat) (o s : Int) (so : Option Addr) (M sc : Nat) (S : List EvM) (a : Act) (V : World) : Prop := ∃ (r : Nat) (Ds : List Nat) (rnb : Nat) (f : Nat → Value),
  a = { tmps := #[.pointer (some ⟨p, 0, none⟩), .pointer (some ⟨x, 0, none⟩), f 2, f 3, f 4, f 5, f 6, f 7, f 8, .pointer (some ⟨ab, 0, none⟩), .pointer (some ⟨rb, 0, none⟩), f 11, f 12, .pointer (some ⟨sb, 0, none⟩), .pointer (some ⟨rnb, 0, none⟩), f 15, f 16, f 17, f 18, f 19, f 20, f 21, f 22, f 23, f 24, f 25, f 26, f 27, f 28, f 29, f 30, f 31, f 32, f 33, f 34, f 35, f 36, f 37, f 38, f 39, f 40, f 41, f 42, f 43, f 44, f 45, f 46, f 47, f 48, f 49, f 50, f 51, f 52, f 53, f 54, f 55, f 56, f 57, f 58, f 59, f 60, f 61, f 62, f 63, f 64, f 65, f 66, f 67, f 68, f 69, f 70, f 71, f 72, f 73, f 74, f 75, f 76, f 77, f 78, f 79, f 80, f 81, f 82, f 83, f 84, f 85, f 86, f 87, f 88, f 89, f 90, f 91, f 92, f 93, f 94, f 95, f 96, f 97, f 98, f 99, f 100, f 101, f 102, f 103, f 104, f 105, f 106, f 107, f 108, f 109, f 110, f 111, f 112, f 113, f 114, f 115, f 116, f 117, f 118, f 119, f 120, f 121, f 122, f 123, f 124, f 125, f 126, f 127, f 128, f 129, f 130, f 131, f 132, f 133, f 134, f 135], defers := Ds.map markD } ∧ LkL w V ab sb rb rnb r o s so M sc S Ds
theorem loI_of {w : World} {p x ab sb rb : Nat} {o s : Int} {so : Option Addr} {M sc : Nat} {S : List EvM} {a : Act} {V : World} {r : Nat} {Ds : List Nat} {rnb : Nat} (hsz : a.tmps.size = 136) (h0 : a.tmps.getD 0 undef = .pointer (some ⟨p, 0, none⟩)) (h1 : a.tmps.getD 1 undef = .pointer (some ⟨x, 0, none⟩)) (h9 : a.tmps.getD 9 undef = .pointer (some ⟨ab, 0, none⟩)) (h10 : a.tmps.getD 10 undef = .pointer (some ⟨rb, 0, none⟩)) (h13 : a.tmps.getD 13 undef = .pointer (some ⟨sb, 0, none⟩)) (h14 : a.tmps.getD 14 undef = .pointer (some ⟨rnb, 0, none⟩)) (hd : a.defers = Ds.map markD) (h : LkL w V ab sb rb rnb r o s so M sc S Ds) : LoI w p x ab sb rb o s so M sc S a V := by
  refine ⟨r, Ds, rnb, fun i => a.tmps.getD i undef, ?_, h⟩
  obtain ⟨A, d⟩ := a
  simp only at hsz h0 h1 h9 h10 h13 h14 hd
  subst hd
  have e := arr136L A hsz
  rw [h0, h1, h9, h10, h13, h14] at e
  exact congrArg (fun T => ({ tmps := T, defers := Ds.map markD } : Act)) e
def LoMu (a : Act) (V : World) : Nat := 2 - (match a.tmps.getD 14 undef with
  | .pointer (some q) => (match V.cell? q with
    | some u => (intOf u).toNat
    | none => 0)
  | _ => 0)
theorem loMu_eq {a : Act} {V : World} {rnb r : Nat} (h : Boxed V rnb 3 (.int .i64 (r : Int))) (ht : a.tmps.getD 14 undef = .pointer (some ⟨rnb, 0, none⟩)) : LoMu a V = 2 - r := by
  unfold LoMu
  rw [ht]
  simp only [h.cell]
  simp [intOf]
theorem pre_at {pr : List EvM} {y : Ev} {S : List EvM} (h : pr.map (·.e) ++ [y] <+: evs S) : ∃ hc : pr.length < S.length, (S[pr.length]'hc).e = y := by
  obtain ⟨t, ht⟩ := h
  have hl : pr.length < S.length := by
    have := congrArg List.length ht
    rw [evs_len] at this
    simp at this
    omega
  refine ⟨hl, ?_⟩
  have e1 : (evs S)[pr.length]? = some y := by
    rw [← ht, List.append_assoc, List.getElem?_append_right (by simp)]
    simp
  unfold evs at e1
  rw [List.getElem?_map, List.getElem?_eq_getElem hl] at e1
  simpa using e1
theorem neq_dotO (W : World) (a b : Int) : (binOp .neq 25 (.agg #[.int .i64 a, .int .i64 b]) (.agg #[.int .i64 a, .int .i64 b])).run Tryz.prog W = .ok (.bool false) W := by
  simp [go_sem]
end Go.Proofs.YtjlompnjhmbhhaaGreat
