/-
  Package oplog: Waiting, Applied, All.
-/
import Derived.Test.YtfeoolknpcffcaaLogJb
namespace Go.Proofs.Ytfeoolknpcffcaa
open Go.RowKit Go.Maps

/-- The dots that wait, in order. -/
def WaitsOf (g : Lg) (ss : List (Int × Int)) : Prop := ss.Nodup ∧ (∀ o s, (o, s) ∈ ss ↔ (g.W o s).isSome = true) ∧ ss.Pairwise (fun x y => cmpD x y < 0)
def WaitP (w : World) (g : Lg) (e : Ending) (w' : World) : Prop := ∃ v ss, e = .returned v ∧ WaitsOf g ss ∧ ss.length ≤ 4096 ∧ w'.ownsRow w.heap.size 31 2 v ss.length (flatD ss) ∧ Below w.heap.size w w'
theorem waiting_nil (w : World) : Calls Try.prog 19 #[.pointer none] w fun e w' => e = .returned (.slice none 0 0) ∧ w' = w := by
  go_enter Try.func19, Try.ntmps19
  go_wp2_with fail
  refine (closedL_nil _).mono ?_
  rintro e w' ⟨rfl, rfl⟩
  go_wp2
  go_ret
  exact ⟨rfl, rfl⟩
theorem waiting_any {w : World} {p me mw : Nat} {g : Lg} (h : LogAt w p me mw g) : Calls Try.prog 19 #[.pointer (some ⟨p, 0, none⟩)] w (WaitP w g) := by
  obtain ⟨ao, cap, _, _, _, c2⟩ := h.cells
  obtain ⟨D, hD⟩ := h.wm
  have HD := hid hD
  have HFW := hid h.fewW
  have HB : Hid (Below w.heap.size w (w.alloc (.cells #[.map (some mw)] 54))) := (Below.refl _ _).alloc (Nat.le_refl _) _
  have HS := hid (sortedLog (w.alloc (.cells #[.map (some mw)] 54)) w.heap.size mw g.nw D (Boxed.new w 54 _).cell (hD.map.alloc _) (by have := hD.cnt; have := h.fewW; omega))
  have HCL := hid (closedL_no h)
  clear h hD
  go_enter Try.func19, Try.ntmps19
  go_wp2_with fail
  refine HCL.out.mono ?_
  rintro e w' ⟨rfl, rfl⟩
  go_wp2_with fail
  refine (keysLog_any _ _).mono ?_
  rintro e w1 ⟨rfl, rfl⟩
  go_wp2_with fail
  refine HS.out.mono ?_
  rintro e w2 ⟨v, ss, rfl, h1, h2, h3, h4⟩
  have H1 := hid h1
  have H2 : Hid (ss.length ≤ 4096) := by have := HD.out.cnt; have := HFW.out; show _ ≤ _; omega
  have H3 : Hid (w2.ownsRow w'.heap.size 31 2 v ss.length (flatD ss)) := own_mono h3 HB.out.size
  have H4 := hid (bt HB.out h4)
  clear h1 h2 h3 h4
  go_wp2
  go_ret
  refine ⟨v, ss, rfl, ⟨H1.out.1.1, fun o s => ?_, H1.out.2⟩, H2.out, H3.out, H4.out⟩
  rw [H1.out.1.2]
  constructor
  · rintro ⟨ho, hs, hl⟩
    rw [HD.out.key o s ho hs] at hl
    simpa using hl
  · intro hl
    obtain ⟨x, hx⟩ := Option.isSome_iff_exists.1 hl
    obtain ⟨hk, h5, h6⟩ := HD.out.ok o s x hx
    have ho : I64 o := h5 ▸ hk.ok.io
    have hs : I64 s := h6 ▸ hk.ok.is
    refine ⟨ho, hs, ?_⟩
    rw [HD.out.key o s ho hs]
    simpa using hl
theorem applied_nil (w : World) : Calls Try.prog 15 #[.pointer none] w fun e w' => e = .returned (.slice none 0 0) ∧ w' = w := by
  go_enter Try.func15, Try.ntmps15
  go_wp2_with fail
  refine (closedL_nil _).mono ?_
  rintro e w' ⟨rfl, rfl⟩
  go_wp2
  go_ret
  exact ⟨rfl, rfl⟩
theorem applied_any {w : World} {p me mw : Nat} {g : Lg} (h : LogAt w p me mw g) : Calls Try.prog 15 #[.pointer (some ⟨p, 0, none⟩)] w (AnsV w (plainOf g.A)) := by
  obtain ⟨ao, cap, hv, c0, _, _⟩ := h.cells
  have HP := hid (plain_any w ao cap g.A g.A.length rfl hv)
  have HCL := hid (closedL_no h)
  obtain ⟨L, HL⟩ : ∃ L, Hid (g.A.length = L) := ⟨_, hid rfl⟩
  rw [HL.out] at c0 HP
  clear h hv
  go_enter Try.func15, Try.ntmps15
  go_wp2_with fail
  refine HCL.out.mono ?_
  rintro e w' ⟨rfl, rfl⟩
  go_wp2_with fail
  refine HP.out.mono ?_
  rintro e w1 ⟨bo, cp, rfl, h1, h2⟩
  have H1 := hid h1
  have H2 := hid h2
  obtain ⟨M, HM⟩ : ∃ L, Hid ((plainOf g.A).length = L) := ⟨_, hid rfl⟩
  rw [HM.out]
  clear h1 h2
  go_wp2
  go_ret
  exact ⟨bo, cp, by rw [HM.out]; rfl, H1.out, H2.out⟩
theorem all_any (w : World) (q : Option Addr) : Calls Try.prog 16 #[.pointer q] w fun e w' => e = .returned (.func (.func 48) #[] #[.pointer (some ⟨w.heap.size, 0, none⟩), .pointer (some ⟨w.heap.size + 1, 0, none⟩)]) ∧ w' = (w.alloc (.cells #[.pointer q] 23)).alloc (.cells #[.slice none 0 0] 26) := by
  have HS : Hid (Calls Try.prog 34 #[.pointer q, .slice none 0 0] w fun e w' => e = .returned (.func (.func 48) #[] #[.pointer (some ⟨w.heap.size, 0, none⟩), .pointer (some ⟨w.heap.size + 1, 0, none⟩)]) ∧ w' = (w.alloc (.cells #[.pointer q] 23)).alloc (.cells #[.slice none 0 0] 26)) := by
    show Calls _ _ _ _ _
    go_enter Try.func34, Try.ntmps34
    go_wp2
    go_ret
    exact ⟨rfl, rfl⟩
  go_enter Try.func16, Try.ntmps16
  go_wp2_with fail
  refine HS.out.mono ?_
  rintro e w' ⟨rfl, rfl⟩
  go_wp2
  go_ret
  exact ⟨rfl, rfl⟩
end Go.Proofs.Ytfeoolknpcffcaa
/-
  The law's lives (oplog): what must come of every program.
-/
namespace Go.Proofs.Ytfeoolknpcffcaa
open Go.RowKit Go.Maps

def bC : ByteArray := { data := #[99] }
def bS : ByteArray := { data := #[115] }
def lvB : Ev := ⟨0, 2, [1], bC, 0, bS, 1, false⟩
def lvA : Ev := ⟨0, 1, [], bC, 0, bS, 1, false⟩
theorem mayB : MayE lvB := by decide +kernel
theorem mayA : MayE lvA := by decide +kernel
theorem putB {w w' : World} {p me mw : Nat} {e : Ending} (h : PutP w p me mw emptyLg lvB e w') : ∃ y : EvM, y.e = lvB ∧ e = .returned (.tuple #[.slice none 0 0, .int .i64 0]) ∧ AtG w p me mw (waitG emptyLg y) w' := by
  have hr : ¬ ReadyE emptyLg.A lvB := by decide +kernel
  have hh : ¬ HasV emptyLg.A lvB.o lvB.s := by decide +kernel
  cases h with
  | wrong h1 _ => exact absurd mayB h1
  | twice _ h1 _ =>
    rcases h1 with h1 | h1
    · cases h1
    · exact absurd h1 hh
  | full _ _ _ h1 _ =>
    rcases h1 with h1 | ⟨_, h1⟩
    · exact absurd h1 (by decide)
    · exact absurd h1 (by decide)
  | goes _ _ _ _ h1 => exact absurd h1 hr
  | waits _ _ _ _ _ _ h1 h2 => exact ⟨_, h1, rfl, h2⟩
/-- The log in which b waits. -/
theorem putA {w w' : World} {p me mw : Nat} {e : Ending} {y : EvM} (hy : y.e = lvB) (h : PutP w p me mw (waitG emptyLg y) lvA e w') : ∃ v ys g', e = .returned (.tuple #[v, .int .i64 0]) ∧ RowE w.heap.size w' v ys ∧ ys.map (·.e) = [lvA, lvB] ∧ g'.A = [2] ∧ AtG w p me mw g' w' := by
  have hW : ∀ o s, (waitG emptyLg y).W o s = if o = 0 ∧ s = 2 then some y else none := fun o s => by
    show updD _ y.e.o y.e.s (some y) o s = _
    rw [hy]
    rfl
  have hr : ReadyE (waitG emptyLg y).A lvA := (by decide +kernel : ReadyE [] lvA)
  have hh : ¬ HasV (waitG emptyLg y).A lvA.o lvA.s := (by decide +kernel : ¬ HasV [] 0 1)
  have hw : (waitG emptyLg y).W lvA.o lvA.s = none := by rw [hW, if_neg (by decide)]
  cases h with
  | wrong h1 _ => exact absurd mayA h1
  | twice _ h1 _ =>
    rcases h1 with h1 | h1
    · rw [hw] at h1
      cases h1
    · exact absurd h1 hh
  | full _ _ _ h1 _ =>
    rcases h1 with h1 | ⟨h1, _⟩
    · exact absurd h1 (by show ¬ 65536 ≤ 0; decide)
    · exact absurd hr h1
  | waits _ _ _ _ h1 => exact absurd hr h1
  | goes _ _ _ _ _ h1 h2 h3 h4 h5 =>
    obtain ⟨r, hr'⟩ := h2
    have hwt := h3.waited
    have hnw := h3.nw
    have hst := h4
    have hA := h3.A
    have hne := h3.ne
    have hWW := h3.W
    rw [hr'] at hwt hnw hA hne hWW
    have hrl : r.length ≤ 1 := by
      have h6 : (waitG emptyLg y).nw = 1 := rfl
      rw [h6, List.length_cons] at hnw
      omega
    have hall : ∀ e ∈ r, e = lvB := fun e he => by
      obtain ⟨x, hx, rfl⟩ := hwt e he
      rw [hW] at hx
      split at hx
      · cases hx
        exact hy
      · cases hx
    cases r with
    | nil =>
      exfalso
      rename_i g'
      have h6 : (waitG emptyLg y).ne = 0 := rfl
      rw [h6] at hne
      rcases hst with hst | hst
      · rw [hne] at hst
        exact absurd hst (by decide)
      · refine hst 0 2 y ?_ ?_
        · rw [hWW, if_neg (by decide +kernel), hW, if_pos ⟨rfl, rfl⟩]
        · rw [hA, hy]
          exact (by decide +kernel : ReadyE (addL [] [lvA]) lvB)
    | cons e r2 =>
      have he := hall e (List.mem_cons_self ..)
      cases r2 with
      | cons _ _ =>
        simp at hrl
      | nil =>
        subst he
        refine ⟨_, _, _, rfl, h1, hr', ?_, h5⟩
        rw [hA]
        exact (by decide +kernel : addL [] [lvA, lvB] = [2])
theorem putA2 {w w' : World} {p me mw : Nat} {e : Ending} {g : Lg} (hA : g.A = [2]) (h : PutP w p me mw g lvA e w') : e = .returned (.tuple #[.slice none 0 0, .int .i64 5]) ∧ Below w.heap.size w w' := by
  have hh : HasV g.A lvA.o lvA.s := by rw [hA]; decide +kernel
  cases h with
  | wrong h1 _ => exact absurd mayA h1
  | twice _ _ h1 => exact ⟨rfl, h1⟩
  | full _ _ h1 _ _ => exact absurd hh h1
  | goes _ _ h1 => exact absurd hh h1
  | waits _ _ h1 => exact absurd hh h1
theorem waitsB {y : EvM} (hy : y.e = lvB) {ss : List (Int × Int)} (h : WaitsOf (waitG emptyLg y) ss) : ss = [(0, 2)] := by
  have hW : ∀ o s, (waitG emptyLg y).W o s = if o = 0 ∧ s = 2 then some y else none := fun o s => by
    show updD _ y.e.o y.e.s (some y) o s = _
    rw [hy]
    rfl
  have hm : ∀ d, d ∈ ss ↔ d = (0, 2) := fun ⟨o, s⟩ => by
    rw [h.2.1, hW]
    simp only [Prod.mk.injEq]
    split
    · next hc => simp [hc]
    · next hc => simp; omega
  cases ss with
  | nil => exact absurd ((hm (0, 2)).2 rfl) (by simp)
  | cons d r =>
    have h1 := (hm d).1 (List.mem_cons_self ..)
    subst h1
    cases r with
    | nil => rfl
    | cons e r2 =>
      have h2 := (hm e).1 (by simp)
      have h3 := h.1
      rw [h2] at h3
      simp at h3
end Go.Proofs.Ytfeoolknpcffcaa
/-
  The law's lives (oplog), walked.
-/
namespace Go.Proofs.Ytfeoolknpcffcaa
open Go.RowKit Go.Maps

theorem hv_oneL (w : World) : HV (w.alloc (.cells #[.int .i64 1] 3)) (some ⟨w.heap.size, 0, none⟩) 1 [1] := by
  have hb := Blk.new w 3 [.int .i64 1]
  refine ⟨⟨fun x hx => ?_, .inr ⟨_, 0, rfl, hb.lt, fun j hj => ?_⟩⟩, by decide, by decide⟩
  · simp at hx
    subst hx
    decide
  · obtain rfl : j = 0 := by simp at hj; omega
    exact hb.cell rfl
theorem itL_eql (a b : Nat) (W : World) : (binOp .eql 40 (.func (.func 48) #[] #[.pointer (some ⟨a, 0, none⟩), .pointer (some ⟨b, 0, none⟩)]) .nilFunc).run Try.prog W = .ok (.bool false) W := by kernel_rfl
theorem row_ev {B : Nat} {w : World} {v : Value} {ys : List EvM} (h : w.ownsRow B 33 8 v ys.length (flatE ys)) (hp : 0 < ys.length) : ∃ g cap, v = .slice (some ⟨g, 0, none⟩) ys.length cap ∧ g < w.heap.size ∧ ∀ j (hj : j < ys.length) c u, ys[j].cells[c]? = some u → w.cell? ⟨g, j * 8 + c, none⟩ = some u := by
  obtain ⟨eo, cap, rfl, _, hc⟩ := own_form8 h
  obtain ⟨g, rfl, _, hg, hcell⟩ := hc hp
  exact ⟨g, cap, rfl, hg, fun j hj c u hu => hcell _ _ (flatE_get ys j hj c u hu)⟩
set_option maxRecDepth 1000000 in
set_option maxHeartbeats 8000000 in
theorem lives10_any (w : World) : Calls Try.prog 9 #[] w fun e w' => e = .returned (.bool true) ∧ Below w.heap.size w w' := by
  have hit := fun W a b => itL_eql a b W
  go_enter Try.func9, Try.ntmps9
  go_wp2_with fail
  refine (newL_any w).mono ?_
  rintro e w1 ⟨p, me, mw, rfl, hl, hf, hb⟩
  have HL1 := hid hl
  have HF1 := hid hf
  have HB1 := hid hb
  clear hl hf hb
  go_wp2_with fail
  refine (all_any w1 _).mono ?_
  rintro e w2 ⟨rfl, hw2⟩
  have HB2 : Hid (Below w1.heap.size w1 w2) := by rw [hw2]; exact ((Below.refl _ _).alloc (Nat.le_refl _) _).alloc (by simp) _
  clear hw2
  have HL2 := hid (HL1.out.below HB2.out)
  obtain ⟨W3, hW3⟩ : ∃ W, W = w2.alloc (.cells #[.int .i64 1] 3) := ⟨_, rfl⟩
  obtain ⟨W4, hW4⟩ : ∃ W, W = W3.alloc (.cells #[.int .i64 0, .int .i64 2, .slice (some ⟨w2.heap.size, 0, none⟩) 1 1, .string bC, .int .i64 0, .string bS, .int .i64 1, .bool false] 33) := ⟨_, rfl⟩
  obtain ⟨W5, hW5⟩ : ∃ W, W = W4.alloc (.cells #[.int .i64 0, .int .i64 1, .slice none 0 0, .string bC, .int .i64 0, .string bS, .int .i64 1, .bool false] 33) := ⟨_, rfl⟩
  have hs3 : W3.heap.size = w2.heap.size + 1 := by rw [hW3]; simp
  have hs4 : W4.heap.size = w2.heap.size + 1 + 1 := by rw [hW4, World.size_alloc, hs3]
  have hb3 : Below w2.heap.size w2 W3 := by rw [hW3]; exact (Below.refl _ _).alloc (Nat.le_refl _) _
  have hb4 : Below W3.heap.size W3 W4 := by rw [hW4]; exact (Below.refl _ _).alloc (Nat.le_refl _) _
  have hb5 : Below W4.heap.size W4 W5 := by rw [hW5]; exact (Below.refl _ _).alloc (Nat.le_refl _) _
  have HB5 : Hid (Below w2.heap.size w2 W5) := bt (bt hb3 hb4) hb5
  have HL5 := hid (HL2.out.below HB5.out)
  have HV5 : Hid (HV W5 (some ⟨w2.heap.size, 0, none⟩) 1 [1]) := (by rw [hW3]; exact hv_oneL w2 : HV W3 (some ⟨w2.heap.size, 0, none⟩) 1 [1]).below (bt hb4 hb5)
  have HKB : Hid (Blk W5 (w2.heap.size + 1) 33 [.int .i64 0, .int .i64 2, .slice (some ⟨w2.heap.size, 0, none⟩) 1 1, .string bC, .int .i64 0, .string bS, .int .i64 1, .bool false]) := by
    have := Blk.new W3 33 [.int .i64 0, .int .i64 2, .slice (some ⟨w2.heap.size, 0, none⟩) 1 1, .string bC, .int .i64 0, .string bS, .int .i64 1, .bool false]
    rw [hs3] at this
    rw [hW5, hW4]
    exact this.alloc _
  have HKA : Hid (Blk W5 (w2.heap.size + 1 + 1) 33 [.int .i64 0, .int .i64 1, .slice none 0 0, .string bC, .int .i64 0, .string bS, .int .i64 1, .bool false]) := by
    have := Blk.new W4 33 [.int .i64 0, .int .i64 1, .slice none 0 0, .string bC, .int .i64 0, .string bS, .int .i64 1, .bool false]
    rw [hs4] at this
    rw [hW5]
    exact this
  have HW : Hid (W5 = ((w2.alloc (.cells #[.int .i64 1] 3)).alloc (.cells #[.int .i64 0, .int .i64 2, .slice (some ⟨w2.heap.size, 0, none⟩) 1 1, .string bC, .int .i64 0, .string bS, .int .i64 1, .bool false] 33)).alloc (.cells #[.int .i64 0, .int .i64 1, .slice none 0 0, .string bC, .int .i64 0, .string bS, .int .i64 1, .bool false] 33)) := by show _ = _; rw [hW5, hW4, hW3]
  have HXB : Hid (EvOk W5 ⟨lvB, some ⟨w2.heap.size, 0, none⟩, 1⟩) := ⟨HV5.out, (by unfold I64; decide : I64 lvB.o), (by unfold I64; decide : I64 lvB.s), (by unfold I64; decide : I64 lvB.epoch), (by unfold I64; decide : I64 lvB.qty), (by decide : lvB.cart.size ≤ maxLen), (by decide : lvB.sku.size ≤ maxLen)⟩
  have HXA : Hid (∀ V, EvOk V ⟨lvA, none, 0⟩) := fun V => ⟨hv_none _ 0, (by unfold I64; decide : I64 lvA.o), (by unfold I64; decide : I64 lvA.s), (by unfold I64; decide : I64 lvA.epoch), (by unfold I64; decide : I64 lvA.qty), (by decide : lvA.cart.size ≤ maxLen), (by decide : lvA.sku.size ≤ maxLen)⟩
  have HP1 := hid (put_any HL5.out ⟨lvB, some ⟨w2.heap.size, 0, none⟩, 1⟩ HXB.out)
  clear hW3 hW4 hW5 hs3 hs4 hb3 hb4 hb5
  simp only [EvM.val, lvB, bC, bS, List.length_cons, List.length_nil, Nat.zero_add] at HP1
  simp only [bC, bS] at HW HKA HKB
  go_wp2_with fail
  rw [← HW.out]
  obtain ⟨pB, hpB⟩ : ∃ z, z = w2.heap.size + 1 := ⟨_, rfl⟩
  obtain ⟨pA, hpA⟩ : ∃ z, z = w2.heap.size + 1 + 1 := ⟨_, rfl⟩
  rw [← hpA] at HKA ⊢
  rw [← hpB] at HKB ⊢
  have HNB : Hid (¬ FootL p me mw pB ∧ ¬ FootL p me mw pA) := ⟨fun h => by have := HL2.out.lt pB h; omega, fun h => by have := HL2.out.lt pA h; omega⟩
  have HFW : Hid (∀ i, FootL p me mw i → w.heap.size ≤ i) := HF1.out
  clear hpA hpB hit
  refine HP1.out.mono ?_
  intro e w6 h6
  obtain ⟨y, hy, rfl, hl6, ht6⟩ := putB h6
  have HY := hid hy
  have HL6 := hid hl6
  have HKB6 := hid (ht6.blk HKB.out HNB.out.1)
  have HKA6 := hid (ht6.blk HKA.out HNB.out.2)
  have HT6 : Hid (Turns (FootL p me mw) W5 w6) := ht6
  clear h6 hy hl6 ht6 HP1
  have HWT := hid (waiting_any HL6.out)
  go_wp2_with fail
  refine HWT.out.mono ?_
  rintro e w7 ⟨v7, ss, rfl, hss, _, hrow7, hb7⟩
  have hse := waitsB HY.out hss
  subst hse
  obtain ⟨eo7, cap7, rfl, _, hc7⟩ := own_form8 hrow7
  obtain ⟨g7, rfl, _, hg7, hcell7⟩ := hc7 (by decide)
  have HC7 : Hid (w7.cell? ⟨g7, 0, none⟩ = some (.int .i64 0) ∧ w7.cell? ⟨g7, 1, none⟩ = some (.int .i64 2)) := ⟨hcell7 0 _ rfl, hcell7 1 _ rfl⟩
  have HG7 := hid hg7
  have HGB : Hid (w6.heap.size ≤ g7) := (hrow7.lt g7 rfl).1
  have HB7 := hid hb7
  have HL7 := hid (HL6.out.below hb7)
  have HKB7 := hid (HKB6.out.below hb7 HKB6.out.lt)
  have HKA7 := hid (HKA6.out.below hb7 HKA6.out.lt)
  clear hss hrow7 hb7 hc7 hcell7 hg7 HWT
  have HP2 := hid (put_any HL7.out ⟨lvA, none, 0⟩ (HXA.out _))
  simp only [EvM.val, lvA, bC, bS, List.length_nil] at HP2
  have t0 := HKA7.out.cell (i := 0) rfl
  have t1 := HKA7.out.cell (i := 1) rfl
  have t2 := HKA7.out.cell (i := 2) rfl
  have t3 := HKA7.out.cell (i := 3) rfl
  have t4 := HKA7.out.cell (i := 4) rfl
  have t5 := HKA7.out.cell (i := 5) rfl
  have t6 := HKA7.out.cell (i := 6) rfl
  have t7 := HKA7.out.cell (i := 7) rfl
  go_wp2_with fail
  refine HP2.out.mono ?_
  intro e w8 h8
  obtain ⟨v8, ys, g8, rfl, hrow8, hys, hA8, hl8, ht8⟩ := putA HY.out h8
  have HL8 := hid hl8
  have HA8 := hid hA8
  have HNF7 : Hid (¬ FootL p me mw g7) := fun h => by have := HL6.out.lt g7 h; have := HGB.out; omega
  have HKB8 := hid (ht8.blk HKB7.out HNB.out.1)
  have HKA8 := hid (ht8.blk HKA7.out HNB.out.2)
  have HC8 : Hid (w8.cell? ⟨g7, 0, none⟩ = some (.int .i64 0) ∧ w8.cell? ⟨g7, 1, none⟩ = some (.int .i64 2)) := by
    have hbk := ht8.block g7 HG7.out HNF7.out
    have h0 := HC7.out.1
    have h1 := HC7.out.2
    simp only [World.cell?] at h0 h1 ⊢
    rw [hbk]
    exact ⟨h0, h1⟩
  have HG8 : Hid (g7 < w8.heap.size) := Nat.lt_of_lt_of_le HG7.out ht8.size
  have HT8 := hid ht8
  have hlen : ys.length = 2 := by have := congrArg List.length hys; simpa using this
  obtain ⟨gr, capr, rfl, hgr, hcr⟩ := row_ev hrow8.row (by omega)
  have hy1 : (ys[1]'(by omega)).e = lvB := by
    have h1 : (ys.map (·.e))[1]? = some lvB := by rw [hys]; rfl
    rw [List.getElem?_map, List.getElem?_eq_getElem (by omega : 1 < ys.length)] at h1
    simpa using h1
  have HR8 : Hid (w8.cell? ⟨gr, 8, none⟩ = some (.int .i64 0) ∧ w8.cell? ⟨gr, 9, none⟩ = some (.int .i64 2)) := by
    have h0 := hcr 1 (by omega) 0 _ rfl
    have h1 := hcr 1 (by omega) 1 _ rfl
    rw [hy1] at h0 h1
    exact ⟨h0, h1⟩
  have HGR := hid hgr
  rw [hlen]
  clear h8 hrow8 hys hA8 hl8 ht8 hgr hcr hy1 hlen HP2 t0 t1 t2 t3 t4 t5 t6 t7
  have HP3 := hid (put_any HL8.out ⟨lvA, none, 0⟩ (HXA.out _))
  simp only [EvM.val, lvA, bC, bS, List.length_nil] at HP3
  have t0 := HKA8.out.cell (i := 0) rfl
  have t1 := HKA8.out.cell (i := 1) rfl
  have t2 := HKA8.out.cell (i := 2) rfl
  have t3 := HKA8.out.cell (i := 3) rfl
  have t4 := HKA8.out.cell (i := 4) rfl
  have t5 := HKA8.out.cell (i := 5) rfl
  have t6 := HKA8.out.cell (i := 6) rfl
  have t7 := HKA8.out.cell (i := 7) rfl
  go_wp2_with fail
  refine HP3.out.mono ?_
  intro e w9 h9
  obtain ⟨rfl, hb9⟩ := putA2 HA8.out h9
  have HL9 := hid (HL8.out.below hb9)
  have HB9 := hid hb9
  have HSA : Hid (∀ V, Sc w9 V → (Sc w9 V ∧ V.cell? ⟨pB, 0, none⟩ = some (.int .i64 0) ∧ V.cell? ⟨pB, 1, none⟩ = some (.int .i64 2) ∧ V.cell? ⟨g7, 0, none⟩ = some (.int .i64 0) ∧ V.cell? ⟨g7, 1, none⟩ = some (.int .i64 2) ∧ V.cell? ⟨gr, 8, none⟩ = some (.int .i64 0) ∧ V.cell? ⟨gr, 9, none⟩ = some (.int .i64 2))) := fun V hV => by
    have h1 := bt HB9.out hV.out
    have hk := HKB8.out.below h1 HKB8.out.lt
    exact ⟨hV, hk.cell rfl, hk.cell rfl, (h1.cell (p := ⟨g7, 0, none⟩) HG8.out).trans HC8.out.1, (h1.cell (p := ⟨g7, 1, none⟩) HG8.out).trans HC8.out.2, (h1.cell (p := ⟨gr, 8, none⟩) HGR.out).trans HR8.out.1, (h1.cell (p := ⟨gr, 9, none⟩) HGR.out).trans HR8.out.2⟩
  have HAP : Hid (∀ V, Sc w9 V → Calls Try.prog 15 #[.pointer (some ⟨p, 0, none⟩)] V fun e w' => ∃ bo cp, e = .returned (.slice bo 1 cp) ∧ Sc w9 w') := fun V hV => by
    refine (applied_any (HL9.out.below hV.out)).mono ?_
    rintro e w' ⟨bo, cp, rfl, _, h2⟩
    rw [HA8.out]
    exact ⟨bo, cp, rfl, hV.go h2⟩
  have HBF : Hid (Below w.heap.size w w9) := by
    have t1 : Turns (FootL p me mw) w W5 := Turns.of_below (bt (bt HB1.out HB2.out) HB5.out) (Nat.le_refl _)
    have t2 := t1.trans HT6.out (fun i hi => .inl hi)
    have t3 := t2.trans (Turns.of_below (F := fun _ => False) HB7.out (Nat.le_refl _)) (fun _ h => h.elim)
    have t4 := t3.trans HT8.out (fun i hi => .inl hi)
    have t5 := t4.trans (Turns.of_below (F := fun _ => False) HB9.out (Nat.le_refl _)) (fun _ h => h.elim)
    exact t5.below HFW.out (Nat.le_refl _)
  clear h9 hb9 HP3 t0 t1 t2 t3 t4 t5 t6 t7
  go_wp2
  go_region_held3 (fun V => Sc w9 V ∧ V.cell? ⟨pB, 0, none⟩ = some (.int .i64 0) ∧ V.cell? ⟨pB, 1, none⟩ = some (.int .i64 2) ∧ V.cell? ⟨g7, 0, none⟩ = some (.int .i64 0) ∧ V.cell? ⟨g7, 1, none⟩ = some (.int .i64 2) ∧ V.cell? ⟨gr, 8, none⟩ = some (.int .i64 0) ∧ V.cell? ⟨gr, 9, none⟩ = some (.int .i64 2))
    (first | (refine ⟨?_, ?_, ?_, ?_, ?_, ?_, ?_⟩ <;> assumption) | (refine HSA.out _ ?_; (repeat (first | assumption | exact Sc.start _ | apply Sc.dr))))
    (first
      | (go_at_call 15; with_reducible refine (HAP.out _ (by (repeat (first | assumption | exact Sc.start _ | apply Sc.dr)))).mono ?_; rintro e w10 ⟨bo, cp, rfl, hs10⟩))
  all_goals
    have HSF := hid (bt HBF.out hs10.out)
    go_wp2
    go_ret
    exact ⟨by simp, HSF.out⟩
end Go.Proofs.Ytfeoolknpcffcaa
