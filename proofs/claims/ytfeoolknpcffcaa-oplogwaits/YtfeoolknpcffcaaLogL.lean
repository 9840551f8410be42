/-
  Package oplog: Waiting, Applied, All.
-/
import Derived.Test.YtfeoolknpcffcaaLogJb
namespace Go.Proofs.Ytfeoolknpcffcaa
open Go.RowKit Go.Maps

/-- The dots that wait, in order. -/
def WaitsOf (g : Lg) (ss : List (Int × Int)) : Prop := ss.Nodup ∧ (∀ o s, (o, s) ∈ ss ↔ (g.W o s).isSome = true) ∧ ss.Pairwise (fun x y => cmpD x y < 0)
def WaitP (w : World) (g : Lg) (e : Ending) (w' : World) : Prop := ∃ v ss, e = .returned v ∧ WaitsOf g ss ∧ ss.length ≤ 4096 ∧ w'.ownsRow w.heap.size 31 2 v ss.length (flatD ss) ∧ Below w.heap.size w w'
theorem waiting_nil (w : World) : Calls Try.prog 19 #[.pointer none] w fun e w' => e = .returned (.slice none 0 0) ∧ w' = w := by
  go_enter Try.func19, Try.ntmps19
  go_wp2_with fail
  refine (closedL_nil _).mono ?_
  rintro e w' ⟨rfl, rfl⟩
  go_wp2
  go_ret
  exact ⟨rfl, rfl⟩
theorem waiting_any {w : World} {p me mw : Nat} {g : Lg} (h : LogAt w p me mw g) : Calls Try.prog 19 #[.pointer (some ⟨p, 0, none⟩)] w (WaitP w g) := by
  obtain ⟨ao, cap, _, _, _, c2⟩ := h.cells
  obtain ⟨D, hD⟩ := h.wm
  have HD := hid hD
  have HFW := hid h.fewW
  have HB : Hid (Below w.heap.size w (w.alloc (.cells #[.map (some mw)] 54))) := (Below.refl _ _).alloc (Nat.le_refl _) _
  have HS := hid (sortedLog (w.alloc (.cells #[.map (some mw)] 54)) w.heap.size mw g.nw D (Boxed.new w 54 _).cell (hD.map.alloc _) (by have := hD.cnt; have := h.fewW; omega))
  have HCL := hid (closedL_no h)
  clear h hD
  go_enter Try.func19, Try.ntmps19
  go_wp2_with fail
  refine HCL.out.mono ?_
  rintro e w' ⟨rfl, rfl⟩
  go_wp2_with fail
  refine (keysLog_any _ _).mono ?_
  rintro e w1 ⟨rfl, rfl⟩
  go_wp2_with fail
  refine HS.out.mono ?_
  rintro e w2 ⟨v, ss, rfl, h1, h2, h3, h4⟩
  have H1 := hid h1
  have H2 : Hid (ss.length ≤ 4096) := by have := HD.out.cnt; have := HFW.out; show _ ≤ _; omega
  have H3 : Hid (w2.ownsRow w'.heap.size 31 2 v ss.length (flatD ss)) := own_mono h3 HB.out.size
  have H4 := hid (bt HB.out h4)
  clear h1 h2 h3 h4
  go_wp2
  go_ret
  refine ⟨v, ss, rfl, ⟨H1.out.1.1, fun o s => ?_, H1.out.2⟩, H2.out, H3.out, H4.out⟩
  rw [H1.out.1.2]
  constructor
  · rintro ⟨ho, hs, hl⟩
    rw [HD.out.key o s ho hs] at hl
    simpa using hl
  · intro hl
    obtain ⟨x, hx⟩ := Option.isSome_iff_exists.1 hl
    obtain ⟨hk, h5, h6⟩ := HD.out.ok o s x hx
    have ho : I64 o := h5 ▸ hk.ok.io
    have hs : I64 s := h6 ▸ hk.ok.is
    refine ⟨ho, hs, ?_⟩
    rw [HD.out.key o s ho hs]
    simpa using hl
theorem applied_nil (w : World) : Calls Try.prog 15 #[.pointer none] w fun e w' => e = .returned (.slice none 0 0) ∧ w' = w := by
  go_enter Try.func15, Try.ntmps15
  go_wp2_with fail
  refine (closedL_nil _).mono ?_
  rintro e w' ⟨rfl, rfl⟩
  go_wp2
  go_ret
  exact ⟨rfl, rfl⟩
theorem applied_any {w : World} {p me mw : Nat} {g : Lg} (h : LogAt w p me mw g) : Calls Try.prog 15 #[.pointer (some ⟨p, 0, none⟩)] w (AnsV w (plainOf g.A)) := by
  obtain ⟨ao, cap, hv, c0, _, _⟩ := h.cells
  have HP := hid (plain_any w ao cap g.A g.A.length rfl hv)
  have HCL := hid (closedL_no h)
  obtain ⟨L, HL⟩ : ∃ L, Hid (g.A.length = L) := ⟨_, hid rfl⟩
  rw [HL.out] at c0 HP
  clear h hv
  go_enter Try.func15, Try.ntmps15
  go_wp2_with fail
  refine HCL.out.mono ?_
  rintro e w' ⟨rfl, rfl⟩
  go_wp2_with fail
  refine HP.out.mono ?_
  rintro e w1 ⟨bo, cp, rfl, h1, h2⟩
  have H1 := hid h1
  have H2 := hid h2
  obtain ⟨M, HM⟩ : ∃ L, Hid ((plainOf g.A).length = L) := ⟨_, hid rfl⟩
  rw [HM.out]
  clear h1 h2
  go_wp2
  go_ret
  exact ⟨bo, cp, by rw [HM.out]; rfl, H1.out, H2.out⟩
theorem all_any (w : World) (q : Option Addr) : Calls Try.prog 16 #[.pointer q] w fun e w' => e = .returned (.func (.func 48) #[] #[.pointer (some ⟨w.heap.size, 0, none⟩), .pointer (some ⟨w.heap.size + 1, 0, none⟩)]) ∧ w' = (w.alloc (.cells #[.pointer q] 23)).alloc (.cells #[.slice none 0 0] 26) := by
  have HS : Hid (Calls Try.prog 34 #[.pointer q, .slice none 0 0] w fun e w' => e = .returned (.func (.func 48) #[] #[.pointer (some ⟨w.heap.size, 0, none⟩), .pointer (some ⟨w.heap.size + 1, 0, none⟩)]) ∧ w' = (w.alloc (.cells #[.pointer q] 23)).alloc (.cells #[.slice none 0 0] 26)) := by
    show Calls _ _ _ _ _
    go_enter Try.func34, Try.ntmps34
    go_wp2
    go_ret
    exact ⟨rfl, rfl⟩
  go_enter Try.func16, Try.ntmps16
  go_wp2_with fail
  refine HS.out.mono ?_
  rintro e w' ⟨rfl, rfl⟩
  go_wp2
  go_ret
  exact ⟨rfl, rfl⟩
end Go.Proofs.Ytfeoolknpcffcaa
/-
  The law's lives (oplog): what must come of every program.
-/
namespace Go.Proofs.Ytfeoolknpcffcaa
open Go.RowKit Go.Maps

def bC : ByteArray := { data := #[99] }
def bS : ByteArray := { data := #[115] }
def lvB : Ev := ⟨0, 2, [1], bC, 0, bS, 1, false⟩
def lvA : Ev := ⟨0, 1, [], bC, 0, bS, 1, false⟩
theorem mayB : MayE lvB := by decide +kernel
theorem mayA : MayE lvA := by decide +kernel
theorem putB {w w' : World} {p me mw : Nat} {e : Ending} (h : PutP w p me mw emptyLg lvB e w') : ∃ y : EvM, y.e = lvB ∧ e = .returned (.tuple #[.slice none 0 0, .int .i64 0]) ∧ AtG w p me mw (waitG emptyLg y) w' := by
  have hr : ¬ ReadyE emptyLg.A lvB := by decide +kernel
  have hh : ¬ HasV emptyLg.A lvB.o lvB.s := by decide +kernel
  cases h with
  | wrong h1 _ => exact absurd mayB h1
  | twice _ h1 _ =>
    rcases h1 with h1 | h1
    · cases h1
    · exact absurd h1 hh
  | full _ _ _ h1 _ =>
    rcases h1 with h1 | ⟨_, h1⟩
    · exact absurd h1 (by decide)
    · exact absurd h1 (by decide)
  | goes _ _ _ _ h1 => exact absurd h1 hr
  | waits _ _ _ _ _ _ h1 h2 => exact ⟨_, h1, rfl, h2⟩
/-- The log in which b waits. -/
theorem putA {w w' : World} {p me mw : Nat} {e : Ending} {y : EvM} (hy : y.e = lvB) (h : PutP w p me mw (waitG emptyLg y) lvA e w') : ∃ v ys g', e = .returned (.tuple #[v, .int .i64 0]) ∧ RowE w.heap.size w' v ys ∧ ys.map (·.e) = [lvA, lvB] ∧ g'.A = [2] ∧ AtG w p me mw g' w' := by
  have hW : ∀ o s, (waitG emptyLg y).W o s = if o = 0 ∧ s = 2 then some y else none := fun o s => by
    show updD _ y.e.o y.e.s (some y) o s = _
    rw [hy]
    rfl
  have hr : ReadyE (waitG emptyLg y).A lvA := (by decide +kernel : ReadyE [] lvA)
  have hh : ¬ HasV (waitG emptyLg y).A lvA.o lvA.s := (by decide +kernel : ¬ HasV [] 0 1)
  have hw : (waitG emptyLg y).W lvA.o lvA.s = none := by rw [hW, if_neg (by decide)]
  cases h with
  | wrong h1 _ => exact absurd mayA h1
  | twice _ h1 _ =>
    rcases h1 with h1 | h1
    · rw [hw] at h1
      cases h1
    · exact absurd h1 hh
  | full _ _ _ h1 _ =>
    rcases h1 with h1 | ⟨h1, _⟩
    · exact absurd h1 (by show ¬ 65536 ≤ 0; decide)
    · exact absurd hr h1
  | waits _ _ _ _ h1 => exact absurd hr h1
  | goes _ _ _ _ _ h1 h2 h3 h4 h5 =>
    obtain ⟨r, hr'⟩ := h2
    have hwt := h3.waited
    have hnw := h3.nw
    have hst := h4
    have hA := h3.A
    have hne := h3.ne
    have hWW := h3.W
    rw [hr'] at hwt hnw hA hne hWW
    have hrl : r.length ≤ 1 := by
      have h6 : (waitG emptyLg y).nw = 1 := rfl
      rw [h6, List.length_cons] at hnw
      omega
    have hall : ∀ e ∈ r, e = lvB := fun e he => by
      obtain ⟨x, hx, rfl⟩ := hwt e he
      rw [hW] at hx
      split at hx
      · cases hx
        exact hy
      · cases hx
    cases r with
    | nil =>
      exfalso
      rename_i g'
      have h6 : (waitG emptyLg y).ne = 0 := rfl
      rw [h6] at hne
      rcases hst with hst | hst
      · rw [hne] at hst
        exact absurd hst (by decide)
      · refine hst 0 2 y ?_ ?_
        · rw [hWW, if_neg (by decide +kernel), hW, if_pos ⟨rfl, rfl⟩]
        · rw [hA, hy]
          exact (by decide +kernel : ReadyE (addL [] [lvA]) lvB)
    | cons e r2 =>
      have he := hall e (List.mem_cons_self ..)
      cases r2 with
      | cons _ _ =>
        simp at hrl
      | nil =>
        subst he
        refine ⟨_, _, _, rfl, h1, hr', ?_, h5⟩
        rw [hA]
        exact (by decide +kernel : addL [] [lvA, lvB] = [2])
theorem putA2 {w w' : World} {p me mw : Nat} {e : Ending} {g : Lg} (hA : g.A = [2]) (h : PutP w p me mw g lvA e w') : e = .returned (.tuple #[.slice none 0 0, .int .i64 5]) ∧ Below w.heap.size w w' := by
  have hh : HasV g.A lvA.o lvA.s := by rw [hA]; decide +kernel
  cases h with
  | wrong h1 _ => exact absurd mayA h1
  | twice _ _ h1 => exact ⟨rfl, h1⟩
  | full _ _ h1 _ _ => exact absurd hh h1
  | goes _ _ h1 => exact absurd hh h1
  | waits _ _ h1 => exact absurd hh h1
theorem waitsB {y : EvM} (hy : y.e = lvB) {ss : List (Int × Int)} (h : WaitsOf (waitG emptyLg y) ss) : ss = [(0, 2)] := by
  have hW : ∀ o s, (waitG emptyLg y).W o s = if o = 0 ∧ s = 2 then some y else none := fun o s => by
    show updD _ y.e.o y.e.s (some y) o s = _
    rw [hy]
    rfl
  have hm : ∀ d, d ∈ ss ↔ d = (0, 2) := fun ⟨o, s⟩ => by
    rw [h.2.1, hW]
    simp only [Prod.mk.injEq]
    split
    · next hc => simp [hc]
    · next hc => simp; omega
  cases ss with
  | nil => exact absurd ((hm (0, 2)).2 rfl) (by simp)
  | cons d r =>
    have h1 := (hm d).1 (List.mem_cons_self ..)
    subst h1
    cases r with
    | nil => rfl
    | cons e r2 =>
      have h2 := (hm e).1 (by simp)
      have h3 := h.1
      rw [h2] at h3
      simp at h3
end Go.Proofs.Ytfeoolknpcffcaa
