/-
  The laws' SameOrders of equal lists; what entries that are carried out again make of a machine.
-/
import Derived.Test.YtfokmldfnkonpaaSmG
import Derived.Test.YtfokmldfnkonpaaMayA
import Derived.Deep.RegionHeld3
import Derived.Test.YtfokmldfnkonpaaVoA
namespace Go.Proofs.Ytfokmldfnkonpaa
open Go.RowKit Go.Maps

set_option maxRecDepth 1000000 in
set_option maxHeartbeats 4000000 in
theorem sameOrders_ok (w : World) (ao bo : Option Addr) (ca cb N : Nat) (xs ys : List OrM) (hx : xs.length = N) (he : xs.map OrM.e = ys.map OrM.e) (h1 : HeldOr w ao xs) (h2 : HeldOr w bo ys) (a1 : ∀ x ∈ xs, OrOk w x) (a2 : ∀ x ∈ ys, OrOk w x) (hl : N ≤ 65536) :
    Calls Try.prog 22 #[.slice ao N ca, .slice bo N cb] w fun e w' => e = .returned (.bool true) ∧ Below w.heap.size w w' := by
  have HXL := hid hx
  have HYL : Hid (ys.length = N) := by have h3 := congrArg List.length he; simp at h3; show _ = _; omega
  have HE := hid he
  have H1 := hid h1
  have H2 := hid h2
  have A1 := hid a1
  have A2 := hid a2
  have HL := hid hl
  have hnn : ((N : Int) != (N : Int)) = false := by simp
  clear hx he h1 h2 a1 a2 hl
  go_enter Try.func22, Try.ntmps22
  go_wp2
  go_loopw [5] (fun i wr => ∃ k : Nat, k ≤ N ∧ i = .int .i64 k ∧ Hid (Below w.heap.size w wr)) (fun i _ => N - (intOf i).toNat)
  case atStart => exact ⟨0, Nat.zero_le _, rfl, Below.refl _ _⟩
  case round =>
    obtain ⟨k, hk, rfl, HB⟩ := hrel
    by_cases hlt : k < N
    · have hlt' : (k : Int) < (N : Int) := by omega
      have hkx : Hid (k < xs.length) := (by rw [HXL.out]; exact hlt : k < xs.length)
      have hky : Hid (k < ys.length) := (by rw [HYL.out]; exact hlt : k < ys.length)
      have HKM : Hid (k + 1 ≤ N) := (by omega : k + 1 ≤ N)
      have HXY : Hid ((xs[k]'hkx.out).e = (ys[k]'hky.out).e) := by
        have h3 : (xs.map OrM.e)[k]? = (ys.map OrM.e)[k]? := by rw [HE.out]
        have h4 := hkx.out
        have h5 := hky.out
        show _ = _
        simpa [List.getElem?_eq_getElem h4, List.getElem?_eq_getElem h5] using h3
      have HOX := hid ((A1.out _ (List.getElem_mem hkx.out)).below HB.out).cut
      have HOY := hid ((A2.out _ (List.getElem_mem hky.out)).below HB.out).cut
      obtain ⟨b1, o1, hao, _, _⟩ := H1.out.at hkx.out
      obtain ⟨b2, o2, hbo, _, _⟩ := H2.out.at hky.out
      subst hao hbo
      have HX1 := hid (H1.out.below HB.out)
      have HX2 := hid (H2.out.below HB.out)
      obtain ⟨X, HX⟩ : ∃ X, Hid (xs[k]'hkx.out = X) := ⟨_, hid rfl⟩
      obtain ⟨Y, HY⟩ : ∃ Y, Hid (ys[k]'hky.out = Y) := ⟨_, hid rfl⟩
      rw [HX.out] at HOX HXY
      rw [HY.out] at HOY HXY
      obtain ⟨⟨xid, tk, ct, ep, dp⟩, ao1, cap1⟩ := X
      obtain ⟨e2, ao2, cap2⟩ := Y
      have he2 : e2 = ⟨xid, tk, ct, ep, dp⟩ := HXY.out.symm
      subst he2
      obtain ⟨XN, HXN⟩ : ∃ m, Hid (dp.length = m) := ⟨_, hid rfl⟩
      have hw0 : wrap64 ((k : Int) + 1) = (k : Int) + 1 := wrapJ (Nat.le_trans hk HL.out)
      have HSM : Hid (∀ V, ScO wr V → Calls Try.prog 12 #[.agg #[.int .i64 xid, .string tk, .string ct, .int .i64 ep, .slice ao1 XN cap1], .agg #[.int .i64 xid, .string tk, .string ct, .int .i64 ep, .slice ao2 XN cap2]] V fun e w' => e = .returned (.bool true) ∧ ScO wr w') := fun V hV =>
        (sameOrder_any V _ tk ct ep dp ao1 ao2 cap1 cap2 XN HXN.out (HOX.out.below hV.out) (HOY.out.below hV.out)).mono (fun e w' hh => ⟨hh.1, hV.go hh.2⟩)
      have HSA : Hid (∀ V, ScO wr V → (ScO wr V ∧ V.cell? ⟨b1, o1 + k * 5, none⟩ = some (.int .i64 xid) ∧ V.cell? ⟨b1, o1 + k * 5 + 1, none⟩ = some (.string tk) ∧ V.cell? ⟨b1, o1 + k * 5 + 2, none⟩ = some (.string ct) ∧ V.cell? ⟨b1, o1 + k * 5 + 3, none⟩ = some (.int .i64 ep) ∧ V.cell? ⟨b1, o1 + k * 5 + 4, none⟩ = some (.slice ao1 XN cap1) ∧ V.cell? ⟨b2, o2 + k * 5, none⟩ = some (.int .i64 xid) ∧ V.cell? ⟨b2, o2 + k * 5 + 1, none⟩ = some (.string tk) ∧ V.cell? ⟨b2, o2 + k * 5 + 2, none⟩ = some (.string ct) ∧ V.cell? ⟨b2, o2 + k * 5 + 3, none⟩ = some (.int .i64 ep) ∧ V.cell? ⟨b2, o2 + k * 5 + 4, none⟩ = some (.slice ao2 XN cap2))) := fun V hV => by
        obtain ⟨b', o', he, _, f0, f1, f2, f3, f4⟩ := (HX1.out.below hV.out).at hkx.out
        cases he
        obtain ⟨b', o', he, _, g0, g1, g2, g3, g4⟩ := (HX2.out.below hV.out).at hky.out
        cases he
        rw [HX.out] at f0 f1 f2 f3 f4
        rw [HY.out] at g0 g1 g2 g3 g4
        simp only at f0 f1 f2 f3 f4 g0 g1 g2 g3 g4
        rw [HXN.out] at f4 g4
        exact ⟨hV, f0, f1, f2, f3, f4, g0, g1, g2, g3, g4⟩
      go_wp2
      apply wp_share0 (S := fun V => ScO wr V)
      · go_region_held3 (fun V => ScO wr V ∧ V.cell? ⟨b1, o1 + k * 5, none⟩ = some (.int .i64 xid) ∧ V.cell? ⟨b1, o1 + k * 5 + 1, none⟩ = some (.string tk) ∧ V.cell? ⟨b1, o1 + k * 5 + 2, none⟩ = some (.string ct) ∧ V.cell? ⟨b1, o1 + k * 5 + 3, none⟩ = some (.int .i64 ep) ∧ V.cell? ⟨b1, o1 + k * 5 + 4, none⟩ = some (.slice ao1 XN cap1) ∧ V.cell? ⟨b2, o2 + k * 5, none⟩ = some (.int .i64 xid) ∧ V.cell? ⟨b2, o2 + k * 5 + 1, none⟩ = some (.string tk) ∧ V.cell? ⟨b2, o2 + k * 5 + 2, none⟩ = some (.string ct) ∧ V.cell? ⟨b2, o2 + k * 5 + 3, none⟩ = some (.int .i64 ep) ∧ V.cell? ⟨b2, o2 + k * 5 + 4, none⟩ = some (.slice ao2 XN cap2))
          ((refine HSA.out _ ?_; (repeat (first | with_reducible assumption | exact ScO.start _ | apply ScO.dr))))
          (first
            | (go_at_call 12; with_reducible refine (HSM.out _ (by (repeat (first | with_reducible assumption | exact ScO.start _ | apply ScO.dr)))).mono ?_; rintro e x5 ⟨rfl, hs5⟩))
        all_goals
          rename_i hHeld
          exact NoPanic.normal ⟨rfl, rfl, hHeld.1⟩
      rintro W2 hs2
      have HB2 : Hid (Below w.heap.size w W2) := bt' HB.out hs2.out
      clear hs2 HSM HSA
      go_wp2
      go_roundw
      case rel => exact ⟨k + 1, HKM.out, by go_num, HB2.out⟩
      case measure => first | exact measW HKM.out hw0 | exact meas1 HKM.out
    · have hlt' : ¬ (k : Int) < (N : Int) := by omega
      go_wp2
      go_ret
      exact ⟨rfl, HB.out⟩
theorem sameOrders_any (w : World) (ao bo : Option Addr) (ca cb N : Nat) (xs ys : List OrM) (hx : xs.length = N) (he : xs.map OrM.e = ys.map OrM.e) (h1 : HeldOr w ao xs) (h2 : HeldOr w bo ys) (a1 : AllO w xs) (a2 : AllO w ys) (hl : N ≤ 65536) :
    Calls Try.prog 22 #[.slice ao N ca, .slice bo N cb] w fun e w' => e = .returned (.bool true) ∧ Below w.heap.size w w' := sameOrders_ok w ao bo ca cb N xs ys hx he h1 h2 (fun x hx => (a1 x hx).ok) (fun x hx => (a2 x hx).ok) hl
/-- Orders only come behind those that are there. -/
theorem doS_pre (g : Sm) (e : En) : g.os <+: (doS g e).os := by
  rw [doS_os]
  split
  · exact List.prefix_append _ _
  · exact List.prefix_refl _
theorem run_pre {zs : List EnM} {i n : Nat} (hi : i ≤ n) (hn : n ≤ zs.length) : (runS (ensTo zs i)).os <+: (runS (ensTo zs n)).os := by
  induction n with
  | zero =>
    have : i = 0 := by omega
    subst this
    exact List.prefix_refl _
  | succ n ih =>
    by_cases e : i = n + 1
    · subst e; exact List.prefix_refl _
    · rw [ensTo_snoc (by omega), runS_snoc]
      exact (ih (by omega) (by omega)).trans (doS_pre _ _)
theorem find_pre {t : ByteArray} {os os' : List Or} {o : Or} (h : os <+: os') (hf : findO t os = some o) : findO t os' = some o := by
  obtain ⟨r, rfl⟩ := h
  unfold findO at hf ⊢
  rw [List.find?_append, hf]
  rfl
theorem told_some {g : Sm} {e : En} (hne : (doR g e).id ≠ 0) : RightEn e = true ∧ e.noop = false ∧ findO e.tok (doS g e).os = some (doR g e) := by
  have h2 : wayO g e = 2 ∨ wayO g e = 5 := by
    refine Classical.byContradiction fun hn => hne ?_
    unfold doR
    rw [if_neg (fun k => hn (.inl k)), if_neg (fun k => hn (.inr k))]
    rfl
  rcases h2 with h2 | h5
  · have hr : RightEn e = true := Classical.byContradiction fun k => by rw [way0 k] at h2; cases h2
    have hnp : e.noop = false := by
      cases hh : e.noop with
      | false => rfl
      | true => rw [way1 hr hh] at h2; cases h2
    cases hf : findO e.tok g.os with
    | none =>
      exfalso
      unfold wayO at h2
      rw [if_pos hr, hnp, if_neg (by decide), hf, if_neg (by decide)] at h2
      split at h2
      · cases h2
      · split at h2 <;> cases h2
    | some o =>
      have hd : doR g e = o := by unfold doR; rw [if_pos h2, hf]; rfl
      refine ⟨hr, hnp, ?_⟩
      rw [hd, doS_os, if_neg (by rw [h2]; decide)]
      exact hf
  · obtain ⟨hr, hnp, hf, _, _⟩ := of_way5 h5
    have hd : doR g e = newO g e := by unfold doR; rw [h5, if_neg (by decide), if_pos rfl]
    refine ⟨hr, hnp, ?_⟩
    rw [hd, doS_os, if_pos h5, findO_snoc, hf]
    exact if_pos (show (newO g e).tok = e.tok from rfl)
/-- What the i-th entry told, in the first turn. -/
def toldId (zs : List EnM) (i : Nat) : Int := (doR (runS (ensTo zs i)) (zs.getD i default).e).id
theorem doR_nonneg {g : Sm} (h : SmOk g) (e : En) : 0 ≤ (doR g e).id := by
  unfold doR
  split
  · cases hf : findO e.tok g.os with
    | none => exact Int.le_refl 0
    | some o =>
      obtain ⟨k, hk, rfl⟩ := List.mem_iff_getElem.1 (findO_mem hf).1
      have := h.ids k _ (List.getElem?_eq_getElem hk)
      show 0 ≤ g.os[k].id
      omega
  · split
    · show (0 : Int) ≤ (g.os.length : Int) + 1
      omega
    · exact Int.le_refl 0
theorem again_some {zs : List EnM} {i : Nat} (hi : i < zs.length) {h : Sm} (hp : (runS (ensTo zs zs.length)).os <+: h.os) (hne : toldId zs i ≠ 0) :
    ∃ o, findO (zs.getD i default).e.tok h.os = some o ∧ wayO h (zs.getD i default).e = 2 ∧ doR h (zs.getD i default).e = o ∧ o.id = toldId zs i := by
  obtain ⟨hr, hnp, hf⟩ := told_some hne
  have h1 : findO (zs.getD i default).e.tok (runS (ensTo zs (i + 1))).os = some (doR (runS (ensTo zs i)) (zs.getD i default).e) := by
    rw [ensTo_snoc hi, runS_snoc]
    exact hf
  have h2 := find_pre ((run_pre (zs := zs) (i := i + 1) (n := zs.length) hi (Nat.le_refl _)).trans hp) h1
  have h3 := way2 (g := h) hr hnp h2
  refine ⟨_, h2, h3, ?_, rfl⟩
  unfold doR
  rw [if_pos h3, h2]
  rfl
theorem again_none {zs : List EnM} {i : Nat} (hi : i < zs.length) {h : Sm} (hp : (runS (ensTo zs zs.length)).os <+: h.os) (hf : findO (zs.getD i default).e.tok h.os = none) : toldId zs i = 0 :=
  Classical.byContradiction fun hne => by
    obtain ⟨o, h1, _⟩ := again_some hi hp hne
    rw [hf] at h1
    cases h1
theorem way_some {g : Sm} {e : En} {o : Or} (hf : findO e.tok g.os = some o) : wayO g e ≠ 5 := fun h5 => by
  obtain ⟨_, _, h1, _⟩ := of_way5 h5
  rw [hf] at h1
  cases h1
end Go.Proofs.Ytfokmldfnkonpaa
/-
  The laws' sameVector, SameSeal, SameEntry.
-/
namespace Go.Proofs.Ytfokmldfnkonpaa
open Go.RowKit Go.Maps

theorem eq_of_getDB {a b : List Int} (hl : a.length = b.length) {k : Nat} (hk : ¬ k < a.length) (h : ∀ j, j < k → a.getD j 0 = b.getD j 0) : a = b := by
  apply List.ext_getElem hl
  intro i h1 h2
  have := h i (by omega)
  simpa [List.getD, List.getElem?_eq_getElem h1, List.getElem?_eq_getElem h2] using this
theorem eq_stepB {a b : List Int} {k : Nat} (h : ∀ j, j < k → a.getD j 0 = b.getD j 0) (h' : a.getD k 0 = b.getD k 0) : ∀ j, j < k + 1 → a.getD j 0 = b.getD j 0 := by
  intro j hj
  by_cases e : j = k
  · subst e; exact h'
  · exact h j (by omega)

set_option maxRecDepth 100000 in
theorem sameVec_B (w : World) (ao bo : Option Addr) (ca cb : Nat) (a b : List Int) (m n : Nat) (hm : a.length = m) (hn : b.length = n) (ha : HV w ao ca a) (hb : HV w bo cb b) :
    Calls Try.prog 42 #[.slice ao m ca, .slice bo n cb] w fun e w' => e = .returned (.bool (decide (a = b))) ∧ ∃ q, w' = w.drewN q := by
  by_cases hmn : m = n
  · subst hmn
    have HA := hid ha.held
    have HB := hid hb.held
    have hfa := ha.few
    rw [hm] at hfa
    have HM := hid hm
    have HN := hid hn
    clear ha hb hm hn
    go_enter Try.func42, Try.ntmps42
    go_wp2
    go_loopw [5] (fun i wr => ∃ k : Nat, k ≤ m ∧ i = .int .i64 k ∧ Hid ((∃ q, wr = w.drewN q) ∧ ∀ j, j < k → a.getD j 0 = b.getD j 0)) (fun i _ => m - (intOf i).toNat)
    case atStart => exact ⟨0, Nat.zero_le _, rfl, ⟨0, rfl⟩, fun j hj => absurd hj (Nat.not_lt_zero _)⟩
    case round =>
      obtain ⟨k, hk, rfl, HR⟩ := hrel
      by_cases hlt : k < m
      · have hlt' : (k : Int) < (m : Int) := by omega
        obtain ⟨q, hq⟩ := HR.out.1
        have hka : k < a.length := by rw [HM.out]; exact hlt
        have hkb : k < b.length := by rw [HN.out]; exact hlt
        obtain ⟨b1, o1, rfl, hc1⟩ := HA.out.cellAt hka
        obtain ⟨b2, o2, rfl, hc2⟩ := HB.out.cellAt hkb
        have c1 : wr.cell? ⟨b1, o1 + k, none⟩ = some (.int .i64 (a.getD k 0)) := by rw [hq]; exact hc1 k hka
        have c2 : wr.cell? ⟨b2, o2 + k, none⟩ = some (.int .i64 (b.getD k 0)) := by rw [hq]; exact hc2 k hkb
        have HKB := hid hkb
        have HKA := hid hka
        have HQ := hid hq
        clear hc1 hc2 hka hkb hq
        obtain ⟨X, HX⟩ : ∃ X, Hid (a.getD k 0 = X) := ⟨_, hid rfl⟩
        obtain ⟨Y, HY⟩ : ∃ Y, Hid (b.getD k 0 = Y) := ⟨_, hid rfl⟩
        rw [HX.out] at c1
        rw [HY.out] at c2
        by_cases hxy : X = Y
        · have hb : (X != Y) = false := by simp [hxy]
          have HXY := hid hxy
          clear hxy
          go_wp2
          go_quiet (fail)
          all_goals
            go_wp2
            go_roundw
            case rel => exact ⟨k + 1, by omega, by go_num, ⟨_, by rw [HQ.out, drewN_add]⟩, eq_stepB HR.out.2 (by rw [HX.out, HY.out, HXY.out])⟩
            case measure => simp [intOf]; omega
        · have hb : (X != Y) = true := by simp [hxy]
          have HXY := hid hxy
          clear hxy
          go_wp2
          go_quiet (fail)
          all_goals
            go_wp2
            go_ret
            refine ⟨?_, _, by rw [HQ.out, drewN_add]⟩
            have : ¬ a = b := fun h => HXY.out (by rw [← HX.out, ← HY.out, h])
            rw [decide_eq_false this]
            rfl
      · have hlt' : ¬ (k : Int) < (m : Int) := by omega
        go_wp2
        go_ret
        refine ⟨?_, HR.out.1⟩
        rw [decide_eq_true (eq_of_getDB (by rw [HM.out, HN.out]) (by rw [HM.out]; exact hlt) HR.out.2)]
        rfl
  · have hne : ((m : Int) != (n : Int)) = true := by simp; omega
    have HE : Hid (decide (a = b) = false) := decide_eq_false (fun h => hmn (by rw [← hm, ← hn, h]))
    clear ha hb hm hn
    rw [HE.out]
    go_enter Try.func42, Try.ntmps42
    go_wp2
    go_ret
    exact ⟨rfl, 0, rfl⟩

set_option maxRecDepth 100000 in
theorem sameSeal_B (w : World) (tk ct : ByteArray) (ep : Int) (ao bo : Option Addr) (ca cb : Nat) (cut : List Int) (n : Nat) (hn : cut.length = n) (ha : HV w ao ca cut) (hb : HV w bo cb cut) :
    Calls Try.prog 36 #[.agg #[.string tk, .string ct, .int .i64 ep, .slice ao n ca], .agg #[.string tk, .string ct, .int .i64 ep, .slice bo n cb]] w fun e w' => e = .returned (.bool true) ∧ Below w.heap.size w w' := by
  obtain ⟨W, hW⟩ : ∃ W, W = (w.alloc (.cells #[.string tk, .string ct, .int .i64 ep, .slice ao n ca] 37)).alloc (.cells #[.string tk, .string ct, .int .i64 ep, .slice bo n cb] 37) := ⟨_, rfl⟩
  have HB : Hid (Below w.heap.size w W) := by rw [hW]; exact ((Below.refl _ _).alloc (Nat.le_refl _) _).alloc (by simp) _
  have HS := hid (sameVec_B W ao bo ca cb cut cut n n hn hn (ha.below HB.out) (hb.below HB.out))
  rw [decide_eq_true rfl] at HS
  have HW := hid hW
  clear ha hb hn hW
  go_enter Try.func36, Try.ntmps36
  go_wp2_with fail
  rw [← HW.out]
  refine HS.out.mono ?_
  rintro e w' ⟨rfl, q, rfl⟩
  go_wp2
  go_ret
  exact ⟨rfl, below_dn HB.out q⟩
end Go.Proofs.Ytfokmldfnkonpaa
