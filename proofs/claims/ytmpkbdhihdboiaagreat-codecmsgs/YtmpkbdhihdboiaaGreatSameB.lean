/-
  The document's Msg (pannierref01.Msg); what both writers tell, in one form.
-/
import Derived.Test.YtmpkbdhihdboiaaGreatRfD
import Derived.Test.YtmpkbdhihdboiaaGreatCuR
import Derived.Test.YtmpkbdhihdboiaaGreatVoA
namespace Go.Proofs.YtmpkbdhihdboiaaGreat
open Go.RowKit Go.Maps

theorem rshort_yes (w : World) (ao : Option Addr) (n cap : Nat) (hn : n ≤ 65536) : Calls Tryz.prog 13 #[.slice ao n cap] w fun e w' => e = .returned (.tuple #[.slice ao n cap, .int .i64 0]) ∧ w' = w := by
  have h : ¬ (65536 : Int) < (n : Int) := by omega
  go_enter Tryz.func13, Tryz.ntmps13
  go_wp2
  go_ret2
  exact ⟨rfl, rfl⟩
theorem rshort_no (w : World) (ao : Option Addr) (n cap : Nat) (hn : ¬ n ≤ 65536) : Calls Tryz.prog 13 #[.slice ao n cap] w fun e w' => e = .returned (.tuple #[.slice none 0 0, .int .i64 3]) ∧ w' = w := by
  have h : (65536 : Int) < (n : Int) := by omega
  go_enter Tryz.func13, Tryz.ntmps13
  go_wp2
  go_ret2
  exact ⟨rfl, rfl⟩
set_option maxRecDepth 1000000 in
set_option maxHeartbeats 2000000 in
theorem refMsg_any (w : World) (x : MsM) (hx : MsOk w x) : Calls Tryz.prog 5 #[x.val] w (MsgP w x) := by
  have HM := hid (fun V (hV : Below w.heap.size w V) => rmsgQ V x (hx.below hV))
  have HE : Hid (RightMs x = true → ∀ V, Below w.heap.size w V → Calls Tryz.prog 14 #[x.val] V (WrP (encMs x) V)) := fun hr V hV => rmsgW V x (rightMs_iff hr) (hx.below hV)
  have HP1 : Hid (RightMs x = false → ∀ V, Below w.heap.size w V → MsgP w x (.returned (.tuple #[.slice none 0 0, .int .i64 1])) V) := fun hr V hV => ⟨hV, by rw [if_neg (by rw [hr]; decide)]⟩
  have HP2 : Hid (RightMs x = true → (encMs x).length ≤ 65536 → ∀ V v, Below w.heap.size w V → V.ownsRow w.heap.size 5 1 v (encMs x).length (nums (encMs x)) → MsgP w x (.returned (.tuple #[v, .int .i64 0])) V) := fun hr hl V v hV ho => ⟨hV, by rw [if_pos hr, if_pos hl]; exact ⟨v, rfl, ho⟩⟩
  have HP3 : Hid (RightMs x = true → ¬ (encMs x).length ≤ 65536 → ∀ V, Below w.heap.size w V → MsgP w x (.returned (.tuple #[.slice none 0 0, .int .i64 3])) V) := fun hr hl V hV => ⟨hV, by rw [if_pos hr, if_neg hl]⟩
  generalize RightMs x = ok at *
  generalize encMs x = bs at *
  obtain ⟨kd, fr, tt, ⟨br, bn⟩, sl, ⟨⟨np, tk, ct, ep, cut⟩, a, c⟩, va, vc, vs, sa, sc, seen, ea, ec, evs, ti⟩ := x
  simp only [MsM.val] at HM HE ⊢
  generalize cut.length = XN at *
  generalize vs.length = VN at *
  generalize seen.length = SN at *
  generalize evs.length = EN at *
  clear hx
  obtain ⟨W, hW⟩ : ∃ W, W = w.alloc (.cells #[.int .i64 kd, .int .i64 fr, .int .i64 tt, .int .i64 br, .int .i64 bn, .int .i64 sl, .bool np, .string tk, .string ct, .int .i64 ep, .slice a XN c, .slice va VN vc, .slice sa SN sc, .slice ea EN ec, .int .i64 ti] 32) := ⟨_, rfl⟩
  have HB : Hid (Below w.heap.size w W) := by rw [hW]; exact (Below.refl _ _).alloc (Nat.le_refl _) _
  have HK : Hid (Blk W w.heap.size 32 [.int .i64 kd, .int .i64 fr, .int .i64 tt, .int .i64 br, .int .i64 bn, .int .i64 sl, .bool np, .string tk, .string ct, .int .i64 ep, .slice a XN c, .slice va VN vc, .slice sa SN sc, .slice ea EN ec, .int .i64 ti]) := by rw [hW]; exact Blk.new w _ _
  have HW := hid hW
  have HCL : Hid (∀ V, Below W.heap.size W V → (V.cell? ⟨w.heap.size, 0, none⟩ = some (.int .i64 kd) ∧ V.cell? ⟨w.heap.size, 1, none⟩ = some (.int .i64 fr) ∧ V.cell? ⟨w.heap.size, 2, none⟩ = some (.int .i64 tt) ∧ V.cell? ⟨w.heap.size, 3, none⟩ = some (.int .i64 br) ∧ V.cell? ⟨w.heap.size, 4, none⟩ = some (.int .i64 bn) ∧ V.cell? ⟨w.heap.size, 5, none⟩ = some (.int .i64 sl) ∧ V.cell? ⟨w.heap.size, 6, none⟩ = some (.bool np) ∧ V.cell? ⟨w.heap.size, 7, none⟩ = some (.string tk) ∧ V.cell? ⟨w.heap.size, 8, none⟩ = some (.string ct) ∧ V.cell? ⟨w.heap.size, 9, none⟩ = some (.int .i64 ep) ∧ V.cell? ⟨w.heap.size, 10, none⟩ = some (.slice a XN c) ∧ V.cell? ⟨w.heap.size, 11, none⟩ = some (.slice va VN vc) ∧ V.cell? ⟨w.heap.size, 12, none⟩ = some (.slice sa SN sc) ∧ V.cell? ⟨w.heap.size, 13, none⟩ = some (.slice ea EN ec) ∧ V.cell? ⟨w.heap.size, 14, none⟩ = some (.int .i64 ti))) := fun V hV => by
    have h := HK.out.below hV HK.out.lt
    exact ⟨h.cell rfl, h.cell rfl, h.cell rfl, h.cell rfl, h.cell rfl, h.cell rfl, h.cell rfl, h.cell rfl, h.cell rfl, h.cell rfl, h.cell rfl, h.cell rfl, h.cell rfl, h.cell rfl, h.cell rfl⟩
  clear hW
  obtain ⟨c0, c1, c2, c3, c4, c5, c6, c7, c8, c9, c10, c11, c12, c13, c14⟩ := HCL.out W (Below.refl _ _)
  rw [HW.out] at c0 c1 c2 c3 c4 c5 c6 c7 c8 c9 c10 c11 c12 c13 c14
  cases ok
  · go_enter Tryz.func5, Tryz.ntmps5
    go_wp2_with fail
    rw [← HW.out]
    refine (HM.out W HB.out).mono ?_
    rintro e w1 ⟨rfl, hb1⟩
    have HB1 := hid (bt' HB.out hb1)
    clear hb1 c0 c1 c2 c3 c4 c5 c6 c7 c8 c9 c10 c11 c12 c13 c14
    go_wp2
    go_ret2
    exact HP1.out (by trivial) _ HB1.out
  · go_enter Tryz.func5, Tryz.ntmps5
    go_wp2_with fail
    rw [← HW.out]
    refine (HM.out W HB.out).mono ?_
    rintro e w1 ⟨rfl, hb1⟩
    have HB1 := hid (bt' HB.out hb1)
    have HQ1 := hid hb1
    clear hb1 c0 c1 c2 c3 c4 c5 c6 c7 c8 c9 c10 c11 c12 c13 c14
    obtain ⟨c0, c1, c2, c3, c4, c5, c6, c7, c8, c9, c10, c11, c12, c13, c14⟩ := HCL.out _ HQ1.out
    go_wp2_with fail
    refine (HE.out (by trivial) _ HB1.out).mono ?_
    rintro e w2 ⟨v2, rfl, ho2, hb2⟩
    have HB2 := hid (bt' HB1.out hb2)
    have HO2 : Hid (w2.ownsRow w.heap.size 5 1 v2 bs.length (nums bs)) := ownsRow_base ho2 HB1.out.size
    obtain ⟨eo, cp, rfl⟩ := own_sliceC ho2
    obtain ⟨N, HN⟩ : ∃ N, Hid (bs.length = N) := ⟨_, hid rfl⟩
    rw [HN.out] at HO2 HP2 HP3 ⊢
    clear hb2 ho2 c0 c1 c2 c3 c4 c5 c6 c7 c8 c9 c10 c11 c12 c13 c14
    by_cases hl : N ≤ 65536
    · have HS := hid (rshort_yes w2 eo N cp hl)
      go_wp2_with fail
      refine HS.out.mono ?_
      rintro e w3 ⟨rfl, hw3⟩
      rw [hw3]
      clear hw3
      go_wp2
      go_ret2
      exact HP2.out (by trivial) hl _ _ HB2.out HO2.out
    · have HS := hid (rshort_no w2 eo N cp hl)
      go_wp2_with fail
      refine HS.out.mono ?_
      rintro e w3 ⟨rfl, hw3⟩
      rw [hw3]
      clear hw3
      go_wp2
      go_ret2
      exact HP3.out (by trivial) hl _ HB2.out
/-- A writer's code and its bytes. -/
def codeMs (x : MsM) : Int := if RightMs x = true then (if (encMs x).length ≤ 65536 then 0 else 3) else 1
def bytesMs (x : MsM) : List Int := if codeMs x = 0 then encMs x else []
def MsgH (w : World) (x : MsM) (e : Ending) (w' : World) : Prop := ∃ ao n cp, e = .returned (.tuple #[.slice ao n cp, .int .i64 (codeMs x)]) ∧ Held w' ao n cp (bytesMs x) ∧ Below w.heap.size w w'
theorem msgH_of {w w' : World} {x : MsM} {e : Ending} (h : MsgP w x e w') : MsgH w x e w' := by
  obtain ⟨h1, h2⟩ := h
  by_cases hr : RightMs x = true
  · rw [if_pos hr] at h2
    by_cases hl : (encMs x).length ≤ 65536
    · rw [if_pos hl] at h2
      have hc : codeMs x = 0 := by unfold codeMs; rw [if_pos hr, if_pos hl]
      have hb : bytesMs x = encMs x := by unfold bytesMs; rw [if_pos hc]
      obtain ⟨v, rfl, h3⟩ := h2
      obtain ⟨ao, cap, rfl, hh⟩ := held_of_own h3 (encMs_byP x)
      exact ⟨ao, _, cap, by rw [hc], by rw [hb]; exact hh, h1⟩
    · rw [if_neg hl] at h2
      have hc : codeMs x = 3 := by unfold codeMs; rw [if_pos hr, if_neg hl]
      have hb : bytesMs x = [] := by unfold bytesMs; rw [if_neg (by rw [hc]; decide)]
      exact ⟨none, 0, 0, by rw [hc]; exact h2, by rw [hb]; exact held_nil _, h1⟩
  · rw [if_neg hr] at h2
    have hc : codeMs x = 1 := by unfold codeMs; rw [if_neg hr]
    have hb : bytesMs x = [] := by unfold bytesMs; rw [if_neg (by rw [hc]; decide)]
    exact ⟨none, 0, 0, by rw [hc]; exact h2, by rw [hb]; exact held_nil _, h1⟩
end Go.Proofs.YtmpkbdhihdboiaaGreat
/-
  The laws' sameVector, SameSeal, SameEntry.
-/
namespace Go.Proofs.YtmpkbdhihdboiaaGreat
open Go.RowKit Go.Maps

theorem eq_of_getDB {a b : List Int} (hl : a.length = b.length) {k : Nat} (hk : ¬ k < a.length) (h : ∀ j, j < k → a.getD j 0 = b.getD j 0) : a = b := by
  apply List.ext_getElem hl
  intro i h1 h2
  have := h i (by omega)
  simpa [List.getD, List.getElem?_eq_getElem h1, List.getElem?_eq_getElem h2] using this
theorem eq_stepB {a b : List Int} {k : Nat} (h : ∀ j, j < k → a.getD j 0 = b.getD j 0) (h' : a.getD k 0 = b.getD k 0) : ∀ j, j < k + 1 → a.getD j 0 = b.getD j 0 := by
  intro j hj
  by_cases e : j = k
  · subst e; exact h'
  · exact h j (by omega)

set_option maxRecDepth 100000 in
theorem sameVec_B (w : World) (ao bo : Option Addr) (ca cb : Nat) (a b : List Int) (m n : Nat) (hm : a.length = m) (hn : b.length = n) (ha : HV w ao ca a) (hb : HV w bo cb b) :
    Calls Tryz.prog 22 #[.slice ao m ca, .slice bo n cb] w fun e w' => e = .returned (.bool (decide (a = b))) ∧ ∃ q, w' = w.drewN q := by
  by_cases hmn : m = n
  · subst hmn
    have HA := hid ha.held
    have HB := hid hb.held
    have hfa := ha.few
    rw [hm] at hfa
    have HM := hid hm
    have HN := hid hn
    clear ha hb hm hn
    go_enter Tryz.func22, Tryz.ntmps22
    go_wp2
    go_loopw [5] (fun i wr => ∃ k : Nat, k ≤ m ∧ i = .int .i64 k ∧ Hid ((∃ q, wr = w.drewN q) ∧ ∀ j, j < k → a.getD j 0 = b.getD j 0)) (fun i _ => m - (intOf i).toNat)
    case atStart => exact ⟨0, Nat.zero_le _, rfl, ⟨0, rfl⟩, fun j hj => absurd hj (Nat.not_lt_zero _)⟩
    case round =>
      obtain ⟨k, hk, rfl, HR⟩ := hrel
      by_cases hlt : k < m
      · have hlt' : (k : Int) < (m : Int) := by omega
        obtain ⟨q, hq⟩ := HR.out.1
        have hka : k < a.length := by rw [HM.out]; exact hlt
        have hkb : k < b.length := by rw [HN.out]; exact hlt
        obtain ⟨b1, o1, rfl, hc1⟩ := HA.out.cellAt hka
        obtain ⟨b2, o2, rfl, hc2⟩ := HB.out.cellAt hkb
        have c1 : wr.cell? ⟨b1, o1 + k, none⟩ = some (.int .i64 (a.getD k 0)) := by rw [hq]; exact hc1 k hka
        have c2 : wr.cell? ⟨b2, o2 + k, none⟩ = some (.int .i64 (b.getD k 0)) := by rw [hq]; exact hc2 k hkb
        have HKB := hid hkb
        have HKA := hid hka
        have HQ := hid hq
        clear hc1 hc2 hka hkb hq
        obtain ⟨X, HX⟩ : ∃ X, Hid (a.getD k 0 = X) := ⟨_, hid rfl⟩
        obtain ⟨Y, HY⟩ : ∃ Y, Hid (b.getD k 0 = Y) := ⟨_, hid rfl⟩
        rw [HX.out] at c1
        rw [HY.out] at c2
        by_cases hxy : X = Y
        · have hb : (X != Y) = false := by simp [hxy]
          have HXY := hid hxy
          clear hxy
          go_wp2
          go_quiet (fail)
          all_goals
            go_wp2
            go_roundw
            case rel => exact ⟨k + 1, by omega, by go_num, ⟨_, by rw [HQ.out, drewN_add]⟩, eq_stepB HR.out.2 (by rw [HX.out, HY.out, HXY.out])⟩
            case measure => simp [intOf]; omega
        · have hb : (X != Y) = true := by simp [hxy]
          have HXY := hid hxy
          clear hxy
          go_wp2
          go_quiet (fail)
          all_goals
            go_wp2
            go_ret
            refine ⟨?_, _, by rw [HQ.out, drewN_add]⟩
            have : ¬ a = b := fun h => HXY.out (by rw [← HX.out, ← HY.out, h])
            rw [decide_eq_false this]
            rfl
      · have hlt' : ¬ (k : Int) < (m : Int) := by omega
        go_wp2
        go_ret
        refine ⟨?_, HR.out.1⟩
        rw [decide_eq_true (eq_of_getDB (by rw [HM.out, HN.out]) (by rw [HM.out]; exact hlt) HR.out.2)]
        rfl
  · have hne : ((m : Int) != (n : Int)) = true := by simp; omega
    have HE : Hid (decide (a = b) = false) := decide_eq_false (fun h => hmn (by rw [← hm, ← hn, h]))
    clear ha hb hm hn
    rw [HE.out]
    go_enter Tryz.func22, Tryz.ntmps22
    go_wp2
    go_ret
    exact ⟨rfl, 0, rfl⟩

set_option maxRecDepth 100000 in
theorem sameSeal_B (w : World) (tk ct : ByteArray) (ep : Int) (ao bo : Option Addr) (ca cb : Nat) (cut : List Int) (n : Nat) (hn : cut.length = n) (ha : HV w ao ca cut) (hb : HV w bo cb cut) :
    Calls Tryz.prog 63 #[.agg #[.string tk, .string ct, .int .i64 ep, .slice ao n ca], .agg #[.string tk, .string ct, .int .i64 ep, .slice bo n cb]] w fun e w' => e = .returned (.bool true) ∧ Below w.heap.size w w' := by
  obtain ⟨W, hW⟩ : ∃ W, W = (w.alloc (.cells #[.string tk, .string ct, .int .i64 ep, .slice ao n ca] 26)).alloc (.cells #[.string tk, .string ct, .int .i64 ep, .slice bo n cb] 26) := ⟨_, rfl⟩
  have HB : Hid (Below w.heap.size w W) := by rw [hW]; exact ((Below.refl _ _).alloc (Nat.le_refl _) _).alloc (by simp) _
  have HS := hid (sameVec_B W ao bo ca cb cut cut n n hn hn (ha.below HB.out) (hb.below HB.out))
  rw [decide_eq_true rfl] at HS
  have HW := hid hW
  clear ha hb hn hW
  go_enter Tryz.func63, Tryz.ntmps63
  go_wp2_with fail
  rw [← HW.out]
  refine HS.out.mono ?_
  rintro e w' ⟨rfl, q, rfl⟩
  go_wp2
  go_ret
  exact ⟨rfl, below_dn HB.out q⟩
set_option maxRecDepth 100000 in
theorem sameEntry_B (w : World) (e0 : En) (ao bo : Option Addr) (ca cb : Nat) (ha : HV w ao ca e0.cut) (hb : HV w bo cb e0.cut) :
    Calls Tryz.prog 20 #[EnM.val ⟨e0, ao, ca⟩, EnM.val ⟨e0, bo, cb⟩] w fun e w' => e = .returned (.bool true) ∧ Below w.heap.size w w' := by
  obtain ⟨np, tk, ct, ep, cut⟩ := e0
  simp only [EnM.val] at *
  obtain ⟨n, hn⟩ : ∃ n, cut.length = n := ⟨_, rfl⟩
  rw [hn]
  obtain ⟨W, hW⟩ : ∃ W, W = (w.alloc (.cells #[.bool np, .string tk, .string ct, .int .i64 ep, .slice ao n ca] 28)).alloc (.cells #[.bool np, .string tk, .string ct, .int .i64 ep, .slice bo n cb] 28) := ⟨_, rfl⟩
  have HB : Hid (Below w.heap.size w W) := by rw [hW]; exact ((Below.refl _ _).alloc (Nat.le_refl _) _).alloc (by simp) _
  have HS := hid (sameSeal_B W tk ct ep ao bo ca cb cut n hn (ha.below HB.out) (hb.below HB.out))
  have HW := hid hW
  clear ha hb hn hW
  cases np with
  | true =>
    go_enter Tryz.func20, Tryz.ntmps20
    go_wp2_with fail
    rw [← HW.out]
    refine HS.out.mono ?_
    rintro e w' ⟨rfl, hb⟩
    have HBF := hid (bt' HB.out hb)
    clear hb
    go_wp2
    go_ret
    exact ⟨rfl, HBF.out⟩
  | false =>
    go_enter Tryz.func20, Tryz.ntmps20
    go_wp2_with fail
    rw [← HW.out]
    refine HS.out.mono ?_
    rintro e w' ⟨rfl, hb⟩
    have HBF := hid (bt' HB.out hb)
    clear hb
    go_wp2
    go_ret
    exact ⟨rfl, HBF.out⟩
end Go.Proofs.YtmpkbdhihdboiaaGreat
