/-
  Package cart: slices.Equal of ints, same, goesBy; the law's sameVector, SameEvent.
-/
import Derived.Test.YtkgfpnmifgifpaaEvA
import Derived.Test.YtkgfpnmifgifpaaVvE
namespace Go.Proofs.Ytkgfpnmifgifpaa
open Go.RowKit Go.Maps

set_option maxRecDepth 100000 in
theorem equalI_any (w : World) (ao bo : Option Addr) (ca cb : Nat) (a b : List Int) (m n : Nat) (hm : a.length = m) (hn : b.length = n) (ha : HV w ao ca a) (hb : HV w bo cb b) :
    Calls Try.prog 82 #[.slice ao m ca, .slice bo n cb] w fun e w' => e = .returned (.bool (decide (a = b))) ∧ ∃ q, w' = w.drewN q := by
  by_cases hmn : m = n
  · subst hmn
    have HA := hid ha.held
    have HB := hid hb.held
    have hfa := ha.few
    rw [hm] at hfa
    have HM := hid hm
    have HN := hid hn
    clear ha hb hm hn
    go_enter Try.func82, Try.ntmps82
    go_wp2
    go_loopw [5, 13] (fun _ i wr => ∃ k : Nat, k ≤ m ∧ i = .int .i64 k ∧ Hid ((∃ q, wr = w.drewN q) ∧ ∀ j, j < k → a.getD j 0 = b.getD j 0)) (fun _ i _ => m - (intOf i).toNat)
    case atStart => exact ⟨0, Nat.zero_le _, rfl, ⟨0, rfl⟩, fun j hj => absurd hj (Nat.not_lt_zero _)⟩
    case round =>
      obtain ⟨k, hk, rfl, HR⟩ := hrel
      by_cases hlt : k < m
      · have hlt' : (k : Int) < (m : Int) := by omega
        obtain ⟨q, hq⟩ := HR.out.1
        have hka : k < a.length := by rw [HM.out]; exact hlt
        have hkb : k < b.length := by rw [HN.out]; exact hlt
        obtain ⟨b1, o1, rfl, hc1⟩ := HA.out.cellAt hka
        obtain ⟨b2, o2, rfl, hc2⟩ := HB.out.cellAt hkb
        have c1 : wr.cell? ⟨b1, o1 + k, none⟩ = some (.int .i64 (a.getD k 0)) := by rw [hq]; exact hc1 k hka
        have c2 : wr.cell? ⟨b2, o2 + k, none⟩ = some (.int .i64 (b.getD k 0)) := by rw [hq]; exact hc2 k hkb
        have HKB := hid hkb
        have HKA := hid hka
        have HQ := hid hq
        clear hc1 hc2 hka hkb hq
        obtain ⟨X, HX⟩ : ∃ X, Hid (a.getD k 0 = X) := ⟨_, hid rfl⟩
        obtain ⟨Y, HY⟩ : ∃ Y, Hid (b.getD k 0 = Y) := ⟨_, hid rfl⟩
        rw [HX.out] at c1
        rw [HY.out] at c2
        by_cases hxy : X = Y
        · have hb : (X != Y) = false := by simp [hxy]
          have HXY := hid hxy
          clear hxy
          go_wp2
          go_quiet (fail)
          all_goals
            go_wp2
            go_roundw
            case rel => exact ⟨k + 1, by omega, by go_num, ⟨_, by rw [HQ.out, drewN_add]⟩, eq_step HR.out.2 (by rw [HX.out, HY.out, HXY.out])⟩
            case measure => simp [intOf]; omega
        · have hb : (X != Y) = true := by simp [hxy]
          have HXY := hid hxy
          clear hxy
          go_wp2
          go_quiet (fail)
          all_goals
            go_wp2
            go_ret
            refine ⟨?_, _, by rw [HQ.out, drewN_add]⟩
            have : ¬ a = b := fun h => HXY.out (by rw [← HX.out, ← HY.out, h])
            rw [decide_eq_false this]
            rfl
      · have hlt' : ¬ (k : Int) < (m : Int) := by omega
        go_wp2
        go_ret
        refine ⟨?_, HR.out.1⟩
        rw [decide_eq_true (eq_of_getD (by rw [HM.out, HN.out]) (by rw [HM.out]; exact hlt) HR.out.2)]
        rfl
  · have hne : ((m : Int) != (n : Int)) = true := by simp; omega
    have HE : Hid (decide (a = b) = false) := decide_eq_false (fun h => hmn (by rw [← hm, ← hn, h]))
    clear ha hb hm hn
    rw [HE.out]
    go_enter Try.func82, Try.ntmps82
    go_wp2
    go_ret
    exact ⟨rfl, 0, rfl⟩
theorem bt {w w0 w1 : World} (h : Below w.heap.size w w0) (hb : Below w0.heap.size w0 w1) : Below w.heap.size w w1 := h.trans (hb.mono h.size)
theorem bytes_inj {a b : ByteArray} (h : a.toList = b.toList) : a = b := by
  rw [ByteArray.toList_eq, ByteArray.toList_eq] at h
  exact ByteArray.ext (Array.toList_inj.1 h)
theorem ev_two (w : World) (x y : EvM) : Below w.heap.size w ((w.alloc (.cells x.cells.toArray 34)).alloc (.cells y.cells.toArray 34)) := ((Below.refl _ _).alloc (Nat.le_refl _) _).alloc (by simp) _
theorem ev_blk1 (w : World) (x y : EvM) : Blk ((w.alloc (.cells x.cells.toArray 34)).alloc (.cells y.cells.toArray 34)) w.heap.size 34 x.cells := (Blk.new w _ _).alloc _
theorem ev_blk2 (w : World) (x y : EvM) : Blk ((w.alloc (.cells x.cells.toArray 34)).alloc (.cells y.cells.toArray 34)) (w.heap.size + 1) 34 y.cells := by
  have := Blk.new (w.alloc (.cells x.cells.toArray 34)) 34 y.cells
  rw [World.size_alloc] at this
  exact this
set_option maxRecDepth 100000 in
theorem cSame_any (w : World) (x y : EvM) (hx : EvOk w x) (hy : EvOk w y) :
    Calls Try.prog 64 #[x.val, y.val] w fun e w' => e = .returned (.bool (decide (x.e = y.e))) ∧ Below w.heap.size w w' := by
  have HB := hid (ev_two w x y)
  have HEQ : Hid (Calls Try.prog 82 #[.slice x.ao x.e.deps.length x.cap, .slice y.ao y.e.deps.length y.cap] ((w.alloc (.cells x.cells.toArray 34)).alloc (.cells y.cells.toArray 34)) fun e w' => e = .returned (.bool (decide (x.e.deps = y.e.deps))) ∧ ∃ q, w' = ((w.alloc (.cells x.cells.toArray 34)).alloc (.cells y.cells.toArray 34)).drewN q) :=
    equalI_any _ x.ao y.ao x.cap y.cap x.e.deps y.e.deps _ _ rfl rfl (hx.deps.below HB.out) (hy.deps.below HB.out)
  obtain ⟨⟨o1, s1, d1, c1, p1, k1, q1, b1⟩, ao1, cap1⟩ := x
  obtain ⟨⟨o2, s2, d2, c2, p2, k2, q2, b2⟩, ao2, cap2⟩ := y
  simp only [EvM.cells] at HB HEQ
  simp only [EvM.val]
  clear hx hy
  obtain ⟨n1, HN1⟩ : ∃ n, Hid (d1.length = n) := ⟨_, hid rfl⟩
  obtain ⟨n2, HN2⟩ : ∃ n, Hid (d2.length = n) := ⟨_, hid rfl⟩
  rw [HN1.out, HN2.out] at HEQ ⊢
  rw [HN1.out, HN2.out] at HB
  by_cases ho : o1 = o2
  rotate_left 1
  · have HF : Hid (decide ((⟨o1, s1, d1, c1, p1, k1, q1, b1⟩ : Ev) = ⟨o2, s2, d2, c2, p2, k2, q2, b2⟩) = false) := decide_eq_false (fun h => ho (by injection h))
    rw [HF.out]
    go_enter Try.func64, Try.ntmps64
    go_wp2
    go_ret
    exact ⟨rfl, HB.out⟩
  subst ho
  by_cases hs : s1 = s2
  rotate_left 1
  · have HF : Hid (decide ((⟨o1, s1, d1, c1, p1, k1, q1, b1⟩ : Ev) = ⟨o1, s2, d2, c2, p2, k2, q2, b2⟩) = false) := decide_eq_false (fun h => hs (by injection h))
    rw [HF.out]
    go_enter Try.func64, Try.ntmps64
    go_wp2
    go_ret
    exact ⟨rfl, HB.out⟩
  subst hs
  by_cases hc : c1 = c2
  rotate_left 1
  · have HF : Hid (decide ((⟨o1, s1, d1, c1, p1, k1, q1, b1⟩ : Ev) = ⟨o1, s1, d2, c2, p2, k2, q2, b2⟩) = false) := decide_eq_false (fun h => hc (by injection h))
    rw [HF.out]
    have hbb : ¬ c1.toList = c2.toList := fun hh => hc (bytes_inj hh)
    go_enter Try.func64, Try.ntmps64
    go_wp2
    go_ret
    exact ⟨rfl, HB.out⟩
  subst hc
  by_cases hp : p1 = p2
  rotate_left 1
  · have HF : Hid (decide ((⟨o1, s1, d1, c1, p1, k1, q1, b1⟩ : Ev) = ⟨o1, s1, d2, c1, p2, k2, q2, b2⟩) = false) := decide_eq_false (fun h => hp (by injection h))
    rw [HF.out]
    go_enter Try.func64, Try.ntmps64
    go_wp2
    go_ret
    exact ⟨rfl, HB.out⟩
  subst hp
  by_cases hk : k1 = k2
  rotate_left 1
  · have HF : Hid (decide ((⟨o1, s1, d1, c1, p1, k1, q1, b1⟩ : Ev) = ⟨o1, s1, d2, c1, p1, k2, q2, b2⟩) = false) := decide_eq_false (fun h => hk (by injection h))
    rw [HF.out]
    have hbb : ¬ k1.toList = k2.toList := fun hh => hk (bytes_inj hh)
    go_enter Try.func64, Try.ntmps64
    go_wp2
    go_ret
    exact ⟨rfl, HB.out⟩
  subst hk
  by_cases hq : q1 = q2
  rotate_left 1
  · have HF : Hid (decide ((⟨o1, s1, d1, c1, p1, k1, q1, b1⟩ : Ev) = ⟨o1, s1, d2, c1, p1, k1, q2, b2⟩) = false) := decide_eq_false (fun h => hq (by injection h))
    rw [HF.out]
    go_enter Try.func64, Try.ntmps64
    go_wp2
    go_ret
    exact ⟨rfl, HB.out⟩
  subst hq
  by_cases hb : b1 = b2
  rotate_left 1
  · have HF : Hid (decide ((⟨o1, s1, d1, c1, p1, k1, q1, b1⟩ : Ev) = ⟨o1, s1, d2, c1, p1, k1, q1, b2⟩) = false) := decide_eq_false (fun h => hb (by injection h))
    rw [HF.out]
    go_enter Try.func64, Try.ntmps64
    go_wp2
    go_ret
    exact ⟨rfl, HB.out⟩
  subst hb
  have HF : Hid (decide ((⟨o1, s1, d1, c1, p1, k1, q1, b1⟩ : Ev) = ⟨o1, s1, d2, c1, p1, k1, q1, b1⟩) = decide (d1 = d2)) := decide_eq_decide.2 (by simp)
  rw [HF.out]
  obtain ⟨r, HR⟩ : ∃ r, Hid (decide (d1 = d2) = r) := ⟨_, hid rfl⟩
  rw [HR.out] at HEQ ⊢
  go_enter Try.func64, Try.ntmps64
  go_wp2_with fail
  refine HEQ.out.mono ?_
  rintro e w' ⟨rfl, q, rfl⟩
  go_wp2
  go_ret
  exact ⟨rfl, below_dn HB.out q⟩

set_option maxRecDepth 100000 in
theorem goesBy_any (w : World) (x y : EvM) (hx : EvOk w x) (hy : EvOk w y) :
    Calls Try.prog 53 #[x.val, y.val] w fun e w' => e = .returned (.bool (decide (Goes x.e y.e))) ∧ Below w.heap.size w w' := by
  have HB := hid (ev_two w x y)
  have HK1 := hid (ev_blk1 w x y)
  have HK2 := hid (ev_blk2 w x y)
  have HHS : Hid (Calls Try.prog 16 #[.slice y.ao y.e.deps.length y.cap, .agg #[.int .i64 x.e.o, .int .i64 x.e.s]] ((w.alloc (.cells x.cells.toArray 34)).alloc (.cells y.cells.toArray 34)) fun e w' => e = .returned (.bool (decide (HasV y.e.deps x.e.o x.e.s))) ∧ Below ((w.alloc (.cells x.cells.toArray 34)).alloc (.cells y.cells.toArray 34)).heap.size ((w.alloc (.cells x.cells.toArray 34)).alloc (.cells y.cells.toArray 34)) w') :=
    has_any _ y.ao y.cap y.e.deps _ rfl (hy.deps.below HB.out) x.e.o x.e.s
  have HSM : Hid (∀ V, Below w.heap.size w V → Calls Try.prog 64 #[x.val, y.val] V fun e w' => e = .returned (.bool (decide (x.e = y.e))) ∧ Below V.heap.size V w') := fun V hV => cSame_any V x y (hx.below hV) (hy.below hV)
  obtain ⟨⟨o1, s1, d1, c1, p1, k1, q1, b1⟩, ao1, cap1⟩ := x
  obtain ⟨⟨o2, s2, d2, c2, p2, k2, q2, b2⟩, ao2, cap2⟩ := y
  simp only [EvM.cells] at HB HHS HK1 HK2
  simp only [EvM.val] at HSM ⊢
  clear hx hy
  obtain ⟨n1, HN1⟩ : ∃ n, Hid (d1.length = n) := ⟨_, hid rfl⟩
  obtain ⟨n2, HN2⟩ : ∃ n, Hid (d2.length = n) := ⟨_, hid rfl⟩
  rw [HN1.out, HN2.out] at HSM HB HHS HK1 HK2 ⊢
  by_cases hb : b2 = true
  rotate_left 1
  · have HF : Hid (decide (Goes ⟨o1, s1, d1, c1, p1, k1, q1, b1⟩ ⟨o2, s2, d2, c2, p2, k2, q2, b2⟩) = false) := decide_eq_false (fun h => hb h.1)
    rw [HF.out]
    clear HF
    obtain rfl : b2 = false := by simpa using hb
    clear hb
    go_enter Try.func53, Try.ntmps53
    go_wp2
    go_ret
    exact ⟨rfl, HB.out⟩
  subst hb
  by_cases hc : c2 = c1
  rotate_left 1
  · have HF : Hid (decide (Goes ⟨o1, s1, d1, c1, p1, k1, q1, b1⟩ ⟨o2, s2, d2, c2, p2, k2, q2, true⟩) = false) := decide_eq_false (fun h => hc h.2.1)
    rw [HF.out]
    clear HF
    have hbb : ¬ c2.toList = c1.toList := fun hh => hc (bytes_inj hh)
    go_enter Try.func53, Try.ntmps53
    go_wp2
    go_ret
    exact ⟨rfl, HB.out⟩
  subst hc
  by_cases hk : k2 = k1
  rotate_left 1
  · have HF : Hid (decide (Goes ⟨o1, s1, d1, c2, p1, k1, q1, b1⟩ ⟨o2, s2, d2, c2, p2, k2, q2, true⟩) = false) := decide_eq_false (fun h => hk h.2.2.1)
    rw [HF.out]
    clear HF
    have hbb : ¬ k2.toList = k1.toList := fun hh => hk (bytes_inj hh)
    go_enter Try.func53, Try.ntmps53
    go_wp2
    go_ret
    exact ⟨rfl, HB.out⟩
  subst hk
  obtain ⟨r1, HR1⟩ : ∃ r, Hid (decide (HasV d2 o1 s1) = r) := ⟨_, hid rfl⟩
  rw [HR1.out] at HHS
  cases r1
  · have HF : Hid (decide (Goes ⟨o1, s1, d1, c2, p1, k2, q1, b1⟩ ⟨o2, s2, d2, c2, p2, k2, q2, true⟩) = false) := decide_eq_false (fun h => of_decide_eq_false HR1.out h.2.2.2.1)
    rw [HF.out]
    go_enter Try.func53, Try.ntmps53
    go_wp2_with fail
    refine HHS.out.mono ?_
    rintro e w' ⟨rfl, hb1⟩
    have HB1 := hid (bt HB.out hb1)
    clear hb1
    go_wp2
    go_ret
    exact ⟨rfl, HB1.out⟩
  · have HF : Hid (decide (Goes ⟨o1, s1, d1, c2, p1, k2, q1, b1⟩ ⟨o2, s2, d2, c2, p2, k2, q2, true⟩) = !decide (⟨o1, s1, d1, c2, p1, k2, q1, b1⟩ = (⟨o2, s2, d2, c2, p2, k2, q2, true⟩ : Ev))) := by
      show _ = _
      unfold Goes
      have := of_decide_eq_true HR1.out
      simp [this]
    rw [HF.out]
    obtain ⟨r2, HR2⟩ : ∃ r, Hid (decide ((⟨o1, s1, d1, c2, p1, k2, q1, b1⟩ : Ev) = ⟨o2, s2, d2, c2, p2, k2, q2, true⟩) = r) := ⟨_, hid rfl⟩
    rw [HR2.out] at HSM ⊢
    go_enter Try.func53, Try.ntmps53
    go_wp2_with fail
    refine HHS.out.mono ?_
    rintro e w' ⟨rfl, hb1⟩
    have HB1 := hid (bt HB.out hb1)
    have HK1' := HK1.out.below hb1 HK1.out.lt
    have HK2' := HK2.out.below hb1 HK2.out.lt
    have a0 := HK1'.cell (i := 0) rfl
    have a1 := HK1'.cell (i := 1) rfl
    have a2 := HK1'.cell (i := 2) rfl
    have a3 := HK1'.cell (i := 3) rfl
    have a4 := HK1'.cell (i := 4) rfl
    have a5 := HK1'.cell (i := 5) rfl
    have a6 := HK1'.cell (i := 6) rfl
    have a7 := HK1'.cell (i := 7) rfl
    have b0 := HK2'.cell (i := 0) rfl
    have b1 := HK2'.cell (i := 1) rfl
    have b2 := HK2'.cell (i := 2) rfl
    have b3 := HK2'.cell (i := 3) rfl
    have b4 := HK2'.cell (i := 4) rfl
    have b5 := HK2'.cell (i := 5) rfl
    have b6 := HK2'.cell (i := 6) rfl
    have b7 := HK2'.cell (i := 7) rfl
    clear hb1 HK1' HK2'
    go_wp2_with fail
    refine (HSM.out _ HB1.out).mono ?_
    rintro e w2 ⟨rfl, hb2⟩
    have HB2 := hid (bt HB1.out hb2)
    clear hb2 a0 a1 a2 a3 a4 a5 a6 a7 b0 b1 b2 b3 b4 b5 b6 b7
    go_wp2
    go_ret
    exact ⟨rfl, HB2.out⟩
end Go.Proofs.Ytkgfpnmifgifpaa
