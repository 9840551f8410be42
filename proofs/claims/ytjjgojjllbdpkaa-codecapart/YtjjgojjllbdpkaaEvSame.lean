/-
  Package cart: slices.Equal of ints, same, goesBy; the law's sameVector, SameEvent.
-/
import Derived.Test.YtjjgojjllbdpkaaEvA
import Derived.Test.YtjjgojjllbdpkaaVvE
namespace Go.Proofs.Ytjjgojjllbdpkaa
open Go.RowKit Go.Maps

set_option maxRecDepth 100000 in
theorem sameVec_any (w : World) (ao bo : Option Addr) (ca cb : Nat) (a b : List Int) (m n : Nat) (hm : a.length = m) (hn : b.length = n) (ha : HV w ao ca a) (hb : HV w bo cb b) :
    Calls Try.prog 20 #[.slice ao m ca, .slice bo n cb] w fun e w' => e = .returned (.bool (decide (a = b))) ∧ ∃ q, w' = w.drewN q := by
  by_cases hmn : m = n
  · subst hmn
    have HA := hid ha.held
    have HB := hid hb.held
    have hfa := ha.few
    rw [hm] at hfa
    have HM := hid hm
    have HN := hid hn
    clear ha hb hm hn
    go_enter Try.func20, Try.ntmps20
    go_wp2
    go_loopw [5] (fun i wr => ∃ k : Nat, k ≤ m ∧ i = .int .i64 k ∧ Hid ((∃ q, wr = w.drewN q) ∧ ∀ j, j < k → a.getD j 0 = b.getD j 0)) (fun i _ => m - (intOf i).toNat)
    case atStart => exact ⟨0, Nat.zero_le _, rfl, ⟨0, rfl⟩, fun j hj => absurd hj (Nat.not_lt_zero _)⟩
    case round =>
      obtain ⟨k, hk, rfl, HR⟩ := hrel
      by_cases hlt : k < m
      · have hlt' : (k : Int) < (m : Int) := by omega
        obtain ⟨q, hq⟩ := HR.out.1
        have hka : k < a.length := by rw [HM.out]; exact hlt
        have hkb : k < b.length := by rw [HN.out]; exact hlt
        obtain ⟨b1, o1, rfl, hc1⟩ := HA.out.cellAt hka
        obtain ⟨b2, o2, rfl, hc2⟩ := HB.out.cellAt hkb
        have c1 : wr.cell? ⟨b1, o1 + k, none⟩ = some (.int .i64 (a.getD k 0)) := by rw [hq]; exact hc1 k hka
        have c2 : wr.cell? ⟨b2, o2 + k, none⟩ = some (.int .i64 (b.getD k 0)) := by rw [hq]; exact hc2 k hkb
        have HKB := hid hkb
        have HKA := hid hka
        have HQ := hid hq
        clear hc1 hc2 hka hkb hq
        obtain ⟨X, HX⟩ : ∃ X, Hid (a.getD k 0 = X) := ⟨_, hid rfl⟩
        obtain ⟨Y, HY⟩ : ∃ Y, Hid (b.getD k 0 = Y) := ⟨_, hid rfl⟩
        rw [HX.out] at c1
        rw [HY.out] at c2
        by_cases hxy : X = Y
        · have hb : (X != Y) = false := by simp [hxy]
          have HXY := hid hxy
          clear hxy
          go_wp2
          go_quiet (fail)
          all_goals
            go_wp2
            go_roundw
            case rel => exact ⟨k + 1, by omega, by go_num, ⟨_, by rw [HQ.out, drewN_add]⟩, eq_step HR.out.2 (by rw [HX.out, HY.out, HXY.out])⟩
            case measure => simp [intOf]; omega
        · have hb : (X != Y) = true := by simp [hxy]
          have HXY := hid hxy
          clear hxy
          go_wp2
          go_quiet (fail)
          all_goals
            go_wp2
            go_ret
            refine ⟨?_, _, by rw [HQ.out, drewN_add]⟩
            have : ¬ a = b := fun h => HXY.out (by rw [← HX.out, ← HY.out, h])
            rw [decide_eq_false this]
            rfl
      · have hlt' : ¬ (k : Int) < (m : Int) := by omega
        go_wp2
        go_ret
        refine ⟨?_, HR.out.1⟩
        rw [decide_eq_true (eq_of_getD (by rw [HM.out, HN.out]) (by rw [HM.out]; exact hlt) HR.out.2)]
        rfl
  · have hne : ((m : Int) != (n : Int)) = true := by simp; omega
    have HE : Hid (decide (a = b) = false) := decide_eq_false (fun h => hmn (by rw [← hm, ← hn, h]))
    clear ha hb hm hn
    rw [HE.out]
    go_enter Try.func20, Try.ntmps20
    go_wp2
    go_ret
    exact ⟨rfl, 0, rfl⟩

theorem bt {w w0 w1 : World} (h : Below w.heap.size w w0) (hb : Below w0.heap.size w0 w1) : Below w.heap.size w w1 := h.trans (hb.mono h.size)
theorem bytes_inj {a b : ByteArray} (h : a.toList = b.toList) : a = b := by
  rw [ByteArray.toList_eq, ByteArray.toList_eq] at h
  exact ByteArray.ext (Array.toList_inj.1 h)
theorem ev_two (w : World) (x y : EvM) : Below w.heap.size w ((w.alloc (.cells x.cells.toArray 36)).alloc (.cells y.cells.toArray 36)) := ((Below.refl _ _).alloc (Nat.le_refl _) _).alloc (by simp) _
theorem ev_blk1 (w : World) (x y : EvM) : Blk ((w.alloc (.cells x.cells.toArray 36)).alloc (.cells y.cells.toArray 36)) w.heap.size 36 x.cells := (Blk.new w _ _).alloc _
theorem ev_blk2 (w : World) (x y : EvM) : Blk ((w.alloc (.cells x.cells.toArray 36)).alloc (.cells y.cells.toArray 36)) (w.heap.size + 1) 36 y.cells := by
  have := Blk.new (w.alloc (.cells x.cells.toArray 36)) 36 y.cells
  rw [World.size_alloc] at this
  exact this
end Go.Proofs.Ytjjgojjllbdpkaa
/-
  The laws' SameEvent of whatever two events.
-/
namespace Go.Proofs.Ytjjgojjllbdpkaa
open Go.RowKit Go.Maps

set_option maxRecDepth 100000 in
set_option maxHeartbeats 1000000 in
theorem sameEv_any (w : World) (x y : EvM) (hx : EvOk w x) (hy : EvOk w y) :
    Calls Try.prog 8 #[x.val, y.val] w fun e w' => e = .returned (.bool (decide (x.e = y.e))) ∧ Below w.heap.size w w' := by
  have HB := hid (ev_two w x y)
  have HEQ : Hid (Calls Try.prog 20 #[.slice x.ao x.e.deps.length x.cap, .slice y.ao y.e.deps.length y.cap] ((w.alloc (.cells x.cells.toArray 36)).alloc (.cells y.cells.toArray 36)) fun e w' => e = .returned (.bool (decide (x.e.deps = y.e.deps))) ∧ ∃ q, w' = ((w.alloc (.cells x.cells.toArray 36)).alloc (.cells y.cells.toArray 36)).drewN q) :=
    sameVec_any _ x.ao y.ao x.cap y.cap x.e.deps y.e.deps _ _ rfl rfl (hx.deps.below HB.out) (hy.deps.below HB.out)
  obtain ⟨⟨o1, s1, d1, c1, p1, k1, q1, b1⟩, ao1, cap1⟩ := x
  obtain ⟨⟨o2, s2, d2, c2, p2, k2, q2, b2⟩, ao2, cap2⟩ := y
  simp only [EvM.cells] at HB HEQ
  simp only [EvM.val]
  clear hx hy
  obtain ⟨n1, HN1⟩ : ∃ n, Hid (d1.length = n) := ⟨_, hid rfl⟩
  obtain ⟨n2, HN2⟩ : ∃ n, Hid (d2.length = n) := ⟨_, hid rfl⟩
  rw [HN1.out, HN2.out] at HEQ ⊢
  rw [HN1.out, HN2.out] at HB
  by_cases ho : o1 = o2
  rotate_left 1
  · have HF : Hid (decide ((⟨o1, s1, d1, c1, p1, k1, q1, b1⟩ : Ev) = ⟨o2, s2, d2, c2, p2, k2, q2, b2⟩) = false) := decide_eq_false (fun h => ho (by injection h))
    rw [HF.out]
    go_enter Try.func8, Try.ntmps8
    go_wp2
    go_ret
    exact ⟨rfl, HB.out⟩
  subst ho
  by_cases hs : s1 = s2
  rotate_left 1
  · have HF : Hid (decide ((⟨o1, s1, d1, c1, p1, k1, q1, b1⟩ : Ev) = ⟨o1, s2, d2, c2, p2, k2, q2, b2⟩) = false) := decide_eq_false (fun h => hs (by injection h))
    rw [HF.out]
    go_enter Try.func8, Try.ntmps8
    go_wp2
    go_ret
    exact ⟨rfl, HB.out⟩
  subst hs
  obtain ⟨r, HR⟩ : ∃ r, Hid (decide (d1 = d2) = r) := ⟨_, hid rfl⟩
  rw [HR.out] at HEQ
  cases r
  · have HF : Hid (decide ((⟨o1, s1, d1, c1, p1, k1, q1, b1⟩ : Ev) = ⟨o1, s1, d2, c2, p2, k2, q2, b2⟩) = false) := decide_eq_false (fun h => of_decide_eq_false HR.out (by injection h))
    rw [HF.out]
    go_enter Try.func8, Try.ntmps8
    go_wp2_with fail
    refine HEQ.out.mono ?_
    rintro e w' ⟨rfl, q, rfl⟩
    go_wp2
    go_ret
    exact ⟨rfl, below_dn HB.out q⟩
  have HDD := hid (of_decide_eq_true HR.out)
  by_cases hc : c1 = c2
  rotate_left 1
  · have HF : Hid (decide ((⟨o1, s1, d1, c1, p1, k1, q1, b1⟩ : Ev) = ⟨o1, s1, d2, c2, p2, k2, q2, b2⟩) = false) := decide_eq_false (fun h => hc (by injection h))
    rw [HF.out]
    have hbb : ¬ c1.toList = c2.toList := fun hh => hc (bytes_inj hh)
    go_enter Try.func8, Try.ntmps8
    go_wp2_with fail
    refine HEQ.out.mono ?_
    rintro e w' ⟨rfl, q, rfl⟩
    go_wp2
    go_ret
    exact ⟨rfl, below_dn HB.out q⟩
  subst hc
  by_cases hp : p1 = p2
  rotate_left 1
  · have HF : Hid (decide ((⟨o1, s1, d1, c1, p1, k1, q1, b1⟩ : Ev) = ⟨o1, s1, d2, c1, p2, k2, q2, b2⟩) = false) := decide_eq_false (fun h => hp (by injection h))
    rw [HF.out]
    go_enter Try.func8, Try.ntmps8
    go_wp2_with fail
    refine HEQ.out.mono ?_
    rintro e w' ⟨rfl, q, rfl⟩
    go_wp2
    go_ret
    exact ⟨rfl, below_dn HB.out q⟩
  subst hp
  by_cases hk : k1 = k2
  rotate_left 1
  · have HF : Hid (decide ((⟨o1, s1, d1, c1, p1, k1, q1, b1⟩ : Ev) = ⟨o1, s1, d2, c1, p1, k2, q2, b2⟩) = false) := decide_eq_false (fun h => hk (by injection h))
    rw [HF.out]
    have hbb : ¬ k1.toList = k2.toList := fun hh => hk (bytes_inj hh)
    go_enter Try.func8, Try.ntmps8
    go_wp2_with fail
    refine HEQ.out.mono ?_
    rintro e w' ⟨rfl, q, rfl⟩
    go_wp2
    go_ret
    exact ⟨rfl, below_dn HB.out q⟩
  subst hk
  by_cases hq : q1 = q2
  rotate_left 1
  · have HF : Hid (decide ((⟨o1, s1, d1, c1, p1, k1, q1, b1⟩ : Ev) = ⟨o1, s1, d2, c1, p1, k1, q2, b2⟩) = false) := decide_eq_false (fun h => hq (by injection h))
    rw [HF.out]
    go_enter Try.func8, Try.ntmps8
    go_wp2_with fail
    refine HEQ.out.mono ?_
    rintro e w' ⟨rfl, q, rfl⟩
    go_wp2
    go_ret
    exact ⟨rfl, below_dn HB.out q⟩
  subst hq
  by_cases hb : b1 = b2
  rotate_left 1
  · have HF : Hid (decide ((⟨o1, s1, d1, c1, p1, k1, q1, b1⟩ : Ev) = ⟨o1, s1, d2, c1, p1, k1, q1, b2⟩) = false) := decide_eq_false (fun h => hb (by injection h))
    rw [HF.out]
    have hbb : (b1 == b2) = false := by simpa using hb
    go_enter Try.func8, Try.ntmps8
    go_wp2_with fail
    refine HEQ.out.mono ?_
    rintro e w' ⟨rfl, q, rfl⟩
    go_wp2
    go_ret
    exact ⟨rfl, below_dn HB.out q⟩
  subst hb
  have HF : Hid (decide ((⟨o1, s1, d1, c1, p1, k1, q1, b1⟩ : Ev) = ⟨o1, s1, d2, c1, p1, k1, q1, b1⟩) = true) := decide_eq_true (by rw [HDD.out])
  rw [HF.out]
  go_enter Try.func8, Try.ntmps8
  go_wp2_with fail
  refine HEQ.out.mono ?_
  rintro e w' ⟨rfl, q, rfl⟩
  go_wp2
  go_ret
  exact ⟨rfl, below_dn HB.out q⟩
end Go.Proofs.Ytjjgojjllbdpkaa
