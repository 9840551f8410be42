/-
  Package lin: mayBe, isOrder, and the closures of Check and Ids.
-/
import Derived.Test.YtfjmhfbmphdjiaaLnB
import Derived.Test.YtfjmhfbmphdjiaaRoundQuiet
import Derived.Deep.QuietTactic
import Derived.BigQuiet
namespace Go.Proofs.Ytfjmhfbmphdjiaa
open Go.RowKit Go.Maps

/-- May there be such a sight? -/
def mayS (s : Sn) : Bool := decide (1 ≤ s.b ∧ s.b < 4611686018427387904 ∧ 0 ≤ s.id) && (if s.e = 0 then decide (s.id = 0) else decide (s.b ≤ s.e ∧ s.e < 4611686018427387904))
set_option maxRecDepth 100000 in
theorem mayBe_any (w : World) (s : Sn) : Calls Try.prog 15 #[s.val] w (SaysB w (mayS s)) := by
  obtain ⟨W, hW⟩ : ∃ W, W = w.alloc (.cells s.cells.toArray 31) := ⟨_, rfl⟩
  have HB : Hid (Below w.heap.size w W) := by rw [hW]; exact one_new _ _
  have HK : Hid (Blk W w.heap.size 31 s.cells) := by rw [hW]; exact Blk.new w _ _
  have HE := hid (ended_any W s)
  have HW := hid hW
  clear hW
  obtain ⟨MS, HMS⟩ : ∃ m, Hid (mayS s = m) := ⟨_, hid rfl⟩
  rw [HMS.out]
  obtain ⟨co, tok, b, e, id⟩ := s
  simp only [Sn.val, Sn.cells] at HE HK HW ⊢
  have HM : Hid (MS = (decide (1 ≤ b ∧ b < 4611686018427387904 ∧ 0 ≤ id) && (if e = 0 then decide (id = 0) else decide (b ≤ e ∧ e < 4611686018427387904)))) := HMS.out.symm
  clear HMS
  by_cases h1 : b < 1
  · have hm : MS = false := by rw [HM.out, decide_eq_false (by omega)]; rfl
    subst hm
    clear HM
    go_enter Try.func15, Try.ntmps15
    go_wp2
    go_ret
    exact ⟨rfl, one_new _ _⟩
  · by_cases h2 : 4611686018427387904 ≤ b
    · have hm : MS = false := by rw [HM.out, decide_eq_false (by omega)]; rfl
      subst hm
      clear HM
      go_enter Try.func15, Try.ntmps15
      go_wp2
      go_ret
      exact ⟨rfl, one_new _ _⟩
    · by_cases h3 : id < 0
      · have hm : MS = false := by rw [HM.out, decide_eq_false (by omega)]; rfl
        subst hm
        clear HM
        go_enter Try.func15, Try.ntmps15
        go_wp2
        go_ret
        exact ⟨rfl, one_new _ _⟩
      · have HM2 : Hid (MS = (if e = 0 then decide (id = 0) else decide (b ≤ e ∧ e < 4611686018427387904))) := by
          have := HM.out
          rw [decide_eq_true (by omega), Bool.true_and] at this
          exact this
        clear HM
        by_cases h4 : e = 0
        · have hd : decide (e ≠ 0) = false := by simp [h4]
          rw [hd] at HE
          have hm : MS = decide (id = 0) := by rw [HM2.out, if_pos h4]
          clear HM2 hd h4
          go_enter Try.func15, Try.ntmps15
          go_wp2_with fail
          rw [← HW.out]
          obtain ⟨q, hq⟩ : ∃ q, q = w.heap.size := ⟨_, rfl⟩
          rw [← hq] at HK ⊢
          refine HE.out.mono ?_
          rintro e' w' ⟨rfl, hb⟩
          have hk := HK.out.below hb HK.out.lt
          have c4 := hk.cell (i := 4) rfl
          have HBB := hid (bt' HB.out hb)
          have HMM := hid hm
          clear hk hb hm hq
          by_cases h5 : id = 0
          · subst h5
            go_wp2
            go_ret
            exact ⟨by rw [HMM.out]; rfl, HBB.out⟩
          · go_wp2
            go_ret
            exact ⟨by rw [HMM.out]; simp [h5], HBB.out⟩
        · have hd : decide (e ≠ 0) = true := by simp [h4]
          rw [hd] at HE
          have hm : MS = decide (b ≤ e ∧ e < 4611686018427387904) := by rw [HM2.out, if_neg h4]
          clear HM2 hd h4
          go_enter Try.func15, Try.ntmps15
          go_wp2_with fail
          rw [← HW.out]
          obtain ⟨q, hq⟩ : ∃ q, q = w.heap.size := ⟨_, rfl⟩
          rw [← hq] at HK ⊢
          refine HE.out.mono ?_
          rintro e' w' ⟨rfl, hb⟩
          have hk := HK.out.below hb HK.out.lt
          have c2 := hk.cell (i := 2) rfl
          have c3 := hk.cell (i := 3) rfl
          have HBB := hid (bt' HB.out hb)
          have HMM := hid hm
          clear hk hb hm hq
          by_cases h5 : b ≤ e
          · go_wp2
            go_ret
            exact ⟨ret_bool (by rw [HMM.out]; simp [h5]), HBB.out⟩
          · go_wp2
            go_ret
            exact ⟨ret_bool (by rw [HMM.out, decide_eq_false (by omega)]), HBB.out⟩
theorem check1_any (w : World) (s : Sn) : Calls Try.prog 14 #[s.val] w (SaysB w (!mayS s)) := by
  obtain ⟨W, hW⟩ : ∃ W, W = w.alloc (.cells s.cells.toArray 31) := ⟨_, rfl⟩
  have HB : Hid (Below w.heap.size w W) := by rw [hW]; exact one_new _ _
  have HE := hid (mayBe_any W s)
  have HW := hid hW
  clear hW
  obtain ⟨MS, HMS⟩ : ∃ m, Hid (mayS s = m) := ⟨_, hid rfl⟩
  rw [HMS.out] at HE ⊢
  clear HMS
  obtain ⟨co, tok, b, e, id⟩ := s
  simp only [Sn.val, Sn.cells] at HE HW ⊢
  go_enter Try.func14, Try.ntmps14
  go_wp2_with fail
  rw [← HW.out]
  refine HE.out.mono ?_
  rintro e' w' ⟨rfl, hb⟩
  have HBB := hid (bt' HB.out hb)
  clear hb
  go_wp2
  go_ret
  exact ⟨rfl, HBB.out⟩
/-- Is the order of that number that token's? -/
def isOrd (ts : List ByteArray) (id : Int) (tok : ByteArray) : Bool := decide (1 ≤ id ∧ id ≤ (ts.length : Int)) && decide (ts.getD (id - 1).toNat ByteArray.empty = tok)
set_option maxRecDepth 100000 in
theorem isOrder_any (w : World) (ao : Option Addr) (cap : Nat) (ts : List ByteArray) (h : HeldStr w ao ts) (hl : ts.length ≤ 140737488355328) (id : Int) (tok : ByteArray) :
    Calls Try.prog 31 #[.slice ao ts.length cap, .int .i64 id, .string tok] w (SaysB w (isOrd ts id tok)) := by
  have H := hid h
  obtain ⟨IO, HIO⟩ : ∃ m, Hid (isOrd ts id tok = m) := ⟨_, hid rfl⟩
  rw [HIO.out]
  have HI : Hid (IO = (decide (1 ≤ id ∧ id ≤ (ts.length : Int)) && decide (ts.getD (id - 1).toNat ByteArray.empty = tok))) := HIO.out.symm
  clear h HIO
  obtain ⟨n, hn⟩ : ∃ n, n = ts.length := ⟨_, rfl⟩
  rw [← hn] at hl HI ⊢
  have HN := hid hn
  clear hn
  by_cases h1 : 1 ≤ id
  · by_cases h2 : id ≤ (n : Int)
    · obtain ⟨k, hk⟩ : ∃ k : Nat, id = (k : Int) + 1 := ⟨(id - 1).toNat, by omega⟩
      subst hk
      have HI2 : Hid (IO = decide (ts.getD k ByteArray.empty = tok)) := by
        have := HI.out
        rw [decide_eq_true ⟨h1, h2⟩, Bool.true_and, show ((k : Int) + 1 - 1).toNat = k by omega] at this
        exact this
      clear HI
      obtain ⟨b, off, rfl, _, hc⟩ := H.out.at (j := k) (by rw [← HN.out]; omega)
      obtain ⟨T, HT⟩ : ∃ T, Hid (ts.getD k ByteArray.empty = T) := ⟨_, hid rfl⟩
      rw [HT.out] at hc HI2
      have hw1 : wrap64 ((k : Int) + 1 - 1) = k := by rw [show (k : Int) + 1 - 1 = k by omega]; exact wrapS (by omega) (by omega)
      have hk2 : k < n := by omega
      have hk3 : (k : Int) < (n : Int) := by omega
      by_cases h3 : T = tok
      · have hm : IO = true := by rw [HI2.out, decide_eq_true h3]
        subst hm h3
        clear HI2
        go_enter Try.func31, Try.ntmps31
        go_wp2
        go_ret
        exact ⟨ret_bool (by simp), Below.refl _ _⟩
      · have hm : IO = false := by rw [HI2.out, decide_eq_false h3]
        subst hm
        have hb1 : ¬ T.toList = tok.toList := fun hh => h3 (bytes_injS hh)
        have hb2 : (T.toList == tok.toList) = false := beq_eq_false_iff_ne.2 hb1
        clear HI2
        go_enter Try.func31, Try.ntmps31
        go_wp2
        go_ret
        exact ⟨ret_bool (by simp), Below.refl _ _⟩
    · have hm : IO = false := by rw [HI.out, decide_eq_false (by omega)]; rfl
      subst hm
      clear HI
      go_enter Try.func31, Try.ntmps31
      go_wp2
      go_ret
      exact ⟨ret_bool rfl, Below.refl _ _⟩
  · have hm : IO = false := by rw [HI.out, decide_eq_false (by omega)]; rfl
    subst hm
    clear HI
    go_enter Try.func31, Try.ntmps31
    go_wp2
    go_ret
    exact ⟨ret_bool rfl, Below.refl _ _⟩
end Go.Proofs.Ytfjmhfbmphdjiaa
