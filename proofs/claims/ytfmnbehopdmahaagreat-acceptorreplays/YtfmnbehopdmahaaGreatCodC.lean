/-
  Package codec: ballots, seals, entries, votes: whether they may be.
-/
import Derived.Test.YtfmnbehopdmahaaGreatCodA
namespace Go.Proofs.YtfmnbehopdmahaaGreat
open Go.RowKit Go.Maps

theorem calls_bel {P : Program} {f : FuncId} {args : Array Value} {V : World} {v : Value} (h : Calls P f args V fun e w' => e = .returned v ∧ w' = V) : Calls P f args V fun e w' => e = .returned v ∧ Below V.heap.size V w' := h.mono fun _ _ hh => ⟨hh.1, by rw [hh.2]; exact Below.refl _ _⟩
def RightBal (b : Int × Int) : Bool := decide (0 ≤ b.1 ∧ b.1 ≤ 2147483647) && decide (0 ≤ b.2 ∧ b.2 ≤ 6)
def RightSe (e : En) : Bool := nameS e.tok && (nameS e.cart && (decide (0 ≤ e.ep ∧ e.ep ≤ 2147483647) && rightVC e.cut))
def EmptySe (e : En) : Bool := decide (e.tok.size = 0) && (decide (e.cart.size = 0) && (decide (e.ep = 0) && decide (e.cut.length = 0)))
def RightEn (e : En) : Bool := if e.noop then EmptySe e else RightSe e
def RightVo (x : VoM) : Bool := decide (0 ≤ x.slot ∧ x.slot ≤ 2147483647) && (RightBal x.bal && RightEn x.en.e)
set_option maxRecDepth 100000 in
set_option maxHeartbeats 1000000 in
theorem mayBallot_C (w : World) (x : Int × Int) :
    Calls Tryz.prog 94 #[.agg #[.int .i64 x.1, .int .i64 x.2]] w fun e w' => e = .returned (.bool (RightBal x)) ∧ Below w.heap.size w w' := by
  obtain ⟨r, n⟩ := x
  obtain ⟨W, hW⟩ : ∃ W, W = w.alloc (.cells #[.int .i64 r, .int .i64 n] 35) := ⟨_, rfl⟩
  have HB : Hid (Below w.heap.size w W) := by rw [hW]; exact (Below.refl _ _).alloc (Nat.le_refl _) _
  have HK : Hid (Blk W w.heap.size 35 [.int .i64 r, .int .i64 n]) := by rw [hW]; exact Blk.new w _ _
  have HW := hid hW
  have HC0 := hid (fun V (hV : Below W.heap.size W V) => calls_bel (upTo_anyC V (r) 2147483647))
  have HC1 := hid (fun V (hV : Below W.heap.size W V) => calls_bel (upTo_anyC V (n) 6))
  have HR : Hid (RightBal (r, n) = (decide (0 ≤ r ∧ r ≤ 2147483647) && decide (0 ≤ n ∧ n ≤ 6))) := by rfl
  rw [HR.out]
  obtain ⟨b0, HB0⟩ : ∃ b, Hid (decide (0 ≤ r ∧ r ≤ 2147483647) = b) := ⟨_, hid rfl⟩
  rw [HB0.out] at HC0 ⊢
  obtain ⟨b1, HB1⟩ : ∃ b, Hid (decide (0 ≤ n ∧ n ≤ 6) = b) := ⟨_, hid rfl⟩
  rw [HB1.out] at HC1 ⊢
  clear hW HR HB0 HB1 
  cases b0
  · skip
    go_enter Tryz.func94, Tryz.ntmps94
    go_wp2_with fail
    rw [← HW.out]
    refine (HC0.out _ (Below.refl _ _)).mono ?_
    rintro e w1 ⟨rfl, hb1⟩
    have HX1 := hid hb1
    go_wp2
    go_ret
    exact ⟨rfl, bt' HB.out HX1.out⟩
  go_enter Tryz.func94, Tryz.ntmps94
  go_wp2_with fail
  rw [← HW.out]
  refine (HC0.out _ (Below.refl _ _)).mono ?_
  rintro e w1 ⟨rfl, hb1⟩
  have HX1 := hid hb1
  have hk1 := HK.out.below HX1.out HK.out.lt
  have c1_0 := hk1.cell (i := 0) rfl
  have c1_1 := hk1.cell (i := 1) rfl
  clear hb1 hk1
  go_wp2_with fail
  refine (HC1.out _ HX1.out).mono ?_
  rintro e w2 ⟨rfl, hb2⟩
  have HX2 := hid (bt' HX1.out hb2)
  go_wp2
  go_ret
  exact ⟨rfl, bt' HB.out HX2.out⟩
set_option maxRecDepth 100000 in
set_option maxHeartbeats 1000000 in
theorem maySeal_C (w : World) (x : EnM) (hx : EnOk w x) :
    Calls Tryz.prog 143 #[.agg #[.string x.e.tok, .string x.e.cart, .int .i64 x.e.ep, .slice x.ao x.e.cut.length x.cap]] w fun e w' => e = .returned (.bool (RightSe x.e)) ∧ Below w.heap.size w w' := by
  obtain ⟨⟨np, tk, ct, ep, cut⟩, ao1, cap1⟩ := x
  obtain ⟨XN, HXN⟩ : ∃ m, Hid (cut.length = m) := ⟨_, hid rfl⟩
  simp only
  rw [HXN.out]
  obtain ⟨W, hW⟩ : ∃ W, W = w.alloc (.cells #[.string tk, .string ct, .int .i64 ep, .slice ao1 XN cap1] 37) := ⟨_, rfl⟩
  have HB : Hid (Below w.heap.size w W) := by rw [hW]; exact (Below.refl _ _).alloc (Nat.le_refl _) _
  have HK : Hid (Blk W w.heap.size 37 [.string tk, .string ct, .int .i64 ep, .slice ao1 XN cap1]) := by rw [hW]; exact Blk.new w _ _
  have HW := hid hW
  have HC0 := hid (fun V (hV : Below W.heap.size W V) => calls_bel (codecName_any tk V hx.ht))
  have HC1 := hid (fun V (hV : Below W.heap.size W V) => calls_bel (codecName_any ct V hx.hc))
  have HC2 := hid (fun V (hV : Below W.heap.size W V) => calls_bel (upTo_anyC V (ep) 2147483647))
  have HC3 := hid (fun V (hV : Below W.heap.size W V) => calls_bel (mayVector_anyC V ao1 cap1 cut XN HXN.out ((hx.cut.below HB.out).below hV)))
  have HR : Hid (RightSe ⟨np, tk, ct, ep, cut⟩ = (nameS tk && (nameS ct && (decide (0 ≤ ep ∧ ep ≤ 2147483647) && rightVC cut)))) := by rfl
  rw [HR.out]
  obtain ⟨b0, HB0⟩ : ∃ b, Hid (nameS tk = b) := ⟨_, hid rfl⟩
  rw [HB0.out] at HC0 ⊢
  obtain ⟨b1, HB1⟩ : ∃ b, Hid (nameS ct = b) := ⟨_, hid rfl⟩
  rw [HB1.out] at HC1 ⊢
  obtain ⟨b2, HB2⟩ : ∃ b, Hid (decide (0 ≤ ep ∧ ep ≤ 2147483647) = b) := ⟨_, hid rfl⟩
  rw [HB2.out] at HC2 ⊢
  obtain ⟨b3, HB3⟩ : ∃ b, Hid (rightVC cut = b) := ⟨_, hid rfl⟩
  rw [HB3.out] at HC3 ⊢
  clear hW HR HB0 HB1 HB2 HB3 hx
  cases b0
  · skip
    go_enter Tryz.func143, Tryz.ntmps143
    go_wp2_with fail
    rw [← HW.out]
    refine (HC0.out _ (Below.refl _ _)).mono ?_
    rintro e w1 ⟨rfl, hb1⟩
    have HX1 := hid hb1
    go_wp2
    go_ret
    exact ⟨rfl, bt' HB.out HX1.out⟩
  cases b1
  · skip
    go_enter Tryz.func143, Tryz.ntmps143
    go_wp2_with fail
    rw [← HW.out]
    refine (HC0.out _ (Below.refl _ _)).mono ?_
    rintro e w1 ⟨rfl, hb1⟩
    have HX1 := hid hb1
    have hk1 := HK.out.below HX1.out HK.out.lt
    have c1_0 := hk1.cell (i := 0) rfl
    have c1_1 := hk1.cell (i := 1) rfl
    have c1_2 := hk1.cell (i := 2) rfl
    have c1_3 := hk1.cell (i := 3) rfl
    clear hb1 hk1
    go_wp2_with fail
    refine (HC1.out _ HX1.out).mono ?_
    rintro e w2 ⟨rfl, hb2⟩
    have HX2 := hid (bt' HX1.out hb2)
    go_wp2
    go_ret
    exact ⟨rfl, bt' HB.out HX2.out⟩
  cases b2
  · skip
    go_enter Tryz.func143, Tryz.ntmps143
    go_wp2_with fail
    rw [← HW.out]
    refine (HC0.out _ (Below.refl _ _)).mono ?_
    rintro e w1 ⟨rfl, hb1⟩
    have HX1 := hid hb1
    have hk1 := HK.out.below HX1.out HK.out.lt
    have c1_0 := hk1.cell (i := 0) rfl
    have c1_1 := hk1.cell (i := 1) rfl
    have c1_2 := hk1.cell (i := 2) rfl
    have c1_3 := hk1.cell (i := 3) rfl
    clear hb1 hk1
    go_wp2_with fail
    refine (HC1.out _ HX1.out).mono ?_
    rintro e w2 ⟨rfl, hb2⟩
    have HX2 := hid (bt' HX1.out hb2)
    have hk2 := HK.out.below HX2.out HK.out.lt
    have c2_0 := hk2.cell (i := 0) rfl
    have c2_1 := hk2.cell (i := 1) rfl
    have c2_2 := hk2.cell (i := 2) rfl
    have c2_3 := hk2.cell (i := 3) rfl
    clear hb2 hk2 c1_0 c1_1 c1_2 c1_3
    go_wp2_with fail
    refine (HC2.out _ HX2.out).mono ?_
    rintro e w3 ⟨rfl, hb3⟩
    have HX3 := hid (bt' HX2.out hb3)
    go_wp2
    go_ret
    exact ⟨rfl, bt' HB.out HX3.out⟩
  go_enter Tryz.func143, Tryz.ntmps143
  go_wp2_with fail
  rw [← HW.out]
  refine (HC0.out _ (Below.refl _ _)).mono ?_
  rintro e w1 ⟨rfl, hb1⟩
  have HX1 := hid hb1
  have hk1 := HK.out.below HX1.out HK.out.lt
  have c1_0 := hk1.cell (i := 0) rfl
  have c1_1 := hk1.cell (i := 1) rfl
  have c1_2 := hk1.cell (i := 2) rfl
  have c1_3 := hk1.cell (i := 3) rfl
  clear hb1 hk1
  go_wp2_with fail
  refine (HC1.out _ HX1.out).mono ?_
  rintro e w2 ⟨rfl, hb2⟩
  have HX2 := hid (bt' HX1.out hb2)
  have hk2 := HK.out.below HX2.out HK.out.lt
  have c2_0 := hk2.cell (i := 0) rfl
  have c2_1 := hk2.cell (i := 1) rfl
  have c2_2 := hk2.cell (i := 2) rfl
  have c2_3 := hk2.cell (i := 3) rfl
  clear hb2 hk2 c1_0 c1_1 c1_2 c1_3
  go_wp2_with fail
  refine (HC2.out _ HX2.out).mono ?_
  rintro e w3 ⟨rfl, hb3⟩
  have HX3 := hid (bt' HX2.out hb3)
  have hk3 := HK.out.below HX3.out HK.out.lt
  have c3_0 := hk3.cell (i := 0) rfl
  have c3_1 := hk3.cell (i := 1) rfl
  have c3_2 := hk3.cell (i := 2) rfl
  have c3_3 := hk3.cell (i := 3) rfl
  clear hb3 hk3 c2_0 c2_1 c2_2 c2_3
  go_wp2_with fail
  refine (HC3.out _ HX3.out).mono ?_
  rintro e w4 ⟨rfl, hb4⟩
  have HX4 := hid (bt' HX3.out hb4)
  go_wp2
  go_ret
  exact ⟨rfl, bt' HB.out HX4.out⟩
theorem emptyS {s : ByteArray} (h : s.size = 0) : s = ⟨#[]⟩ := by
  obtain ⟨d⟩ := s
  congr 1
  exact Array.eq_empty_of_size_eq_zero h
theorem bytes_injC {a b : ByteArray} (h : a.toList = b.toList) : a = b := by
  rw [ByteArray.toList_eq, ByteArray.toList_eq] at h
  exact ByteArray.ext (Array.toList_inj.1 h)
theorem not_emptyS {s : ByteArray} (h : ¬ s.size = 0) : (s.toList == ([] : List UInt8)) = false := by
  rw [beq_eq_false_iff_ne]
  intro e
  apply h
  have : s = ⟨#[]⟩ := bytes_injC (e.trans (by rw [ByteArray.toList_eq]))
  rw [this]
  rfl
set_option maxRecDepth 100000 in
theorem emptySeal_C (w : World) (x : EnM) : Calls Tryz.prog 142 #[.agg #[.string x.e.tok, .string x.e.cart, .int .i64 x.e.ep, .slice x.ao x.e.cut.length x.cap]] w fun e w' => e = .returned (.bool (EmptySe x.e)) ∧ Below w.heap.size w w' := by
  obtain ⟨⟨np, tk, ct, ep, cut⟩, ao1, cap1⟩ := x
  obtain ⟨XN, HXN⟩ : ∃ m, Hid (cut.length = m) := ⟨_, hid rfl⟩
  simp only
  rw [HXN.out]
  have HB : Hid (Below w.heap.size w (w.alloc (.cells #[.string tk, .string ct, .int .i64 ep, .slice ao1 XN cap1] 37))) := (Below.refl _ _).alloc (Nat.le_refl _) _
  have HR : Hid (EmptySe ⟨np, tk, ct, ep, cut⟩ = (decide (tk.size = 0) && (decide (ct.size = 0) && (decide (ep = 0) && decide (XN = 0))))) := by show _ = _; rw [← HXN.out]; rfl
  rw [HR.out]
  by_cases h1 : tk.size = 0
  · rw [decide_eq_true h1]
    obtain rfl := emptyS h1
    by_cases h2 : ct.size = 0
    · rw [decide_eq_true h2]
      obtain rfl := emptyS h2
      clear h1 h2
      by_cases h3 : ep = 0
      · subst h3
        go_enter Tryz.func142, Tryz.ntmps142
        go_wp2
        go_ret
        exact ⟨ret_bool (by rw [Bool.eq_iff_iff]; simp), HB.out⟩
      · have h3' : (ep == 0) = false := by simpa using h3
        rw [decide_eq_false h3]
        go_enter Tryz.func142, Tryz.ntmps142
        go_wp2
        go_ret
        exact ⟨rfl, HB.out⟩
    · have h2' := not_emptyS h2
      rw [decide_eq_false h2]
      clear h1 h2
      go_enter Tryz.func142, Tryz.ntmps142
      go_wp2
      go_ret
      exact ⟨rfl, HB.out⟩
  · have h1' := not_emptyS h1
    rw [decide_eq_false h1]
    clear h1
    go_enter Tryz.func142, Tryz.ntmps142
    go_wp2
    go_ret
    exact ⟨rfl, HB.out⟩
set_option maxRecDepth 100000 in
theorem mayEntry_C (w : World) (x : EnM) (hx : EnOk w x) : Calls Tryz.prog 95 #[x.val] w fun e w' => e = .returned (.bool (RightEn x.e)) ∧ Below w.heap.size w w' := by
  obtain ⟨⟨np, tk, ct, ep, cut⟩, ao1, cap1⟩ := x
  obtain ⟨XN, HXN⟩ : ∃ m, Hid (cut.length = m) := ⟨_, hid rfl⟩
  simp only [EnM.val]
  rw [HXN.out]
  obtain ⟨W, hW⟩ : ∃ W, W = w.alloc (.cells #[.bool np, .string tk, .string ct, .int .i64 ep, .slice ao1 XN cap1] 39) := ⟨_, rfl⟩
  have HB : Hid (Below w.heap.size w W) := by rw [hW]; exact (Below.refl _ _).alloc (Nat.le_refl _) _
  have HW := hid hW
  have HOX : Hid (EnOk W ⟨⟨np, tk, ct, ep, cut⟩, ao1, cap1⟩) := hx.below HB.out
  clear hW hx
  cases np with
  | true =>
    have HC : Hid (Calls Tryz.prog 142 #[.agg #[.string tk, .string ct, .int .i64 ep, .slice ao1 XN cap1]] W fun e w' => e = .returned (.bool (RightEn ⟨true, tk, ct, ep, cut⟩)) ∧ Below W.heap.size W w') := by
      have := emptySeal_C W ⟨⟨true, tk, ct, ep, cut⟩, ao1, cap1⟩
      simp only at this
      rw [HXN.out] at this
      exact this
    clear HOX
    go_enter Tryz.func95, Tryz.ntmps95
    go_wp2_with fail
    rw [← HW.out]
    refine HC.out.mono ?_
    rintro e w1 ⟨rfl, hb1⟩
    have HB1 := hid (bt' HB.out hb1)
    clear hb1
    go_wp2
    go_ret
    exact ⟨rfl, HB1.out⟩
  | false =>
    have HC : Hid (Calls Tryz.prog 143 #[.agg #[.string tk, .string ct, .int .i64 ep, .slice ao1 XN cap1]] W fun e w' => e = .returned (.bool (RightEn ⟨false, tk, ct, ep, cut⟩)) ∧ Below W.heap.size W w') := by
      have := maySeal_C W ⟨⟨false, tk, ct, ep, cut⟩, ao1, cap1⟩ ⟨HOX.out.cut, HOX.out.ie, HOX.out.ht, HOX.out.hc⟩
      simp only at this
      rw [HXN.out] at this
      exact this
    clear HOX
    go_enter Tryz.func95, Tryz.ntmps95
    go_wp2_with fail
    rw [← HW.out]
    refine HC.out.mono ?_
    rintro e w1 ⟨rfl, hb1⟩
    have HB1 := hid (bt' HB.out hb1)
    clear hb1
    go_wp2
    go_ret
    exact ⟨rfl, HB1.out⟩
set_option maxRecDepth 100000 in
set_option maxHeartbeats 1000000 in
theorem mayVoted_C (w : World) (x : VoM) (hx : VoOk w x) :
    Calls Tryz.prog 97 #[x.val] w fun e w' => e = .returned (.bool (RightVo x)) ∧ Below w.heap.size w w' := by
  obtain ⟨sl, ⟨b1, b2⟩, ⟨np, tk, ct, ep, cut⟩, ao1, cap1⟩ := x
  obtain ⟨XN, HXN⟩ : ∃ m, Hid (cut.length = m) := ⟨_, hid rfl⟩
  simp only [VoM.val]
  rw [HXN.out]
  obtain ⟨W, hW⟩ : ∃ W, W = w.alloc (.cells #[.int .i64 sl, .int .i64 b1, .int .i64 b2, .bool np, .string tk, .string ct, .int .i64 ep, .slice ao1 XN cap1] 73) := ⟨_, rfl⟩
  have HB : Hid (Below w.heap.size w W) := by rw [hW]; exact (Below.refl _ _).alloc (Nat.le_refl _) _
  have HK : Hid (Blk W w.heap.size 73 [.int .i64 sl, .int .i64 b1, .int .i64 b2, .bool np, .string tk, .string ct, .int .i64 ep, .slice ao1 XN cap1]) := by rw [hW]; exact Blk.new w _ _
  have HW := hid hW
  have HC0 := hid (fun V (hV : Below W.heap.size W V) => calls_bel (upTo_anyC V (sl) 2147483647))
  have HC1 := hid (fun V (hV : Below W.heap.size W V) => mayBallot_C V (b1, b2))
  have HC2 := hid (fun V (hV : Below W.heap.size W V) => (show Calls Tryz.prog 95 #[.agg #[.bool np, .string tk, .string ct, .int .i64 ep, .slice ao1 XN cap1]] V fun e w' => e = .returned (.bool (RightEn ⟨np, tk, ct, ep, cut⟩)) ∧ Below V.heap.size V w' from by have := mayEntry_C V ⟨⟨np, tk, ct, ep, cut⟩, ao1, cap1⟩ ((hx.en.below HB.out).below hV); simp only [EnM.val] at this; rw [HXN.out] at this; exact this))
  have HR : Hid (RightVo ⟨sl, (b1, b2), ⟨np, tk, ct, ep, cut⟩, ao1, cap1⟩ = (decide (0 ≤ sl ∧ sl ≤ 2147483647) && (RightBal (b1, b2) && RightEn ⟨np, tk, ct, ep, cut⟩))) := by rfl
  rw [HR.out]
  obtain ⟨b0, HB0⟩ : ∃ b, Hid (decide (0 ≤ sl ∧ sl ≤ 2147483647) = b) := ⟨_, hid rfl⟩
  rw [HB0.out] at HC0 ⊢
  obtain ⟨b1, HB1⟩ : ∃ b, Hid (RightBal (b1, b2) = b) := ⟨_, hid rfl⟩
  rw [HB1.out] at HC1 ⊢
  obtain ⟨b2, HB2⟩ : ∃ b, Hid (RightEn ⟨np, tk, ct, ep, cut⟩ = b) := ⟨_, hid rfl⟩
  rw [HB2.out] at HC2 ⊢
  clear hW HR HB0 HB1 HB2 hx
  cases b0
  · skip
    go_enter Tryz.func97, Tryz.ntmps97
    go_wp2_with fail
    rw [← HW.out]
    refine (HC0.out _ (Below.refl _ _)).mono ?_
    rintro e w1 ⟨rfl, hb1⟩
    have HX1 := hid hb1
    go_wp2
    go_ret
    exact ⟨rfl, bt' HB.out HX1.out⟩
  cases b1
  · skip
    go_enter Tryz.func97, Tryz.ntmps97
    go_wp2_with fail
    rw [← HW.out]
    refine (HC0.out _ (Below.refl _ _)).mono ?_
    rintro e w1 ⟨rfl, hb1⟩
    have HX1 := hid hb1
    have hk1 := HK.out.below HX1.out HK.out.lt
    have c1_0 := hk1.cell (i := 0) rfl
    have c1_1 := hk1.cell (i := 1) rfl
    have c1_2 := hk1.cell (i := 2) rfl
    have c1_3 := hk1.cell (i := 3) rfl
    have c1_4 := hk1.cell (i := 4) rfl
    have c1_5 := hk1.cell (i := 5) rfl
    have c1_6 := hk1.cell (i := 6) rfl
    have c1_7 := hk1.cell (i := 7) rfl
    clear hb1 hk1
    go_wp2_with fail
    refine (HC1.out _ HX1.out).mono ?_
    rintro e w2 ⟨rfl, hb2⟩
    have HX2 := hid (bt' HX1.out hb2)
    go_wp2
    go_ret
    exact ⟨rfl, bt' HB.out HX2.out⟩
  go_enter Tryz.func97, Tryz.ntmps97
  go_wp2_with fail
  rw [← HW.out]
  refine (HC0.out _ (Below.refl _ _)).mono ?_
  rintro e w1 ⟨rfl, hb1⟩
  have HX1 := hid hb1
  have hk1 := HK.out.below HX1.out HK.out.lt
  have c1_0 := hk1.cell (i := 0) rfl
  have c1_1 := hk1.cell (i := 1) rfl
  have c1_2 := hk1.cell (i := 2) rfl
  have c1_3 := hk1.cell (i := 3) rfl
  have c1_4 := hk1.cell (i := 4) rfl
  have c1_5 := hk1.cell (i := 5) rfl
  have c1_6 := hk1.cell (i := 6) rfl
  have c1_7 := hk1.cell (i := 7) rfl
  clear hb1 hk1
  go_wp2_with fail
  refine (HC1.out _ HX1.out).mono ?_
  rintro e w2 ⟨rfl, hb2⟩
  have HX2 := hid (bt' HX1.out hb2)
  have hk2 := HK.out.below HX2.out HK.out.lt
  have c2_0 := hk2.cell (i := 0) rfl
  have c2_1 := hk2.cell (i := 1) rfl
  have c2_2 := hk2.cell (i := 2) rfl
  have c2_3 := hk2.cell (i := 3) rfl
  have c2_4 := hk2.cell (i := 4) rfl
  have c2_5 := hk2.cell (i := 5) rfl
  have c2_6 := hk2.cell (i := 6) rfl
  have c2_7 := hk2.cell (i := 7) rfl
  clear hb2 hk2 c1_0 c1_1 c1_2 c1_3 c1_4 c1_5 c1_6 c1_7
  go_wp2_with fail
  refine (HC2.out _ HX2.out).mono ?_
  rintro e w3 ⟨rfl, hb3⟩
  have HX3 := hid (bt' HX2.out hb3)
  go_wp2
  go_ret
  exact ⟨rfl, bt' HB.out HX3.out⟩
def RightEvC (e : Ev) : Bool := decide (0 ≤ e.o ∧ e.o ≤ 6) && (decide (0 ≤ e.s ∧ e.s ≤ 2147483647) && (rightVC e.deps && (nameS e.cart && (decide (0 ≤ e.epoch ∧ e.epoch ≤ 2147483647) && (nameS e.sku && decide (0 ≤ e.qty ∧ e.qty ≤ 1000))))))
set_option maxRecDepth 100000 in
set_option maxHeartbeats 1000000 in
theorem mayEvent_C (w : World) (x : EvM) (hx : EvOk w x) :
    Calls Tryz.prog 100 #[x.val] w fun e w' => e = .returned (.bool (RightEvC x.e)) ∧ Below w.heap.size w w' := by
  obtain ⟨⟨o, s, dp, ct, ep, sk, qt, cl⟩, ao1, cap1⟩ := x
  obtain ⟨XN, HXN⟩ : ∃ m, Hid (dp.length = m) := ⟨_, hid rfl⟩
  simp only [EvM.val]
  rw [HXN.out]
  obtain ⟨W, hW⟩ : ∃ W, W = w.alloc (.cells #[.int .i64 o, .int .i64 s, .slice ao1 XN cap1, .string ct, .int .i64 ep, .string sk, .int .i64 qt, .bool cl] 97) := ⟨_, rfl⟩
  have HB : Hid (Below w.heap.size w W) := by rw [hW]; exact (Below.refl _ _).alloc (Nat.le_refl _) _
  have HK : Hid (Blk W w.heap.size 97 [.int .i64 o, .int .i64 s, .slice ao1 XN cap1, .string ct, .int .i64 ep, .string sk, .int .i64 qt, .bool cl]) := by rw [hW]; exact Blk.new w _ _
  have HW := hid hW
  have HC0 := hid (fun V (hV : Below W.heap.size W V) => calls_bel (upTo_anyC V (o) 6))
  have HC1 := hid (fun V (hV : Below W.heap.size W V) => calls_bel (upTo_anyC V (s) 2147483647))
  have HC2 := hid (fun V (hV : Below W.heap.size W V) => calls_bel (mayVector_anyC V ao1 cap1 dp XN HXN.out ((hx.deps.below HB.out).below hV)))
  have HC3 := hid (fun V (hV : Below W.heap.size W V) => calls_bel (codecName_any ct V hx.hc))
  have HC4 := hid (fun V (hV : Below W.heap.size W V) => calls_bel (upTo_anyC V (ep) 2147483647))
  have HC5 := hid (fun V (hV : Below W.heap.size W V) => calls_bel (codecName_any sk V hx.hs))
  have HC6 := hid (fun V (hV : Below W.heap.size W V) => calls_bel (upTo_anyC V (qt) 1000))
  have HR : Hid (RightEvC ⟨o, s, dp, ct, ep, sk, qt, cl⟩ = (decide (0 ≤ o ∧ o ≤ 6) && (decide (0 ≤ s ∧ s ≤ 2147483647) && (rightVC dp && (nameS ct && (decide (0 ≤ ep ∧ ep ≤ 2147483647) && (nameS sk && decide (0 ≤ qt ∧ qt ≤ 1000)))))))) := by rfl
  rw [HR.out]
  obtain ⟨b0, HB0⟩ : ∃ b, Hid (decide (0 ≤ o ∧ o ≤ 6) = b) := ⟨_, hid rfl⟩
  rw [HB0.out] at HC0 ⊢
  obtain ⟨b1, HB1⟩ : ∃ b, Hid (decide (0 ≤ s ∧ s ≤ 2147483647) = b) := ⟨_, hid rfl⟩
  rw [HB1.out] at HC1 ⊢
  obtain ⟨b2, HB2⟩ : ∃ b, Hid (rightVC dp = b) := ⟨_, hid rfl⟩
  rw [HB2.out] at HC2 ⊢
  obtain ⟨b3, HB3⟩ : ∃ b, Hid (nameS ct = b) := ⟨_, hid rfl⟩
  rw [HB3.out] at HC3 ⊢
  obtain ⟨b4, HB4⟩ : ∃ b, Hid (decide (0 ≤ ep ∧ ep ≤ 2147483647) = b) := ⟨_, hid rfl⟩
  rw [HB4.out] at HC4 ⊢
  obtain ⟨b5, HB5⟩ : ∃ b, Hid (nameS sk = b) := ⟨_, hid rfl⟩
  rw [HB5.out] at HC5 ⊢
  obtain ⟨b6, HB6⟩ : ∃ b, Hid (decide (0 ≤ qt ∧ qt ≤ 1000) = b) := ⟨_, hid rfl⟩
  rw [HB6.out] at HC6 ⊢
  clear hW HR HB0 HB1 HB2 HB3 HB4 HB5 HB6 hx
  cases b0
  · skip
    go_enter Tryz.func100, Tryz.ntmps100
    go_wp2_with fail
    rw [← HW.out]
    refine (HC0.out _ (Below.refl _ _)).mono ?_
    rintro e w1 ⟨rfl, hb1⟩
    have HX1 := hid hb1
    go_wp2
    go_ret
    exact ⟨rfl, bt' HB.out HX1.out⟩
  cases b1
  · skip
    go_enter Tryz.func100, Tryz.ntmps100
    go_wp2_with fail
    rw [← HW.out]
    refine (HC0.out _ (Below.refl _ _)).mono ?_
    rintro e w1 ⟨rfl, hb1⟩
    have HX1 := hid hb1
    have hk1 := HK.out.below HX1.out HK.out.lt
    have c1_0 := hk1.cell (i := 0) rfl
    have c1_1 := hk1.cell (i := 1) rfl
    have c1_2 := hk1.cell (i := 2) rfl
    have c1_3 := hk1.cell (i := 3) rfl
    have c1_4 := hk1.cell (i := 4) rfl
    have c1_5 := hk1.cell (i := 5) rfl
    have c1_6 := hk1.cell (i := 6) rfl
    have c1_7 := hk1.cell (i := 7) rfl
    clear hb1 hk1
    go_wp2_with fail
    refine (HC1.out _ HX1.out).mono ?_
    rintro e w2 ⟨rfl, hb2⟩
    have HX2 := hid (bt' HX1.out hb2)
    go_wp2
    go_ret
    exact ⟨rfl, bt' HB.out HX2.out⟩
  cases b2
  · skip
    go_enter Tryz.func100, Tryz.ntmps100
    go_wp2_with fail
    rw [← HW.out]
    refine (HC0.out _ (Below.refl _ _)).mono ?_
    rintro e w1 ⟨rfl, hb1⟩
    have HX1 := hid hb1
    have hk1 := HK.out.below HX1.out HK.out.lt
    have c1_0 := hk1.cell (i := 0) rfl
    have c1_1 := hk1.cell (i := 1) rfl
    have c1_2 := hk1.cell (i := 2) rfl
    have c1_3 := hk1.cell (i := 3) rfl
    have c1_4 := hk1.cell (i := 4) rfl
    have c1_5 := hk1.cell (i := 5) rfl
    have c1_6 := hk1.cell (i := 6) rfl
    have c1_7 := hk1.cell (i := 7) rfl
    clear hb1 hk1
    go_wp2_with fail
    refine (HC1.out _ HX1.out).mono ?_
    rintro e w2 ⟨rfl, hb2⟩
    have HX2 := hid (bt' HX1.out hb2)
    have hk2 := HK.out.below HX2.out HK.out.lt
    have c2_0 := hk2.cell (i := 0) rfl
    have c2_1 := hk2.cell (i := 1) rfl
    have c2_2 := hk2.cell (i := 2) rfl
    have c2_3 := hk2.cell (i := 3) rfl
    have c2_4 := hk2.cell (i := 4) rfl
    have c2_5 := hk2.cell (i := 5) rfl
    have c2_6 := hk2.cell (i := 6) rfl
    have c2_7 := hk2.cell (i := 7) rfl
    clear hb2 hk2 c1_0 c1_1 c1_2 c1_3 c1_4 c1_5 c1_6 c1_7
    go_wp2_with fail
    refine (HC2.out _ HX2.out).mono ?_
    rintro e w3 ⟨rfl, hb3⟩
    have HX3 := hid (bt' HX2.out hb3)
    go_wp2
    go_ret
    exact ⟨rfl, bt' HB.out HX3.out⟩
  cases b3
  · skip
    go_enter Tryz.func100, Tryz.ntmps100
    go_wp2_with fail
    rw [← HW.out]
    refine (HC0.out _ (Below.refl _ _)).mono ?_
    rintro e w1 ⟨rfl, hb1⟩
    have HX1 := hid hb1
    have hk1 := HK.out.below HX1.out HK.out.lt
    have c1_0 := hk1.cell (i := 0) rfl
    have c1_1 := hk1.cell (i := 1) rfl
    have c1_2 := hk1.cell (i := 2) rfl
    have c1_3 := hk1.cell (i := 3) rfl
    have c1_4 := hk1.cell (i := 4) rfl
    have c1_5 := hk1.cell (i := 5) rfl
    have c1_6 := hk1.cell (i := 6) rfl
    have c1_7 := hk1.cell (i := 7) rfl
    clear hb1 hk1
    go_wp2_with fail
    refine (HC1.out _ HX1.out).mono ?_
    rintro e w2 ⟨rfl, hb2⟩
    have HX2 := hid (bt' HX1.out hb2)
    have hk2 := HK.out.below HX2.out HK.out.lt
    have c2_0 := hk2.cell (i := 0) rfl
    have c2_1 := hk2.cell (i := 1) rfl
    have c2_2 := hk2.cell (i := 2) rfl
    have c2_3 := hk2.cell (i := 3) rfl
    have c2_4 := hk2.cell (i := 4) rfl
    have c2_5 := hk2.cell (i := 5) rfl
    have c2_6 := hk2.cell (i := 6) rfl
    have c2_7 := hk2.cell (i := 7) rfl
    clear hb2 hk2 c1_0 c1_1 c1_2 c1_3 c1_4 c1_5 c1_6 c1_7
    go_wp2_with fail
    refine (HC2.out _ HX2.out).mono ?_
    rintro e w3 ⟨rfl, hb3⟩
    have HX3 := hid (bt' HX2.out hb3)
    have hk3 := HK.out.below HX3.out HK.out.lt
    have c3_0 := hk3.cell (i := 0) rfl
    have c3_1 := hk3.cell (i := 1) rfl
    have c3_2 := hk3.cell (i := 2) rfl
    have c3_3 := hk3.cell (i := 3) rfl
    have c3_4 := hk3.cell (i := 4) rfl
    have c3_5 := hk3.cell (i := 5) rfl
    have c3_6 := hk3.cell (i := 6) rfl
    have c3_7 := hk3.cell (i := 7) rfl
    clear hb3 hk3 c2_0 c2_1 c2_2 c2_3 c2_4 c2_5 c2_6 c2_7
    go_wp2_with fail
    refine (HC3.out _ HX3.out).mono ?_
    rintro e w4 ⟨rfl, hb4⟩
    have HX4 := hid (bt' HX3.out hb4)
    go_wp2
    go_ret
    exact ⟨rfl, bt' HB.out HX4.out⟩
  cases b4
  · skip
    go_enter Tryz.func100, Tryz.ntmps100
    go_wp2_with fail
    rw [← HW.out]
    refine (HC0.out _ (Below.refl _ _)).mono ?_
    rintro e w1 ⟨rfl, hb1⟩
    have HX1 := hid hb1
    have hk1 := HK.out.below HX1.out HK.out.lt
    have c1_0 := hk1.cell (i := 0) rfl
    have c1_1 := hk1.cell (i := 1) rfl
    have c1_2 := hk1.cell (i := 2) rfl
    have c1_3 := hk1.cell (i := 3) rfl
    have c1_4 := hk1.cell (i := 4) rfl
    have c1_5 := hk1.cell (i := 5) rfl
    have c1_6 := hk1.cell (i := 6) rfl
    have c1_7 := hk1.cell (i := 7) rfl
    clear hb1 hk1
    go_wp2_with fail
    refine (HC1.out _ HX1.out).mono ?_
    rintro e w2 ⟨rfl, hb2⟩
    have HX2 := hid (bt' HX1.out hb2)
    have hk2 := HK.out.below HX2.out HK.out.lt
    have c2_0 := hk2.cell (i := 0) rfl
    have c2_1 := hk2.cell (i := 1) rfl
    have c2_2 := hk2.cell (i := 2) rfl
    have c2_3 := hk2.cell (i := 3) rfl
    have c2_4 := hk2.cell (i := 4) rfl
    have c2_5 := hk2.cell (i := 5) rfl
    have c2_6 := hk2.cell (i := 6) rfl
    have c2_7 := hk2.cell (i := 7) rfl
    clear hb2 hk2 c1_0 c1_1 c1_2 c1_3 c1_4 c1_5 c1_6 c1_7
    go_wp2_with fail
    refine (HC2.out _ HX2.out).mono ?_
    rintro e w3 ⟨rfl, hb3⟩
    have HX3 := hid (bt' HX2.out hb3)
    have hk3 := HK.out.below HX3.out HK.out.lt
    have c3_0 := hk3.cell (i := 0) rfl
    have c3_1 := hk3.cell (i := 1) rfl
    have c3_2 := hk3.cell (i := 2) rfl
    have c3_3 := hk3.cell (i := 3) rfl
    have c3_4 := hk3.cell (i := 4) rfl
    have c3_5 := hk3.cell (i := 5) rfl
    have c3_6 := hk3.cell (i := 6) rfl
    have c3_7 := hk3.cell (i := 7) rfl
    clear hb3 hk3 c2_0 c2_1 c2_2 c2_3 c2_4 c2_5 c2_6 c2_7
    go_wp2_with fail
    refine (HC3.out _ HX3.out).mono ?_
    rintro e w4 ⟨rfl, hb4⟩
    have HX4 := hid (bt' HX3.out hb4)
    have hk4 := HK.out.below HX4.out HK.out.lt
    have c4_0 := hk4.cell (i := 0) rfl
    have c4_1 := hk4.cell (i := 1) rfl
    have c4_2 := hk4.cell (i := 2) rfl
    have c4_3 := hk4.cell (i := 3) rfl
    have c4_4 := hk4.cell (i := 4) rfl
    have c4_5 := hk4.cell (i := 5) rfl
    have c4_6 := hk4.cell (i := 6) rfl
    have c4_7 := hk4.cell (i := 7) rfl
    clear hb4 hk4 c3_0 c3_1 c3_2 c3_3 c3_4 c3_5 c3_6 c3_7
    go_wp2_with fail
    refine (HC4.out _ HX4.out).mono ?_
    rintro e w5 ⟨rfl, hb5⟩
    have HX5 := hid (bt' HX4.out hb5)
    go_wp2
    go_ret
    exact ⟨rfl, bt' HB.out HX5.out⟩
  cases b5
  · skip
    go_enter Tryz.func100, Tryz.ntmps100
    go_wp2_with fail
    rw [← HW.out]
    refine (HC0.out _ (Below.refl _ _)).mono ?_
    rintro e w1 ⟨rfl, hb1⟩
    have HX1 := hid hb1
    have hk1 := HK.out.below HX1.out HK.out.lt
    have c1_0 := hk1.cell (i := 0) rfl
    have c1_1 := hk1.cell (i := 1) rfl
    have c1_2 := hk1.cell (i := 2) rfl
    have c1_3 := hk1.cell (i := 3) rfl
    have c1_4 := hk1.cell (i := 4) rfl
    have c1_5 := hk1.cell (i := 5) rfl
    have c1_6 := hk1.cell (i := 6) rfl
    have c1_7 := hk1.cell (i := 7) rfl
    clear hb1 hk1
    go_wp2_with fail
    refine (HC1.out _ HX1.out).mono ?_
    rintro e w2 ⟨rfl, hb2⟩
    have HX2 := hid (bt' HX1.out hb2)
    have hk2 := HK.out.below HX2.out HK.out.lt
    have c2_0 := hk2.cell (i := 0) rfl
    have c2_1 := hk2.cell (i := 1) rfl
    have c2_2 := hk2.cell (i := 2) rfl
    have c2_3 := hk2.cell (i := 3) rfl
    have c2_4 := hk2.cell (i := 4) rfl
    have c2_5 := hk2.cell (i := 5) rfl
    have c2_6 := hk2.cell (i := 6) rfl
    have c2_7 := hk2.cell (i := 7) rfl
    clear hb2 hk2 c1_0 c1_1 c1_2 c1_3 c1_4 c1_5 c1_6 c1_7
    go_wp2_with fail
    refine (HC2.out _ HX2.out).mono ?_
    rintro e w3 ⟨rfl, hb3⟩
    have HX3 := hid (bt' HX2.out hb3)
    have hk3 := HK.out.below HX3.out HK.out.lt
    have c3_0 := hk3.cell (i := 0) rfl
    have c3_1 := hk3.cell (i := 1) rfl
    have c3_2 := hk3.cell (i := 2) rfl
    have c3_3 := hk3.cell (i := 3) rfl
    have c3_4 := hk3.cell (i := 4) rfl
    have c3_5 := hk3.cell (i := 5) rfl
    have c3_6 := hk3.cell (i := 6) rfl
    have c3_7 := hk3.cell (i := 7) rfl
    clear hb3 hk3 c2_0 c2_1 c2_2 c2_3 c2_4 c2_5 c2_6 c2_7
    go_wp2_with fail
    refine (HC3.out _ HX3.out).mono ?_
    rintro e w4 ⟨rfl, hb4⟩
    have HX4 := hid (bt' HX3.out hb4)
    have hk4 := HK.out.below HX4.out HK.out.lt
    have c4_0 := hk4.cell (i := 0) rfl
    have c4_1 := hk4.cell (i := 1) rfl
    have c4_2 := hk4.cell (i := 2) rfl
    have c4_3 := hk4.cell (i := 3) rfl
    have c4_4 := hk4.cell (i := 4) rfl
    have c4_5 := hk4.cell (i := 5) rfl
    have c4_6 := hk4.cell (i := 6) rfl
    have c4_7 := hk4.cell (i := 7) rfl
    clear hb4 hk4 c3_0 c3_1 c3_2 c3_3 c3_4 c3_5 c3_6 c3_7
    go_wp2_with fail
    refine (HC4.out _ HX4.out).mono ?_
    rintro e w5 ⟨rfl, hb5⟩
    have HX5 := hid (bt' HX4.out hb5)
    have hk5 := HK.out.below HX5.out HK.out.lt
    have c5_0 := hk5.cell (i := 0) rfl
    have c5_1 := hk5.cell (i := 1) rfl
    have c5_2 := hk5.cell (i := 2) rfl
    have c5_3 := hk5.cell (i := 3) rfl
    have c5_4 := hk5.cell (i := 4) rfl
    have c5_5 := hk5.cell (i := 5) rfl
    have c5_6 := hk5.cell (i := 6) rfl
    have c5_7 := hk5.cell (i := 7) rfl
    clear hb5 hk5 c4_0 c4_1 c4_2 c4_3 c4_4 c4_5 c4_6 c4_7
    go_wp2_with fail
    refine (HC5.out _ HX5.out).mono ?_
    rintro e w6 ⟨rfl, hb6⟩
    have HX6 := hid (bt' HX5.out hb6)
    go_wp2
    go_ret
    exact ⟨rfl, bt' HB.out HX6.out⟩
  go_enter Tryz.func100, Tryz.ntmps100
  go_wp2_with fail
  rw [← HW.out]
  refine (HC0.out _ (Below.refl _ _)).mono ?_
  rintro e w1 ⟨rfl, hb1⟩
  have HX1 := hid hb1
  have hk1 := HK.out.below HX1.out HK.out.lt
  have c1_0 := hk1.cell (i := 0) rfl
  have c1_1 := hk1.cell (i := 1) rfl
  have c1_2 := hk1.cell (i := 2) rfl
  have c1_3 := hk1.cell (i := 3) rfl
  have c1_4 := hk1.cell (i := 4) rfl
  have c1_5 := hk1.cell (i := 5) rfl
  have c1_6 := hk1.cell (i := 6) rfl
  have c1_7 := hk1.cell (i := 7) rfl
  clear hb1 hk1
  go_wp2_with fail
  refine (HC1.out _ HX1.out).mono ?_
  rintro e w2 ⟨rfl, hb2⟩
  have HX2 := hid (bt' HX1.out hb2)
  have hk2 := HK.out.below HX2.out HK.out.lt
  have c2_0 := hk2.cell (i := 0) rfl
  have c2_1 := hk2.cell (i := 1) rfl
  have c2_2 := hk2.cell (i := 2) rfl
  have c2_3 := hk2.cell (i := 3) rfl
  have c2_4 := hk2.cell (i := 4) rfl
  have c2_5 := hk2.cell (i := 5) rfl
  have c2_6 := hk2.cell (i := 6) rfl
  have c2_7 := hk2.cell (i := 7) rfl
  clear hb2 hk2 c1_0 c1_1 c1_2 c1_3 c1_4 c1_5 c1_6 c1_7
  go_wp2_with fail
  refine (HC2.out _ HX2.out).mono ?_
  rintro e w3 ⟨rfl, hb3⟩
  have HX3 := hid (bt' HX2.out hb3)
  have hk3 := HK.out.below HX3.out HK.out.lt
  have c3_0 := hk3.cell (i := 0) rfl
  have c3_1 := hk3.cell (i := 1) rfl
  have c3_2 := hk3.cell (i := 2) rfl
  have c3_3 := hk3.cell (i := 3) rfl
  have c3_4 := hk3.cell (i := 4) rfl
  have c3_5 := hk3.cell (i := 5) rfl
  have c3_6 := hk3.cell (i := 6) rfl
  have c3_7 := hk3.cell (i := 7) rfl
  clear hb3 hk3 c2_0 c2_1 c2_2 c2_3 c2_4 c2_5 c2_6 c2_7
  go_wp2_with fail
  refine (HC3.out _ HX3.out).mono ?_
  rintro e w4 ⟨rfl, hb4⟩
  have HX4 := hid (bt' HX3.out hb4)
  have hk4 := HK.out.below HX4.out HK.out.lt
  have c4_0 := hk4.cell (i := 0) rfl
  have c4_1 := hk4.cell (i := 1) rfl
  have c4_2 := hk4.cell (i := 2) rfl
  have c4_3 := hk4.cell (i := 3) rfl
  have c4_4 := hk4.cell (i := 4) rfl
  have c4_5 := hk4.cell (i := 5) rfl
  have c4_6 := hk4.cell (i := 6) rfl
  have c4_7 := hk4.cell (i := 7) rfl
  clear hb4 hk4 c3_0 c3_1 c3_2 c3_3 c3_4 c3_5 c3_6 c3_7
  go_wp2_with fail
  refine (HC4.out _ HX4.out).mono ?_
  rintro e w5 ⟨rfl, hb5⟩
  have HX5 := hid (bt' HX4.out hb5)
  have hk5 := HK.out.below HX5.out HK.out.lt
  have c5_0 := hk5.cell (i := 0) rfl
  have c5_1 := hk5.cell (i := 1) rfl
  have c5_2 := hk5.cell (i := 2) rfl
  have c5_3 := hk5.cell (i := 3) rfl
  have c5_4 := hk5.cell (i := 4) rfl
  have c5_5 := hk5.cell (i := 5) rfl
  have c5_6 := hk5.cell (i := 6) rfl
  have c5_7 := hk5.cell (i := 7) rfl
  clear hb5 hk5 c4_0 c4_1 c4_2 c4_3 c4_4 c4_5 c4_6 c4_7
  go_wp2_with fail
  refine (HC5.out _ HX5.out).mono ?_
  rintro e w6 ⟨rfl, hb6⟩
  have HX6 := hid (bt' HX5.out hb6)
  have hk6 := HK.out.below HX6.out HK.out.lt
  have c6_0 := hk6.cell (i := 0) rfl
  have c6_1 := hk6.cell (i := 1) rfl
  have c6_2 := hk6.cell (i := 2) rfl
  have c6_3 := hk6.cell (i := 3) rfl
  have c6_4 := hk6.cell (i := 4) rfl
  have c6_5 := hk6.cell (i := 5) rfl
  have c6_6 := hk6.cell (i := 6) rfl
  have c6_7 := hk6.cell (i := 7) rfl
  clear hb6 hk6 c5_0 c5_1 c5_2 c5_3 c5_4 c5_5 c5_6 c5_7
  go_wp2_with fail
  refine (HC6.out _ HX6.out).mono ?_
  rintro e w7 ⟨rfl, hb7⟩
  have HX7 := hid (bt' HX6.out hb7)
  go_wp2
  go_ret
  exact ⟨rfl, bt' HB.out HX7.out⟩
end Go.Proofs.YtfmnbehopdmahaaGreat
/-
  Package codec: lists of votes and of events: whether they may be.
-/
namespace Go.Proofs.YtfmnbehopdmahaaGreat
open Go.RowKit Go.Maps

theorem HeldVo.at8 {w : World} {ao : Option Addr} {xs : List VoM} (h : HeldVo w ao xs) {j : Nat} (hj : j < xs.length) : ∃ b off, ao = some ⟨b, off, none⟩ ∧ b < w.heap.size ∧ w.cell? ⟨b, off + j * 8, none⟩ = some (.int .i64 xs[j].slot) ∧ w.cell? ⟨b, off + j * 8 + 1, none⟩ = some (.int .i64 xs[j].bal.1) ∧ w.cell? ⟨b, off + j * 8 + 2, none⟩ = some (.int .i64 xs[j].bal.2) ∧
    w.cell? ⟨b, off + j * 8 + 3, none⟩ = some (.bool xs[j].en.e.noop) ∧ w.cell? ⟨b, off + j * 8 + 4, none⟩ = some (.string xs[j].en.e.tok) ∧ w.cell? ⟨b, off + j * 8 + 5, none⟩ = some (.string xs[j].en.e.cart) ∧ w.cell? ⟨b, off + j * 8 + 6, none⟩ = some (.int .i64 xs[j].en.e.ep) ∧
    w.cell? ⟨b, off + j * 8 + 7, none⟩ = some (.slice xs[j].en.ao xs[j].en.e.cut.length xs[j].en.cap) := by
  obtain ⟨b, off, h1, h2, h3⟩ := h.at hj
  exact ⟨b, off, h1, h2, h3 0 _ rfl, h3 1 _ rfl, h3 2 _ rfl, h3 3 _ rfl, h3 4 _ rfl, h3 5 _ rfl, h3 6 _ rfl, h3 7 _ rfl⟩
set_option maxRecDepth 100000 in
set_option maxHeartbeats 1000000 in
theorem every_VoC (w : World) (ao : Option Addr) (cap : Nat) (v : List VoM) (n : Nat) (hn : v.length = n) (h : HeldVo w ao v) (hl : n ≤ 1466015503701) :
    Calls Tryz.prog 144 #[.slice ao n cap, .func (.func 97) #[] #[]] w fun e w' => e = .returned (.bool (v.all fun x => RightVo x)) ∧ Below w.heap.size w w' := by
  have HN := hid hn
  have H := hid h
  clear hn h
  go_enter Tryz.func144, Tryz.ntmps144
  go_wp2
  go_loopw [6, 9] (fun _ x wz => ∃ k : Nat, k ≤ n ∧ x = .int .i64 k ∧ Hid ((∀ a (ha : a < v.length), a < k → (fun x => RightVo x) v[a] = true) ∧ Below w.heap.size w wz)) (fun _ x _ => n - (intOf x).toNat)
  case atStart => exact ⟨0, Nat.zero_le _, rfl, fun a _ ha => absurd ha (Nat.not_lt_zero _), Below.refl _ _⟩
  case round =>
    obtain ⟨k, hk, rfl, HA⟩ := hrel
    by_cases hlt : k < n
    · have hlt' : (k : Int) < (n : Int) := by omega
      have hkx : Hid (k < v.length) := (by rw [HN.out]; exact hlt : k < v.length)
      have HKM : Hid (k + 1 ≤ n) := (by omega : k + 1 ≤ n)
      have HH := hid (H.out.below HA.out.2)
      obtain ⟨b, off, hao, hb, c0, c1, c2, c3, c4, c5, c6, c7⟩ := HH.out.at8 hkx.out
      subst hao
      have HOX := hid (HH.out.1 _ (List.getElem_mem hkx.out))
      obtain ⟨X, HX⟩ : ∃ X, Hid (v[k]'hkx.out = X) := ⟨_, hid rfl⟩
      rw [HX.out] at c0 c1 c2 c3 c4 c5 c6 c7 HOX
      obtain ⟨r, HR⟩ : ∃ r, Hid ((fun x : VoM => RightVo x) X = r) := ⟨_, hid rfl⟩
      obtain ⟨W2, hW2⟩ : ∃ W, W = wr.alloc (.cells X.cells.toArray 73) := ⟨_, rfl⟩
      have HB2 : Hid (Below wr.heap.size wr W2) := by rw [hW2]; exact (Below.refl _ _).alloc (Nat.le_refl _) _
      have HM := hid (mayVoted_C W2 X (HOX.out.below HB2.out))
      have HR' : Hid (RightVo X = r) := HR.out
      rw [HR'.out] at HM
      have HBW : Hid (Below w.heap.size w W2) := bt' HA.out.2 HB2.out
      obtain ⟨sl, ⟨b1, b2⟩, ⟨np, tk, ct, ep, cut⟩, ao1, cap1⟩ := X
      obtain ⟨XN, HXN⟩ : ∃ m, Hid (cut.length = m) := ⟨_, hid rfl⟩
      simp only [VoM.val] at c0 c1 c2 c3 c4 c5 c6 c7 HM
      simp only [VoM.cells] at hW2
      rw [HXN.out] at c7 HM hW2
      have HW2 : Hid (W2 = wr.alloc (.cells #[.int .i64 sl, .int .i64 b1, .int .i64 b2, .bool np, .string tk, .string ct, .int .i64 ep, .slice ao1 XN cap1] 73)) := hW2
      clear hW2 HOX
      go_wp2_with fail
      rw [← HW2.out]
      refine HM.out.mono ?_
      rintro e w' ⟨rfl, hb'⟩
      have HBX := hid (bt' HBW.out hb')
      clear hb' HM c0 c1 c2 c3 c4 c5 c6 c7
      cases r with
      | true =>
        go_wp2
        go_roundw
        case rel =>
          refine ⟨k + 1, HKM.out, by go_num, fun a hav hak => ?_, HBX.out⟩
          by_cases e : a = k
          · subst e
            rw [HX.out]
            exact HR.out
          · exact HA.out.1 a hav (by omega)
        case measure => simp [intOf]; have := HKM.out; omega
      | false =>
        have HV0 : Hid ((v.all fun x => RightVo x) = false) := by
          show _ = _
          rw [List.all_eq_false]
          exact ⟨_, List.getElem_mem hkx.out, by rw [HX.out, HR'.out]; decide⟩
        go_wp2
        go_ret
        exact ⟨by rw [HV0.out]; rfl, HBX.out⟩
    · have hlt' : ¬ (k : Int) < (n : Int) := by omega
      have HIN : Hid ((v.all fun x => RightVo x) = true) := by
        show _ = _
        rw [List.all_eq_true]
        intro x hx
        obtain ⟨a, ha, rfl⟩ := List.mem_iff_getElem.1 hx
        exact HA.out.1 a ha (by have := HN.out; omega)
      have HBX := hid HA.out.2
      go_wp2
      go_ret
      exact ⟨by rw [HIN.out]; rfl, HBX.out⟩
theorem mayList_VoC (w : World) (ao : Option Addr) (cap : Nat) (v : List VoM) (n : Nat) (hn : v.length = n) (h : HeldVo w ao v) (hl : n ≤ 1466015503701) :
    Calls Tryz.prog 96 #[.slice ao n cap, .int .i64 4096, .func (.func 97) #[] #[]] w fun e w' => e = .returned (.bool (decide (n ≤ 4096) && (v.all fun x => RightVo x))) ∧ Below w.heap.size w w' := by
  have H := hid (every_VoC w ao cap v n hn h hl)
  clear hn h
  obtain ⟨r, HR⟩ : ∃ r, Hid ((v.all fun x => RightVo x) = r) := ⟨_, hid rfl⟩
  rw [HR.out] at H ⊢
  by_cases h7 : n ≤ 4096
  · have h7' : (n : Int) ≤ 4096 := by omega
    rw [decide_eq_true h7, Bool.true_and]
    clear h7
    go_enter Tryz.func96, Tryz.ntmps96
    go_wp2_with fail
    refine H.out.mono ?_
    rintro e w' ⟨rfl, hb⟩
    have HB := hid hb
    clear hb
    go_wp2
    go_ret
    exact ⟨rfl, HB.out⟩
  · have h7' : ¬ (n : Int) ≤ 4096 := by omega
    rw [decide_eq_false h7, Bool.false_and]
    clear h7
    go_enter Tryz.func96, Tryz.ntmps96
    go_wp2
    go_ret
    exact ⟨rfl, Below.refl _ _⟩
set_option maxRecDepth 100000 in
set_option maxHeartbeats 1000000 in
theorem every_EvC (w : World) (ao : Option Addr) (cap : Nat) (v : List EvM) (n : Nat) (hn : v.length = n) (h : HeldE w ao v) (hl : n ≤ 1466015503701) :
    Calls Tryz.prog 147 #[.slice ao n cap, .func (.func 100) #[] #[]] w fun e w' => e = .returned (.bool (v.all fun x => RightEvC x.e)) ∧ Below w.heap.size w w' := by
  have HN := hid hn
  have H := hid h
  clear hn h
  go_enter Tryz.func147, Tryz.ntmps147
  go_wp2
  go_loopw [6, 9] (fun _ x wz => ∃ k : Nat, k ≤ n ∧ x = .int .i64 k ∧ Hid ((∀ a (ha : a < v.length), a < k → (fun x => RightEvC x.e) v[a] = true) ∧ Below w.heap.size w wz)) (fun _ x _ => n - (intOf x).toNat)
  case atStart => exact ⟨0, Nat.zero_le _, rfl, fun a _ ha => absurd ha (Nat.not_lt_zero _), Below.refl _ _⟩
  case round =>
    obtain ⟨k, hk, rfl, HA⟩ := hrel
    by_cases hlt : k < n
    · have hlt' : (k : Int) < (n : Int) := by omega
      have hkx : Hid (k < v.length) := (by rw [HN.out]; exact hlt : k < v.length)
      have HKM : Hid (k + 1 ≤ n) := (by omega : k + 1 ≤ n)
      have HH := hid (H.out.below HA.out.2)
      obtain ⟨b, off, hao, hb, c0, c1, c2, c3, c4, c5, c6, c7⟩ := HH.out.at hkx.out
      subst hao
      have HOX := hid (HH.out.1 _ (List.getElem_mem hkx.out))
      obtain ⟨X, HX⟩ : ∃ X, Hid (v[k]'hkx.out = X) := ⟨_, hid rfl⟩
      rw [HX.out] at c0 c1 c2 c3 c4 c5 c6 c7 HOX
      obtain ⟨r, HR⟩ : ∃ r, Hid ((fun x : EvM => RightEvC x.e) X = r) := ⟨_, hid rfl⟩
      obtain ⟨W2, hW2⟩ : ∃ W, W = wr.alloc (.cells X.cells.toArray 97) := ⟨_, rfl⟩
      have HB2 : Hid (Below wr.heap.size wr W2) := by rw [hW2]; exact (Below.refl _ _).alloc (Nat.le_refl _) _
      have HM := hid (mayEvent_C W2 X (HOX.out.below HB2.out))
      have HR' : Hid (RightEvC X.e = r) := HR.out
      rw [HR'.out] at HM
      have HBW : Hid (Below w.heap.size w W2) := bt' HA.out.2 HB2.out
      obtain ⟨⟨o, s, dp, ct, ep, sk, qt, cl⟩, ao1, cap1⟩ := X
      obtain ⟨XN, HXN⟩ : ∃ m, Hid (dp.length = m) := ⟨_, hid rfl⟩
      simp only [EvM.val] at c0 c1 c2 c3 c4 c5 c6 c7 HM
      simp only [EvM.cells] at hW2
      rw [HXN.out] at c2 HM hW2
      have HW2 : Hid (W2 = wr.alloc (.cells #[.int .i64 o, .int .i64 s, .slice ao1 XN cap1, .string ct, .int .i64 ep, .string sk, .int .i64 qt, .bool cl] 97)) := hW2
      clear hW2 HOX
      go_wp2_with fail
      rw [← HW2.out]
      refine HM.out.mono ?_
      rintro e w' ⟨rfl, hb'⟩
      have HBX := hid (bt' HBW.out hb')
      clear hb' HM c0 c1 c2 c3 c4 c5 c6 c7
      cases r with
      | true =>
        go_wp2
        go_roundw
        case rel =>
          refine ⟨k + 1, HKM.out, by go_num, fun a hav hak => ?_, HBX.out⟩
          by_cases e : a = k
          · subst e
            rw [HX.out]
            exact HR.out
          · exact HA.out.1 a hav (by omega)
        case measure => simp [intOf]; have := HKM.out; omega
      | false =>
        have HV0 : Hid ((v.all fun x => RightEvC x.e) = false) := by
          show _ = _
          rw [List.all_eq_false]
          exact ⟨_, List.getElem_mem hkx.out, by rw [HX.out, HR'.out]; decide⟩
        go_wp2
        go_ret
        exact ⟨by rw [HV0.out]; rfl, HBX.out⟩
    · have hlt' : ¬ (k : Int) < (n : Int) := by omega
      have HIN : Hid ((v.all fun x => RightEvC x.e) = true) := by
        show _ = _
        rw [List.all_eq_true]
        intro x hx
        obtain ⟨a, ha, rfl⟩ := List.mem_iff_getElem.1 hx
        exact HA.out.1 a ha (by have := HN.out; omega)
      have HBX := hid HA.out.2
      go_wp2
      go_ret
      exact ⟨by rw [HIN.out]; rfl, HBX.out⟩
theorem mayList_EvC (w : World) (ao : Option Addr) (cap : Nat) (v : List EvM) (n : Nat) (hn : v.length = n) (h : HeldE w ao v) (hl : n ≤ 1466015503701) :
    Calls Tryz.prog 99 #[.slice ao n cap, .int .i64 4096, .func (.func 100) #[] #[]] w fun e w' => e = .returned (.bool (decide (n ≤ 4096) && (v.all fun x => RightEvC x.e))) ∧ Below w.heap.size w w' := by
  have H := hid (every_EvC w ao cap v n hn h hl)
  clear hn h
  obtain ⟨r, HR⟩ : ∃ r, Hid ((v.all fun x => RightEvC x.e) = r) := ⟨_, hid rfl⟩
  rw [HR.out] at H ⊢
  by_cases h7 : n ≤ 4096
  · have h7' : (n : Int) ≤ 4096 := by omega
    rw [decide_eq_true h7, Bool.true_and]
    clear h7
    go_enter Tryz.func99, Tryz.ntmps99
    go_wp2_with fail
    refine H.out.mono ?_
    rintro e w' ⟨rfl, hb⟩
    have HB := hid hb
    clear hb
    go_wp2
    go_ret
    exact ⟨rfl, HB.out⟩
  · have h7' : ¬ (n : Int) ≤ 4096 := by omega
    rw [decide_eq_false h7, Bool.false_and]
    clear h7
    go_enter Tryz.func99, Tryz.ntmps99
    go_wp2
    go_ret
    exact ⟨rfl, Below.refl _ _⟩
end Go.Proofs.YtfmnbehopdmahaaGreat
