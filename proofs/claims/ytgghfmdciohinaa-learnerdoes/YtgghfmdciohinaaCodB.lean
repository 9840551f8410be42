/-
  Package codec: ballots, seals, entries, votes: whether they may be.
-/
import Derived.Test.YtgghfmdciohinaaCodA
namespace Go.Proofs.Ytgghfmdciohinaa
open Go.RowKit Go.Maps

theorem calls_bel {P : Program} {f : FuncId} {args : Array Value} {V : World} {v : Value} (h : Calls P f args V fun e w' => e = .returned v ∧ w' = V) : Calls P f args V fun e w' => e = .returned v ∧ Below V.heap.size V w' := h.mono fun _ _ hh => ⟨hh.1, by rw [hh.2]; exact Below.refl _ _⟩
def RightBal (b : Int × Int) : Bool := decide (0 ≤ b.1 ∧ b.1 ≤ 2147483647) && decide (0 ≤ b.2 ∧ b.2 ≤ 6)
def RightSe (e : En) : Bool := nameS e.tok && (nameS e.cart && (decide (0 ≤ e.ep ∧ e.ep ≤ 2147483647) && rightVC e.cut))
def EmptySe (e : En) : Bool := decide (e.tok.size = 0) && (decide (e.cart.size = 0) && (decide (e.ep = 0) && decide (e.cut.length = 0)))
def RightEn (e : En) : Bool := if e.noop then EmptySe e else RightSe e
def RightVo (x : VoM) : Bool := decide (0 ≤ x.slot ∧ x.slot ≤ 2147483647) && (RightBal x.bal && RightEn x.en.e)
set_option maxRecDepth 100000 in
set_option maxHeartbeats 1000000 in
theorem mayBallot_C (w : World) (x : Int × Int) :
    Calls Try.prog 63 #[.agg #[.int .i64 x.1, .int .i64 x.2]] w fun e w' => e = .returned (.bool (RightBal x)) ∧ Below w.heap.size w w' := by
  obtain ⟨r, n⟩ := x
  obtain ⟨W, hW⟩ : ∃ W, W = w.alloc (.cells #[.int .i64 r, .int .i64 n] 66) := ⟨_, rfl⟩
  have HB : Hid (Below w.heap.size w W) := by rw [hW]; exact (Below.refl _ _).alloc (Nat.le_refl _) _
  have HK : Hid (Blk W w.heap.size 66 [.int .i64 r, .int .i64 n]) := by rw [hW]; exact Blk.new w _ _
  have HW := hid hW
  have HC0 := hid (fun V (hV : Below W.heap.size W V) => calls_bel (upTo_anyC V (r) 2147483647))
  have HC1 := hid (fun V (hV : Below W.heap.size W V) => calls_bel (upTo_anyC V (n) 6))
  have HR : Hid (RightBal (r, n) = (decide (0 ≤ r ∧ r ≤ 2147483647) && decide (0 ≤ n ∧ n ≤ 6))) := by rfl
  rw [HR.out]
  obtain ⟨b0, HB0⟩ : ∃ b, Hid (decide (0 ≤ r ∧ r ≤ 2147483647) = b) := ⟨_, hid rfl⟩
  rw [HB0.out] at HC0 ⊢
  obtain ⟨b1, HB1⟩ : ∃ b, Hid (decide (0 ≤ n ∧ n ≤ 6) = b) := ⟨_, hid rfl⟩
  rw [HB1.out] at HC1 ⊢
  clear hW HR HB0 HB1 
  cases b0
  · skip
    go_enter Try.func63, Try.ntmps63
    go_wp2_with fail
    rw [← HW.out]
    refine (HC0.out _ (Below.refl _ _)).mono ?_
    rintro e w1 ⟨rfl, hb1⟩
    have HX1 := hid hb1
    go_wp2
    go_ret
    exact ⟨rfl, bt' HB.out HX1.out⟩
  go_enter Try.func63, Try.ntmps63
  go_wp2_with fail
  rw [← HW.out]
  refine (HC0.out _ (Below.refl _ _)).mono ?_
  rintro e w1 ⟨rfl, hb1⟩
  have HX1 := hid hb1
  have hk1 := HK.out.below HX1.out HK.out.lt
  have c1_0 := hk1.cell (i := 0) rfl
  have c1_1 := hk1.cell (i := 1) rfl
  clear hb1 hk1
  go_wp2_with fail
  refine (HC1.out _ HX1.out).mono ?_
  rintro e w2 ⟨rfl, hb2⟩
  have HX2 := hid (bt' HX1.out hb2)
  go_wp2
  go_ret
  exact ⟨rfl, bt' HB.out HX2.out⟩
set_option maxRecDepth 100000 in
set_option maxHeartbeats 1000000 in
theorem maySeal_C (w : World) (x : EnM) (hx : EnOk w x) :
    Calls Try.prog 85 #[.agg #[.string x.e.tok, .string x.e.cart, .int .i64 x.e.ep, .slice x.ao x.e.cut.length x.cap]] w fun e w' => e = .returned (.bool (RightSe x.e)) ∧ Below w.heap.size w w' := by
  obtain ⟨⟨np, tk, ct, ep, cut⟩, ao1, cap1⟩ := x
  obtain ⟨XN, HXN⟩ : ∃ m, Hid (cut.length = m) := ⟨_, hid rfl⟩
  simp only
  rw [HXN.out]
  obtain ⟨W, hW⟩ : ∃ W, W = w.alloc (.cells #[.string tk, .string ct, .int .i64 ep, .slice ao1 XN cap1] 31) := ⟨_, rfl⟩
  have HB : Hid (Below w.heap.size w W) := by rw [hW]; exact (Below.refl _ _).alloc (Nat.le_refl _) _
  have HK : Hid (Blk W w.heap.size 31 [.string tk, .string ct, .int .i64 ep, .slice ao1 XN cap1]) := by rw [hW]; exact Blk.new w _ _
  have HW := hid hW
  have HC0 := hid (fun V (hV : Below W.heap.size W V) => calls_bel (codecName_any tk V hx.ht))
  have HC1 := hid (fun V (hV : Below W.heap.size W V) => calls_bel (codecName_any ct V hx.hc))
  have HC2 := hid (fun V (hV : Below W.heap.size W V) => calls_bel (upTo_anyC V (ep) 2147483647))
  have HC3 := hid (fun V (hV : Below W.heap.size W V) => calls_bel (mayVector_anyC V ao1 cap1 cut XN HXN.out ((hx.cut.below HB.out).below hV)))
  have HR : Hid (RightSe ⟨np, tk, ct, ep, cut⟩ = (nameS tk && (nameS ct && (decide (0 ≤ ep ∧ ep ≤ 2147483647) && rightVC cut)))) := by rfl
  rw [HR.out]
  obtain ⟨b0, HB0⟩ : ∃ b, Hid (nameS tk = b) := ⟨_, hid rfl⟩
  rw [HB0.out] at HC0 ⊢
  obtain ⟨b1, HB1⟩ : ∃ b, Hid (nameS ct = b) := ⟨_, hid rfl⟩
  rw [HB1.out] at HC1 ⊢
  obtain ⟨b2, HB2⟩ : ∃ b, Hid (decide (0 ≤ ep ∧ ep ≤ 2147483647) = b) := ⟨_, hid rfl⟩
  rw [HB2.out] at HC2 ⊢
  obtain ⟨b3, HB3⟩ : ∃ b, Hid (rightVC cut = b) := ⟨_, hid rfl⟩
  rw [HB3.out] at HC3 ⊢
  clear hW HR HB0 HB1 HB2 HB3 hx
  cases b0
  · skip
    go_enter Try.func85, Try.ntmps85
    go_wp2_with fail
    rw [← HW.out]
    refine (HC0.out _ (Below.refl _ _)).mono ?_
    rintro e w1 ⟨rfl, hb1⟩
    have HX1 := hid hb1
    go_wp2
    go_ret
    exact ⟨rfl, bt' HB.out HX1.out⟩
  cases b1
  · skip
    go_enter Try.func85, Try.ntmps85
    go_wp2_with fail
    rw [← HW.out]
    refine (HC0.out _ (Below.refl _ _)).mono ?_
    rintro e w1 ⟨rfl, hb1⟩
    have HX1 := hid hb1
    have hk1 := HK.out.below HX1.out HK.out.lt
    have c1_0 := hk1.cell (i := 0) rfl
    have c1_1 := hk1.cell (i := 1) rfl
    have c1_2 := hk1.cell (i := 2) rfl
    have c1_3 := hk1.cell (i := 3) rfl
    clear hb1 hk1
    go_wp2_with fail
    refine (HC1.out _ HX1.out).mono ?_
    rintro e w2 ⟨rfl, hb2⟩
    have HX2 := hid (bt' HX1.out hb2)
    go_wp2
    go_ret
    exact ⟨rfl, bt' HB.out HX2.out⟩
  cases b2
  · skip
    go_enter Try.func85, Try.ntmps85
    go_wp2_with fail
    rw [← HW.out]
    refine (HC0.out _ (Below.refl _ _)).mono ?_
    rintro e w1 ⟨rfl, hb1⟩
    have HX1 := hid hb1
    have hk1 := HK.out.below HX1.out HK.out.lt
    have c1_0 := hk1.cell (i := 0) rfl
    have c1_1 := hk1.cell (i := 1) rfl
    have c1_2 := hk1.cell (i := 2) rfl
    have c1_3 := hk1.cell (i := 3) rfl
    clear hb1 hk1
    go_wp2_with fail
    refine (HC1.out _ HX1.out).mono ?_
    rintro e w2 ⟨rfl, hb2⟩
    have HX2 := hid (bt' HX1.out hb2)
    have hk2 := HK.out.below HX2.out HK.out.lt
    have c2_0 := hk2.cell (i := 0) rfl
    have c2_1 := hk2.cell (i := 1) rfl
    have c2_2 := hk2.cell (i := 2) rfl
    have c2_3 := hk2.cell (i := 3) rfl
    clear hb2 hk2 c1_0 c1_1 c1_2 c1_3
    go_wp2_with fail
    refine (HC2.out _ HX2.out).mono ?_
    rintro e w3 ⟨rfl, hb3⟩
    have HX3 := hid (bt' HX2.out hb3)
    go_wp2
    go_ret
    exact ⟨rfl, bt' HB.out HX3.out⟩
  go_enter Try.func85, Try.ntmps85
  go_wp2_with fail
  rw [← HW.out]
  refine (HC0.out _ (Below.refl _ _)).mono ?_
  rintro e w1 ⟨rfl, hb1⟩
  have HX1 := hid hb1
  have hk1 := HK.out.below HX1.out HK.out.lt
  have c1_0 := hk1.cell (i := 0) rfl
  have c1_1 := hk1.cell (i := 1) rfl
  have c1_2 := hk1.cell (i := 2) rfl
  have c1_3 := hk1.cell (i := 3) rfl
  clear hb1 hk1
  go_wp2_with fail
  refine (HC1.out _ HX1.out).mono ?_
  rintro e w2 ⟨rfl, hb2⟩
  have HX2 := hid (bt' HX1.out hb2)
  have hk2 := HK.out.below HX2.out HK.out.lt
  have c2_0 := hk2.cell (i := 0) rfl
  have c2_1 := hk2.cell (i := 1) rfl
  have c2_2 := hk2.cell (i := 2) rfl
  have c2_3 := hk2.cell (i := 3) rfl
  clear hb2 hk2 c1_0 c1_1 c1_2 c1_3
  go_wp2_with fail
  refine (HC2.out _ HX2.out).mono ?_
  rintro e w3 ⟨rfl, hb3⟩
  have HX3 := hid (bt' HX2.out hb3)
  have hk3 := HK.out.below HX3.out HK.out.lt
  have c3_0 := hk3.cell (i := 0) rfl
  have c3_1 := hk3.cell (i := 1) rfl
  have c3_2 := hk3.cell (i := 2) rfl
  have c3_3 := hk3.cell (i := 3) rfl
  clear hb3 hk3 c2_0 c2_1 c2_2 c2_3
  go_wp2_with fail
  refine (HC3.out _ HX3.out).mono ?_
  rintro e w4 ⟨rfl, hb4⟩
  have HX4 := hid (bt' HX3.out hb4)
  go_wp2
  go_ret
  exact ⟨rfl, bt' HB.out HX4.out⟩
theorem emptyS {s : ByteArray} (h : s.size = 0) : s = ⟨#[]⟩ := by
  obtain ⟨d⟩ := s
  congr 1
  exact Array.eq_empty_of_size_eq_zero h
theorem bytes_injC {a b : ByteArray} (h : a.toList = b.toList) : a = b := by
  rw [ByteArray.toList_eq, ByteArray.toList_eq] at h
  exact ByteArray.ext (Array.toList_inj.1 h)
theorem not_emptyS {s : ByteArray} (h : ¬ s.size = 0) : (s.toList == ([] : List UInt8)) = false := by
  rw [beq_eq_false_iff_ne]
  intro e
  apply h
  have : s = ⟨#[]⟩ := bytes_injC (e.trans (by rw [ByteArray.toList_eq]))
  rw [this]
  rfl
set_option maxRecDepth 100000 in
theorem emptySeal_C (w : World) (x : EnM) : Calls Try.prog 84 #[.agg #[.string x.e.tok, .string x.e.cart, .int .i64 x.e.ep, .slice x.ao x.e.cut.length x.cap]] w fun e w' => e = .returned (.bool (EmptySe x.e)) ∧ Below w.heap.size w w' := by
  obtain ⟨⟨np, tk, ct, ep, cut⟩, ao1, cap1⟩ := x
  obtain ⟨XN, HXN⟩ : ∃ m, Hid (cut.length = m) := ⟨_, hid rfl⟩
  simp only
  rw [HXN.out]
  have HB : Hid (Below w.heap.size w (w.alloc (.cells #[.string tk, .string ct, .int .i64 ep, .slice ao1 XN cap1] 31))) := (Below.refl _ _).alloc (Nat.le_refl _) _
  have HR : Hid (EmptySe ⟨np, tk, ct, ep, cut⟩ = (decide (tk.size = 0) && (decide (ct.size = 0) && (decide (ep = 0) && decide (XN = 0))))) := by show _ = _; rw [← HXN.out]; rfl
  rw [HR.out]
  by_cases h1 : tk.size = 0
  · rw [decide_eq_true h1]
    obtain rfl := emptyS h1
    by_cases h2 : ct.size = 0
    · rw [decide_eq_true h2]
      obtain rfl := emptyS h2
      clear h1 h2
      by_cases h3 : ep = 0
      · subst h3
        go_enter Try.func84, Try.ntmps84
        go_wp2
        go_ret
        exact ⟨ret_bool (by rw [Bool.eq_iff_iff]; simp), HB.out⟩
      · have h3' : (ep == 0) = false := by simpa using h3
        rw [decide_eq_false h3]
        go_enter Try.func84, Try.ntmps84
        go_wp2
        go_ret
        exact ⟨rfl, HB.out⟩
    · have h2' := not_emptyS h2
      rw [decide_eq_false h2]
      clear h1 h2
      go_enter Try.func84, Try.ntmps84
      go_wp2
      go_ret
      exact ⟨rfl, HB.out⟩
  · have h1' := not_emptyS h1
    rw [decide_eq_false h1]
    clear h1
    go_enter Try.func84, Try.ntmps84
    go_wp2
    go_ret
    exact ⟨rfl, HB.out⟩
set_option maxRecDepth 100000 in
theorem mayEntry_C (w : World) (x : EnM) (hx : EnOk w x) : Calls Try.prog 64 #[x.val] w fun e w' => e = .returned (.bool (RightEn x.e)) ∧ Below w.heap.size w w' := by
  obtain ⟨⟨np, tk, ct, ep, cut⟩, ao1, cap1⟩ := x
  obtain ⟨XN, HXN⟩ : ∃ m, Hid (cut.length = m) := ⟨_, hid rfl⟩
  simp only [EnM.val]
  rw [HXN.out]
  obtain ⟨W, hW⟩ : ∃ W, W = w.alloc (.cells #[.bool np, .string tk, .string ct, .int .i64 ep, .slice ao1 XN cap1] 33) := ⟨_, rfl⟩
  have HB : Hid (Below w.heap.size w W) := by rw [hW]; exact (Below.refl _ _).alloc (Nat.le_refl _) _
  have HW := hid hW
  have HOX : Hid (EnOk W ⟨⟨np, tk, ct, ep, cut⟩, ao1, cap1⟩) := hx.below HB.out
  clear hW hx
  cases np with
  | true =>
    have HC : Hid (Calls Try.prog 84 #[.agg #[.string tk, .string ct, .int .i64 ep, .slice ao1 XN cap1]] W fun e w' => e = .returned (.bool (RightEn ⟨true, tk, ct, ep, cut⟩)) ∧ Below W.heap.size W w') := by
      have := emptySeal_C W ⟨⟨true, tk, ct, ep, cut⟩, ao1, cap1⟩
      simp only at this
      rw [HXN.out] at this
      exact this
    clear HOX
    go_enter Try.func64, Try.ntmps64
    go_wp2_with fail
    rw [← HW.out]
    refine HC.out.mono ?_
    rintro e w1 ⟨rfl, hb1⟩
    have HB1 := hid (bt' HB.out hb1)
    clear hb1
    go_wp2
    go_ret
    exact ⟨rfl, HB1.out⟩
  | false =>
    have HC : Hid (Calls Try.prog 85 #[.agg #[.string tk, .string ct, .int .i64 ep, .slice ao1 XN cap1]] W fun e w' => e = .returned (.bool (RightEn ⟨false, tk, ct, ep, cut⟩)) ∧ Below W.heap.size W w') := by
      have := maySeal_C W ⟨⟨false, tk, ct, ep, cut⟩, ao1, cap1⟩ ⟨HOX.out.cut, HOX.out.ie, HOX.out.ht, HOX.out.hc⟩
      simp only at this
      rw [HXN.out] at this
      exact this
    clear HOX
    go_enter Try.func64, Try.ntmps64
    go_wp2_with fail
    rw [← HW.out]
    refine HC.out.mono ?_
    rintro e w1 ⟨rfl, hb1⟩
    have HB1 := hid (bt' HB.out hb1)
    clear hb1
    go_wp2
    go_ret
    exact ⟨rfl, HB1.out⟩
set_option maxRecDepth 100000 in
set_option maxHeartbeats 1000000 in
theorem mayVoted_C (w : World) (x : VoM) (hx : VoOk w x) :
    Calls Try.prog 66 #[x.val] w fun e w' => e = .returned (.bool (RightVo x)) ∧ Below w.heap.size w w' := by
  obtain ⟨sl, ⟨b1, b2⟩, ⟨np, tk, ct, ep, cut⟩, ao1, cap1⟩ := x
  obtain ⟨XN, HXN⟩ : ∃ m, Hid (cut.length = m) := ⟨_, hid rfl⟩
  simp only [VoM.val]
  rw [HXN.out]
  obtain ⟨W, hW⟩ : ∃ W, W = w.alloc (.cells #[.int .i64 sl, .int .i64 b1, .int .i64 b2, .bool np, .string tk, .string ct, .int .i64 ep, .slice ao1 XN cap1] 98) := ⟨_, rfl⟩
  have HB : Hid (Below w.heap.size w W) := by rw [hW]; exact (Below.refl _ _).alloc (Nat.le_refl _) _
  have HK : Hid (Blk W w.heap.size 98 [.int .i64 sl, .int .i64 b1, .int .i64 b2, .bool np, .string tk, .string ct, .int .i64 ep, .slice ao1 XN cap1]) := by rw [hW]; exact Blk.new w _ _
  have HW := hid hW
  have HC0 := hid (fun V (hV : Below W.heap.size W V) => calls_bel (upTo_anyC V (sl) 2147483647))
  have HC1 := hid (fun V (hV : Below W.heap.size W V) => mayBallot_C V (b1, b2))
  have HC2 := hid (fun V (hV : Below W.heap.size W V) => (show Calls Try.prog 64 #[.agg #[.bool np, .string tk, .string ct, .int .i64 ep, .slice ao1 XN cap1]] V fun e w' => e = .returned (.bool (RightEn ⟨np, tk, ct, ep, cut⟩)) ∧ Below V.heap.size V w' from by have := mayEntry_C V ⟨⟨np, tk, ct, ep, cut⟩, ao1, cap1⟩ ((hx.en.below HB.out).below hV); simp only [EnM.val] at this; rw [HXN.out] at this; exact this))
  have HR : Hid (RightVo ⟨sl, (b1, b2), ⟨np, tk, ct, ep, cut⟩, ao1, cap1⟩ = (decide (0 ≤ sl ∧ sl ≤ 2147483647) && (RightBal (b1, b2) && RightEn ⟨np, tk, ct, ep, cut⟩))) := by rfl
  rw [HR.out]
  obtain ⟨b0, HB0⟩ : ∃ b, Hid (decide (0 ≤ sl ∧ sl ≤ 2147483647) = b) := ⟨_, hid rfl⟩
  rw [HB0.out] at HC0 ⊢
  obtain ⟨b1, HB1⟩ : ∃ b, Hid (RightBal (b1, b2) = b) := ⟨_, hid rfl⟩
  rw [HB1.out] at HC1 ⊢
  obtain ⟨b2, HB2⟩ : ∃ b, Hid (RightEn ⟨np, tk, ct, ep, cut⟩ = b) := ⟨_, hid rfl⟩
  rw [HB2.out] at HC2 ⊢
  clear hW HR HB0 HB1 HB2 hx
  cases b0
  · skip
    go_enter Try.func66, Try.ntmps66
    go_wp2_with fail
    rw [← HW.out]
    refine (HC0.out _ (Below.refl _ _)).mono ?_
    rintro e w1 ⟨rfl, hb1⟩
    have HX1 := hid hb1
    go_wp2
    go_ret
    exact ⟨rfl, bt' HB.out HX1.out⟩
  cases b1
  · skip
    go_enter Try.func66, Try.ntmps66
    go_wp2_with fail
    rw [← HW.out]
    refine (HC0.out _ (Below.refl _ _)).mono ?_
    rintro e w1 ⟨rfl, hb1⟩
    have HX1 := hid hb1
    have hk1 := HK.out.below HX1.out HK.out.lt
    have c1_0 := hk1.cell (i := 0) rfl
    have c1_1 := hk1.cell (i := 1) rfl
    have c1_2 := hk1.cell (i := 2) rfl
    have c1_3 := hk1.cell (i := 3) rfl
    have c1_4 := hk1.cell (i := 4) rfl
    have c1_5 := hk1.cell (i := 5) rfl
    have c1_6 := hk1.cell (i := 6) rfl
    have c1_7 := hk1.cell (i := 7) rfl
    clear hb1 hk1
    go_wp2_with fail
    refine (HC1.out _ HX1.out).mono ?_
    rintro e w2 ⟨rfl, hb2⟩
    have HX2 := hid (bt' HX1.out hb2)
    go_wp2
    go_ret
    exact ⟨rfl, bt' HB.out HX2.out⟩
  go_enter Try.func66, Try.ntmps66
  go_wp2_with fail
  rw [← HW.out]
  refine (HC0.out _ (Below.refl _ _)).mono ?_
  rintro e w1 ⟨rfl, hb1⟩
  have HX1 := hid hb1
  have hk1 := HK.out.below HX1.out HK.out.lt
  have c1_0 := hk1.cell (i := 0) rfl
  have c1_1 := hk1.cell (i := 1) rfl
  have c1_2 := hk1.cell (i := 2) rfl
  have c1_3 := hk1.cell (i := 3) rfl
  have c1_4 := hk1.cell (i := 4) rfl
  have c1_5 := hk1.cell (i := 5) rfl
  have c1_6 := hk1.cell (i := 6) rfl
  have c1_7 := hk1.cell (i := 7) rfl
  clear hb1 hk1
  go_wp2_with fail
  refine (HC1.out _ HX1.out).mono ?_
  rintro e w2 ⟨rfl, hb2⟩
  have HX2 := hid (bt' HX1.out hb2)
  have hk2 := HK.out.below HX2.out HK.out.lt
  have c2_0 := hk2.cell (i := 0) rfl
  have c2_1 := hk2.cell (i := 1) rfl
  have c2_2 := hk2.cell (i := 2) rfl
  have c2_3 := hk2.cell (i := 3) rfl
  have c2_4 := hk2.cell (i := 4) rfl
  have c2_5 := hk2.cell (i := 5) rfl
  have c2_6 := hk2.cell (i := 6) rfl
  have c2_7 := hk2.cell (i := 7) rfl
  clear hb2 hk2 c1_0 c1_1 c1_2 c1_3 c1_4 c1_5 c1_6 c1_7
  go_wp2_with fail
  refine (HC2.out _ HX2.out).mono ?_
  rintro e w3 ⟨rfl, hb3⟩
  have HX3 := hid (bt' HX2.out hb3)
  go_wp2
  go_ret
  exact ⟨rfl, bt' HB.out HX3.out⟩
def RightEvC (e : Ev) : Bool := decide (0 ≤ e.o ∧ e.o ≤ 6) && (decide (0 ≤ e.s ∧ e.s ≤ 2147483647) && (rightVC e.deps && (nameS e.cart && (decide (0 ≤ e.epoch ∧ e.epoch ≤ 2147483647) && (nameS e.sku && decide (0 ≤ e.qty ∧ e.qty ≤ 1000))))))
set_option maxRecDepth 100000 in
set_option maxHeartbeats 1000000 in
theorem mayEvent_C (w : World) (x : EvM) (hx : EvOk w x) :
    Calls Try.prog 69 #[x.val] w fun e w' => e = .returned (.bool (RightEvC x.e)) ∧ Below w.heap.size w w' := by
  obtain ⟨⟨o, s, dp, ct, ep, sk, qt, cl⟩, ao1, cap1⟩ := x
  obtain ⟨XN, HXN⟩ : ∃ m, Hid (dp.length = m) := ⟨_, hid rfl⟩
  simp only [EvM.val]
  rw [HXN.out]
  obtain ⟨W, hW⟩ : ∃ W, W = w.alloc (.cells #[.int .i64 o, .int .i64 s, .slice ao1 XN cap1, .string ct, .int .i64 ep, .string sk, .int .i64 qt, .bool cl] 104) := ⟨_, rfl⟩
  have HB : Hid (Below w.heap.size w W) := by rw [hW]; exact (Below.refl _ _).alloc (Nat.le_refl _) _
  have HK : Hid (Blk W w.heap.size 104 [.int .i64 o, .int .i64 s, .slice ao1 XN cap1, .string ct, .int .i64 ep, .string sk, .int .i64 qt, .bool cl]) := by rw [hW]; exact Blk.new w _ _
  have HW := hid hW
  have HC0 := hid (fun V (hV : Below W.heap.size W V) => calls_bel (upTo_anyC V (o) 6))
  have HC1 := hid (fun V (hV : Below W.heap.size W V) => calls_bel (upTo_anyC V (s) 2147483647))
  have HC2 := hid (fun V (hV : Below W.heap.size W V) => calls_bel (mayVector_anyC V ao1 cap1 dp XN HXN.out ((hx.deps.below HB.out).below hV)))
  have HC3 := hid (fun V (hV : Below W.heap.size W V) => calls_bel (codecName_any ct V hx.hc))
  have HC4 := hid (fun V (hV : Below W.heap.size W V) => calls_bel (upTo_anyC V (ep) 2147483647))
  have HC5 := hid (fun V (hV : Below W.heap.size W V) => calls_bel (codecName_any sk V hx.hs))
  have HC6 := hid (fun V (hV : Below W.heap.size W V) => calls_bel (upTo_anyC V (qt) 1000))
  have HR : Hid (RightEvC ⟨o, s, dp, ct, ep, sk, qt, cl⟩ = (decide (0 ≤ o ∧ o ≤ 6) && (decide (0 ≤ s ∧ s ≤ 2147483647) && (rightVC dp && (nameS ct && (decide (0 ≤ ep ∧ ep ≤ 2147483647) && (nameS sk && decide (0 ≤ qt ∧ qt ≤ 1000)))))))) := by rfl
  rw [HR.out]
  obtain ⟨b0, HB0⟩ : ∃ b, Hid (decide (0 ≤ o ∧ o ≤ 6) = b) := ⟨_, hid rfl⟩
  rw [HB0.out] at HC0 ⊢
  obtain ⟨b1, HB1⟩ : ∃ b, Hid (decide (0 ≤ s ∧ s ≤ 2147483647) = b) := ⟨_, hid rfl⟩
  rw [HB1.out] at HC1 ⊢
  obtain ⟨b2, HB2⟩ : ∃ b, Hid (rightVC dp = b) := ⟨_, hid rfl⟩
  rw [HB2.out] at HC2 ⊢
  obtain ⟨b3, HB3⟩ : ∃ b, Hid (nameS ct = b) := ⟨_, hid rfl⟩
  rw [HB3.out] at HC3 ⊢
  obtain ⟨b4, HB4⟩ : ∃ b, Hid (decide (0 ≤ ep ∧ ep ≤ 2147483647) = b) := ⟨_, hid rfl⟩
  rw [HB4.out] at HC4 ⊢
  obtain ⟨b5, HB5⟩ : ∃ b, Hid (nameS sk = b) := ⟨_, hid rfl⟩
  rw [HB5.out] at HC5 ⊢
  obtain ⟨b6, HB6⟩ : ∃ b, Hid (decide (0 ≤ qt ∧ qt ≤ 1000) = b) := ⟨_, hid rfl⟩
  rw [HB6.out] at HC6 ⊢
  clear hW HR HB0 HB1 HB2 HB3 HB4 HB5 HB6 hx
  cases b0
  · skip
    go_enter Try.func69, Try.ntmps69
    go_wp2_with fail
    rw [← HW.out]
    refine (HC0.out _ (Below.refl _ _)).mono ?_
    rintro e w1 ⟨rfl, hb1⟩
    have HX1 := hid hb1
    go_wp2
    go_ret
    exact ⟨rfl, bt' HB.out HX1.out⟩
  cases b1
  · skip
    go_enter Try.func69, Try.ntmps69
    go_wp2_with fail
    rw [← HW.out]
    refine (HC0.out _ (Below.refl _ _)).mono ?_
    rintro e w1 ⟨rfl, hb1⟩
    have HX1 := hid hb1
    have hk1 := HK.out.below HX1.out HK.out.lt
    have c1_0 := hk1.cell (i := 0) rfl
    have c1_1 := hk1.cell (i := 1) rfl
    have c1_2 := hk1.cell (i := 2) rfl
    have c1_3 := hk1.cell (i := 3) rfl
    have c1_4 := hk1.cell (i := 4) rfl
    have c1_5 := hk1.cell (i := 5) rfl
    have c1_6 := hk1.cell (i := 6) rfl
    have c1_7 := hk1.cell (i := 7) rfl
    clear hb1 hk1
    go_wp2_with fail
    refine (HC1.out _ HX1.out).mono ?_
    rintro e w2 ⟨rfl, hb2⟩
    have HX2 := hid (bt' HX1.out hb2)
    go_wp2
    go_ret
    exact ⟨rfl, bt' HB.out HX2.out⟩
  cases b2
  · skip
    go_enter Try.func69, Try.ntmps69
    go_wp2_with fail
    rw [← HW.out]
    refine (HC0.out _ (Below.refl _ _)).mono ?_
    rintro e w1 ⟨rfl, hb1⟩
    have HX1 := hid hb1
    have hk1 := HK.out.below HX1.out HK.out.lt
    have c1_0 := hk1.cell (i := 0) rfl
    have c1_1 := hk1.cell (i := 1) rfl
    have c1_2 := hk1.cell (i := 2) rfl
    have c1_3 := hk1.cell (i := 3) rfl
    have c1_4 := hk1.cell (i := 4) rfl
    have c1_5 := hk1.cell (i := 5) rfl
    have c1_6 := hk1.cell (i := 6) rfl
    have c1_7 := hk1.cell (i := 7) rfl
    clear hb1 hk1
    go_wp2_with fail
    refine (HC1.out _ HX1.out).mono ?_
    rintro e w2 ⟨rfl, hb2⟩
    have HX2 := hid (bt' HX1.out hb2)
    have hk2 := HK.out.below HX2.out HK.out.lt
    have c2_0 := hk2.cell (i := 0) rfl
    have c2_1 := hk2.cell (i := 1) rfl
    have c2_2 := hk2.cell (i := 2) rfl
    have c2_3 := hk2.cell (i := 3) rfl
    have c2_4 := hk2.cell (i := 4) rfl
    have c2_5 := hk2.cell (i := 5) rfl
    have c2_6 := hk2.cell (i := 6) rfl
    have c2_7 := hk2.cell (i := 7) rfl
    clear hb2 hk2 c1_0 c1_1 c1_2 c1_3 c1_4 c1_5 c1_6 c1_7
    go_wp2_with fail
    refine (HC2.out _ HX2.out).mono ?_
    rintro e w3 ⟨rfl, hb3⟩
    have HX3 := hid (bt' HX2.out hb3)
    go_wp2
    go_ret
    exact ⟨rfl, bt' HB.out HX3.out⟩
  cases b3
  · skip
    go_enter Try.func69, Try.ntmps69
    go_wp2_with fail
    rw [← HW.out]
    refine (HC0.out _ (Below.refl _ _)).mono ?_
    rintro e w1 ⟨rfl, hb1⟩
    have HX1 := hid hb1
    have hk1 := HK.out.below HX1.out HK.out.lt
    have c1_0 := hk1.cell (i := 0) rfl
    have c1_1 := hk1.cell (i := 1) rfl
    have c1_2 := hk1.cell (i := 2) rfl
    have c1_3 := hk1.cell (i := 3) rfl
    have c1_4 := hk1.cell (i := 4) rfl
    have c1_5 := hk1.cell (i := 5) rfl
    have c1_6 := hk1.cell (i := 6) rfl
    have c1_7 := hk1.cell (i := 7) rfl
    clear hb1 hk1
    go_wp2_with fail
    refine (HC1.out _ HX1.out).mono ?_
    rintro e w2 ⟨rfl, hb2⟩
    have HX2 := hid (bt' HX1.out hb2)
    have hk2 := HK.out.below HX2.out HK.out.lt
    have c2_0 := hk2.cell (i := 0) rfl
    have c2_1 := hk2.cell (i := 1) rfl
    have c2_2 := hk2.cell (i := 2) rfl
    have c2_3 := hk2.cell (i := 3) rfl
    have c2_4 := hk2.cell (i := 4) rfl
    have c2_5 := hk2.cell (i := 5) rfl
    have c2_6 := hk2.cell (i := 6) rfl
    have c2_7 := hk2.cell (i := 7) rfl
    clear hb2 hk2 c1_0 c1_1 c1_2 c1_3 c1_4 c1_5 c1_6 c1_7
    go_wp2_with fail
    refine (HC2.out _ HX2.out).mono ?_
    rintro e w3 ⟨rfl, hb3⟩
    have HX3 := hid (bt' HX2.out hb3)
    have hk3 := HK.out.below HX3.out HK.out.lt
    have c3_0 := hk3.cell (i := 0) rfl
    have c3_1 := hk3.cell (i := 1) rfl
    have c3_2 := hk3.cell (i := 2) rfl
    have c3_3 := hk3.cell (i := 3) rfl
    have c3_4 := hk3.cell (i := 4) rfl
    have c3_5 := hk3.cell (i := 5) rfl
    have c3_6 := hk3.cell (i := 6) rfl
    have c3_7 := hk3.cell (i := 7) rfl
    clear hb3 hk3 c2_0 c2_1 c2_2 c2_3 c2_4 c2_5 c2_6 c2_7
    go_wp2_with fail
    refine (HC3.out _ HX3.out).mono ?_
    rintro e w4 ⟨rfl, hb4⟩
    have HX4 := hid (bt' HX3.out hb4)
    go_wp2
    go_ret
    exact ⟨rfl, bt' HB.out HX4.out⟩
  cases b4
  · skip
    go_enter Try.func69, Try.ntmps69
    go_wp2_with fail
    rw [← HW.out]
    refine (HC0.out _ (Below.refl _ _)).mono ?_
    rintro e w1 ⟨rfl, hb1⟩
    have HX1 := hid hb1
    have hk1 := HK.out.below HX1.out HK.out.lt
    have c1_0 := hk1.cell (i := 0) rfl
    have c1_1 := hk1.cell (i := 1) rfl
    have c1_2 := hk1.cell (i := 2) rfl
    have c1_3 := hk1.cell (i := 3) rfl
    have c1_4 := hk1.cell (i := 4) rfl
    have c1_5 := hk1.cell (i := 5) rfl
    have c1_6 := hk1.cell (i := 6) rfl
    have c1_7 := hk1.cell (i := 7) rfl
    clear hb1 hk1
    go_wp2_with fail
    refine (HC1.out _ HX1.out).mono ?_
    rintro e w2 ⟨rfl, hb2⟩
    have HX2 := hid (bt' HX1.out hb2)
    have hk2 := HK.out.below HX2.out HK.out.lt
    have c2_0 := hk2.cell (i := 0) rfl
    have c2_1 := hk2.cell (i := 1) rfl
    have c2_2 := hk2.cell (i := 2) rfl
    have c2_3 := hk2.cell (i := 3) rfl
    have c2_4 := hk2.cell (i := 4) rfl
    have c2_5 := hk2.cell (i := 5) rfl
    have c2_6 := hk2.cell (i := 6) rfl
    have c2_7 := hk2.cell (i := 7) rfl
    clear hb2 hk2 c1_0 c1_1 c1_2 c1_3 c1_4 c1_5 c1_6 c1_7
    go_wp2_with fail
    refine (HC2.out _ HX2.out).mono ?_
    rintro e w3 ⟨rfl, hb3⟩
    have HX3 := hid (bt' HX2.out hb3)
    have hk3 := HK.out.below HX3.out HK.out.lt
    have c3_0 := hk3.cell (i := 0) rfl
    have c3_1 := hk3.cell (i := 1) rfl
    have c3_2 := hk3.cell (i := 2) rfl
    have c3_3 := hk3.cell (i := 3) rfl
    have c3_4 := hk3.cell (i := 4) rfl
    have c3_5 := hk3.cell (i := 5) rfl
    have c3_6 := hk3.cell (i := 6) rfl
    have c3_7 := hk3.cell (i := 7) rfl
    clear hb3 hk3 c2_0 c2_1 c2_2 c2_3 c2_4 c2_5 c2_6 c2_7
    go_wp2_with fail
    refine (HC3.out _ HX3.out).mono ?_
    rintro e w4 ⟨rfl, hb4⟩
    have HX4 := hid (bt' HX3.out hb4)
    have hk4 := HK.out.below HX4.out HK.out.lt
    have c4_0 := hk4.cell (i := 0) rfl
    have c4_1 := hk4.cell (i := 1) rfl
    have c4_2 := hk4.cell (i := 2) rfl
    have c4_3 := hk4.cell (i := 3) rfl
    have c4_4 := hk4.cell (i := 4) rfl
    have c4_5 := hk4.cell (i := 5) rfl
    have c4_6 := hk4.cell (i := 6) rfl
    have c4_7 := hk4.cell (i := 7) rfl
    clear hb4 hk4 c3_0 c3_1 c3_2 c3_3 c3_4 c3_5 c3_6 c3_7
    go_wp2_with fail
    refine (HC4.out _ HX4.out).mono ?_
    rintro e w5 ⟨rfl, hb5⟩
    have HX5 := hid (bt' HX4.out hb5)
    go_wp2
    go_ret
    exact ⟨rfl, bt' HB.out HX5.out⟩
  cases b5
  · skip
    go_enter Try.func69, Try.ntmps69
    go_wp2_with fail
    rw [← HW.out]
    refine (HC0.out _ (Below.refl _ _)).mono ?_
    rintro e w1 ⟨rfl, hb1⟩
    have HX1 := hid hb1
    have hk1 := HK.out.below HX1.out HK.out.lt
    have c1_0 := hk1.cell (i := 0) rfl
    have c1_1 := hk1.cell (i := 1) rfl
    have c1_2 := hk1.cell (i := 2) rfl
    have c1_3 := hk1.cell (i := 3) rfl
    have c1_4 := hk1.cell (i := 4) rfl
    have c1_5 := hk1.cell (i := 5) rfl
    have c1_6 := hk1.cell (i := 6) rfl
    have c1_7 := hk1.cell (i := 7) rfl
    clear hb1 hk1
    go_wp2_with fail
    refine (HC1.out _ HX1.out).mono ?_
    rintro e w2 ⟨rfl, hb2⟩
    have HX2 := hid (bt' HX1.out hb2)
    have hk2 := HK.out.below HX2.out HK.out.lt
    have c2_0 := hk2.cell (i := 0) rfl
    have c2_1 := hk2.cell (i := 1) rfl
    have c2_2 := hk2.cell (i := 2) rfl
    have c2_3 := hk2.cell (i := 3) rfl
    have c2_4 := hk2.cell (i := 4) rfl
    have c2_5 := hk2.cell (i := 5) rfl
    have c2_6 := hk2.cell (i := 6) rfl
    have c2_7 := hk2.cell (i := 7) rfl
    clear hb2 hk2 c1_0 c1_1 c1_2 c1_3 c1_4 c1_5 c1_6 c1_7
    go_wp2_with fail
    refine (HC2.out _ HX2.out).mono ?_
    rintro e w3 ⟨rfl, hb3⟩
    have HX3 := hid (bt' HX2.out hb3)
    have hk3 := HK.out.below HX3.out HK.out.lt
    have c3_0 := hk3.cell (i := 0) rfl
    have c3_1 := hk3.cell (i := 1) rfl
    have c3_2 := hk3.cell (i := 2) rfl
    have c3_3 := hk3.cell (i := 3) rfl
    have c3_4 := hk3.cell (i := 4) rfl
    have c3_5 := hk3.cell (i := 5) rfl
    have c3_6 := hk3.cell (i := 6) rfl
    have c3_7 := hk3.cell (i := 7) rfl
    clear hb3 hk3 c2_0 c2_1 c2_2 c2_3 c2_4 c2_5 c2_6 c2_7
    go_wp2_with fail
    refine (HC3.out _ HX3.out).mono ?_
    rintro e w4 ⟨rfl, hb4⟩
    have HX4 := hid (bt' HX3.out hb4)
    have hk4 := HK.out.below HX4.out HK.out.lt
    have c4_0 := hk4.cell (i := 0) rfl
    have c4_1 := hk4.cell (i := 1) rfl
    have c4_2 := hk4.cell (i := 2) rfl
    have c4_3 := hk4.cell (i := 3) rfl
    have c4_4 := hk4.cell (i := 4) rfl
    have c4_5 := hk4.cell (i := 5) rfl
    have c4_6 := hk4.cell (i := 6) rfl
    have c4_7 := hk4.cell (i := 7) rfl
    clear hb4 hk4 c3_0 c3_1 c3_2 c3_3 c3_4 c3_5 c3_6 c3_7
    go_wp2_with fail
    refine (HC4.out _ HX4.out).mono ?_
    rintro e w5 ⟨rfl, hb5⟩
    have HX5 := hid (bt' HX4.out hb5)
    have hk5 := HK.out.below HX5.out HK.out.lt
    have c5_0 := hk5.cell (i := 0) rfl
    have c5_1 := hk5.cell (i := 1) rfl
    have c5_2 := hk5.cell (i := 2) rfl
    have c5_3 := hk5.cell (i := 3) rfl
    have c5_4 := hk5.cell (i := 4) rfl
    have c5_5 := hk5.cell (i := 5) rfl
    have c5_6 := hk5.cell (i := 6) rfl
    have c5_7 := hk5.cell (i := 7) rfl
    clear hb5 hk5 c4_0 c4_1 c4_2 c4_3 c4_4 c4_5 c4_6 c4_7
    go_wp2_with fail
    refine (HC5.out _ HX5.out).mono ?_
    rintro e w6 ⟨rfl, hb6⟩
    have HX6 := hid (bt' HX5.out hb6)
    go_wp2
    go_ret
    exact ⟨rfl, bt' HB.out HX6.out⟩
  go_enter Try.func69, Try.ntmps69
  go_wp2_with fail
  rw [← HW.out]
  refine (HC0.out _ (Below.refl _ _)).mono ?_
  rintro e w1 ⟨rfl, hb1⟩
  have HX1 := hid hb1
  have hk1 := HK.out.below HX1.out HK.out.lt
  have c1_0 := hk1.cell (i := 0) rfl
  have c1_1 := hk1.cell (i := 1) rfl
  have c1_2 := hk1.cell (i := 2) rfl
  have c1_3 := hk1.cell (i := 3) rfl
  have c1_4 := hk1.cell (i := 4) rfl
  have c1_5 := hk1.cell (i := 5) rfl
  have c1_6 := hk1.cell (i := 6) rfl
  have c1_7 := hk1.cell (i := 7) rfl
  clear hb1 hk1
  go_wp2_with fail
  refine (HC1.out _ HX1.out).mono ?_
  rintro e w2 ⟨rfl, hb2⟩
  have HX2 := hid (bt' HX1.out hb2)
  have hk2 := HK.out.below HX2.out HK.out.lt
  have c2_0 := hk2.cell (i := 0) rfl
  have c2_1 := hk2.cell (i := 1) rfl
  have c2_2 := hk2.cell (i := 2) rfl
  have c2_3 := hk2.cell (i := 3) rfl
  have c2_4 := hk2.cell (i := 4) rfl
  have c2_5 := hk2.cell (i := 5) rfl
  have c2_6 := hk2.cell (i := 6) rfl
  have c2_7 := hk2.cell (i := 7) rfl
  clear hb2 hk2 c1_0 c1_1 c1_2 c1_3 c1_4 c1_5 c1_6 c1_7
  go_wp2_with fail
  refine (HC2.out _ HX2.out).mono ?_
  rintro e w3 ⟨rfl, hb3⟩
  have HX3 := hid (bt' HX2.out hb3)
  have hk3 := HK.out.below HX3.out HK.out.lt
  have c3_0 := hk3.cell (i := 0) rfl
  have c3_1 := hk3.cell (i := 1) rfl
  have c3_2 := hk3.cell (i := 2) rfl
  have c3_3 := hk3.cell (i := 3) rfl
  have c3_4 := hk3.cell (i := 4) rfl
  have c3_5 := hk3.cell (i := 5) rfl
  have c3_6 := hk3.cell (i := 6) rfl
  have c3_7 := hk3.cell (i := 7) rfl
  clear hb3 hk3 c2_0 c2_1 c2_2 c2_3 c2_4 c2_5 c2_6 c2_7
  go_wp2_with fail
  refine (HC3.out _ HX3.out).mono ?_
  rintro e w4 ⟨rfl, hb4⟩
  have HX4 := hid (bt' HX3.out hb4)
  have hk4 := HK.out.below HX4.out HK.out.lt
  have c4_0 := hk4.cell (i := 0) rfl
  have c4_1 := hk4.cell (i := 1) rfl
  have c4_2 := hk4.cell (i := 2) rfl
  have c4_3 := hk4.cell (i := 3) rfl
  have c4_4 := hk4.cell (i := 4) rfl
  have c4_5 := hk4.cell (i := 5) rfl
  have c4_6 := hk4.cell (i := 6) rfl
  have c4_7 := hk4.cell (i := 7) rfl
  clear hb4 hk4 c3_0 c3_1 c3_2 c3_3 c3_4 c3_5 c3_6 c3_7
  go_wp2_with fail
  refine (HC4.out _ HX4.out).mono ?_
  rintro e w5 ⟨rfl, hb5⟩
  have HX5 := hid (bt' HX4.out hb5)
  have hk5 := HK.out.below HX5.out HK.out.lt
  have c5_0 := hk5.cell (i := 0) rfl
  have c5_1 := hk5.cell (i := 1) rfl
  have c5_2 := hk5.cell (i := 2) rfl
  have c5_3 := hk5.cell (i := 3) rfl
  have c5_4 := hk5.cell (i := 4) rfl
  have c5_5 := hk5.cell (i := 5) rfl
  have c5_6 := hk5.cell (i := 6) rfl
  have c5_7 := hk5.cell (i := 7) rfl
  clear hb5 hk5 c4_0 c4_1 c4_2 c4_3 c4_4 c4_5 c4_6 c4_7
  go_wp2_with fail
  refine (HC5.out _ HX5.out).mono ?_
  rintro e w6 ⟨rfl, hb6⟩
  have HX6 := hid (bt' HX5.out hb6)
  have hk6 := HK.out.below HX6.out HK.out.lt
  have c6_0 := hk6.cell (i := 0) rfl
  have c6_1 := hk6.cell (i := 1) rfl
  have c6_2 := hk6.cell (i := 2) rfl
  have c6_3 := hk6.cell (i := 3) rfl
  have c6_4 := hk6.cell (i := 4) rfl
  have c6_5 := hk6.cell (i := 5) rfl
  have c6_6 := hk6.cell (i := 6) rfl
  have c6_7 := hk6.cell (i := 7) rfl
  clear hb6 hk6 c5_0 c5_1 c5_2 c5_3 c5_4 c5_5 c5_6 c5_7
  go_wp2_with fail
  refine (HC6.out _ HX6.out).mono ?_
  rintro e w7 ⟨rfl, hb7⟩
  have HX7 := hid (bt' HX6.out hb7)
  go_wp2
  go_ret
  exact ⟨rfl, bt' HB.out HX7.out⟩
end Go.Proofs.Ytgghfmdciohinaa
