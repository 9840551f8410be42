/-
  Package learner: mayEntry, same.
-/
import Derived.Test.YtkphdcdjmjjojaaLrA
namespace Go.Proofs.Ytkphdcdjmjjojaa
open Go.RowKit Go.Maps

/-- A message with an entry alone. -/
def msOfEn (x : EnM) : MsM := ⟨0, 0, 0, (0, 0), 0, x, none, 0, [], none, 0, [], none, 0, [], 0⟩
theorem i64_zero : I64 0 := by unfold I64; omega
theorem msOfEn_ok {w : World} {x : EnM} (h : EnOk w x) : MsOk w (msOfEn x) where
  en := h
  vs := ⟨fun _ h => (by cases h), .inl rfl⟩
  vl := by simp [msOfEn]
  seen := ⟨⟨fun _ h => (by cases h), .inl rfl⟩, Nat.le_refl _, by simp [msOfEn]⟩
  evs := ⟨fun _ h => (by cases h), .inl rfl⟩
  el := by simp [msOfEn]
  ik := i64_zero
  ifr := i64_zero
  it := i64_zero
  ib1 := i64_zero
  ib2 := i64_zero
  isl := i64_zero
  iti := i64_zero
theorem rightMs_en (x : EnM) : RightMs (msOfEn x) = RightEn x.e := by
  have h1 : RightMs (msOfEn x) = (true && (true && (true && (true && (true && (RightEn x.e && (true && (true && (true && true))))))))) := by
    unfold RightMs msOfEn
    rfl
  rw [h1]
  simp
theorem encMs_en (x : EnM) (h : RightEn x.e = true) : (encMs (msOfEn x)).length ≤ 65536 := by
  have h3 := en_len (rightEn_iff h)
  have e0 : (enc 0).length ≤ 10 := enc_le10 (by omega)
  unfold encMs encVos encVC encEvs msOfEn
  simp only [List.length_append, List.length_nil, List.flatMap_nil, encNC, Int.toNat_zero]
  omega
set_option maxRecDepth 100000 in
set_option maxHeartbeats 1000000 in
theorem mayEntryLr (w : World) (x : EnM) (hx : EnOk w x) : Calls Try.prog 24 #[x.val] w fun e w' => e = .returned (.bool (RightEn x.e)) ∧ Below w.heap.size w w' := by
  have H : Hid (∀ V, Below w.heap.size w V → Calls Try.prog 40 #[(msOfEn x).val] V fun e w' => ∃ v c, e = .returned (.tuple #[v, .int .i64 c]) ∧ (c = 0 ↔ RightEn x.e = true) ∧ Below w.heap.size w w') := fun V hV => by
    refine (msg_any V (msOfEn x) (msOfEn_ok (hx.below hV))).mono ?_
    rintro e w' ⟨hb, h2⟩
    rw [rightMs_en] at h2
    by_cases hr : RightEn x.e = true
    · rw [if_pos hr, if_pos (encMs_en x hr)] at h2
      obtain ⟨v, rfl, _⟩ := h2
      exact ⟨_, _, rfl, ⟨fun _ => hr, fun _ => rfl⟩, bt' hV hb⟩
    · rw [if_neg hr] at h2
      subst h2
      exact ⟨_, _, rfl, ⟨fun h => (by cases h), fun h => absurd h hr⟩, bt' hV hb⟩
  obtain ⟨R, HRR⟩ : ∃ b, Hid (RightEn x.e = b) := ⟨_, hid rfl⟩
  rw [HRR.out] at H ⊢
  clear hx
  obtain ⟨⟨np, tk, ct, ep, dp⟩, ao1, cap1⟩ := x
  obtain ⟨XN, HXN⟩ : ∃ m, Hid (dp.length = m) := ⟨_, hid rfl⟩
  simp only [EnM.val, msOfEn, MsM.val, List.length_nil] at H ⊢
  rw [HXN.out] at H ⊢
  have HA : Hid (Below w.heap.size w (w.alloc (.cells #[.bool np, .string tk, .string ct, .int .i64 ep, .slice ao1 XN cap1] 33))) := (Below.refl _ _).alloc (Nat.le_refl _) _
  go_enter Try.func24, Try.ntmps24
  go_wp2_with fail
  refine (H.out _ HA.out).mono ?_
  rintro e w' ⟨v, c, rfl, hc, hb⟩
  have HB := hid hb
  have HQ : Hid ((c == 0) = R) := by
    show _ = _
    rw [Bool.eq_iff_iff, beq_iff_eq]
    exact hc
  clear hb hc
  go_wp2
  go_ret
  refine ⟨?_, HB.out⟩
  rw [HQ.out]
  rfl
theorem toList_injL {a b : ByteArray} (h : a.toList = b.toList) : a = b := bytes_injC h
set_option maxRecDepth 100000 in
set_option maxHeartbeats 1000000 in
theorem sameLr (w : World) (x y : EnM) (hx : EnOk w x) (hy : EnOk w y) : Calls Try.prog 25 #[x.val, y.val] w fun e w' => e = .returned (.bool (decide (x.e = y.e))) ∧ Below w.heap.size w w' := by
  obtain ⟨⟨np, tk, ct, ep, dp⟩, ao1, cap1⟩ := x
  obtain ⟨⟨np', tk', ct', ep', dp'⟩, ao2, cap2⟩ := y
  obtain ⟨XN, HXN⟩ : ∃ m, Hid (dp.length = m) := ⟨_, hid rfl⟩
  obtain ⟨YN, HYN⟩ : ∃ m, Hid (dp'.length = m) := ⟨_, hid rfl⟩
  simp only [EnM.val]
  rw [HXN.out, HYN.out]
  obtain ⟨W, hW⟩ : ∃ W, W = (w.alloc (.cells #[.bool np, .string tk, .string ct, .int .i64 ep, .slice ao1 XN cap1] 33)).alloc (.cells #[.bool np', .string tk', .string ct', .int .i64 ep', .slice ao2 YN cap2] 33) := ⟨_, rfl⟩
  have HB : Hid (Below w.heap.size w W) := by rw [hW]; exact ((Below.refl _ _).alloc (Nat.le_refl _) _).alloc (by simp) _
  have HS := hid (equalL_any W ao1 ao2 cap1 cap2 dp dp' XN YN HXN.out HYN.out (hx.cut.below HB.out) (hy.cut.below HB.out))
  have HW := hid hW
  clear hx hy hW
  by_cases h1 : np = np'
  · by_cases h2 : tk = tk'
    · by_cases h3 : ct = ct'
      · by_cases h4 : ep = ep'
        · subst h1 h2 h3 h4
          have HD : Hid (decide ((⟨np, tk, ct, ep, dp⟩ : En) = ⟨np, tk, ct, ep, dp'⟩) = decide (dp = dp')) := by
            show _ = _
            rw [Bool.eq_iff_iff, decide_eq_true_iff, decide_eq_true_iff]
            exact ⟨fun h => by cases h; rfl, fun h => by rw [h]⟩
          rw [HD.out]
          have hnn : (np == np) = true := by simp
          go_enter Try.func25, Try.ntmps25
          go_wp2_with fail
          rw [← HW.out]
          refine HS.out.mono ?_
          rintro e w' ⟨rfl, q, rfl⟩
          go_wp2
          go_ret
          exact ⟨rfl, below_dn HB.out q⟩
        · rw [decide_eq_false (fun h => by cases h; exact h4 rfl)]
          have hnn : (ep == ep') = false := by simpa using h4
          subst h1 h2 h3
          have hnp : (np == np) = true := by simp
          go_enter Try.func25, Try.ntmps25
          go_wp2
          go_ret
          rw [← HW.out]
          exact ⟨rfl, HB.out⟩
      · rw [decide_eq_false (fun h => by cases h; exact h3 rfl)]
        have hb2 : (ct.toList == ct'.toList) = false := beq_eq_false_iff_ne.2 fun hh => h3 (toList_injL hh)
        have hb3 : ¬ ct.toList = ct'.toList := fun hh => h3 (toList_injL hh)
        subst h1 h2
        have hnp : (np == np) = true := by simp
        go_enter Try.func25, Try.ntmps25
        go_wp2
        go_ret
        rw [← HW.out]
        exact ⟨rfl, HB.out⟩
    · rw [decide_eq_false (fun h => by cases h; exact h2 rfl)]
      have hb2 : (tk.toList == tk'.toList) = false := beq_eq_false_iff_ne.2 fun hh => h2 (toList_injL hh)
      have hb3 : ¬ tk.toList = tk'.toList := fun hh => h2 (toList_injL hh)
      subst h1
      have hnp : (np == np) = true := by simp
      go_enter Try.func25, Try.ntmps25
      go_wp2
      go_ret
      rw [← HW.out]
      exact ⟨rfl, HB.out⟩
  · rw [decide_eq_false (fun h => by cases h; exact h1 rfl)]
    have hnp : (np == np') = false := by simpa using h1
    go_enter Try.func25, Try.ntmps25
    go_wp2
    go_ret
    rw [← HW.out]
    exact ⟨rfl, HB.out⟩
end Go.Proofs.Ytkphdcdjmjjojaa
