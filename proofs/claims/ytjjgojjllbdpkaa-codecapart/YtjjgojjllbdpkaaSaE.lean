/-
  The laws' SameSeal of whatever two.
-/
import Derived.Test.YtjjgojjllbdpkaaSameB
import Derived.Test.YtjjgojjllbdpkaaCodB
namespace Go.Proofs.Ytjjgojjllbdpkaa
open Go.RowKit Go.Maps

set_option maxRecDepth 100000 in
set_option maxHeartbeats 1000000 in
theorem sameSeal_A (w : World) (tk ct tk' ct' : ByteArray) (ep ep' : Int) (dp dp' : List Int) (ao bo : Option Addr) (ca cb m n : Nat) (hm : dp.length = m) (hn : dp'.length = n) (ha : HV w ao ca dp) (hb : HV w bo cb dp') :
    Calls Try.prog 41 #[.agg #[.string tk, .string ct, .int .i64 ep, .slice ao m ca], .agg #[.string tk', .string ct', .int .i64 ep', .slice bo n cb]] w fun e w' => e = .returned (.bool (decide (tk = tk' ∧ ct = ct' ∧ ep = ep' ∧ dp = dp'))) ∧ Below w.heap.size w w' := by
  obtain ⟨W, hW⟩ : ∃ W, W = (w.alloc (.cells #[.string tk, .string ct, .int .i64 ep, .slice ao m ca] 26)).alloc (.cells #[.string tk', .string ct', .int .i64 ep', .slice bo n cb] 26) := ⟨_, rfl⟩
  have HB : Hid (Below w.heap.size w W) := by rw [hW]; exact ((Below.refl _ _).alloc (Nat.le_refl _) _).alloc (by simp) _
  have HS := hid (sameVec_B W ao bo ca cb dp dp' m n hm hn (ha.below HB.out) (hb.below HB.out))
  have HW := hid hW
  clear ha hb hm hn hW
  by_cases h2 : tk = tk'
  · by_cases h3 : ct = ct'
    · by_cases h4 : ep = ep'
      · subst h2 h3 h4
        have HD : Hid (decide (tk = tk ∧ ct = ct ∧ ep = ep ∧ dp = dp') = decide (dp = dp')) := by
          show _ = _
          rw [Bool.eq_iff_iff, decide_eq_true_iff, decide_eq_true_iff]
          exact ⟨fun h => h.2.2.2, fun h => ⟨rfl, rfl, rfl, h⟩⟩
        rw [HD.out]
        have hee : (ep == ep) = true := by simp
        go_enter Try.func41, Try.ntmps41
        go_wp2_with fail
        rw [← HW.out]
        refine HS.out.mono ?_
        rintro e w' ⟨rfl, q, rfl⟩
        go_wp2
        go_ret
        exact ⟨rfl, below_dn HB.out q⟩
      · rw [decide_eq_false (fun h => h4 h.2.2.1)]
        have hnn : (ep == ep') = false := by simpa using h4
        subst h2 h3
        go_enter Try.func41, Try.ntmps41
        go_wp2
        go_ret
        rw [← HW.out]
        exact ⟨rfl, HB.out⟩
    · rw [decide_eq_false (fun h => h3 h.2.1)]
      have hb2 : (ct.toList == ct'.toList) = false := beq_eq_false_iff_ne.2 fun hh => h3 (bytes_injC hh)
      have hb3 : ¬ ct.toList = ct'.toList := fun hh => h3 (bytes_injC hh)
      subst h2
      go_enter Try.func41, Try.ntmps41
      go_wp2
      go_ret
      rw [← HW.out]
      exact ⟨rfl, HB.out⟩
  · rw [decide_eq_false (fun h => h2 h.1)]
    have hb2 : (tk.toList == tk'.toList) = false := beq_eq_false_iff_ne.2 fun hh => h2 (bytes_injC hh)
    have hb3 : ¬ tk.toList = tk'.toList := fun hh => h2 (bytes_injC hh)
    go_enter Try.func41, Try.ntmps41
    go_wp2
    go_ret
    rw [← HW.out]
    exact ⟨rfl, HB.out⟩

end Go.Proofs.Ytjjgojjllbdpkaa
/-
  The laws' SameEntry of whatever two.
-/
namespace Go.Proofs.Ytjjgojjllbdpkaa
open Go.RowKit Go.Maps

set_option maxRecDepth 100000 in
set_option maxHeartbeats 1000000 in
theorem sameEntry_A (w : World) (x y : EnM) (hx : EnOk w x) (hy : EnOk w y) : Calls Try.prog 18 #[x.val, y.val] w fun e w' => e = .returned (.bool (decide (x.e = y.e))) ∧ Below w.heap.size w w' := by
  obtain ⟨⟨np, tk, ct, ep, dp⟩, ao, ca⟩ := x
  obtain ⟨⟨np', tk', ct', ep', dp'⟩, bo, cb⟩ := y
  obtain ⟨m, HM⟩ : ∃ m, Hid (dp.length = m) := ⟨_, hid rfl⟩
  obtain ⟨n, HN⟩ : ∃ n, Hid (dp'.length = n) := ⟨_, hid rfl⟩
  simp only [EnM.val]
  rw [HM.out, HN.out]
  obtain ⟨W, hW⟩ : ∃ W, W = (w.alloc (.cells #[.bool np, .string tk, .string ct, .int .i64 ep, .slice ao m ca] 28)).alloc (.cells #[.bool np', .string tk', .string ct', .int .i64 ep', .slice bo n cb] 28) := ⟨_, rfl⟩
  have HB : Hid (Below w.heap.size w W) := by rw [hW]; exact ((Below.refl _ _).alloc (Nat.le_refl _) _).alloc (by simp) _
  have HS := hid (sameSeal_A W tk ct tk' ct' ep ep' dp dp' ao bo ca cb m n HM.out HN.out (hx.below HB.out).cut (hy.below HB.out).cut)
  have HW := hid hW
  clear hx hy hW
  by_cases h1 : np = np'
  · subst h1
    have HD : Hid (decide ((⟨np, tk, ct, ep, dp⟩ : En) = ⟨np, tk', ct', ep', dp'⟩) = decide (tk = tk' ∧ ct = ct' ∧ ep = ep' ∧ dp = dp')) := by
      show _ = _
      rw [Bool.eq_iff_iff, decide_eq_true_iff, decide_eq_true_iff]
      constructor
      · intro h
        cases h
        exact ⟨rfl, rfl, rfl, rfl⟩
      · rintro ⟨rfl, rfl, rfl, rfl⟩
        rfl
    rw [HD.out]
    obtain ⟨r, HR⟩ : ∃ r, Hid (decide (tk = tk' ∧ ct = ct' ∧ ep = ep' ∧ dp = dp') = r) := ⟨_, hid rfl⟩
    rw [HR.out] at HS ⊢
    have hnn : (np == np) = true := by simp
    go_enter Try.func18, Try.ntmps18
    go_wp2_with fail
    rw [← HW.out]
    refine HS.out.mono ?_
    rintro e w' ⟨rfl, hb⟩
    have HBF := hid (bt' HB.out hb)
    clear hb
    go_wp2
    go_ret
    exact ⟨rfl, HBF.out⟩
  · rw [decide_eq_false (fun h => by cases h; exact h1 rfl)]
    have hnn : (np == np') = false := by simpa using h1
    go_enter Try.func18, Try.ntmps18
    go_wp2
    go_ret
    rw [← HW.out]
    exact ⟨rfl, HB.out⟩
end Go.Proofs.Ytjjgojjllbdpkaa
