/-
  Package acceptor: sameEntry.
-/
import Derived.Test.YtbofpapdbjecoaaGreatAcA
namespace Go.Proofs.YtbofpapdbjecoaaGreat
open Go.RowKit Go.Maps

theorem toList_injA {a b : ByteArray} (h : a.toList = b.toList) : a = b := bytes_injC h
set_option maxRecDepth 100000 in
set_option maxHeartbeats 1000000 in
theorem sameEnA (w : World) (x y : EnM) (hx : EnOk w x) (hy : EnOk w y) : Calls Tryz.prog 92 #[x.val, y.val] w fun e w' => e = .returned (.bool (decide (x.e = y.e))) ∧ Below w.heap.size w w' := by
  obtain ⟨⟨np, tk, ct, ep, dp⟩, ao1, cap1⟩ := x
  obtain ⟨⟨np', tk', ct', ep', dp'⟩, ao2, cap2⟩ := y
  obtain ⟨XN, HXN⟩ : ∃ m, Hid (dp.length = m) := ⟨_, hid rfl⟩
  obtain ⟨YN, HYN⟩ : ∃ m, Hid (dp'.length = m) := ⟨_, hid rfl⟩
  simp only [EnM.val]
  rw [HXN.out, HYN.out]
  obtain ⟨W, hW⟩ : ∃ W, W = (w.alloc (.cells #[.bool np, .string tk, .string ct, .int .i64 ep, .slice ao1 XN cap1] 39)).alloc (.cells #[.bool np', .string tk', .string ct', .int .i64 ep', .slice ao2 YN cap2] 39) := ⟨_, rfl⟩
  have HB : Hid (Below w.heap.size w W) := by rw [hW]; exact ((Below.refl _ _).alloc (Nat.le_refl _) _).alloc (by simp) _
  have HS := hid (equalL_any W ao1 ao2 cap1 cap2 dp dp' XN YN HXN.out HYN.out (hx.cut.below HB.out) (hy.cut.below HB.out))
  have HW := hid hW
  clear hx hy hW
  by_cases h1 : np = np'
  · by_cases h2 : tk = tk'
    · by_cases h3 : ct = ct'
      · by_cases h4 : ep = ep'
        · subst h1 h2 h3 h4
          have HD : Hid (decide ((⟨np, tk, ct, ep, dp⟩ : En) = ⟨np, tk, ct, ep, dp'⟩) = decide (dp = dp')) := by
            show _ = _
            rw [Bool.eq_iff_iff, decide_eq_true_iff, decide_eq_true_iff]
            exact ⟨fun h => by cases h; rfl, fun h => by rw [h]⟩
          rw [HD.out]
          have hnn : (np == np) = true := by simp
          go_enter Tryz.func92, Tryz.ntmps92
          go_wp2_with fail
          rw [← HW.out]
          refine HS.out.mono ?_
          rintro e w' ⟨rfl, q, rfl⟩
          go_wp2
          go_ret
          exact ⟨rfl, below_dn HB.out q⟩
        · rw [decide_eq_false (fun h => by cases h; exact h4 rfl)]
          have hnn : (ep == ep') = false := by simpa using h4
          subst h1 h2 h3
          have hnp : (np == np) = true := by simp
          go_enter Tryz.func92, Tryz.ntmps92
          go_wp2
          go_ret
          rw [← HW.out]
          exact ⟨rfl, HB.out⟩
      · rw [decide_eq_false (fun h => by cases h; exact h3 rfl)]
        have hb2 : (ct.toList == ct'.toList) = false := beq_eq_false_iff_ne.2 fun hh => h3 (toList_injA hh)
        have hb3 : ¬ ct.toList = ct'.toList := fun hh => h3 (toList_injA hh)
        subst h1 h2
        have hnp : (np == np) = true := by simp
        go_enter Tryz.func92, Tryz.ntmps92
        go_wp2
        go_ret
        rw [← HW.out]
        exact ⟨rfl, HB.out⟩
    · rw [decide_eq_false (fun h => by cases h; exact h2 rfl)]
      have hb2 : (tk.toList == tk'.toList) = false := beq_eq_false_iff_ne.2 fun hh => h2 (toList_injA hh)
      have hb3 : ¬ tk.toList = tk'.toList := fun hh => h2 (toList_injA hh)
      subst h1
      have hnp : (np == np) = true := by simp
      go_enter Tryz.func92, Tryz.ntmps92
      go_wp2
      go_ret
      rw [← HW.out]
      exact ⟨rfl, HB.out⟩
  · rw [decide_eq_false (fun h => by cases h; exact h1 rfl)]
    have hnp : (np == np') = false := by simpa using h1
    go_enter Tryz.func92, Tryz.ntmps92
    go_wp2
    go_ret
    rw [← HW.out]
    exact ⟨rfl, HB.out⟩
end Go.Proofs.YtbofpapdbjecoaaGreat
