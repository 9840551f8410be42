/-
  Package ballot: Next, Quorum, and the document's Compare, Next, Quorum.
-/
import Derived.Test.YtdceenejijigdaaBalA
namespace Go.Proofs.Ytdceenejijigdaa
open Go.RowKit Go.Maps

set_option maxRecDepth 100000 in
theorem rcompareB (W : World) (x y : Int × Int) : Calls Try.prog 13 #[blt x, blt y] W fun e w' => e = .returned (.int .i64 (cmpB x y)) ∧ Below W.heap.size W w' := by
  obtain ⟨x1, x2⟩ := x
  obtain ⟨y1, y2⟩ := y
  have HB : Hid (Below W.heap.size W ((W.alloc (.cells #[.int .i64 x1, .int .i64 x2] 23)).alloc (.cells #[.int .i64 y1, .int .i64 y2] 23))) := ((Below.refl _ _).alloc (Nat.le_refl _) _).alloc (by simp) _
  by_cases h : x1 = y1
  · subst h
    have HE : Hid (cmpB (x1, x2) (x1, y2) = cmpN x2 y2) := by show _ = _; simp [cmpB, cmpN_same]
    rw [HE.out]
    unfold cmpN
    by_cases h1 : x2 < y2
    · rw [if_pos h1]
      go_enter Try.func13, Try.ntmps13
      go_wp2
      go_quiet (fail)
      go_wp2
      go_quiet (fail)
      go_wp2
      go_ret
      exact ⟨rfl, below_dn HB.out _⟩
    · rw [if_neg h1]
      by_cases h2 : y2 < x2
      · rw [if_pos h2]
        go_enter Try.func13, Try.ntmps13
        go_wp2
        go_quiet (fail)
        go_wp2
        go_quiet (fail)
        go_wp2
        go_ret
        exact ⟨rfl, below_dn HB.out _⟩
      · rw [if_neg h2]
        go_enter Try.func13, Try.ntmps13
        go_wp2
        go_quiet (fail)
        go_wp2
        go_quiet (fail)
        go_wp2
        go_ret
        exact ⟨rfl, below_dn HB.out _⟩
  · have hb : (x1 == y1) = false := by simpa using h
    have HE : Hid (cmpB (x1, x2) (y1, y2) = cmpN x1 y1) := by
      show _ = _
      unfold cmpB
      rw [if_pos (by simpa [cmpN_zero] using h)]
    rw [HE.out]
    unfold cmpN
    by_cases h1 : x1 < y1
    · rw [if_pos h1]
      go_enter Try.func13, Try.ntmps13
      go_wp2
      go_quiet (fail)
      go_wp2
      go_ret
      exact ⟨rfl, below_dn HB.out _⟩
    · rw [if_neg h1]
      by_cases h2 : y1 < x1
      · rw [if_pos h2]
        go_enter Try.func13, Try.ntmps13
        go_wp2
        go_quiet (fail)
        go_wp2
        go_ret
        exact ⟨rfl, below_dn HB.out _⟩
      · omega

theorem mayCountB (w : World) (n : Int) : Calls Try.prog 30 #[.int .i64 n] w fun e w' => e = .returned (.bool (decide (1 ≤ n ∧ n ≤ 7))) ∧ w' = w := by
  by_cases h0 : 1 ≤ n
  · by_cases h1 : n ≤ 7
    · go_enter Try.func30, Try.ntmps30
      go_wp2
      go_ret
      exact ⟨ret_bool (by simp [h0, h1]), rfl⟩
    · go_enter Try.func30, Try.ntmps30
      go_wp2
      go_ret
      exact ⟨ret_bool (by simp; omega), rfl⟩
  · go_enter Try.func30, Try.ntmps30
    go_wp2
    go_ret
    exact ⟨ret_bool (by simp; omega), rfl⟩
/-- How many are a majority. -/
def quorum (n : Int) : Int := if 1 ≤ n ∧ n ≤ 7 then n / 2 + 1 else 0
theorem wrap_half {n : Int} (h : 1 ≤ n ∧ n ≤ 7) : wrap64 (wrap64 (n.tdiv 2) + 1) = n / 2 + 1 := by
  have a0 : n.tdiv 2 = n / 2 := Int.tdiv_eq_ediv_of_nonneg (by omega)
  rw [a0, wrapS (x := n / 2) (by omega) (by omega), wrapS (by omega) (by omega)]
theorem quorumB (w : World) (n : Int) : Calls Try.prog 14 #[.int .i64 n] w fun e w' => e = .returned (.int .i64 (quorum n)) ∧ w' = w := by
  have HM := hid (mayCountB w n)
  unfold quorum
  by_cases h : 1 ≤ n ∧ n ≤ 7
  · rw [if_pos h]
    rw [decide_eq_true h] at HM
    have HW := hid (wrap_half h)
    clear h
    go_enter Try.func14, Try.ntmps14
    go_wp2_with fail
    refine HM.out.mono ?_
    rintro e w' ⟨rfl, rfl⟩
    go_wp2
    go_ret
    exact ⟨ret_int HW.out, rfl⟩
  · rw [if_neg h]
    rw [decide_eq_false h] at HM
    clear h
    go_enter Try.func14, Try.ntmps14
    go_wp2_with fail
    refine HM.out.mono ?_
    rintro e w' ⟨rfl, rfl⟩
    go_wp2
    go_ret
    exact ⟨rfl, rfl⟩
theorem rquorumB (w : World) (n : Int) : Calls Try.prog 15 #[.int .i64 n] w fun e w' => e = .returned (.int .i64 (quorum n)) ∧ w' = w := by
  unfold quorum
  by_cases h0 : n < 1
  · rw [if_neg (by omega)]
    go_enter Try.func15, Try.ntmps15
    go_wp2
    go_ret
    exact ⟨rfl, rfl⟩
  · by_cases h1 : 7 < n
    · rw [if_neg (by omega)]
      go_enter Try.func15, Try.ntmps15
      go_wp2
      go_ret
      exact ⟨rfl, rfl⟩
    · rw [if_pos (by omega)]
      go_enter Try.func15, Try.ntmps15
      go_wp2
      go_ret
      exact ⟨rfl, rfl⟩

/-- The next ballot, and which error. -/
def nextE (r n : Int) : Int := if n < 0 ∨ 7 ≤ n then 1 else if r < 0 ∨ 2147483647 ≤ r then 2 else 0
def nextB (r n : Int) : Int × Int := if nextE r n = 0 then (r + 1, n) else (0, 0)
theorem nextE_or (r n : Int) : (nextE r n = 1 ∧ nextB r n = (0, 0) ∧ (n < 0 ∨ 7 ≤ n)) ∨ (nextE r n = 2 ∧ nextB r n = (0, 0) ∧ ¬ (n < 0 ∨ 7 ≤ n) ∧ (r < 0 ∨ 2147483647 ≤ r)) ∨ (nextE r n = 0 ∧ nextB r n = (r + 1, n) ∧ ¬ (n < 0 ∨ 7 ≤ n) ∧ ¬ (r < 0 ∨ 2147483647 ≤ r)) := by
  unfold nextB nextE
  by_cases h1 : n < 0 ∨ 7 ≤ n
  · left; simp [h1]
  · by_cases h2 : r < 0 ∨ 2147483647 ≤ r
    · right; left; simp [h1, h2]
    · right; right; simp [h1, h2]
theorem nextB_lt {r m n : Int} (h : nextE r n = 0) : LtB (r, m) (nextB r n) := by
  unfold nextB LtB
  rw [if_pos h]
  left
  simp
  omega
def bltE (x : Int × Int) (e : Int) : Value := .tuple #[blt x, .int .i64 e]
set_option maxRecDepth 100000 in
theorem nextBal (w : World) (r m n : Int) : Calls Try.prog 9 #[blt (r, m), .int .i64 n] w fun e w' => e = .returned (bltE (nextB r n) (nextE r n)) ∧ Below w.heap.size w w' := by
  have HB : Hid (∀ u v : Value, Below w.heap.size w ((w.alloc (.cells #[.int .i64 r, .int .i64 m] 23)).alloc (.cells #[u, v] 23))) := fun u v => ((Below.refl _ _).alloc (Nat.le_refl _) _).alloc (by simp) _
  unfold bltE
  rcases nextE_or r n with ⟨h1, h2, h⟩ | ⟨h1, h2, hn, h⟩ | ⟨h1, h2, hn, h⟩
  · rw [h1, h2]
    clear h1 h2
    by_cases h0 : n < 0
    · clear h
      go_enter Try.func9, Try.ntmps9
      go_wp2
      (try simp only [Exit.inBlock, Exit.then])
      refine bodyPost_ret (v := .tuple #[blt (0, 0), .int .i64 1]) ?_ rfl ⟨rfl, HB.out _ _⟩
      rw [results_cell_tmp rfl]
      go_simp
    · have h6 : 6 < n := by omega
      have h7 : 7 ≤ n := by omega
      clear h
      go_enter Try.func9, Try.ntmps9
      go_wp2
      (try simp only [Exit.inBlock, Exit.then])
      refine bodyPost_ret (v := .tuple #[blt (0, 0), .int .i64 1]) ?_ rfl ⟨rfl, HB.out _ _⟩
      rw [results_cell_tmp rfl]
      go_simp
  · rw [h1, h2]
    clear h1 h2
    have h0 : ¬ n < 0 := by omega
    have h6 : ¬ 6 < n := by omega
    have h7 : ¬ 7 ≤ n := by omega
    clear hn
    by_cases hr : r < 0
    · clear h
      go_enter Try.func9, Try.ntmps9
      go_wp2
      (try simp only [Exit.inBlock, Exit.then])
      refine bodyPost_ret (v := .tuple #[blt (0, 0), .int .i64 2]) ?_ rfl ⟨rfl, HB.out _ _⟩
      rw [results_cell_tmp rfl]
      go_simp
    · have hr2 : 2147483647 ≤ r := by omega
      clear h
      go_enter Try.func9, Try.ntmps9
      go_wp2
      (try simp only [Exit.inBlock, Exit.then])
      refine bodyPost_ret (v := .tuple #[blt (0, 0), .int .i64 2]) ?_ rfl ⟨rfl, HB.out _ _⟩
      rw [results_cell_tmp rfl]
      go_simp
  · rw [h1, h2]
    clear h1 h2
    have h0 : ¬ n < 0 := by omega
    have h6 : ¬ 6 < n := by omega
    have h7 : ¬ 7 ≤ n := by omega
    have hr : ¬ r < 0 := by omega
    have hr2 : ¬ 2147483647 ≤ r := by omega
    have hw : wrap64 (r + 1) = r + 1 := wrapS (by omega) (by omega)
    clear hn h
    · skip
      go_enter Try.func9, Try.ntmps9
      go_wp2
      (try simp only [Exit.inBlock, Exit.then])
      refine bodyPost_ret (v := .tuple #[blt (r + 1, n), .int .i64 0]) ?_ rfl ⟨rfl, HB.out _ _⟩
      rw [results_cell_tmp rfl]
      go_simp
set_option maxRecDepth 100000 in
theorem rnextBal (w : World) (r m n : Int) : Calls Try.prog 10 #[blt (r, m), .int .i64 n] w fun e w' => e = .returned (bltE (nextB r n) (nextE r n)) ∧ Below w.heap.size w w' := by
  have HB : Hid (∀ u v : Value, Below w.heap.size w ((w.alloc (.cells #[.int .i64 r, .int .i64 m] 23)).alloc (.cells #[u, v] 23))) := fun u v => ((Below.refl _ _).alloc (Nat.le_refl _) _).alloc (by simp) _
  unfold bltE
  rcases nextE_or r n with ⟨h1, h2, h⟩ | ⟨h1, h2, hn, h⟩ | ⟨h1, h2, hn, h⟩
  · rw [h1, h2]
    clear h1 h2
    by_cases h0 : n < 0
    · clear h
      go_enter Try.func10, Try.ntmps10
      go_wp2
      (try simp only [Exit.inBlock, Exit.then])
      refine bodyPost_ret (v := .tuple #[blt (0, 0), .int .i64 1]) ?_ rfl ⟨rfl, HB.out _ _⟩
      rw [results_cell_tmp rfl]
      go_simp
    · have h6 : 6 < n := by omega
      have h7 : 7 ≤ n := by omega
      clear h
      go_enter Try.func10, Try.ntmps10
      go_wp2
      (try simp only [Exit.inBlock, Exit.then])
      refine bodyPost_ret (v := .tuple #[blt (0, 0), .int .i64 1]) ?_ rfl ⟨rfl, HB.out _ _⟩
      rw [results_cell_tmp rfl]
      go_simp
  · rw [h1, h2]
    clear h1 h2
    have h0 : ¬ n < 0 := by omega
    have h6 : ¬ 6 < n := by omega
    have h7 : ¬ 7 ≤ n := by omega
    clear hn
    by_cases hr : r < 0
    · clear h
      go_enter Try.func10, Try.ntmps10
      go_wp2
      (try simp only [Exit.inBlock, Exit.then])
      refine bodyPost_ret (v := .tuple #[blt (0, 0), .int .i64 2]) ?_ rfl ⟨rfl, HB.out _ _⟩
      rw [results_cell_tmp rfl]
      go_simp
    · have hr2 : 2147483647 ≤ r := by omega
      clear h
      go_enter Try.func10, Try.ntmps10
      go_wp2
      (try simp only [Exit.inBlock, Exit.then])
      refine bodyPost_ret (v := .tuple #[blt (0, 0), .int .i64 2]) ?_ rfl ⟨rfl, HB.out _ _⟩
      rw [results_cell_tmp rfl]
      go_simp
  · rw [h1, h2]
    clear h1 h2
    have h0 : ¬ n < 0 := by omega
    have h6 : ¬ 6 < n := by omega
    have h7 : ¬ 7 ≤ n := by omega
    have hr : ¬ r < 0 := by omega
    have hr2 : ¬ 2147483647 ≤ r := by omega
    have hw : wrap64 (r + 1) = r + 1 := wrapS (by omega) (by omega)
    clear hn h
    · skip
      go_enter Try.func10, Try.ntmps10
      go_wp2
      (try simp only [Exit.inBlock, Exit.then])
      refine bodyPost_ret (v := .tuple #[blt (r + 1, n), .int .i64 0]) ?_ rfl ⟨rfl, HB.out _ _⟩
      rw [results_cell_tmp rfl]
      go_simp
end Go.Proofs.Ytdceenejijigdaa
