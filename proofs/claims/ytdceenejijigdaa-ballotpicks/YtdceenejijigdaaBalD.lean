/-
  Package ballot: Count, Enough, All, Fork, NewVotes.
-/
import Derived.Test.YtdceenejijigdaaBalC
namespace Go.Proofs.Ytdceenejijigdaa
open Go.RowKit Go.Maps

/-- How many of the first k voted. -/
def cntF (f : Nat → Bool) : Nat → Nat
  | 0 => 0
  | k + 1 => cntF f k + (if f k then 1 else 0)
theorem cntF_le (f : Nat → Bool) : ∀ k, cntF f k ≤ k
  | 0 => Nat.le_refl _
  | k + 1 => by
    have := cntF_le f k
    unfold cntF
    split <;> omega
theorem idxB0 (W : World) (v0 v1 v2 v3 v4 v5 v6 : Value) : (Instr.index 62 (.agg #[v0, v1, v2, v3, v4, v5, v6]) (.int .i64 0)).run Try.prog W = .ok v0 W := by kernel_rfl
theorem idxB1 (W : World) (v0 v1 v2 v3 v4 v5 v6 : Value) : (Instr.index 62 (.agg #[v0, v1, v2, v3, v4, v5, v6]) (.int .i64 1)).run Try.prog W = .ok v1 W := by kernel_rfl
theorem idxB2 (W : World) (v0 v1 v2 v3 v4 v5 v6 : Value) : (Instr.index 62 (.agg #[v0, v1, v2, v3, v4, v5, v6]) (.int .i64 2)).run Try.prog W = .ok v2 W := by kernel_rfl
theorem idxB3 (W : World) (v0 v1 v2 v3 v4 v5 v6 : Value) : (Instr.index 62 (.agg #[v0, v1, v2, v3, v4, v5, v6]) (.int .i64 3)).run Try.prog W = .ok v3 W := by kernel_rfl
theorem idxB4 (W : World) (v0 v1 v2 v3 v4 v5 v6 : Value) : (Instr.index 62 (.agg #[v0, v1, v2, v3, v4, v5, v6]) (.int .i64 4)).run Try.prog W = .ok v4 W := by kernel_rfl
theorem idxB5 (W : World) (v0 v1 v2 v3 v4 v5 v6 : Value) : (Instr.index 62 (.agg #[v0, v1, v2, v3, v4, v5, v6]) (.int .i64 5)).run Try.prog W = .ok v5 W := by kernel_rfl
theorem idxB6 (W : World) (v0 v1 v2 v3 v4 v5 v6 : Value) : (Instr.index 62 (.agg #[v0, v1, v2, v3, v4, v5, v6]) (.int .i64 6)).run Try.prog W = .ok v6 W := by kernel_rfl
theorem idxB (W : World) {k : Nat} (hk : k < 7) (f : Nat → Bool) : (Instr.index 62 (.agg #[.bool (f 0), .bool (f 1), .bool (f 2), .bool (f 3), .bool (f 4), .bool (f 5), .bool (f 6)]) (.int .i64 (k : Int))).run Try.prog W = .ok (.bool (f k)) W := by
  match k, hk with
  | 0, _ => exact idxB0 W _ _ _ _ _ _ _
  | 1, _ => exact idxB1 W _ _ _ _ _ _ _
  | 2, _ => exact idxB2 W _ _ _ _ _ _ _
  | 3, _ => exact idxB3 W _ _ _ _ _ _ _
  | 4, _ => exact idxB4 W _ _ _ _ _ _ _
  | 5, _ => exact idxB5 W _ _ _ _ _ _ _
  | 6, _ => exact idxB6 W _ _ _ _ _ _ _
theorem countV_nil (w : World) : Calls Try.prog 24 #[.pointer none] w fun e w' => e = .returned (.int .i64 0) ∧ w' = w := by
  go_enter Try.func24, Try.ntmps24
  go_wp2_with fail
  refine (closedV_nil _).mono ?_
  rintro e w' ⟨rfl, rfl⟩
  go_wp2
  go_ret
  exact ⟨rfl, rfl⟩
set_option maxRecDepth 100000 in
theorem countV {w : World} {p : Nat} {n : Int} {f : Nat → Bool} (h : VotesAt w p n f) : Calls Try.prog 24 #[.pointer (some ⟨p, 0, none⟩)] w fun e w' => e = .returned (.int .i64 (cntF f 7 : Nat)) ∧ w' = w := by
  have HC := hid (closedV_no h)
  have c1 := h.blk.cell (i := 1) rfl
  have c2 := h.blk.cell (i := 2) rfl
  have c3 := h.blk.cell (i := 3) rfl
  have c4 := h.blk.cell (i := 4) rfl
  have c5 := h.blk.cell (i := 5) rfl
  have c6 := h.blk.cell (i := 6) rfl
  have c7 := h.blk.cell (i := 7) rfl
  clear h
  go_enter Try.func24, Try.ntmps24
  go_wp2_with fail
  refine HC.out.mono ?_
  rintro e w' ⟨rfl, rfl⟩
  go_wp2
  clear c1 c2 c3 c4 c5 c6 c7
  go_loop [3, 5, 12] (fun m _ i => ∃ k : Nat, k ≤ 7 ∧ i = .int .i64 k ∧ m = .int .i64 (cntF f k : Nat)) (fun _ _ i => 7 - (intOf i).toNat)
  case atStart => exact ⟨0, by omega, rfl, rfl⟩
  case round =>
    obtain ⟨k, hk, rfl, rfl⟩ := hrel
    by_cases hlt : k < 7
    · have hlt' : (k : Int) < 7 := by omega
      have hix := fun W => idxB W hlt f
      have HL := hid (cntF_le f k)
      have HS : Hid (cntF f (k + 1) = cntF f k + (if f k then 1 else 0)) := rfl
      obtain ⟨m, hm⟩ : ∃ m, m = cntF f k := ⟨_, rfl⟩
      rw [← hm] at HL HS ⊢
      clear hm
      cases hfk : f k with
      | true =>
        rw [hfk] at HS
        simp only [hfk] at hix
        have HM : Hid (m ≤ 7) := (by have := HL.out; omega : m ≤ 7)
        have hw : wrap64 ((m : Int) + 1) = (m : Int) + 1 := by have := HM.out; exact wrapS (by omega) (by omega)
        clear hfk
        go_wp2
        go_round
        case rel => exact ⟨k + 1, by omega, by go_num, by rw [HS.out]; simp; exact hw⟩
        case measure => simp [intOf]; omega
      | false =>
        rw [hfk] at HS
        simp only [hfk] at hix
        clear hfk
        go_wp2
        go_round
        case rel => exact ⟨k + 1, by omega, by go_num, by rw [HS.out]; simp⟩
        case measure => simp [intOf]; omega
    · have hlt' : ¬ (k : Int) < 7 := by omega
      obtain rfl : k = 7 := by omega
      go_wp2
      go_ret
      exact ⟨rfl, rfl⟩
theorem enoughV_nil (w : World) : Calls Try.prog 25 #[.pointer none] w fun e w' => e = .returned (.bool false) ∧ ∃ q, w' = w.drewN q := by
  have HC := hid (fun W => closedV_nil W)
  go_enter Try.func25, Try.ntmps25
  go_wp2
  go_quiet (first | (go_at_call 35; refine Calls.quiet_of_same (HC.out _)))
  go_wp2
  go_ret
  exact ⟨rfl, _, rfl⟩
set_option maxRecDepth 100000 in
theorem enoughV {w : World} {p : Nat} {n : Int} {f : Nat → Bool} (h : VotesAt w p n f) : Calls Try.prog 25 #[.pointer (some ⟨p, 0, none⟩)] w fun e w' => e = .returned (.bool (decide (quorum n ≤ (cntF f 7 : Nat)))) ∧ ∃ q, w' = w.drewN q := by
  have HC := hid (fun q => closedV_no (h.dn q))
  have HN := hid (fun q => countV (h.dn q))
  have HQ := hid (fun W => quorumB W n)
  have c0 := h.blk.cell (i := 0) rfl
  clear h
  generalize ((cntF f 7 : Nat) : Int) = m at *
  generalize quorum n = qn at *
  go_enter Try.func25, Try.ntmps25
  go_wp2
  go_quiet (first
    | (go_at_call 35; refine Calls.quiet_of_same (HC.out _))
    | (go_at_call 24; refine Calls.quiet_of_same (HN.out _))
    | (go_at_call 14; refine Calls.quiet_of_same (HQ.out _)))
  go_wp2
  go_ret
  exact ⟨rfl, _, rfl⟩
theorem newVotes_bad (w : World) (n : Int) (hn : ¬ (1 ≤ n ∧ n ≤ 7)) : Calls Try.prog 21 #[.int .i64 n] w fun e w' => e = .returned (.tuple #[.pointer none, .int .i64 1]) ∧ w' = w := by
  have HM := hid (mayCountB w n)
  rw [decide_eq_false hn] at HM
  clear hn
  go_enter Try.func21, Try.ntmps21
  go_wp2_with fail
  refine HM.out.mono ?_
  rintro e w' ⟨rfl, rfl⟩
  go_wp2
  go_ret2
  exact ⟨rfl, rfl⟩
theorem newVotes {w : World} {n : Int} (hn : 1 ≤ n ∧ n ≤ 7) : Calls Try.prog 21 #[.int .i64 n] w fun e w' => e = .returned (.tuple #[.pointer (some ⟨w.heap.size, 0, none⟩), .int .i64 0]) ∧ VotesAt w' w.heap.size n (fun _ => false) ∧ Below w.heap.size w w' := by
  have HM := hid (mayCountB w n)
  rw [decide_eq_true hn] at HM
  have HV : Hid (VotesAt (w.alloc (.cells #[.int .i64 n, .bool false, .bool false, .bool false, .bool false, .bool false, .bool false, .bool false] 64)) w.heap.size n (fun _ => false)) := ⟨Blk.new w _ _, hn.1, hn.2, fun _ _ => rfl⟩
  have HB : Hid (Below w.heap.size w (w.alloc (.cells #[.int .i64 n, .bool false, .bool false, .bool false, .bool false, .bool false, .bool false, .bool false] 64))) := (Below.refl _ _).alloc (Nat.le_refl _) _
  clear hn
  go_enter Try.func21, Try.ntmps21
  go_wp2_with fail
  refine HM.out.mono ?_
  rintro e w' ⟨rfl, rfl⟩
  go_wp2
  go_ret2
  exact ⟨rfl, HV.out, HB.out⟩
theorem forkV_nil (w : World) : Calls Try.prog 22 #[.pointer none] w fun e w' => e = .returned (.pointer none) ∧ w' = w := by
  go_enter Try.func22, Try.ntmps22
  go_wp2_with fail
  refine (closedV_nil _).mono ?_
  rintro e w' ⟨rfl, rfl⟩
  go_wp2
  go_ret
  exact ⟨rfl, rfl⟩
theorem forkV {w : World} {p : Nat} {n : Int} {f : Nat → Bool} (h : VotesAt w p n f) : Calls Try.prog 22 #[.pointer (some ⟨p, 0, none⟩)] w fun e w' => e = .returned (.pointer (some ⟨w.heap.size, 0, none⟩)) ∧ VotesAt w' w.heap.size n f ∧ Below w.heap.size w w' := by
  have HC := hid (closedV_no h)
  have HV : Hid (VotesAt (w.alloc (.cells (voteCells n f).toArray 64)) w.heap.size n f) := ⟨Blk.new w _ _, h.lo, h.hi, h.out⟩
  have HB : Hid (Below w.heap.size w (w.alloc (.cells (voteCells n f).toArray 64))) := (Below.refl _ _).alloc (Nat.le_refl _) _
  have c0 := h.blk.cell (i := 0) rfl
  have c1 := h.blk.cell (i := 1) rfl
  have c2 := h.blk.cell (i := 2) rfl
  have c3 := h.blk.cell (i := 3) rfl
  have c4 := h.blk.cell (i := 4) rfl
  have c5 := h.blk.cell (i := 5) rfl
  have c6 := h.blk.cell (i := 6) rfl
  have c7 := h.blk.cell (i := 7) rfl
  clear h
  go_enter Try.func22, Try.ntmps22
  go_wp2_with fail
  refine HC.out.mono ?_
  rintro e w' ⟨rfl, rfl⟩
  go_wp2
  go_ret
  exact ⟨rfl, HV.out, HB.out⟩
/-- Which of the first k voted. -/
def allTo (f : Nat → Bool) : Nat → List Int
  | 0 => []
  | k + 1 => allTo f k ++ (if f k then [(k : Int)] else [])
theorem allTo_len (f : Nat → Bool) : ∀ k, (allTo f k).length = cntF f k
  | 0 => rfl
  | k + 1 => by
    unfold allTo cntF
    rw [List.length_append, allTo_len f k]
    split <;> simp
theorem allV_nil (w : World) : Calls Try.prog 26 #[.pointer none] w fun e w' => e = .returned (.slice none 0 0) ∧ w' = w := by
  go_enter Try.func26, Try.ntmps26
  go_wp2_with fail
  refine (closedV_nil _).mono ?_
  rintro e w' ⟨rfl, rfl⟩
  go_wp2
  go_ret
  exact ⟨rfl, rfl⟩
def RowV (w : World) (v : Value) (l : List Int) (w' : World) : Prop := w'.ownsRow w.heap.size 3 1 v l.length (ints l) ∧ Below w.heap.size w w'
set_option maxRecDepth 100000 in
theorem allV {w : World} {p : Nat} {N : Nat} {f : Nat → Bool} (h : VotesAt w p (N : Int) f) : Calls Try.prog 26 #[.pointer (some ⟨p, 0, none⟩)] w fun e w' => ∃ v, e = .returned v ∧ RowV w v (allTo f N) w' := by
  have HC := hid (closedV_no h)
  have H := hid h
  have hN : N ≤ 7 := by have := h.hi; omega
  have c0 := h.blk.cell (i := 0) rfl
  clear h
  go_enter Try.func26, Try.ntmps26
  go_wp2_with fail
  refine HC.out.mono ?_
  rintro e w' ⟨rfl, rfl⟩
  go_wp2
  clear c0
  go_loopw [3, 4, 11] (fun m _ i wr => ∃ k : Nat, k ≤ N ∧ i = .int .i64 k ∧ Hid (RowV w' m (allTo f k) wr)) (fun _ _ i _ => N - (intOf i).toNat)
  case atStart => exact ⟨0, by omega, rfl, ownI_nil _ _, Below.refl _ _⟩
  case round =>
    obtain ⟨k, hk, rfl, HR⟩ := hrel
    by_cases hlt : k < N
    · have hlt' : (k : Int) < (N : Int) := by omega
      have h7 : k < 7 := by omega
      have h7' : (k : Int) < 7 := by omega
      have hc := voteCell (H.out.below HR.out.2) h7
      have HS : Hid (allTo f (k + 1) = allTo f k ++ (if f k then [(k : Int)] else [])) := rfl
      cases hfk : f k with
      | true =>
        rw [hfk] at HS hc
        rw [if_pos rfl] at HS
        clear hfk
        have HL : Hid ((allTo f k).length < 17592186044416) := by
          show _ < _
          rw [allTo_len]
          have := cntF_le f k
          omega
        go_wp2_with (at_builtin; refine wpList_append_one _ _ (k : Int) rfl rfl _ _ rfl w'.heap.size _ (allTo f k) rfl rfl HR.out.1 HR.out.2.size HL.out ?_; intro v' w5 hown hb5; have HO5 := hid hown; have HB5 := hid (HR.out.2.trans hb5); clear hown hb5)
        go_wp2
        go_roundw
        case rel => exact ⟨k + 1, by omega, by go_num, by show RowV _ _ _ _; rw [HS.out]; exact ⟨HO5.out, HB5.out⟩⟩
        case measure => simp [intOf]; omega
      | false =>
        rw [hfk] at HS hc
        rw [if_neg (by simp), List.append_nil] at HS
        clear hfk
        go_wp2
        go_roundw
        case rel => exact ⟨k + 1, by omega, by go_num, by show RowV _ _ _ _; rw [HS.out]; exact HR.out⟩
        case measure => simp [intOf]; omega
    · have hlt' : ¬ (k : Int) < (N : Int) := by omega
      obtain rfl : k = N := by omega
      go_wp2
      go_ret
      exact ⟨_, rfl, HR.out⟩
end Go.Proofs.Ytdceenejijigdaa
