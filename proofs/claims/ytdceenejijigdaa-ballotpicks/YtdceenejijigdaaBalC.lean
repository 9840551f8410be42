/-
  Package ballot: votes in memory ('VotesAt'): NewVotes, Add, Has, Count, Enough, All, Fork.
-/
import Derived.Test.YtdceenejijigdaaBalN
namespace Go.Proofs.Ytdceenejijigdaa
open Go.RowKit Go.Maps

abbrev voteCells (n : Int) (f : Nat → Bool) : List Value := [.int .i64 n, .bool (f 0), .bool (f 1), .bool (f 2), .bool (f 3), .bool (f 4), .bool (f 5), .bool (f 6)]
/-- Votes in memory: n nodes, of which those voted that f says. -/
structure VotesAt (w : World) (p : Nat) (n : Int) (f : Nat → Bool) : Prop where
  blk : Blk w p 64 (voteCells n f)
  lo : 1 ≤ n
  hi : n ≤ 7
  out : ∀ k : Nat, n ≤ (k : Int) → f k = false
def addV (f : Nat → Bool) (k : Nat) : Nat → Bool := fun i => if i = k then true else f i
def hasV (n : Int) (f : Nat → Bool) (x : Int) : Bool := decide (0 ≤ x ∧ x < n) && f x.toNat
theorem VotesAt.turned {F : Nat → Prop} {w w' : World} {p : Nat} {n : Int} {f : Nat → Bool} (h : VotesAt w p n f) (ht : Turns F w w') (hF : ¬ F p) : VotesAt w' p n f := ⟨ht.blk h.blk hF, h.lo, h.hi, h.out⟩
theorem VotesAt.below {w w' : World} {p : Nat} {n : Int} {f : Nat → Bool} (h : VotesAt w p n f) (hb : Below w.heap.size w w') : VotesAt w' p n f := h.turned (F := fun _ => False) (Turns.of_below hb (Nat.le_refl _)) (fun h => h)
theorem VotesAt.dn {w : World} {p : Nat} {n : Int} {f : Nat → Bool} (h : VotesAt w p n f) (q : Nat) : VotesAt (w.drewN q) p n f := h.below (below_dn (Below.refl _ _) q)

theorem closedV_nil (w : World) : Calls Try.prog 35 #[.pointer none] w fun e w' => e = .returned (.bool true) ∧ w' = w := by
  go_enter Try.func35, Try.ntmps35
  go_wp2
  go_ret
  exact ⟨rfl, rfl⟩
theorem closedV_no {w : World} {p : Nat} {n : Int} {f : Nat → Bool} (h : VotesAt w p n f) : Calls Try.prog 35 #[.pointer (some ⟨p, 0, none⟩)] w fun e w' => e = .returned (.bool false) ∧ w' = w := by
  have c0 := h.blk.cell (i := 0) rfl
  have hn : (n == 0) = false := by have := h.lo; simp; omega
  clear h
  go_enter Try.func35, Try.ntmps35
  go_wp2
  go_ret
  exact ⟨rfl, rfl⟩
theorem hasNodeV_nil (w : World) (x : Int) : Calls Try.prog 36 #[.pointer none, .int .i64 x] w fun e w' => e = .returned (.bool false) ∧ w' = w := by
  go_enter Try.func36, Try.ntmps36
  go_wp2_with fail
  refine (closedV_nil _).mono ?_
  rintro e w' ⟨rfl, rfl⟩
  go_wp2
  go_ret
  exact ⟨rfl, rfl⟩
theorem hasNodeV {w : World} {p : Nat} {n : Int} {f : Nat → Bool} (h : VotesAt w p n f) (x : Int) : Calls Try.prog 36 #[.pointer (some ⟨p, 0, none⟩), .int .i64 x] w fun e w' => e = .returned (.bool (decide (0 ≤ x ∧ x < n))) ∧ w' = w := by
  have c0 := h.blk.cell (i := 0) rfl
  have HC := hid (closedV_no h)
  clear h
  by_cases h0 : 0 ≤ x
  · by_cases h1 : x < n
    · rw [decide_eq_true ⟨h0, h1⟩]
      go_enter Try.func36, Try.ntmps36
      go_wp2_with fail
      refine HC.out.mono ?_
      rintro e w' ⟨rfl, rfl⟩
      go_wp2
      go_ret
      exact ⟨rfl, rfl⟩
    · rw [decide_eq_false (by omega)]
      go_enter Try.func36, Try.ntmps36
      go_wp2_with fail
      refine HC.out.mono ?_
      rintro e w' ⟨rfl, rfl⟩
      go_wp2
      go_ret
      exact ⟨ret_bool (by simp [h1]), rfl⟩
  · rw [decide_eq_false (by omega)]
    go_enter Try.func36, Try.ntmps36
    go_wp2_with fail
    refine HC.out.mono ?_
    rintro e w' ⟨rfl, rfl⟩
    go_wp2
    go_ret
    exact ⟨rfl, rfl⟩
theorem voteCell {w : World} {p : Nat} {n : Int} {f : Nat → Bool} (h : VotesAt w p n f) {k : Nat} (hk : k < 7) : w.cell? ⟨p, 1 + k, none⟩ = some (.bool (f k)) := by
  refine h.blk.cell ?_
  match k, hk with
  | 0, _ | 1, _ | 2, _ | 3, _ | 4, _ | 5, _ | 6, _ => rfl
theorem hasVotes_nil (w : World) (x : Int) : Calls Try.prog 27 #[.pointer none, .int .i64 x] w fun e w' => e = .returned (.bool false) ∧ w' = w := by
  go_enter Try.func27, Try.ntmps27
  go_wp2_with fail
  refine (hasNodeV_nil _ _).mono ?_
  rintro e w' ⟨rfl, rfl⟩
  go_wp2
  go_ret
  exact ⟨rfl, rfl⟩
theorem hasVotes {w : World} {p : Nat} {n : Int} {f : Nat → Bool} (h : VotesAt w p n f) (x : Int) : Calls Try.prog 27 #[.pointer (some ⟨p, 0, none⟩), .int .i64 x] w fun e w' => e = .returned (.bool (hasV n f x)) ∧ w' = w := by
  have HC := hid (hasNodeV h x)
  by_cases hx : 0 ≤ x ∧ x < n
  · obtain ⟨k, rfl⟩ := Int.eq_ofNat_of_zero_le hx.1
    have hk : k < 7 := by have := h.hi; omega
    have hk' : (k : Int) < 7 := by omega
    have c := voteCell h hk
    have HE : Hid (hasV n f (k : Int) = f k) := by show _ = _; unfold hasV; rw [decide_eq_true hx]; simp
    rw [HE.out]
    rw [decide_eq_true hx] at HC
    clear h hx
    obtain ⟨b, hb⟩ : ∃ b, b = f k := ⟨_, rfl⟩
    rw [← hb] at c HE ⊢
    clear hb
    go_enter Try.func27, Try.ntmps27
    go_wp2_with fail
    refine HC.out.mono ?_
    rintro e w' ⟨rfl, rfl⟩
    go_wp2
    go_ret
    exact ⟨rfl, rfl⟩
  · have HE : Hid (hasV n f x = false) := by show _ = _; unfold hasV; rw [decide_eq_false hx]; rfl
    rw [HE.out]
    rw [decide_eq_false hx] at HC
    clear h hx
    go_enter Try.func27, Try.ntmps27
    go_wp2_with fail
    refine HC.out.mono ?_
    rintro e w' ⟨rfl, rfl⟩
    go_wp2
    go_ret
    exact ⟨rfl, rfl⟩
theorem addVotes_nil (w : World) (x : Int) : Calls Try.prog 23 #[.pointer none, .int .i64 x] w fun e w' => e = .returned (.bool false) ∧ w' = w := by
  go_enter Try.func23, Try.ntmps23
  go_wp2_with fail
  refine (hasNodeV_nil _ _).mono ?_
  rintro e w' ⟨rfl, rfl⟩
  go_wp2
  go_ret
  exact ⟨rfl, rfl⟩
theorem addVotes_out {w : World} {p : Nat} {n : Int} {f : Nat → Bool} (h : VotesAt w p n f) (x : Int) (hx : ¬ (0 ≤ x ∧ x < n)) : Calls Try.prog 23 #[.pointer (some ⟨p, 0, none⟩), .int .i64 x] w fun e w' => e = .returned (.bool false) ∧ w' = w := by
  have HC := hid (hasNodeV h x)
  rw [decide_eq_false hx] at HC
  clear h hx
  go_enter Try.func23, Try.ntmps23
  go_wp2_with fail
  refine HC.out.mono ?_
  rintro e w' ⟨rfl, rfl⟩
  go_wp2
  go_ret
  exact ⟨rfl, rfl⟩

set_option maxRecDepth 100000 in
theorem addVotes0 {w : World} {p : Nat} {n : Int} {f : Nat → Bool} (h : VotesAt w p n f) (hx : (0 : Int) < n) : Calls Try.prog 23 #[.pointer (some ⟨p, 0, none⟩), .int .i64 0] w fun e w' => e = .returned (.bool (!f 0)) ∧ Blk w' p 64 [.int .i64 n, .bool true, .bool (f 1), .bool (f 2), .bool (f 3), .bool (f 4), .bool (f 5), .bool (f 6)] ∧ Turns (fun i => i = p) w w' := by
  have HC := hid (hasNodeV h 0)
  rw [decide_eq_true ⟨by omega, hx⟩] at HC
  have hb := h.blk
  clear h hx
  have hlt := hb.lt
  obtain ⟨b0, hb0⟩ : ∃ b, b = f 0 := ⟨_, rfl⟩
  obtain ⟨b1, hb1⟩ : ∃ b, b = f 1 := ⟨_, rfl⟩
  obtain ⟨b2, hb2⟩ : ∃ b, b = f 2 := ⟨_, rfl⟩
  obtain ⟨b3, hb3⟩ : ∃ b, b = f 3 := ⟨_, rfl⟩
  obtain ⟨b4, hb4⟩ : ∃ b, b = f 4 := ⟨_, rfl⟩
  obtain ⟨b5, hb5⟩ : ∃ b, b = f 5 := ⟨_, rfl⟩
  obtain ⟨b6, hb6⟩ : ∃ b, b = f 6 := ⟨_, rfl⟩
  unfold voteCells at hb
  rw [← hb0, ← hb1, ← hb2, ← hb3, ← hb4, ← hb5, ← hb6] at hb
  rw [← hb0, ← hb1, ← hb2, ← hb3, ← hb4, ← hb5, ← hb6]
  clear hb0 hb1 hb2 hb3 hb4 hb5 hb6
  have c1 := hb.cell (i := 1) rfl
  have c2 := hb.cell (i := 2) rfl
  have c3 := hb.cell (i := 3) rfl
  have c4 := hb.cell (i := 4) rfl
  have c5 := hb.cell (i := 5) rfl
  have c6 := hb.cell (i := 6) rfl
  have c7 := hb.cell (i := 7) rfl
  have fz := hb.frozen
  have hne := fun W => neqA0 W b0 b1 b2 b3 b4 b5 b6
  have HT : Hid (Turns (fun i => i = p) w ((w.setCell ⟨p, 1, none⟩ (.bool true)).alloc (.cells #[.bool b0, .bool b1, .bool b2, .bool b3, .bool b4, .bool b5, .bool b6] 62))) := (Turns.setCell (F := fun i => i = p) (a := w) (Turns.refl _ _) (.inl rfl) _).alloc _
  have HS := hid ((hb.set 1 (.bool true)).alloc (.cells #[.bool b0, .bool b1, .bool b2, .bool b3, .bool b4, .bool b5, .bool b6] 62))
  clear hb
  go_enter Try.func23, Try.ntmps23
  go_wp2_with fail
  refine HC.out.mono ?_
  rintro e w' ⟨rfl, rfl⟩
  go_wp2
  go_quiet (fail)
  go_wp2
  go_ret
  exact ⟨rfl, HS.out, HT.out.drewN _⟩
set_option maxRecDepth 100000 in
theorem addVotes1 {w : World} {p : Nat} {n : Int} {f : Nat → Bool} (h : VotesAt w p n f) (hx : (1 : Int) < n) : Calls Try.prog 23 #[.pointer (some ⟨p, 0, none⟩), .int .i64 1] w fun e w' => e = .returned (.bool (!f 1)) ∧ Blk w' p 64 [.int .i64 n, .bool (f 0), .bool true, .bool (f 2), .bool (f 3), .bool (f 4), .bool (f 5), .bool (f 6)] ∧ Turns (fun i => i = p) w w' := by
  have HC := hid (hasNodeV h 1)
  rw [decide_eq_true ⟨by omega, hx⟩] at HC
  have hb := h.blk
  clear h hx
  have hlt := hb.lt
  obtain ⟨b0, hb0⟩ : ∃ b, b = f 0 := ⟨_, rfl⟩
  obtain ⟨b1, hb1⟩ : ∃ b, b = f 1 := ⟨_, rfl⟩
  obtain ⟨b2, hb2⟩ : ∃ b, b = f 2 := ⟨_, rfl⟩
  obtain ⟨b3, hb3⟩ : ∃ b, b = f 3 := ⟨_, rfl⟩
  obtain ⟨b4, hb4⟩ : ∃ b, b = f 4 := ⟨_, rfl⟩
  obtain ⟨b5, hb5⟩ : ∃ b, b = f 5 := ⟨_, rfl⟩
  obtain ⟨b6, hb6⟩ : ∃ b, b = f 6 := ⟨_, rfl⟩
  unfold voteCells at hb
  rw [← hb0, ← hb1, ← hb2, ← hb3, ← hb4, ← hb5, ← hb6] at hb
  rw [← hb0, ← hb1, ← hb2, ← hb3, ← hb4, ← hb5, ← hb6]
  clear hb0 hb1 hb2 hb3 hb4 hb5 hb6
  have c1 := hb.cell (i := 1) rfl
  have c2 := hb.cell (i := 2) rfl
  have c3 := hb.cell (i := 3) rfl
  have c4 := hb.cell (i := 4) rfl
  have c5 := hb.cell (i := 5) rfl
  have c6 := hb.cell (i := 6) rfl
  have c7 := hb.cell (i := 7) rfl
  have fz := hb.frozen
  have hne := fun W => neqA1 W b0 b1 b2 b3 b4 b5 b6
  have HT : Hid (Turns (fun i => i = p) w ((w.setCell ⟨p, 2, none⟩ (.bool true)).alloc (.cells #[.bool b0, .bool b1, .bool b2, .bool b3, .bool b4, .bool b5, .bool b6] 62))) := (Turns.setCell (F := fun i => i = p) (a := w) (Turns.refl _ _) (.inl rfl) _).alloc _
  have HS := hid ((hb.set 2 (.bool true)).alloc (.cells #[.bool b0, .bool b1, .bool b2, .bool b3, .bool b4, .bool b5, .bool b6] 62))
  clear hb
  go_enter Try.func23, Try.ntmps23
  go_wp2_with fail
  refine HC.out.mono ?_
  rintro e w' ⟨rfl, rfl⟩
  go_wp2
  go_quiet (fail)
  go_wp2
  go_ret
  exact ⟨rfl, HS.out, HT.out.drewN _⟩
set_option maxRecDepth 100000 in
theorem addVotes2 {w : World} {p : Nat} {n : Int} {f : Nat → Bool} (h : VotesAt w p n f) (hx : (2 : Int) < n) : Calls Try.prog 23 #[.pointer (some ⟨p, 0, none⟩), .int .i64 2] w fun e w' => e = .returned (.bool (!f 2)) ∧ Blk w' p 64 [.int .i64 n, .bool (f 0), .bool (f 1), .bool true, .bool (f 3), .bool (f 4), .bool (f 5), .bool (f 6)] ∧ Turns (fun i => i = p) w w' := by
  have HC := hid (hasNodeV h 2)
  rw [decide_eq_true ⟨by omega, hx⟩] at HC
  have hb := h.blk
  clear h hx
  have hlt := hb.lt
  obtain ⟨b0, hb0⟩ : ∃ b, b = f 0 := ⟨_, rfl⟩
  obtain ⟨b1, hb1⟩ : ∃ b, b = f 1 := ⟨_, rfl⟩
  obtain ⟨b2, hb2⟩ : ∃ b, b = f 2 := ⟨_, rfl⟩
  obtain ⟨b3, hb3⟩ : ∃ b, b = f 3 := ⟨_, rfl⟩
  obtain ⟨b4, hb4⟩ : ∃ b, b = f 4 := ⟨_, rfl⟩
  obtain ⟨b5, hb5⟩ : ∃ b, b = f 5 := ⟨_, rfl⟩
  obtain ⟨b6, hb6⟩ : ∃ b, b = f 6 := ⟨_, rfl⟩
  unfold voteCells at hb
  rw [← hb0, ← hb1, ← hb2, ← hb3, ← hb4, ← hb5, ← hb6] at hb
  rw [← hb0, ← hb1, ← hb2, ← hb3, ← hb4, ← hb5, ← hb6]
  clear hb0 hb1 hb2 hb3 hb4 hb5 hb6
  have c1 := hb.cell (i := 1) rfl
  have c2 := hb.cell (i := 2) rfl
  have c3 := hb.cell (i := 3) rfl
  have c4 := hb.cell (i := 4) rfl
  have c5 := hb.cell (i := 5) rfl
  have c6 := hb.cell (i := 6) rfl
  have c7 := hb.cell (i := 7) rfl
  have fz := hb.frozen
  have hne := fun W => neqA2 W b0 b1 b2 b3 b4 b5 b6
  have HT : Hid (Turns (fun i => i = p) w ((w.setCell ⟨p, 3, none⟩ (.bool true)).alloc (.cells #[.bool b0, .bool b1, .bool b2, .bool b3, .bool b4, .bool b5, .bool b6] 62))) := (Turns.setCell (F := fun i => i = p) (a := w) (Turns.refl _ _) (.inl rfl) _).alloc _
  have HS := hid ((hb.set 3 (.bool true)).alloc (.cells #[.bool b0, .bool b1, .bool b2, .bool b3, .bool b4, .bool b5, .bool b6] 62))
  clear hb
  go_enter Try.func23, Try.ntmps23
  go_wp2_with fail
  refine HC.out.mono ?_
  rintro e w' ⟨rfl, rfl⟩
  go_wp2
  go_quiet (fail)
  go_wp2
  go_ret
  exact ⟨rfl, HS.out, HT.out.drewN _⟩
set_option maxRecDepth 100000 in
theorem addVotes3 {w : World} {p : Nat} {n : Int} {f : Nat → Bool} (h : VotesAt w p n f) (hx : (3 : Int) < n) : Calls Try.prog 23 #[.pointer (some ⟨p, 0, none⟩), .int .i64 3] w fun e w' => e = .returned (.bool (!f 3)) ∧ Blk w' p 64 [.int .i64 n, .bool (f 0), .bool (f 1), .bool (f 2), .bool true, .bool (f 4), .bool (f 5), .bool (f 6)] ∧ Turns (fun i => i = p) w w' := by
  have HC := hid (hasNodeV h 3)
  rw [decide_eq_true ⟨by omega, hx⟩] at HC
  have hb := h.blk
  clear h hx
  have hlt := hb.lt
  obtain ⟨b0, hb0⟩ : ∃ b, b = f 0 := ⟨_, rfl⟩
  obtain ⟨b1, hb1⟩ : ∃ b, b = f 1 := ⟨_, rfl⟩
  obtain ⟨b2, hb2⟩ : ∃ b, b = f 2 := ⟨_, rfl⟩
  obtain ⟨b3, hb3⟩ : ∃ b, b = f 3 := ⟨_, rfl⟩
  obtain ⟨b4, hb4⟩ : ∃ b, b = f 4 := ⟨_, rfl⟩
  obtain ⟨b5, hb5⟩ : ∃ b, b = f 5 := ⟨_, rfl⟩
  obtain ⟨b6, hb6⟩ : ∃ b, b = f 6 := ⟨_, rfl⟩
  unfold voteCells at hb
  rw [← hb0, ← hb1, ← hb2, ← hb3, ← hb4, ← hb5, ← hb6] at hb
  rw [← hb0, ← hb1, ← hb2, ← hb3, ← hb4, ← hb5, ← hb6]
  clear hb0 hb1 hb2 hb3 hb4 hb5 hb6
  have c1 := hb.cell (i := 1) rfl
  have c2 := hb.cell (i := 2) rfl
  have c3 := hb.cell (i := 3) rfl
  have c4 := hb.cell (i := 4) rfl
  have c5 := hb.cell (i := 5) rfl
  have c6 := hb.cell (i := 6) rfl
  have c7 := hb.cell (i := 7) rfl
  have fz := hb.frozen
  have hne := fun W => neqA3 W b0 b1 b2 b3 b4 b5 b6
  have HT : Hid (Turns (fun i => i = p) w ((w.setCell ⟨p, 4, none⟩ (.bool true)).alloc (.cells #[.bool b0, .bool b1, .bool b2, .bool b3, .bool b4, .bool b5, .bool b6] 62))) := (Turns.setCell (F := fun i => i = p) (a := w) (Turns.refl _ _) (.inl rfl) _).alloc _
  have HS := hid ((hb.set 4 (.bool true)).alloc (.cells #[.bool b0, .bool b1, .bool b2, .bool b3, .bool b4, .bool b5, .bool b6] 62))
  clear hb
  go_enter Try.func23, Try.ntmps23
  go_wp2_with fail
  refine HC.out.mono ?_
  rintro e w' ⟨rfl, rfl⟩
  go_wp2
  go_quiet (fail)
  go_wp2
  go_ret
  exact ⟨rfl, HS.out, HT.out.drewN _⟩
set_option maxRecDepth 100000 in
theorem addVotes4 {w : World} {p : Nat} {n : Int} {f : Nat → Bool} (h : VotesAt w p n f) (hx : (4 : Int) < n) : Calls Try.prog 23 #[.pointer (some ⟨p, 0, none⟩), .int .i64 4] w fun e w' => e = .returned (.bool (!f 4)) ∧ Blk w' p 64 [.int .i64 n, .bool (f 0), .bool (f 1), .bool (f 2), .bool (f 3), .bool true, .bool (f 5), .bool (f 6)] ∧ Turns (fun i => i = p) w w' := by
  have HC := hid (hasNodeV h 4)
  rw [decide_eq_true ⟨by omega, hx⟩] at HC
  have hb := h.blk
  clear h hx
  have hlt := hb.lt
  obtain ⟨b0, hb0⟩ : ∃ b, b = f 0 := ⟨_, rfl⟩
  obtain ⟨b1, hb1⟩ : ∃ b, b = f 1 := ⟨_, rfl⟩
  obtain ⟨b2, hb2⟩ : ∃ b, b = f 2 := ⟨_, rfl⟩
  obtain ⟨b3, hb3⟩ : ∃ b, b = f 3 := ⟨_, rfl⟩
  obtain ⟨b4, hb4⟩ : ∃ b, b = f 4 := ⟨_, rfl⟩
  obtain ⟨b5, hb5⟩ : ∃ b, b = f 5 := ⟨_, rfl⟩
  obtain ⟨b6, hb6⟩ : ∃ b, b = f 6 := ⟨_, rfl⟩
  unfold voteCells at hb
  rw [← hb0, ← hb1, ← hb2, ← hb3, ← hb4, ← hb5, ← hb6] at hb
  rw [← hb0, ← hb1, ← hb2, ← hb3, ← hb4, ← hb5, ← hb6]
  clear hb0 hb1 hb2 hb3 hb4 hb5 hb6
  have c1 := hb.cell (i := 1) rfl
  have c2 := hb.cell (i := 2) rfl
  have c3 := hb.cell (i := 3) rfl
  have c4 := hb.cell (i := 4) rfl
  have c5 := hb.cell (i := 5) rfl
  have c6 := hb.cell (i := 6) rfl
  have c7 := hb.cell (i := 7) rfl
  have fz := hb.frozen
  have hne := fun W => neqA4 W b0 b1 b2 b3 b4 b5 b6
  have HT : Hid (Turns (fun i => i = p) w ((w.setCell ⟨p, 5, none⟩ (.bool true)).alloc (.cells #[.bool b0, .bool b1, .bool b2, .bool b3, .bool b4, .bool b5, .bool b6] 62))) := (Turns.setCell (F := fun i => i = p) (a := w) (Turns.refl _ _) (.inl rfl) _).alloc _
  have HS := hid ((hb.set 5 (.bool true)).alloc (.cells #[.bool b0, .bool b1, .bool b2, .bool b3, .bool b4, .bool b5, .bool b6] 62))
  clear hb
  go_enter Try.func23, Try.ntmps23
  go_wp2_with fail
  refine HC.out.mono ?_
  rintro e w' ⟨rfl, rfl⟩
  go_wp2
  go_quiet (fail)
  go_wp2
  go_ret
  exact ⟨rfl, HS.out, HT.out.drewN _⟩
set_option maxRecDepth 100000 in
theorem addVotes5 {w : World} {p : Nat} {n : Int} {f : Nat → Bool} (h : VotesAt w p n f) (hx : (5 : Int) < n) : Calls Try.prog 23 #[.pointer (some ⟨p, 0, none⟩), .int .i64 5] w fun e w' => e = .returned (.bool (!f 5)) ∧ Blk w' p 64 [.int .i64 n, .bool (f 0), .bool (f 1), .bool (f 2), .bool (f 3), .bool (f 4), .bool true, .bool (f 6)] ∧ Turns (fun i => i = p) w w' := by
  have HC := hid (hasNodeV h 5)
  rw [decide_eq_true ⟨by omega, hx⟩] at HC
  have hb := h.blk
  clear h hx
  have hlt := hb.lt
  obtain ⟨b0, hb0⟩ : ∃ b, b = f 0 := ⟨_, rfl⟩
  obtain ⟨b1, hb1⟩ : ∃ b, b = f 1 := ⟨_, rfl⟩
  obtain ⟨b2, hb2⟩ : ∃ b, b = f 2 := ⟨_, rfl⟩
  obtain ⟨b3, hb3⟩ : ∃ b, b = f 3 := ⟨_, rfl⟩
  obtain ⟨b4, hb4⟩ : ∃ b, b = f 4 := ⟨_, rfl⟩
  obtain ⟨b5, hb5⟩ : ∃ b, b = f 5 := ⟨_, rfl⟩
  obtain ⟨b6, hb6⟩ : ∃ b, b = f 6 := ⟨_, rfl⟩
  unfold voteCells at hb
  rw [← hb0, ← hb1, ← hb2, ← hb3, ← hb4, ← hb5, ← hb6] at hb
  rw [← hb0, ← hb1, ← hb2, ← hb3, ← hb4, ← hb5, ← hb6]
  clear hb0 hb1 hb2 hb3 hb4 hb5 hb6
  have c1 := hb.cell (i := 1) rfl
  have c2 := hb.cell (i := 2) rfl
  have c3 := hb.cell (i := 3) rfl
  have c4 := hb.cell (i := 4) rfl
  have c5 := hb.cell (i := 5) rfl
  have c6 := hb.cell (i := 6) rfl
  have c7 := hb.cell (i := 7) rfl
  have fz := hb.frozen
  have hne := fun W => neqA5 W b0 b1 b2 b3 b4 b5 b6
  have HT : Hid (Turns (fun i => i = p) w ((w.setCell ⟨p, 6, none⟩ (.bool true)).alloc (.cells #[.bool b0, .bool b1, .bool b2, .bool b3, .bool b4, .bool b5, .bool b6] 62))) := (Turns.setCell (F := fun i => i = p) (a := w) (Turns.refl _ _) (.inl rfl) _).alloc _
  have HS := hid ((hb.set 6 (.bool true)).alloc (.cells #[.bool b0, .bool b1, .bool b2, .bool b3, .bool b4, .bool b5, .bool b6] 62))
  clear hb
  go_enter Try.func23, Try.ntmps23
  go_wp2_with fail
  refine HC.out.mono ?_
  rintro e w' ⟨rfl, rfl⟩
  go_wp2
  go_quiet (fail)
  go_wp2
  go_ret
  exact ⟨rfl, HS.out, HT.out.drewN _⟩
set_option maxRecDepth 100000 in
theorem addVotes6 {w : World} {p : Nat} {n : Int} {f : Nat → Bool} (h : VotesAt w p n f) (hx : (6 : Int) < n) : Calls Try.prog 23 #[.pointer (some ⟨p, 0, none⟩), .int .i64 6] w fun e w' => e = .returned (.bool (!f 6)) ∧ Blk w' p 64 [.int .i64 n, .bool (f 0), .bool (f 1), .bool (f 2), .bool (f 3), .bool (f 4), .bool (f 5), .bool true] ∧ Turns (fun i => i = p) w w' := by
  have HC := hid (hasNodeV h 6)
  rw [decide_eq_true ⟨by omega, hx⟩] at HC
  have hb := h.blk
  clear h hx
  have hlt := hb.lt
  obtain ⟨b0, hb0⟩ : ∃ b, b = f 0 := ⟨_, rfl⟩
  obtain ⟨b1, hb1⟩ : ∃ b, b = f 1 := ⟨_, rfl⟩
  obtain ⟨b2, hb2⟩ : ∃ b, b = f 2 := ⟨_, rfl⟩
  obtain ⟨b3, hb3⟩ : ∃ b, b = f 3 := ⟨_, rfl⟩
  obtain ⟨b4, hb4⟩ : ∃ b, b = f 4 := ⟨_, rfl⟩
  obtain ⟨b5, hb5⟩ : ∃ b, b = f 5 := ⟨_, rfl⟩
  obtain ⟨b6, hb6⟩ : ∃ b, b = f 6 := ⟨_, rfl⟩
  unfold voteCells at hb
  rw [← hb0, ← hb1, ← hb2, ← hb3, ← hb4, ← hb5, ← hb6] at hb
  rw [← hb0, ← hb1, ← hb2, ← hb3, ← hb4, ← hb5, ← hb6]
  clear hb0 hb1 hb2 hb3 hb4 hb5 hb6
  have c1 := hb.cell (i := 1) rfl
  have c2 := hb.cell (i := 2) rfl
  have c3 := hb.cell (i := 3) rfl
  have c4 := hb.cell (i := 4) rfl
  have c5 := hb.cell (i := 5) rfl
  have c6 := hb.cell (i := 6) rfl
  have c7 := hb.cell (i := 7) rfl
  have fz := hb.frozen
  have hne := fun W => neqA6 W b0 b1 b2 b3 b4 b5 b6
  have HT : Hid (Turns (fun i => i = p) w ((w.setCell ⟨p, 7, none⟩ (.bool true)).alloc (.cells #[.bool b0, .bool b1, .bool b2, .bool b3, .bool b4, .bool b5, .bool b6] 62))) := (Turns.setCell (F := fun i => i = p) (a := w) (Turns.refl _ _) (.inl rfl) _).alloc _
  have HS := hid ((hb.set 7 (.bool true)).alloc (.cells #[.bool b0, .bool b1, .bool b2, .bool b3, .bool b4, .bool b5, .bool b6] 62))
  clear hb
  go_enter Try.func23, Try.ntmps23
  go_wp2_with fail
  refine HC.out.mono ?_
  rintro e w' ⟨rfl, rfl⟩
  go_wp2
  go_quiet (fail)
  go_wp2
  go_ret
  exact ⟨rfl, HS.out, HT.out.drewN _⟩
theorem addVotes_in {w : World} {p : Nat} {n : Int} {f : Nat → Bool} (h : VotesAt w p n f) (k : Nat) (hk : (k : Int) < n) : Calls Try.prog 23 #[.pointer (some ⟨p, 0, none⟩), .int .i64 (k : Int)] w fun e w' => e = .returned (.bool (!f k)) ∧ VotesAt w' p n (addV f k) ∧ Turns (fun i => i = p) w w' := by
  have hout : ∀ i : Nat, n ≤ (i : Int) → addV f k i = false := fun i hi => by
    unfold addV
    rw [if_neg (by omega)]
    exact h.out i hi
  have h7 : k < 7 := by have := h.hi; omega
  match k, h7 with
  | 0, _ => exact (addVotes0 h hk).mono fun e w' hh => ⟨hh.1, ⟨hh.2.1, h.lo, h.hi, hout⟩, hh.2.2⟩
  | 1, _ => exact (addVotes1 h hk).mono fun e w' hh => ⟨hh.1, ⟨hh.2.1, h.lo, h.hi, hout⟩, hh.2.2⟩
  | 2, _ => exact (addVotes2 h hk).mono fun e w' hh => ⟨hh.1, ⟨hh.2.1, h.lo, h.hi, hout⟩, hh.2.2⟩
  | 3, _ => exact (addVotes3 h hk).mono fun e w' hh => ⟨hh.1, ⟨hh.2.1, h.lo, h.hi, hout⟩, hh.2.2⟩
  | 4, _ => exact (addVotes4 h hk).mono fun e w' hh => ⟨hh.1, ⟨hh.2.1, h.lo, h.hi, hout⟩, hh.2.2⟩
  | 5, _ => exact (addVotes5 h hk).mono fun e w' hh => ⟨hh.1, ⟨hh.2.1, h.lo, h.hi, hout⟩, hh.2.2⟩
  | 6, _ => exact (addVotes6 h hk).mono fun e w' hh => ⟨hh.1, ⟨hh.2.1, h.lo, h.hi, hout⟩, hh.2.2⟩
end Go.Proofs.Ytdceenejijigdaa
