/-
  Package lease: a hold in memory ('HdAt'): NewHold, Blocks, Give, Restart, Until, Fork.
-/
import Derived.Test.YtmceffndnofgfaaLeB
import Derived.Deep.QuietTactic
import Derived.BigQuiet
import Derived.BigRegion
namespace Go.Proofs.Ytmceffndnofgfaa
open Go.RowKit Go.Maps

theorem neqBalLe (W : World) (a1 a2 b1 b2 : Int) : (binOp .neq 38 (.agg #[.int .i64 a1, .int .i64 a2]) (.agg #[.int .i64 b1, .int .i64 b2])).run Try.prog W = .ok (.bool (decide ((a1, a2) ≠ (b1, b2)))) W := by
  by_cases h1 : a1 = b1
  · by_cases h2 : a2 = b2
    · subst h1 h2
      simp [go_sem]
    · subst h1
      simp [go_sem, h2]
  · simp [go_sem, h1]
/-- A hold in memory: how long it is given, whose it is, and until when. -/
structure HdAt (w : World) (p : Nat) (l r n u : Int) : Prop where
  blk : Blk w p 78 [.int .i64 l, .int .i64 r, .int .i64 n, .int .i64 u]
  len : 1 ≤ l ∧ l ≤ 1048576
  unt : 0 ≤ u ∧ u ≤ 1152921504607895552
section
variable {w w' : World} {p : Nat} {l r n u : Int}
theorem HdAt.turned {F : Nat → Prop} (h : HdAt w p l r n u) (ht : Turns F w w') (hF : ¬ F p) : HdAt w' p l r n u := ⟨ht.blk h.blk hF, h.len, h.unt⟩
theorem HdAt.below {B : Nat} (h : HdAt w p l r n u) (hb : Below B w w') (hB : w.heap.size ≤ B) : HdAt w' p l r n u := h.turned (F := fun _ => False) (Turns.of_below hb hB) (fun h => h)
theorem HdAt.drewN (h : HdAt w p l r n u) (q : Nat) : HdAt (w.drewN q) p l r n u := ⟨h.blk, h.len, h.unt⟩
end
theorem closedHd_nil (w : World) : Calls Try.prog 37 #[.pointer none] w fun e w' => e = .returned (.bool true) ∧ w' = w := by
  go_enter Try.func37, Try.ntmps37
  go_wp2
  go_ret
  exact ⟨rfl, rfl⟩
theorem HdAt.closed {w : World} {p : Nat} {l r n u : Int} (h : HdAt w p l r n u) : Calls Try.prog 37 #[.pointer (some ⟨p, 0, none⟩)] w fun e w' => e = .returned (.bool false) ∧ w' = w := by
  have c0 := h.blk.cell (i := 0) rfl
  have hn : (l == 0) = false := by have := h.len; simp; omega
  clear h
  go_enter Try.func37, Try.ntmps37
  go_wp2
  go_ret
  exact ⟨rfl, rfl⟩
theorem newHd_bad (w : World) (l : Int) (h : ¬ (1 ≤ l ∧ l ≤ 1048576)) : Calls Try.prog 9 #[.int .i64 l] w fun e w' => e = .returned (.tuple #[.pointer none, .int .i64 1]) ∧ w' = w := by
  have HL := hid (mayLast_any w l)
  rw [decide_eq_false h] at HL
  clear h
  go_enter Try.func9, Try.ntmps9
  go_wp2_with fail
  refine HL.out.mono ?_
  rintro e w' ⟨rfl, rfl⟩
  go_wp2
  go_ret2
  exact ⟨rfl, rfl⟩
theorem newHd_good (w : World) (l : Int) (h : 1 ≤ l ∧ l ≤ 1048576) : Calls Try.prog 9 #[.int .i64 l] w fun e w' => e = .returned (.tuple #[.pointer (some ⟨w.heap.size, 0, none⟩), .int .i64 0]) ∧ HdAt w' w.heap.size l 0 0 0 ∧ Below w.heap.size w w' := by
  have HL := hid (mayLast_any w l)
  rw [decide_eq_true h] at HL
  have HH := hid h
  clear h
  go_enter Try.func9, Try.ntmps9
  go_wp2_with fail
  refine HL.out.mono ?_
  rintro e w' ⟨rfl, rfl⟩
  go_wp2
  go_ret2
  exact ⟨rfl, ⟨Blk.new _ _ _, HH.out, by omega, by omega⟩, (Below.refl _ _).alloc (Nat.le_refl _) _⟩
theorem untilHd_nil (w : World) : Calls Try.prog 25 #[.pointer none] w fun e w' => e = .returned (.int .i64 0) ∧ w' = w := by
  go_enter Try.func25, Try.ntmps25
  go_wp2_with fail
  refine (closedHd_nil _).mono ?_
  rintro e w' ⟨rfl, rfl⟩
  go_wp2
  go_ret
  exact ⟨rfl, rfl⟩
theorem untilHd_any {w : World} {p : Nat} {l r n u : Int} (h : HdAt w p l r n u) : Calls Try.prog 25 #[.pointer (some ⟨p, 0, none⟩)] w fun e w' => e = .returned (.int .i64 u) ∧ w' = w := by
  have HC := hid h.closed
  have c3 := h.blk.cell (i := 3) rfl
  clear h
  go_enter Try.func25, Try.ntmps25
  go_wp2_with fail
  refine HC.out.mono ?_
  rintro e w' ⟨rfl, rfl⟩
  go_wp2
  go_ret
  exact ⟨rfl, rfl⟩
theorem forkHd_nil (w : World) : Calls Try.prog 24 #[.pointer none] w fun e w' => e = .returned (.pointer none) ∧ w' = w := by
  go_enter Try.func24, Try.ntmps24
  go_wp2_with fail
  refine (closedHd_nil _).mono ?_
  rintro e w' ⟨rfl, rfl⟩
  go_wp2
  go_ret
  exact ⟨rfl, rfl⟩
theorem forkHd_any {w : World} {p : Nat} {l r n u : Int} (h : HdAt w p l r n u) : Calls Try.prog 24 #[.pointer (some ⟨p, 0, none⟩)] w fun e w' => e = .returned (.pointer (some ⟨w.heap.size, 0, none⟩)) ∧ HdAt w' w.heap.size l r n u ∧ Below w.heap.size w w' := by
  have HC := hid h.closed
  have c0 := h.blk.cell (i := 0) rfl
  have c1 := h.blk.cell (i := 1) rfl
  have c2 := h.blk.cell (i := 2) rfl
  have c3 := h.blk.cell (i := 3) rfl
  have H := hid h
  clear h
  go_enter Try.func24, Try.ntmps24
  go_wp2_with fail
  refine HC.out.mono ?_
  rintro e w' ⟨rfl, rfl⟩
  go_wp2
  go_ret
  exact ⟨rfl, ⟨Blk.new _ _ _, H.out.len, H.out.unt⟩, (Below.refl _ _).alloc (Nat.le_refl _) _⟩

theorem blocksHd_nil (w : World) (b1 b2 now : Int) : Calls Try.prog 19 #[.pointer none, .agg #[.int .i64 b1, .int .i64 b2], .int .i64 now] w fun e w' => e = .returned (.bool false) ∧ Below w.heap.size w w' := by
  have HC := hid (fun W => closedHd_nil W)
  have HB : Hid (Below w.heap.size w (w.alloc (.cells #[.int .i64 b1, .int .i64 b2] 38))) := (Below.refl _ _).alloc (Nat.le_refl _) _
  go_enter Try.func19, Try.ntmps19
  go_wp2
  go_quiet (first | (go_at_call 37; refine Calls.quiet_of_same (HC.out _)))
  go_wp2
  go_ret
  exact ⟨rfl, below_dn HB.out _⟩
/-- Does a hold that is own's until u block b at that moment? -/
def Blocked (own b : Int × Int) (u now : Int) : Prop := now < u ∧ b ≠ own
instance (own b : Int × Int) (u now : Int) : Decidable (Blocked own b u now) := by unfold Blocked; infer_instance
set_option maxRecDepth 100000 in
theorem blocksHd_any {w : World} {p : Nat} {l r n u : Int} (h : HdAt w p l r n u) (b1 b2 now : Int) : Calls Try.prog 19 #[.pointer (some ⟨p, 0, none⟩), .agg #[.int .i64 b1, .int .i64 b2], .int .i64 now] w fun e w' => e = .returned (.bool (decide (Blocked (r, n) (b1, b2) u now))) ∧ Below w.heap.size w w' := by
  obtain ⟨W, hW⟩ : ∃ W, W = w.alloc (.cells #[.int .i64 b1, .int .i64 b2] 38) := ⟨_, rfl⟩
  obtain ⟨bb, hbb⟩ : ∃ bb, bb = w.heap.size := ⟨_, rfl⟩
  have hbl : Below w.heap.size w W := by rw [hW]; exact (Below.refl _ _).alloc (Nat.le_refl _) _
  have hk : Blk W bb 38 [.int .i64 b1, .int .i64 b2] := by rw [hW, hbb]; exact Blk.new w _ _
  have hd := h.below hbl (Nat.le_refl _)
  have HC := hid (fun q => (hd.drewN q).closed)
  have c1 := hd.blk.cell (i := 1) rfl
  have c2 := hd.blk.cell (i := 2) rfl
  have c3 := hd.blk.cell (i := 3) rfl
  have k0 := hk.cell (i := 0) rfl
  have k1 := hk.cell (i := 1) rfl
  have HB := hid hbl
  have HW := hid hW
  have HBB := hid hbb
  have hq := fun V => neqBalLe V b1 b2 r n
  clear h hbl hk hd hW hbb
  by_cases h1 : now < u
  · have hdd : decide (now < u) = true := by simp [h1]
    have HE : Hid (decide ((b1, b2) ≠ (r, n)) = decide (Blocked (r, n) (b1, b2) u now)) := by
      show _ = _
      rw [decide_eq_decide]
      exact ⟨fun h => ⟨h1, h⟩, fun h => h.2⟩
    rw [← HE.out]
    generalize decide ((b1, b2) ≠ (r, n)) = D at *
    clear HE h1
    go_enter Try.func19, Try.ntmps19
    go_wp2
    rw [← HW.out, ← HBB.out]
    go_quiet (first | (go_at_call 37; refine Calls.quiet_of_same (HC.out _)))
    go_wp2
    go_ret
    exact ⟨rfl, below_dn HB.out _⟩
  · have hdd : decide (now < u) = false := by simp [h1]
    rw [decide_eq_false (fun (hh : Blocked (r, n) (b1, b2) u now) => h1 hh.1)]
    clear h1
    go_enter Try.func19, Try.ntmps19
    go_wp2
    rw [← HW.out, ← HBB.out]
    go_quiet (first | (go_at_call 37; refine Calls.quiet_of_same (HC.out _)))
    go_wp2
    go_ret
    exact ⟨rfl, below_dn HB.out _⟩

theorem give_wrap {now l : Int} (hn : 0 ≤ now ∧ now ≤ 1152921504606846976) (hl : 1 ≤ l ∧ l ≤ 1048576) : wrap64 (now + l) = now + l := wrapS (by omega) (by omega)
theorem give_end {w W : World} {p : Nat} {l r n u b1 b2 X Y : Int} (h : HdAt W p l r n u) (hb : Below w.heap.size w W) (hY : 0 ≤ Y ∧ Y ≤ 1152921504607895552) (hX : X = Y) :
    HdAt (((W.setCell ⟨p, 1, none⟩ (.int .i64 b1)).setCell ⟨p, 2, none⟩ (.int .i64 b2)).setCell ⟨p, 3, none⟩ (.int .i64 X)).drew p l b1 b2 Y ∧ Turns (fun i => i = p) w (((W.setCell ⟨p, 1, none⟩ (.int .i64 b1)).setCell ⟨p, 2, none⟩ (.int .i64 b2)).setCell ⟨p, 3, none⟩ (.int .i64 X)).drew := by
  subst hX
  refine ⟨⟨((h.blk.set 1 _).set 2 _).set 3 _, h.len, hY⟩, Turns.drew ?_⟩
  have ht : Turns (fun i => i = p) w W := Turns.of_below hb (Nat.le_refl _)
  exact ((ht.setCell (p := ⟨p, 1, none⟩) (.inl rfl) _).setCell (p := ⟨p, 2, none⟩) (.inl rfl) _).setCell (p := ⟨p, 3, none⟩) (.inl rfl) _
set_option maxRecDepth 100000 in
set_option maxHeartbeats 2000000 in
theorem giveHd_any {w : World} {p : Nat} {l r n u : Int} (h : HdAt w p l r n u) (b1 b2 now : Int) (hn : 0 ≤ now ∧ now ≤ 1152921504606846976) : Calls Try.prog 38 #[.pointer (some ⟨p, 0, none⟩), .agg #[.int .i64 b1, .int .i64 b2], .int .i64 now] w fun e w' => e = .returned (.tuple #[]) ∧ HdAt w' p l b1 b2 (max u (now + l)) ∧ Turns (fun i => i = p) w w' := by
  obtain ⟨W, hW⟩ : ∃ W, W = w.alloc (.cells #[.int .i64 b1, .int .i64 b2] 38) := ⟨_, rfl⟩
  obtain ⟨bb, hbb⟩ : ∃ bb, bb = w.heap.size := ⟨_, rfl⟩
  have hbl : Below w.heap.size w W := by rw [hW]; exact (Below.refl _ _).alloc (Nat.le_refl _) _
  have hk : Blk W bb 38 [.int .i64 b1, .int .i64 b2] := by rw [hW, hbb]; exact Blk.new w _ _
  have hd := h.below hbl (Nat.le_refl _)
  have HD := hid hd
  have c0 := hd.blk.cell (i := 0) rfl
  have c1 := hd.blk.cell (i := 1) rfl
  have c2 := hd.blk.cell (i := 2) rfl
  have c3 := hd.blk.cell (i := 3) rfl
  have f1 := hd.blk.frozen 1
  have f2 := hd.blk.frozen 2
  have f3 := hd.blk.frozen 3
  have k0 := hk.cell (i := 0) rfl
  have k1 := hk.cell (i := 1) rfl
  have HB := hid hbl
  have HW := hid hW
  have HBB := hid hbb
  have hw := give_wrap hn h.len
  have hne : bb ≠ p := by rw [hbb]; have := h.blk.lt; omega
  have HM : Hid (0 ≤ max u (now + l) ∧ max u (now + l) ≤ 1152921504607895552) := by
    have h1 := h.unt
    have h2 := h.len
    exact (by omega : 0 ≤ max u (now + l) ∧ max u (now + l) ≤ 1152921504607895552)
  clear h hbl hk hd hW hbb hn
  go_enter Try.func38, Try.ntmps38
  go_wp2
  rw [← HW.out, ← HBB.out]
  go_region
  all_goals
    go_wp2
    all_goals
      go_end0
      exact ⟨rfl, give_end HD.out HB.out HM.out (by omega)⟩

theorem giveHd_nil (w : World) (b1 b2 now : Int) : Calls Try.prog 17 #[.pointer none, .agg #[.int .i64 b1, .int .i64 b2], .int .i64 now] w fun e w' => e = .returned (.bool false) ∧ Below w.heap.size w w' := by
  have HB : Hid (Below w.heap.size w (w.alloc (.cells #[.int .i64 b1, .int .i64 b2] 38))) := (Below.refl _ _).alloc (Nat.le_refl _) _
  go_enter Try.func17, Try.ntmps17
  go_wp2_with fail
  refine (closedHd_nil _).mono ?_
  rintro e w' ⟨rfl, rfl⟩
  go_wp2
  go_ret
  exact ⟨rfl, HB.out⟩
/-- Is it given? -/
def Gives (own b : Int × Int) (u now : Int) : Prop := (0 ≤ now ∧ now ≤ 1152921504606846976) ∧ ¬ Blocked own b u now
instance (own b : Int × Int) (u now : Int) : Decidable (Gives own b u now) := by unfold Gives; infer_instance
section
variable {w : World} {p : Nat} {l r n u : Int}
set_option maxRecDepth 100000 in
theorem GiveHd_no (h : HdAt w p l r n u) (b1 b2 now : Int) (hg : ¬ Gives (r, n) (b1, b2) u now) : Calls Try.prog 17 #[.pointer (some ⟨p, 0, none⟩), .agg #[.int .i64 b1, .int .i64 b2], .int .i64 now] w fun e w' => e = .returned (.bool false) ∧ Below w.heap.size w w' := by
  obtain ⟨W, hW⟩ : ∃ W, W = w.alloc (.cells #[.int .i64 b1, .int .i64 b2] 38) := ⟨_, rfl⟩
  obtain ⟨bb, hbb⟩ : ∃ bb, bb = w.heap.size := ⟨_, rfl⟩
  have hbl : Below w.heap.size w W := by rw [hW]; exact (Below.refl _ _).alloc (Nat.le_refl _) _
  have hk : Blk W bb 38 [.int .i64 b1, .int .i64 b2] := by rw [hW, hbb]; exact Blk.new w _ _
  have hd := h.below hbl (Nat.le_refl _)
  have HC := hid hd.closed
  have HS := hid (mayShowLe W now)
  have HBK := hid (blocksHd_any hd b1 b2 now)
  have k0 := hk.cell (i := 0) rfl
  have k1 := hk.cell (i := 1) rfl
  have HB := hid hbl
  have HW := hid hW
  have HBB := hid hbb
  by_cases h0 : 0 ≤ now ∧ now ≤ 1152921504606846976
  · have hbd : Blocked (r, n) (b1, b2) u now := by
      by_cases h1 : Blocked (r, n) (b1, b2) u now
      · exact h1
      · exact absurd ⟨h0, h1⟩ hg
    rw [decide_eq_true h0] at HS
    rw [decide_eq_true hbd] at HBK
    clear h hbl hk hd hW hbb hg h0 hbd
    go_enter Try.func17, Try.ntmps17
    go_wp2_with fail
    rw [← HW.out, ← HBB.out]
    refine HC.out.mono ?_
    rintro e w' ⟨rfl, rfl⟩
    go_wp2_with fail
    refine HS.out.mono ?_
    rintro e w' ⟨rfl, rfl⟩
    go_wp2_with fail
    refine HBK.out.mono ?_
    rintro e w2 ⟨rfl, hb2⟩
    have HB2 : Hid (Below w.heap.size w w2) := HB.out.trans (hb2.mono HB.out.size)
    clear hb2
    go_wp2
    go_ret
    exact ⟨rfl, HB2.out⟩
  · rw [decide_eq_false h0] at HS
    clear h hbl hk hd hW hbb hg h0
    go_enter Try.func17, Try.ntmps17
    go_wp2_with fail
    rw [← HW.out, ← HBB.out]
    refine HC.out.mono ?_
    rintro e w' ⟨rfl, rfl⟩
    go_wp2_with fail
    refine HS.out.mono ?_
    rintro e w' ⟨rfl, rfl⟩
    go_wp2
    go_ret
    exact ⟨rfl, HB.out⟩
set_option maxRecDepth 100000 in
theorem GiveHd_yes (h : HdAt w p l r n u) (b1 b2 now : Int) (hg : Gives (r, n) (b1, b2) u now) : Calls Try.prog 17 #[.pointer (some ⟨p, 0, none⟩), .agg #[.int .i64 b1, .int .i64 b2], .int .i64 now] w fun e w' => e = .returned (.bool true) ∧ HdAt w' p l b1 b2 (max u (now + l)) ∧ Turns (fun i => i = p) w w' := by
  obtain ⟨W, hW⟩ : ∃ W, W = w.alloc (.cells #[.int .i64 b1, .int .i64 b2] 38) := ⟨_, rfl⟩
  obtain ⟨bb, hbb⟩ : ∃ bb, bb = w.heap.size := ⟨_, rfl⟩
  have hbl : Below w.heap.size w W := by rw [hW]; exact (Below.refl _ _).alloc (Nat.le_refl _) _
  have hk : Blk W bb 38 [.int .i64 b1, .int .i64 b2] := by rw [hW, hbb]; exact Blk.new w _ _
  have hd := h.below hbl (Nat.le_refl _)
  have HC := hid hd.closed
  have HD := hid hd
  have HK := hid hk
  have HS := hid (mayShowLe W now)
  have HBK := hid (blocksHd_any hd b1 b2 now)
  have k0 := hk.cell (i := 0) rfl
  have k1 := hk.cell (i := 1) rfl
  have HB := hid hbl
  have HW := hid hW
  have HBB := hid hbb
  have HN := hid hg.1
  rw [decide_eq_true hg.1] at HS
  rw [decide_eq_false hg.2] at HBK
  clear h hbl hk hd hW hbb hg
  go_enter Try.func17, Try.ntmps17
  go_wp2_with fail
  rw [← HW.out, ← HBB.out]
  refine HC.out.mono ?_
  rintro e w' ⟨rfl, rfl⟩
  go_wp2_with fail
  refine HS.out.mono ?_
  rintro e w' ⟨rfl, rfl⟩
  go_wp2_with fail
  refine HBK.out.mono ?_
  rintro e w2 ⟨rfl, hb2⟩
  have HG := hid (giveHd_any (HD.out.below hb2 (Nat.le_refl _)) b1 b2 now HN.out)
  have m0 := (HK.out.below hb2 HK.out.lt).cell (i := 0) rfl
  have m1 := (HK.out.below hb2 HK.out.lt).cell (i := 1) rfl
  have HT2 : Hid (Turns (fun i => i = p) w w2) := (Turns.of_below HB.out (Nat.le_refl _)).trans (Turns.of_below (F := fun _ => False) hb2 (Nat.le_refl _)) (fun _ h => h.elim)
  clear hb2
  go_wp2_with fail
  refine HG.out.mono ?_
  rintro e w3 ⟨rfl, h3, ht3⟩
  have HE : Hid (HdAt w3 p l b1 b2 (max u (now + l)) ∧ Turns (fun i => i = p) w w3) := ⟨h3, HT2.out.trans ht3 (fun i hi => .inl hi)⟩
  clear h3 ht3
  go_wp2
  go_ret
  exact ⟨rfl, HE.out⟩
theorem restartHd_nil (w : World) (now : Int) : Calls Try.prog 21 #[.pointer none, .int .i64 now] w fun e w' => e = .returned (.tuple #[]) ∧ w' = w := by
  go_enter Try.func21, Try.ntmps21
  go_wp2_with fail
  refine (closedHd_nil _).mono ?_
  rintro e w' ⟨rfl, rfl⟩
  go_wp2
  (try simp only [Exit.inBlock, Exit.then])
  refine bodyPost_ret (results_none rfl _ _ _) rfl ?_
  exact ⟨rfl, rfl⟩
theorem restartHd_no (h : HdAt w p l r n u) (now : Int) (hn : ¬ (0 ≤ now ∧ now ≤ 1152921504606846976)) : Calls Try.prog 21 #[.pointer (some ⟨p, 0, none⟩), .int .i64 now] w fun e w' => e = .returned (.tuple #[]) ∧ w' = w := by
  have HC := hid h.closed
  have HS := hid (mayShowLe w now)
  rw [decide_eq_false hn] at HS
  clear h hn
  go_enter Try.func21, Try.ntmps21
  go_wp2_with fail
  refine HC.out.mono ?_
  rintro e w' ⟨rfl, rfl⟩
  go_wp2_with fail
  refine HS.out.mono ?_
  rintro e w' ⟨rfl, rfl⟩
  go_wp2
  (try simp only [Exit.inBlock, Exit.then])
  refine bodyPost_ret (results_none rfl _ _ _) rfl ?_
  exact ⟨rfl, rfl⟩
theorem restartHd_yes (h : HdAt w p l r n u) (now : Int) (hn : 0 ≤ now ∧ now ≤ 1152921504606846976) : Calls Try.prog 21 #[.pointer (some ⟨p, 0, none⟩), .int .i64 now] w fun e w' => e = .returned (.tuple #[]) ∧ HdAt w' p l 0 0 (max u (now + l)) ∧ Turns (fun i => i = p) w w' := by
  have HC := hid h.closed
  have HS := hid (mayShowLe w now)
  have HG := hid (giveHd_any h 0 0 now hn)
  rw [decide_eq_true hn] at HS
  clear h hn
  go_enter Try.func21, Try.ntmps21
  go_wp2_with fail
  refine HC.out.mono ?_
  rintro e w' ⟨rfl, rfl⟩
  go_wp2_with fail
  refine HS.out.mono ?_
  rintro e w' ⟨rfl, rfl⟩
  go_wp2_with fail
  refine HG.out.mono ?_
  rintro e w3 ⟨rfl, h3, ht3⟩
  have HE := hid (And.intro h3 ht3)
  clear h3 ht3
  go_wp2
  go_end0
  exact ⟨rfl, HE.out⟩
end
end Go.Proofs.Ytmceffndnofgfaa
