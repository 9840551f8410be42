/-
  The document's hold (pannierref21) in memory: NewHold, Blocks, Give, Restart.
-/
import Derived.Test.YtmceffndnofgfaaLeE
namespace Go.Proofs.Ytmceffndnofgfaa
open Go.RowKit Go.Maps

structure RhAt (w : World) (p : Nat) (l r n u : Int) : Prop where
  blk : Blk w p 54 [.int .i64 l, .int .i64 r, .int .i64 n, .int .i64 u]
  len : 1 ≤ l ∧ l ≤ 1048576
  unt : 0 ≤ u ∧ u ≤ 1152921504607895552
section
variable {w w' : World} {p : Nat} {l r n u : Int}
theorem RhAt.turned {F : Nat → Prop} (h : RhAt w p l r n u) (ht : Turns F w w') (hF : ¬ F p) : RhAt w' p l r n u := ⟨ht.blk h.blk hF, h.len, h.unt⟩
theorem RhAt.below {B : Nat} (h : RhAt w p l r n u) (hb : Below B w w') (hB : w.heap.size ≤ B) : RhAt w' p l r n u := h.turned (F := fun _ => False) (Turns.of_below hb hB) (fun h => h)
end
theorem rnewHd_bad (w : World) (l : Int) (h : ¬ (1 ≤ l ∧ l ≤ 1048576)) : Calls Try.prog 10 #[.int .i64 l] w fun e w' => e = .returned (.tuple #[.pointer none, .int .i64 1]) ∧ w' = w := by
  by_cases h0 : l < 1
  · clear h
    go_enter Try.func10, Try.ntmps10
    go_wp2
    go_ret2
    exact ⟨rfl, rfl⟩
  · have h1 : 1048576 < l := by omega
    clear h
    go_enter Try.func10, Try.ntmps10
    go_wp2
    go_ret2
    exact ⟨rfl, rfl⟩
theorem rnewHd_good (w : World) (l : Int) (h : 1 ≤ l ∧ l ≤ 1048576) : Calls Try.prog 10 #[.int .i64 l] w fun e w' => e = .returned (.tuple #[.pointer (some ⟨w.heap.size, 0, none⟩), .int .i64 0]) ∧ RhAt w' w.heap.size l 0 0 0 ∧ Below w.heap.size w w' := by
  have h0 : ¬ l < 1 := by omega
  have h1 : ¬ 1048576 < l := by omega
  have HH := hid h
  clear h
  go_enter Try.func10, Try.ntmps10
  go_wp2
  go_ret2
  exact ⟨rfl, ⟨Blk.new _ _ _, HH.out, by omega, by omega⟩, (Below.refl _ _).alloc (Nat.le_refl _) _⟩
set_option maxRecDepth 100000 in
theorem rblocksHd {w : World} {p : Nat} {l r n u : Int} (h : RhAt w p l r n u) (b1 b2 now : Int) : Calls Try.prog 20 #[.pointer (some ⟨p, 0, none⟩), .agg #[.int .i64 b1, .int .i64 b2], .int .i64 now] w fun e w' => e = .returned (.bool (decide (Blocked (r, n) (b1, b2) u now))) ∧ Below w.heap.size w w' := by
  obtain ⟨W, hW⟩ : ∃ W, W = w.alloc (.cells #[.int .i64 b1, .int .i64 b2] 38) := ⟨_, rfl⟩
  obtain ⟨bb, hbb⟩ : ∃ bb, bb = w.heap.size := ⟨_, rfl⟩
  have hbl : Below w.heap.size w W := by rw [hW]; exact (Below.refl _ _).alloc (Nat.le_refl _) _
  have hk : Blk W bb 38 [.int .i64 b1, .int .i64 b2] := by rw [hW, hbb]; exact Blk.new w _ _
  have hd := h.below hbl (Nat.le_refl _)
  have c1 := hd.blk.cell (i := 1) rfl
  have c2 := hd.blk.cell (i := 2) rfl
  have c3 := hd.blk.cell (i := 3) rfl
  have k0 := hk.cell (i := 0) rfl
  have k1 := hk.cell (i := 1) rfl
  have HB := hid hbl
  have HW := hid hW
  have HBB := hid hbb
  have hq := fun V => neqBalLe V b1 b2 r n
  clear h hbl hk hd hW hbb
  by_cases h1 : now < u
  · have hdd : decide (now < u) = true := by simp [h1]
    have HE : Hid (decide ((b1, b2) ≠ (r, n)) = decide (Blocked (r, n) (b1, b2) u now)) := by
      show _ = _
      rw [decide_eq_decide]
      exact ⟨fun h => ⟨h1, h⟩, fun h => h.2⟩
    rw [← HE.out]
    generalize decide ((b1, b2) ≠ (r, n)) = D at *
    clear HE h1
    go_enter Try.func20, Try.ntmps20
    go_wp2
    rw [← HW.out, ← HBB.out]
    go_quiet (fail)
    go_wp2
    go_ret
    exact ⟨rfl, below_dn HB.out _⟩
  · have hdd : decide (now < u) = false := by simp [h1]
    rw [decide_eq_false (fun (hh : Blocked (r, n) (b1, b2) u now) => h1 hh.1)]
    clear h1
    go_enter Try.func20, Try.ntmps20
    go_wp2
    rw [← HW.out, ← HBB.out]
    go_quiet (fail)
    go_wp2
    go_ret
    exact ⟨rfl, below_dn HB.out _⟩

theorem rgive_end {w W : World} {p q : Nat} {l r n u b1 b2 X Y : Int} (h : RhAt W p l r n u) (hb : Below w.heap.size w W) (hY : 0 ≤ Y ∧ Y ≤ 1152921504607895552) (hX : X = Y) :
    RhAt ((((W.setCell ⟨p, 1, none⟩ (.int .i64 b1)).setCell ⟨p, 2, none⟩ (.int .i64 b2)).drewN q).setCell ⟨p, 3, none⟩ (.int .i64 X)) p l b1 b2 Y ∧ Turns (fun i => i = p) w ((((W.setCell ⟨p, 1, none⟩ (.int .i64 b1)).setCell ⟨p, 2, none⟩ (.int .i64 b2)).drewN q).setCell ⟨p, 3, none⟩ (.int .i64 X)) := by
  subst hX
  refine ⟨⟨(((h.blk.set 1 _).set 2 _).drewN q).set 3 _, h.len, hY⟩, ?_⟩
  have ht : Turns (fun i => i = p) w W := Turns.of_below hb (Nat.le_refl _)
  exact (((ht.setCell (p := ⟨p, 1, none⟩) (.inl rfl) _).setCell (p := ⟨p, 2, none⟩) (.inl rfl) _).drewN q).setCell (p := ⟨p, 3, none⟩) (.inl rfl) _
theorem rgive_end2 {w W : World} {p q : Nat} {l r n u b1 b2 Y : Int} (h : RhAt W p l r n u) (hb : Below w.heap.size w W) (hX : u = Y) :
    RhAt (((W.setCell ⟨p, 1, none⟩ (.int .i64 b1)).setCell ⟨p, 2, none⟩ (.int .i64 b2)).drewN q) p l b1 b2 Y ∧ Turns (fun i => i = p) w (((W.setCell ⟨p, 1, none⟩ (.int .i64 b1)).setCell ⟨p, 2, none⟩ (.int .i64 b2)).drewN q) := by
  subst hX
  refine ⟨⟨((h.blk.set 1 _).set 2 _).drewN q, h.len, h.unt⟩, ?_⟩
  have ht : Turns (fun i => i = p) w W := Turns.of_below hb (Nat.le_refl _)
  exact ((ht.setCell (p := ⟨p, 1, none⟩) (.inl rfl) _).setCell (p := ⟨p, 2, none⟩) (.inl rfl) _).drewN q
section
variable {w : World} {p : Nat} {l r n u : Int}
theorem rrestart_no (now : Int) (hn : ¬ (0 ≤ now ∧ now ≤ 1152921504606846976)) : Calls Try.prog 22 #[.pointer (some ⟨p, 0, none⟩), .int .i64 now] w fun e w' => e = .returned (.tuple #[]) ∧ w' = w := by
  by_cases h0 : now < 0
  · clear hn
    go_enter Try.func22, Try.ntmps22
    go_wp2
    (try simp only [Exit.inBlock, Exit.then])
    refine bodyPost_ret (results_none rfl _ _ _) rfl ?_
    exact ⟨rfl, rfl⟩
  · have h1 : 1152921504606846976 < now := by omega
    clear hn
    go_enter Try.func22, Try.ntmps22
    go_wp2
    (try simp only [Exit.inBlock, Exit.then])
    refine bodyPost_ret (results_none rfl _ _ _) rfl ?_
    exact ⟨rfl, rfl⟩
set_option maxRecDepth 100000 in
theorem rrestart_yes (h : RhAt w p l r n u) (now : Int) (hn : 0 ≤ now ∧ now ≤ 1152921504606846976) : Calls Try.prog 22 #[.pointer (some ⟨p, 0, none⟩), .int .i64 now] w fun e w' => e = .returned (.tuple #[]) ∧ RhAt w' p l 0 0 (max u (now + l)) ∧ Turns (fun i => i = p) w w' := by
  have c0 := h.blk.cell (i := 0) rfl
  have c1 := h.blk.cell (i := 1) rfl
  have c2 := h.blk.cell (i := 2) rfl
  have c3 := h.blk.cell (i := 3) rfl
  have f1 := h.blk.frozen 1
  have f2 := h.blk.frozen 2
  have f3 := h.blk.frozen 3
  have H := hid h
  have hw := give_wrap hn h.len
  have HM : Hid (0 ≤ max u (now + l) ∧ max u (now + l) ≤ 1152921504607895552) := by
    have h1 := h.unt
    have h2 := h.len
    exact (by omega : 0 ≤ max u (now + l) ∧ max u (now + l) ≤ 1152921504607895552)
  have h0 : ¬ now < 0 := by omega
  have h1 : ¬ 1152921504606846976 < now := by omega
  clear h hn
  by_cases hu : u < now + l
  · have hdu : decide (u < now + l) = true := by simp [hu]
    go_enter Try.func22, Try.ntmps22
    go_wp2
    go_quiet (fail)
    go_wp2
    go_end0
    exact ⟨rfl, rgive_end H.out (Below.refl _ _) HM.out (by omega)⟩
  · have hdu : decide (u < now + l) = false := by simp; omega
    go_enter Try.func22, Try.ntmps22
    go_wp2
    go_quiet (fail)
    go_wp2
    go_end0
    exact ⟨rfl, rgive_end2 H.out (Below.refl _ _) (by omega)⟩
end
end Go.Proofs.Ytmceffndnofgfaa
