/-
  Package router: what a session answers: Target, Tries, Fail, Done, Last, Token; and nil ones.
-/
import Derived.Test.YtppllbdoihfcbaaDoorRoA
import Derived.BigRegion
namespace Go.Proofs.YtppllbdoihfcbaaDoor
open Go.RowKit Go.Maps

theorem wrapI {x : Int} (h0 : -9223372036854775808 ≤ x) (h1 : x ≤ 9223372036854775807) : IntKind.i64.wrap x = x := by rw [IntKind.wrap_i64]; omega
section
variable {w : World} {p : Nat} {c n k t r : Int}
theorem SeAt.target (h : SeAt w p c n k t r) : Calls Tryd.prog 20 #[.pointer (some ⟨p, 0, none⟩)] w fun e w' => e = .returned (.int .i64 t) ∧ w' = w := by
  have HC := hid h.closed
  have c3 := h.blk.cell (i := 3) rfl
  clear h
  go_enter Tryd.func20, Tryd.ntmps20
  go_wp2_with fail
  refine HC.out.mono ?_
  rintro e w' ⟨rfl, rfl⟩
  go_wp2
  go_ret
  exact ⟨rfl, rfl⟩
theorem SeAt.tries (h : SeAt w p c n k t r) : Calls Tryd.prog 21 #[.pointer (some ⟨p, 0, none⟩)] w fun e w' => e = .returned (.int .i64 r) ∧ w' = w := by
  have HC := hid h.closed
  have c4 := h.blk.cell (i := 4) rfl
  clear h
  go_enter Tryd.func21, Tryd.ntmps21
  go_wp2_with fail
  refine HC.out.mono ?_
  rintro e w' ⟨rfl, rfl⟩
  go_wp2
  go_ret
  exact ⟨rfl, rfl⟩
theorem SeAt.done (h : SeAt w p c n k t r) : Calls Tryd.prog 18 #[.pointer (some ⟨p, 0, none⟩)] w fun e w' => e = .returned (.tuple #[]) ∧ SeAt w' p c n k t 0 ∧ Turns (fun i => i = p) w w' := by
  have HC := hid h.closed
  have f4 := h.blk.frozen 4
  have c4 := h.blk.cell (i := 4) rfl
  have HS : Hid (SeAt (w.setCell ⟨p, 4, none⟩ (.int .i64 0)) p c n k t 0 ∧ Turns (fun i => i = p) w (w.setCell ⟨p, 4, none⟩ (.int .i64 0))) := ⟨⟨h.blk.set 4 _, h.hc, h.hn, h.hk, h.ht, by omega⟩, (Turns.refl (fun i => i = p) w).setCell (p := ⟨p, 4, none⟩) (.inl rfl) _⟩
  clear h
  go_enter Tryd.func18, Tryd.ntmps18
  go_wp2_with fail
  refine HC.out.mono ?_
  rintro e w' ⟨rfl, rfl⟩
  go_wp2
  go_end0
  exact ⟨rfl, HS.out⟩
theorem SeAt.fail (h : SeAt w p c n k t r) (hr : r < 4611686018427387904) : Calls Tryd.prog 17 #[.pointer (some ⟨p, 0, none⟩)] w fun e w' => e = .returned (.tuple #[]) ∧ SeAt w' p c n k ((t + 1) % n) (r + 1) ∧ Turns (fun i => i = p) w w' := by
  have HC := hid h.closed
  have f4 := h.blk.frozen 4
  have c4 := h.blk.cell (i := 4) rfl
  have f3 := h.blk.frozen 3
  have c3 := h.blk.cell (i := 3) rfl
  have c1 := h.blk.cell (i := 1) rfl
  have hn0 : ¬ n = 0 := by have := h.hn; omega
  have q1 := Int.emod_nonneg (t + 1) hn0
  have q2 := Int.emod_lt_of_pos (t + 1) (show 0 < n by have := h.hn; omega)
  have HN := hid h.hn
  have HT := hid h.ht
  have HR := hid h.hr
  have e1 : IntKind.i64.wrap (t + 1) = t + 1 := wrapI (by have := h.ht; omega) (by have := h.ht; have := h.hn; omega)
  have e2 : (t + 1).tmod n = (t + 1) % n := Int.tmod_eq_emod_of_nonneg (by have := h.ht; omega)
  have e3 : IntKind.i64.wrap (r + 1) = r + 1 := wrapI (by have := h.hr; omega) (by omega)
  have e4 : IntKind.i64.wrap ((t + 1) % n) = (t + 1) % n := wrapI (by omega) (by have := h.hn; omega)
  have HS : Hid (SeAt ((w.setCell ⟨p, 3, none⟩ (.int .i64 ((t + 1) % n))).setCell ⟨p, 4, none⟩ (.int .i64 (r + 1))) p c n k ((t + 1) % n) (r + 1) ∧ Turns (fun i => i = p) w ((w.setCell ⟨p, 3, none⟩ (.int .i64 ((t + 1) % n))).setCell ⟨p, 4, none⟩ (.int .i64 (r + 1)))) := ⟨⟨(h.blk.set 3 _).set 4 _, h.hc, h.hn, h.hk, ⟨q1, q2⟩, by have := h.hr; omega⟩, ((Turns.refl (fun i => i = p) w).setCell (p := ⟨p, 3, none⟩) (.inl rfl) _).setCell (p := ⟨p, 4, none⟩) (.inl rfl) _⟩
  clear h q1 q2 hr
  go_enter Tryd.func17, Tryd.ntmps17
  go_wp2_with fail
  refine HC.out.mono ?_
  rintro e w' ⟨rfl, rfl⟩
  go_wp2
  go_region
  go_wp2
  go_end0
  exact ⟨rfl, HS.out.1.below ((Below.refl _ _).drew), HS.out.2.drew⟩
theorem SeAt.last0 (h : SeAt w p c n 0 t r) : Calls Tryd.prog 19 #[.pointer (some ⟨p, 0, none⟩)] w fun e w' => e = .returned (.string ⟨#[]⟩) ∧ w' = w := by
  have HC := hid h.closed
  have c2 := h.blk.cell (i := 2) rfl
  clear h
  go_enter Tryd.func19, Tryd.ntmps19
  go_wp2_with fail
  refine HC.out.mono ?_
  rintro e w' ⟨rfl, rfl⟩
  go_wp2
  go_ret
  exact ⟨rfl, rfl⟩
end
/-- A world behind another, in which a session is as it was there. -/
structure ScR (W V : World) : Prop where
  out : Below W.heap.size W V
theorem ScR.start (W : World) : ScR W W := ⟨Below.refl _ _⟩
theorem ScR.go {W V U : World} (h : ScR W V) (hb : Below V.heap.size V U) : ScR W U := ⟨btR h.out hb⟩
theorem ScR.dr {W V : World} (h : ScR W V) : ScR W V.drew := ⟨h.out.drew⟩
theorem ScR.alloc {W V : World} (h : ScR W V) (o : Obj) : ScR W (V.alloc o) := ⟨h.out.alloc h.out.size _⟩
set_option maxRecDepth 100000 in
theorem SeAt.last {w : World} {p : Nat} {c n k t r : Int} (h : SeAt w p c n k t r) (hk : 0 < k) (hT : TbR w) : Calls Tryd.prog 19 #[.pointer (some ⟨p, 0, none⟩)] w fun e w' => e = .returned (.string (tokR c (k - 1))) ∧ Below w.heap.size w w' := by
  have HC := hid h.closed
  have c2 := h.blk.cell (i := 2) rfl
  have c0 := h.blk.cell (i := 0) rfl
  have hk0 : ¬ k = 0 := by omega
  have HI : Hid (∀ V, ScR w V → Calls Tryd.prog 28 #[.int .i64 c] V fun e w' => e = .returned (.string (digS c)) ∧ ScR w w') := fun V hV => by
    refine (itoaR_any c (by have := h.hc; omega) (by have := h.hc; omega) V (hT.below hV.out)).mono ?_
    rintro e w' ⟨rfl, hb⟩
    exact ⟨rfl, hV.go hb⟩
  have hw : IntKind.i64.wrap (k - 1) = k - 1 := wrapI (by omega) (by have := h.hk; omega)
  have HJ : Hid (∀ V, ScR w V → Calls Tryd.prog 28 #[.int .i64 (k - 1)] V fun e w' => e = .returned (.string (digS (k - 1))) ∧ ScR w w') := fun V hV => by
    refine (itoaR_any (k - 1) (by omega) (by have := h.hk; omega) V (hT.below hV.out)).mono ?_
    rintro e w' ⟨rfl, hb⟩
    exact ⟨rfl, hV.go hb⟩
  have HSA : Hid (∀ V, ScR w V → (ScR w V ∧ V.cell? ⟨p, 0, none⟩ = some (.int .i64 c) ∧ V.cell? ⟨p, 2, none⟩ = some (.int .i64 k))) := fun V hV => by
    have h1 := (h.below hV.out).blk
    exact ⟨hV, h1.cell rfl, h1.cell rfl⟩
  have z1 := digS_size c (by have := h.hc; omega) (by have := h.hc; omega)
  have z2 := digS_size (k - 1) (by omega) (by have := h.hk; omega)
  have s1 : ¬ 9223372036854775807 < 1 + (digS c).size := by omega
  have s2 : ¬ 9223372036854775807 < 1 + (digS c).size + 1 := by omega
  have s3 : ¬ 9223372036854775807 < 1 + (digS c).size + 1 + (digS (k - 1)).size := by omega
  clear h hk z1 z2
  go_enter Tryd.func19, Tryd.ntmps19
  go_wp2_with fail
  refine HC.out.mono ?_
  rintro e w1 ⟨rfl, rfl⟩
  go_wp2
  refine wp_region_noPanic ?_
  go_region_held3 (fun V => ScR w1 V ∧ V.cell? ⟨p, 0, none⟩ = some (.int .i64 c) ∧ V.cell? ⟨p, 2, none⟩ = some (.int .i64 k))
    ((refine HSA.out _ ?_; (repeat (first | with_reducible assumption | exact ScR.start _ | apply ScR.dr | apply ScR.alloc))))
    (first
      | (go_at_call 28; with_reducible refine (HI.out _ (by (repeat (first | with_reducible assumption | exact ScR.start _ | apply ScR.dr)))).mono ?_; rintro e w5 ⟨rfl, hs5⟩)
      | (go_at_call 28; with_reducible refine (HJ.out _ (by (repeat (first | with_reducible assumption | exact ScR.start _ | apply ScR.dr)))).mono ?_; rintro e w6 ⟨rfl, hs6⟩))
  have HB := hs6.out
  refine NoPanic.normal ?_
  go_wp2
  go_ret
  exact ⟨rfl, HB⟩
theorem SeAt.token {w : World} {p : Nat} {c n k t r : Int} (h : SeAt w p c n k t r) (hk : k < 4611686018427387904) (hT : TbR w) (hp : ∀ g, Tryd.prog.globalNamed "internal/strconv.uint64pow10" = some g → ¬ g = p) : Calls Tryd.prog 16 #[.pointer (some ⟨p, 0, none⟩)] w fun e w' => e = .returned (.string (tokR c k)) ∧ SeAt w' p c n (k + 1) t r ∧ Turns (fun i => i = p) w w' := by
  have HC := hid h.closed
  have c2 := h.blk.cell (i := 2) rfl
  have f2 := h.blk.frozen 2
  have e1 : IntKind.i64.wrap (k + 1) = k + 1 := wrapI (by have := h.hk; omega) (by omega)
  have ht : Turns (fun i => i = p) w (w.setCell ⟨p, 2, none⟩ (.int .i64 (k + 1))) := (Turns.refl (fun i => i = p) w).setCell (p := ⟨p, 2, none⟩) (.inl rfl) _
  have hs : SeAt (w.setCell ⟨p, 2, none⟩ (.int .i64 (k + 1))) p c n (k + 1) t r := ⟨h.blk.set 2 _, h.hc, h.hn, by have := h.hk; omega, h.ht, h.hr⟩
  have HL := hid (hs.last (by have := h.hk; omega) (hT.turned ht (fun g hg => hp g hg)))
  have HS := hid hs
  have HT := hid ht
  have HP := hid h.blk.lt
  clear h hk ht hs
  go_enter Tryd.func16, Tryd.ntmps16
  go_wp2_with fail
  refine HC.out.mono ?_
  rintro e w1 ⟨rfl, rfl⟩
  go_wp2_with fail
  refine HL.out.mono ?_
  rintro e w2 ⟨rfl, hb⟩
  rw [show k + 1 - 1 = k by omega]
  have HF : Hid (SeAt w2 p c n (k + 1) t r ∧ Turns (fun i => i = p) w1 w2) := ⟨HS.out.below hb, HT.out.trans (Turns.of_below (F := fun i => i = p) hb (Nat.le_refl _)) (fun i hi => .inl hi)⟩
  clear hb
  go_wp2
  go_ret
  exact ⟨rfl, HF.out⟩
theorem targetR_nil (w : World) : Calls Tryd.prog 20 #[.pointer none] w fun e w' => e = .returned (.int .i64 0) ∧ w' = w := by
  have HC := hid (closedR_nil w)
  go_enter Tryd.func20, Tryd.ntmps20
  go_wp2_with fail
  refine HC.out.mono ?_
  rintro e w' ⟨rfl, rfl⟩
  go_wp2
  go_ret
  exact ⟨rfl, rfl⟩
theorem triesR_nil (w : World) : Calls Tryd.prog 21 #[.pointer none] w fun e w' => e = .returned (.int .i64 0) ∧ w' = w := by
  have HC := hid (closedR_nil w)
  go_enter Tryd.func21, Tryd.ntmps21
  go_wp2_with fail
  refine HC.out.mono ?_
  rintro e w' ⟨rfl, rfl⟩
  go_wp2
  go_ret
  exact ⟨rfl, rfl⟩
theorem lastR_nil (w : World) : Calls Tryd.prog 19 #[.pointer none] w fun e w' => e = .returned (.string ⟨#[]⟩) ∧ w' = w := by
  have HC := hid (closedR_nil w)
  go_enter Tryd.func19, Tryd.ntmps19
  go_wp2_with fail
  refine HC.out.mono ?_
  rintro e w' ⟨rfl, rfl⟩
  go_wp2
  go_ret
  exact ⟨rfl, rfl⟩
theorem tokenR_nil (w : World) : Calls Tryd.prog 16 #[.pointer none] w fun e w' => e = .returned (.string ⟨#[]⟩) ∧ w' = w := by
  have HC := hid (closedR_nil w)
  go_enter Tryd.func16, Tryd.ntmps16
  go_wp2_with fail
  refine HC.out.mono ?_
  rintro e w' ⟨rfl, rfl⟩
  go_wp2
  go_ret
  exact ⟨rfl, rfl⟩
theorem doneR_nil (w : World) : Calls Tryd.prog 18 #[.pointer none] w fun e w' => e = .returned (.tuple #[]) ∧ w' = w := by
  have HC := hid (closedR_nil w)
  go_enter Tryd.func18, Tryd.ntmps18
  go_wp2_with fail
  refine HC.out.mono ?_
  rintro e w' ⟨rfl, rfl⟩
  go_wp2
  refine bodyPost_ret (results_none rfl _ _ _) rfl ?_
  exact ⟨rfl, rfl⟩
theorem failR_nil (w : World) : Calls Tryd.prog 17 #[.pointer none] w fun e w' => e = .returned (.tuple #[]) ∧ w' = w := by
  have HC := hid (closedR_nil w)
  go_enter Tryd.func17, Tryd.ntmps17
  go_wp2_with fail
  refine HC.out.mono ?_
  rintro e w' ⟨rfl, rfl⟩
  go_wp2
  refine bodyPost_ret (results_none rfl _ _ _) rfl ?_
  exact ⟨rfl, rfl⟩
end Go.Proofs.YtppllbdoihfcbaaDoor
