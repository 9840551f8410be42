/-
  The document's Give; the program's lease and hold beside the document's ('DS').
-/
import Derived.Test.YtmceffndnofgfaaLeF
namespace Go.Proofs.Ytmceffndnofgfaa
open Go.RowKit Go.Maps

section
variable {w : World} {p : Nat} {l r n u : Int}
set_option maxRecDepth 100000 in
theorem rgives_no (h : RhAt w p l r n u) (b1 b2 now : Int) (hg : ¬ Gives (r, n) (b1, b2) u now) : Calls Try.prog 18 #[.pointer (some ⟨p, 0, none⟩), .agg #[.int .i64 b1, .int .i64 b2], .int .i64 now] w fun e w' => e = .returned (.bool false) ∧ Below w.heap.size w w' := by
  obtain ⟨W, hW⟩ : ∃ W, W = w.alloc (.cells #[.int .i64 b1, .int .i64 b2] 38) := ⟨_, rfl⟩
  obtain ⟨bb, hbb⟩ : ∃ bb, bb = w.heap.size := ⟨_, rfl⟩
  have hbl : Below w.heap.size w W := by rw [hW]; exact (Below.refl _ _).alloc (Nat.le_refl _) _
  have hk : Blk W bb 38 [.int .i64 b1, .int .i64 b2] := by rw [hW, hbb]; exact Blk.new w _ _
  have hd := h.below hbl (Nat.le_refl _)
  have HBK := hid (rblocksHd hd b1 b2 now)
  have k0 := hk.cell (i := 0) rfl
  have k1 := hk.cell (i := 1) rfl
  have HB := hid hbl
  have HW := hid hW
  have HBB := hid hbb
  by_cases h0 : now < 0
  · clear h hbl hk hd hW hbb hg
    go_enter Try.func18, Try.ntmps18
    go_wp2
    rw [← HW.out]
    go_ret
    exact ⟨rfl, HB.out⟩
  by_cases h1 : 1152921504606846976 < now
  · clear h hbl hk hd hW hbb hg
    go_enter Try.func18, Try.ntmps18
    go_wp2
    rw [← HW.out]
    go_ret
    exact ⟨rfl, HB.out⟩
  · have hbd : Blocked (r, n) (b1, b2) u now := by
      by_cases h2 : Blocked (r, n) (b1, b2) u now
      · exact h2
      · exact absurd ⟨by omega, h2⟩ hg
    rw [decide_eq_true hbd] at HBK
    clear h hbl hk hd hW hbb hg hbd
    go_enter Try.func18, Try.ntmps18
    go_wp2_with fail
    rw [← HW.out]
    (try rw [← HBB.out])
    refine HBK.out.mono ?_
    rintro e w2 ⟨rfl, hb2⟩
    have HB2 : Hid (Below w.heap.size w w2) := HB.out.trans (hb2.mono HB.out.size)
    clear hb2
    go_wp2
    go_ret
    exact ⟨rfl, HB2.out⟩
set_option maxRecDepth 100000 in
theorem rgives_yes (h : RhAt w p l r n u) (b1 b2 now : Int) (hg : Gives (r, n) (b1, b2) u now) : Calls Try.prog 18 #[.pointer (some ⟨p, 0, none⟩), .agg #[.int .i64 b1, .int .i64 b2], .int .i64 now] w fun e w' => e = .returned (.bool true) ∧ RhAt w' p l b1 b2 (max u (now + l)) ∧ Turns (fun i => i = p) w w' := by
  obtain ⟨W, hW⟩ : ∃ W, W = w.alloc (.cells #[.int .i64 b1, .int .i64 b2] 38) := ⟨_, rfl⟩
  obtain ⟨bb, hbb⟩ : ∃ bb, bb = w.heap.size := ⟨_, rfl⟩
  have hbl : Below w.heap.size w W := by rw [hW]; exact (Below.refl _ _).alloc (Nat.le_refl _) _
  have hk : Blk W bb 38 [.int .i64 b1, .int .i64 b2] := by rw [hW, hbb]; exact Blk.new w _ _
  have hd := h.below hbl (Nat.le_refl _)
  have HD := hid hd
  have HK := hid hk
  have HBK := hid (rblocksHd hd b1 b2 now)
  have k0 := hk.cell (i := 0) rfl
  have k1 := hk.cell (i := 1) rfl
  have HB := hid hbl
  have HW := hid hW
  have HBB := hid hbb
  have h0 : ¬ now < 0 := by have := hg.1; omega
  have h1 : ¬ 1152921504606846976 < now := by have := hg.1; omega
  have hw := give_wrap hg.1 h.len
  have HM : Hid (0 ≤ max u (now + l) ∧ max u (now + l) ≤ 1152921504607895552) := by
    have h1 := h.unt
    have h2 := h.len
    exact (by omega : 0 ≤ max u (now + l) ∧ max u (now + l) ≤ 1152921504607895552)
  rw [decide_eq_false hg.2] at HBK
  clear h hbl hk hd hW hbb hg
  by_cases hu : u < now + l
  · have hdu : decide (u < now + l) = true := by simp [hu]
    go_enter Try.func18, Try.ntmps18
    go_wp2_with fail
    rw [← HW.out]
    (try rw [← HBB.out])
    refine HBK.out.mono ?_
    rintro e w2 ⟨rfl, hb2⟩
    have hd2 := HD.out.below hb2 (Nat.le_refl _)
    have H2 := hid hd2
    have c0 := hd2.blk.cell (i := 0) rfl
    have c1 := hd2.blk.cell (i := 1) rfl
    have c2 := hd2.blk.cell (i := 2) rfl
    have c3 := hd2.blk.cell (i := 3) rfl
    have f1 := hd2.blk.frozen 1
    have f2 := hd2.blk.frozen 2
    have f3 := hd2.blk.frozen 3
    have m0 := (HK.out.below hb2 HK.out.lt).cell (i := 0) rfl
    have m1 := (HK.out.below hb2 HK.out.lt).cell (i := 1) rfl
    have HB2 : Hid (Below w.heap.size w w2) := HB.out.trans (hb2.mono HB.out.size)
    clear hb2 hd2 HW HBB k0 k1 HK HD HB
    go_wp2
    go_quiet (fail)
    go_wp2
    go_ret
    exact ⟨rfl, rgive_end H2.out HB2.out HM.out (by omega)⟩
  · have hdu : decide (u < now + l) = false := by simp; omega
    have hu' : u = max u (now + l) := by omega
    have HU := hid hu'
    clear hu'
    go_enter Try.func18, Try.ntmps18
    go_wp2_with fail
    rw [← HW.out]
    (try rw [← HBB.out])
    refine HBK.out.mono ?_
    rintro e w2 ⟨rfl, hb2⟩
    have hd2 := HD.out.below hb2 (Nat.le_refl _)
    have H2 := hid hd2
    have c0 := hd2.blk.cell (i := 0) rfl
    have c1 := hd2.blk.cell (i := 1) rfl
    have c2 := hd2.blk.cell (i := 2) rfl
    have c3 := hd2.blk.cell (i := 3) rfl
    have f1 := hd2.blk.frozen 1
    have f2 := hd2.blk.frozen 2
    have f3 := hd2.blk.frozen 3
    have m0 := (HK.out.below hb2 HK.out.lt).cell (i := 0) rfl
    have m1 := (HK.out.below hb2 HK.out.lt).cell (i := 1) rfl
    have HB2 : Hid (Below w.heap.size w w2) := HB.out.trans (hb2.mono HB.out.size)
    clear hb2 hd2 HW HBB k0 k1 HK HD HB
    go_wp2
    go_quiet (fail)
    go_wp2
    go_ret
    exact ⟨rfl, rgive_end2 H2.out HB2.out HU.out⟩
end

theorem blk_neL {w : World} {a b : Nat} {s t : TypeId} {cs ds : List Value} (ha : Blk w a s cs) (hb : Blk w b t ds) (hne : s ≠ t) : a ≠ b := by
  rintro rfl
  have e1 : w.heap[a]? = some (.cells cs.toArray s (0, 0)) := ha
  have e2 : w.heap[a]? = some (.cells ds.toArray t (0, 0)) := hb
  rw [e1] at e2
  simp at e2
  exact hne e2.2
/-- The program's lease (p, g) and hold (h), and the document's (x, y), all made behind w. -/
structure DS (w wr : World) (p g c h x y : Nat) (asks asks2 : List Int) (T l r n u r2 n2 u2 : Int) : Prop where
  ls : LsAt wr p g c asks T
  hd : HdAt wr h l r n u
  rl : RlAt wr x asks2 T
  rh : RhAt wr y l r2 n2 u2
  bel : Below w.heap.size w wr
  hp : (w.heap.size ≤ p ∧ w.heap.size ≤ g) ∧ w.heap.size ≤ h ∧ w.heap.size ≤ x ∧ w.heap.size ≤ y
section
variable {w wr wr' : World} {p g c h x y : Nat} {asks asks2 : List Int} {T l r n u r2 n2 u2 : Int}
theorem DS.apart (H : DS w wr p g c h x y asks asks2 T l r n u r2 n2 u2) : (h ≠ p ∧ h ≠ g) ∧ (x ≠ p ∧ x ≠ g ∧ x ≠ h) ∧ y ≠ p ∧ y ≠ g ∧ y ≠ h ∧ y ≠ x := by
  obtain ⟨rest, hg⟩ := H.ls.row
  exact ⟨⟨blk_neL H.hd.blk H.ls.blk (by decide), blk_neL H.hd.blk hg (by decide)⟩, ⟨blk_neL H.rl.blk H.ls.blk (by decide), blk_neL H.rl.blk hg (by decide), blk_neL H.rl.blk H.hd.blk (by decide)⟩, blk_neL H.rh.blk H.ls.blk (by decide), blk_neL H.rh.blk hg (by decide), blk_neL H.rh.blk H.hd.blk (by decide), blk_neL H.rh.blk H.rl.blk (by decide)⟩
theorem DS.grow (H : DS w wr p g c h x y asks asks2 T l r n u r2 n2 u2) (hb : Below wr.heap.size wr wr') : DS w wr' p g c h x y asks asks2 T l r n u r2 n2 u2 :=
  ⟨H.ls.below hb (Nat.le_refl _), H.hd.below hb (Nat.le_refl _), H.rl.below hb (Nat.le_refl _), H.rh.below hb (Nat.le_refl _), H.bel.trans (hb.mono H.bel.size), H.hp⟩
theorem DS.drewN (H : DS w wr p g c h x y asks asks2 T l r n u r2 n2 u2) (q : Nat) : DS w (wr.drewN q) p g c h x y asks asks2 T l r n u r2 n2 u2 := H.grow (below_dn (Below.refl _ _) q)
theorem DS.turnLs {asks' : List Int} (H : DS w wr p g c h x y asks asks2 T l r n u r2 n2 u2) (h' : LsAt wr' p g c asks' T) (ht : Turns (CFoot p g) wr wr') : DS w wr' p g c h x y asks' asks2 T l r n u r2 n2 u2 := by
  have ha := H.apart
  have hp := H.hp
  exact ⟨h', H.hd.turned ht (fun hf => by rcases hf with e | e <;> omega), H.rl.turned ht (fun hf => by rcases hf with e | e <;> omega), H.rh.turned ht (fun hf => by rcases hf with e | e <;> omega), H.bel.trans (ht.below (fun i hi => by rcases hi with e | e <;> omega) H.bel.size), hp⟩
theorem DS.turnHd {r' n' u' : Int} (H : DS w wr p g c h x y asks asks2 T l r n u r2 n2 u2) (h' : HdAt wr' h l r' n' u') (ht : Turns (fun i => i = h) wr wr') : DS w wr' p g c h x y asks asks2 T l r' n' u' r2 n2 u2 := by
  have ha := H.apart
  have hp := H.hp
  exact ⟨H.ls.turned ht (fun i hi e => by rcases hi with e1 | e1 <;> omega), h', H.rl.turned ht (fun e => by omega), H.rh.turned ht (fun e => by omega), H.bel.trans (ht.below (fun i hi => by omega) H.bel.size), hp⟩
theorem DS.turnRl {asks' : List Int} (H : DS w wr p g c h x y asks asks2 T l r n u r2 n2 u2) (h' : RlAt wr' x asks' T) (ht : Turns (fun i => i = x) wr wr') : DS w wr' p g c h x y asks asks' T l r n u r2 n2 u2 := by
  have ha := H.apart
  have hp := H.hp
  exact ⟨H.ls.turned ht (fun i hi e => by rcases hi with e1 | e1 <;> omega), H.hd.turned ht (fun e => by omega), h', H.rh.turned ht (fun e => by omega), H.bel.trans (ht.below (fun i hi => by omega) H.bel.size), hp⟩
theorem DS.turnRh {r' n' u' : Int} (H : DS w wr p g c h x y asks asks2 T l r n u r2 n2 u2) (h' : RhAt wr' y l r' n' u') (ht : Turns (fun i => i = y) wr wr') : DS w wr' p g c h x y asks asks2 T l r n u r' n' u' := by
  have ha := H.apart
  have hp := H.hp
  exact ⟨H.ls.turned ht (fun i hi e => by rcases hi with e1 | e1 <;> omega), H.hd.turned ht (fun e => by omega), H.rl.turned ht (fun e => by omega), h', H.bel.trans (ht.below (fun i hi => by omega) H.bel.size), hp⟩
end
end Go.Proofs.Ytmceffndnofgfaa
