/-
  A lease and a hold side by side ('LH'); pannierlaw21.lives is true of this program.
-/
import Derived.Test.YtmceffndnofgfaaLeC
namespace Go.Proofs.Ytmceffndnofgfaa
open Go.RowKit Go.Maps

/-- A lease and a hold, both made behind w. -/
structure LH (w wr : World) (p g c h : Nat) (asks : List Int) (T l r n u : Int) : Prop where
  ls : LsAt wr p g c asks T
  hd : HdAt wr h l r n u
  bel : Below w.heap.size w wr
  hp : w.heap.size ≤ p ∧ w.heap.size ≤ g ∧ w.heap.size ≤ h
  apart : h ≠ p ∧ h ≠ g
section
variable {w wr wr' : World} {p g c h : Nat} {asks : List Int} {T l r n u : Int}
theorem LH.grow (H : LH w wr p g c h asks T l r n u) (hb : Below wr.heap.size wr wr') : LH w wr' p g c h asks T l r n u :=
  ⟨H.ls.below hb (Nat.le_refl _), H.hd.below hb (Nat.le_refl _), H.bel.trans (hb.mono H.bel.size), H.hp, H.apart⟩
theorem LH.drewN (H : LH w wr p g c h asks T l r n u) (q : Nat) : LH w (wr.drewN q) p g c h asks T l r n u := H.grow (below_dn (Below.refl _ _) q)
theorem LH.lsTurn {asks' : List Int} (H : LH w wr p g c h asks T l r n u) (h' : LsAt wr' p g c asks' T) (ht : Turns (CFoot p g) wr wr') : LH w wr' p g c h asks' T l r n u :=
  ⟨h', H.hd.turned ht (fun hf => by have := H.apart; rcases hf with e | e <;> omega), H.bel.trans (ht.below (fun i hi => by have := H.hp; rcases hi with e | e <;> omega) H.bel.size), H.hp, H.apart⟩
theorem LH.hdTurn {r' n' u' : Int} (H : LH w wr p g c h asks T l r n u) (h' : HdAt wr' h l r' n' u') (ht : Turns (fun i => i = h) wr wr') : LH w wr' p g c h asks T l r' n' u' :=
  ⟨H.ls.turned ht (fun i hi e => by have := H.apart; rcases hi with e1 | e1 <;> omega), h', H.bel.trans (ht.below (fun i hi => by have := H.hp; omega) H.bel.size), H.hp, H.apart⟩
theorem LH.grant (H : LH w wr p g c h asks T l r n u) (node asked : Int) : Calls Try.prog 12 #[.pointer (some ⟨p, 0, none⟩), .int .i64 node, .int .i64 asked] wr fun e w' => e = .returned (.tuple #[]) ∧ LH w w' p g c h (grantL asks node asked) T l r n u :=
  (grantLe_any H.ls node asked).mono fun _ _ ⟨he, h1, h2⟩ => ⟨he, H.lsTurn h1 h2⟩
theorem LH.clear (H : LH w wr p g c h asks T l r n u) : Calls Try.prog 16 #[.pointer (some ⟨p, 0, none⟩)] wr fun e w' => e = .returned (.tuple #[]) ∧ LH w w' p g c h (List.replicate asks.length (-1)) T l r n u :=
  (clearLe_any H.ls).mono fun _ _ ⟨he, h1, h2⟩ => ⟨he, H.lsTurn h1 h2⟩
theorem LH.gives (H : LH w wr p g c h asks T l r n u) (b1 b2 now : Int) (hg : Gives (r, n) (b1, b2) u now) : Calls Try.prog 17 #[.pointer (some ⟨h, 0, none⟩), .agg #[.int .i64 b1, .int .i64 b2], .int .i64 now] wr fun e w' => e = .returned (.bool true) ∧ LH w w' p g c h asks T l b1 b2 (max u (now + l)) ∧ Turns (fun i => i = h) wr w' :=
  (GiveHd_yes H.hd b1 b2 now hg).mono fun _ _ ⟨he, h1, h2⟩ => ⟨he, H.hdTurn h1 h2, h2⟩
theorem LH.gives_no (H : LH w wr p g c h asks T l r n u) (b1 b2 now : Int) (hg : ¬ Gives (r, n) (b1, b2) u now) : Calls Try.prog 17 #[.pointer (some ⟨h, 0, none⟩), .agg #[.int .i64 b1, .int .i64 b2], .int .i64 now] wr fun e w' => e = .returned (.bool false) ∧ LH w w' p g c h asks T l r n u :=
  (GiveHd_no H.hd b1 b2 now hg).mono fun _ _ ⟨he, h1⟩ => ⟨he, H.grow h1⟩
theorem LH.blocks (H : LH w wr p g c h asks T l r n u) (b1 b2 now : Int) : Calls Try.prog 19 #[.pointer (some ⟨h, 0, none⟩), .agg #[.int .i64 b1, .int .i64 b2], .int .i64 now] wr fun e w' => e = .returned (.bool (decide (Blocked (r, n) (b1, b2) u now))) ∧ LH w w' p g c h asks T l r n u ∧ Below wr.heap.size wr w' :=
  (blocksHd_any H.hd b1 b2 now).mono fun _ _ ⟨he, h1⟩ => ⟨he, H.grow h1, h1⟩
end

theorem cnt_lives0 : decide (quoLe 3 ≤ cntLe 5 1000 [0, -1, -1]) = false := by decide
theorem cnt_lives1 : decide (quoLe 3 ≤ cntLe 999 1000 [0, -1, 0]) = true := by decide
theorem cnt_lives2 : decide (quoLe 3 ≤ cntLe 1000 1000 [0, -1, 0]) = false := by decide
theorem trust_lives21 : trustOf 1000 0 = 1000 := by decide
theorem grant_lives0 : grantL [-1, -1, -1] 0 0 = [0, -1, -1] := by decide
theorem grant_lives1 : grantL [0, -1, -1] 2 0 = [0, -1, 0] := by decide

set_option maxRecDepth 100000 in
set_option maxHeartbeats 1000000 in
theorem livesLe (w : World) : Calls Try.prog 11 #[] w fun e w' => e = .returned (.bool true) ∧ Below w.heap.size w w' := by
  go_enter Try.func11, Try.ntmps11
  go_wp2_with fail
  refine (newLe_good w 3 1000 0 (by decide) (by decide) (by decide)).mono ?_
  rintro e w1 ⟨p, rfl, g, hp, hg, hls, hb1⟩
  rw [trust_lives21] at hls
  have HLS := hid hls
  have HB1 := hid hb1
  have HP := hid hp
  have HG := hid hg
  clear hls hb1 hp hg
  go_wp2_with fail
  refine (newHd_good w1 10 (by decide)).mono ?_
  rintro e w2 ⟨rfl, hhd, hb2⟩
  have H2 : Hid (LH w w2 p g 3 w1.heap.size [-1, -1, -1] 1000 10 0 0 0) := by
    have h1 := HLS.out.lt
    have h2 := HB1.out.size
    exact ⟨HLS.out.below hb2 (Nat.le_refl _), hhd, HB1.out.trans (hb2.mono h2), ⟨HP.out, HG.out, h2⟩, by omega, by omega⟩
  clear hhd hb2 HLS HB1 HP HG
  generalize w1.heap.size = h at *
  go_wp2_with fail
  refine (H2.out.grant 0 0).mono ?_
  rintro e w3 ⟨rfl, h3⟩
  rw [grant_lives0] at h3
  have H3 := hid h3
  clear h3 H2
  go_wp2_with fail
  refine (countsLe_any H3.out.ls 5 (by decide)).mono ?_
  rintro e w' ⟨rfl, rfl⟩
  rw [show decide (quoLe ([0, -1, -1] : List Int).length ≤ cntLe 5 1000 [0, -1, -1]) = false from cnt_lives0]
  go_wp2_with fail
  refine (H3.out.grant 2 0).mono ?_
  rintro e w4 ⟨rfl, h4⟩
  rw [grant_lives1] at h4
  have H4 := hid (h4.grow (wr' := w4.alloc (.cells #[.int .i64 1, .int .i64 0] 38)) ((Below.refl _ _).alloc (Nat.le_refl _) _))
  have HK := hid (Blk.new w4 38 [.int .i64 1, .int .i64 0])
  have HHL := hid h4.hd.blk.lt
  clear h4 H3
  have k0 := HK.out.cell (i := 0) rfl
  have k1 := HK.out.cell (i := 1) rfl
  go_wp2_with fail
  refine (H4.out.gives 1 0 5 (by decide)).mono ?_
  rintro e w5 ⟨rfl, h5, ht5⟩
  rw [show max (0 : Int) (5 + 10) = 15 from by decide] at h5
  have HK5 := hid (ht5.blk HK.out (by have := HHL.out; omega))
  have H5 := hid h5
  clear h5 ht5 H4 HK HHL k0 k1
  generalize w4.heap.size = bb at *
  go_wp2_with fail
  refine (countsLe_any H5.out.ls 999 (by decide)).mono ?_
  rintro e w' ⟨rfl, rfl⟩
  rw [show decide (quoLe ([0, -1, 0] : List Int).length ≤ cntLe 999 1000 [0, -1, 0]) = true from cnt_lives1]
  go_wp2_with fail
  refine (countsLe_any H5.out.ls 1000 (by decide)).mono ?_
  rintro e w' ⟨rfl, rfl⟩
  rw [show decide (quoLe ([0, -1, 0] : List Int).length ≤ cntLe 1000 1000 [0, -1, 0]) = false from cnt_lives2]
  go_wp2_with fail
  refine (untilHd_any H5.out.hd).mono ?_
  rintro e w' ⟨rfl, rfl⟩
  go_wp2_with fail
  refine (H5.out.blocks 2 0 14).mono ?_
  rintro e w6 ⟨rfl, h6, hb6⟩
  rw [show decide (Blocked (1, 0) (2, 0) 15 14) = true from by decide]
  have HK6 := hid (HK5.out.below hb6 HK5.out.lt)
  have H6 := hid h6
  clear h6 hb6 H5 HK5
  have k0 := HK6.out.cell (i := 0) rfl
  have k1 := HK6.out.cell (i := 1) rfl
  go_wp2_with fail
  refine (H6.out.blocks 1 0 14).mono ?_
  rintro e w7 ⟨rfl, h7, hb7⟩
  rw [show decide (Blocked (1, 0) (1, 0) 15 14) = false from by decide]
  have H7 := hid h7
  clear h7 hb7 H6 HK6 k0 k1
  go_wp2_with fail
  refine (H7.out.blocks 2 0 15).mono ?_
  rintro e w8 ⟨rfl, h8, hb8⟩
  rw [show decide (Blocked (1, 0) (2, 0) 15 15) = false from by decide]
  have H8 := hid h8.bel
  clear h8 hb8 H7
  go_wp2
  go_ret
  exact ⟨rfl, H8.out⟩

set_option maxRecDepth 100000 in
theorem leaseNobody_walk (kd nd N r m : Int) (w : World) : Calls Try.prog 5 #[.agg #[.int .i64 kd, .int .i64 nd, .int .i64 N, .int .i64 r, .int .i64 m]] w fun e w' => e = .returned (.bool true) ∧ Below w.heap.size w w' := by
  obtain ⟨W, hW⟩ : ∃ W, W = w.alloc (.cells #[.int .i64 kd, .int .i64 nd, .int .i64 N, .int .i64 r, .int .i64 m] 40) := ⟨_, rfl⟩
  obtain ⟨bb, hbb⟩ : ∃ bb, bb = w.heap.size := ⟨_, rfl⟩
  have hbl : Below w.heap.size w W := by rw [hW]; exact (Below.refl _ _).alloc (Nat.le_refl _) _
  have hk : Blk W bb 40 [.int .i64 kd, .int .i64 nd, .int .i64 N, .int .i64 r, .int .i64 m] := by rw [hW, hbb]; exact Blk.new w _ _
  have c1 := hk.cell (i := 1) rfl
  have c2 := hk.cell (i := 2) rfl
  have HK := hid hk
  have HB := hid hbl
  have HW := hid hW
  have HBB := hid hbb
  clear hbl hk hW hbb
  go_enter Try.func5, Try.ntmps5
  go_wp2_with fail
  rw [← HW.out, ← HBB.out]
  go_wp2_with fail
  refine (grantLe_nil _ _ _).mono ?_
  rintro e w' ⟨rfl, rfl⟩
  go_wp2_with fail
  refine (clearLe_nil _).mono ?_
  rintro e w' ⟨rfl, rfl⟩
  go_wp2_with fail
  refine (restartHd_nil _ _).mono ?_
  rintro e w' ⟨rfl, rfl⟩
  go_wp2_with fail
  refine (livesLe _).mono ?_
  rintro e w2 ⟨rfl, hb2⟩
  have HK2 := hid (HK.out.below hb2 HK.out.lt)
  have HB2 : Hid (Below w.heap.size w w2) := HB.out.trans (hb2.mono HB.out.size)
  clear hb2 c1 c2 HK HB
  have c2 := HK2.out.cell (i := 2) rfl
  have c3 := HK2.out.cell (i := 3) rfl
  have c4 := HK2.out.cell (i := 4) rfl
  go_wp2_with fail
  refine (countsLe_nil _ _).mono ?_
  rintro e w' ⟨rfl, rfl⟩
  go_wp2_with fail
  refine (forkLe_nil _).mono ?_
  rintro e w' ⟨rfl, rfl⟩
  go_wp2_with fail
  refine (giveHd_nil _ _ _ _).mono ?_
  rintro e w3 ⟨rfl, hb3⟩
  have HK3 := hid (HK2.out.below hb3 HK2.out.lt)
  have HB3 : Hid (Below w.heap.size w w3) := HB2.out.trans (hb3.mono HB2.out.size)
  clear hb3 c2 c3 c4 HK2 HB2
  have c2 := HK3.out.cell (i := 2) rfl
  have c3 := HK3.out.cell (i := 3) rfl
  have c4 := HK3.out.cell (i := 4) rfl
  go_wp2_with fail
  refine (blocksHd_nil _ _ _ _).mono ?_
  rintro e w4 ⟨rfl, hb4⟩
  have HB4 : Hid (Below w.heap.size w w4) := HB3.out.trans (hb4.mono HB3.out.size)
  clear hb4 c2 c3 c4 HK3 HB3
  go_wp2_with fail
  refine (untilHd_nil _).mono ?_
  rintro e w' ⟨rfl, rfl⟩
  go_wp2_with fail
  refine (forkHd_nil _).mono ?_
  rintro e w' ⟨rfl, rfl⟩
  go_wp2
  go_ret
  exact ⟨rfl, HB4.out⟩
end Go.Proofs.Ytmceffndnofgfaa
