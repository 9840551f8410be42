/-
  Steps of both sides beside the box of the call ('DB').
-/
import Derived.Test.YtmceffndnofgfaaLeG
import Derived.Test.YtmceffndnofgfaaLeOpen
namespace Go.Proofs.Ytmceffndnofgfaa
open Go.RowKit Go.Maps

def DB (w wr : World) (p g c h x y ob : Nat) (o : OpV) (asks asks2 : List Int) (T l : Int) (s s2 : Int × Int × Int) : Prop :=
  DS w wr p g c h x y asks asks2 T l s.1 s.2.1 s.2.2 s2.1 s2.2.1 s2.2.2 ∧ Blk wr ob 40 o.cells
/-- What a give makes of a hold. -/
def gvT (l : Int) (b : Int × Int) (now : Int) (s : Int × Int × Int) : Int × Int × Int := if Gives (s.1, s.2.1) b s.2.2 now then (b.1, b.2, max s.2.2 (now + l)) else s
def rsT (l now : Int) (s : Int × Int × Int) : Int × Int × Int := if 0 ≤ now ∧ now ≤ 1152921504606846976 then (0, 0, max s.2.2 (now + l)) else s
section
variable {w wr wr' : World} {p g c h x y ob : Nat} {o : OpV} {asks asks2 : List Int} {T l : Int} {s s2 : Int × Int × Int}
theorem DB.ne (H : DB w wr p g c h x y ob o asks asks2 T l s s2) : ob ≠ p ∧ ob ≠ g ∧ ob ≠ h ∧ ob ≠ x ∧ ob ≠ y := by
  obtain ⟨rest, hg⟩ := H.1.ls.row
  exact ⟨blk_neL H.2 H.1.ls.blk (by decide), blk_neL H.2 hg (by decide), blk_neL H.2 H.1.hd.blk (by decide), blk_neL H.2 H.1.rl.blk (by decide), blk_neL H.2 H.1.rh.blk (by decide)⟩
theorem DB.grow (H : DB w wr p g c h x y ob o asks asks2 T l s s2) (hb : Below wr.heap.size wr wr') : DB w wr' p g c h x y ob o asks asks2 T l s s2 := ⟨H.1.grow hb, H.2.below hb H.2.lt⟩
theorem DB.drewN (H : DB w wr p g c h x y ob o asks asks2 T l s s2) (q : Nat) : DB w (wr.drewN q) p g c h x y ob o asks asks2 T l s s2 := H.grow (below_dn (Below.refl _ _) q)
theorem DB.turnLs {asks' : List Int} (H : DB w wr p g c h x y ob o asks asks2 T l s s2) (h' : LsAt wr' p g c asks' T) (ht : Turns (CFoot p g) wr wr') : DB w wr' p g c h x y ob o asks' asks2 T l s s2 :=
  ⟨H.1.turnLs h' ht, ht.blk H.2 (fun hf => by have := H.ne; rcases hf with e | e <;> omega)⟩
theorem DB.turnHd {s' : Int × Int × Int} (H : DB w wr p g c h x y ob o asks asks2 T l s s2) (h' : HdAt wr' h l s'.1 s'.2.1 s'.2.2) (ht : Turns (fun i => i = h) wr wr') : DB w wr' p g c h x y ob o asks asks2 T l s' s2 :=
  ⟨H.1.turnHd h' ht, ht.blk H.2 (fun hf => by have := H.ne; omega)⟩
theorem DB.turnRl {asks' : List Int} (H : DB w wr p g c h x y ob o asks asks2 T l s s2) (h' : RlAt wr' x asks' T) (ht : Turns (fun i => i = x) wr wr') : DB w wr' p g c h x y ob o asks asks' T l s s2 :=
  ⟨H.1.turnRl h' ht, ht.blk H.2 (fun hf => by have := H.ne; omega)⟩
theorem DB.turnRh {s' : Int × Int × Int} (H : DB w wr p g c h x y ob o asks asks2 T l s s2) (h' : RhAt wr' y l s'.1 s'.2.1 s'.2.2) (ht : Turns (fun i => i = y) wr wr') : DB w wr' p g c h x y ob o asks asks2 T l s s' :=
  ⟨H.1.turnRh h' ht, ht.blk H.2 (fun hf => by have := H.ne; omega)⟩
theorem DB.grant (H : DB w wr p g c h x y ob o asks asks2 T l s s2) (node asked : Int) : Calls Try.prog 12 #[.pointer (some ⟨p, 0, none⟩), .int .i64 node, .int .i64 asked] wr fun e w' => e = .returned (.tuple #[]) ∧ DB w w' p g c h x y ob o (grantL asks node asked) asks2 T l s s2 :=
  (grantLe_any H.1.ls node asked).mono fun _ _ ⟨he, h1, h2⟩ => ⟨he, H.turnLs h1 h2⟩
theorem DB.rgrant (H : DB w wr p g c h x y ob o asks asks2 T l s s2) (node asked : Int) : Calls Try.prog 13 #[.pointer (some ⟨x, 0, none⟩), .int .i64 node, .int .i64 asked] wr fun e w' => e = .returned (.tuple #[]) ∧ DB w w' p g c h x y ob o asks (grantL asks2 node asked) T l s s2 :=
  (rgrantLe_any H.1.rl node asked).mono fun _ _ ⟨he, h1, h2⟩ => ⟨he, H.turnRl h1 h2⟩
theorem DB.clear (H : DB w wr p g c h x y ob o asks asks2 T l s s2) : Calls Try.prog 16 #[.pointer (some ⟨p, 0, none⟩)] wr fun e w' => e = .returned (.tuple #[]) ∧ DB w w' p g c h x y ob o (List.replicate asks.length (-1)) asks2 T l s s2 :=
  (clearLe_any H.1.ls).mono fun _ _ ⟨he, h1, h2⟩ => ⟨he, H.turnLs h1 h2⟩
theorem DB.counts (H : DB w wr p g c h x y ob o asks asks2 T l s s2) (now : Int) (hn : now ≤ 9223372036854775807) : Calls Try.prog 14 #[.pointer (some ⟨p, 0, none⟩), .int .i64 now] wr fun e w' => e = .returned (.bool (decide (quoLe asks.length ≤ cntLe now T asks))) ∧ DB w w' p g c h x y ob o asks asks2 T l s s2 :=
  (countsLe_any H.1.ls now hn).mono fun _ _ ⟨he, h1⟩ => ⟨he, by rw [h1]; exact H⟩
theorem DB.rcounts (H : DB w wr p g c h x y ob o asks asks2 T l s s2) (now : Int) (hn : now ≤ 9223372036854775807) : Calls Try.prog 15 #[.pointer (some ⟨x, 0, none⟩), .int .i64 now] wr fun e w' => e = .returned (.bool (decide (quoLe asks2.length ≤ cntLe now T asks2))) ∧ DB w w' p g c h x y ob o asks asks2 T l s s2 :=
  (rcountsLe_any H.1.rl now hn).mono fun _ _ ⟨he, h1⟩ => ⟨he, H.grow h1⟩
theorem DB.blocks (H : DB w wr p g c h x y ob o asks asks2 T l s s2) (b1 b2 now : Int) : Calls Try.prog 19 #[.pointer (some ⟨h, 0, none⟩), .agg #[.int .i64 b1, .int .i64 b2], .int .i64 now] wr fun e w' => e = .returned (.bool (decide (Blocked (s.1, s.2.1) (b1, b2) s.2.2 now))) ∧ DB w w' p g c h x y ob o asks asks2 T l s s2 :=
  (blocksHd_any H.1.hd b1 b2 now).mono fun _ _ ⟨he, h1⟩ => ⟨he, H.grow h1⟩
theorem DB.rblocks (H : DB w wr p g c h x y ob o asks asks2 T l s s2) (b1 b2 now : Int) : Calls Try.prog 20 #[.pointer (some ⟨y, 0, none⟩), .agg #[.int .i64 b1, .int .i64 b2], .int .i64 now] wr fun e w' => e = .returned (.bool (decide (Blocked (s2.1, s2.2.1) (b1, b2) s2.2.2 now))) ∧ DB w w' p g c h x y ob o asks asks2 T l s s2 :=
  (rblocksHd H.1.rh b1 b2 now).mono fun _ _ ⟨he, h1⟩ => ⟨he, H.grow h1⟩
theorem DB.give (H : DB w wr p g c h x y ob o asks asks2 T l s s2) (b1 b2 now : Int) : Calls Try.prog 17 #[.pointer (some ⟨h, 0, none⟩), .agg #[.int .i64 b1, .int .i64 b2], .int .i64 now] wr fun e w' => e = .returned (.bool (decide (Gives (s.1, s.2.1) (b1, b2) s.2.2 now))) ∧ DB w w' p g c h x y ob o asks asks2 T l (gvT l (b1, b2) now s) s2 := by
  unfold gvT
  by_cases hg : Gives (s.1, s.2.1) (b1, b2) s.2.2 now
  · rw [decide_eq_true hg, if_pos hg]
    exact (GiveHd_yes H.1.hd b1 b2 now hg).mono fun _ _ ⟨he, h1, h2⟩ => ⟨he, H.turnHd (s' := (b1, b2, max s.2.2 (now + l))) h1 h2⟩
  · rw [decide_eq_false hg, if_neg hg]
    exact (GiveHd_no H.1.hd b1 b2 now hg).mono fun _ _ ⟨he, h1⟩ => ⟨he, H.grow h1⟩
theorem DB.rgive (H : DB w wr p g c h x y ob o asks asks2 T l s s2) (b1 b2 now : Int) : Calls Try.prog 18 #[.pointer (some ⟨y, 0, none⟩), .agg #[.int .i64 b1, .int .i64 b2], .int .i64 now] wr fun e w' => e = .returned (.bool (decide (Gives (s2.1, s2.2.1) (b1, b2) s2.2.2 now))) ∧ DB w w' p g c h x y ob o asks asks2 T l s (gvT l (b1, b2) now s2) := by
  unfold gvT
  by_cases hg : Gives (s2.1, s2.2.1) (b1, b2) s2.2.2 now
  · rw [decide_eq_true hg, if_pos hg]
    exact (rgives_yes H.1.rh b1 b2 now hg).mono fun _ _ ⟨he, h1, h2⟩ => ⟨he, H.turnRh (s' := (b1, b2, max s2.2.2 (now + l))) h1 h2⟩
  · rw [decide_eq_false hg, if_neg hg]
    exact (rgives_no H.1.rh b1 b2 now hg).mono fun _ _ ⟨he, h1⟩ => ⟨he, H.grow h1⟩
theorem DB.restart (H : DB w wr p g c h x y ob o asks asks2 T l s s2) (now : Int) : Calls Try.prog 21 #[.pointer (some ⟨h, 0, none⟩), .int .i64 now] wr fun e w' => e = .returned (.tuple #[]) ∧ DB w w' p g c h x y ob o asks asks2 T l (rsT l now s) s2 ∧ Turns (fun i => i = h) wr w' := by
  unfold rsT
  by_cases hg : 0 ≤ now ∧ now ≤ 1152921504606846976
  · rw [if_pos hg]
    exact (restartHd_yes H.1.hd now hg).mono fun _ _ ⟨he, h1, h2⟩ => ⟨he, H.turnHd (s' := (0, 0, max s.2.2 (now + l))) h1 h2, h2⟩
  · rw [if_neg hg]
    exact (restartHd_no H.1.hd now hg).mono fun _ _ ⟨he, h1⟩ => ⟨he, by rw [h1]; exact ⟨H, Turns.refl _ _⟩⟩
theorem DB.rrestart (H : DB w wr p g c h x y ob o asks asks2 T l s s2) (now : Int) : Calls Try.prog 22 #[.pointer (some ⟨y, 0, none⟩), .int .i64 now] wr fun e w' => e = .returned (.tuple #[]) ∧ DB w w' p g c h x y ob o asks asks2 T l s (rsT l now s2) := by
  unfold rsT
  by_cases hg : 0 ≤ now ∧ now ≤ 1152921504606846976
  · rw [if_pos hg]
    exact (rrestart_yes H.1.rh now hg).mono fun _ _ ⟨he, h1, h2⟩ => ⟨he, H.turnRh (s' := (0, 0, max s2.2.2 (now + l))) h1 h2⟩
  · rw [if_neg hg]
    exact (rrestart_no now hg).mono fun _ _ ⟨he, h1⟩ => ⟨he, by rw [h1]; exact H⟩
/-- The forks beside what they were made of. -/
structure DF (w wr : World) (p g c h x y ob : Nat) (o : OpV) (asks asks2 : List Int) (T l : Int) (s s2 : Int × Int × Int) (p' g' c' h' : Nat) (asks' : List Int) (s' : Int × Int × Int) : Prop where
  db : DB w wr p g c h x y ob o asks asks2 T l s s2
  ls : LsAt wr p' g' c' asks' T
  hd : HdAt wr h' l s'.1 s'.2.1 s'.2.2
  hp : w.heap.size ≤ p' ∧ w.heap.size ≤ g' ∧ w.heap.size ≤ h'
  ne : p' ≠ p ∧ p' ≠ g ∧ g' ≠ p ∧ g' ≠ g ∧ h' ≠ h ∧ h' ≠ p ∧ h' ≠ g ∧ p' ≠ h ∧ g' ≠ h
section
variable {p' g' c' h' : Nat} {asks' : List Int} {s' : Int × Int × Int}
theorem DF.clear (H : DF w wr p g c h x y ob o asks asks2 T l s s2 p' g' c' h' asks' s') : Calls Try.prog 16 #[.pointer (some ⟨p, 0, none⟩)] wr fun e w' => e = .returned (.tuple #[]) ∧ DF w w' p g c h x y ob o (List.replicate asks.length (-1)) asks2 T l s s2 p' g' c' h' asks' s' :=
  (clearLe_any H.db.1.ls).mono fun _ _ ⟨he, h1, h2⟩ => ⟨he, H.db.turnLs h1 h2, H.ls.turned h2 (fun i hi hf => by have := H.ne; rcases hi with e | e <;> rcases hf with e2 | e2 <;> omega), H.hd.turned h2 (fun hf => by have := H.ne; rcases hf with e2 | e2 <;> omega), H.hp, H.ne⟩
theorem DF.restart (H : DF w wr p g c h x y ob o asks asks2 T l s s2 p' g' c' h' asks' s') (now : Int) : Calls Try.prog 21 #[.pointer (some ⟨h, 0, none⟩), .int .i64 now] wr fun e w' => e = .returned (.tuple #[]) ∧ DB w w' p' g' c' h' x y ob o asks' asks2 T l s' s2 :=
  (H.db.restart now).mono fun _ _ ⟨he, h1, h2⟩ => ⟨he, ⟨H.ls.turned h2 (fun i hi hf => by have := H.ne; rcases hi with e | e <;> omega), H.hd.turned h2 (fun hf => by have := H.ne; omega), h1.1.rl, h1.1.rh, h1.1.bel, ⟨H.hp.1, H.hp.2.1⟩, H.hp.2.2, h1.1.hp.2.2⟩, h1.2⟩
theorem DB.forks (H : DB w wr p g c h x y ob o asks asks2 T l s s2) : Calls Try.prog 23 #[.pointer (some ⟨p, 0, none⟩)] wr fun e w' => ∃ p' g' c', e = .returned (.pointer (some ⟨p', 0, none⟩)) ∧ Calls Try.prog 24 #[.pointer (some ⟨h, 0, none⟩)] w' fun e2 w'' => ∃ h', e2 = .returned (.pointer (some ⟨h', 0, none⟩)) ∧ DF w w'' p g c h x y ob o asks asks2 T l s s2 p' g' c' h' asks s := by
  refine (forkLe_any H.1.ls).mono ?_
  rintro e w1 ⟨p', g', c', he, h1, ⟨a1, a2⟩, hb1⟩
  refine ⟨p', g', c', he, ?_⟩
  have H1 := H.grow hb1
  refine (forkHd_any H1.1.hd).mono ?_
  rintro e2 w2 ⟨he2, h2, hb2⟩
  refine ⟨_, he2, H1.grow hb2, h1.below hb2 (Nat.le_refl _), h2, ?_, ?_⟩
  · have b1 := H.1.bel.size
    have b2 := hb1.size
    omega
  · have l1 := H.1.ls.lt
    have l2 := H.1.hd.blk.lt
    have l3 := hb1.size
    omega
end
theorem DB.zero (H : DB w wr p g c h x y ob o asks asks2 T l s s2) : DB w ((((((((((((((wr.setCell ⟨x, 2, none⟩ (.bool false)).setCell ⟨x, 3, none⟩ (.int .i64 0)).setCell ⟨x, 4, none⟩ (.bool false)).setCell ⟨x, 5, none⟩ (.int .i64 0)).setCell ⟨x, 6, none⟩ (.bool false)).setCell ⟨x, 7, none⟩ (.int .i64 0)).setCell ⟨x, 8, none⟩ (.bool false)).setCell ⟨x, 9, none⟩ (.int .i64 0)).setCell ⟨x, 10, none⟩ (.bool false)).setCell ⟨x, 11, none⟩ (.int .i64 0)).setCell ⟨x, 12, none⟩ (.bool false)).setCell ⟨x, 13, none⟩ (.int .i64 0)).setCell ⟨x, 14, none⟩ (.bool false)).setCell ⟨x, 15, none⟩ (.int .i64 0)) p g c h x y ob o asks (List.replicate asks2.length (-1)) T l s s2 := by
  have ht : ∀ (W : World) (i : Nat) (v : Value), Turns (fun k => k = x) wr W → Turns (fun k => k = x) wr (W.setCell ⟨x, i, none⟩ v) := fun W i v hW => hW.setCell (p := ⟨x, i, none⟩) (.inl rfl) v
  refine H.turnRl (asks' := List.replicate asks2.length (-1)) ⟨?_, fun z hz => by have := List.eq_of_mem_replicate hz; omega, by simpa using H.1.rl.few⟩ ?_
  · rw [rlCells_none]
    exact (((((((((((((H.1.rl.blk.set 2 _).set 3 _).set 4 _).set 5 _).set 6 _).set 7 _).set 8 _).set 9 _).set 10 _).set 11 _).set 12 _).set 13 _).set 14 _).set 15 _
  · repeat (apply ht)
    exact Turns.refl _ _
theorem DB.until' (H : DB w wr p g c h x y ob o asks asks2 T l s s2) (q : Nat) : Calls Try.prog 25 #[.pointer (some ⟨h, 0, none⟩)] (wr.drewN q) fun e w' => e = .returned (.int .i64 s.2.2) ∧ w' = wr.drewN q := untilHd_any (H.drewN q).1.hd
end
end Go.Proofs.Ytmceffndnofgfaa
