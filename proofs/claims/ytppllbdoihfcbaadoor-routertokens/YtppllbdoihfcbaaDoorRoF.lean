/-
  A session made behind a first world ('SR'); pannierlaw23.lives is true of this program; a nil session.
-/
import Derived.Test.YtppllbdoihfcbaaDoorRoE
namespace Go.Proofs.YtppllbdoihfcbaaDoor
open Go.RowKit Go.Maps

/-- A session made behind w. -/
structure SR (w wr : World) (p : Nat) (c n k t r : Int) : Prop where
  se : SeAt wr p c n k t r
  tb : TbR wr
  bel : Below w.heap.size w wr
  hp : w.heap.size ≤ p
  old : TbR w
section
variable {w wr wr' : World} {p : Nat} {c n k t r : Int}
theorem SR.grow (H : SR w wr p c n k t r) (hb : Below wr.heap.size wr wr') : SR w wr' p c n k t r :=
  ⟨H.se.below hb, H.tb.below hb, H.bel.trans (hb.mono H.bel.size), H.hp, H.old⟩
theorem SR.apart (H : SR w wr p c n k t r) : ∀ g, Tryd.prog.globalNamed "internal/strconv.uint64pow10" = some g → ¬ g = p := fun g hg e => by
  have h1 := H.old.old g hg
  have h2 := H.hp
  omega
theorem SR.turn {k' t' r' : Int} (H : SR w wr p c n k t r) (h : SeAt wr' p c n k' t' r') (ht : Turns (fun i => i = p) wr wr') : SR w wr' p c n k' t' r' :=
  ⟨h, H.tb.turned ht (fun g hg => H.apart g hg), H.bel.trans (ht.below (fun i hi => by have := H.hp; omega) H.bel.size), H.hp, H.old⟩
theorem SR.token (H : SR w wr p c n k t r) (hk : k < 4611686018427387904) : Calls Tryd.prog 16 #[.pointer (some ⟨p, 0, none⟩)] wr fun e w' => e = .returned (.string (tokR c k)) ∧ SR w w' p c n (k + 1) t r ∧ Turns (fun i => i = p) wr w' :=
  (H.se.token hk H.tb H.apart).mono fun _ _ ⟨he, h1, h2⟩ => ⟨he, H.turn h1 h2, h2⟩
theorem SR.fail (H : SR w wr p c n k t r) (hr : r < 4611686018427387904) : Calls Tryd.prog 17 #[.pointer (some ⟨p, 0, none⟩)] wr fun e w' => e = .returned (.tuple #[]) ∧ SR w w' p c n k ((t + 1) % n) (r + 1) ∧ Turns (fun i => i = p) wr w' :=
  (H.se.fail hr).mono fun _ _ ⟨he, h1, h2⟩ => ⟨he, H.turn h1 h2, h2⟩
theorem SR.done (H : SR w wr p c n k t r) : Calls Tryd.prog 18 #[.pointer (some ⟨p, 0, none⟩)] wr fun e w' => e = .returned (.tuple #[]) ∧ SR w w' p c n k t 0 ∧ Turns (fun i => i = p) wr w' :=
  H.se.done.mono fun _ _ ⟨he, h1, h2⟩ => ⟨he, H.turn h1 h2, h2⟩
theorem SR.last (H : SR w wr p c n k t r) (hk : 0 < k) : Calls Tryd.prog 19 #[.pointer (some ⟨p, 0, none⟩)] wr fun e w' => e = .returned (.string (tokR c (k - 1))) ∧ SR w w' p c n k t r ∧ Below wr.heap.size wr w' :=
  (H.se.last hk H.tb).mono fun _ _ ⟨he, h1⟩ => ⟨he, H.grow h1, h1⟩
theorem SR.new (w : World) (ht : TbR w) (hb : Below wr.heap.size wr wr') (hw : Below w.heap.size w wr) (h : SeAt wr' wr.heap.size c n k t r) : SR w wr' wr.heap.size c n k t r :=
  ⟨h, (ht.below hw).below hb, hw.trans (hb.mono hw.size), hw.size, ht⟩
end
theorem digS_small {i : Nat} (h : i < 10) : digS (i : Int) = ⟨#[UInt8.ofNat (48 + i)]⟩ := by
  unfold digS Lib.itoa
  rw [if_neg (by omega), Int.toNat_natCast, Lib.decDigits_one h]
theorem tok_70 : tokR 7 0 = ⟨#[99, 55, 45, 48]⟩ := by
  unfold tokR
  rw [show (7 : Int) = ((7 : Nat) : Int) from rfl, show (0 : Int) = ((0 : Nat) : Int) from rfl, digS_small (by decide), digS_small (by decide)]
  decide +kernel
theorem tok_71 : tokR 7 1 = ⟨#[99, 55, 45, 49]⟩ := by
  unfold tokR
  rw [show (7 : Int) = ((7 : Nat) : Int) from rfl, show (1 : Int) = ((1 : Nat) : Int) from rfl, digS_small (by decide), digS_small (by decide)]
  decide +kernel
theorem shard_a4 : shardR ⟨#[97]⟩ 4 = 0 := by decide +kernel
theorem okC_yes : errR (okCall ⟨0, 2, ⟨#[99]⟩, ⟨#[]⟩, 0, false, ⟨#[]⟩⟩) = 0 := by decide +kernel
theorem okC_no : errR (okCall ⟨0, 5, ⟨#[99]⟩, ⟨#[]⟩, 0, false, ⟨#[]⟩⟩) = 230 := by decide +kernel
theorem okC_ok (k : Int) (hk : I6R k) : Cl.Ok ⟨0, k, ⟨#[99]⟩, ⟨#[]⟩, 0, false, ⟨#[]⟩⟩ := ⟨hk, show I6R 0 from by unfold I6R; decide, show (ByteArray.mk #[99]).size ≤ maxLen from by decide, show (ByteArray.mk #[]).size ≤ maxLen from by decide, show (ByteArray.mk #[]).size ≤ maxLen from by decide⟩

set_option maxRecDepth 100000 in
set_option maxHeartbeats 1000000 in
theorem livesR (w : World) (hT : TbR w) : Calls Tryd.prog 10 #[] w fun e w' => e = .returned (.bool true) ∧ Below w.heap.size w w' := by
  have HT := hid hT
  clear hT
  go_enter Tryd.func10, Tryd.ntmps10
  go_wp2_with fail
  refine (newR_good w 7 3 (by decide)).mono ?_
  rintro e w1 ⟨rfl, hse, hb1⟩
  rw [show (7 : Int) % 3 = 1 from rfl] at hse
  have H1 : Hid (SR w w1 w.heap.size 7 3 0 1 0) := SR.new w HT.out hb1 (Below.refl _ _) hse
  clear hse hb1
  obtain ⟨p, HP⟩ : ∃ p, Hid (w.heap.size = p) := ⟨_, hid rfl⟩
  rw [HP.out] at H1 ⊢
  go_wp2_with fail
  refine (H1.out.token (by decide)).mono ?_
  rintro e w2 ⟨rfl, h2, _⟩
  rw [tok_70]
  have H2 := hid h2
  clear h2 H1
  go_wp2_with fail
  refine (H2.out.token (by decide)).mono ?_
  rintro e w3 ⟨rfl, h3, _⟩
  rw [show (0 : Int) + 1 = 1 from rfl, tok_71]
  have H3 := hid h3
  clear h3 H2
  go_wp2_with fail
  refine (H3.out.last (by decide)).mono ?_
  rintro e w4 ⟨rfl, h4, _⟩
  rw [show (0 : Int) + 1 + 1 - 1 = 1 from rfl, tok_71]
  have H4 := hid h4
  clear h4 H3
  go_wp2_with fail
  refine H4.out.se.target.mono ?_
  rintro e w' ⟨rfl, rfl⟩
  go_wp2_with fail
  refine (shard_any ⟨#[97]⟩ 4 _ (by decide) (by decide)).mono ?_
  rintro e w' ⟨rfl, rfl⟩
  rw [shard_a4]
  go_wp2_with fail
  refine (checkR_any ⟨0, 2, ⟨#[99]⟩, ⟨#[]⟩, 0, false, ⟨#[]⟩⟩ (okC_ok 2 (by unfold I6R; decide)) _).mono ?_
  rintro e w5 ⟨rfl, hb5⟩
  rw [okC_yes]
  have H5 := hid (H4.out.grow hb5)
  clear hb5 H4
  go_wp2_with fail
  refine (checkR_any ⟨0, 5, ⟨#[99]⟩, ⟨#[]⟩, 0, false, ⟨#[]⟩⟩ (okC_ok 5 (by unfold I6R; decide)) _).mono ?_
  rintro e w6 ⟨rfl, hb6⟩
  rw [okC_no]
  have H6 := hid (H5.out.grow hb6).bel
  clear hb6 H5
  go_wp2
  go_ret
  exact ⟨rfl, H6.out⟩

set_option maxRecDepth 100000 in
theorem routerNobody_walk (a : Int) (w : World) (hT : TbR w) (_ : -9223372036854775808 ≤ a ∧ a ≤ 9223372036854775807) : Calls Tryd.prog 7 #[.int .i64 a] w fun e w' => e = .returned (.bool true) ∧ Below w.heap.size w w' := by
  have HT := hid hT
  clear hT
  go_enter Tryd.func7, Tryd.ntmps7
  go_wp2_with fail
  refine (failR_nil _).mono ?_
  rintro e w' ⟨rfl, rfl⟩
  go_wp2_with fail
  refine (doneR_nil _).mono ?_
  rintro e w' ⟨rfl, rfl⟩
  go_wp2_with fail
  refine (livesR _ HT.out).mono ?_
  rintro e w2 ⟨rfl, hb2⟩
  have HB := hid hb2
  clear hb2
  go_wp2_with fail
  refine (tokenR_nil _).mono ?_
  rintro e w' ⟨rfl, rfl⟩
  go_wp2_with fail
  refine (lastR_nil _).mono ?_
  rintro e w' ⟨rfl, rfl⟩
  go_wp2_with fail
  refine (targetR_nil _).mono ?_
  rintro e w' ⟨rfl, rfl⟩
  go_wp2_with fail
  refine (triesR_nil _).mono ?_
  rintro e w' ⟨rfl, rfl⟩
  go_wp2
  go_ret
  exact ⟨rfl, HB.out⟩
end Go.Proofs.YtppllbdoihfcbaaDoor
