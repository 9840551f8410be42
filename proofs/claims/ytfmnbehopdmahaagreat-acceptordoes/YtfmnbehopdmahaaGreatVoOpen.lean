/-
  Package acceptor: On of any message.
-/
import Derived.Test.YtfmnbehopdmahaaGreatAcJa
import Derived.Test.YtfmnbehopdmahaaGreatAcJc
import Derived.Test.YtfmnbehopdmahaaGreatAcH
import Derived.Test.YtfmnbehopdmahaaGreatAcE
import Derived.Deep.RegionHeld3
import Derived.Shelf.SlMaps.Clone
import Derived.Shelf.Lay
import Derived.Ground.SlmcProg
import Derived.Lib.SlMapFilter
import Derived.Maps.RangeWalk
import Derived.Test.YtfmnbehopdmahaaGreatScLa
import Derived.Test.YtfmnbehopdmahaaGreatCodA
import Derived.Test.YtfmnbehopdmahaaGreatRows
import Derived.Test.YtfmnbehopdmahaaGreatTexts
import Derived.Lib.SmallJoins
import Derived.Deep.SlicePairs
import Derived.ChangeSlices
import Derived.SizedLaws
namespace Go.Proofs.YtfmnbehopdmahaaGreat
open Go.RowKit Go.Maps

theorem kindA_or (a : Ac) (x : MsM) : kindA a x = 5 ∨ kindA a x = 2 ∨ kindA a x = 4 := by
  unfold kindA
  split
  · exact .inl rfl
  · split
    · exact .inr (.inl rfl)
    · split
      · exact .inl rfl
      · exact .inr (.inr rfl)
theorem AcAt.on {w : World} {p m : Nat} {a : Ac} (h : AcAt w p m a) (x : MsM) (hx : MsOk w x) (hsep : ∀ b off, x.en.ao = some ⟨b, off, none⟩ → x.en.e.cut ≠ [] → b ≠ p) : Calls Tryz.prog 9 #[.pointer (some ⟨p, 0, none⟩), x.val] w (OnP w p m a x) := by
  by_cases ht : takesA a x = true
  · rcases kindA_or a x with hk | hk | hk
    · exact h.on_5 x hx hsep ⟨ht, hk⟩
    · exact h.on_2 x hx hsep ⟨ht, hk⟩
    · exact h.on_4 x hx hsep ⟨ht, hk⟩
  · exact h.on_no x hx hsep ht
end Go.Proofs.YtfmnbehopdmahaaGreat
/-
  Acceptors behind a first world; what a message makes of promises and votes, for the laws.
-/
namespace Go.Proofs.YtfmnbehopdmahaaGreat
open Go.RowKit Go.Maps

theorem kind5_after {a : Ac} {x : MsM} (h : kindA a x = 5) : afterA a x = a := by
  unfold afterA
  rw [if_neg (by rw [h]; decide), if_neg (by rw [h]; decide)]
theorem kind5_rec {a : Ac} {x : MsM} (h : kindA a x = 5) : (if changesA a x = true then recOf x else ⟨#[]⟩) = (⟨#[]⟩ : ByteArray) := by
  have hc : changesA a x = false := by
    unfold changesA
    rw [if_neg (by rw [h]; decide), if_neg (by rw [h]; decide)]
  rw [hc]
  rfl
theorem kind_other {a : Ac} {x : MsM} (h : kindA a x ≠ 5) : ¬ 0 < cmpB a.pr x.bal := fun hc => h (by unfold kindA; rw [if_pos hc])
theorem kindNot5_after {a : Ac} {x : MsM} (h : kindA a x ≠ 5) : (afterA a x).pr = x.bal := by
  unfold afterA
  rcases kindA_or a x with k | k | k
  · exact absurd k h
  · rw [if_pos k]; rfl
  · rw [if_neg (by rw [k]; decide), if_pos k]; rfl
theorem less_kind {a : Ac} {x : MsM} (h : cmpB x.bal a.pr < 0) : kindA a x = 5 := by
  unfold kindA
  rw [if_pos (by rw [cmpB_neg]; omega)]
theorem after_le {a : Ac} {x : MsM} : ¬ cmpB (afterA a x).pr a.pr < 0 := by
  by_cases h : kindA a x = 5
  · rw [kind5_after h, cmpB_same]; omega
  · rw [kindNot5_after h, cmpB_neg]
    have := kind_other h
    omega
theorem prep_le {a : Ac} {x : MsM} (hx : x.kind = 1) : ¬ 0 < cmpB x.bal (afterA a x).pr := by
  by_cases h : kindA a x = 5
  · rw [kind5_after h]
    unfold kindA at h
    by_cases hc : 0 < cmpB a.pr x.bal
    · rw [cmpB_neg]; omega
    · rw [if_neg hc, if_pos hx] at h
      exact absurd h (by decide)
  · rw [kindNot5_after h, cmpB_same]; omega
/-- The votes that Votes answers. -/
theorem fromTo_all {a : Ac} (h : AcOk a) : fromTo a 0 a.ks.length = a.ks.map (fun t => (t, (a.f t).getD dfVt)) := by
  unfold fromTo
  rw [List.take_length, List.filter_eq_self.2 (fun t ht => decide_eq_true (h.slot t ht).1)]
theorem rises_getD {l : List Int} (h : Rises l) {k : Nat} (hk : k + 1 < l.length) : l.getD k 0 < l.getD (k + 1) 0 := by
  rw [show l.getD k 0 = l[k] by simp [List.getD, List.getElem?_eq_getElem (Nat.lt_of_succ_lt hk)], show l.getD (k + 1) 0 = l[k + 1] by simp [List.getD, List.getElem?_eq_getElem hk]]
  exact List.pairwise_iff_getElem.1 h k (k + 1) _ hk (Nat.lt_succ_self k)
theorem votes_at {a : Ac} (h : AcOk a) {ys : List VoM} (hy : ys.map VoM.sv = fromTo a 0 a.ks.length) {k : Nat} (hk : k < ys.length) : ∃ hk' : k < a.ks.length, (ys[k]'hk).slot = a.ks[k] ∧ cmpB (ys[k]'hk).bal a.pr ≤ 0 := by
  rw [fromTo_all h] at hy
  have hl : ys.length = a.ks.length := by have := congrArg List.length hy; simpa using this
  have hk' : k < a.ks.length := by omega
  have h1 : (ys.map VoM.sv)[k]? = (a.ks.map (fun t => (t, (a.f t).getD dfVt)))[k]? := by rw [hy]
  rw [List.getElem?_map, List.getElem?_map, List.getElem?_eq_getElem hk, List.getElem?_eq_getElem hk'] at h1
  have h2 := Option.some.inj h1
  have h3 : (ys[k]'hk).slot = a.ks[k] := congrArg Prod.fst h2
  have h4 : (ys[k]'hk).vt = (a.f a.ks[k]).getD dfVt := congrArg Prod.snd h2
  refine ⟨hk', h3, ?_⟩
  have hs := (h.has a.ks[k]).1 (List.getElem_mem hk')
  obtain ⟨v, hv⟩ := Option.isSome_iff_exists.1 hs
  rw [hv] at h4
  have h5 : (ys[k]'hk).bal = v.1 := congrArg Prod.fst h4
  rw [h5]
  exact (h.right _ _ hv).2.2
theorem votes_rise {a : Ac} (h : AcOk a) {ys : List VoM} (hy : ys.map VoM.sv = fromTo a 0 a.ks.length) {k : Nat} (hk : k + 1 < ys.length) : (ys[k]'(Nat.lt_of_succ_lt hk)).slot < (ys[k + 1]'hk).slot := by
  obtain ⟨h1, h2, _⟩ := votes_at h hy (Nat.lt_of_succ_lt hk)
  obtain ⟨h3, h4, _⟩ := votes_at h hy hk
  rw [h2, h4]
  exact List.pairwise_iff_getElem.1 h.rise k (k + 1) h1 h3 (Nat.lt_succ_self k)
/-- An acceptor whose blocks lie behind B. -/
structure AcIn (B : Nat) (w : World) (p m : Nat) (a : Ac) : Prop where
  at' : AcAt w p m a
  bp : B ≤ p
  bm : B ≤ m
theorem AcIn.below {B : Nat} {w w' : World} {p m : Nat} {a : Ac} (h : AcIn B w p m a) (hb : Below w.heap.size w w') : AcIn B w' p m a := ⟨h.at'.below hb, h.bp, h.bm⟩
/-- A message that lies below B. -/
def MsB (B : Nat) (x : MsM) : Prop := ∀ b off, x.en.ao = some ⟨b, off, none⟩ → x.en.e.cut ≠ [] → b < B
theorem msB_of {w : World} {x : MsM} (h : MsOk w x) : MsB w.heap.size x := by
  intro b off e hne
  rcases h.en.cut.held.2 with h0 | ⟨b', off', h1, h2, _⟩
  · exact absurd h0 hne
  · rw [e] at h1
    cases h1
    exact h2
/-- What On does, below B. -/
theorem AcIn.on {w : World} {B p m : Nat} {a : Ac} (h : AcIn B w p m a) (hB : B ≤ w.heap.size) (x : MsM) (hx : MsOk w x) (hs : MsB B x) : Calls Tryz.prog 9 #[.pointer (some ⟨p, 0, none⟩), x.val] w fun e w' =>
    (if takesA a x = true then ∃ vo vc ys, e = .returned (.tuple #[(ansM (afterA a x) x (kindA a x) vo vc ys).val, .string (if changesA a x = true then recOf x else ⟨#[]⟩), .bool true]) ∧ AcIn B w' p m (afterA a x)
      else e = .returned (.tuple #[.agg #[.int .i64 0, .int .i64 0, .int .i64 0, .int .i64 0, .int .i64 0, .int .i64 0, .bool false, .string ⟨#[]⟩, .string ⟨#[]⟩, .int .i64 0, .slice none 0 0, .slice none 0 0, .slice none 0 0, .slice none 0 0, .int .i64 0], .string ⟨#[]⟩, .bool false]) ∧ AcIn B w' p m a) ∧ Turns (FootA p m) w w' ∧ Below B w w' := by
  refine (h.at'.on x hx (fun b off e hne hp => by have h1 := hs b off e hne; have h2 := h.bp; omega)).mono ?_
  intro e w' hP
  unfold OnP at hP
  have hbl : ∀ {V : World}, Turns (FootA p m) w V → Below B w V := fun ht => ht.below (fun i hi => by
    rcases hi with rfl | rfl
    · exact h.bp
    · exact h.bm) hB
  by_cases ht : takesA a x = true
  · rw [if_pos ht] at hP
    obtain ⟨vo, vc, ys, he, _, _, _, hat, htu⟩ := hP
    rw [if_pos ht]
    exact ⟨⟨vo, vc, ys, he, ⟨hat, h.bp, h.bm⟩⟩, htu, hbl htu⟩
  · rw [if_neg ht] at hP
    obtain ⟨he, hat, hb⟩ := hP
    rw [if_neg ht]
    have htu : Turns (FootA p m) w w' := Turns.of_below hb (Nat.le_refl _)
    exact ⟨⟨he, ⟨hat, h.bp, h.bm⟩⟩, htu, hbl htu⟩
theorem AcIn.on_yes {w : World} {B p m : Nat} {a : Ac} (h : AcIn B w p m a) (hB : B ≤ w.heap.size) (x : MsM) (hx : MsOk w x) (hs : MsB B x) (ht : takesA a x = true) {b : Ac} {k r n nd : Int} {R : ByteArray} (hb : afterA a x = b) (hk : kindA a x = k) (hR : (if changesA a x = true then recOf x else ⟨#[]⟩) = R) (hp : b.pr = (r, n)) (hn : b.node = nd) : Calls Tryz.prog 9 #[.pointer (some ⟨p, 0, none⟩), x.val] w fun e w' =>
    (∃ vo vc N, e = .returned (.tuple #[.agg #[.int .i64 k, .int .i64 nd, .int .i64 x.frm, .int .i64 r, .int .i64 n, .int .i64 x.slot, .bool true, .string ⟨#[]⟩, .string ⟨#[]⟩, .int .i64 0, .slice none 0 0, .slice vo N vc, .slice none 0 0, .slice none 0 0, .int .i64 0], .string R, .bool true])) ∧ AcIn B w' p m b ∧ Turns (FootA p m) w w' ∧ Below B w w' := by
  refine (h.on hB x hx hs).mono ?_
  rintro e w' ⟨h1, h2, h3⟩
  rw [if_pos ht] at h1
  obtain ⟨vo, vc, ys, he, hat⟩ := h1
  rw [hb] at he hat
  refine ⟨⟨vo, vc, ys.length, ?_⟩, hat, h2, h3⟩
  rw [he, hk, hR]
  simp only [ansM, MsM.val, noopEn, List.length_nil]
  rw [hp, hn]
theorem AcIn.on_no {w : World} {B p m : Nat} {a : Ac} (h : AcIn B w p m a) (hB : B ≤ w.heap.size) (x : MsM) (hx : MsOk w x) (hs : MsB B x) (ht : ¬ takesA a x = true) : Calls Tryz.prog 9 #[.pointer (some ⟨p, 0, none⟩), x.val] w fun e w' =>
    e = .returned (.tuple #[.agg #[.int .i64 0, .int .i64 0, .int .i64 0, .int .i64 0, .int .i64 0, .int .i64 0, .bool false, .string ⟨#[]⟩, .string ⟨#[]⟩, .int .i64 0, .slice none 0 0, .slice none 0 0, .slice none 0 0, .slice none 0 0, .int .i64 0], .string ⟨#[]⟩, .bool false]) ∧ AcIn B w' p m a ∧ Turns (FootA p m) w w' ∧ Below B w w' := by
  refine (h.on hB x hx hs).mono ?_
  rintro e w' ⟨h1, h2, h3⟩
  rw [if_neg ht] at h1
  exact ⟨h1.1, h1.2, h2, h3⟩
/-- What is known of what On told. -/
structure OnF (a : Ac) (x : MsM) (k r n : Int) (R : ByteArray) (ok : Bool) (b : Ac) : Prop where
  is : takesA a x = ok
  yes : ok = true → k = kindA a x ∧ (r, n) = b.pr ∧ b = afterA a x ∧ R = (if changesA a x = true then recOf x else ⟨#[]⟩)
  no : ok = false → b = a ∧ R = ⟨#[]⟩
theorem AcIn.on_all {w : World} {B p m : Nat} {a : Ac} (h : AcIn B w p m a) (hB : B ≤ w.heap.size) (x : MsM) (hx : MsOk w x) (hs : MsB B x) : Calls Tryz.prog 9 #[.pointer (some ⟨p, 0, none⟩), x.val] w fun e w' =>
    ∃ k nd fr r n sl np vo N vc R ok b, e = .returned (.tuple #[.agg #[.int .i64 k, .int .i64 nd, .int .i64 fr, .int .i64 r, .int .i64 n, .int .i64 sl, .bool np, .string ⟨#[]⟩, .string ⟨#[]⟩, .int .i64 0, .slice none 0 0, .slice vo N vc, .slice none 0 0, .slice none 0 0, .int .i64 0], .string R, .bool ok]) ∧ OnF a x k r n R ok b ∧ AcIn B w' p m b ∧ Turns (FootA p m) w w' ∧ Below B w w' := by
  by_cases ht : takesA a x = true
  · refine (h.on_yes hB x hx hs ht rfl rfl rfl (r := (afterA a x).pr.1) (n := (afterA a x).pr.2) rfl rfl).mono ?_
    rintro e w' ⟨⟨vo, vc, N, he⟩, h1, h2, h3⟩
    exact ⟨_, _, _, _, _, _, _, _, _, _, _, _, _, he, ⟨ht, fun _ => ⟨rfl, rfl, rfl, rfl⟩, fun h => by cases h⟩, h1, h2, h3⟩
  · refine (h.on_no hB x hx hs ht).mono ?_
    rintro e w' ⟨he, h1, h2, h3⟩
    exact ⟨_, _, _, _, _, _, _, _, _, _, _, _, _, he, ⟨by simpa using ht, fun h => (by cases h), fun _ => ⟨rfl, rfl⟩⟩, h1, h2, h3⟩
theorem AcIn.on_any {w : World} {B p m : Nat} {a : Ac} (h : AcIn B w p m a) (hB : B ≤ w.heap.size) (x : MsM) (hx : MsOk w x) (hs : MsB B x) : Calls Tryz.prog 9 #[.pointer (some ⟨p, 0, none⟩), x.val] w fun e w' => (∃ v, e = .returned v) ∧ (∃ b, AcIn B w' p m b) ∧ Below B w w' := by
  refine (h.on_all hB x hx hs).mono ?_
  rintro e w' ⟨k, nd, fr, r, n, sl, np, vo, N, vc, R, ok, b, he, _, h1, _, h2⟩
  exact ⟨⟨_, he⟩, ⟨b, h1⟩, h2⟩
end Go.Proofs.YtfmnbehopdmahaaGreat
/-
  Three acceptors side by side ('A3').
-/
namespace Go.Proofs.YtfmnbehopdmahaaGreat
open Go.RowKit Go.Maps

structure A3 (B : Nat) (w : World) (p m q n r o : Nat) (a b c : Ac) : Prop where
  x : AcIn B w p m a
  y : AcIn B w q n b
  z : AcIn B w r o c
  d1 : ∀ i, FootA p m i → ¬ FootA q n i
  d2 : ∀ i, FootA p m i → ¬ FootA r o i
  d3 : ∀ i, FootA q n i → ¬ FootA r o i
section
variable {B : Nat} {w w' : World} {p m q n r o : Nat} {a b c a' : Ac}
theorem AcIn.other {F : Nat → Prop} (h : AcIn B w p m a) (ht : Turns F w w') (hd : ∀ i, FootA p m i → ¬ F i) (hF : NoNum w F) : AcIn B w' p m a := ⟨h.at'.turned ht hd hF, h.bp, h.bm⟩
theorem AcIn.foot (h : AcIn B w p m a) : ∀ i, FootA p m i → B ≤ i := fun i hi => by
  rcases hi with rfl | rfl
  · exact h.bp
  · exact h.bm
theorem A3.below (h : A3 B w p m q n r o a b c) (hb : Below w.heap.size w w') : A3 B w' p m q n r o a b c := ⟨h.x.below hb, h.y.below hb, h.z.below hb, h.d1, h.d2, h.d3⟩
theorem A3.turnX (h : A3 B w p m q n r o a b c) (hx : AcIn B w' p m a') (ht : Turns (FootA p m) w w') : A3 B w' p m q n r o a' b c :=
  ⟨hx, h.y.other ht (fun i hi hf => h.d1 i hf hi) h.x.at'.noNum, h.z.other ht (fun i hi hf => h.d2 i hf hi) h.x.at'.noNum, h.d1, h.d2, h.d3⟩
theorem A3.turnY (h : A3 B w p m q n r o a b c) (hx : AcIn B w' q n a') (ht : Turns (FootA q n) w w') : A3 B w' p m q n r o a a' c :=
  ⟨h.x.other ht h.d1 h.y.at'.noNum, hx, h.z.other ht (fun i hi hf => h.d3 i hf hi) h.y.at'.noNum, h.d1, h.d2, h.d3⟩
theorem A3.turnZ (h : A3 B w p m q n r o a b c) (hx : AcIn B w' r o a') (ht : Turns (FootA r o) w w') : A3 B w' p m q n r o a b a' :=
  ⟨h.x.other ht h.d2 h.z.at'.noNum, h.y.other ht h.d3 h.z.at'.noNum, hx, h.d1, h.d2, h.d3⟩
end
end Go.Proofs.YtfmnbehopdmahaaGreat
/-
  Package acceptor: Would.
-/
namespace Go.Proofs.YtfmnbehopdmahaaGreat
open Go.RowKit Go.Maps

/-- The record that On would answer. -/
def wouldA (a : Ac) (x : MsM) : ByteArray := if takesA a x = true then (if changesA a x = true then recOf x else ⟨#[]⟩) else ⟨#[]⟩
set_option maxRecDepth 1000000 in
set_option maxHeartbeats 4000000 in
theorem AcAt.would {w : World} {p m : Nat} {a : Ac} (h : AcAt w p m a) (x : MsM) (hx : MsOk w x) : Calls Tryz.prog 8 #[.pointer (some ⟨p, 0, none⟩), x.val] w fun e w' => e = .returned (.tuple #[.string (wouldA a x), .bool (takesA a x)]) ∧ Below w.heap.size w w' := by
  obtain ⟨W, hW⟩ : ∃ W, W = w.alloc (.cells x.cells.toArray 43) := ⟨_, rfl⟩
  have HB : Hid (Below w.heap.size w W) := by rw [hW]; exact (Below.refl _ _).alloc (Nat.le_refl _) _
  obtain ⟨bm, hbm⟩ : ∃ q, q = w.heap.size := ⟨_, rfl⟩
  have HKM : Hid (Blk W bm 43 x.cells) := by rw [hbm, hW]; exact Blk.new w _ _
  have HEF := hid ((h.below HB.out).effectOf x (hx.below HB.out))
  have HW := hid hW
  have HBM := hid hbm
  obtain ⟨RR, HRR⟩ : ∃ q, Hid ((if changesA a x = true then recOf x else ⟨#[]⟩) = q) := ⟨_, hid rfl⟩
  have HWY : Hid (takesA a x = true → wouldA a x = RR) := fun h => by unfold wouldA; rw [if_pos h, HRR.out]
  have HWN : Hid (¬ takesA a x = true → wouldA a x = ⟨#[]⟩) := fun h => by unfold wouldA; rw [if_neg h]
  have HYES : Hid (∀ e w', EffP W p a x e w' → takesA a x = true → ∃ k c f lb, e = .returned (.tuple #[effV k c RR f lb, .bool true]) ∧ Below W.heap.size W w') := fun e w' hP ht => by
    obtain ⟨h1, h2⟩ := hP
    rw [if_pos ht, HRR.out] at h2
    obtain ⟨f, lb, h3, _⟩ := h2
    exact ⟨_, _, f, lb, h3, h1⟩
  have HNO : Hid (∀ e w', EffP W p a x e w' → ¬ takesA a x = true → e = .returned (.tuple #[.agg #[.int .i64 0, .bool false, .string ⟨#[]⟩, .nilFunc], .bool false]) ∧ Below W.heap.size W w') := fun e w' hP ht => by
    obtain ⟨h1, h2⟩ := hP
    rw [if_neg ht] at h2
    exact ⟨h2, h1⟩
  have HEM : Hid (Calls Tryz.prog 19 #[.pointer (some ⟨p, 0, none⟩), x.val] W (fun e w' => EffP W p a x e w')) := HEF.out
  obtain ⟨TT, HTT⟩ : ∃ q, Hid (takesA a x = q) := ⟨_, hid rfl⟩
  obtain ⟨WA, HWA⟩ : ∃ q, Hid (wouldA a x = q) := ⟨_, hid rfl⟩
  rw [HTT.out] at HYES HNO HWY HWN ⊢
  rw [HWA.out] at HWY HWN ⊢
  have HPOST : Hid (∀ e w', EffP W p a x e w' → (TT = true ∧ ∃ k c f lb, e = .returned (.tuple #[effV k c WA f lb, .bool true]) ∧ Below W.heap.size W w') ∨ (TT = false ∧ WA = ⟨#[]⟩ ∧ e = .returned (.tuple #[.agg #[.int .i64 0, .bool false, .string ⟨#[]⟩, .nilFunc], .bool false]) ∧ Below W.heap.size W w')) := fun e w' hP => by
    cases TT with
    | true =>
      obtain ⟨k, c, f, lb, h1, h2⟩ := HYES.out e w' hP rfl
      rw [HWY.out rfl]
      exact .inl ⟨rfl, k, c, f, lb, h1, h2⟩
    | false =>
      obtain ⟨h1, h2⟩ := HNO.out e w' hP (by decide)
      exact .inr ⟨rfl, HWN.out (by decide), h1, h2⟩
  have HCALL := hid (HEM.out.mono HPOST.out)
  clear h hW hbm hx HEF HEM HPOST HYES HNO HWY HWN HRR HWA HTT
  obtain ⟨kd, fr, to, ⟨br, bn⟩, sl, ⟨⟨np, tk, ct, ep, cut⟩, ao1, cap1⟩, vo, vc, vs, so, sc, seen, eo, ec, evs, ti⟩ := x
  obtain ⟨XN, HXN⟩ : ∃ m, Hid (cut.length = m) := ⟨_, hid rfl⟩
  obtain ⟨VN, HVN⟩ : ∃ m, Hid (vs.length = m) := ⟨_, hid rfl⟩
  obtain ⟨SN, HSN⟩ : ∃ m, Hid (seen.length = m) := ⟨_, hid rfl⟩
  obtain ⟨EN, HEN⟩ : ∃ m, Hid (evs.length = m) := ⟨_, hid rfl⟩
  simp only [MsM.val, MsM.cells] at HW HKM HCALL ⊢
  rw [HXN.out, HVN.out, HSN.out, HEN.out] at HW HKM HCALL
  rw [HXN.out, HVN.out, HSN.out, HEN.out]
  have q0 := HKM.out.cell (i := 0) rfl
  have q1 := HKM.out.cell (i := 1) rfl
  have q2 := HKM.out.cell (i := 2) rfl
  have q3 := HKM.out.cell (i := 3) rfl
  have q4 := HKM.out.cell (i := 4) rfl
  have q5 := HKM.out.cell (i := 5) rfl
  have q6 := HKM.out.cell (i := 6) rfl
  have q7 := HKM.out.cell (i := 7) rfl
  have q8 := HKM.out.cell (i := 8) rfl
  have q9 := HKM.out.cell (i := 9) rfl
  have q10 := HKM.out.cell (i := 10) rfl
  have q11 := HKM.out.cell (i := 11) rfl
  have q12 := HKM.out.cell (i := 12) rfl
  have q13 := HKM.out.cell (i := 13) rfl
  have q14 := HKM.out.cell (i := 14) rfl
  go_enter Tryz.func8, Tryz.ntmps8
  go_wp2_with fail
  rw [← HW.out, ← HBM.out]
  refine HCALL.out.mono ?_
  rintro e w2 (⟨rfl, k, c, f, lb, rfl, hb2⟩ | ⟨rfl, rfl, rfl, hb2⟩)
  · have HB2 := hid (bt' HB.out hb2)
    unfold effV
    clear hb2 q0 q1 q2 q3 q4 q5 q6 q7 q8 q9 q10 q11 q12 q13 q14
    go_wp2
    go_ret2
    exact ⟨rfl, HB2.out.alloc HB2.out.size _⟩
  · have HB2 := hid (bt' HB.out hb2)
    clear hb2 q0 q1 q2 q3 q4 q5 q6 q7 q8 q9 q10 q11 q12 q13 q14
    go_wp2
    go_ret2
    exact ⟨rfl, HB2.out.alloc HB2.out.size _⟩
end Go.Proofs.YtfmnbehopdmahaaGreat
/-
  Package acceptor: Fork; what Drop asks of each vote.
-/
namespace Go.Proofs
open Go.Shelf Go.RowKit Go.Lib
shelf_lay_g SlLaysW.n5 Slmc 5 at Tryz 30 as YtfmnbehopdmahaaGreat.cloneVo
end Go.Proofs
namespace Go.Proofs.YtfmnbehopdmahaaGreat
open Go.RowKit Go.Maps

theorem dropFn {W : World} {bs : Nat} {s z : Int} (v : Value) (h : Blk W bs 3 [.int .i64 s]) : Calls Tryz.prog 32 #[.int .i64 z, v, .pointer (some ⟨bs, 0, none⟩)] W fun e w' => e = .returned (.bool (decide (z < s))) ∧ Below W.heap.size W w' := by
  have c0 := h.cell (i := 0) rfl
  have hlt := h.lt
  go_enter Tryz.func32, Tryz.ntmps32
  go_wp2
  all_goals
    go_ret
    exact ⟨rfl, (Below.refl _ _).alloc (Nat.le_refl _) _⟩
theorem cloneVo_any {V : World} {m n : Nat} {S : Int → Option VoM} {D : DataW Value} (h : VoMap V m S n D) : Calls Tryz.prog 30 #[.map (some m)] V fun e w' => ∃ m', e = .returned (.map (some m')) ∧ VoMap w' m' S n D ∧ V.heap.size ≤ m' ∧ Below V.heap.size V w' := by
  have hc := AnyW.maps_Clone_owns cloneVo 3 valR m n D V h.map
  refine Calls.mono hc ?_
  rintro e w' ⟨rfl, h1, _, h3⟩
  exact ⟨_, rfl, ⟨h1, h.key, (h.below h3).ok, h.cnt⟩, Nat.le_refl _, h3⟩
/-- What Fork answers: another acceptor, in new blocks. -/
def ForkA (w : World) (a : Ac) (p' m' : Nat) (w' : World) : Prop := AcAt w' p' m' a ∧ Below w.heap.size w w' ∧ w.heap.size ≤ p' ∧ w.heap.size ≤ m'
theorem forkA_of {w U W' : World} {p m p' m' n : Nat} {a : Ac} {S : Int → Option VoM} {D : DataW Value} (h : AcAt w p m a) (hn : a.ks.length = n) (hS : ∀ t, (S t).map VoM.vt = a.f t) (hs : ScL w U) (hm : VoMap U m' S n D) (hml : w.heap.size ≤ m') (hW : W' = U.alloc (.cells #[.int .i64 a.node, .int .i64 a.pr.1, .int .i64 a.pr.2, .map (some m')] 59)) (hp : p' = U.heap.size) : ForkA w a p' m' W' := by
  subst hn hW hp
  have hb : Below U.heap.size U (U.alloc (.cells #[.int .i64 a.node, .int .i64 a.pr.1, .int .i64 a.pr.2, .map (some m')] 59)) := (Below.refl _ _).alloc (Nat.le_refl _) _
  exact ⟨⟨h.ok, Blk.new U _ _, S, D, hm.below hb, hS⟩, bt' hs.out hb, hs.out.size, hml⟩
set_option maxRecDepth 1000000 in
set_option maxHeartbeats 2000000 in
theorem AcAt.fork {w : World} {p m : Nat} {a : Ac} (h : AcAt w p m a) : Calls Tryz.prog 12 #[.pointer (some ⟨p, 0, none⟩)] w fun e w' => ∃ p' m', e = .returned (.pointer (some ⟨p', 0, none⟩)) ∧ ForkA w a p' m' w' := by
  have HCL := hid h.closed
  have H := hid h
  obtain ⟨S, D, hEM, hS⟩ := h.map
  obtain ⟨n, HN⟩ : ∃ n, Hid (a.ks.length = n) := ⟨_, hid rfl⟩
  rw [HN.out] at hEM
  have HS := hid hS
  obtain ⟨nd, hnd⟩ : ∃ q, a.node = q := ⟨_, rfl⟩
  obtain ⟨r, hr⟩ : ∃ q, a.pr.1 = q := ⟨_, rfl⟩
  obtain ⟨b, hb⟩ : ∃ q, a.pr.2 = q := ⟨_, rfl⟩
  have HCE : Hid (∀ V, ScL w V → Calls Tryz.prog 30 #[.map (some m)] V fun e w' => ∃ m', e = .returned (.map (some m')) ∧ Hid (VoMap w' m' S n D ∧ w.heap.size ≤ m') ∧ ScL w w') := fun V hV => by
    refine (cloneVo_any (hEM.below hV.out)).mono ?_
    rintro e w' ⟨m', rfl, h1, h2, h3⟩
    exact ⟨m', rfl, ⟨h1, Nat.le_trans hV.out.size h2⟩, hV.go h3⟩
  have HSA : Hid (∀ V, ScL w V → (ScL w V ∧ V.cell? ⟨p, 0, none⟩ = some (.int .i64 nd) ∧ V.cell? ⟨p, 1, none⟩ = some (.int .i64 r) ∧ V.cell? ⟨p, 2, none⟩ = some (.int .i64 b) ∧ V.cell? ⟨p, 3, none⟩ = some (.map (some m)))) := fun V hV => by
    have h1 := (H.out.below hV.out).cells
    rw [hnd, hr, hb] at h1
    exact ⟨hV, h1⟩
  have HMK : Hid (∀ U W' m' p', ScL w U → VoMap U m' S n D → w.heap.size ≤ m' → W' = U.alloc (.cells #[.int .i64 nd, .int .i64 r, .int .i64 b, .map (some m')] 59) → p' = U.heap.size → ForkA w a p' m' W') := fun U W' m' p' c1 c2 c3 c4 c5 => forkA_of H.out HN.out HS.out c1 c2 c3 (by rw [hnd, hr, hb]; exact c4) c5
  clear h hEM hS hnd hr hb
  go_enter Tryz.func12, Tryz.ntmps12
  go_wp2_with fail
  refine HCL.out.mono ?_
  rintro e w1 ⟨rfl, rfl⟩
  go_wp2
  go_region_held3 (fun V => ScL w1 V ∧ V.cell? ⟨p, 0, none⟩ = some (.int .i64 nd) ∧ V.cell? ⟨p, 1, none⟩ = some (.int .i64 r) ∧ V.cell? ⟨p, 2, none⟩ = some (.int .i64 b) ∧ V.cell? ⟨p, 3, none⟩ = some (.map (some m)))
    ((refine HSA.out _ ?_; (repeat (first | with_reducible assumption | exact ScL.start _ | apply ScL.dr | apply ScL.alloc))))
    (first
      | (go_at_call 30; with_reducible refine (HCE.out _ (by (repeat (first | with_reducible assumption | exact ScL.start _ | apply ScL.dr)))).mono ?_; rintro e w6 ⟨m6, rfl, HF6, hs6⟩)
      | fail)
  have hF : Hid (ForkA w1 a w6.heap.size m6 (w6.alloc (.cells #[.int .i64 nd, .int .i64 r, .int .i64 b, .map (some m6)] 59))) := HMK.out w6 _ m6 _ hs6 HF6.out.1 HF6.out.2 rfl rfl
  go_wp2
  go_ret
  exact ⟨_, m6, rfl, hF.out⟩
/-- With no votes below a slot. -/
def dropA (a : Ac) (s : Int) : Ac := ⟨a.node, a.pr, fun t => if t < s then none else a.f t, a.ks.filter (fun t => decide (s ≤ t))⟩
theorem dropA_ok {a : Ac} (h : AcOk a) (s : Int) : AcOk (dropA a s) := by
  refine ⟨h.rise.filter _, fun t => ?_, fun t ht => h.slot t ((List.mem_filter.1 ht).1), Nat.le_trans (List.length_filter_le _ _) h.few, fun t v hv => ?_, h.pr, h.node⟩
  · show t ∈ a.ks.filter (fun t => decide (s ≤ t)) ↔ (if t < s then none else a.f t).isSome = true
    rw [List.mem_filter, h.has t]
    by_cases e : t < s
    · rw [if_pos e]
      simp
      omega
    · rw [if_neg e]
      simp
      omega
  · have hv' : (if t < s then none else a.f t) = some v := hv
    split at hv'
    · cases hv'
    · exact h.right t v hv'
end Go.Proofs.YtfmnbehopdmahaaGreat
/-
  A map from which the keys that a predicate names are struck: what it holds (mathematics for Drop).
-/
namespace Go.Proofs.YtfmnbehopdmahaaGreat
open Go.RowKit Go.Maps

theorem find_keepV {f : Lit × DataW Value → Bool} {kl : Lit} : ∀ {es : List (Lit × DataW Value)}, (∀ p ∈ es, p.1 = kl → f p = true) → (es.filter f).find? (fun p => p.1.sameKey kl) = es.find? (fun p => p.1.sameKey kl)
  | [], _ => rfl
  | x :: r, h => by
    have ih := find_keepV (es := r) (fun p hp => h p (List.mem_cons_of_mem _ hp))
    cases hk : x.1.sameKey kl with
    | true =>
      have hx := h x List.mem_cons_self (WideAt.sameKey_eq hk)
      rw [List.filter_cons_of_pos hx]
      simp [List.find?, hk]
    | false =>
      cases hx : f x with
      | true =>
        rw [List.filter_cons_of_pos hx]
        simp only [List.find?, hk]
        exact ih
      | false =>
        rw [List.filter_cons_of_neg (by rw [hx]; decide)]
        simp only [List.find?, hk]
        exact ih
theorem look_Fk {pd : Lit → DataW Value → Bool} {es : List (Lit × DataW Value)} {left : Lit → Bool} {kl : Lit} (h : left kl = true) : look (Fk pd es left) kl = look (.map es) kl := by
  unfold Fk look
  simp only [DataW.atKey]
  rw [find_keepV (fun p _ e => by rw [e, h, Bool.or_true])]
theorem look_dropV {pk : Lit → Bool} {es : List (Lit × DataW Value)} {kl : Lit} : look (Lib.deleteFuncD (fun k _ => pk k) (.map es)) kl = if pk kl = true then none else look (.map es) kl := by
  unfold Lib.deleteFuncD look
  simp only [DataW.atKey]
  by_cases hp : pk kl = true
  · rw [if_pos hp]
    have : (es.filter (fun p => !pk p.1)).find? (fun p => p.1.sameKey kl) = none := by
      rw [List.find?_eq_none]
      intro x hx hs
      have h1 := (List.mem_filter.1 hx).2
      rw [WideAt.sameKey_eq hs, hp] at h1
      cases h1
    rw [this]
  · rw [if_neg hp, find_keepV (fun p _ e => by rw [e]; simpa using hp)]
/-- Of which slots the votes are struck. -/
def belowK (s : Int) : Lit → Bool
  | .int _ z => decide (z < s)
  | _ => false
end Go.Proofs.YtfmnbehopdmahaaGreat
/-
  maps.DeleteFunc at the map of votes, by hand (its value is a struct in a box): Drop.
-/
namespace Go.Proofs.YtfmnbehopdmahaaGreat
open Go.RowKit Go.Maps

theorem grown_ofB {w w' : World} (h : Below w.heap.size w w') : w.grownBy w' none := ⟨h.os, h.tape, h.output, h.size, fun k hk _ => h.block k hk⟩
theorem at_of_look {es : List (Lit × DataW Value)} {kl : Lit} {v : Value} (h : look (.map es) kl = some v) : ∀ zd, (DataW.map es).atKey kl zd = .held v := by
  intro zd
  unfold look at h
  simp only [DataW.atKey] at h ⊢
  cases hf : es.find? (fun p => p.1.sameKey kl) with
  | none => rw [hf] at h; simp at h
  | some p =>
    rw [hf] at h
    simp only at h ⊢
    cases hp : p.2 <;> rw [hp] at h <;> simp at h
    rw [h]
set_option maxRecDepth 100000 in
set_option maxHeartbeats 2000000 in
theorem deleteVo {w : World} {m n bs : Nat} {S : Int → Option VoM} {D : DataW Value} {s : Int} (h : VoMap w m S n D) (hbox : Blk w bs 3 [.int .i64 s]) : Calls Tryz.prog 31 #[.map (some m), .func (.func 32) #[] #[.pointer (some ⟨bs, 0, none⟩)]] w fun e w' => e = .returned (.tuple #[]) ∧ w'.ownsMap Tryz.prog 3 valR m n (Lib.deleteFuncD (fun k _ => belowK s k) D) ∧ w.grownBy w' (some m) := by
  obtain ⟨es0, rfl, hap, hkeys⟩ := h.map.entries Tryz.keyedIntL
  have HEM := hid h
  have HAP := hid hap
  have HBX := hid hbox
  have HMB : Hid (bs ≠ m) := hbox.not_map h.map
  have HFK := hid (Fk_start (pd := fun k _ => belowK s k) hkeys)
  clear h hap hkeys hbox
  go_enter Tryz.func31, Tryz.ntmps31
  go_wp2_with (at_range; refine wpList_range_own _ rfl _ 57 rfl 3 73 Tryz.keyedIntL Tryz.underlying57 valR m _ _ rfl HEM.out.map ?_; intro w0 hrg0 hg0 hs0)
  obtain ⟨r, hr⟩ : ∃ r, r = w.heap.size := ⟨_, rfl⟩
  rw [← hr] at hrg0 ⊢
  have HR := hid hr
  clear hr
  go_simp
  go_loopw [8] (fun _ wr => ∃ (left : Lit → Bool) (cnt : Nat), Hid (wr.ranges Tryz.prog 3 valR m r n (Fk (fun k _ => belowK s k) es0 left) left cnt ∧ w.grownBy wr (some m))) (fun _ wr => wr.rangeLeft m r)
  case atStart => exact ⟨_, _, by rw [HFK.out]; exact hrg0, hg0.but _⟩
  case round =>
    obtain ⟨left, cnt, HI⟩ := hrel
    go_wp2_with (first | (at_next; refine wpList_next_intL _ rfl _ rfl m r n _ left cnt rfl HI.out.1 ?_ ?_) | fail)
    · intro _ hl0
      have HE : Hid (_ ∧ _) := ⟨by have := HI.out.1.owns; rw [Fk_end hl0] at this; exact this, HI.out.2⟩
      clear hl0
      go_wp2
      go_end0
      exact ⟨rfl, HE.out⟩
    · intro z v w1 cnt1 hz hv hlf hrg1 hlt1 hgr hsz hen
      have hv2 : look (DataW.map es0) (.int .i64 z) = some v := by rw [look_Fk hlf] at hv; exact hv
      rw [HEM.out.key z hz] at hv2
      obtain ⟨x, hx, hxv⟩ := Option.map_eq_some_iff.1 hv2
      obtain ⟨sl, ⟨br, bn⟩, ⟨⟨np, tk, ct, ep, dp⟩, ao, cp⟩⟩ := x
      obtain rfl : sl = z := (HEM.out.ok _ _ hx).2
      simp only [VoM.val] at hxv
      obtain ⟨XN, HXN⟩ : ∃ q, Hid (dp.length = q) := ⟨_, hid rfl⟩
      rw [HXN.out] at hxv
      subst hxv
      have HAT := hid (at_of_look hv)
      have HZ := hid hz
      have HLF := hid hlf
      have HLT := hid hlt1
      have HG1 : Hid (w.grownBy w1 (some m)) := HI.out.2.andThen hgr (fun j hj => by cases hj; exact .inl (by rw [HR.out]; exact Nat.le_refl _))
      have HRG1 := hid hrg1
      obtain ⟨W3, hW3⟩ : ∃ V, V = w1.alloc (.cells #[.int .i64 sl, .int .i64 br, .int .i64 bn, .bool np, .string tk, .string ct, .int .i64 ep, .slice ao XN cp] 73) := ⟨_, rfl⟩
      have HB3 : Hid (Below w1.heap.size w1 W3) := by rw [hW3]; exact (Below.refl _ w1).alloc (Nat.le_refl _) _
      have HBX3 : Hid (Blk W3 bs 3 [.int .i64 s]) := by
        have h1 : Blk w1 bs 3 [.int .i64 s] := (HG1.out.block bs HBX.out.lt (by intro e; exact HMB.out (Option.some.inj e))).trans HBX.out
        exact h1.below HB3.out h1.lt
      have HRG3 := hid (HRG1.out.kept (grown_ofB HB3.out) (by simp) (by simp))
      clear hv hlf hrg1 hlt1 hgr hsz hv2 hx hz
      go_wp2_with fail
      rw [← hW3]
      refine (dropFn (z := sl) _ HBX3.out).mono ?_
      rintro e w5 ⟨rfl, hb5⟩
      have HRG5 := hid (HRG3.out.kept (grown_ofB hb5) (by simp) (by simp))
      have HG5 : Hid (w.grownBy w5 (some m)) := HG1.out.andThen (grown_ofB (bt' HB3.out hb5)) (fun j hj => by cases hj)
      clear hb5 hen
      by_cases hp : sl < s
      · have hpd : decide (sl < s) = true := decide_eq_true hp
        have HST := hid (Fk_struck (pd := fun k _ => belowK s k) HAP.out (Tryz.keyedIntL.key (Tryz.keyIntL HZ.out)) HLF.out (d := _) (by show decide (sl < s) = true; exact hpd) HAT.out)
        clear hp
        go_wp2_with (first | (at_delete; refine wpList_delete_ranges _ rfl _ _ 57 3 rfl 73 Tryz.keyedIntL Tryz.underlying57 valR m r n _ _ _ rfl HRG5.out _ _ rfl (Tryz.keyIntL HZ.out) ?_; intro w6 cnt6 hrg6 hle hturn; go_frame) | fail)
        rw [strike_twice, HST.out] at hrg6
        have HRG6 := hid hrg6
        have HLE := hid hle
        have HG6 : Hid (w.grownBy w6 (some m)) := HG5.out.andThen hturn.grown (fun j hj => by cases hj; exact .inr rfl)
        clear hrg6 hle hturn
        go_roundw
        case rel => exact ⟨_, cnt6, HRG6.out, HG6.out⟩
        case measure => rw [HRG6.out.left_eq, HI.out.1.left_eq]; exact Nat.lt_of_le_of_lt HLE.out HLT.out
      · have hpd : decide (sl < s) = false := decide_eq_false hp
        have HST := hid (Fk_stays (pd := fun k _ => belowK s k) HAP.out (Tryz.keyedIntL.key (Tryz.keyIntL HZ.out)) HLF.out (d := _) (by show decide (sl < s) = false; exact hpd) HAT.out)
        clear hp
        go_wp2
        go_roundw
        case rel => exact ⟨_, cnt1, by rw [← HST.out]; exact HRG5.out, HG5.out⟩
        case measure => rw [HRG5.out.left_eq, HI.out.1.left_eq]; exact HLT.out
end Go.Proofs.YtfmnbehopdmahaaGreat
/-
  Package acceptor: Drop.
-/
namespace Go.Proofs.YtfmnbehopdmahaaGreat
open Go.RowKit Go.Maps Go.WideElems

theorem keys_int {w : World} {m n : Nat} {D : DataW Value} (h : w.ownsMap Tryz.prog 3 valR m n D) : ∃ es, D = .map es ∧ es.Pairwise (fun p q => p.1 ≠ q.1) ∧ ∀ p ∈ es, ∃ z, I64 z ∧ p.1 = .int .i64 z := by
  obtain ⟨es, hD0, hap, _⟩ := h.entries Tryz.keyedIntL
  refine ⟨es, hD0, hap, fun p hp => ?_⟩
  obtain ⟨es', clock, _, F, _, hD⟩ := h
  rw [hD0] at hD
  injection hD with hD
  rw [hD] at hp
  obtain ⟨x, hx, rfl⟩ := List.mem_map.1 (mem_sorted.1 hp)
  obtain ⟨y, hy⟩ := F.reads x hx
  rw [rg_of hy]
  obtain ⟨z, _, e, hi⟩ := keyIntL_inv (rd_key hy)
  exact ⟨z, hi, e⟩
def zOf : Lit → Int
  | .int _ z => z
  | _ => 0
theorem drop_count {w : World} {m : Nat} {S : Int → Option VoM} {D : DataW Value} {a : Ac} (hg : AcOk a) (h : VoMap w m S a.ks.length D) (hS : ∀ t, (S t).map VoM.vt = a.f t) (s : Int) : Maps.size (Lib.deleteFuncD (fun k _ => belowK s k) D) = (dropA a s).ks.length := by
  obtain ⟨es, rfl, hap, hk⟩ := keys_int h.map
  have hlook : ∀ z, I64 z → look (.map es) (.int .i64 z) = (S z).map VoM.val := h.key
  have hsome : ∀ z, (S z).isSome = (a.f z).isSome := fun z => by rw [← hS z]; simp
  have hnd : (es.map (fun p => zOf p.1)).Nodup := by
    rw [List.nodup_iff_pairwise_ne, List.pairwise_map]
    refine List.Pairwise.imp_of_mem (fun {p q} hp hq hne e => hne ?_) hap
    obtain ⟨z1, _, e1⟩ := hk p hp
    obtain ⟨z2, _, e2⟩ := hk q hq
    rw [e1, e2] at e ⊢
    simp only [zOf] at e
    rw [e]
  have hmem : ∀ z, z ∈ es.map (fun p => zOf p.1) ↔ z ∈ a.ks := fun z => by
    rw [hg.has z, ← hsome z]
    constructor
    · intro hz
      obtain ⟨p, hp, rfl⟩ := List.mem_map.1 hz
      obtain ⟨z1, hi, e1⟩ := hk p hp
      rw [e1]
      show (S z1).isSome = true
      have h1 := hlook z1 hi
      obtain ⟨v, hv⟩ : ∃ v, p.2 = .held v := by
        obtain ⟨es2, e2, hh⟩ := allHeld_of h.map
        cases e2
        exact hh p hp
      have h2 : look (.map es) (.int .i64 z1) = some v := look_at (fun zd => by rw [← hv, ← e1]; exact WideAt.atKey_mem zd (by rw [e1]; trivial) hap hp)
      rw [h2] at h1
      cases hs : S z1 with
      | none => rw [hs] at h1; simp at h1
      | some y => rfl
    · intro hz
      have hzk : z ∈ a.ks := (hg.has z).2 (by rw [← hsome z]; exact hz)
      have hi : I64 z := by have := hg.slot z hzk; unfold I64; omega
      have h1 := hlook z hi
      cases hs : S z with
      | none => rw [hs] at hz; cases hz
      | some y =>
        rw [hs] at h1
        have h2 := at_of_look h1 .nil
        simp only [DataW.atKey] at h2
        cases hf : es.find? (fun p => p.1.sameKey (.int .i64 z)) with
        | none => rw [hf] at h2; cases h2
        | some p =>
          have h3 := List.find?_some hf
          have h4 := WideAt.sameKey_eq h3
          exact List.mem_map.2 ⟨p, List.mem_of_find?_eq_some hf, by rw [h4]; rfl⟩
  have hnk : a.ks.Nodup := by
    rw [List.nodup_iff_pairwise_ne]
    exact hg.rise.imp (fun h => by omega)
  have hperm := (List.perm_ext_iff_of_nodup hnd hnk).2 hmem
  have hl := (hperm.filter (fun t => decide (s ≤ t))).length_eq
  show (es.filter (fun p => !belowK s p.1)).length = (a.ks.filter (fun t => decide (s ≤ t))).length
  rw [← hl, List.filter_map, List.length_map]
  congr 1
  refine List.filter_congr (fun p hp => ?_)
  obtain ⟨z, _, e⟩ := hk p hp
  show (!belowK s p.1) = decide (s ≤ zOf p.1)
  rw [e]
  show (!decide (z < s)) = decide (s ≤ z)
  by_cases h1 : z < s
  · simp [h1]
  · simp [h1]; omega
theorem VoMap.drop {w w' : World} {m : Nat} {S : Int → Option VoM} {D : DataW Value} {a : Ac} (hg : AcOk a) (h : VoMap w m S a.ks.length D) (hS : ∀ t, (S t).map VoM.vt = a.f t) (s : Int) (hown : w'.ownsMap Tryz.prog 3 valR m a.ks.length (Lib.deleteFuncD (fun k _ => belowK s k) D)) (ht : Turns (fun i => i = m) w w') :
    VoMap w' m (fun t => if t < s then none else S t) (dropA a s).ks.length (Lib.deleteFuncD (fun k _ => belowK s k) D) := by
  have hc := drop_count hg h hS s
  have hni := noNum_map h.map
  refine ⟨?_, fun t ht2 => ?_, fun t x hx => ?_, hc⟩
  · obtain ⟨es, clock, h1, h2, hs', hD⟩ := hown
    refine ⟨es, clock, h1, h2, ?_, hD⟩
    rw [← hc, hD]
    have e1 : Maps.size (DataW.map ((es.toList.map (Go.WideElems.rg Tryz.prog 3 valR)).foldr DataW.insert [])) = es.size := by simp [Maps.size, length_sorted]
    rw [e1]
    exact Nat.le_refl _
  · obtain ⟨es, rfl, _, _⟩ := keys_int h.map
    rw [look_dropV]
    show (if decide (t < s) = true then none else _) = _
    by_cases e : t < s
    · simp [e]
    · simp [e]
      exact h.key t ht2
  · split at hx
    · cases hx
    · exact ⟨(h.ok t x hx).1.turned hni ht, (h.ok t x hx).2⟩
set_option maxRecDepth 100000 in
set_option maxHeartbeats 1000000 in
theorem AcAt.drop {w : World} {p m : Nat} {a : Ac} (h : AcAt w p m a) (s : Int) : Calls Tryz.prog 13 #[.pointer (some ⟨p, 0, none⟩), .int .i64 s] w fun e w' => e = .returned (.tuple #[]) ∧ AcAt w' p m (dropA a s) ∧ Turns (fun i => i = m) w w' := by
  obtain ⟨W, hW⟩ : ∃ W, W = w.alloc (.cells #[.int .i64 s] 3) := ⟨_, rfl⟩
  have HB : Hid (Below w.heap.size w W) := by rw [hW]; exact (Below.refl _ _).alloc (Nat.le_refl _) _
  have HBX : Hid (Blk W w.heap.size 3 [.int .i64 s]) := by rw [hW]; exact Blk.new w _ _
  have H := hid (h.below HB.out)
  have HCL := hid H.out.closed
  obtain ⟨S, D, hEM, hS⟩ := H.out.map
  have HEM := hid hEM
  have HS := hid hS
  have HDL := hid (deleteVo hEM HBX.out)
  have HW := hid hW
  have c3 := H.out.cells.2.2.2
  rw [hW] at c3
  clear h hW hEM hS
  go_enter Tryz.func13, Tryz.ntmps13
  go_wp2_with fail
  rw [← HW.out]
  refine HCL.out.mono ?_
  rintro e w1 ⟨rfl, rfl⟩
  rw [← HW.out] at c3
  go_wp2_with fail
  refine HDL.out.mono ?_
  rintro e w2 ⟨rfl, hown, hgr⟩
  have ht : Turns (fun i => i = m) w1 w2 := Turns.of_grown (F := fun i => i = m) hgr (fun k hk => by cases hk; rfl)
  have hpm : p ≠ m := H.out.pne
  have HF : Hid (AcAt w2 p m (dropA a s)) := by
    refine ⟨dropA_ok H.out.ok s, ht.blk H.out.blk hpm, _, _, HEM.out.drop H.out.ok HS.out s hown ht, fun t => ?_⟩
    show (if t < s then none else S t).map VoM.vt = if t < s then none else a.f t
    split
    · rfl
    · exact HS.out t
  have HT : Hid (Turns (fun i => i = m) w w2) := (Turns.of_below (F := fun i => i = m) HB.out (Nat.le_refl _)).trans ht (fun i hi => .inl hi)
  clear hown hgr ht
  go_wp2
  go_end0
  exact ⟨rfl, HF.out, HT.out⟩
end Go.Proofs.YtfmnbehopdmahaaGreat
/-
  Package ballot: Next, Quorum, and the document's Compare, Next, Quorum.
-/
namespace Go.Proofs.YtfmnbehopdmahaaGreat
open Go.RowKit Go.Maps

set_option maxRecDepth 100000 in
theorem rcompareB (W : World) (x y : Int × Int) : Calls Tryz.prog 23 #[blt x, blt y] W fun e w' => e = .returned (.int .i64 (cmpB x y)) ∧ Below W.heap.size W w' := by
  obtain ⟨x1, x2⟩ := x
  obtain ⟨y1, y2⟩ := y
  have HB : Hid (Below W.heap.size W ((W.alloc (.cells #[.int .i64 x1, .int .i64 x2] 35)).alloc (.cells #[.int .i64 y1, .int .i64 y2] 35))) := ((Below.refl _ _).alloc (Nat.le_refl _) _).alloc (by simp) _
  by_cases h : x1 = y1
  · subst h
    have HE : Hid (cmpB (x1, x2) (x1, y2) = cmpN x2 y2) := by show _ = _; simp [cmpB, cmpN_same]
    rw [HE.out]
    unfold cmpN
    by_cases h1 : x2 < y2
    · rw [if_pos h1]
      go_enter Tryz.func23, Tryz.ntmps23
      go_wp2
      go_quiet (fail)
      go_wp2
      go_quiet (fail)
      go_wp2
      go_ret
      exact ⟨rfl, below_dn HB.out _⟩
    · rw [if_neg h1]
      by_cases h2 : y2 < x2
      · rw [if_pos h2]
        go_enter Tryz.func23, Tryz.ntmps23
        go_wp2
        go_quiet (fail)
        go_wp2
        go_quiet (fail)
        go_wp2
        go_ret
        exact ⟨rfl, below_dn HB.out _⟩
      · rw [if_neg h2]
        go_enter Tryz.func23, Tryz.ntmps23
        go_wp2
        go_quiet (fail)
        go_wp2
        go_quiet (fail)
        go_wp2
        go_ret
        exact ⟨rfl, below_dn HB.out _⟩
  · have hb : (x1 == y1) = false := by simpa using h
    have HE : Hid (cmpB (x1, x2) (y1, y2) = cmpN x1 y1) := by
      show _ = _
      unfold cmpB
      rw [if_pos (by simpa [cmpN_zero] using h)]
    rw [HE.out]
    unfold cmpN
    by_cases h1 : x1 < y1
    · rw [if_pos h1]
      go_enter Tryz.func23, Tryz.ntmps23
      go_wp2
      go_quiet (fail)
      go_wp2
      go_ret
      exact ⟨rfl, below_dn HB.out _⟩
    · rw [if_neg h1]
      by_cases h2 : y1 < x1
      · rw [if_pos h2]
        go_enter Tryz.func23, Tryz.ntmps23
        go_wp2
        go_quiet (fail)
        go_wp2
        go_ret
        exact ⟨rfl, below_dn HB.out _⟩
      · omega

/-- How many are a majority. -/
def quorum (n : Int) : Int := if 1 ≤ n ∧ n ≤ 7 then n / 2 + 1 else 0
theorem wrap_half {n : Int} (h : 1 ≤ n ∧ n ≤ 7) : wrap64 (wrap64 (n.tdiv 2) + 1) = n / 2 + 1 := by
  have a0 : n.tdiv 2 = n / 2 := Int.tdiv_eq_ediv_of_nonneg (by omega)
  rw [a0, wrapS (x := n / 2) (by omega) (by omega), wrapS (by omega) (by omega)]
/-- The next ballot, and which error. -/
def nextE (r n : Int) : Int := if n < 0 ∨ 7 ≤ n then 1 else if r < 0 ∨ 2147483647 ≤ r then 2 else 0
def nextB (r n : Int) : Int × Int := if nextE r n = 0 then (r + 1, n) else (0, 0)
theorem nextE_or (r n : Int) : (nextE r n = 1 ∧ nextB r n = (0, 0) ∧ (n < 0 ∨ 7 ≤ n)) ∨ (nextE r n = 2 ∧ nextB r n = (0, 0) ∧ ¬ (n < 0 ∨ 7 ≤ n) ∧ (r < 0 ∨ 2147483647 ≤ r)) ∨ (nextE r n = 0 ∧ nextB r n = (r + 1, n) ∧ ¬ (n < 0 ∨ 7 ≤ n) ∧ ¬ (r < 0 ∨ 2147483647 ≤ r)) := by
  unfold nextB nextE
  by_cases h1 : n < 0 ∨ 7 ≤ n
  · left; simp [h1]
  · by_cases h2 : r < 0 ∨ 2147483647 ≤ r
    · right; left; simp [h1, h2]
    · right; right; simp [h1, h2]
theorem nextB_lt {r m n : Int} (h : nextE r n = 0) : LtB (r, m) (nextB r n) := by
  unfold nextB LtB
  rw [if_pos h]
  left
  simp
  omega
def bltE (x : Int × Int) (e : Int) : Value := .tuple #[blt x, .int .i64 e]
end Go.Proofs.YtfmnbehopdmahaaGreat
/-
  Seven truths, held against themselves with one of them turned true.
-/
namespace Go.Proofs.YtfmnbehopdmahaaGreat
open Go.RowKit Go.Maps
end Go.Proofs.YtfmnbehopdmahaaGreat
/-
  Package ballot: votes in memory ('VotesAt'): NewVotes, Add, Has, Count, Enough, All, Fork.
-/
namespace Go.Proofs.YtfmnbehopdmahaaGreat
open Go.RowKit Go.Maps

abbrev voteCells (n : Int) (f : Nat → Bool) : List Value := [.int .i64 n, .bool (f 0), .bool (f 1), .bool (f 2), .bool (f 3), .bool (f 4), .bool (f 5), .bool (f 6)]
def addV (f : Nat → Bool) (k : Nat) : Nat → Bool := fun i => if i = k then true else f i
def hasV (n : Int) (f : Nat → Bool) (x : Int) : Bool := decide (0 ≤ x ∧ x < n) && f x.toNat
end Go.Proofs.YtfmnbehopdmahaaGreat
/-
  Package ballot: Count, Enough, All, Fork, NewVotes.
-/
namespace Go.Proofs.YtfmnbehopdmahaaGreat
open Go.RowKit Go.Maps

/-- How many of the first k voted. -/
def cntF (f : Nat → Bool) : Nat → Nat
  | 0 => 0
  | k + 1 => cntF f k + (if f k then 1 else 0)
theorem cntF_le (f : Nat → Bool) : ∀ k, cntF f k ≤ k
  | 0 => Nat.le_refl _
  | k + 1 => by
    have := cntF_le f k
    unfold cntF
    split <;> omega
/-- Which of the first k voted. -/
def allTo (f : Nat → Bool) : Nat → List Int
  | 0 => []
  | k + 1 => allTo f k ++ (if f k then [(k : Int)] else [])
theorem allTo_len (f : Nat → Bool) : ∀ k, (allTo f k).length = cntF f k
  | 0 => rfl
  | k + 1 => by
    unfold allTo cntF
    rw [List.length_append, allTo_len f k]
    split <;> simp
def RowV (w : World) (v : Value) (l : List Int) (w' : World) : Prop := w'.ownsRow w.heap.size 3 1 v l.length (ints l) ∧ Below w.heap.size w w'
end Go.Proofs.YtfmnbehopdmahaaGreat
/-
  Package ballot: told, Pick.
-/
namespace Go.Proofs.YtfmnbehopdmahaaGreat
open Go.RowKit Go.Maps

/-- Which of the first k votes is the one of that slot with the greatest ballot. -/
def bestTo (xs : List VoM) (s : Int) : Nat → Int
  | 0 => -1
  | k + 1 => if (xs.getD k default).slot = s ∧ (bestTo xs s k < 0 ∨ 0 < cmpB (xs.getD k default).bal (xs.getD (bestTo xs s k).toNat default).bal) then (k : Int) else bestTo xs s k
theorem bestTo_in (xs : List VoM) (s : Int) : ∀ k, bestTo xs s k = -1 ∨ (0 ≤ bestTo xs s k ∧ bestTo xs s k < k)
  | 0 => .inl rfl
  | k + 1 => by
    have := bestTo_in xs s k
    unfold bestTo
    split
    · right; omega
    · rcases this with h | h
      · exact .inl h
      · right; omega
def PickP (w : World) (xs : List VoM) (s : Int) (e : Ending) (w' : World) : Prop :=
  (bestTo xs s xs.length = -1 ∧ e = .returned (.tuple #[EnM.val ⟨noopEn, none, 0⟩, .bool false]) ∧ Below w.heap.size w w') ∨
  ∃ b : Nat, bestTo xs s xs.length = b ∧ b < xs.length ∧ ∃ bo cp, e = .returned (.tuple #[EnM.val ⟨(xs.getD b default).en.e, bo, cp⟩, .bool true]) ∧ HV w' bo cp (xs.getD b default).en.e.cut ∧ Below w.heap.size w w'
end Go.Proofs.YtfmnbehopdmahaaGreat
/-
  Package ballot: Pick.
-/
namespace Go.Proofs.YtfmnbehopdmahaaGreat
open Go.RowKit Go.Maps

theorem vo_getD {xs : List VoM} {k : Nat} (hk : k < xs.length) : xs.getD k default = xs[k] := by simp [List.getD, List.getElem?_eq_getElem hk]
theorem HeldVo.cellsD {w : World} {ao : Option Addr} {xs : List VoM} (h : HeldVo w ao xs) {j : Nat} (hj : j < xs.length) : ∃ b off, ao = some ⟨b, off, none⟩ ∧ b < w.heap.size ∧ w.cell? ⟨b, off + j * 8, none⟩ = some (.int .i64 (xs.getD j default).slot) ∧ w.cell? ⟨b, off + j * 8 + 1, none⟩ = some (.int .i64 (xs.getD j default).bal.1) ∧ w.cell? ⟨b, off + j * 8 + 2, none⟩ = some (.int .i64 (xs.getD j default).bal.2) ∧
    w.cell? ⟨b, off + j * 8 + 3, none⟩ = some (.bool (xs.getD j default).en.e.noop) ∧ w.cell? ⟨b, off + j * 8 + 4, none⟩ = some (.string (xs.getD j default).en.e.tok) ∧ w.cell? ⟨b, off + j * 8 + 5, none⟩ = some (.string (xs.getD j default).en.e.cart) ∧ w.cell? ⟨b, off + j * 8 + 6, none⟩ = some (.int .i64 (xs.getD j default).en.e.ep) ∧
    w.cell? ⟨b, off + j * 8 + 7, none⟩ = some (.slice (xs.getD j default).en.ao (xs.getD j default).en.e.cut.length (xs.getD j default).en.cap) := by
  obtain ⟨b, off, h1, h2, h3⟩ := h.at hj
  rw [vo_getD hj]
  exact ⟨b, off, h1, h2, h3 0 _ rfl, h3 1 _ rfl, h3 2 _ rfl, h3 3 _ rfl, h3 4 _ rfl, h3 5 _ rfl, h3 6 _ rfl, h3 7 _ rfl⟩
def zeroEC : Array Value := #[.bool false, .string ⟨#[]⟩, .string ⟨#[]⟩, .int .i64 0, .slice none 0 0]
end Go.Proofs.YtfmnbehopdmahaaGreat
/-
  How an argument of type api.Ballot is read.
-/
namespace Go.Proofs.YtfmnbehopdmahaaGreat
open Go.RowKit Go.ChangeShapes Go.WideShapes Go.Deep

/-- Whole numbers of 64 bits. -/
def In64B (x : Int) : Prop := -9223372036854775808 ≤ x ∧ x ≤ 9223372036854775807
theorem in64B_wf {x : Int} (h : (Lit.int .i64 x).wf = true) : In64B x := by
  simp [Lit.wf, IntKind.min, IntKind.max, IntKind.signed, IntKind.bits] at h
  exact ⟨by omega, by omega⟩
theorem arr2B {α : Type} {cs : List α} (h : cs.length = 2) : ∃ c0 c1, cs = [c0, c1] := by
  match cs, h with
  | [c0, c1], _ => exact ⟨c0, c1, rfl⟩
theorem Tryz.cellsBal : Tryz.prog.cellsOf 35 = 2 := by kernel_rfl

set_option maxRecDepth 100000 in
theorem bal_of_trod {H : Type} {enc : TypeId × Value → H} {w : World} {base : Nat} {spare : Nat → Bool} {held : Bool} {fuel : Nat} {cs : List Value} {x : DataW H × List MemPlace} (h : DataW.trod enc Tryz.prog w base spare held fuel 35 cs = some x) :
    ∃ o s : Int, cs = [.int .i64 o, .int .i64 s] ∧ In64B o ∧ In64B s := by
  obtain ⟨xs, n, _, _, hl, hlen, hf⟩ := DataW.trod_struct Tryz.underlying35 h
  rw [Tryz.cellsBal] at hl
  obtain ⟨c0, c1, rfl⟩ := arr2B hl
  obtain ⟨y0, y1, rfl⟩ := arr2B hlen
  have g : ∀ (i : Nat) (f : Field), (#[_, _] : Array Field)[i]? = some f → _ := hf
  have h0 := g 0 _ rfl
  have h1 := g 1 _ rfl
  have k3 : Tryz.prog.cellsOf 3 = 1 := by kernel_rfl
  simp [k3] at h0 h1
  obtain ⟨a0, e0, _, w0⟩ := DataW.trod_int Tryz.underlying3 h0
  obtain ⟨a1, e1, _, w1⟩ := DataW.trod_int Tryz.underlying3 h1
  simp at e0 e1
  subst e0 e1
  exact ⟨a0, a1, rfl, in64B_wf w0, in64B_wf w1⟩
set_option maxRecDepth 100000 in
theorem open_bal {H : Type} {enc : TypeId × Value → H} {w : World} {base b0 : Nat} {r : Reach} {spare : Nat → Bool} {held : Bool} {v : Value} {d : DataW H} {p : List MemPlace} (hv : Value.okWide Tryz.prog w r b0 35 v) (h : DataW.Trod enc Tryz.prog w base spare held 35 v d p) :
    ∃ o s : Int, v = .agg #[.int .i64 o, .int .i64 s] ∧ In64B o ∧ In64B s := by
  obtain ⟨cs, rfl, _⟩ := okWide_struct Tryz.underlying35 hv
  obtain ⟨fuel, hf⟩ := h
  obtain ⟨o, s, ho, h1, h2⟩ := bal_of_trod hf
  refine ⟨o, s, ?_, h1, h2⟩
  simp [Value.cells] at ho
  rw [show cs = #[.int .i64 o, .int .i64 s] from Array.ext' ho]
end Go.Proofs.YtfmnbehopdmahaaGreat
/-
  How an argument of type []api.Voted is read, where it takes no more than the form's own reach.
-/
namespace Go.Proofs.YtfmnbehopdmahaaGreat
open Go.RowKit Go.ChangeShapes Go.WideShapes Go.Deep

theorem weightsAll_inB {H : Type} {P : Program} {e : TypeId} : ∀ {l : List (DataW H)} {d : DataW H}, d ∈ l → ∀ n ∈ d.weights P e, n ∈ DataW.weightsAll P e l
  | [], _, h, _, _ => by cases h
  | x :: l, d, h, n, hn => by
    simp only [DataW.weightsAll, List.mem_append]
    rcases List.mem_cons.1 h with rfl | h
    · exact .inl hn
    · exact .inr (weightsAll_inB h n hn)
/-- What an element of a slice takes. -/
theorem sized_elemB {H : Type} {P : Program} {ts : List TypeId} {ds : List (DataW H)} (h : (DataW.weightsEach P ts ds).all (· ≤ reachBytes) = true) {j : Nat} {t e : TypeId} {elems spare : List (DataW H)} (ht : ts[j]? = some t) (hd : ds[j]? = some (.slice elems spare)) (hu : P.underlying t = some (.slice e))
    {d : DataW H} (hm : d ∈ elems) : ∀ n ∈ d.weights P e, n ≤ reachBytes := by
  intro n hn
  have h2 := weightsAll_inB hm n hn
  have := List.all_eq_true.1 h n (DataW.weights_mem_each ht hd n (by simp only [DataW.weights, hu]; exact List.mem_cons_of_mem _ (List.mem_append_left _ h2)))
  simpa using this
theorem slice_trodB {H : Type} {enc : TypeId × Value → H} {w : World} {base : Nat} {spare : Nat → Bool} {held : Bool} {fuel : Nat} {v : Value} {x : DataW H × List MemPlace} (h : DataW.trod enc Tryz.prog w base spare held fuel 23 [v] = some x) : ∃ a l c, v = .slice a l c := by
  rcases open_ints Tryz.underlying23 Tryz.underlying3 (by kernel_rfl) h with ⟨hcs, _⟩ | ⟨x, l, c, zs, hcs, _⟩
  · simp at hcs; exact ⟨_, _, _, hcs⟩
  · simp at hcs; exact ⟨_, _, _, hcs⟩
theorem arr4B {α : Type} {cs : List α} (h : cs.length = 4) : ∃ c0 c1 c2 c3, cs = [c0, c1, c2, c3] := by
  match cs, h with
  | [c0, c1, c2, c3], _ => exact ⟨c0, c1, c2, c3, rfl⟩
theorem arr5B {α : Type} {cs : List α} (h : cs.length = 5) : ∃ c0 c1 c2 c3 c4, cs = [c0, c1, c2, c3, c4] := by
  match cs, h with
  | [c0, c1, c2, c3, c4], _ => exact ⟨c0, c1, c2, c3, c4, rfl⟩
theorem arr3B {α : Type} {cs : List α} (h : cs.length = 3) : ∃ c0 c1 c2, cs = [c0, c1, c2] := by
  match cs, h with
  | [c0, c1, c2], _ => exact ⟨c0, c1, c2, rfl⟩
theorem arr8B {α : Type} {cs : List α} (h : cs.length = 8) : ∃ c0 c1 c2 c3 c4 c5 c6 c7, cs = [c0, c1, c2, c3, c4, c5, c6, c7] := by
  match cs, h with
  | [c0, c1, c2, c3, c4, c5, c6, c7], _ => exact ⟨c0, c1, c2, c3, c4, c5, c6, c7, rfl⟩
theorem Tryz.cellsSeB : Tryz.prog.cellsOf 37 = 4 := by kernel_rfl
theorem Tryz.cellsEn : Tryz.prog.cellsOf 39 = 5 := by kernel_rfl
theorem Tryz.cellsVo : Tryz.prog.cellsOf 73 = 8 := by kernel_rfl
set_option maxRecDepth 100000 in
theorem sl_sizedB {H : Type} {enc : TypeId × Value → H} {w : World} {base : Nat} {held : Bool} {fuel : Nat} {cs : List Value} {x : DataW H × List MemPlace} (h : DataW.trod enc Tryz.prog w base (fun _ => true) held fuel 37 cs = some x) (hw : ∀ n ∈ x.1.weights Tryz.prog 37, n ≤ reachBytes) :
    ∃ (tk ct : ByteArray) (ep : Int) (cut : List Int) (ao : Option Addr) (cap : Nat), cs = [.string tk, .string ct, .int .i64 ep, .slice ao cut.length cap] ∧ HV w ao cap cut ∧ In64B ep ∧ tk.size ≤ maxLen ∧ ct.size ≤ maxLen := by
  obtain ⟨xs, n, _, hxe, hl, hlen, hf⟩ := DataW.trod_struct Tryz.underlying37 h
  rw [Tryz.cellsSeB] at hl
  obtain ⟨c0, c1, c2, c3, rfl⟩ := arr4B hl
  obtain ⟨y0, y1, y2, y3, rfl⟩ := arr4B hlen
  have g : ∀ (i : Nat) (f : Field), (#[_, _, _, _] : Array Field)[i]? = some f → _ := hf
  have h0 := g 0 _ rfl
  have h1 := g 1 _ rfl
  have h2 := g 2 _ rfl
  have h3 := g 3 _ rfl
  have k3 : Tryz.prog.cellsOf 3 = 1 := by kernel_rfl
  have k9 : Tryz.prog.cellsOf 9 = 1 := by kernel_rfl
  have k27 : Tryz.prog.cellsOf 23 = 1 := by kernel_rfl
  simp [k3, k9, k27] at h0 h1 h2 h3
  obtain ⟨s0, e0, _, w0⟩ := DataW.trod_string Tryz.underlying9 h0
  obtain ⟨s1, e1, _, w1⟩ := DataW.trod_string Tryz.underlying9 h1
  obtain ⟨a2, e2, _, w2⟩ := DataW.trod_int Tryz.underlying3 h2
  obtain ⟨a3, l3, d3, rfl⟩ := slice_trodB h3
  simp at e0 e1 e2
  subst e0 e1 e2
  obtain ⟨ds, hds, ⟨hh, hr⟩, hd⟩ := open_nums (d := y3.1) (p := y3.2) ⟨n, h3⟩
  have hb : l3 ≤ 17592186044416 := by
    rcases hd with h | ⟨es, sp, hd, he⟩
    · omega
    · have hreach := hw ((es.length + sp.length) * 8) (by
        rw [hxe]
        simp only [DataW.weights, Tryz.underlying37]
        refine DataW.weights_mem_each (j := 3) rfl rfl _ ?_
        show _ ∈ DataW.weights Tryz.prog 23 y3.1
        rw [hd]
        simp only [DataW.weights, Tryz.underlying23]
        rw [show Tryz.prog.bytesOf 3 = 8 by kernel_rfl]
        exact List.mem_cons_self)
      simp only [reachBytes] at hreach
      omega
  subst hds
  exact ⟨s0, s1, a2, ds, a3, d3, rfl, ⟨hh, hr, hb⟩, in64B_wf w2, w0, w1⟩
set_option maxRecDepth 100000 in
theorem en_sizedB {H : Type} {enc : TypeId × Value → H} {w : World} {base : Nat} {held : Bool} {fuel : Nat} {cs : List Value} {x : DataW H × List MemPlace} (h : DataW.trod enc Tryz.prog w base (fun _ => true) held fuel 39 cs = some x) (hw : ∀ n ∈ x.1.weights Tryz.prog 39, n ≤ reachBytes) :
    ∃ o : EnM, cs = o.cells ∧ EnOk w o := by
  obtain ⟨xs, n, _, hxe, hl, hlen, hf⟩ := DataW.trod_struct Tryz.underlying39 h
  rw [Tryz.cellsEn] at hl
  obtain ⟨c0, c1, c2, c3, c4, rfl⟩ := arr5B hl
  obtain ⟨y0, y1, rfl⟩ := arr2B hlen
  have g : ∀ (i : Nat) (f : Field), (#[_, _] : Array Field)[i]? = some f → _ := hf
  have h0 := g 0 _ rfl
  have h1 := g 1 _ rfl
  have k4 : Tryz.prog.cellsOf 4 = 1 := by kernel_rfl
  have k5 := Tryz.cellsSeB
  simp [k4, k5] at h0 h1
  obtain ⟨b0, e0, _⟩ := DataW.trod_bool Tryz.underlying4 h0
  simp at e0
  subst e0
  obtain ⟨tk, ct, ep, cut, ao, cap, e1, hv, hi, ht, hc⟩ := sl_sizedB h1 (fun m hm => hw m (by
    rw [hxe]
    simp only [DataW.weights, Tryz.underlying39]
    exact DataW.weights_mem_each (j := 1) rfl rfl _ hm))
  simp at e1
  obtain ⟨rfl, rfl, rfl, rfl⟩ := e1
  exact ⟨⟨⟨b0, tk, ct, ep, cut⟩, ao, cap⟩, rfl, ⟨hv, hi, ht, hc⟩⟩
set_option maxRecDepth 100000 in
theorem vo_sized {H : Type} {enc : TypeId × Value → H} {w : World} {base : Nat} {held : Bool} {fuel : Nat} {cs : List Value} {x : DataW H × List MemPlace} (h : DataW.trod enc Tryz.prog w base (fun _ => true) held fuel 73 cs = some x) (hw : ∀ n ∈ x.1.weights Tryz.prog 73, n ≤ reachBytes) :
    ∃ o : VoM, cs = o.cells ∧ VoOk w o := by
  obtain ⟨xs, n, _, hxe, hl, hlen, hf⟩ := DataW.trod_struct Tryz.underlying73 h
  rw [Tryz.cellsVo] at hl
  obtain ⟨c0, c1, c2, c3, c4, c5, c6, c7, rfl⟩ := arr8B hl
  obtain ⟨y0, y1, y2, rfl⟩ := arr3B hlen
  have g : ∀ (i : Nat) (f : Field), (#[_, _, _] : Array Field)[i]? = some f → _ := hf
  have h0 := g 0 _ rfl
  have h1 := g 1 _ rfl
  have h2 := g 2 _ rfl
  have k3 : Tryz.prog.cellsOf 3 = 1 := by kernel_rfl
  have k4 := Tryz.cellsBal
  have k5 := Tryz.cellsEn
  simp [k3, k4, k5] at h0 h1 h2
  obtain ⟨a0, e0, _, w0⟩ := DataW.trod_int Tryz.underlying3 h0
  obtain ⟨r, m, e1, w1, w2⟩ := bal_of_trod h1
  simp at e0 e1
  subst e0
  obtain ⟨rfl, rfl⟩ := e1
  obtain ⟨o, e2, ho⟩ := en_sizedB h2 (fun m hm => hw m (by
    rw [hxe]
    simp only [DataW.weights, Tryz.underlying73]
    exact DataW.weights_mem_each (j := 2) rfl rfl _ hm))
  simp [EnM.cells] at e2
  obtain ⟨rfl, rfl, rfl, rfl, rfl⟩ := e2
  exact ⟨⟨a0, (r, m), o⟩, rfl, ⟨ho, in64B_wf w0, w1, w2⟩⟩
set_option maxRecDepth 100000 in
theorem open_vos {H : Type} {enc : TypeId × Value → H} {w : World} {base : Nat} {held : Bool} {ao : Option Addr} {len cap : Nat} {d : DataW H} {p : List MemPlace} (h : DataW.Trod enc Tryz.prog w base (fun _ => true) held 40 (.slice ao len cap) d p)
    (hw : ∀ es sp, d = .slice es sp → ∀ x ∈ es, ∀ n ∈ x.weights Tryz.prog 73, n ≤ reachBytes) :
    ∃ os : List VoM, os.length = len ∧ (HeldVo w ao os ∧ len ≤ cap) ∧ (len = 0 ∨ ∃ es sp, d = .slice es sp ∧ es.length = len) := by
  obtain ⟨fuel, hf⟩ := h
  rcases open_slice Tryz.underlying40 hf with ⟨hcs, hx⟩ | ⟨a, l, c, m, n, Dd, Pl, hcs, _, hl, hm, hmm, hx, hall⟩
  · simp [Value.cells] at hcs
    obtain ⟨rfl, rfl, rfl⟩ := hcs
    exact ⟨[], rfl, ⟨⟨fun o ho => (by cases ho), .inl rfl⟩, Nat.le_refl _⟩, .inl rfl⟩
  · simp [Value.cells] at hcs
    obtain ⟨rfl, rfl, rfl⟩ := hcs
    rw [Tryz.cellsVo] at hall
    have hlm : len ≤ m := by rw [hmm]; split <;> omega
    simp only [Prod.mk.injEq] at hx
    obtain ⟨O, hO⟩ := choose_lt (α := VoM) (n := len) (p := fun i o => VoOk w o ∧ w.cells? base (a.add (i * 8)) 8 = some o.cells) (fun i hi => by
      obtain ⟨cs', h1, h2⟩ := hall i (by omega)
      obtain ⟨o, rfl, hok⟩ := vo_sized h2 (hw _ _ hx.1 _ (List.mem_map.2 ⟨i, List.mem_range.2 hi, rfl⟩))
      exact ⟨o, hok, h1⟩)
    refine ⟨(List.range len).map O, by simp, ⟨⟨fun o ho => ?_, ?_⟩, hl⟩, .inr ⟨_, _, hx.1, by simp⟩⟩
    · obtain ⟨i, hi, rfl⟩ := List.mem_map.1 ho
      exact (hO i (List.mem_range.1 hi)).1
    · by_cases h0 : len = 0
      · left
        simp [h0]
      · right
        have hc0 : ∀ i, i < len → ∀ c u, (O i).cells[c]? = some u → w.cell? (a.add (i * 8 + c)) = some u := by
          intro i hi c u hu
          have hc := (World.cells?_some (hO i hi).2).2.2 c (by have := (List.getElem?_eq_some_iff.1 hu).1; simpa [VoM.cells] using this)
          rw [add_add] at hc
          rw [hc, hu]
        obtain ⟨b, off, spot⟩ := a
        have hz := hc0 0 (by omega) 0 _ rfl
        have hspot : spot = none := by simpa [Addr.add] using World.cell?_spot hz
        subst hspot
        have hlt := World.block_lt_of_cell? w _ hz
        refine ⟨b, off, rfl, by simpa [Addr.add] using hlt, fun j hj c u hu => ?_⟩
        have hj' : j < len := by simpa using hj
        have := hc0 j hj' c u (by simpa using hu)
        rwa [Addr.add_lit, ← Nat.add_assoc] at this
end Go.Proofs.YtfmnbehopdmahaaGreat
