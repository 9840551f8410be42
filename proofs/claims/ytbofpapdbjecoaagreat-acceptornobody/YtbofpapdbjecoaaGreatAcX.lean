/-
  Package acceptor: On of any message.
-/
import Derived.Test.YtbofpapdbjecoaaGreatAcJa
import Derived.Test.YtbofpapdbjecoaaGreatAcJb
import Derived.Test.YtbofpapdbjecoaaGreatAcJc
namespace Go.Proofs.YtbofpapdbjecoaaGreat
open Go.RowKit Go.Maps

theorem kindA_or (a : Ac) (x : MsM) : kindA a x = 5 ∨ kindA a x = 2 ∨ kindA a x = 4 := by
  unfold kindA
  split
  · exact .inl rfl
  · split
    · exact .inr (.inl rfl)
    · split
      · exact .inl rfl
      · exact .inr (.inr rfl)
theorem AcAt.on {w : World} {p m : Nat} {a : Ac} (h : AcAt w p m a) (x : MsM) (hx : MsOk w x) (hsep : ∀ b off, x.en.ao = some ⟨b, off, none⟩ → x.en.e.cut ≠ [] → b ≠ p) : Calls Tryz.prog 11 #[.pointer (some ⟨p, 0, none⟩), x.val] w (OnP w p m a x) := by
  by_cases ht : takesA a x = true
  · rcases kindA_or a x with hk | hk | hk
    · exact h.on_5 x hx hsep ⟨ht, hk⟩
    · exact h.on_2 x hx hsep ⟨ht, hk⟩
    · exact h.on_4 x hx hsep ⟨ht, hk⟩
  · exact h.on_no x hx hsep ht
end Go.Proofs.YtbofpapdbjecoaaGreat
/-
  Acceptors behind a first world; what a message makes of promises and votes, for the laws.
-/
namespace Go.Proofs.YtbofpapdbjecoaaGreat
open Go.RowKit Go.Maps

theorem kind5_after {a : Ac} {x : MsM} (h : kindA a x = 5) : afterA a x = a := by
  unfold afterA
  rw [if_neg (by rw [h]; decide), if_neg (by rw [h]; decide)]
theorem kind5_rec {a : Ac} {x : MsM} (h : kindA a x = 5) : (if changesA a x = true then recOf x else ⟨#[]⟩) = (⟨#[]⟩ : ByteArray) := by
  have hc : changesA a x = false := by
    unfold changesA
    rw [if_neg (by rw [h]; decide), if_neg (by rw [h]; decide)]
  rw [hc]
  rfl
theorem kind_other {a : Ac} {x : MsM} (h : kindA a x ≠ 5) : ¬ 0 < cmpB a.pr x.bal := fun hc => h (by unfold kindA; rw [if_pos hc])
theorem kindNot5_after {a : Ac} {x : MsM} (h : kindA a x ≠ 5) : (afterA a x).pr = x.bal := by
  unfold afterA
  rcases kindA_or a x with k | k | k
  · exact absurd k h
  · rw [if_pos k]; rfl
  · rw [if_neg (by rw [k]; decide), if_pos k]; rfl
theorem less_kind {a : Ac} {x : MsM} (h : cmpB x.bal a.pr < 0) : kindA a x = 5 := by
  unfold kindA
  rw [if_pos (by rw [cmpB_neg]; omega)]
theorem after_le {a : Ac} {x : MsM} : ¬ cmpB (afterA a x).pr a.pr < 0 := by
  by_cases h : kindA a x = 5
  · rw [kind5_after h, cmpB_same]; omega
  · rw [kindNot5_after h, cmpB_neg]
    have := kind_other h
    omega
theorem prep_le {a : Ac} {x : MsM} (hx : x.kind = 1) : ¬ 0 < cmpB x.bal (afterA a x).pr := by
  by_cases h : kindA a x = 5
  · rw [kind5_after h]
    unfold kindA at h
    by_cases hc : 0 < cmpB a.pr x.bal
    · rw [cmpB_neg]; omega
    · rw [if_neg hc, if_pos hx] at h
      exact absurd h (by decide)
  · rw [kindNot5_after h, cmpB_same]; omega
/-- The votes that Votes answers. -/
theorem fromTo_all {a : Ac} (h : AcOk a) : fromTo a 0 a.ks.length = a.ks.map (fun t => (t, (a.f t).getD dfVt)) := by
  unfold fromTo
  rw [List.take_length, List.filter_eq_self.2 (fun t ht => decide_eq_true (h.slot t ht).1)]
theorem rises_getD {l : List Int} (h : Rises l) {k : Nat} (hk : k + 1 < l.length) : l.getD k 0 < l.getD (k + 1) 0 := by
  rw [show l.getD k 0 = l[k] by simp [List.getD, List.getElem?_eq_getElem (Nat.lt_of_succ_lt hk)], show l.getD (k + 1) 0 = l[k + 1] by simp [List.getD, List.getElem?_eq_getElem hk]]
  exact List.pairwise_iff_getElem.1 h k (k + 1) _ hk (Nat.lt_succ_self k)
theorem votes_at {a : Ac} (h : AcOk a) {ys : List VoM} (hy : ys.map VoM.sv = fromTo a 0 a.ks.length) {k : Nat} (hk : k < ys.length) : ∃ hk' : k < a.ks.length, (ys[k]'hk).slot = a.ks[k] ∧ cmpB (ys[k]'hk).bal a.pr ≤ 0 := by
  rw [fromTo_all h] at hy
  have hl : ys.length = a.ks.length := by have := congrArg List.length hy; simpa using this
  have hk' : k < a.ks.length := by omega
  have h1 : (ys.map VoM.sv)[k]? = (a.ks.map (fun t => (t, (a.f t).getD dfVt)))[k]? := by rw [hy]
  rw [List.getElem?_map, List.getElem?_map, List.getElem?_eq_getElem hk, List.getElem?_eq_getElem hk'] at h1
  have h2 := Option.some.inj h1
  have h3 : (ys[k]'hk).slot = a.ks[k] := congrArg Prod.fst h2
  have h4 : (ys[k]'hk).vt = (a.f a.ks[k]).getD dfVt := congrArg Prod.snd h2
  refine ⟨hk', h3, ?_⟩
  have hs := (h.has a.ks[k]).1 (List.getElem_mem hk')
  obtain ⟨v, hv⟩ := Option.isSome_iff_exists.1 hs
  rw [hv] at h4
  have h5 : (ys[k]'hk).bal = v.1 := congrArg Prod.fst h4
  rw [h5]
  exact (h.right _ _ hv).2.2
theorem votes_rise {a : Ac} (h : AcOk a) {ys : List VoM} (hy : ys.map VoM.sv = fromTo a 0 a.ks.length) {k : Nat} (hk : k + 1 < ys.length) : (ys[k]'(Nat.lt_of_succ_lt hk)).slot < (ys[k + 1]'hk).slot := by
  obtain ⟨h1, h2, _⟩ := votes_at h hy (Nat.lt_of_succ_lt hk)
  obtain ⟨h3, h4, _⟩ := votes_at h hy hk
  rw [h2, h4]
  exact List.pairwise_iff_getElem.1 h.rise k (k + 1) h1 h3 (Nat.lt_succ_self k)
/-- An acceptor whose blocks lie behind B. -/
structure AcIn (B : Nat) (w : World) (p m : Nat) (a : Ac) : Prop where
  at' : AcAt w p m a
  bp : B ≤ p
  bm : B ≤ m
theorem AcIn.below {B : Nat} {w w' : World} {p m : Nat} {a : Ac} (h : AcIn B w p m a) (hb : Below w.heap.size w w') : AcIn B w' p m a := ⟨h.at'.below hb, h.bp, h.bm⟩
/-- A message that lies below B. -/
def MsB (B : Nat) (x : MsM) : Prop := ∀ b off, x.en.ao = some ⟨b, off, none⟩ → x.en.e.cut ≠ [] → b < B
theorem msB_of {w : World} {x : MsM} (h : MsOk w x) : MsB w.heap.size x := by
  intro b off e hne
  rcases h.en.cut.held.2 with h0 | ⟨b', off', h1, h2, _⟩
  · exact absurd h0 hne
  · rw [e] at h1
    cases h1
    exact h2
/-- What On does, below B. -/
theorem AcIn.on {w : World} {B p m : Nat} {a : Ac} (h : AcIn B w p m a) (hB : B ≤ w.heap.size) (x : MsM) (hx : MsOk w x) (hs : MsB B x) : Calls Tryz.prog 11 #[.pointer (some ⟨p, 0, none⟩), x.val] w fun e w' =>
    (if takesA a x = true then ∃ vo vc ys, e = .returned (.tuple #[(ansM (afterA a x) x (kindA a x) vo vc ys).val, .string (if changesA a x = true then recOf x else ⟨#[]⟩), .bool true]) ∧ AcIn B w' p m (afterA a x)
      else e = .returned (.tuple #[.agg #[.int .i64 0, .int .i64 0, .int .i64 0, .int .i64 0, .int .i64 0, .int .i64 0, .bool false, .string ⟨#[]⟩, .string ⟨#[]⟩, .int .i64 0, .slice none 0 0, .slice none 0 0, .slice none 0 0, .slice none 0 0, .int .i64 0], .string ⟨#[]⟩, .bool false]) ∧ AcIn B w' p m a) ∧ Turns (FootA p m) w w' ∧ Below B w w' := by
  refine (h.at'.on x hx (fun b off e hne hp => by have h1 := hs b off e hne; have h2 := h.bp; omega)).mono ?_
  intro e w' hP
  unfold OnP at hP
  have hbl : ∀ {V : World}, Turns (FootA p m) w V → Below B w V := fun ht => ht.below (fun i hi => by
    rcases hi with rfl | rfl
    · exact h.bp
    · exact h.bm) hB
  by_cases ht : takesA a x = true
  · rw [if_pos ht] at hP
    obtain ⟨vo, vc, ys, he, _, _, _, hat, htu⟩ := hP
    rw [if_pos ht]
    exact ⟨⟨vo, vc, ys, he, ⟨hat, h.bp, h.bm⟩⟩, htu, hbl htu⟩
  · rw [if_neg ht] at hP
    obtain ⟨he, hat, hb⟩ := hP
    rw [if_neg ht]
    have htu : Turns (FootA p m) w w' := Turns.of_below hb (Nat.le_refl _)
    exact ⟨⟨he, ⟨hat, h.bp, h.bm⟩⟩, htu, hbl htu⟩
theorem AcIn.on_yes {w : World} {B p m : Nat} {a : Ac} (h : AcIn B w p m a) (hB : B ≤ w.heap.size) (x : MsM) (hx : MsOk w x) (hs : MsB B x) (ht : takesA a x = true) {b : Ac} {k r n nd : Int} {R : ByteArray} (hb : afterA a x = b) (hk : kindA a x = k) (hR : (if changesA a x = true then recOf x else ⟨#[]⟩) = R) (hp : b.pr = (r, n)) (hn : b.node = nd) : Calls Tryz.prog 11 #[.pointer (some ⟨p, 0, none⟩), x.val] w fun e w' =>
    (∃ vo vc N, e = .returned (.tuple #[.agg #[.int .i64 k, .int .i64 nd, .int .i64 x.frm, .int .i64 r, .int .i64 n, .int .i64 x.slot, .bool true, .string ⟨#[]⟩, .string ⟨#[]⟩, .int .i64 0, .slice none 0 0, .slice vo N vc, .slice none 0 0, .slice none 0 0, .int .i64 0], .string R, .bool true])) ∧ AcIn B w' p m b ∧ Turns (FootA p m) w w' ∧ Below B w w' := by
  refine (h.on hB x hx hs).mono ?_
  rintro e w' ⟨h1, h2, h3⟩
  rw [if_pos ht] at h1
  obtain ⟨vo, vc, ys, he, hat⟩ := h1
  rw [hb] at he hat
  refine ⟨⟨vo, vc, ys.length, ?_⟩, hat, h2, h3⟩
  rw [he, hk, hR]
  simp only [ansM, MsM.val, noopEn, List.length_nil]
  rw [hp, hn]
theorem AcIn.on_no {w : World} {B p m : Nat} {a : Ac} (h : AcIn B w p m a) (hB : B ≤ w.heap.size) (x : MsM) (hx : MsOk w x) (hs : MsB B x) (ht : ¬ takesA a x = true) : Calls Tryz.prog 11 #[.pointer (some ⟨p, 0, none⟩), x.val] w fun e w' =>
    e = .returned (.tuple #[.agg #[.int .i64 0, .int .i64 0, .int .i64 0, .int .i64 0, .int .i64 0, .int .i64 0, .bool false, .string ⟨#[]⟩, .string ⟨#[]⟩, .int .i64 0, .slice none 0 0, .slice none 0 0, .slice none 0 0, .slice none 0 0, .int .i64 0], .string ⟨#[]⟩, .bool false]) ∧ AcIn B w' p m a ∧ Turns (FootA p m) w w' ∧ Below B w w' := by
  refine (h.on hB x hx hs).mono ?_
  rintro e w' ⟨h1, h2, h3⟩
  rw [if_neg ht] at h1
  exact ⟨h1.1, h1.2, h2, h3⟩
/-- What is known of what On told. -/
structure OnF (a : Ac) (x : MsM) (k r n : Int) (R : ByteArray) (ok : Bool) (b : Ac) : Prop where
  is : takesA a x = ok
  yes : ok = true → k = kindA a x ∧ (r, n) = b.pr ∧ b = afterA a x ∧ R = (if changesA a x = true then recOf x else ⟨#[]⟩)
  no : ok = false → b = a ∧ R = ⟨#[]⟩
theorem AcIn.on_all {w : World} {B p m : Nat} {a : Ac} (h : AcIn B w p m a) (hB : B ≤ w.heap.size) (x : MsM) (hx : MsOk w x) (hs : MsB B x) : Calls Tryz.prog 11 #[.pointer (some ⟨p, 0, none⟩), x.val] w fun e w' =>
    ∃ k nd fr r n sl np vo N vc R ok b, e = .returned (.tuple #[.agg #[.int .i64 k, .int .i64 nd, .int .i64 fr, .int .i64 r, .int .i64 n, .int .i64 sl, .bool np, .string ⟨#[]⟩, .string ⟨#[]⟩, .int .i64 0, .slice none 0 0, .slice vo N vc, .slice none 0 0, .slice none 0 0, .int .i64 0], .string R, .bool ok]) ∧ OnF a x k r n R ok b ∧ AcIn B w' p m b ∧ Turns (FootA p m) w w' ∧ Below B w w' := by
  by_cases ht : takesA a x = true
  · refine (h.on_yes hB x hx hs ht rfl rfl rfl (r := (afterA a x).pr.1) (n := (afterA a x).pr.2) rfl rfl).mono ?_
    rintro e w' ⟨⟨vo, vc, N, he⟩, h1, h2, h3⟩
    exact ⟨_, _, _, _, _, _, _, _, _, _, _, _, _, he, ⟨ht, fun _ => ⟨rfl, rfl, rfl, rfl⟩, fun h => by cases h⟩, h1, h2, h3⟩
  · refine (h.on_no hB x hx hs ht).mono ?_
    rintro e w' ⟨he, h1, h2, h3⟩
    exact ⟨_, _, _, _, _, _, _, _, _, _, _, _, _, he, ⟨by simpa using ht, fun h => (by cases h), fun _ => ⟨rfl, rfl⟩⟩, h1, h2, h3⟩
theorem AcIn.on_any {w : World} {B p m : Nat} {a : Ac} (h : AcIn B w p m a) (hB : B ≤ w.heap.size) (x : MsM) (hx : MsOk w x) (hs : MsB B x) : Calls Tryz.prog 11 #[.pointer (some ⟨p, 0, none⟩), x.val] w fun e w' => (∃ v, e = .returned v) ∧ (∃ b, AcIn B w' p m b) ∧ Below B w w' := by
  refine (h.on_all hB x hx hs).mono ?_
  rintro e w' ⟨k, nd, fr, r, n, sl, np, vo, N, vc, R, ok, b, he, _, h1, _, h2⟩
  exact ⟨⟨_, he⟩, ⟨b, h1⟩, h2⟩
end Go.Proofs.YtbofpapdbjecoaaGreat
