/-
  Package codec: Msg.
-/
import Derived.Test.YtgghfmdciohinaaCodY
import Derived.Test.YtgghfmdciohinaaCodC
import Derived.Test.YtgghfmdciohinaaLrS
import Derived.Laws.ResultCell
namespace Go.Proofs.Ytgghfmdciohinaa
open Go.RowKit Go.Maps
attribute [local go_sem] Oper.semAt_some

theorem own_sliceC {w : World} {B e n sz : Nat} {v : Value} {xs : List Value} (h : w.ownsRow B e sz v n xs) : ∃ eo cap, v = .slice eo n cap := by
  rcases h.2 with ⟨rfl, rfl⟩ | ⟨g, cap, cur, rfl, _⟩
  · exact ⟨_, _, rfl⟩
  · exact ⟨_, _, rfl⟩
theorem own_monoC {w : World} {base base' : Nat} {e : TypeId} {size : Nat} {v : Value} {n : Nat} {xs : List Value} (h : w.ownsRow base e size v n xs) (hb : base' ≤ base) : w.ownsRow base' e size v n xs := by
  refine ⟨h.1, ?_⟩
  rcases h.2 with h1 | ⟨g, cap, cur, h1, h2, h3⟩
  · exact .inl h1
  · exact .inr ⟨g, cap, cur, h1, Nat.le_trans hb h2, h3⟩
/-- What codec.Msg answers. -/
def MsgP (w : World) (x : MsM) (e : Ending) (w' : World) : Prop :=
  Below w.heap.size w w' ∧ (if RightMs x = true then (if (encMs x).length ≤ 65536 then ∃ v, e = .returned (.tuple #[v, .int .i64 0]) ∧ w'.ownsRow w.heap.size 5 1 v (encMs x).length (nums (encMs x)) else e = .returned (.tuple #[.slice none 0 0, .int .i64 3])) else e = .returned (.tuple #[.slice none 0 0, .int .i64 1]))
set_option maxRecDepth 100000 in
set_option maxHeartbeats 1000000 in
theorem writtenM_any (V : World) (x : MsM) (hx : MsOk V x) : Calls Try.prog 44 #[x.val, .func (.func 45) #[] #[], .func (.func 46) #[] #[]] V (MsgP V x) := by
  obtain ⟨W, hW⟩ : ∃ W, W = V.alloc (.cells x.cells.toArray 70) := ⟨_, rfl⟩
  have HB : Hid (Below V.heap.size V W) := by rw [hW]; exact (Below.refl _ _).alloc (Nat.le_refl _) _
  have HK : Hid (Blk W V.heap.size 70 x.cells) := by rw [hW]; exact Blk.new V _ _
  have HM := hid (mayMsg_C W x (hx.below HB.out))
  have HOX := hid hx
  have HW := hid hW
  clear hW hx
  by_cases hr : RightMs x = true
  · rw [hr] at HM
    obtain ⟨L, HL⟩ : ∃ m, Hid ((encMs x).length = m) := ⟨_, hid rfl⟩
    have HA : Hid (∀ U, Below V.heap.size V U → Calls Try.prog 46 #[.slice none 0 0, x.val] U fun e w' => ∃ v', e = .returned v' ∧ Hid (w'.ownsRow U.heap.size 5 1 v' L (nums (encMs x))) ∧ Below U.heap.size U w') := fun U hU => by
      refine (appendMsg_T (.slice none 0 0) 0 [] x U.heap.size U (rightMs_iff hr) (fun Z hZ => (HOX.out.below hU).below hZ) (World.ownsRow_nil _ _ _ _) (Nat.le_refl _) (by omega)).mono ?_
      rintro e w' ⟨v', rfl, k1, k2, _⟩
      rw [HL.out, Nat.zero_add, List.nil_append] at k1
      exact ⟨v', rfl, k1, k2⟩
    have HRR := hid hr
    clear hr
    obtain ⟨kd, fr, to, ⟨b1, b2⟩, sl, ⟨⟨np, tk, ct, ep, cut⟩, ao1, cap1⟩, vo, vc, vs, so, sc, seen, eo, ec, evs, ti⟩ := x
    simp only [MsM.val, MsM.cells] at HM HA HW HK ⊢
    by_cases hll : L ≤ 65536
    · have HLL : Hid (L ≤ 65536) := hll
      have hbig : ¬ (65536 : Int) < (L : Int) := by omega
      clear hll
      go_enter Try.func44, Try.ntmps44
      go_wp2_with fail
      rw [← HW.out]
      obtain ⟨p, hp⟩ : ∃ p, p = V.heap.size := ⟨_, rfl⟩
      rw [← hp] at HK ⊢
      clear hp
      refine HM.out.mono ?_
      rintro e w1 ⟨rfl, hb1⟩
      have HB1 := hid (bt' HB.out hb1)
      have hk := HK.out.below hb1 HK.out.lt
      have c0 := hk.cell (i := 0) rfl
      have c1 := hk.cell (i := 1) rfl
      have c2 := hk.cell (i := 2) rfl
      have c3 := hk.cell (i := 3) rfl
      have c4 := hk.cell (i := 4) rfl
      have c5 := hk.cell (i := 5) rfl
      have c6 := hk.cell (i := 6) rfl
      have c7 := hk.cell (i := 7) rfl
      have c8 := hk.cell (i := 8) rfl
      have c9 := hk.cell (i := 9) rfl
      have c10 := hk.cell (i := 10) rfl
      have c11 := hk.cell (i := 11) rfl
      have c12 := hk.cell (i := 12) rfl
      have c13 := hk.cell (i := 13) rfl
      have c14 := hk.cell (i := 14) rfl
      clear hb1 hk HM
      go_wp2_with fail
      refine (HA.out _ HB1.out).mono ?_
      rintro e w2 ⟨v2, rfl, hr2, hb2⟩
      obtain ⟨o, c, hv⟩ := own_sliceC hr2.out
      have HB2 := hid (bt' HB1.out hb2)
      have HR2 := hid (own_monoC hr2.out HB1.out.size)
      subst hv
      clear hr2 hb2
      go_wp2
      go_ret2
      refine ⟨HB2.out, ?_⟩
      rw [if_pos HRR.out, HL.out, if_pos HLL.out]
      exact ⟨_, rfl, HR2.out⟩
    · have HLL : Hid (¬ L ≤ 65536) := hll
      have hbig : (65536 : Int) < (L : Int) := by omega
      clear hll
      go_enter Try.func44, Try.ntmps44
      go_wp2_with fail
      rw [← HW.out]
      obtain ⟨p, hp⟩ : ∃ p, p = V.heap.size := ⟨_, rfl⟩
      rw [← hp] at HK ⊢
      clear hp
      refine HM.out.mono ?_
      rintro e w1 ⟨rfl, hb1⟩
      have HB1 := hid (bt' HB.out hb1)
      have hk := HK.out.below hb1 HK.out.lt
      have c0 := hk.cell (i := 0) rfl
      have c1 := hk.cell (i := 1) rfl
      have c2 := hk.cell (i := 2) rfl
      have c3 := hk.cell (i := 3) rfl
      have c4 := hk.cell (i := 4) rfl
      have c5 := hk.cell (i := 5) rfl
      have c6 := hk.cell (i := 6) rfl
      have c7 := hk.cell (i := 7) rfl
      have c8 := hk.cell (i := 8) rfl
      have c9 := hk.cell (i := 9) rfl
      have c10 := hk.cell (i := 10) rfl
      have c11 := hk.cell (i := 11) rfl
      have c12 := hk.cell (i := 12) rfl
      have c13 := hk.cell (i := 13) rfl
      have c14 := hk.cell (i := 14) rfl
      clear hb1 hk HM
      go_wp2_with fail
      refine (HA.out _ HB1.out).mono ?_
      rintro e w2 ⟨v2, rfl, hr2, hb2⟩
      obtain ⟨o, c, hv⟩ := own_sliceC hr2.out
      have HB2 := hid (bt' HB1.out hb2)
      have HR2 := hid (own_monoC hr2.out HB1.out.size)
      subst hv
      clear hr2 hb2
      go_wp2
      go_ret2
      refine ⟨HB2.out, ?_⟩
      rw [if_pos HRR.out, HL.out, if_neg HLL.out]
      rfl
  · rw [Bool.eq_false_iff.2 hr] at HM
    have HRR := hid hr
    clear hr
    obtain ⟨kd, fr, to, ⟨b1, b2⟩, sl, ⟨⟨np, tk, ct, ep, cut⟩, ao1, cap1⟩, vo, vc, vs, so, sc, seen, eo, ec, evs, ti⟩ := x
    simp only [MsM.val, MsM.cells] at HM HW HK ⊢
    go_enter Try.func44, Try.ntmps44
    go_wp2_with fail
    rw [← HW.out]
    obtain ⟨p, hp⟩ : ∃ p, p = V.heap.size := ⟨_, rfl⟩
    rw [← hp] at HK ⊢
    clear hp
    refine HM.out.mono ?_
    rintro e w1 ⟨rfl, hb1⟩
    have HB1 := hid (bt' HB.out hb1)
    clear hb1 HM
    go_wp2
    go_ret2
    refine ⟨HB1.out, ?_⟩
    rw [if_neg HRR.out]
    rfl
set_option maxRecDepth 100000 in
set_option maxHeartbeats 1000000 in
theorem msg_any (w : World) (x : MsM) (hx : MsOk w x) : Calls Try.prog 36 #[x.val] w (MsgP w x) := by
  have H := hid (fun o => writtenM_any (w.alloc o) x (hx.below ((Below.refl _ _).alloc (Nat.le_refl _) o)))
  have HMONO : Hid (∀ o e w', MsgP (w.alloc o) x e w' → (∃ v c, e = .returned (.tuple #[v, .int .i64 c])) ∧ MsgP w x e w') := fun o e w' h => by
    obtain ⟨h1, h2⟩ := h
    have hb : Below w.heap.size w (w.alloc o) := (Below.refl _ _).alloc (Nat.le_refl _) o
    by_cases hr : RightMs x = true
    · rw [if_pos hr] at h2
      by_cases hl : (encMs x).length ≤ 65536
      · rw [if_pos hl] at h2
        obtain ⟨v, rfl, h3⟩ := h2
        exact ⟨⟨_, _, rfl⟩, bt' hb h1, by rw [if_pos hr, if_pos hl]; exact ⟨v, rfl, own_monoC h3 hb.size⟩⟩
      · rw [if_neg hl] at h2
        subst h2
        exact ⟨⟨_, _, rfl⟩, bt' hb h1, by rw [if_pos hr, if_neg hl]⟩
    · rw [if_neg hr] at h2
      subst h2
      exact ⟨⟨_, _, rfl⟩, bt' hb h1, by rw [if_neg hr]⟩
  clear hx
  obtain ⟨kd, fr, to, ⟨b1, b2⟩, sl, ⟨⟨np, tk, ct, ep, cut⟩, ao1, cap1⟩, vo, vc, vs, so, sc, seen, eo, ec, evs, ti⟩ := x
  simp only [MsM.val] at H ⊢
  go_enter Try.func36, Try.ntmps36
  go_wp2_with fail
  refine (H.out _).mono ?_
  intro e w' h
  obtain ⟨⟨v, c, rfl⟩, h2⟩ := HMONO.out _ _ _ h
  have H2 := hid h2
  clear h h2 HMONO H
  go_wp2
  go_ret2
  exact H2.out
end Go.Proofs.Ytgghfmdciohinaa
/-
  Package learner: a learner in memory ('LrAt'); New, closed, has, Prefix, Len, and all calls of a nil one.
-/
namespace Go.Proofs.Ytgghfmdciohinaa
open Go.RowKit Go.Maps

def zeroEn : Value := .agg #[.bool false, .string ⟨#[]⟩, .string ⟨#[]⟩, .int .i64 0, .slice none 0 0]
theorem Try.zeroEnV (w : World) : (zeroValue 33).run Try.prog w = .ok zeroEn w := by kernel_rfl
/-- Entries in a map, each at its slot. -/
structure EnMap (w : World) (m : Nat) (S : Int → Option EnM) (n : Nat) (D : DataW Value) : Prop where
  map : w.ownsMap Try.prog 3 valR m n D
  key : ∀ s, I64 s → look D (.int .i64 s) = (S s).map EnM.val
  ok : ∀ s x, S s = some x → EnKeep w x
  cnt : Maps.size D = n
section
variable {w w' : World} {m n : Nat} {S : Int → Option EnM} {D : DataW Value}
theorem EnMap.turned {F : Nat → Prop} (h : EnMap w m S n D) (ht : Turns F w w') (hm : ¬ F m) (hF : NoNum w F) : EnMap w' m S n D :=
  ⟨ht.map h.map hm, h.key, fun s x hx => (h.ok s x hx).turned hF ht, h.cnt⟩
theorem EnMap.below (h : EnMap w m S n D) (hb : Below w.heap.size w w') : EnMap w' m S n D := h.turned (F := fun _ => False) (Turns.of_below hb (Nat.le_refl _)) (fun h => h) (noNum_none w)
theorem EnMap.look (h : EnMap w m S n D) {s : Int} (hs : I64 s) : (Instr.lookup 47 (.map (some m)) (.int .i64 s) true).run Try.prog w = .ok (.tuple #[((S s).map EnM.val).getD zeroEn, .bool (S s).isSome]) w := by
  have := run_look_ok h.map Try.keyedIntL Try.underlying47 (Try.zeroEnV w) (Try.keyIntL hs)
  rw [h.key s hs] at this
  simpa using this
theorem EnMap.look1 (h : EnMap w m S n D) {s : Int} (hs : I64 s) : (Instr.lookup 47 (.map (some m)) (.int .i64 s) false).run Try.prog w = .ok (((S s).map EnM.val).getD zeroEn) w := by
  have := run_look h.map Try.keyedIntL Try.underlying47 (Try.zeroEnV w) (Try.keyIntL hs)
  rw [h.key s hs] at this
  exact this
def updE (S : Int → Option EnM) (s : Int) (x : EnM) : Int → Option EnM := fun t => if t = s then some x else S t
theorem EnMap.put (h : EnMap w m S n D) (hn : n < maxLen) {s : Int} (hs : I64 s) (x : EnM) (hk : EnKeep w x) (hS : S s = none) :
    ∃ w2, (Instr.mapUpdate 47 (.map (some m)) (.int .i64 s) x.val).run Try.prog w = .ok () w2 ∧ (∃ D', EnMap w2 m (updE S s x) (n + 1) D') ∧ Turns (fun i => i = m) w w2 := by
  obtain ⟨w2, hrun, hown, hturn⟩ := h.map.store Try.keyedIntL Try.underlying47 hn (Try.keyIntL hs) (show valR x.val = some (.held x.val, []) from rfl)
  have ht : Turns (fun i => i = m) w w2 := Turns.of_grown (F := fun i => i = m) hturn.grown (fun k hk => by cases hk; rfl)
  have hni := noNum_map h.map
  refine ⟨w2, hrun, ⟨_, hown, fun t hti => ?_, fun t y hy => ?_, ?_⟩, ht⟩
  · unfold updE
    by_cases e : t = s
    · subst e
      rw [look_put_same h.map.isMap (Try.keyedIntL.key (Try.keyIntL hti)), if_pos rfl]
      rfl
    · rw [look_put_other (keyIntL_ne e), if_neg e]
      exact h.key t hti
  · unfold updE at hy
    by_cases e : t = s
    · rw [if_pos e] at hy
      cases hy
      exact hk.turned hni ht
    · rw [if_neg e] at hy
      exact (h.ok t y hy).turned hni ht
  · have h1 := size_put (k := .int .i64 s) (tidyL h.map) (.held x.val)
    rw [has_look (allHeld_of h.map), h.key _ hs, hS] at h1
    have := h.cnt
    simp at h1
    omega
end
/-- A learner in memory, while its prefix is made longer: its block p, its map m, its prefix, its end. -/
structure LrMid (w : World) (p m pre z : Nat) (g : Lr) : Prop where
  ok : LrOk g
  blk : Blk w p 49 [.map (some m), .int .i64 pre, .int .i64 z]
  all : ∀ s : Int, 0 ≤ s → s < pre → s ∈ g.ks
  fin : IsEnd g.ks z
  map : ∃ S D, EnMap w m S g.ks.length D ∧ ∀ s, (S s).map (·.e) = g.f s
structure LrAt (w : World) (p m pre z : Nat) (g : Lr) : Prop extends LrMid w p m pre z g where
  gap : (pre : Int) ∉ g.ks
def FootR (p m : Nat) (i : Nat) : Prop := i = p ∨ i = m
section
variable {w w' : World} {p m pre z : Nat} {g : Lr}
theorem LrMid.turned {F : Nat → Prop} (h : LrMid w p m pre z g) (ht : Turns F w w') (hd : ∀ i, FootR p m i → ¬ F i) (hF : NoNum w F) : LrMid w' p m pre z g := by
  obtain ⟨S, D, h1, h2⟩ := h.map
  exact ⟨h.ok, ht.blk h.blk (hd p (.inl rfl)), h.all, h.fin, S, D, h1.turned ht (hd m (.inr rfl)) hF, h2⟩
theorem LrAt.turned {F : Nat → Prop} (h : LrAt w p m pre z g) (ht : Turns F w w') (hd : ∀ i, FootR p m i → ¬ F i) (hF : NoNum w F) : LrAt w' p m pre z g := ⟨h.toLrMid.turned ht hd hF, h.gap⟩
theorem LrMid.below (h : LrMid w p m pre z g) (hb : Below w.heap.size w w') : LrMid w' p m pre z g := h.turned (F := fun _ => False) (Turns.of_below hb (Nat.le_refl _)) (fun _ _ h => h) (noNum_none w)
theorem LrAt.below (h : LrAt w p m pre z g) (hb : Below w.heap.size w w') : LrAt w' p m pre z g := ⟨h.toLrMid.below hb, h.gap⟩
theorem LrMid.lt (h : LrMid w p m pre z g) : ∀ i, FootR p m i → i < w.heap.size := by
  obtain ⟨S, D, h1, _⟩ := h.map
  rintro i (rfl | rfl)
  · exact h.blk.lt
  · exact h1.map.lt
theorem LrMid.noNum (h : LrMid w p m pre z g) : NoNum w (FootR p m) := by
  obtain ⟨S, D, h1, _⟩ := h.map
  rintro i (rfl | rfl)
  · exact noNum_blk h.blk (by decide) _ rfl
  · exact noNum_map h1.map _ rfl
theorem LrMid.pne (h : LrMid w p m pre z g) : p ≠ m := by
  obtain ⟨S, D, h1, _⟩ := h.map
  exact h.blk.not_map h1.map
theorem LrAt.isPre (h : LrAt w p m pre z g) : IsPre g.ks pre := ⟨h.all, h.gap⟩
theorem LrMid.pre_le (h : LrMid w p m pre z g) : pre ≤ g.ks.length := Go.Proofs.Ytgghfmdciohinaa.pre_le h.ok.rise (fun s hs => (h.ok.slot s hs).1) h.all
theorem LrMid.end_le (h : LrMid w p m pre z g) : z ≤ 2147483648 := by
  rcases h.fin.top with e | e
  · omega
  · have := (h.ok.slot _ e).2
    omega
theorem LrMid.cells (h : LrMid w p m pre z g) : w.cell? ⟨p, 0, none⟩ = some (.map (some m)) ∧ w.cell? ⟨p, 1, none⟩ = some (.int .i64 pre) ∧ w.cell? ⟨p, 2, none⟩ = some (.int .i64 z) := ⟨h.blk.cell (i := 0) rfl, h.blk.cell (i := 1) rfl, h.blk.cell (i := 2) rfl⟩
end
theorem newLr (w : World) : Calls Try.prog 5 #[] w fun e w' => ∃ p m, e = .returned (.pointer (some ⟨p, 0, none⟩)) ∧ LrAt w' p m 0 0 noLr ∧ Below w.heap.size w w' ∧ w.heap.size ≤ p ∧ w.heap.size ≤ m := by
  have hmm := @run_makeMap Try.prog
  obtain ⟨w1, hw1⟩ : ∃ W, W = w.alloc (.map #[] 0) := ⟨_, rfl⟩
  obtain ⟨w2, hw2⟩ : ∃ W, W = w1.alloc (.cells #[.map (some w.heap.size), .int .i64 0, .int .i64 0] 49) := ⟨_, rfl⟩
  have HW : Hid (w2 = (w.alloc (.map #[] 0)).alloc (.cells #[.map (some w.heap.size), .int .i64 0, .int .i64 0] 49)) := by rw [hw2, hw1]; exact rfl
  have hs1 : w1.heap.size = w.heap.size + 1 := by rw [hw1]; simp
  have hb : Below w.heap.size w w2 := by
    rw [hw2]
    have : Below w.heap.size w w1 := by rw [hw1]; exact (Below.refl _ _).alloc (Nat.le_refl _) _
    exact this.alloc this.size _
  have hk : Blk w2 (w.heap.size + 1) 49 [.map (some w.heap.size), .int .i64 0, .int .i64 0] := by rw [hw2, ← hs1]; exact Blk.new w1 _ _
  have hm : w2.ownsMap Try.prog 3 valR w.heap.size 0 (.map []) := by
    have h1 : w1.ownsMap Try.prog 3 valR w.heap.size 0 (.map []) := by rw [hw1]; exact World.ownsMap_made w _ _ _
    rw [hw2]
    exact (Turns.refl (fun _ => False) w1).alloc _ |>.map h1 (fun h => h)
  have HAT : Hid (LrAt w2 (w.heap.size + 1) w.heap.size 0 0 noLr) := ⟨⟨noLr_ok, hk, fun s h0 h1 => by omega, ⟨fun s hs => by simp [noLr] at hs, .inl rfl⟩, fun _ => none, .map [], ⟨hm, fun s _ => look_empty _, fun s x hx => (by cases hx), rfl⟩, fun s => rfl⟩, by simp [noLr]⟩
  have HB := hid hb
  clear hw1 hw2 hs1 hb hk hm
  go_enter Try.func5, Try.ntmps5
  go_wp2
  go_ret
  rw [← HW.out]
  exact ⟨_, _, rfl, HAT.out, HB.out, by omega, Nat.le_refl _⟩
theorem eql_mapR (W : World) (b : Nat) : (binOp .eql 47 (.map (some b)) (.map none)).run Try.prog W = .ok (.bool false) W := by kernel_rfl
theorem closedR_nil (w : World) : Calls Try.prog 17 #[.pointer none] w fun e w' => e = .returned (.bool true) ∧ w' = w := by
  go_enter Try.func17, Try.ntmps17
  go_wp2
  go_ret
  exact ⟨rfl, rfl⟩
theorem closedR_no (w : World) (p b : Nat) (hc : w.cell? ⟨p, 0, none⟩ = some (.map (some b))) : Calls Try.prog 17 #[.pointer (some ⟨p, 0, none⟩)] w fun e w' => e = .returned (.bool false) ∧ w' = w := by
  go_enter Try.func17, Try.ntmps17
  have he := fun W => eql_mapR W b
  go_wp2
  go_ret
  exact ⟨rfl, rfl⟩
theorem LrMid.closed {w : World} {p m pre z : Nat} {g : Lr} (h : LrMid w p m pre z g) : Calls Try.prog 17 #[.pointer (some ⟨p, 0, none⟩)] w fun e w' => e = .returned (.bool false) ∧ w' = w := closedR_no w p m h.cells.1
theorem has_of {g : Lr} (hg : LrOk g) {S : Int → Option EnM} (h : ∀ s, (S s).map (·.e) = g.f s) (s : Int) : (S s).isSome = decide (s ∈ g.ks) := by
  have h1 := hg.has s
  rw [← h s] at h1
  rw [Bool.eq_iff_iff, decide_eq_true_iff, h1]
  simp
theorem LrMid.has {w : World} {p m pre z : Nat} {g : Lr} (h : LrMid w p m pre z g) (s : Int) (hs : I64 s) : Calls Try.prog 34 #[.pointer (some ⟨p, 0, none⟩), .int .i64 s] w fun e w' => e = .returned (.bool (decide (s ∈ g.ks))) ∧ Below w.heap.size w w' := by
  obtain ⟨c0, _, _⟩ := h.cells
  obtain ⟨S, D, h1, h2⟩ := h.map
  have hlk := h1.look hs
  rw [has_of h.ok h2 s] at hlk
  obtain ⟨q, HQ⟩ : ∃ q, Hid (decide (s ∈ g.ks) = q) := ⟨_, hid rfl⟩
  rw [HQ.out] at hlk ⊢
  have hu : ∃ v0 v1 v2 v3 d0 d1 d2, ((S s).map EnM.val).getD zeroEn = .agg #[.bool v0, .string v1, .string v2, .int .i64 v3, .slice d0 d1 d2] := by
    cases S s with
    | none => exact ⟨_, _, _, _, _, _, _, rfl⟩
    | some x => exact ⟨_, _, _, _, _, _, _, rfl⟩
  obtain ⟨v0, v1, v2, v3, d0, d1, d2, hu⟩ := hu
  rw [hu] at hlk
  clear h h1 h2 hu hs
  go_enter Try.func34, Try.ntmps34
  go_wp2
  go_ret
  exact ⟨rfl, (Below.refl _ _).alloc (Nat.le_refl _) _⟩
theorem LrMid.prefix {w : World} {p m pre z : Nat} {g : Lr} (h : LrMid w p m pre z g) : Calls Try.prog 13 #[.pointer (some ⟨p, 0, none⟩)] w fun e w' => e = .returned (.int .i64 pre) ∧ w' = w := by
  have HC := hid h.closed
  obtain ⟨_, c1, _⟩ := h.cells
  clear h
  go_enter Try.func13, Try.ntmps13
  go_wp2_with fail
  refine HC.out.mono ?_
  rintro e w' ⟨rfl, rfl⟩
  go_wp2
  go_ret
  exact ⟨rfl, rfl⟩
theorem LrMid.len {w : World} {p m pre z : Nat} {g : Lr} (h : LrMid w p m pre z g) : Calls Try.prog 16 #[.pointer (some ⟨p, 0, none⟩)] w fun e w' => e = .returned (.int .i64 g.ks.length) ∧ w' = w := by
  have HC := hid h.closed
  obtain ⟨c0, _, _⟩ := h.cells
  obtain ⟨S, D, h1, h2⟩ := h.map
  have hlen := fun ty => h1.map.len Try.underlying47 ty
  rw [h1.cnt] at hlen
  clear h h1 h2
  go_enter Try.func16, Try.ntmps16
  go_wp2_with fail
  refine HC.out.mono ?_
  rintro e w' ⟨rfl, rfl⟩
  go_wp2
  go_ret
  exact ⟨rfl, rfl⟩
end Go.Proofs.Ytgghfmdciohinaa
/-
  Package learner: mayEntry, same.
-/
namespace Go.Proofs.Ytgghfmdciohinaa
open Go.RowKit Go.Maps

/-- A message with an entry alone. -/
def msOfEn (x : EnM) : MsM := ⟨0, 0, 0, (0, 0), 0, x, none, 0, [], none, 0, [], none, 0, [], 0⟩
theorem i64_zero : I64 0 := by unfold I64; omega
theorem msOfEn_ok {w : World} {x : EnM} (h : EnOk w x) : MsOk w (msOfEn x) where
  en := h
  vs := ⟨fun _ h => (by cases h), .inl rfl⟩
  vl := by simp [msOfEn]
  seen := ⟨⟨fun _ h => (by cases h), .inl rfl⟩, Nat.le_refl _, by simp [msOfEn]⟩
  evs := ⟨fun _ h => (by cases h), .inl rfl⟩
  el := by simp [msOfEn]
  ik := i64_zero
  ifr := i64_zero
  it := i64_zero
  ib1 := i64_zero
  ib2 := i64_zero
  isl := i64_zero
  iti := i64_zero
theorem rightMs_en (x : EnM) : RightMs (msOfEn x) = RightEn x.e := by
  have h1 : RightMs (msOfEn x) = (true && (true && (true && (true && (true && (RightEn x.e && (true && (true && (true && true))))))))) := by
    unfold RightMs msOfEn
    rfl
  rw [h1]
  simp
theorem encMs_en (x : EnM) (h : RightEn x.e = true) : (encMs (msOfEn x)).length ≤ 65536 := by
  have h3 := en_len (rightEn_iff h)
  have e0 : (enc 0).length ≤ 10 := enc_le10 (by omega)
  unfold encMs encVos encVC encEvs msOfEn
  simp only [List.length_append, List.length_nil, List.flatMap_nil, encNC, Int.toNat_zero]
  omega
set_option maxRecDepth 100000 in
set_option maxHeartbeats 1000000 in
theorem mayEntryLr (w : World) (x : EnM) (hx : EnOk w x) : Calls Try.prog 18 #[x.val] w fun e w' => e = .returned (.bool (RightEn x.e)) ∧ Below w.heap.size w w' := by
  have H : Hid (∀ V, Below w.heap.size w V → Calls Try.prog 36 #[(msOfEn x).val] V fun e w' => ∃ v c, e = .returned (.tuple #[v, .int .i64 c]) ∧ (c = 0 ↔ RightEn x.e = true) ∧ Below w.heap.size w w') := fun V hV => by
    refine (msg_any V (msOfEn x) (msOfEn_ok (hx.below hV))).mono ?_
    rintro e w' ⟨hb, h2⟩
    rw [rightMs_en] at h2
    by_cases hr : RightEn x.e = true
    · rw [if_pos hr, if_pos (encMs_en x hr)] at h2
      obtain ⟨v, rfl, _⟩ := h2
      exact ⟨_, _, rfl, ⟨fun _ => hr, fun _ => rfl⟩, bt' hV hb⟩
    · rw [if_neg hr] at h2
      subst h2
      exact ⟨_, _, rfl, ⟨fun h => (by cases h), fun h => absurd h hr⟩, bt' hV hb⟩
  obtain ⟨R, HRR⟩ : ∃ b, Hid (RightEn x.e = b) := ⟨_, hid rfl⟩
  rw [HRR.out] at H ⊢
  clear hx
  obtain ⟨⟨np, tk, ct, ep, dp⟩, ao1, cap1⟩ := x
  obtain ⟨XN, HXN⟩ : ∃ m, Hid (dp.length = m) := ⟨_, hid rfl⟩
  simp only [EnM.val, msOfEn, MsM.val, List.length_nil] at H ⊢
  rw [HXN.out] at H ⊢
  have HA : Hid (Below w.heap.size w (w.alloc (.cells #[.bool np, .string tk, .string ct, .int .i64 ep, .slice ao1 XN cap1] 33))) := (Below.refl _ _).alloc (Nat.le_refl _) _
  go_enter Try.func18, Try.ntmps18
  go_wp2_with fail
  refine (H.out _ HA.out).mono ?_
  rintro e w' ⟨v, c, rfl, hc, hb⟩
  have HB := hid hb
  have HQ : Hid ((c == 0) = R) := by
    show _ = _
    rw [Bool.eq_iff_iff, beq_iff_eq]
    exact hc
  clear hb hc
  go_wp2
  go_ret
  refine ⟨?_, HB.out⟩
  rw [HQ.out]
  rfl
theorem toList_injL {a b : ByteArray} (h : a.toList = b.toList) : a = b := bytes_injC h
set_option maxRecDepth 100000 in
set_option maxHeartbeats 1000000 in
theorem sameLr (w : World) (x y : EnM) (hx : EnOk w x) (hy : EnOk w y) : Calls Try.prog 19 #[x.val, y.val] w fun e w' => e = .returned (.bool (decide (x.e = y.e))) ∧ Below w.heap.size w w' := by
  obtain ⟨⟨np, tk, ct, ep, dp⟩, ao1, cap1⟩ := x
  obtain ⟨⟨np', tk', ct', ep', dp'⟩, ao2, cap2⟩ := y
  obtain ⟨XN, HXN⟩ : ∃ m, Hid (dp.length = m) := ⟨_, hid rfl⟩
  obtain ⟨YN, HYN⟩ : ∃ m, Hid (dp'.length = m) := ⟨_, hid rfl⟩
  simp only [EnM.val]
  rw [HXN.out, HYN.out]
  obtain ⟨W, hW⟩ : ∃ W, W = (w.alloc (.cells #[.bool np, .string tk, .string ct, .int .i64 ep, .slice ao1 XN cap1] 33)).alloc (.cells #[.bool np', .string tk', .string ct', .int .i64 ep', .slice ao2 YN cap2] 33) := ⟨_, rfl⟩
  have HB : Hid (Below w.heap.size w W) := by rw [hW]; exact ((Below.refl _ _).alloc (Nat.le_refl _) _).alloc (by simp) _
  have HS := hid (equalL_any W ao1 ao2 cap1 cap2 dp dp' XN YN HXN.out HYN.out (hx.cut.below HB.out) (hy.cut.below HB.out))
  have HW := hid hW
  clear hx hy hW
  by_cases h1 : np = np'
  · by_cases h2 : tk = tk'
    · by_cases h3 : ct = ct'
      · by_cases h4 : ep = ep'
        · subst h1 h2 h3 h4
          have HD : Hid (decide ((⟨np, tk, ct, ep, dp⟩ : En) = ⟨np, tk, ct, ep, dp'⟩) = decide (dp = dp')) := by
            show _ = _
            rw [Bool.eq_iff_iff, decide_eq_true_iff, decide_eq_true_iff]
            exact ⟨fun h => by cases h; rfl, fun h => by rw [h]⟩
          rw [HD.out]
          have hnn : (np == np) = true := by simp
          go_enter Try.func19, Try.ntmps19
          go_wp2_with fail
          rw [← HW.out]
          refine HS.out.mono ?_
          rintro e w' ⟨rfl, q, rfl⟩
          go_wp2
          go_ret
          exact ⟨rfl, below_dn HB.out q⟩
        · rw [decide_eq_false (fun h => by cases h; exact h4 rfl)]
          have hnn : (ep == ep') = false := by simpa using h4
          subst h1 h2 h3
          have hnp : (np == np) = true := by simp
          go_enter Try.func19, Try.ntmps19
          go_wp2
          go_ret
          rw [← HW.out]
          exact ⟨rfl, HB.out⟩
      · rw [decide_eq_false (fun h => by cases h; exact h3 rfl)]
        have hb2 : (ct.toList == ct'.toList) = false := beq_eq_false_iff_ne.2 fun hh => h3 (toList_injL hh)
        have hb3 : ¬ ct.toList = ct'.toList := fun hh => h3 (toList_injL hh)
        subst h1 h2
        have hnp : (np == np) = true := by simp
        go_enter Try.func19, Try.ntmps19
        go_wp2
        go_ret
        rw [← HW.out]
        exact ⟨rfl, HB.out⟩
    · rw [decide_eq_false (fun h => by cases h; exact h2 rfl)]
      have hb2 : (tk.toList == tk'.toList) = false := beq_eq_false_iff_ne.2 fun hh => h2 (toList_injL hh)
      have hb3 : ¬ tk.toList = tk'.toList := fun hh => h2 (toList_injL hh)
      subst h1
      have hnp : (np == np) = true := by simp
      go_enter Try.func19, Try.ntmps19
      go_wp2
      go_ret
      rw [← HW.out]
      exact ⟨rfl, HB.out⟩
  · rw [decide_eq_false (fun h => by cases h; exact h1 rfl)]
    have hnp : (np == np') = false := by simpa using h1
    go_enter Try.func19, Try.ntmps19
    go_wp2
    go_ret
    rw [← HW.out]
    exact ⟨rfl, HB.out⟩
end Go.Proofs.Ytgghfmdciohinaa
