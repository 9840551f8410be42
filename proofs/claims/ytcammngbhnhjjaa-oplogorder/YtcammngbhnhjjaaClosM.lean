/-
  The law's lives (oplog), walked.
-/
import Derived.Test.YtcammngbhnhjjaaLogL
import Derived.Test.YtcammngbhnhjjaaLogS
import Derived.Test.YtcammngbhnhjjaaVvL
namespace Go.Proofs.Ytcammngbhnhjjaa
open Go.RowKit Go.Maps

theorem hv_oneL (w : World) : HV (w.alloc (.cells #[.int .i64 1] 3)) (some ⟨w.heap.size, 0, none⟩) 1 [1] := by
  have hb := Blk.new w 3 [.int .i64 1]
  refine ⟨⟨fun x hx => ?_, .inr ⟨_, 0, rfl, hb.lt, fun j hj => ?_⟩⟩, by decide, by decide⟩
  · simp at hx
    subst hx
    decide
  · obtain rfl : j = 0 := by simp at hj; omega
    exact hb.cell rfl
theorem itL_eql (a b : Nat) (W : World) : (binOp .eql 40 (.func (.func 43) #[] #[.pointer (some ⟨a, 0, none⟩), .pointer (some ⟨b, 0, none⟩)]) .nilFunc).run Try.prog W = .ok (.bool false) W := by kernel_rfl
theorem row_ev {B : Nat} {w : World} {v : Value} {ys : List EvM} (h : w.ownsRow B 33 8 v ys.length (flatE ys)) (hp : 0 < ys.length) : ∃ g cap, v = .slice (some ⟨g, 0, none⟩) ys.length cap ∧ g < w.heap.size ∧ ∀ j (hj : j < ys.length) c u, ys[j].cells[c]? = some u → w.cell? ⟨g, j * 8 + c, none⟩ = some u := by
  obtain ⟨eo, cap, rfl, _, hc⟩ := own_form8 h
  obtain ⟨g, rfl, _, hg, hcell⟩ := hc hp
  exact ⟨g, cap, rfl, hg, fun j hj c u hu => hcell _ _ (flatE_get ys j hj c u hu)⟩
set_option maxRecDepth 1000000 in
set_option maxHeartbeats 8000000 in
theorem lives10_any (w : World) : Calls Try.prog 7 #[] w fun e w' => e = .returned (.bool true) ∧ Below w.heap.size w w' := by
  have hit := fun W a b => itL_eql a b W
  go_enter Try.func7, Try.ntmps7
  go_wp2_with fail
  refine (newL_any w).mono ?_
  rintro e w1 ⟨p, me, mw, rfl, hl, hf, hb⟩
  have HL1 := hid hl
  have HF1 := hid hf
  have HB1 := hid hb
  clear hl hf hb
  go_wp2_with fail
  refine (all_any w1 _).mono ?_
  rintro e w2 ⟨rfl, hw2⟩
  have HB2 : Hid (Below w1.heap.size w1 w2) := by rw [hw2]; exact ((Below.refl _ _).alloc (Nat.le_refl _) _).alloc (by simp) _
  clear hw2
  have HL2 := hid (HL1.out.below HB2.out)
  obtain ⟨W3, hW3⟩ : ∃ W, W = w2.alloc (.cells #[.int .i64 1] 3) := ⟨_, rfl⟩
  obtain ⟨W4, hW4⟩ : ∃ W, W = W3.alloc (.cells #[.int .i64 0, .int .i64 2, .slice (some ⟨w2.heap.size, 0, none⟩) 1 1, .string bC, .int .i64 0, .string bS, .int .i64 1, .bool false] 33) := ⟨_, rfl⟩
  obtain ⟨W5, hW5⟩ : ∃ W, W = W4.alloc (.cells #[.int .i64 0, .int .i64 1, .slice none 0 0, .string bC, .int .i64 0, .string bS, .int .i64 1, .bool false] 33) := ⟨_, rfl⟩
  have hs3 : W3.heap.size = w2.heap.size + 1 := by rw [hW3]; simp
  have hs4 : W4.heap.size = w2.heap.size + 1 + 1 := by rw [hW4, World.size_alloc, hs3]
  have hb3 : Below w2.heap.size w2 W3 := by rw [hW3]; exact (Below.refl _ _).alloc (Nat.le_refl _) _
  have hb4 : Below W3.heap.size W3 W4 := by rw [hW4]; exact (Below.refl _ _).alloc (Nat.le_refl _) _
  have hb5 : Below W4.heap.size W4 W5 := by rw [hW5]; exact (Below.refl _ _).alloc (Nat.le_refl _) _
  have HB5 : Hid (Below w2.heap.size w2 W5) := bt (bt hb3 hb4) hb5
  have HL5 := hid (HL2.out.below HB5.out)
  have HV5 : Hid (HV W5 (some ⟨w2.heap.size, 0, none⟩) 1 [1]) := (by rw [hW3]; exact hv_oneL w2 : HV W3 (some ⟨w2.heap.size, 0, none⟩) 1 [1]).below (bt hb4 hb5)
  have HKB : Hid (Blk W5 (w2.heap.size + 1) 33 [.int .i64 0, .int .i64 2, .slice (some ⟨w2.heap.size, 0, none⟩) 1 1, .string bC, .int .i64 0, .string bS, .int .i64 1, .bool false]) := by
    have := Blk.new W3 33 [.int .i64 0, .int .i64 2, .slice (some ⟨w2.heap.size, 0, none⟩) 1 1, .string bC, .int .i64 0, .string bS, .int .i64 1, .bool false]
    rw [hs3] at this
    rw [hW5, hW4]
    exact this.alloc _
  have HKA : Hid (Blk W5 (w2.heap.size + 1 + 1) 33 [.int .i64 0, .int .i64 1, .slice none 0 0, .string bC, .int .i64 0, .string bS, .int .i64 1, .bool false]) := by
    have := Blk.new W4 33 [.int .i64 0, .int .i64 1, .slice none 0 0, .string bC, .int .i64 0, .string bS, .int .i64 1, .bool false]
    rw [hs4] at this
    rw [hW5]
    exact this
  have HW : Hid (W5 = ((w2.alloc (.cells #[.int .i64 1] 3)).alloc (.cells #[.int .i64 0, .int .i64 2, .slice (some ⟨w2.heap.size, 0, none⟩) 1 1, .string bC, .int .i64 0, .string bS, .int .i64 1, .bool false] 33)).alloc (.cells #[.int .i64 0, .int .i64 1, .slice none 0 0, .string bC, .int .i64 0, .string bS, .int .i64 1, .bool false] 33)) := by show _ = _; rw [hW5, hW4, hW3]
  have HXB : Hid (EvOk W5 ⟨lvB, some ⟨w2.heap.size, 0, none⟩, 1⟩) := ⟨HV5.out, (by unfold I64; decide : I64 lvB.o), (by unfold I64; decide : I64 lvB.s), (by unfold I64; decide : I64 lvB.epoch), (by unfold I64; decide : I64 lvB.qty), (by decide : lvB.cart.size ≤ maxLen), (by decide : lvB.sku.size ≤ maxLen)⟩
  have HXA : Hid (∀ V, EvOk V ⟨lvA, none, 0⟩) := fun V => ⟨hv_none _ 0, (by unfold I64; decide : I64 lvA.o), (by unfold I64; decide : I64 lvA.s), (by unfold I64; decide : I64 lvA.epoch), (by unfold I64; decide : I64 lvA.qty), (by decide : lvA.cart.size ≤ maxLen), (by decide : lvA.sku.size ≤ maxLen)⟩
  have HP1 := hid (put_any HL5.out ⟨lvB, some ⟨w2.heap.size, 0, none⟩, 1⟩ HXB.out)
  clear hW3 hW4 hW5 hs3 hs4 hb3 hb4 hb5
  simp only [EvM.val, lvB, bC, bS, List.length_cons, List.length_nil, Nat.zero_add] at HP1
  simp only [bC, bS] at HW HKA HKB
  go_wp2_with fail
  rw [← HW.out]
  obtain ⟨pB, hpB⟩ : ∃ z, z = w2.heap.size + 1 := ⟨_, rfl⟩
  obtain ⟨pA, hpA⟩ : ∃ z, z = w2.heap.size + 1 + 1 := ⟨_, rfl⟩
  rw [← hpA] at HKA ⊢
  rw [← hpB] at HKB ⊢
  have HNB : Hid (¬ FootL p me mw pB ∧ ¬ FootL p me mw pA) := ⟨fun h => by have := HL2.out.lt pB h; omega, fun h => by have := HL2.out.lt pA h; omega⟩
  have HFW : Hid (∀ i, FootL p me mw i → w.heap.size ≤ i) := HF1.out
  clear hpA hpB hit
  refine HP1.out.mono ?_
  intro e w6 h6
  obtain ⟨y, hy, rfl, hl6, ht6⟩ := putB h6
  have HY := hid hy
  have HL6 := hid hl6
  have HKB6 := hid (ht6.blk HKB.out HNB.out.1)
  have HKA6 := hid (ht6.blk HKA.out HNB.out.2)
  have HT6 : Hid (Turns (FootL p me mw) W5 w6) := ht6
  clear h6 hy hl6 ht6 HP1
  have HWT := hid (waiting_any HL6.out)
  go_wp2_with fail
  refine HWT.out.mono ?_
  rintro e w7 ⟨v7, ss, rfl, hss, _, hrow7, hb7⟩
  have hse := waitsB HY.out hss
  subst hse
  obtain ⟨eo7, cap7, rfl, _, hc7⟩ := own_form8 hrow7
  obtain ⟨g7, rfl, _, hg7, hcell7⟩ := hc7 (by decide)
  have HC7 : Hid (w7.cell? ⟨g7, 0, none⟩ = some (.int .i64 0) ∧ w7.cell? ⟨g7, 1, none⟩ = some (.int .i64 2)) := ⟨hcell7 0 _ rfl, hcell7 1 _ rfl⟩
  have HG7 := hid hg7
  have HGB : Hid (w6.heap.size ≤ g7) := (hrow7.lt g7 rfl).1
  have HB7 := hid hb7
  have HL7 := hid (HL6.out.below hb7)
  have HKB7 := hid (HKB6.out.below hb7 HKB6.out.lt)
  have HKA7 := hid (HKA6.out.below hb7 HKA6.out.lt)
  clear hss hrow7 hb7 hc7 hcell7 hg7 HWT
  have HP2 := hid (put_any HL7.out ⟨lvA, none, 0⟩ (HXA.out _))
  simp only [EvM.val, lvA, bC, bS, List.length_nil] at HP2
  have t0 := HKA7.out.cell (i := 0) rfl
  have t1 := HKA7.out.cell (i := 1) rfl
  have t2 := HKA7.out.cell (i := 2) rfl
  have t3 := HKA7.out.cell (i := 3) rfl
  have t4 := HKA7.out.cell (i := 4) rfl
  have t5 := HKA7.out.cell (i := 5) rfl
  have t6 := HKA7.out.cell (i := 6) rfl
  have t7 := HKA7.out.cell (i := 7) rfl
  go_wp2_with fail
  refine HP2.out.mono ?_
  intro e w8 h8
  obtain ⟨v8, ys, g8, rfl, hrow8, hys, hA8, hl8, ht8⟩ := putA HY.out h8
  have HL8 := hid hl8
  have HA8 := hid hA8
  have HNF7 : Hid (¬ FootL p me mw g7) := fun h => by have := HL6.out.lt g7 h; have := HGB.out; omega
  have HKB8 := hid (ht8.blk HKB7.out HNB.out.1)
  have HKA8 := hid (ht8.blk HKA7.out HNB.out.2)
  have HC8 : Hid (w8.cell? ⟨g7, 0, none⟩ = some (.int .i64 0) ∧ w8.cell? ⟨g7, 1, none⟩ = some (.int .i64 2)) := by
    have hbk := ht8.block g7 HG7.out HNF7.out
    have h0 := HC7.out.1
    have h1 := HC7.out.2
    simp only [World.cell?] at h0 h1 ⊢
    rw [hbk]
    exact ⟨h0, h1⟩
  have HG8 : Hid (g7 < w8.heap.size) := Nat.lt_of_lt_of_le HG7.out ht8.size
  have HT8 := hid ht8
  have hlen : ys.length = 2 := by have := congrArg List.length hys; simpa using this
  obtain ⟨gr, capr, rfl, hgr, hcr⟩ := row_ev hrow8.row (by omega)
  have hy1 : (ys[1]'(by omega)).e = lvB := by
    have h1 : (ys.map (·.e))[1]? = some lvB := by rw [hys]; rfl
    rw [List.getElem?_map, List.getElem?_eq_getElem (by omega : 1 < ys.length)] at h1
    simpa using h1
  have HR8 : Hid (w8.cell? ⟨gr, 8, none⟩ = some (.int .i64 0) ∧ w8.cell? ⟨gr, 9, none⟩ = some (.int .i64 2)) := by
    have h0 := hcr 1 (by omega) 0 _ rfl
    have h1 := hcr 1 (by omega) 1 _ rfl
    rw [hy1] at h0 h1
    exact ⟨h0, h1⟩
  have HGR := hid hgr
  rw [hlen]
  clear h8 hrow8 hys hA8 hl8 ht8 hgr hcr hy1 hlen HP2 t0 t1 t2 t3 t4 t5 t6 t7
  have HP3 := hid (put_any HL8.out ⟨lvA, none, 0⟩ (HXA.out _))
  simp only [EvM.val, lvA, bC, bS, List.length_nil] at HP3
  have t0 := HKA8.out.cell (i := 0) rfl
  have t1 := HKA8.out.cell (i := 1) rfl
  have t2 := HKA8.out.cell (i := 2) rfl
  have t3 := HKA8.out.cell (i := 3) rfl
  have t4 := HKA8.out.cell (i := 4) rfl
  have t5 := HKA8.out.cell (i := 5) rfl
  have t6 := HKA8.out.cell (i := 6) rfl
  have t7 := HKA8.out.cell (i := 7) rfl
  go_wp2_with fail
  refine HP3.out.mono ?_
  intro e w9 h9
  obtain ⟨rfl, hb9⟩ := putA2 HA8.out h9
  have HL9 := hid (HL8.out.below hb9)
  have HB9 := hid hb9
  have HSA : Hid (∀ V, Sc w9 V → (Sc w9 V ∧ V.cell? ⟨pB, 0, none⟩ = some (.int .i64 0) ∧ V.cell? ⟨pB, 1, none⟩ = some (.int .i64 2) ∧ V.cell? ⟨g7, 0, none⟩ = some (.int .i64 0) ∧ V.cell? ⟨g7, 1, none⟩ = some (.int .i64 2) ∧ V.cell? ⟨gr, 8, none⟩ = some (.int .i64 0) ∧ V.cell? ⟨gr, 9, none⟩ = some (.int .i64 2))) := fun V hV => by
    have h1 := bt HB9.out hV.out
    have hk := HKB8.out.below h1 HKB8.out.lt
    exact ⟨hV, hk.cell rfl, hk.cell rfl, (h1.cell (p := ⟨g7, 0, none⟩) HG8.out).trans HC8.out.1, (h1.cell (p := ⟨g7, 1, none⟩) HG8.out).trans HC8.out.2, (h1.cell (p := ⟨gr, 8, none⟩) HGR.out).trans HR8.out.1, (h1.cell (p := ⟨gr, 9, none⟩) HGR.out).trans HR8.out.2⟩
  have HAP : Hid (∀ V, Sc w9 V → Calls Try.prog 13 #[.pointer (some ⟨p, 0, none⟩)] V fun e w' => ∃ bo cp, e = .returned (.slice bo 1 cp) ∧ Sc w9 w') := fun V hV => by
    refine (applied_any (HL9.out.below hV.out)).mono ?_
    rintro e w' ⟨bo, cp, rfl, _, h2⟩
    rw [HA8.out]
    exact ⟨bo, cp, rfl, hV.go h2⟩
  have HBF : Hid (Below w.heap.size w w9) := by
    have t1 : Turns (FootL p me mw) w W5 := Turns.of_below (bt (bt HB1.out HB2.out) HB5.out) (Nat.le_refl _)
    have t2 := t1.trans HT6.out (fun i hi => .inl hi)
    have t3 := t2.trans (Turns.of_below (F := fun _ => False) HB7.out (Nat.le_refl _)) (fun _ h => h.elim)
    have t4 := t3.trans HT8.out (fun i hi => .inl hi)
    have t5 := t4.trans (Turns.of_below (F := fun _ => False) HB9.out (Nat.le_refl _)) (fun _ h => h.elim)
    exact t5.below HFW.out (Nat.le_refl _)
  clear h9 hb9 HP3 t0 t1 t2 t3 t4 t5 t6 t7
  go_wp2
  go_region_held3 (fun V => Sc w9 V ∧ V.cell? ⟨pB, 0, none⟩ = some (.int .i64 0) ∧ V.cell? ⟨pB, 1, none⟩ = some (.int .i64 2) ∧ V.cell? ⟨g7, 0, none⟩ = some (.int .i64 0) ∧ V.cell? ⟨g7, 1, none⟩ = some (.int .i64 2) ∧ V.cell? ⟨gr, 8, none⟩ = some (.int .i64 0) ∧ V.cell? ⟨gr, 9, none⟩ = some (.int .i64 2))
    (first | (refine ⟨?_, ?_, ?_, ?_, ?_, ?_, ?_⟩ <;> assumption) | (refine HSA.out _ ?_; (repeat (first | assumption | exact Sc.start _ | apply Sc.dr))))
    (first
      | (go_at_call 13; with_reducible refine (HAP.out _ (by (repeat (first | assumption | exact Sc.start _ | apply Sc.dr)))).mono ?_; rintro e w10 ⟨bo, cp, rfl, hs10⟩))
  all_goals
    have HSF := hid (bt HBF.out hs10.out)
    go_wp2
    go_ret
    exact ⟨by simp, HSF.out⟩
end Go.Proofs.Ytcammngbhnhjjaa
/-
  What OplogClosed wants: how many dots a vector has; what is told of each applied event; the log, its vector beside it, and the row that Put told.
-/
namespace Go.Proofs.Ytcammngbhnhjjaa
open Go.RowKit Go.Shelf Go.Maps

theorem rows_cnt (A : List Int) : ∀ d k, A.length - k = d → ((rowsFrom [] A k).length : Int) = cntV (A.drop k)
  | 0, k, h => by
    rw [rowsFrom_end [] A (by omega), List.drop_eq_nil_of_le (by omega)]
    rfl
  | d + 1, k, h => by
    have hk : k < A.length := by omega
    rw [rowsFrom_step [] A hk, List.length_append, row_len, Int.natCast_add, rows_cnt A d (k + 1) (by omega), List.drop_eq_getElem_cons hk]
    have e : A.getD k 0 = A[k] := by simp [List.getD, List.getElem?_eq_getElem hk]
    have h1 : moreOf [] A k = max A[k] 0 := by
      unfold moreOf hadOf
      rw [e]
      simp
    rw [h1]
    unfold cntV
    simp only [List.map_cons, List.sum_cons]
    omega
theorem evL_cnt (g : Lg) : ((evL [] g).length : Int) = cntV g.A := by
  unfold evL dotsAll
  rw [List.length_map]
  exact rows_cnt g.A _ 0 rfl
/-- What is applied is closed. -/
theorem evL_closed {w : World} {p me mw : Nat} {g : Lg} (h : LogAt w p me mw g) {v : List Int} {e : Ev} (he : e ∈ evL v g) : BelowV e.deps g.A ∧ HasV g.A e.o e.s ∧ MayE e := by
  unfold evL at he
  obtain ⟨d, hd, rfl⟩ := List.mem_map.1 he
  have hh := has_dots hd
  have h1 := (h.has d.1 d.2).2 hh
  obtain ⟨x, hx⟩ := Option.isSome_iff_exists.1 h1
  obtain ⟨De, hm⟩ := h.em
  obtain ⟨_, ho, hs⟩ := hm.ok _ _ _ hx
  have h2 := h.evs _ _ _ hx
  have e1 : evAt g d = x.e := by unfold evAt; rw [hx]; rfl
  rw [e1]
  exact ⟨h2.2, by rw [ho, hs]; exact hh, h2.1⟩
theorem readyL_at : ∀ {A : List Int} {l : List Ev} {k : Nat} (hk : k < l.length), ReadyL A l → ReadyE (addL A (l.take k)) l[k]
  | A, x :: r, 0, _, h => h.1
  | A, x :: r, k + 1, hk, h => by
    have := readyL_at (A := addA A x) (l := r) (k := k) (by simpa using hk) h.2
    simpa [addL] using this
theorem addL_take {A : List Int} {l : List Ev} {k : Nat} (hk : k < l.length) : addL A (l.take (k + 1)) = addA (addL A (l.take k)) l[k] := by
  rw [List.take_succ_eq_append_getElem hk, addL_snoc]
/-- The log, the answer's cell, the vector that the law keeps. -/
structure CS (w : World) (r0 p me mw bn : Nat) (g : Lg) (A : List Int) (no : Option Addr) (nc : Nat) (wr : World) : Prop where
  res : Blk wr r0 4 [.bool false]
  log : LogAt wr p me mw g
  box : Blk wr bn 26 [.slice no A.length nc]
  vec : HV wr no nc A
  nev : NEv wr no A
  fr : ¬ FootL p me mw r0
  fb : ¬ FootL p me mw bn
  lo : ∀ i, FootL p me mw i → w.heap.size ≤ i
  lr : w.heap.size ≤ r0
  lb : w.heap.size ≤ bn
  bel : Below w.heap.size w wr
section
variable {w : World} {r0 p me mw bn : Nat} {g g' : Lg} {A A' : List Int} {no : Option Addr} {nc : Nat} {wr V : World}
theorem CS.below (h : CS w r0 p me mw bn g A no nc wr) (hb : Below wr.heap.size wr V) : CS w r0 p me mw bn g A no nc V :=
  ⟨h.res.below hb h.res.lt, h.log.below hb, h.box.below hb h.box.lt, h.vec.below hb, h.nev.stay h.vec.held (Turns.of_below (F := fun _ => False) hb (Nat.le_refl _)) (fun _ _ _ _ h => h), h.fr, h.fb, h.lo, h.lr, h.lb, bt h.bel hb⟩
theorem CS.atG (h : CS w r0 p me mw bn g A no nc wr) (ha : AtG wr p me mw g' V) : CS w r0 p me mw bn g' A no nc V :=
  ⟨ha.2.blk h.res h.fr, ha.1, ha.2.blk h.box h.fb, h.vec.noInt h.log.noInt ha.2, h.nev.stay h.vec.held ha.2 (noInt_off h.vec.held h.log.noInt), h.fr, h.fb, h.lo, h.lr, h.lb, h.bel.trans (ha.2.below h.lo h.bel.size)⟩
theorem CS.ne (h : CS w r0 p me mw bn g A no nc wr) : r0 ≠ bn := by
  rintro rfl
  have h1 : wr.heap[r0]? = some (.cells _ 4 (0, 0)) := h.res
  have h2 : wr.heap[r0]? = some (.cells _ 26 (0, 0)) := h.box
  rw [h1] at h2
  injection h2 with h2
  injection h2 with _ h2
  exact absurd h2 (by decide)
theorem box_noInt (h : CS w r0 p me mw bn g A no nc wr) : NoInt wr (fun i => i = bn) := noInt_blk h.box (fun v hv x e => by simp at hv; rw [hv] at e; cases e)
/-- The vector set anew. -/
theorem CS.put (h : CS w r0 p me mw bn g A no nc wr) {o2 : Option Addr} {c2 : Nat} (hv : HV wr o2 c2 A') (hn : NEv wr o2 A') : CS w r0 p me mw bn g A' o2 c2 (wr.setCell ⟨bn, 0, none⟩ (.slice o2 A'.length c2)) := by
  have ht : Turns (fun i => i = bn) wr (wr.setCell ⟨bn, 0, none⟩ (.slice o2 A'.length c2)) := Turns.setCell (F := fun i => i = bn) (a := wr) (Turns.refl _ _) (p := ⟨bn, 0, none⟩) (.inl rfl) _
  exact ⟨ht.blk h.res h.ne, h.log.turned ht (fun i hi e => h.fb (by rw [← e]; exact hi)) (box_noInt h), h.box.set 0 _, hv.noInt (box_noInt h) ht, hn.stay hv.held ht (noInt_off hv.held (box_noInt h)), h.fr, h.fb, h.lo, h.lr, h.lb, h.bel.setCell h.lb _⟩
theorem RowE.put {B : Nat} {v : Value} {ys : List EvM} (h : CS w r0 p me mw bn g A no nc wr) (hr : RowE B wr v ys) (u : Value) : RowE B (wr.setCell ⟨bn, 0, none⟩ u) v ys := by
  have ht : Turns (fun i => i = bn) wr (wr.setCell ⟨bn, 0, none⟩ u) := Turns.setCell (F := fun i => i = bn) (a := wr) (Turns.refl _ _) (p := ⟨bn, 0, none⟩) (.inl rfl) _
  exact hr.noInt (box_noInt h) ht (fun gg hg e => by
    have := h.box.not_row (e := 33) (by decide) hr.row
    exact this (by rw [hg, e]))
end
theorem results_cellC {fn : Func} {t : Tmp} (h : fn.results = #[.cell t 4]) (tmps : Array Value) (w : World) {B : Nat} {v : Value} (hp : tmps.getD t undef = .pointer (some ⟨B, 0, none⟩)) (hc : w.cell? ⟨B, 0, none⟩ = some v) :
    (results fn tmps).run Try.prog w = .ok v w := by
  obtain ⟨i, hi, _, hs, _⟩ := info_parts Try.infoB
  have hp' : tmps[t]?.getD undef = .pointer (some ⟨B, 0, none⟩) := by simpa using hp
  simp [results, h, hp', hc, go_sem]
/-- The end: the answer is stored, the mark is taken. -/
theorem clos_end {w V : World} {r D : Nat} (hb : Below w.heap.size w V) (hR : Boxed V r 4 (.bool false)) (hr : w.heap.size ≤ r) (hD : V.heap[D]? = some (.deferred (some []))) (hn : r < D) :
    (V.setCell ⟨r, 0, none⟩ (.bool true)).heap[D]? = some (.deferred (some [])) ∧ Boxed ((V.setCell ⟨r, 0, none⟩ (.bool true)).putObj D (.deferred none)) r 4 (.bool true) ∧ Below w.heap.size w ((V.setCell ⟨r, 0, none⟩ (.bool true)).putObj D (.deferred none)) := by
  have k : (V.setCell ⟨r, 0, none⟩ (.bool true)).heap[D]? = some (.deferred (some [])) := by
    rw [Below.heap_setCell _ _ _ _ (by simp; omega)]
    exact hD
  refine ⟨k, ?_, ?_⟩
  · unfold Boxed
    rw [World.putObj_heap_other (by omega)]
    exact hR.set (.bool true)
  · exact (hb.setCell (p := ⟨r, 0, none⟩) hr (.bool true)).trans (belowK_b (w := w) (Nat.le_refl _) _ D _ _ (by omega) k rfl rfl)
theorem addL_plain : ∀ (l : List Ev) {A : List Int}, plainOf A = A → plainOf (addL A l) = addL A l
  | [], A, h => by simpa [addL] using h
  | x :: r, A, h => by
    have := addL_plain r (A := addA A x) (plain_plain _)
    simpa [addL] using this
theorem wp_share {P : Program} {id : Nat} {ops : Array Oper} {b : Bool} {Q : Exit → Act → World → Prop} {a : Act} {w : World} {A : Option Addr → Nat → Act} {S : Option Addr → Nat → World → Prop}
    (h1 : (Code.region id ops b).wp P (NoPanic (fun e a w => ∃ bo cp, e = .normal ∧ a = A bo cp ∧ S bo cp w)) a w) (h2 : ∀ bo cp w, S bo cp w → Q .normal (A bo cp) w) : (Code.region id ops b).wp P Q a w :=
  Code.wp_mono (fun e a w h => by
    cases e with
    | panic c => exact (h : False).elim
    | _ =>
      obtain ⟨bo, cp, e1, rfl, h3⟩ := h
      first | (cases e1; done) | exact h2 bo cp _ h3) h1
end Go.Proofs.Ytcammngbhnhjjaa
