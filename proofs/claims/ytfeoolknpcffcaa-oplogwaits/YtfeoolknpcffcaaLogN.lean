/-
  The law's lives (oplog), walked.
-/
import Derived.Test.YtfeoolknpcffcaaLogL
import Derived.Test.YtfeoolknpcffcaaLogI
namespace Go.Proofs.Ytfeoolknpcffcaa
open Go.RowKit Go.Maps

theorem hv_oneL (w : World) : HV (w.alloc (.cells #[.int .i64 1] 3)) (some ⟨w.heap.size, 0, none⟩) 1 [1] := by
  have hb := Blk.new w 3 [.int .i64 1]
  refine ⟨⟨fun x hx => ?_, .inr ⟨_, 0, rfl, hb.lt, fun j hj => ?_⟩⟩, by decide, by decide⟩
  · simp at hx
    subst hx
    decide
  · obtain rfl : j = 0 := by simp at hj; omega
    exact hb.cell rfl
theorem itL_eql (a b : Nat) (W : World) : (binOp .eql 40 (.func (.func 48) #[] #[.pointer (some ⟨a, 0, none⟩), .pointer (some ⟨b, 0, none⟩)]) .nilFunc).run Try.prog W = .ok (.bool false) W := by kernel_rfl
theorem row_ev {B : Nat} {w : World} {v : Value} {ys : List EvM} (h : w.ownsRow B 33 8 v ys.length (flatE ys)) (hp : 0 < ys.length) : ∃ g cap, v = .slice (some ⟨g, 0, none⟩) ys.length cap ∧ g < w.heap.size ∧ ∀ j (hj : j < ys.length) c u, ys[j].cells[c]? = some u → w.cell? ⟨g, j * 8 + c, none⟩ = some u := by
  obtain ⟨eo, cap, rfl, _, hc⟩ := own_form8 h
  obtain ⟨g, rfl, _, hg, hcell⟩ := hc hp
  exact ⟨g, cap, rfl, hg, fun j hj c u hu => hcell _ _ (flatE_get ys j hj c u hu)⟩
set_option maxRecDepth 1000000 in
set_option maxHeartbeats 8000000 in
theorem lives10_any (w : World) : Calls Try.prog 9 #[] w fun e w' => e = .returned (.bool true) ∧ Below w.heap.size w w' := by
  have hit := fun W a b => itL_eql a b W
  go_enter Try.func9, Try.ntmps9
  go_wp2_with fail
  refine (newL_any w).mono ?_
  rintro e w1 ⟨p, me, mw, rfl, hl, hf, hb⟩
  have HL1 := hid hl
  have HF1 := hid hf
  have HB1 := hid hb
  clear hl hf hb
  go_wp2_with fail
  refine (all_any w1 _).mono ?_
  rintro e w2 ⟨rfl, hw2⟩
  have HB2 : Hid (Below w1.heap.size w1 w2) := by rw [hw2]; exact ((Below.refl _ _).alloc (Nat.le_refl _) _).alloc (by simp) _
  clear hw2
  have HL2 := hid (HL1.out.below HB2.out)
  obtain ⟨W3, hW3⟩ : ∃ W, W = w2.alloc (.cells #[.int .i64 1] 3) := ⟨_, rfl⟩
  obtain ⟨W4, hW4⟩ : ∃ W, W = W3.alloc (.cells #[.int .i64 0, .int .i64 2, .slice (some ⟨w2.heap.size, 0, none⟩) 1 1, .string bC, .int .i64 0, .string bS, .int .i64 1, .bool false] 33) := ⟨_, rfl⟩
  obtain ⟨W5, hW5⟩ : ∃ W, W = W4.alloc (.cells #[.int .i64 0, .int .i64 1, .slice none 0 0, .string bC, .int .i64 0, .string bS, .int .i64 1, .bool false] 33) := ⟨_, rfl⟩
  have hs3 : W3.heap.size = w2.heap.size + 1 := by rw [hW3]; simp
  have hs4 : W4.heap.size = w2.heap.size + 1 + 1 := by rw [hW4, World.size_alloc, hs3]
  have hb3 : Below w2.heap.size w2 W3 := by rw [hW3]; exact (Below.refl _ _).alloc (Nat.le_refl _) _
  have hb4 : Below W3.heap.size W3 W4 := by rw [hW4]; exact (Below.refl _ _).alloc (Nat.le_refl _) _
  have hb5 : Below W4.heap.size W4 W5 := by rw [hW5]; exact (Below.refl _ _).alloc (Nat.le_refl _) _
  have HB5 : Hid (Below w2.heap.size w2 W5) := bt (bt hb3 hb4) hb5
  have HL5 := hid (HL2.out.below HB5.out)
  have HV5 : Hid (HV W5 (some ⟨w2.heap.size, 0, none⟩) 1 [1]) := (by rw [hW3]; exact hv_oneL w2 : HV W3 (some ⟨w2.heap.size, 0, none⟩) 1 [1]).below (bt hb4 hb5)
  have HKB : Hid (Blk W5 (w2.heap.size + 1) 33 [.int .i64 0, .int .i64 2, .slice (some ⟨w2.heap.size, 0, none⟩) 1 1, .string bC, .int .i64 0, .string bS, .int .i64 1, .bool false]) := by
    have := Blk.new W3 33 [.int .i64 0, .int .i64 2, .slice (some ⟨w2.heap.size, 0, none⟩) 1 1, .string bC, .int .i64 0, .string bS, .int .i64 1, .bool false]
    rw [hs3] at this
    rw [hW5, hW4]
    exact this.alloc _
  have HKA : Hid (Blk W5 (w2.heap.size + 1 + 1) 33 [.int .i64 0, .int .i64 1, .slice none 0 0, .string bC, .int .i64 0, .string bS, .int .i64 1, .bool false]) := by
    have := Blk.new W4 33 [.int .i64 0, .int .i64 1, .slice none 0 0, .string bC, .int .i64 0, .string bS, .int .i64 1, .bool false]
    rw [hs4] at this
    rw [hW5]
    exact this
  have HW : Hid (W5 = ((w2.alloc (.cells #[.int .i64 1] 3)).alloc (.cells #[.int .i64 0, .int .i64 2, .slice (some ⟨w2.heap.size, 0, none⟩) 1 1, .string bC, .int .i64 0, .string bS, .int .i64 1, .bool false] 33)).alloc (.cells #[.int .i64 0, .int .i64 1, .slice none 0 0, .string bC, .int .i64 0, .string bS, .int .i64 1, .bool false] 33)) := by show _ = _; rw [hW5, hW4, hW3]
  have HXB : Hid (EvOk W5 ⟨lvB, some ⟨w2.heap.size, 0, none⟩, 1⟩) := ⟨HV5.out, (by unfold I64; decide : I64 lvB.o), (by unfold I64; decide : I64 lvB.s), (by unfold I64; decide : I64 lvB.epoch), (by unfold I64; decide : I64 lvB.qty), (by decide : lvB.cart.size ≤ maxLen), (by decide : lvB.sku.size ≤ maxLen)⟩
  have HXA : Hid (∀ V, EvOk V ⟨lvA, none, 0⟩) := fun V => ⟨hv_none _ 0, (by unfold I64; decide : I64 lvA.o), (by unfold I64; decide : I64 lvA.s), (by unfold I64; decide : I64 lvA.epoch), (by unfold I64; decide : I64 lvA.qty), (by decide : lvA.cart.size ≤ maxLen), (by decide : lvA.sku.size ≤ maxLen)⟩
  have HP1 := hid (put_any HL5.out ⟨lvB, some ⟨w2.heap.size, 0, none⟩, 1⟩ HXB.out)
  clear hW3 hW4 hW5 hs3 hs4 hb3 hb4 hb5
  simp only [EvM.val, lvB, bC, bS, List.length_cons, List.length_nil, Nat.zero_add] at HP1
  simp only [bC, bS] at HW HKA HKB
  go_wp2_with fail
  rw [← HW.out]
  obtain ⟨pB, hpB⟩ : ∃ z, z = w2.heap.size + 1 := ⟨_, rfl⟩
  obtain ⟨pA, hpA⟩ : ∃ z, z = w2.heap.size + 1 + 1 := ⟨_, rfl⟩
  rw [← hpA] at HKA ⊢
  rw [← hpB] at HKB ⊢
  have HNB : Hid (¬ FootL p me mw pB ∧ ¬ FootL p me mw pA) := ⟨fun h => by have := HL2.out.lt pB h; omega, fun h => by have := HL2.out.lt pA h; omega⟩
  have HFW : Hid (∀ i, FootL p me mw i → w.heap.size ≤ i) := HF1.out
  clear hpA hpB hit
  refine HP1.out.mono ?_
  intro e w6 h6
  obtain ⟨y, hy, rfl, hl6, ht6⟩ := putB h6
  have HY := hid hy
  have HL6 := hid hl6
  have HKB6 := hid (ht6.blk HKB.out HNB.out.1)
  have HKA6 := hid (ht6.blk HKA.out HNB.out.2)
  have HT6 : Hid (Turns (FootL p me mw) W5 w6) := ht6
  clear h6 hy hl6 ht6 HP1
  have HWT := hid (waiting_any HL6.out)
  go_wp2_with fail
  refine HWT.out.mono ?_
  rintro e w7 ⟨v7, ss, rfl, hss, _, hrow7, hb7⟩
  have hse := waitsB HY.out hss
  subst hse
  obtain ⟨eo7, cap7, rfl, _, hc7⟩ := own_form8 hrow7
  obtain ⟨g7, rfl, _, hg7, hcell7⟩ := hc7 (by decide)
  have HC7 : Hid (w7.cell? ⟨g7, 0, none⟩ = some (.int .i64 0) ∧ w7.cell? ⟨g7, 1, none⟩ = some (.int .i64 2)) := ⟨hcell7 0 _ rfl, hcell7 1 _ rfl⟩
  have HG7 := hid hg7
  have HGB : Hid (w6.heap.size ≤ g7) := (hrow7.lt g7 rfl).1
  have HB7 := hid hb7
  have HL7 := hid (HL6.out.below hb7)
  have HKB7 := hid (HKB6.out.below hb7 HKB6.out.lt)
  have HKA7 := hid (HKA6.out.below hb7 HKA6.out.lt)
  clear hss hrow7 hb7 hc7 hcell7 hg7 HWT
  have HP2 := hid (put_any HL7.out ⟨lvA, none, 0⟩ (HXA.out _))
  simp only [EvM.val, lvA, bC, bS, List.length_nil] at HP2
  have t0 := HKA7.out.cell (i := 0) rfl
  have t1 := HKA7.out.cell (i := 1) rfl
  have t2 := HKA7.out.cell (i := 2) rfl
  have t3 := HKA7.out.cell (i := 3) rfl
  have t4 := HKA7.out.cell (i := 4) rfl
  have t5 := HKA7.out.cell (i := 5) rfl
  have t6 := HKA7.out.cell (i := 6) rfl
  have t7 := HKA7.out.cell (i := 7) rfl
  go_wp2_with fail
  refine HP2.out.mono ?_
  intro e w8 h8
  obtain ⟨v8, ys, g8, rfl, hrow8, hys, hA8, hl8, ht8⟩ := putA HY.out h8
  have HL8 := hid hl8
  have HA8 := hid hA8
  have HNF7 : Hid (¬ FootL p me mw g7) := fun h => by have := HL6.out.lt g7 h; have := HGB.out; omega
  have HKB8 := hid (ht8.blk HKB7.out HNB.out.1)
  have HKA8 := hid (ht8.blk HKA7.out HNB.out.2)
  have HC8 : Hid (w8.cell? ⟨g7, 0, none⟩ = some (.int .i64 0) ∧ w8.cell? ⟨g7, 1, none⟩ = some (.int .i64 2)) := by
    have hbk := ht8.block g7 HG7.out HNF7.out
    have h0 := HC7.out.1
    have h1 := HC7.out.2
    simp only [World.cell?] at h0 h1 ⊢
    rw [hbk]
    exact ⟨h0, h1⟩
  have HG8 : Hid (g7 < w8.heap.size) := Nat.lt_of_lt_of_le HG7.out ht8.size
  have HT8 := hid ht8
  have hlen : ys.length = 2 := by have := congrArg List.length hys; simpa using this
  obtain ⟨gr, capr, rfl, hgr, hcr⟩ := row_ev hrow8.row (by omega)
  have hy1 : (ys[1]'(by omega)).e = lvB := by
    have h1 : (ys.map (·.e))[1]? = some lvB := by rw [hys]; rfl
    rw [List.getElem?_map, List.getElem?_eq_getElem (by omega : 1 < ys.length)] at h1
    simpa using h1
  have HR8 : Hid (w8.cell? ⟨gr, 8, none⟩ = some (.int .i64 0) ∧ w8.cell? ⟨gr, 9, none⟩ = some (.int .i64 2)) := by
    have h0 := hcr 1 (by omega) 0 _ rfl
    have h1 := hcr 1 (by omega) 1 _ rfl
    rw [hy1] at h0 h1
    exact ⟨h0, h1⟩
  have HGR := hid hgr
  rw [hlen]
  clear h8 hrow8 hys hA8 hl8 ht8 hgr hcr hy1 hlen HP2 t0 t1 t2 t3 t4 t5 t6 t7
  have HP3 := hid (put_any HL8.out ⟨lvA, none, 0⟩ (HXA.out _))
  simp only [EvM.val, lvA, bC, bS, List.length_nil] at HP3
  have t0 := HKA8.out.cell (i := 0) rfl
  have t1 := HKA8.out.cell (i := 1) rfl
  have t2 := HKA8.out.cell (i := 2) rfl
  have t3 := HKA8.out.cell (i := 3) rfl
  have t4 := HKA8.out.cell (i := 4) rfl
  have t5 := HKA8.out.cell (i := 5) rfl
  have t6 := HKA8.out.cell (i := 6) rfl
  have t7 := HKA8.out.cell (i := 7) rfl
  go_wp2_with fail
  refine HP3.out.mono ?_
  intro e w9 h9
  obtain ⟨rfl, hb9⟩ := putA2 HA8.out h9
  have HL9 := hid (HL8.out.below hb9)
  have HB9 := hid hb9
  have HSA : Hid (∀ V, Sc w9 V → (Sc w9 V ∧ V.cell? ⟨pB, 0, none⟩ = some (.int .i64 0) ∧ V.cell? ⟨pB, 1, none⟩ = some (.int .i64 2) ∧ V.cell? ⟨g7, 0, none⟩ = some (.int .i64 0) ∧ V.cell? ⟨g7, 1, none⟩ = some (.int .i64 2) ∧ V.cell? ⟨gr, 8, none⟩ = some (.int .i64 0) ∧ V.cell? ⟨gr, 9, none⟩ = some (.int .i64 2))) := fun V hV => by
    have h1 := bt HB9.out hV.out
    have hk := HKB8.out.below h1 HKB8.out.lt
    exact ⟨hV, hk.cell rfl, hk.cell rfl, (h1.cell (p := ⟨g7, 0, none⟩) HG8.out).trans HC8.out.1, (h1.cell (p := ⟨g7, 1, none⟩) HG8.out).trans HC8.out.2, (h1.cell (p := ⟨gr, 8, none⟩) HGR.out).trans HR8.out.1, (h1.cell (p := ⟨gr, 9, none⟩) HGR.out).trans HR8.out.2⟩
  have HAP : Hid (∀ V, Sc w9 V → Calls Try.prog 15 #[.pointer (some ⟨p, 0, none⟩)] V fun e w' => ∃ bo cp, e = .returned (.slice bo 1 cp) ∧ Sc w9 w') := fun V hV => by
    refine (applied_any (HL9.out.below hV.out)).mono ?_
    rintro e w' ⟨bo, cp, rfl, _, h2⟩
    rw [HA8.out]
    exact ⟨bo, cp, rfl, hV.go h2⟩
  have HBF : Hid (Below w.heap.size w w9) := by
    have t1 : Turns (FootL p me mw) w W5 := Turns.of_below (bt (bt HB1.out HB2.out) HB5.out) (Nat.le_refl _)
    have t2 := t1.trans HT6.out (fun i hi => .inl hi)
    have t3 := t2.trans (Turns.of_below (F := fun _ => False) HB7.out (Nat.le_refl _)) (fun _ h => h.elim)
    have t4 := t3.trans HT8.out (fun i hi => .inl hi)
    have t5 := t4.trans (Turns.of_below (F := fun _ => False) HB9.out (Nat.le_refl _)) (fun _ h => h.elim)
    exact t5.below HFW.out (Nat.le_refl _)
  clear h9 hb9 HP3 t0 t1 t2 t3 t4 t5 t6 t7
  go_wp2
  go_region_held3 (fun V => Sc w9 V ∧ V.cell? ⟨pB, 0, none⟩ = some (.int .i64 0) ∧ V.cell? ⟨pB, 1, none⟩ = some (.int .i64 2) ∧ V.cell? ⟨g7, 0, none⟩ = some (.int .i64 0) ∧ V.cell? ⟨g7, 1, none⟩ = some (.int .i64 2) ∧ V.cell? ⟨gr, 8, none⟩ = some (.int .i64 0) ∧ V.cell? ⟨gr, 9, none⟩ = some (.int .i64 2))
    (first | (refine ⟨?_, ?_, ?_, ?_, ?_, ?_, ?_⟩ <;> assumption) | (refine HSA.out _ ?_; (repeat (first | assumption | exact Sc.start _ | apply Sc.dr))))
    (first
      | (go_at_call 15; with_reducible refine (HAP.out _ (by (repeat (first | assumption | exact Sc.start _ | apply Sc.dr)))).mono ?_; rintro e w10 ⟨bo, cp, rfl, hs10⟩))
  all_goals
    have HSF := hid (bt HBF.out hs10.out)
    go_wp2
    go_ret
    exact ⟨by simp, HSF.out⟩
end Go.Proofs.Ytfeoolknpcffcaa
/-
  What is known of the events that were put: the first one of each dot waits or is applied.
-/
namespace Go.Proofs.Ytfeoolknpcffcaa
open Go.RowKit Go.Maps

theorem ofV_plainOf (A : List Int) (o : Int) : ofV (plainOf A) o = ofV A o := by
  by_cases h : o < 0
  · unfold ofV
    rw [if_pos (.inl h), if_pos (.inl h)]
  · obtain ⟨k, rfl⟩ := Int.eq_ofNat_of_zero_le (show 0 ≤ o by omega)
    rw [ofV_nat, ofV_nat, plain_getD]
theorem hasV_plainOf (A : List Int) (o s : Int) : HasV (plainOf A) o s ↔ HasV A o s := by
  unfold HasV
  rw [ofV_plainOf]
theorem belowV_plainOf (v A : List Int) : BelowV v (plainOf A) ↔ BelowV v A := by
  rw [belowV_iff, belowV_iff]
  exact ⟨fun h i => by have := h i; rw [plain_getD] at this; exact this, fun h i => by rw [plain_getD]; exact h i⟩
/-- The first event of a dot that may be. -/
def firstM (l : List Ev) (o s : Int) : Option Ev := l.find? fun e => decide ((e.o = o ∧ e.s = s) ∧ MayE e)
theorem firstM_snoc_some {l : List Ev} {x e : Ev} {o s : Int} (h : firstM l o s = some e) : firstM (l ++ [x]) o s = some e := by
  unfold firstM at *
  rw [List.find?_append, h]
  rfl
theorem firstM_none {l : List Ev} {o s : Int} (h : ∀ e ∈ l, ¬ ((e.o = o ∧ e.s = s) ∧ MayE e)) : firstM l o s = none := by
  unfold firstM
  rw [List.find?_eq_none]
  intro e he
  simpa using h e he
theorem firstM_snoc_new {l : List Ev} {x : Ev} (h : ∀ e ∈ l, ¬ ((e.o = x.o ∧ e.s = x.s) ∧ MayE e)) (hm : MayE x) : firstM (l ++ [x]) x.o x.s = some x := by
  have := firstM_none h
  unfold firstM at *
  rw [List.find?_append, this]
  simp [hm]
theorem firstM_at {l : List Ev} {o s : Int} {n : Nat} (hn : n < l.length) (h : ∀ m (hm : m < l.length), m < n → ¬ ((l[m].o = o ∧ l[m].s = s) ∧ MayE l[m])) (hx : (l[n].o = o ∧ l[n].s = s) ∧ MayE l[n]) : firstM l o s = some l[n] := by
  unfold firstM
  rw [List.find?_eq_some_iff_getElem]
  exact ⟨by simpa using hx, n, hn, rfl, fun j hj => by simp only [Bool.not_eq_true', decide_eq_false_iff_not]; exact h j (by omega) hj⟩
/-- Behind the events l. -/
structure KnownG (l : List Ev) (g : Lg) : Prop where
  first : ∀ o s y, g.W o s = some y → firstM l o s = some y.e
  known : ∀ e ∈ l, MayE e → HasV g.A e.o e.s ∨ (g.W e.o e.s).isSome = true
  few : g.ne + g.nw ≤ l.length
  stuck : StuckG g
theorem KnownG.start : KnownG [] emptyLg := ⟨fun o s y h => (by cases h), fun e he => (by cases he), Nat.le_refl _, .inr fun o s x h => by cases h⟩
theorem KnownG.same {l : List Ev} {g : Lg} {x : Ev} (h : KnownG l g) (hx : MayE x → HasV g.A x.o x.s ∨ (g.W x.o x.s).isSome = true) : KnownG (l ++ [x]) g := by
  refine ⟨fun o s y hy => firstM_snoc_some (h.first o s y hy), fun e he hm => ?_, by rw [List.length_append]; exact Nat.le_succ_of_le h.few, h.stuck⟩
  rcases List.mem_append.1 he with he | he
  · exact h.known e he hm
  · rw [List.mem_singleton.1 he] at hm ⊢
    exact hx hm
/-- One more was put. -/
theorem KnownG.put {w w' : World} {p me mw : Nat} {l : List Ev} {g : Lg} {x : Ev} {e : Ending} (h : KnownG l g) (hl : l.length < 4000) (hL : LogAt w p me mw g) (hp : PutP w p me mw g x e w') : ∃ v c g', e = .returned (.tuple #[v, .int .i64 c]) ∧ KnownG (l ++ [x]) g' ∧ AtG w p me mw g' w' := by
  have stay : ∀ {w'}, Below w.heap.size w w' → AtG w p me mw g w' := fun hb => ⟨hL.below hb, Turns.of_below hb (Nat.le_refl _)⟩
  cases hp with
  | wrong h1 h2 => exact ⟨_, _, g, rfl, h.same (fun hm => absurd hm h1), stay h2⟩
  | twice _ h1 h2 => exact ⟨_, _, g, rfl, h.same (fun _ => h1.symm), stay h2⟩
  | full _ _ _ h1 _ =>
    exfalso
    have := h.few
    rcases h1 with h1 | ⟨_, h1⟩ <;> omega
  | waits hm hw hh hn hr hnw hy hat =>
    rename_i y
    refine ⟨_, _, _, rfl, ⟨fun o s z hz => ?_, fun e he hme => ?_, ?_, ?_⟩, hat⟩
    · have hz' : updD g.W y.e.o y.e.s (some y) o s = some z := hz
      by_cases hc : o = y.e.o ∧ s = y.e.s
      · obtain ⟨rfl, rfl⟩ := hc
        rw [updD_same] at hz'
        cases hz'
        rw [hy]
        refine firstM_snoc_new (fun e he hc => ?_) hm
        rcases h.known e he hc.2 with h1 | h1
        · rw [hc.1.1, hc.1.2] at h1
          exact hh h1
        · rw [hc.1.1, hc.1.2, hw] at h1
          cases h1
      · rw [updD_other _ _ hc] at hz'
        exact firstM_snoc_some (h.first o s z hz')
    · show HasV g.A e.o e.s ∨ (updD g.W y.e.o y.e.s (some y) e.o e.s).isSome = true
      by_cases hc : e.o = y.e.o ∧ e.s = y.e.s
      · rw [hc.1, hc.2, updD_same]
        exact .inr rfl
      · rw [updD_other _ _ hc]
        rcases List.mem_append.1 he with he | he
        · exact h.known e he hme
        · rw [List.mem_singleton.1 he, hy] at hc
          exact absurd ⟨rfl, rfl⟩ hc
    · show g.ne + (g.nw + 1) ≤ _
      have := h.few
      rw [List.length_append]
      show _ ≤ l.length + 1
      omega
    · refine .inr fun o s z hz hrz => ?_
      have hz' : updD g.W y.e.o y.e.s (some y) o s = some z := hz
      by_cases hc : o = y.e.o ∧ s = y.e.s
      · obtain ⟨rfl, rfl⟩ := hc
        rw [updD_same] at hz'
        cases hz'
        rw [hy] at hrz
        exact hr hrz
      · rw [updD_other _ _ hc] at hz'
        rcases h.stuck with h1 | h1
        · exact absurd h1 (by omega)
        · exact h1 o s z hz' hrz
  | goes hm hw hh hn hr hrow hfirst hran hst hat =>
    rename_i v ys g'
    have hA : ∀ o s, HasV g.A o s ∨ InL (ys.map (·.e)) o s → HasV g'.A o s := fun o s hc => by
      rw [← hat.1.has]
      by_cases hi : InL (ys.map (·.e)) o s
      · obtain ⟨e, he, rfl, rfl⟩ := hi
        obtain ⟨z, hz, _⟩ := hran.E.2 e he
        rw [hz]
        rfl
      · rw [hran.E.1 o s hi, hL.has]
        exact hc.resolve_right hi
    refine ⟨_, _, g', rfl, ⟨fun o s z hz => ?_, fun e he hme => ?_, ?_, hst⟩, hat⟩
    · rw [hran.W] at hz
      split at hz
      · cases hz
      · exact firstM_snoc_some (h.first o s z hz)
    · rw [hran.W]
      by_cases hi : InL (ys.map (·.e)) e.o e.s
      · exact .inl (hA _ _ (.inr hi))
      · rw [if_neg hi]
        rcases List.mem_append.1 he with he | he
        · rcases h.known e he hme with h1 | h1
          · exact .inl (hA _ _ (.inl h1))
          · exact .inr h1
        · exfalso
          rw [List.mem_singleton.1 he] at hi
          obtain ⟨r, hr'⟩ := hfirst
          exact hi ⟨x, by rw [hr']; exact List.mem_cons_self .., rfl, rfl⟩
    · have h1 := hran.ne
      have h2 := hran.nw
      have h3 := h.few
      rw [List.length_append]
      show _ ≤ l.length + 1
      omega
end Go.Proofs.Ytfeoolknpcffcaa
