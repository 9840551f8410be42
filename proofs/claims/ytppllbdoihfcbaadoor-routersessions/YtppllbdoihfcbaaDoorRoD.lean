/-
  Package router: the table of kinds, Check; the document's Check ('okCall').
-/
import Derived.Test.YtppllbdoihfcbaaDoorRoC
namespace Go.Proofs.YtppllbdoihfcbaaDoor
open Go.RowKit Go.Maps

def I6R (x : Int) : Prop := -9223372036854775808 ≤ x ∧ x ≤ 9223372036854775807
theorem Tryd.keyedIntR : Keyed Tryd.prog 3 := int_keyed Tryd.underlying3
theorem wf64R {x : Int} (h : I6R x) : (Lit.int .i64 x).wf = true := by
  unfold I6R at h
  simp [Lit.wf, IntKind.min, IntKind.max, IntKind.signed, IntKind.bits]
  omega
theorem Tryd.keyIntR {x : Int} (h : I6R x) : keyOf Tryd.prog 3 (.int .i64 x) = some (.int .i64 x) := keyOf_int_mk Tryd.underlying3 (wf64R h)
theorem keyIntR_ne {x y : Int} (h : x ≠ y) : (Lit.int .i64 x) ≠ .int .i64 y := fun e => by cases e; exact h rfl
/-- The table of kinds. -/
structure KindsR (w : World) (k : Nat) : Prop where
  own : ∃ n D, w.ownsMap Tryd.prog 3 valR k n D ∧ ∀ s, I6R s → look D (.int .i64 s) = if s = 4 then some (.func (.func 32) #[] #[]) else if s = 3 then some (.func (.func 32) #[] #[]) else if s = 2 then some (.func (.func 31) #[] #[]) else if s = 1 then some (.func (.func 30) #[] #[]) else none
theorem Tryd.zeroFnR (w : World) : (zeroValue 47).run Tryd.prog w = .ok .nilFunc w := by kernel_rfl
set_option maxRecDepth 100000 in
theorem kindsR (w : World) : Calls Tryd.prog 24 #[] w fun e w' => e = .returned (.map (some w.heap.size)) ∧ KindsR w' w.heap.size ∧ Below w.heap.size w w' := by
  have hmm := @run_makeMap Tryd.prog
  obtain ⟨w1, hw1⟩ : ∃ W, W = w.alloc (.map #[] 0) := ⟨_, rfl⟩
  have hb1 : Below w.heap.size w w1 := by rw [hw1]; exact (Below.refl _ _).alloc (Nat.le_refl _) _
  have h1 : w1.ownsMap Tryd.prog 3 valR w.heap.size 0 (.map []) := by rw [hw1]; exact World.ownsMap_made w _ _ _

  obtain ⟨w2, hrun2, hown2, ht2⟩ := h1.store (val := .func (.func 30) #[] #[]) Tryd.keyedIntR Tryd.underlying49 (by decide) (Tryd.keyIntR (x := 1) (by unfold I6R; omega)) rfl
  obtain ⟨w3, hrun3, hown3, ht3⟩ := hown2.store (val := .func (.func 31) #[] #[]) Tryd.keyedIntR Tryd.underlying49 (by decide) (Tryd.keyIntR (x := 2) (by unfold I6R; omega)) rfl
  obtain ⟨w4, hrun4, hown4, ht4⟩ := hown3.store (val := .func (.func 32) #[] #[]) Tryd.keyedIntR Tryd.underlying49 (by decide) (Tryd.keyIntR (x := 3) (by unfold I6R; omega)) rfl
  obtain ⟨w5, hrun5, hown5, ht5⟩ := hown4.store (val := .func (.func 32) #[] #[]) Tryd.keyedIntR Tryd.underlying49 (by decide) (Tryd.keyIntR (x := 4) (by unfold I6R; omega)) rfl
  have g1 := Turns.of_grown (F := fun i => i = w.heap.size) ht2.grown (fun k hk => by cases hk; rfl)
  have g2 := Turns.of_grown (F := fun i => i = w.heap.size) ht3.grown (fun k hk => by cases hk; rfl)
  have g3 := Turns.of_grown (F := fun i => i = w.heap.size) ht4.grown (fun k hk => by cases hk; rfl)
  have g4 := Turns.of_grown (F := fun i => i = w.heap.size) ht5.grown (fun k hk => by cases hk; rfl)
  have b1 := hb1.trans (g1.below (fun i hi => by rw [hi]; exact Nat.le_refl _) hb1.size)
  have b2 := b1.trans (g2.below (fun i hi => by rw [hi]; exact Nat.le_refl _) b1.size)
  have b3 := b2.trans (g3.below (fun i hi => by rw [hi]; exact Nat.le_refl _) b2.size)
  have HB3 : Hid (Below w.heap.size w w5) := b3.trans (g4.below (fun i hi => by rw [hi]; exact Nat.le_refl _) b3.size)
  have HK : Hid (KindsR w5 w.heap.size) := ⟨_, _, hown5, fun s hs => by
    by_cases e4 : s = 4
    · subst e4
      rw [look_put_same hown4.isMap (Tryd.keyedIntR.key (Tryd.keyIntR hs)), if_pos rfl]
    · rw [look_put_other (keyIntR_ne e4), if_neg e4]
      by_cases e3 : s = 3
      · subst e3
        rw [look_put_same hown3.isMap (Tryd.keyedIntR.key (Tryd.keyIntR hs)), if_pos rfl]
      · rw [look_put_other (keyIntR_ne e3), if_neg e3]
        by_cases e2 : s = 2
        · subst e2
          rw [look_put_same hown2.isMap (Tryd.keyedIntR.key (Tryd.keyIntR hs)), if_pos rfl]
        · rw [look_put_other (keyIntR_ne e2), if_neg e2]
          by_cases e1 : s = 1
          · subst e1
            rw [look_put_same h1.isMap (Tryd.keyedIntR.key (Tryd.keyIntR hs)), if_pos rfl]
          · rw [look_put_other (keyIntR_ne e1), if_neg e1]
            exact look_empty _⟩
  clear h1 hown2 hown3 hown4 hown5 ht2 ht3 ht4 ht5 hb1 g1 g2 g3 g4 b1 b2 b3
  rw [hw1] at hrun2
  go_enter Tryd.func24, Tryd.ntmps24
  go_wp2
  go_ret
  exact ⟨rfl, HK.out, HB3.out⟩
/-- A call. -/
structure Cl where
  id : Int
  kind : Int
  cart : ByteArray
  sku : ByteArray
  qty : Int
  clears : Bool
  tok : ByteArray
def Cl.cells (c : Cl) : List Value := [.int .i64 c.id, .int .i64 c.kind, .string c.cart, .string c.sku, .int .i64 c.qty, .bool c.clears, .string c.tok]
structure Cl.Ok (c : Cl) : Prop where
  hk : I6R c.kind
  hq : I6R c.qty
  hc : c.cart.size ≤ maxLen
  hs : c.sku.size ≤ maxLen
  ht : c.tok.size ≤ maxLen
/-- May a call be? -/
def mayUpd (c : Cl) : Bool := nameS c.sku && (decide (0 ≤ c.qty) && decide (c.qty ≤ 1000))
def mayCl (c : Cl) : Bool := if c.kind = 1 then mayUpd c else if c.kind = 2 then true else if c.kind = 3 then nameS c.tok else if c.kind = 4 then nameS c.tok else false
def okCall (c : Cl) : Bool := nameS c.cart && mayCl c
/-- The answer to a call that may be, or not. -/
def errR (b : Bool) : Int := if b then 0 else 230
theorem mayUpdateR (c : Cl) (h : c.Ok) (w : World) : Calls Tryd.prog 30 #[.agg c.cells.toArray] w fun e w' => e = .returned (.bool (mayUpd c)) ∧ Below w.heap.size w w' := by
  obtain ⟨id, kd, cart, sku, q, cl, tok⟩ := c
  have HB : Hid (Below w.heap.size w (w.alloc (.cells (Cl.cells ⟨id, kd, cart, sku, q, cl, tok⟩).toArray 23))) := (Below.refl _ _).alloc (Nat.le_refl _) _
  obtain ⟨W, hW⟩ : ∃ W, W = w.alloc (.cells (Cl.cells ⟨id, kd, cart, sku, q, cl, tok⟩).toArray 23) := ⟨_, rfl⟩
  have HN := hid (codecName_any sku W h.hs)
  have hk : Blk W w.heap.size 23 (Cl.cells ⟨id, kd, cart, sku, q, cl, tok⟩) := by rw [hW]; exact Blk.new w _ _
  have c3 := hk.cell (i := 3) rfl
  have c4 := hk.cell (i := 4) rfl
  unfold mayUpd
  simp only at HN ⊢
  rw [hW] at HN c3 c4
  unfold Cl.cells at HN c3 c4 HB ⊢
  clear hW hk h
  cases hb : nameS sku with
  | false =>
    rw [hb] at HN
    go_enter Tryd.func30, Tryd.ntmps30
    go_wp2_with fail
    refine HN.out.mono ?_
    rintro e w' ⟨rfl, rfl⟩
    go_wp2
    go_ret
    exact ⟨rfl, HB.out⟩
  | true =>
    rw [hb] at HN
    by_cases h0 : 0 ≤ q
    · by_cases h1 : q ≤ 1000
      · go_enter Tryd.func30, Tryd.ntmps30
        go_wp2_with fail
        refine HN.out.mono ?_
        rintro e w' ⟨rfl, rfl⟩
        go_wp2
        go_ret
        exact ⟨ret_bool (by simp [h0, h1]), HB.out⟩
      · go_enter Tryd.func30, Tryd.ntmps30
        go_wp2_with fail
        refine HN.out.mono ?_
        rintro e w' ⟨rfl, rfl⟩
        go_wp2
        go_ret
        exact ⟨ret_bool (by simp; omega), HB.out⟩
    · go_enter Tryd.func30, Tryd.ntmps30
      go_wp2_with fail
      refine HN.out.mono ?_
      rintro e w' ⟨rfl, rfl⟩
      go_wp2
      go_ret
      exact ⟨ret_bool (by simp; omega), HB.out⟩
theorem hasTokenR (c : Cl) (h : c.Ok) (w : World) : Calls Tryd.prog 32 #[.agg c.cells.toArray] w fun e w' => e = .returned (.bool (nameS c.tok)) ∧ Below w.heap.size w w' := by
  obtain ⟨id, kd, cart, sku, q, cl, tok⟩ := c
  have HB : Hid (Below w.heap.size w (w.alloc (.cells (Cl.cells ⟨id, kd, cart, sku, q, cl, tok⟩).toArray 23))) := (Below.refl _ _).alloc (Nat.le_refl _) _
  obtain ⟨W, hW⟩ : ∃ W, W = w.alloc (.cells (Cl.cells ⟨id, kd, cart, sku, q, cl, tok⟩).toArray 23) := ⟨_, rfl⟩
  have HN := hid (codecName_any tok W h.ht)
  have hk : Blk W w.heap.size 23 (Cl.cells ⟨id, kd, cart, sku, q, cl, tok⟩) := by rw [hW]; exact Blk.new w _ _
  have c6 := hk.cell (i := 6) rfl
  simp only at HN ⊢
  rw [hW] at HN c6
  unfold Cl.cells at HN c6 HB ⊢
  clear hW hk h
  go_enter Tryd.func32, Tryd.ntmps32
  go_wp2_with fail
  refine HN.out.mono ?_
  rintro e w' ⟨rfl, rfl⟩
  go_wp2
  go_ret
  exact ⟨rfl, HB.out⟩
theorem kinds1R (c : Cl) (w : World) : Calls Tryd.prog 31 #[.agg c.cells.toArray] w fun e w' => e = .returned (.bool true) ∧ Below w.heap.size w w' := by
  have HB : Hid (Below w.heap.size w (w.alloc (.cells c.cells.toArray 23))) := (Below.refl _ _).alloc (Nat.le_refl _) _
  obtain ⟨id, kd, cart, sku, q, cl, tok⟩ := c
  unfold Cl.cells at HB ⊢
  go_enter Tryd.func31, Tryd.ntmps31
  go_wp2
  go_ret
  exact ⟨rfl, HB.out⟩
theorem KindsR.look {w : World} {k : Nat} (h : KindsR w k) {s : Int} (hs : I6R s) {v : Value} {b : Bool} (hv : (if s = 4 then some (.func (.func 32) #[] #[]) else if s = 3 then some (.func (.func 32) #[] #[]) else if s = 2 then some (.func (.func 31) #[] #[]) else if s = 1 then some (.func (.func 30) #[] #[]) else none : Option Value) = if b then some v else none) (hn : b = false → v = .nilFunc) : (Instr.lookup 49 (.map (some k)) (.int .i64 s) true).run Tryd.prog w = .ok (.tuple #[v, .bool b]) w := by
  obtain ⟨n, D, h1, h2⟩ := h.own
  have := run_look_ok h1 Tryd.keyedIntR Tryd.underlying49 (Tryd.zeroFnR w) (Tryd.keyIntR hs)
  rw [h2 s hs, hv] at this
  rw [this]
  cases b with
  | true => simp
  | false => simp [hn rfl]

set_option maxRecDepth 100000 in
theorem check_1 (id : Int) (cart sku : ByteArray) (q : Int) (cl : Bool) (tok : ByteArray) (h : Cl.Ok ⟨id, 1, cart, sku, q, cl, tok⟩) (w : World) : Calls Tryd.prog 11 #[.agg (Cl.cells ⟨id, 1, cart, sku, q, cl, tok⟩).toArray] w fun e w' => e = .returned (.int .i64 (errR (nameS cart && mayUpd ⟨id, 1, cart, sku, q, cl, tok⟩))) ∧ Below w.heap.size w w' := by
  obtain ⟨W, hW⟩ : ∃ W, W = w.alloc (.cells (Cl.cells ⟨id, 1, cart, sku, q, cl, tok⟩).toArray 23) := ⟨_, rfl⟩
  have HB : Hid (Below w.heap.size w W) := by rw [hW]; exact (Below.refl _ _).alloc (Nat.le_refl _) _
  have HK : Hid (Blk W w.heap.size 23 (Cl.cells ⟨id, 1, cart, sku, q, cl, tok⟩)) := by rw [hW]; exact Blk.new w _ _
  have HKI : Hid (∀ V, ScR W V → Calls Tryd.prog 24 #[] V fun e w' => ∃ k, e = .returned (.map (some k)) ∧ (Instr.lookup 49 (.map (some k)) (.int .i64 1) true).run Tryd.prog w' = .ok (.tuple #[.func (.func 30) #[] #[], .bool true]) w' ∧ ScR W w') := fun V hV => by
    refine (kindsR V).mono ?_
    rintro e w' ⟨rfl, hk, hb⟩
    exact ⟨_, rfl, hk.look h.hk (rfl) (fun _ => by first | rfl | contradiction), hV.go hb⟩
  have HSA : Hid (∀ V, ScR W V → (ScR W V ∧ V.cell? ⟨w.heap.size, 1, none⟩ = some (.int .i64 1))) := fun V hV => ⟨hV, (HK.out.below hV.out HK.out.lt).cell rfl⟩
  have HW := hid hW
  have HM : Hid (∀ V, ScR W V → Calls Tryd.prog 30 #[.agg (Cl.cells ⟨id, 1, cart, sku, q, cl, tok⟩).toArray] V fun e w' => e = .returned (.bool (mayUpd ⟨id, 1, cart, sku, q, cl, tok⟩)) ∧ ScR W w') := fun V hV => by
    refine (mayUpdateR _ h V).mono ?_
    rintro e w' ⟨rfl, hb⟩
    exact ⟨rfl, hV.go hb⟩
  have HN : Hid (∀ V, Calls Tryd.prog 22 #[.string cart] V fun e w' => e = .returned (.bool (nameS cart)) ∧ w' = V) := fun V => codecName_any cart V h.hc
  clear hW h
  obtain ⟨bc, hbc⟩ : ∃ q, q = w.heap.size := ⟨_, rfl⟩
  rw [← hbc] at HK HSA
  have HBC := hid hbc
  clear hbc
  unfold Cl.cells at HW HK ⊢
  go_enter Tryd.func11, Tryd.ntmps11
  go_wp2
  rw [← HBC.out]
  simp only [List.toArray] at HW
  rw [← HW.out]
  go_region_held3 (fun V => ScR W V ∧ V.cell? ⟨bc, 1, none⟩ = some (.int .i64 1))
    (first | (refine ⟨?_, ?_⟩ <;> assumption) | (refine HSA.out _ ?_; (repeat (first | assumption | exact ScR.start _ | apply ScR.dr)); done))
    (first
      | (go_at_call 24; with_reducible refine (HKI.out _ (by (repeat (first | assumption | exact ScR.start _ | apply ScR.dr)))).mono ?_; rintro e w5 ⟨k5, rfl, hlk5, hs5⟩))
  rename_i hHeld
  have HS5 := hid hHeld.1
  have HK5 := hid (HK.out.below HS5.out.out HK.out.lt)
  have c0 := HK5.out.cell (i := 0) rfl
  have c1 := HK5.out.cell (i := 1) rfl
  have c2 := HK5.out.cell (i := 2) rfl
  have c3 := HK5.out.cell (i := 3) rfl
  have c4 := HK5.out.cell (i := 4) rfl
  have c5 := HK5.out.cell (i := 5) rfl
  have c6 := HK5.out.cell (i := 6) rfl
  have HF5 : Hid (Below w.heap.size w w5) := HB.out.trans (HS5.out.out.mono HB.out.size)
  clear hHeld hlk5 hs5
  unfold Cl.cells at HM
  cases hb : nameS cart with
  | false =>
    rw [hb] at HN
    go_wp2_with fail
    refine (HN.out _).mono ?_
    rintro e w' ⟨rfl, rfl⟩
    go_wp2
    go_ret
    exact ⟨ret_int (by rw [hb]; rfl), HF5.out⟩
  | true =>
    rw [hb] at HN
    cases hm : mayUpd ⟨id, 1, cart, sku, q, cl, tok⟩ with
    | false =>
      rw [hm] at HM
      have HMM := hid hm
      clear hm
      go_wp2_with fail
      refine (HN.out _).mono ?_
      rintro e w' ⟨rfl, rfl⟩
      go_wp2_with fail
      refine (HM.out _ HS5.out).mono ?_
      rintro e w6 ⟨rfl, hs6⟩
      have HF6 : Hid (Below w.heap.size w w6) := HB.out.trans (hs6.out.mono HB.out.size)
      clear hs6
      go_wp2
      go_ret
      exact ⟨ret_int (by rw [hb, HMM.out]; rfl), HF6.out⟩
    | true =>
      rw [hm] at HM
      have HMM := hid hm
      clear hm
      go_wp2_with fail
      refine (HN.out _).mono ?_
      rintro e w' ⟨rfl, rfl⟩
      go_wp2_with fail
      refine (HM.out _ HS5.out).mono ?_
      rintro e w6 ⟨rfl, hs6⟩
      have HF6 : Hid (Below w.heap.size w w6) := HB.out.trans (hs6.out.mono HB.out.size)
      clear hs6
      go_wp2
      go_ret
      exact ⟨ret_int (by rw [hb, HMM.out]; rfl), HF6.out⟩
set_option maxRecDepth 100000 in
theorem check_2 (id : Int) (cart sku : ByteArray) (q : Int) (cl : Bool) (tok : ByteArray) (h : Cl.Ok ⟨id, 2, cart, sku, q, cl, tok⟩) (w : World) : Calls Tryd.prog 11 #[.agg (Cl.cells ⟨id, 2, cart, sku, q, cl, tok⟩).toArray] w fun e w' => e = .returned (.int .i64 (errR (nameS cart && true))) ∧ Below w.heap.size w w' := by
  obtain ⟨W, hW⟩ : ∃ W, W = w.alloc (.cells (Cl.cells ⟨id, 2, cart, sku, q, cl, tok⟩).toArray 23) := ⟨_, rfl⟩
  have HB : Hid (Below w.heap.size w W) := by rw [hW]; exact (Below.refl _ _).alloc (Nat.le_refl _) _
  have HK : Hid (Blk W w.heap.size 23 (Cl.cells ⟨id, 2, cart, sku, q, cl, tok⟩)) := by rw [hW]; exact Blk.new w _ _
  have HKI : Hid (∀ V, ScR W V → Calls Tryd.prog 24 #[] V fun e w' => ∃ k, e = .returned (.map (some k)) ∧ (Instr.lookup 49 (.map (some k)) (.int .i64 2) true).run Tryd.prog w' = .ok (.tuple #[.func (.func 31) #[] #[], .bool true]) w' ∧ ScR W w') := fun V hV => by
    refine (kindsR V).mono ?_
    rintro e w' ⟨rfl, hk, hb⟩
    exact ⟨_, rfl, hk.look h.hk (rfl) (fun _ => by first | rfl | contradiction), hV.go hb⟩
  have HSA : Hid (∀ V, ScR W V → (ScR W V ∧ V.cell? ⟨w.heap.size, 1, none⟩ = some (.int .i64 2))) := fun V hV => ⟨hV, (HK.out.below hV.out HK.out.lt).cell rfl⟩
  have HW := hid hW
  have HM : Hid (∀ V, ScR W V → Calls Tryd.prog 31 #[.agg (Cl.cells ⟨id, 2, cart, sku, q, cl, tok⟩).toArray] V fun e w' => e = .returned (.bool (true)) ∧ ScR W w') := fun V hV => by
    refine (kinds1R _ V).mono ?_
    rintro e w' ⟨rfl, hb⟩
    exact ⟨rfl, hV.go hb⟩
  have HN : Hid (∀ V, Calls Tryd.prog 22 #[.string cart] V fun e w' => e = .returned (.bool (nameS cart)) ∧ w' = V) := fun V => codecName_any cart V h.hc
  clear hW h
  obtain ⟨bc, hbc⟩ : ∃ q, q = w.heap.size := ⟨_, rfl⟩
  rw [← hbc] at HK HSA
  have HBC := hid hbc
  clear hbc
  unfold Cl.cells at HW HK ⊢
  go_enter Tryd.func11, Tryd.ntmps11
  go_wp2
  rw [← HBC.out]
  simp only [List.toArray] at HW
  rw [← HW.out]
  go_region_held3 (fun V => ScR W V ∧ V.cell? ⟨bc, 1, none⟩ = some (.int .i64 2))
    (first | (refine ⟨?_, ?_⟩ <;> assumption) | (refine HSA.out _ ?_; (repeat (first | assumption | exact ScR.start _ | apply ScR.dr)); done))
    (first
      | (go_at_call 24; with_reducible refine (HKI.out _ (by (repeat (first | assumption | exact ScR.start _ | apply ScR.dr)))).mono ?_; rintro e w5 ⟨k5, rfl, hlk5, hs5⟩))
  rename_i hHeld
  have HS5 := hid hHeld.1
  have HK5 := hid (HK.out.below HS5.out.out HK.out.lt)
  have c0 := HK5.out.cell (i := 0) rfl
  have c1 := HK5.out.cell (i := 1) rfl
  have c2 := HK5.out.cell (i := 2) rfl
  have c3 := HK5.out.cell (i := 3) rfl
  have c4 := HK5.out.cell (i := 4) rfl
  have c5 := HK5.out.cell (i := 5) rfl
  have c6 := HK5.out.cell (i := 6) rfl
  have HF5 : Hid (Below w.heap.size w w5) := HB.out.trans (HS5.out.out.mono HB.out.size)
  clear hHeld hlk5 hs5
  unfold Cl.cells at HM
  cases hb : nameS cart with
  | false =>
    rw [hb] at HN
    go_wp2_with fail
    refine (HN.out _).mono ?_
    rintro e w' ⟨rfl, rfl⟩
    go_wp2
    go_ret
    exact ⟨ret_int (by rw [hb]; rfl), HF5.out⟩
  | true =>
    rw [hb] at HN
    go_wp2_with fail
    refine (HN.out _).mono ?_
    rintro e w' ⟨rfl, rfl⟩
    go_wp2_with fail
    refine (HM.out _ HS5.out).mono ?_
    rintro e w6 ⟨rfl, hs6⟩
    have HF6 : Hid (Below w.heap.size w w6) := HB.out.trans (hs6.out.mono HB.out.size)
    clear hs6
    go_wp2
    go_ret
    exact ⟨ret_int (by rw [hb]; rfl), HF6.out⟩
set_option maxRecDepth 100000 in
theorem check_3 (id : Int) (cart sku : ByteArray) (q : Int) (cl : Bool) (tok : ByteArray) (h : Cl.Ok ⟨id, 3, cart, sku, q, cl, tok⟩) (w : World) : Calls Tryd.prog 11 #[.agg (Cl.cells ⟨id, 3, cart, sku, q, cl, tok⟩).toArray] w fun e w' => e = .returned (.int .i64 (errR (nameS cart && nameS tok))) ∧ Below w.heap.size w w' := by
  obtain ⟨W, hW⟩ : ∃ W, W = w.alloc (.cells (Cl.cells ⟨id, 3, cart, sku, q, cl, tok⟩).toArray 23) := ⟨_, rfl⟩
  have HB : Hid (Below w.heap.size w W) := by rw [hW]; exact (Below.refl _ _).alloc (Nat.le_refl _) _
  have HK : Hid (Blk W w.heap.size 23 (Cl.cells ⟨id, 3, cart, sku, q, cl, tok⟩)) := by rw [hW]; exact Blk.new w _ _
  have HKI : Hid (∀ V, ScR W V → Calls Tryd.prog 24 #[] V fun e w' => ∃ k, e = .returned (.map (some k)) ∧ (Instr.lookup 49 (.map (some k)) (.int .i64 3) true).run Tryd.prog w' = .ok (.tuple #[.func (.func 32) #[] #[], .bool true]) w' ∧ ScR W w') := fun V hV => by
    refine (kindsR V).mono ?_
    rintro e w' ⟨rfl, hk, hb⟩
    exact ⟨_, rfl, hk.look h.hk (rfl) (fun _ => by first | rfl | contradiction), hV.go hb⟩
  have HSA : Hid (∀ V, ScR W V → (ScR W V ∧ V.cell? ⟨w.heap.size, 1, none⟩ = some (.int .i64 3))) := fun V hV => ⟨hV, (HK.out.below hV.out HK.out.lt).cell rfl⟩
  have HW := hid hW
  have HM : Hid (∀ V, ScR W V → Calls Tryd.prog 32 #[.agg (Cl.cells ⟨id, 3, cart, sku, q, cl, tok⟩).toArray] V fun e w' => e = .returned (.bool (nameS tok)) ∧ ScR W w') := fun V hV => by
    refine (hasTokenR _ h V).mono ?_
    rintro e w' ⟨rfl, hb⟩
    exact ⟨rfl, hV.go hb⟩
  have HN : Hid (∀ V, Calls Tryd.prog 22 #[.string cart] V fun e w' => e = .returned (.bool (nameS cart)) ∧ w' = V) := fun V => codecName_any cart V h.hc
  clear hW h
  obtain ⟨bc, hbc⟩ : ∃ q, q = w.heap.size := ⟨_, rfl⟩
  rw [← hbc] at HK HSA
  have HBC := hid hbc
  clear hbc
  unfold Cl.cells at HW HK ⊢
  go_enter Tryd.func11, Tryd.ntmps11
  go_wp2
  rw [← HBC.out]
  simp only [List.toArray] at HW
  rw [← HW.out]
  go_region_held3 (fun V => ScR W V ∧ V.cell? ⟨bc, 1, none⟩ = some (.int .i64 3))
    (first | (refine ⟨?_, ?_⟩ <;> assumption) | (refine HSA.out _ ?_; (repeat (first | assumption | exact ScR.start _ | apply ScR.dr)); done))
    (first
      | (go_at_call 24; with_reducible refine (HKI.out _ (by (repeat (first | assumption | exact ScR.start _ | apply ScR.dr)))).mono ?_; rintro e w5 ⟨k5, rfl, hlk5, hs5⟩))
  rename_i hHeld
  have HS5 := hid hHeld.1
  have HK5 := hid (HK.out.below HS5.out.out HK.out.lt)
  have c0 := HK5.out.cell (i := 0) rfl
  have c1 := HK5.out.cell (i := 1) rfl
  have c2 := HK5.out.cell (i := 2) rfl
  have c3 := HK5.out.cell (i := 3) rfl
  have c4 := HK5.out.cell (i := 4) rfl
  have c5 := HK5.out.cell (i := 5) rfl
  have c6 := HK5.out.cell (i := 6) rfl
  have HF5 : Hid (Below w.heap.size w w5) := HB.out.trans (HS5.out.out.mono HB.out.size)
  clear hHeld hlk5 hs5
  unfold Cl.cells at HM
  cases hb : nameS cart with
  | false =>
    rw [hb] at HN
    go_wp2_with fail
    refine (HN.out _).mono ?_
    rintro e w' ⟨rfl, rfl⟩
    go_wp2
    go_ret
    exact ⟨ret_int (by rw [hb]; rfl), HF5.out⟩
  | true =>
    rw [hb] at HN
    cases hm : nameS tok with
    | false =>
      rw [hm] at HM
      have HMM := hid hm
      clear hm
      go_wp2_with fail
      refine (HN.out _).mono ?_
      rintro e w' ⟨rfl, rfl⟩
      go_wp2_with fail
      refine (HM.out _ HS5.out).mono ?_
      rintro e w6 ⟨rfl, hs6⟩
      have HF6 : Hid (Below w.heap.size w w6) := HB.out.trans (hs6.out.mono HB.out.size)
      clear hs6
      go_wp2
      go_ret
      exact ⟨ret_int (by rw [hb, HMM.out]; rfl), HF6.out⟩
    | true =>
      rw [hm] at HM
      have HMM := hid hm
      clear hm
      go_wp2_with fail
      refine (HN.out _).mono ?_
      rintro e w' ⟨rfl, rfl⟩
      go_wp2_with fail
      refine (HM.out _ HS5.out).mono ?_
      rintro e w6 ⟨rfl, hs6⟩
      have HF6 : Hid (Below w.heap.size w w6) := HB.out.trans (hs6.out.mono HB.out.size)
      clear hs6
      go_wp2
      go_ret
      exact ⟨ret_int (by rw [hb, HMM.out]; rfl), HF6.out⟩
set_option maxRecDepth 100000 in
theorem check_4 (id : Int) (cart sku : ByteArray) (q : Int) (cl : Bool) (tok : ByteArray) (h : Cl.Ok ⟨id, 4, cart, sku, q, cl, tok⟩) (w : World) : Calls Tryd.prog 11 #[.agg (Cl.cells ⟨id, 4, cart, sku, q, cl, tok⟩).toArray] w fun e w' => e = .returned (.int .i64 (errR (nameS cart && nameS tok))) ∧ Below w.heap.size w w' := by
  obtain ⟨W, hW⟩ : ∃ W, W = w.alloc (.cells (Cl.cells ⟨id, 4, cart, sku, q, cl, tok⟩).toArray 23) := ⟨_, rfl⟩
  have HB : Hid (Below w.heap.size w W) := by rw [hW]; exact (Below.refl _ _).alloc (Nat.le_refl _) _
  have HK : Hid (Blk W w.heap.size 23 (Cl.cells ⟨id, 4, cart, sku, q, cl, tok⟩)) := by rw [hW]; exact Blk.new w _ _
  have HKI : Hid (∀ V, ScR W V → Calls Tryd.prog 24 #[] V fun e w' => ∃ k, e = .returned (.map (some k)) ∧ (Instr.lookup 49 (.map (some k)) (.int .i64 4) true).run Tryd.prog w' = .ok (.tuple #[.func (.func 32) #[] #[], .bool true]) w' ∧ ScR W w') := fun V hV => by
    refine (kindsR V).mono ?_
    rintro e w' ⟨rfl, hk, hb⟩
    exact ⟨_, rfl, hk.look h.hk (rfl) (fun _ => by first | rfl | contradiction), hV.go hb⟩
  have HSA : Hid (∀ V, ScR W V → (ScR W V ∧ V.cell? ⟨w.heap.size, 1, none⟩ = some (.int .i64 4))) := fun V hV => ⟨hV, (HK.out.below hV.out HK.out.lt).cell rfl⟩
  have HW := hid hW
  have HM : Hid (∀ V, ScR W V → Calls Tryd.prog 32 #[.agg (Cl.cells ⟨id, 4, cart, sku, q, cl, tok⟩).toArray] V fun e w' => e = .returned (.bool (nameS tok)) ∧ ScR W w') := fun V hV => by
    refine (hasTokenR _ h V).mono ?_
    rintro e w' ⟨rfl, hb⟩
    exact ⟨rfl, hV.go hb⟩
  have HN : Hid (∀ V, Calls Tryd.prog 22 #[.string cart] V fun e w' => e = .returned (.bool (nameS cart)) ∧ w' = V) := fun V => codecName_any cart V h.hc
  clear hW h
  obtain ⟨bc, hbc⟩ : ∃ q, q = w.heap.size := ⟨_, rfl⟩
  rw [← hbc] at HK HSA
  have HBC := hid hbc
  clear hbc
  unfold Cl.cells at HW HK ⊢
  go_enter Tryd.func11, Tryd.ntmps11
  go_wp2
  rw [← HBC.out]
  simp only [List.toArray] at HW
  rw [← HW.out]
  go_region_held3 (fun V => ScR W V ∧ V.cell? ⟨bc, 1, none⟩ = some (.int .i64 4))
    (first | (refine ⟨?_, ?_⟩ <;> assumption) | (refine HSA.out _ ?_; (repeat (first | assumption | exact ScR.start _ | apply ScR.dr)); done))
    (first
      | (go_at_call 24; with_reducible refine (HKI.out _ (by (repeat (first | assumption | exact ScR.start _ | apply ScR.dr)))).mono ?_; rintro e w5 ⟨k5, rfl, hlk5, hs5⟩))
  rename_i hHeld
  have HS5 := hid hHeld.1
  have HK5 := hid (HK.out.below HS5.out.out HK.out.lt)
  have c0 := HK5.out.cell (i := 0) rfl
  have c1 := HK5.out.cell (i := 1) rfl
  have c2 := HK5.out.cell (i := 2) rfl
  have c3 := HK5.out.cell (i := 3) rfl
  have c4 := HK5.out.cell (i := 4) rfl
  have c5 := HK5.out.cell (i := 5) rfl
  have c6 := HK5.out.cell (i := 6) rfl
  have HF5 : Hid (Below w.heap.size w w5) := HB.out.trans (HS5.out.out.mono HB.out.size)
  clear hHeld hlk5 hs5
  unfold Cl.cells at HM
  cases hb : nameS cart with
  | false =>
    rw [hb] at HN
    go_wp2_with fail
    refine (HN.out _).mono ?_
    rintro e w' ⟨rfl, rfl⟩
    go_wp2
    go_ret
    exact ⟨ret_int (by rw [hb]; rfl), HF5.out⟩
  | true =>
    rw [hb] at HN
    cases hm : nameS tok with
    | false =>
      rw [hm] at HM
      have HMM := hid hm
      clear hm
      go_wp2_with fail
      refine (HN.out _).mono ?_
      rintro e w' ⟨rfl, rfl⟩
      go_wp2_with fail
      refine (HM.out _ HS5.out).mono ?_
      rintro e w6 ⟨rfl, hs6⟩
      have HF6 : Hid (Below w.heap.size w w6) := HB.out.trans (hs6.out.mono HB.out.size)
      clear hs6
      go_wp2
      go_ret
      exact ⟨ret_int (by rw [hb, HMM.out]; rfl), HF6.out⟩
    | true =>
      rw [hm] at HM
      have HMM := hid hm
      clear hm
      go_wp2_with fail
      refine (HN.out _).mono ?_
      rintro e w' ⟨rfl, rfl⟩
      go_wp2_with fail
      refine (HM.out _ HS5.out).mono ?_
      rintro e w6 ⟨rfl, hs6⟩
      have HF6 : Hid (Below w.heap.size w w6) := HB.out.trans (hs6.out.mono HB.out.size)
      clear hs6
      go_wp2
      go_ret
      exact ⟨ret_int (by rw [hb, HMM.out]; rfl), HF6.out⟩
set_option maxRecDepth 100000 in
theorem check_no (id : Int) (cart sku : ByteArray) (q : Int) (cl : Bool) (tok : ByteArray) (kd : Int) (hkd : ¬ (kd = 1 ∨ kd = 2 ∨ kd = 3 ∨ kd = 4)) (h : Cl.Ok ⟨id, kd, cart, sku, q, cl, tok⟩) (w : World) : Calls Tryd.prog 11 #[.agg (Cl.cells ⟨id, kd, cart, sku, q, cl, tok⟩).toArray] w fun e w' => e = .returned (.int .i64 (errR (nameS cart && false))) ∧ Below w.heap.size w w' := by
  obtain ⟨W, hW⟩ : ∃ W, W = w.alloc (.cells (Cl.cells ⟨id, kd, cart, sku, q, cl, tok⟩).toArray 23) := ⟨_, rfl⟩
  have HB : Hid (Below w.heap.size w W) := by rw [hW]; exact (Below.refl _ _).alloc (Nat.le_refl _) _
  have HK : Hid (Blk W w.heap.size 23 (Cl.cells ⟨id, kd, cart, sku, q, cl, tok⟩)) := by rw [hW]; exact Blk.new w _ _
  have HKI : Hid (∀ V, ScR W V → Calls Tryd.prog 24 #[] V fun e w' => ∃ k, e = .returned (.map (some k)) ∧ (Instr.lookup 49 (.map (some k)) (.int .i64 kd) true).run Tryd.prog w' = .ok (.tuple #[.nilFunc, .bool false]) w' ∧ ScR W w') := fun V hV => by
    refine (kindsR V).mono ?_
    rintro e w' ⟨rfl, hk, hb⟩
    exact ⟨_, rfl, hk.look h.hk (by simp only [show ¬ kd = 4 from fun e => hkd (by omega), show ¬ kd = 3 from fun e => hkd (by omega), show ¬ kd = 2 from fun e => hkd (by omega), show ¬ kd = 1 from fun e => hkd (by omega), if_false]; rfl) (fun _ => by first | rfl | contradiction), hV.go hb⟩
  have HSA : Hid (∀ V, ScR W V → (ScR W V ∧ V.cell? ⟨w.heap.size, 1, none⟩ = some (.int .i64 kd))) := fun V hV => ⟨hV, (HK.out.below hV.out HK.out.lt).cell rfl⟩
  have HW := hid hW
  have HN : Hid (∀ V, Calls Tryd.prog 22 #[.string cart] V fun e w' => e = .returned (.bool (nameS cart)) ∧ w' = V) := fun V => codecName_any cart V h.hc
  clear hW h
  obtain ⟨bc, hbc⟩ : ∃ q, q = w.heap.size := ⟨_, rfl⟩
  rw [← hbc] at HK HSA
  have HBC := hid hbc
  clear hbc
  unfold Cl.cells at HW HK ⊢
  go_enter Tryd.func11, Tryd.ntmps11
  go_wp2
  rw [← HBC.out]
  simp only [List.toArray] at HW
  rw [← HW.out]
  go_region_held3 (fun V => ScR W V ∧ V.cell? ⟨bc, 1, none⟩ = some (.int .i64 kd))
    (first | (refine ⟨?_, ?_⟩ <;> assumption) | (refine HSA.out _ ?_; (repeat (first | assumption | exact ScR.start _ | apply ScR.dr)); done))
    (first
      | (go_at_call 24; with_reducible refine (HKI.out _ (by (repeat (first | assumption | exact ScR.start _ | apply ScR.dr)))).mono ?_; rintro e w5 ⟨k5, rfl, hlk5, hs5⟩))
  rename_i hHeld
  have HS5 := hid hHeld.1
  have HK5 := hid (HK.out.below HS5.out.out HK.out.lt)
  have c0 := HK5.out.cell (i := 0) rfl
  have c1 := HK5.out.cell (i := 1) rfl
  have c2 := HK5.out.cell (i := 2) rfl
  have c3 := HK5.out.cell (i := 3) rfl
  have c4 := HK5.out.cell (i := 4) rfl
  have c5 := HK5.out.cell (i := 5) rfl
  have c6 := HK5.out.cell (i := 6) rfl
  have HF5 : Hid (Below w.heap.size w w5) := HB.out.trans (HS5.out.out.mono HB.out.size)
  clear hHeld hlk5 hs5
  go_wp2
  go_ret
  exact ⟨ret_int (by rw [Bool.and_false]; rfl), HF5.out⟩
theorem checkR_any (c : Cl) (h : c.Ok) (w : World) : Calls Tryd.prog 11 #[.agg c.cells.toArray] w fun e w' => e = .returned (.int .i64 (errR (okCall c))) ∧ Below w.heap.size w w' := by
  obtain ⟨id, kd, cart, sku, q, cl, tok⟩ := c
  unfold okCall mayCl
  simp only
  by_cases h1 : kd = 1
  · subst h1; rw [if_pos rfl]; exact check_1 id cart sku q cl tok h w
  · rw [if_neg h1]
    by_cases h2 : kd = 2
    · subst h2; rw [if_pos rfl]; exact check_2 id cart sku q cl tok h w
    · rw [if_neg h2]
      by_cases h3 : kd = 3
      · subst h3; rw [if_pos rfl]; exact check_3 id cart sku q cl tok h w
      · rw [if_neg h3]
        by_cases h4 : kd = 4
        · subst h4; rw [if_pos rfl]; exact check_4 id cart sku q cl tok h w
        · rw [if_neg h4]
          exact check_no id cart sku q cl tok kd (by omega) h w
end Go.Proofs.YtppllbdoihfcbaaDoor
