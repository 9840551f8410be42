/-
  The document's Check, Digits, Token of layer 23.
-/
import Derived.Test.YtppllbdoihfcbaaDoorRoD
namespace Go.Proofs.YtppllbdoihfcbaaDoor
open Go.RowKit Go.Maps


set_option maxRecDepth 100000 in
theorem rcheck_1 (id : Int) (cart sku : ByteArray) (q : Int) (cl : Bool) (tok : ByteArray) (h : Cl.Ok ⟨id, 1, cart, sku, q, cl, tok⟩) (w : World) : Calls Tryd.prog 12 #[.agg (Cl.cells ⟨id, 1, cart, sku, q, cl, tok⟩).toArray] w fun e w' => e = .returned (.int .i64 (errR (nameS cart && mayUpd ⟨id, 1, cart, sku, q, cl, tok⟩))) ∧ Below w.heap.size w w' := by
  obtain ⟨W, hW⟩ : ∃ W, W = w.alloc (.cells (Cl.cells ⟨id, 1, cart, sku, q, cl, tok⟩).toArray 23) := ⟨_, rfl⟩
  have HB : Hid (Below w.heap.size w W) := by rw [hW]; exact (Below.refl _ _).alloc (Nat.le_refl _) _
  have hk : Blk W w.heap.size 23 (Cl.cells ⟨id, 1, cart, sku, q, cl, tok⟩) := by rw [hW]; exact Blk.new w _ _
  have c1 := hk.cell (i := 1) rfl
  have c2 := hk.cell (i := 2) rfl
  have c3 := hk.cell (i := 3) rfl
  have c4 := hk.cell (i := 4) rfl
  have c6 := hk.cell (i := 6) rfl
  have HNC : Hid (∀ V, Calls Tryd.prog 25 #[.string cart] V fun e w' => e = .returned (.bool (nameS cart)) ∧ w' = V) := fun V => refName_any cart V h.hc
  have HNS : Hid (∀ V, Calls Tryd.prog 25 #[.string sku] V fun e w' => e = .returned (.bool (nameS sku)) ∧ w' = V) := fun V => refName_any sku V h.hs
  have HNT : Hid (∀ V, Calls Tryd.prog 25 #[.string tok] V fun e w' => e = .returned (.bool (nameS tok)) ∧ w' = V) := fun V => refName_any tok V h.ht
  rw [hW] at c1 c2 c3 c4 c6 HB
  unfold Cl.cells at c1 c2 c3 c4 c6 HB ⊢
  clear hW hk h W
  unfold mayUpd
  simp only
  cases hc : nameS cart with
  | false =>
    rw [hc] at HNC
    go_enter Tryd.func12, Tryd.ntmps12
    go_wp2_with (first | (go_at_call 25; with_reducible refine (HNC.out _).mono ?_; rintro e w' ⟨rfl, rfl⟩) | (go_at_call 25; with_reducible refine (HNS.out _).mono ?_; rintro e w' ⟨rfl, rfl⟩) | (go_at_call 25; with_reducible refine (HNT.out _).mono ?_; rintro e w' ⟨rfl, rfl⟩))
    all_goals (first | (exfalso; rename_i hx; rw [HQ.out.2] at hx; cases hx; done) | (go_ret; exact ⟨ret_int (by first | rfl | (rfl)), HB.out⟩) | (exfalso; omega))
  | true =>
    rw [hc] at HNC
    cases hs : nameS sku with
    | false =>
      rw [hs] at HNS
      go_enter Tryd.func12, Tryd.ntmps12
      go_wp2_with (first | (go_at_call 25; with_reducible refine (HNC.out _).mono ?_; rintro e w' ⟨rfl, rfl⟩) | (go_at_call 25; with_reducible refine (HNS.out _).mono ?_; rintro e w' ⟨rfl, rfl⟩) | (go_at_call 25; with_reducible refine (HNT.out _).mono ?_; rintro e w' ⟨rfl, rfl⟩))
      all_goals (first | (exfalso; rename_i hx; rw [HQ.out.2] at hx; cases hx; done) | (go_ret; exact ⟨ret_int (by first | rfl | (rfl)), HB.out⟩) | (exfalso; omega))
    | true =>
      rw [hs] at HNS
      have HHC := hid hc
      have HHS := hid hs
      clear hc hs
      by_cases h0 : 0 ≤ q
      · by_cases h1 : q ≤ 1000
        · have HQ : Hid (decide (0 ≤ q) = true ∧ decide (q ≤ 1000) = true) := ⟨decide_eq_true h0, decide_eq_true h1⟩
          go_enter Tryd.func12, Tryd.ntmps12
          go_wp2_with (first | (go_at_call 25; with_reducible refine (HNC.out _).mono ?_; rintro e w' ⟨rfl, rfl⟩) | (go_at_call 25; with_reducible refine (HNS.out _).mono ?_; rintro e w' ⟨rfl, rfl⟩) | (go_at_call 25; with_reducible refine (HNT.out _).mono ?_; rintro e w' ⟨rfl, rfl⟩))
          all_goals (first | (exfalso; rename_i hx; rw [HQ.out.2] at hx; cases hx; done) | (go_ret; exact ⟨ret_int (by first | rfl | (first | (rw [HQ.out.1, HQ.out.2]; rfl) | (rw [HQ.out.2]; rfl) | (simp only [HQ.out.1, HQ.out.2]; rfl) | simp [HQ.out.1, HQ.out.2, errR])), HB.out⟩) | (exfalso; omega))
        · have HQ : Hid (decide (0 ≤ q) = true ∧ decide (q ≤ 1000) = false) := ⟨decide_eq_true h0, decide_eq_false h1⟩
          go_enter Tryd.func12, Tryd.ntmps12
          go_wp2_with (first | (go_at_call 25; with_reducible refine (HNC.out _).mono ?_; rintro e w' ⟨rfl, rfl⟩) | (go_at_call 25; with_reducible refine (HNS.out _).mono ?_; rintro e w' ⟨rfl, rfl⟩) | (go_at_call 25; with_reducible refine (HNT.out _).mono ?_; rintro e w' ⟨rfl, rfl⟩))
          all_goals (first | (exfalso; rename_i hx; rw [HQ.out.2] at hx; cases hx; done) | (go_ret; exact ⟨ret_int (by first | rfl | (first | (rw [HQ.out.1, HQ.out.2]; rfl) | (rw [HQ.out.2]; rfl) | (simp only [HQ.out.1, HQ.out.2]; rfl) | simp [HQ.out.1, HQ.out.2, errR])), HB.out⟩) | (exfalso; omega))
      · have HQ : Hid (decide (0 ≤ q) = false) := decide_eq_false h0
        go_enter Tryd.func12, Tryd.ntmps12
        go_wp2_with (first | (go_at_call 25; with_reducible refine (HNC.out _).mono ?_; rintro e w' ⟨rfl, rfl⟩) | (go_at_call 25; with_reducible refine (HNS.out _).mono ?_; rintro e w' ⟨rfl, rfl⟩) | (go_at_call 25; with_reducible refine (HNT.out _).mono ?_; rintro e w' ⟨rfl, rfl⟩))
        all_goals (first | (exfalso; rename_i hx; rw [HQ.out.2] at hx; cases hx; done) | (go_ret; exact ⟨ret_int (by first | rfl | (rw [HQ.out]; rfl)), HB.out⟩) | (exfalso; omega))
set_option maxRecDepth 100000 in
theorem rcheck_2 (id : Int) (cart sku : ByteArray) (q : Int) (cl : Bool) (tok : ByteArray) (h : Cl.Ok ⟨id, 2, cart, sku, q, cl, tok⟩) (w : World) : Calls Tryd.prog 12 #[.agg (Cl.cells ⟨id, 2, cart, sku, q, cl, tok⟩).toArray] w fun e w' => e = .returned (.int .i64 (errR (nameS cart && true))) ∧ Below w.heap.size w w' := by
  obtain ⟨W, hW⟩ : ∃ W, W = w.alloc (.cells (Cl.cells ⟨id, 2, cart, sku, q, cl, tok⟩).toArray 23) := ⟨_, rfl⟩
  have HB : Hid (Below w.heap.size w W) := by rw [hW]; exact (Below.refl _ _).alloc (Nat.le_refl _) _
  have hk : Blk W w.heap.size 23 (Cl.cells ⟨id, 2, cart, sku, q, cl, tok⟩) := by rw [hW]; exact Blk.new w _ _
  have c1 := hk.cell (i := 1) rfl
  have c2 := hk.cell (i := 2) rfl
  have c3 := hk.cell (i := 3) rfl
  have c4 := hk.cell (i := 4) rfl
  have c6 := hk.cell (i := 6) rfl
  have HNC : Hid (∀ V, Calls Tryd.prog 25 #[.string cart] V fun e w' => e = .returned (.bool (nameS cart)) ∧ w' = V) := fun V => refName_any cart V h.hc
  have HNS : Hid (∀ V, Calls Tryd.prog 25 #[.string sku] V fun e w' => e = .returned (.bool (nameS sku)) ∧ w' = V) := fun V => refName_any sku V h.hs
  have HNT : Hid (∀ V, Calls Tryd.prog 25 #[.string tok] V fun e w' => e = .returned (.bool (nameS tok)) ∧ w' = V) := fun V => refName_any tok V h.ht
  rw [hW] at c1 c2 c3 c4 c6 HB
  unfold Cl.cells at c1 c2 c3 c4 c6 HB ⊢
  clear hW hk h W
  cases hc : nameS cart with
  | false =>
    rw [hc] at HNC
    go_enter Tryd.func12, Tryd.ntmps12
    go_wp2_with (first | (go_at_call 25; with_reducible refine (HNC.out _).mono ?_; rintro e w' ⟨rfl, rfl⟩) | (go_at_call 25; with_reducible refine (HNS.out _).mono ?_; rintro e w' ⟨rfl, rfl⟩) | (go_at_call 25; with_reducible refine (HNT.out _).mono ?_; rintro e w' ⟨rfl, rfl⟩))
    all_goals (first | (exfalso; rename_i hx; rw [HQ.out.2] at hx; cases hx; done) | (go_ret; exact ⟨ret_int (by first | rfl | (rfl)), HB.out⟩) | (exfalso; omega))
  | true =>
    rw [hc] at HNC
    go_enter Tryd.func12, Tryd.ntmps12
    go_wp2_with (first | (go_at_call 25; with_reducible refine (HNC.out _).mono ?_; rintro e w' ⟨rfl, rfl⟩) | (go_at_call 25; with_reducible refine (HNS.out _).mono ?_; rintro e w' ⟨rfl, rfl⟩) | (go_at_call 25; with_reducible refine (HNT.out _).mono ?_; rintro e w' ⟨rfl, rfl⟩))
    all_goals (first | (exfalso; rename_i hx; rw [HQ.out.2] at hx; cases hx; done) | (go_ret; exact ⟨ret_int (by first | rfl | (rfl)), HB.out⟩) | (exfalso; omega))
set_option maxRecDepth 100000 in
theorem rcheck_3 (id : Int) (cart sku : ByteArray) (q : Int) (cl : Bool) (tok : ByteArray) (h : Cl.Ok ⟨id, 3, cart, sku, q, cl, tok⟩) (w : World) : Calls Tryd.prog 12 #[.agg (Cl.cells ⟨id, 3, cart, sku, q, cl, tok⟩).toArray] w fun e w' => e = .returned (.int .i64 (errR (nameS cart && nameS tok))) ∧ Below w.heap.size w w' := by
  obtain ⟨W, hW⟩ : ∃ W, W = w.alloc (.cells (Cl.cells ⟨id, 3, cart, sku, q, cl, tok⟩).toArray 23) := ⟨_, rfl⟩
  have HB : Hid (Below w.heap.size w W) := by rw [hW]; exact (Below.refl _ _).alloc (Nat.le_refl _) _
  have hk : Blk W w.heap.size 23 (Cl.cells ⟨id, 3, cart, sku, q, cl, tok⟩) := by rw [hW]; exact Blk.new w _ _
  have c1 := hk.cell (i := 1) rfl
  have c2 := hk.cell (i := 2) rfl
  have c3 := hk.cell (i := 3) rfl
  have c4 := hk.cell (i := 4) rfl
  have c6 := hk.cell (i := 6) rfl
  have HNC : Hid (∀ V, Calls Tryd.prog 25 #[.string cart] V fun e w' => e = .returned (.bool (nameS cart)) ∧ w' = V) := fun V => refName_any cart V h.hc
  have HNS : Hid (∀ V, Calls Tryd.prog 25 #[.string sku] V fun e w' => e = .returned (.bool (nameS sku)) ∧ w' = V) := fun V => refName_any sku V h.hs
  have HNT : Hid (∀ V, Calls Tryd.prog 25 #[.string tok] V fun e w' => e = .returned (.bool (nameS tok)) ∧ w' = V) := fun V => refName_any tok V h.ht
  rw [hW] at c1 c2 c3 c4 c6 HB
  unfold Cl.cells at c1 c2 c3 c4 c6 HB ⊢
  clear hW hk h W
  cases hc : nameS cart with
  | false =>
    rw [hc] at HNC
    go_enter Tryd.func12, Tryd.ntmps12
    go_wp2_with (first | (go_at_call 25; with_reducible refine (HNC.out _).mono ?_; rintro e w' ⟨rfl, rfl⟩) | (go_at_call 25; with_reducible refine (HNS.out _).mono ?_; rintro e w' ⟨rfl, rfl⟩) | (go_at_call 25; with_reducible refine (HNT.out _).mono ?_; rintro e w' ⟨rfl, rfl⟩))
    all_goals (first | (exfalso; rename_i hx; rw [HQ.out.2] at hx; cases hx; done) | (go_ret; exact ⟨ret_int (by first | rfl | (rfl)), HB.out⟩) | (exfalso; omega))
  | true =>
    rw [hc] at HNC
    cases hs : nameS tok with
    | false =>
      rw [hs] at HNT
      go_enter Tryd.func12, Tryd.ntmps12
      go_wp2_with (first | (go_at_call 25; with_reducible refine (HNC.out _).mono ?_; rintro e w' ⟨rfl, rfl⟩) | (go_at_call 25; with_reducible refine (HNS.out _).mono ?_; rintro e w' ⟨rfl, rfl⟩) | (go_at_call 25; with_reducible refine (HNT.out _).mono ?_; rintro e w' ⟨rfl, rfl⟩))
      all_goals (first | (exfalso; rename_i hx; rw [HQ.out.2] at hx; cases hx; done) | (go_ret; exact ⟨ret_int (by first | rfl | (rfl)), HB.out⟩) | (exfalso; omega))
    | true =>
      rw [hs] at HNT
      go_enter Tryd.func12, Tryd.ntmps12
      go_wp2_with (first | (go_at_call 25; with_reducible refine (HNC.out _).mono ?_; rintro e w' ⟨rfl, rfl⟩) | (go_at_call 25; with_reducible refine (HNS.out _).mono ?_; rintro e w' ⟨rfl, rfl⟩) | (go_at_call 25; with_reducible refine (HNT.out _).mono ?_; rintro e w' ⟨rfl, rfl⟩))
      all_goals (first | (exfalso; rename_i hx; rw [HQ.out.2] at hx; cases hx; done) | (go_ret; exact ⟨ret_int (by first | rfl | (rfl)), HB.out⟩) | (exfalso; omega))
set_option maxRecDepth 100000 in
theorem rcheck_4 (id : Int) (cart sku : ByteArray) (q : Int) (cl : Bool) (tok : ByteArray) (h : Cl.Ok ⟨id, 4, cart, sku, q, cl, tok⟩) (w : World) : Calls Tryd.prog 12 #[.agg (Cl.cells ⟨id, 4, cart, sku, q, cl, tok⟩).toArray] w fun e w' => e = .returned (.int .i64 (errR (nameS cart && nameS tok))) ∧ Below w.heap.size w w' := by
  obtain ⟨W, hW⟩ : ∃ W, W = w.alloc (.cells (Cl.cells ⟨id, 4, cart, sku, q, cl, tok⟩).toArray 23) := ⟨_, rfl⟩
  have HB : Hid (Below w.heap.size w W) := by rw [hW]; exact (Below.refl _ _).alloc (Nat.le_refl _) _
  have hk : Blk W w.heap.size 23 (Cl.cells ⟨id, 4, cart, sku, q, cl, tok⟩) := by rw [hW]; exact Blk.new w _ _
  have c1 := hk.cell (i := 1) rfl
  have c2 := hk.cell (i := 2) rfl
  have c3 := hk.cell (i := 3) rfl
  have c4 := hk.cell (i := 4) rfl
  have c6 := hk.cell (i := 6) rfl
  have HNC : Hid (∀ V, Calls Tryd.prog 25 #[.string cart] V fun e w' => e = .returned (.bool (nameS cart)) ∧ w' = V) := fun V => refName_any cart V h.hc
  have HNS : Hid (∀ V, Calls Tryd.prog 25 #[.string sku] V fun e w' => e = .returned (.bool (nameS sku)) ∧ w' = V) := fun V => refName_any sku V h.hs
  have HNT : Hid (∀ V, Calls Tryd.prog 25 #[.string tok] V fun e w' => e = .returned (.bool (nameS tok)) ∧ w' = V) := fun V => refName_any tok V h.ht
  rw [hW] at c1 c2 c3 c4 c6 HB
  unfold Cl.cells at c1 c2 c3 c4 c6 HB ⊢
  clear hW hk h W
  cases hc : nameS cart with
  | false =>
    rw [hc] at HNC
    go_enter Tryd.func12, Tryd.ntmps12
    go_wp2_with (first | (go_at_call 25; with_reducible refine (HNC.out _).mono ?_; rintro e w' ⟨rfl, rfl⟩) | (go_at_call 25; with_reducible refine (HNS.out _).mono ?_; rintro e w' ⟨rfl, rfl⟩) | (go_at_call 25; with_reducible refine (HNT.out _).mono ?_; rintro e w' ⟨rfl, rfl⟩))
    all_goals (first | (exfalso; rename_i hx; rw [HQ.out.2] at hx; cases hx; done) | (go_ret; exact ⟨ret_int (by first | rfl | (rfl)), HB.out⟩) | (exfalso; omega))
  | true =>
    rw [hc] at HNC
    cases hs : nameS tok with
    | false =>
      rw [hs] at HNT
      go_enter Tryd.func12, Tryd.ntmps12
      go_wp2_with (first | (go_at_call 25; with_reducible refine (HNC.out _).mono ?_; rintro e w' ⟨rfl, rfl⟩) | (go_at_call 25; with_reducible refine (HNS.out _).mono ?_; rintro e w' ⟨rfl, rfl⟩) | (go_at_call 25; with_reducible refine (HNT.out _).mono ?_; rintro e w' ⟨rfl, rfl⟩))
      all_goals (first | (exfalso; rename_i hx; rw [HQ.out.2] at hx; cases hx; done) | (go_ret; exact ⟨ret_int (by first | rfl | (rfl)), HB.out⟩) | (exfalso; omega))
    | true =>
      rw [hs] at HNT
      go_enter Tryd.func12, Tryd.ntmps12
      go_wp2_with (first | (go_at_call 25; with_reducible refine (HNC.out _).mono ?_; rintro e w' ⟨rfl, rfl⟩) | (go_at_call 25; with_reducible refine (HNS.out _).mono ?_; rintro e w' ⟨rfl, rfl⟩) | (go_at_call 25; with_reducible refine (HNT.out _).mono ?_; rintro e w' ⟨rfl, rfl⟩))
      all_goals (first | (exfalso; rename_i hx; rw [HQ.out.2] at hx; cases hx; done) | (go_ret; exact ⟨ret_int (by first | rfl | (rfl)), HB.out⟩) | (exfalso; omega))
set_option maxRecDepth 100000 in
theorem rcheck_no (id : Int) (cart sku : ByteArray) (q : Int) (cl : Bool) (tok : ByteArray) (kd : Int) (hkd : ¬ (kd = 1 ∨ kd = 2 ∨ kd = 3 ∨ kd = 4)) (h : Cl.Ok ⟨id, kd, cart, sku, q, cl, tok⟩) (w : World) : Calls Tryd.prog 12 #[.agg (Cl.cells ⟨id, kd, cart, sku, q, cl, tok⟩).toArray] w fun e w' => e = .returned (.int .i64 (errR (nameS cart && false))) ∧ Below w.heap.size w w' := by
  obtain ⟨W, hW⟩ : ∃ W, W = w.alloc (.cells (Cl.cells ⟨id, kd, cart, sku, q, cl, tok⟩).toArray 23) := ⟨_, rfl⟩
  have HB : Hid (Below w.heap.size w W) := by rw [hW]; exact (Below.refl _ _).alloc (Nat.le_refl _) _
  have hk : Blk W w.heap.size 23 (Cl.cells ⟨id, kd, cart, sku, q, cl, tok⟩) := by rw [hW]; exact Blk.new w _ _
  have c1 := hk.cell (i := 1) rfl
  have c2 := hk.cell (i := 2) rfl
  have c3 := hk.cell (i := 3) rfl
  have c4 := hk.cell (i := 4) rfl
  have c6 := hk.cell (i := 6) rfl
  have HNC : Hid (∀ V, Calls Tryd.prog 25 #[.string cart] V fun e w' => e = .returned (.bool (nameS cart)) ∧ w' = V) := fun V => refName_any cart V h.hc
  have HNS : Hid (∀ V, Calls Tryd.prog 25 #[.string sku] V fun e w' => e = .returned (.bool (nameS sku)) ∧ w' = V) := fun V => refName_any sku V h.hs
  have HNT : Hid (∀ V, Calls Tryd.prog 25 #[.string tok] V fun e w' => e = .returned (.bool (nameS tok)) ∧ w' = V) := fun V => refName_any tok V h.ht
  rw [hW] at c1 c2 c3 c4 c6 HB
  unfold Cl.cells at c1 c2 c3 c4 c6 HB ⊢
  clear hW hk h W
  have e1 : ¬ kd = 1 := by omega
  have e3 : ¬ kd = 3 := by omega
  have e4 : ¬ kd = 4 := by omega
  have HKD := hid hkd
  by_cases h1 : 1 ≤ kd
  · have h4 : ¬ kd ≤ 4 := by omega
    clear hkd
    go_enter Tryd.func12, Tryd.ntmps12
    go_wp2_with (first | (go_at_call 25; with_reducible refine (HNC.out _).mono ?_; rintro e w' ⟨rfl, rfl⟩) | (go_at_call 25; with_reducible refine (HNS.out _).mono ?_; rintro e w' ⟨rfl, rfl⟩) | (go_at_call 25; with_reducible refine (HNT.out _).mono ?_; rintro e w' ⟨rfl, rfl⟩))
    all_goals (first | (exfalso; rename_i hx; rw [HQ.out.2] at hx; cases hx; done) | (go_ret; exact ⟨ret_int (by first | rfl | (rw [Bool.and_false]; rfl)), HB.out⟩) | (exfalso; omega))
  · clear hkd
    go_enter Tryd.func12, Tryd.ntmps12
    go_wp2_with (first | (go_at_call 25; with_reducible refine (HNC.out _).mono ?_; rintro e w' ⟨rfl, rfl⟩) | (go_at_call 25; with_reducible refine (HNS.out _).mono ?_; rintro e w' ⟨rfl, rfl⟩) | (go_at_call 25; with_reducible refine (HNT.out _).mono ?_; rintro e w' ⟨rfl, rfl⟩))
    all_goals (first | (exfalso; rename_i hx; rw [HQ.out.2] at hx; cases hx; done) | (go_ret; exact ⟨ret_int (by first | rfl | (rw [Bool.and_false]; rfl)), HB.out⟩) | (exfalso; omega))
theorem rcheckR_any (c : Cl) (h : c.Ok) (w : World) : Calls Tryd.prog 12 #[.agg c.cells.toArray] w fun e w' => e = .returned (.int .i64 (errR (okCall c))) ∧ Below w.heap.size w w' := by
  obtain ⟨id, kd, cart, sku, q, cl, tok⟩ := c
  unfold okCall mayCl
  simp only
  by_cases h1 : kd = 1
  · subst h1; rw [if_pos rfl]; exact rcheck_1 id cart sku q cl tok h w
  · rw [if_neg h1]
    by_cases h2 : kd = 2
    · subst h2; rw [if_pos rfl]; exact rcheck_2 id cart sku q cl tok h w
    · rw [if_neg h2]
      by_cases h3 : kd = 3
      · subst h3; rw [if_pos rfl]; exact rcheck_3 id cart sku q cl tok h w
      · rw [if_neg h3]
        by_cases h4 : kd = 4
        · subst h4; rw [if_pos rfl]; exact rcheck_4 id cart sku q cl tok h w
        · rw [if_neg h4]
          exact rcheck_no id cart sku q cl tok kd (by omega) h w

end Go.Proofs.YtppllbdoihfcbaaDoor
