/-
  Package codec: how a ballot, a seal, an entry, a vote, an event are written.
-/
import Derived.Test.YtjjgojjllbdpkaaCodT
namespace Go.Proofs.Ytjjgojjllbdpkaa
open Go.RowKit Go.Maps
attribute [local go_sem] Oper.semAt_some

/-- A step of a writer, from W on. -/
structure StepT (B : Nat) (W V : World) : Prop where
  bel : Below B W V
  t8 : T8 W V
theorem StepT.start (B : Nat) (W : World) : StepT B W W := ⟨Below.refl _ _, T8.refl _⟩
theorem StepT.dr {B : Nat} {W V : World} (h : StepT B W V) : StepT B W V.drew := ⟨below_dn h.bel 1, Turns.drew h.t8⟩
theorem StepT.go {B : Nat} {W V U : World} (h : StepT B W V) (hb : Below B V U) (ht : T8 V U) : StepT B W U := ⟨h.bel.trans hb, h.t8.trans ht⟩
theorem row_drew {B e size n : Nat} {w : World} {v : Value} {xs : List Value} (h : w.ownsRow B e size v n xs) : w.drew.ownsRow B e size v n xs := h
set_option maxRecDepth 100000 in
set_option maxHeartbeats 1000000 in
theorem appendBallot_T (u : Value) (n : Nat) (bs : List Int) (r nd : Int) (B : Nat) (w : World) (h1 : 0 ≤ r ∧ r ≤ 2147483647) (h2 : 0 ≤ nd ∧ nd ≤ 6) (hown : w.ownsRow B 5 1 u n (nums bs)) (hB : B ≤ w.heap.size) (hn : n ≤ 140737488300000) :
    Calls Try.prog 30 #[u, .agg #[.int .i64 r, .int .i64 nd]] w (AppP B w n bs (enc r.toNat ++ enc nd.toNat)) := by
  obtain ⟨W, hW⟩ : ∃ W, W = w.alloc (.cells #[.int .i64 r, .int .i64 nd] 23) := ⟨_, rfl⟩
  have HB : Hid (StepT B w W) := by rw [hW]; exact ⟨(Below.refl _ _).alloc hB _, (T8.refl w).alloc _⟩
  have HK : Hid (Blk W w.heap.size 23 [.int .i64 r, .int .i64 nd]) := by rw [hW]; exact Blk.new w _ _
  have HR0 : Hid (W.ownsRow B 5 1 u n (nums bs)) := by rw [hW]; exact hown.alloc _
  have l1 := enc_le10 (x := r.toNat) (by omega)
  obtain ⟨a1, HA1⟩ : ∃ a, Hid ((enc r.toNat).length = a) := ⟨_, hid rfl⟩
  have hBW : B ≤ W.heap.size := Nat.le_trans hB HB.out.bel.size
  have HT1 : Hid (∀ V, StepT B W V → Hid (V.ownsRow B 5 1 u n (nums bs)) → Calls Try.prog 29 #[u, .int .i64 r] V fun e w' => ∃ v', e = .returned v' ∧ Hid (w'.ownsRow B 5 1 v' (n + a1) (nums (bs ++ enc r.toNat))) ∧ StepT B W w') := fun V hV hr => by
    refine (appendNumber_T u n bs r B V h1.1 (by omega) hr.out (Nat.le_trans hBW hV.bel.size) (by omega)).mono ?_
    rintro e w' ⟨v', rfl, k1, k2, k3⟩
    exact ⟨v', rfl, by rw [← HA1.out]; exact k1, hV.go k2 k3⟩
  have HT2 : Hid (∀ V v1, StepT B W V → Hid (V.ownsRow B 5 1 v1 (n + a1) (nums (bs ++ enc r.toNat))) → Calls Try.prog 29 #[v1, .int .i64 nd] V fun e w' => ∃ v', e = .returned v' ∧ Hid (w'.ownsRow B 5 1 v' (n + (enc r.toNat ++ enc nd.toNat).length) (nums (bs ++ (enc r.toNat ++ enc nd.toNat)))) ∧ StepT B W w') := fun V v1 hV hr => by
    refine (appendNumber_T v1 (n + a1) _ nd B V h2.1 (by omega) hr.out (Nat.le_trans hBW hV.bel.size) (by have := HA1.out; omega)).mono ?_
    rintro e w' ⟨v', rfl, k1, k2, k3⟩
    refine ⟨v', rfl, ?_, hV.go k2 k3⟩
    rw [List.length_append, HA1.out, ← List.append_assoc, ← Nat.add_assoc]
    exact k1
  have HW := hid hW
  have HSA : Hid (∀ V, StepT B W V → (StepT B W V ∧ V.cell? ⟨w.heap.size, 0, none⟩ = some (.int .i64 r) ∧ V.cell? ⟨w.heap.size, 1, none⟩ = some (.int .i64 nd))) := fun V hV => by
    have hk := hV.t8.blk HK.out (by decide)
    exact ⟨hV, hk.cell rfl, hk.cell rfl⟩
  have HRD : Hid (∀ (V : World) v k cs, Hid (V.ownsRow B 5 1 v k cs) → Hid (V.drew.ownsRow B 5 1 v k cs)) := fun V v k cs h => row_drew h.out
  clear hW hown l1 h1 h2 HA1
  go_enter Try.func30, Try.ntmps30
  go_wp2
  rw [← HW.out]
  obtain ⟨p, hp⟩ : ∃ p, p = w.heap.size := ⟨_, rfl⟩
  rw [← hp] at HSA ⊢
  clear hp HW HK
  obtain ⟨_, q0, q1⟩ := HSA.out W (StepT.start _ _)
  go_region_held3 (fun V => StepT B W V ∧ V.cell? ⟨p, 0, none⟩ = some (.int .i64 r) ∧ V.cell? ⟨p, 1, none⟩ = some (.int .i64 nd)) (first | (refine ⟨?_, ?_, ?_⟩ <;> assumption) | (refine HSA.out _ ?_; (repeat (first | assumption | exact StepT.start _ _ | apply StepT.dr)); done)) (first
    | (go_at_call 29; with_reducible refine (HT1.out _ (by repeat (first | assumption | exact StepT.start _ _ | apply StepT.dr)) (by first | exact HR0 | exact HRD.out _ _ _ _ HR0)).mono ?_; rintro e w1 ⟨v1, rfl, hr1, hs1⟩)
    | (go_at_call 29; with_reducible refine (HT2.out _ _ (by repeat (first | assumption | exact StepT.start _ _ | apply StepT.dr)) (by first | assumption | (refine HRD.out _ _ _ _ ?_; assumption))).mono ?_; rintro e w2 ⟨v2, rfl, hr2, hs2⟩))
  all_goals
    have HF : Hid (StepT B w w2) := ⟨HB.out.bel.trans hs2.bel, HB.out.t8.trans hs2.t8⟩
    clear hs2 hs1 HT1 HT2 HSA
    go_wp2
    go_ret
    exact ⟨_, rfl, hr2.out, HF.out.bel, HF.out.t8⟩
end Go.Proofs.Ytjjgojjllbdpkaa
