/-
  Package oplog: ready, knows, own.
-/
import Derived.Test.YtcammngbhnhjjaaCartR
import Derived.Test.YtcammngbhnhjjaaRoundQuiet
namespace Go.Proofs.Ytcammngbhnhjjaa
open Go.RowKit Go.Maps

/-- A drawn region that only reads and calls what makes memory beyond W. -/
theorem wp_region_beyond {P : Program} {id : Nat} {Q : Exit → Act → World → Prop} {a : Act} {w : World} {l : List Oper} (W : World) (hm : P.follows .mixedOrders = true) (hB : Region.lexB .any l.toArray = true) (hb : Below W.heap.size W w)
    (h : wpQuiet P l.toArray (fun w' => ∃ X : Beyond W, w' = X.now) (fun a' => ∀ w', (∃ X : Beyond W, w' = X.now) → Q .normal a' w') l a) : (Code.region id l.toArray true).wp P Q a w :=
  wp_region_quiet (C := fun w' => ∃ X : Beyond W, w' = X.now) hm hB ⟨⟨_, below_dn hb 1⟩, rfl⟩ (by simpa using h)
theorem beyond_call {P : Program} {f : FuncId} {args : Array Value} {W : World} {v : Value} (X : Beyond W) (h : Calls P f args X.now fun e w' => e = .returned v ∧ Below X.now.heap.size X.now w') : Calls P f args X.now (fun e w'' => e = .returned v ∧ ∃ Y : Beyond W, w'' = Y.now) :=
  h.mono fun _ w' hh => ⟨hh.1, ⟨w', bt X.is hh.2⟩, rfl⟩
theorem beyond_same {P : Program} {f : FuncId} {args : Array Value} {W : World} {v : Value} (X : Beyond W) (h : Calls P f args X.now fun e w' => e = .returned v ∧ w' = X.now) : Calls P f args X.now (fun e w'' => e = .returned v ∧ ∃ Y : Beyond W, w'' = Y.now) :=
  h.mono fun _ _ hh => ⟨hh.1, X, hh.2⟩
set_option maxRecDepth 100000 in
set_option maxHeartbeats 1000000 in
theorem readyL_any {w : World} {p me mw : Nat} {g : Lg} (h : LogAt w p me mw g) (x : EvM) (hx : EvOk w x) : Calls Try.prog 24 #[.pointer (some ⟨p, 0, none⟩), x.val] w fun e w' => e = .returned (.bool (decide (ReadyE g.A x.e))) ∧ Below w.heap.size w w' := by
  obtain ⟨W, hW⟩ : ∃ W, W = w.alloc (.cells x.cells.toArray 33) := ⟨_, rfl⟩
  have HB : Hid (Below w.heap.size w W) := by rw [hW]; exact (Below.refl _ _).alloc (Nat.le_refl _) _
  have HK : Hid (Blk W w.heap.size 33 x.cells) := by rw [hW]; exact Blk.new w _ _
  have HL := hid (h.below HB.out)
  have HOX := hid (hx.below HB.out)
  have HW := hid hW
  clear hW hx h
  obtain ⟨⟨o, s, dp, ct, ep, sk, qt, cl⟩, ao1, cap1⟩ := x
  obtain ⟨XN, HXN⟩ : ∃ m, Hid (dp.length = m) := ⟨_, hid rfl⟩
  simp only [EvM.val, EvM.cells] at HW HK ⊢
  rw [HXN.out] at HW HK ⊢
  obtain ⟨ao, cap, hv, c0, _⟩ := HL.out.cells
  have HNX := hid (fun X : Beyond W => beyond_call X (nextL_any (HL.out.below X.is) o))
  have HBL := hid (fun X : Beyond W => beyond_same X (below_any X.now ao1 ao cap1 cap dp g.A XN g.A.length HXN.out rfl (HOX.out.below X.is).deps (hv.below X.is)))
  obtain ⟨z, HZ⟩ : ∃ z, Hid (ofV g.A o = z) := ⟨_, hid rfl⟩
  obtain ⟨L, HLn⟩ : ∃ z, Hid (g.A.length = z) := ⟨_, hid rfl⟩
  obtain ⟨r, HR⟩ : ∃ z, Hid (decide (BelowV dp g.A) = z) := ⟨_, hid rfl⟩
  rw [HZ.out] at HNX
  rw [HLn.out, HR.out] at HBL
  rw [HLn.out] at c0
  have hkl := HK.out.lt
  have hpl := HL.out.lt p (.inl rfl)
  have kc0 := fun X : Beyond W => X.cell c0 hpl
  have k0 := fun X : Beyond W => X.cell (HK.out.cell (i := 0) rfl) hkl
  have k1 := fun X : Beyond W => X.cell (HK.out.cell (i := 1) rfl) hkl
  have k2 := fun X : Beyond W => X.cell (HK.out.cell (i := 2) rfl) hkl
  have HRE : Hid (decide (ReadyE g.A ⟨o, s, dp, ct, ep, sk, qt, cl⟩) = (decide (s = z + 1) && r)) := by
    show _ = _
    rw [← HR.out, ← HZ.out, Bool.eq_iff_iff]
    simp only [Bool.and_eq_true, decide_eq_true_eq]
    exact Iff.rfl
  rw [HRE.out]
  clear c0 hv hkl hpl HRE
  obtain ⟨pb, hpb⟩ : ∃ q, q = w.heap.size := ⟨_, rfl⟩
  by_cases hs : s = z + 1
  · subst hs
    rw [decide_eq_true rfl, Bool.true_and]
    go_enter Try.func24, Try.ntmps24
    go_wp2
    rw [← HW.out]
    refine wp_region_beyond W (by kernel_rfl) (by kernel_rfl) (Below.refl _ _) ?_
    repeat (go_big_quiet_step (first | (go_at_call 37; exact HNX.out _) | (go_at_call 9; exact HBL.out _)))
    refine wpQuiet_nil ?_
    rintro _ ⟨X, rfl⟩
    have HBX := hid (bt HB.out X.is)
    go_wp2
    go_ret
    exact ⟨rfl, HBX.out⟩
  · rw [decide_eq_false hs, Bool.false_and]
    go_enter Try.func24, Try.ntmps24
    go_wp2
    rw [← HW.out]
    refine wp_region_beyond W (by kernel_rfl) (by kernel_rfl) (Below.refl _ _) ?_
    repeat (go_big_quiet_step (first | (go_at_call 37; exact HNX.out _) | (go_at_call 9; exact HBL.out _)))
    refine wpQuiet_nil ?_
    rintro _ ⟨X, rfl⟩
    have HBX := hid (bt HB.out X.is)
    go_wp2
    go_ret
    exact ⟨rfl, HBX.out⟩
theorem Sc.setCell {W V : World} (h : Sc W V) {q : Addr} (hq : W.heap.size ≤ q.block) (u : Value) : Sc W (V.setCell q u) := ⟨h.out.setCell hq u⟩
def zeroV : Value := .agg #[.int .i64 0, .int .i64 0, .slice none 0 0, .string ⟨#[]⟩, .int .i64 0, .string ⟨#[]⟩, .int .i64 0, .bool false]
theorem Try.zeroEvt (w : World) : (zeroValue 33).run Try.prog w = .ok zeroV w := by kernel_rfl
/-- What lies at a dot, and whether something does. -/
theorem EvMap.look {w : World} {m n : Nat} {S : Dots} {D : DataW Value} (h : EvMap w m S n D) {o s : Int} (ho : I64 o) (hs : I64 s) : (Instr.lookup 50 (.map (some m)) (.agg #[.int .i64 o, .int .i64 s]) true).run Try.prog w = .ok (.tuple #[((S o s).map EvM.val).getD zeroV, .bool (S o s).isSome]) w := by
  have := run_look_ok h.map Try.keyedDot Try.underlying50 (Try.zeroEvt w) (key_dot ho hs)
  rw [h.key o s ho hs] at this
  unfold dotVal at this
  simpa using this
set_option maxRecDepth 100000 in
set_option maxHeartbeats 1000000 in
theorem knowsL_any {w : World} {p me mw : Nat} {g : Lg} (h : LogAt w p me mw g) (o s : Int) (ho : I64 o) (hs : I64 s) : Calls Try.prog 22 #[.pointer (some ⟨p, 0, none⟩), .agg #[.int .i64 o, .int .i64 s]] w fun e w' => e = .returned (.bool ((g.W o s).isSome || decide (HasV g.A o s))) ∧ Below w.heap.size w w' := by
  obtain ⟨W, hW⟩ : ∃ W, W = w.alloc (.cells #[.int .i64 o, .int .i64 s] 31) := ⟨_, rfl⟩
  have HB : Hid (Below w.heap.size w W) := by rw [hW]; exact (Below.refl _ _).alloc (Nat.le_refl _) _
  have HK : Hid (Blk W w.heap.size 31 [.int .i64 o, .int .i64 s]) := by rw [hW]; exact Blk.new w _ _
  have HL := hid (h.below HB.out)
  have HW := hid hW
  obtain ⟨ao, cap, hv, c0, _, c2⟩ := HL.out.cells
  obtain ⟨D, hD⟩ := HL.out.wm
  have HVV := hid hv
  have HHA := hid (fun V (hV : Below W.heap.size W V) => has_any V ao cap g.A g.A.length rfl (hv.below hV) o s)
  have HLK : Hid (∀ V, Sc W V → (Instr.lookup 50 (.map (some mw)) (.agg #[.int .i64 o, .int .i64 s]) true).run Try.prog V = .ok (.tuple #[((g.W o s).map EvM.val).getD zeroV, .bool (g.W o s).isSome]) V) := fun V hV => (hD.below hV.out).look ho hs
  obtain ⟨L, HLn⟩ : ∃ z, Hid (g.A.length = z) := ⟨_, hid rfl⟩
  obtain ⟨r, HR⟩ : ∃ z, Hid (decide (HasV g.A o s) = z) := ⟨_, hid rfl⟩
  rw [HLn.out, HR.out] at HHA
  rw [HLn.out] at c0
  rw [HR.out]
  have HKL := hid HK.out.lt
  have HPL := hid (HL.out.lt p (.inl rfl))
  obtain ⟨u, HU⟩ : ∃ u, Hid (((g.W o s).map EvM.val).getD zeroV = u) := ⟨_, hid rfl⟩
  have hu : ∃ v0 v1 d0 d1 d2 v3 v4 v5 v6 v7, u = .agg #[.int .i64 v0, .int .i64 v1, .slice d0 d1 d2, .string v3, .int .i64 v4, .string v5, .int .i64 v6, .bool v7] := by
    rw [← HU.out]
    cases g.W o s with
    | none => exact ⟨_, _, _, _, _, _, _, _, _, _, rfl⟩
    | some x => exact ⟨_, _, _, _, _, _, _, _, _, _, rfl⟩
  obtain ⟨v0, v1, d0, d1, d2, v3, v4, v5, v6, v7, rfl⟩ := hu
  obtain ⟨q, HQ⟩ : ∃ z, Hid ((g.W o s).isSome = z) := ⟨_, hid rfl⟩
  rw [HU.out, HQ.out] at HLK
  rw [HQ.out]
  have HC0 := hid c0
  have HC2 := hid c2
  have HSA : Hid (∀ V, Sc W V → (Sc W V ∧ V.cell? ⟨w.heap.size, 0, none⟩ = some (.int .i64 o) ∧ V.cell? ⟨w.heap.size, 1, none⟩ = some (.int .i64 s) ∧ V.cell? ⟨p, 0, none⟩ = some (.slice ao L cap) ∧ V.cell? ⟨p, 2, none⟩ = some (.map (some mw)) ∧ (Instr.lookup 50 (.map (some mw)) (.agg #[.int .i64 o, .int .i64 s]) true).run Try.prog V = .ok (.tuple #[.agg #[.int .i64 v0, .int .i64 v1, .slice d0 d1 d2, .string v3, .int .i64 v4, .string v5, .int .i64 v6, .bool v7], .bool q]) V)) := fun V hV => by
    have hb := HK.out.below hV.out HK.out.lt
    exact ⟨hV, hb.cell rfl, hb.cell rfl, (hV.out.cell (p := ⟨p, 0, none⟩) HPL.out).trans HC0.out, (hV.out.cell (p := ⟨p, 2, none⟩) HPL.out).trans HC2.out, HLK.out V hV⟩
  clear hW h hv hD c0 c2 HLK HU HQ
  go_enter Try.func22, Try.ntmps22
  go_wp2
  rw [← HW.out]
  obtain ⟨pb, hpb⟩ : ∃ z, z = w.heap.size := ⟨_, rfl⟩
  rw [← hpb] at HSA ⊢
  clear hpb
  go_region_held3 (fun V => Sc W V ∧ V.cell? ⟨pb, 0, none⟩ = some (.int .i64 o) ∧ V.cell? ⟨pb, 1, none⟩ = some (.int .i64 s) ∧ V.cell? ⟨p, 0, none⟩ = some (.slice ao L cap) ∧ V.cell? ⟨p, 2, none⟩ = some (.map (some mw)) ∧ (Instr.lookup 50 (.map (some mw)) (.agg #[.int .i64 o, .int .i64 s]) true).run Try.prog V = .ok (.tuple #[.agg #[.int .i64 v0, .int .i64 v1, .slice d0 d1 d2, .string v3, .int .i64 v4, .string v5, .int .i64 v6, .bool v7], .bool q]) V)
    (first | (refine ⟨?_, ?_, ?_, ?_, ?_, ?_⟩ <;> assumption) | (refine HSA.out _ ?_; (repeat (first | assumption | exact Sc.start _ | apply Sc.dr | apply Sc.alloc | refine Sc.setCell ?_ (by first | exact Nat.le_refl _ | (simp; done) | (simp; omega)) _)))) (fail)
  all_goals
    rename_i hHeld
    obtain ⟨hsc, e0, e1, e2, e3, _⟩ := hHeld
    obtain ⟨V, hV⟩ : ∃ V, V = (W.alloc (.cells #[.int .i64 v0, .int .i64 v1, .slice d0 d1 d2, .string v3, .int .i64 v4, .string v5, .int .i64 v6, .bool v7] 33)).drew := ⟨_, rfl⟩
    rw [← hV] at hsc e0 e1 e2 e3 ⊢
    have HSC := hid hsc
    have hpV : pb < V.heap.size := World.block_lt_of_cell? V _ e0
    have hpl : p < V.heap.size := World.block_lt_of_cell? V _ e2
    have k0 := fun X : Beyond V => X.cell e0 hpV
    have k1 := fun X : Beyond V => X.cell e1 hpV
    have k2 := fun X : Beyond V => X.cell e2 hpl
    have HHX := hid (fun X : Beyond V => beyond_call X (HHA.out X.now (bt hsc.out X.is)))
    clear hV hsc e0 e1 e2 e3 HSA hpV hpl
    cases q
    · go_wp2
      refine wp_region_beyond V (by kernel_rfl) (by kernel_rfl) (Below.refl _ _) ?_
      repeat (go_big_quiet_step (first | (go_at_call 15; exact HHX.out _)))
      refine wpQuiet_nil ?_
      rintro _ ⟨X, rfl⟩
      have HBX := hid (bt HB.out (bt HSC.out.out X.is))
      go_wp2
      go_ret
      exact ⟨rfl, HBX.out⟩
    · go_wp2
      refine wp_region_beyond V (by kernel_rfl) (by kernel_rfl) (Below.refl _ _) ?_
      repeat (go_big_quiet_step (first | (go_at_call 15; exact HHX.out _)))
      refine wpQuiet_nil ?_
      rintro _ ⟨X, rfl⟩
      have HBX := hid (bt HB.out (bt HSC.out.out X.is))
      go_wp2
      go_ret
      exact ⟨rfl, HBX.out⟩
/-- A boxed event, and what else is as it was. -/
structure BoxS (W : World) (p : Nat) (cs : List Value) (V : World) : Prop where
  turn : Turns (fun i => i = p) W V
  blk : Blk V p 33 cs
theorem BoxS.start {W : World} {p : Nat} {cs : List Value} (h : Blk W p 33 cs) : BoxS W p cs W := ⟨Turns.refl _ _, h⟩
theorem BoxS.dr {W V : World} {p : Nat} {cs : List Value} (h : BoxS W p cs V) : BoxS W p cs V.drew := ⟨h.turn.drew, h.blk.drew⟩
theorem BoxS.go {W V U : World} {p : Nat} {cs : List Value} (h : BoxS W p cs V) (hb : Below V.heap.size V U) : BoxS W p cs U := ⟨h.turn.trans (Turns.of_below (F := fun _ => False) hb (Nat.le_refl _)) (fun _ h => h.elim), h.blk.below hb h.blk.lt⟩
theorem BoxS.set {W V : World} {p : Nat} {cs : List Value} (h : BoxS W p cs V) (i : Nat) (v : Value) (hv : cs.set i v = cs) : BoxS W p cs (V.setCell ⟨p, i, none⟩ v) := ⟨h.turn.setCell (p := ⟨p, i, none⟩) (.inl rfl) v, by have := h.blk.set i v; rw [hv] at this; exact this⟩
set_option maxRecDepth 100000 in
set_option maxHeartbeats 1000000 in
theorem ownL_any (w : World) (x : EvM) (hx : EvOk w x) (hc : x.e.cart.size ≤ 140737488355328) (hk : x.e.sku.size ≤ 140737488355328) : Calls Try.prog 26 #[x.val] w (ToldL w x) := by
  obtain ⟨⟨o, s, dp, ct, ep, sk, qt, cl⟩, ao1, cap1⟩ := x
  obtain ⟨XN, HXN⟩ : ∃ m, Hid (dp.length = m) := ⟨_, hid rfl⟩
  obtain ⟨W0, hW0⟩ : ∃ W, W = w.alloc (.cells #[.int .i64 o, .int .i64 s, .slice ao1 XN cap1, .string ct, .int .i64 ep, .string sk, .int .i64 qt, .bool cl] 33) := ⟨_, rfl⟩
  obtain ⟨W, hW⟩ : ∃ W, W = W0.alloc (.cells #[.int .i64 0, .int .i64 0, .slice none 0 0, .string ⟨#[]⟩, .int .i64 0, .string ⟨#[]⟩, .int .i64 0, .bool false] 33) := ⟨_, rfl⟩
  have HB0 : Hid (Below w.heap.size w W0) := by rw [hW0]; exact (Below.refl _ _).alloc (Nat.le_refl _) _
  have hs0 : W0.heap.size = w.heap.size + 1 := by rw [hW0]; simp
  have HB : Hid (Below w.heap.size w W) := by rw [hW]; exact HB0.out.alloc HB0.out.size _
  have HK : Hid (Blk W w.heap.size 33 [.int .i64 o, .int .i64 s, .slice ao1 XN cap1, .string ct, .int .i64 ep, .string sk, .int .i64 qt, .bool cl]) := by rw [hW, hW0]; exact (Blk.new w _ _).alloc _
  have HR : Hid (Blk W (w.heap.size + 1) 33 [.int .i64 0, .int .i64 0, .slice none 0 0, .string ⟨#[]⟩, .int .i64 0, .string ⟨#[]⟩, .int .i64 0, .bool false]) := by rw [hW, ← hs0]; exact Blk.new W0 _ _
  have HOX := hid (hx.below HB.out)
  have HEO : Hid (EvOff w.heap.size ⟨⟨o, s, dp, ct, ep, sk, qt, cl⟩, ao1, cap1⟩) := evOff_of hx (Nat.le_refl _)
  have HW : Hid (W = (w.alloc (.cells #[.int .i64 o, .int .i64 s, .slice ao1 XN cap1, .string ct, .int .i64 ep, .string sk, .int .i64 qt, .bool cl] 33)).alloc (.cells #[.int .i64 0, .int .i64 0, .slice none 0 0, .string ⟨#[]⟩, .int .i64 0, .string ⟨#[]⟩, .int .i64 0, .bool false] 33)) := by show _ = _; rw [hW, hW0]
  obtain ⟨p, hp⟩ : ∃ q, q = w.heap.size := ⟨_, rfl⟩
  have HC1 := hid (fun V (hV : BoxS W p [.int .i64 o, .int .i64 s, .slice ao1 XN cap1, .string ct, .int .i64 ep, .string sk, .int .i64 qt, .bool cl] V) => (strClone_any ct V hc).mono (fun e w' (hh : _ ∧ _) => And.intro hh.1 (hV.go hh.2)))
  have HC2 := hid (fun V (hV : BoxS W p [.int .i64 o, .int .i64 s, .slice ao1 XN cap1, .string ct, .int .i64 ep, .string sk, .int .i64 qt, .bool cl] V) => (strClone_any sk V hk).mono (fun e w' (hh : _ ∧ _) => And.intro hh.1 (hV.go hh.2)))
  rw [← hp] at HK HEO
  have HST := hid (BoxS.start HK.out)
  have HSA : Hid (∀ V, BoxS W p [.int .i64 o, .int .i64 s, .slice ao1 XN cap1, .string ct, .int .i64 ep, .string sk, .int .i64 qt, .bool cl] V → (BoxS W p [.int .i64 o, .int .i64 s, .slice ao1 XN cap1, .string ct, .int .i64 ep, .string sk, .int .i64 qt, .bool cl] V ∧ V.cell? ⟨p, 0, none⟩ = some (.int .i64 o) ∧ V.cell? ⟨p, 1, none⟩ = some (.int .i64 s) ∧ V.cell? ⟨p, 2, none⟩ = some (.slice ao1 XN cap1) ∧ V.cell? ⟨p, 3, none⟩ = some (.string ct) ∧ V.cell? ⟨p, 4, none⟩ = some (.int .i64 ep) ∧ V.cell? ⟨p, 5, none⟩ = some (.string sk) ∧ V.cell? ⟨p, 6, none⟩ = some (.int .i64 qt) ∧ V.cell? ⟨p, 7, none⟩ = some (.bool cl) ∧ V.frozen? ⟨p, 3, none⟩ = false ∧ V.frozen? ⟨p, 5, none⟩ = false)) := fun V hV =>
    ⟨hV, hV.blk.cell rfl, hV.blk.cell rfl, hV.blk.cell rfl, hV.blk.cell rfl, hV.blk.cell rfl, hV.blk.cell rfl, hV.blk.cell rfl, hV.blk.cell rfl, hV.blk.frozen 3, hV.blk.frozen 5⟩
  have HPP := hid hp
  simp only [EvM.val]
  rw [HXN.out]
  clear hW hW0 hx hs0 hc hk hp
  go_enter Try.func26, Try.ntmps26
  go_wp2
  rw [← HW.out, ← HPP.out]
  go_region_held3 (fun V => BoxS W p [.int .i64 o, .int .i64 s, .slice ao1 XN cap1, .string ct, .int .i64 ep, .string sk, .int .i64 qt, .bool cl] V ∧ V.cell? ⟨p, 0, none⟩ = some (.int .i64 o) ∧ V.cell? ⟨p, 1, none⟩ = some (.int .i64 s) ∧ V.cell? ⟨p, 2, none⟩ = some (.slice ao1 XN cap1) ∧ V.cell? ⟨p, 3, none⟩ = some (.string ct) ∧ V.cell? ⟨p, 4, none⟩ = some (.int .i64 ep) ∧ V.cell? ⟨p, 5, none⟩ = some (.string sk) ∧ V.cell? ⟨p, 6, none⟩ = some (.int .i64 qt) ∧ V.cell? ⟨p, 7, none⟩ = some (.bool cl) ∧ V.frozen? ⟨p, 3, none⟩ = false ∧ V.frozen? ⟨p, 5, none⟩ = false)
    (first | (refine ⟨?_, ?_, ?_, ?_, ?_, ?_, ?_, ?_, ?_, ?_, ?_⟩ <;> assumption) | (refine HSA.out _ ?_; (repeat (first | assumption | exact HST.out | apply BoxS.dr | refine BoxS.set ?_ 3 _ rfl | refine BoxS.set ?_ 5 _ rfl))))
    (first
      | (go_at_call 41; with_reducible refine (HC1.out _ (by (repeat (first | assumption | exact HST.out | apply BoxS.dr | refine BoxS.set ?_ 3 _ rfl | refine BoxS.set ?_ 5 _ rfl)))).mono ?_; rintro e w5 ⟨rfl, hs5⟩)
      | (go_at_call 41; with_reducible refine (HC2.out _ (by (repeat (first | assumption | exact HST.out | apply BoxS.dr | refine BoxS.set ?_ 3 _ rfl | refine BoxS.set ?_ 5 _ rfl)))).mono ?_; rintro e w6 ⟨rfl, hs6⟩))
  all_goals
    rename_i hHeld
    obtain ⟨hbx, e0, e1, e2, e3, e4, e5, e6, e7, _, _⟩ := hHeld
    have HBX := hid hbx
    have HTD := hid (toldL_any _ ⟨⟨o, s, dp, ct, ep, sk, qt, cl⟩, ao1, cap1⟩ (HOX.out.turned HEO.out hbx.turn))
    simp only [EvM.val] at HTD
    rw [HXN.out] at HTD
    have HR3 := hid (hbx.turn.blk HR.out (fun e => by have := HPP.out; omega))
    have HBV : Hid (Below w.heap.size w _) := HB.out.trans (hbx.turn.below (B := w.heap.size) (fun i hi => by rw [hi, HPP.out]; exact Nat.le_refl _) HB.out.size)
    clear hbx
    go_wp2_with fail
    refine HTD.out.mono ?_
    rintro e w7 ⟨⟨ye, bo, cp⟩, rfl, hye, hyo, hyb, hb7⟩
    have hr7 := HR3.out.below hb7 HR3.out.lt
    have HBF0 := hid (bt HBV.out hb7)
    have HBO := hid (fun b off e => Nat.le_trans HR3.out.lt (hyb b off e))
    obtain rfl : ye = ⟨o, s, dp, ct, ep, sk, qt, cl⟩ := hye
    have HYO := hid hyo
    have HR7 := hid hr7
    rw [← HPP.out] at hr7
    have r0 := hr7.cell (i := 0) rfl
    have r1 := hr7.cell (i := 1) rfl
    have r2 := hr7.cell (i := 2) rfl
    have r3 := hr7.cell (i := 3) rfl
    have r4 := hr7.cell (i := 4) rfl
    have r5 := hr7.cell (i := 5) rfl
    have r6 := hr7.cell (i := 6) rfl
    have r7 := hr7.cell (i := 7) rfl
    have q0 := hr7.frozen 0
    have q1 := hr7.frozen 1
    have q2 := hr7.frozen 2
    have q3 := hr7.frozen 3
    have q4 := hr7.frozen 4
    have q5 := hr7.frozen 5
    have q6 := hr7.frozen 6
    have q7 := hr7.frozen 7
    obtain ⟨W3, hW3⟩ : ∃ V, V = st8 w7 (p + 1) (.int .i64 o) (.int .i64 s) (.slice bo XN cp) (.string ct) (.int .i64 ep) (.string sk) (.int .i64 qt) (.bool cl) := ⟨_, rfl⟩
    have hk9 : Blk W3 (p + 1) 33 [.int .i64 o, .int .i64 s, .slice bo XN cp, .string ct, .int .i64 ep, .string sk, .int .i64 qt, .bool cl] := by rw [hW3]; exact st8_blk hr7 _ _ _ _ _ _ _ _
    have hT3 : Turns (fun i => i = p + 1) w7 W3 := by rw [hW3]; exact st8_turns _ _ _ _ _ _ _ _ _ _
    have HBF : Hid (Below w.heap.size w W3) := HBF0.out.trans (hT3.below (fun i hi => by rw [hi, HPP.out]; omega) HBF0.out.size)
    have HV3 : Hid (EvKeep W3 ⟨⟨o, s, dp, ct, ep, sk, qt, cl⟩, bo, cp⟩) := HYO.out.onEvs hr7 hT3
    have k0 := hk9.cell (i := 0) rfl
    have k1 := hk9.cell (i := 1) rfl
    have k2 := hk9.cell (i := 2) rfl
    have k3 := hk9.cell (i := 3) rfl
    have k4 := hk9.cell (i := 4) rfl
    have k5 := hk9.cell (i := 5) rfl
    have k6 := hk9.cell (i := 6) rfl
    have k7 := hk9.cell (i := 7) rfl
    unfold st8 at hW3
    clear hyo hyb hb7 hr7 hT3 hk9
    simp only [EvM.val]
    rw [HXN.out]
    go_wp2
    rw [← hW3]
    (try simp only [Exit.inBlock, Exit.then])
    refine bodyPost_ret (v := .agg #[.int .i64 o, .int .i64 s, .slice bo XN cp, .string ct, .int .i64 ep, .string sk, .int .i64 qt, .bool cl]) ?_ rfl ⟨⟨⟨o, s, dp, ct, ep, sk, qt, cl⟩, bo, cp⟩, ?_, rfl, HV3.out, fun b off e => by have := HBO.out b off e; omega, HBF.out⟩
    · rw [results_cell1 rfl]
      go_simp
    · simp only [EvM.val]
      rw [HXN.out]
end Go.Proofs.Ytcammngbhnhjjaa
