/-
  Package oplog: ready, knows, own.
-/
import Derived.Test.YtjlompnjhmbhhaaGreatCartR
import Derived.Test.YtjlompnjhmbhhaaGreatRoundQuiet
namespace Go.Proofs.YtjlompnjhmbhhaaGreat
open Go.RowKit Go.Maps

/-- A drawn region that only reads and calls what makes memory beyond W. -/
theorem wp_region_beyond {P : Program} {id : Nat} {Q : Exit → Act → World → Prop} {a : Act} {w : World} {l : List Oper} (W : World) (hm : P.follows .mixedOrders = true) (hB : Region.lexB .any l.toArray = true) (hb : Below W.heap.size W w)
    (h : wpQuiet P l.toArray (fun w' => ∃ X : Beyond W, w' = X.now) (fun a' => ∀ w', (∃ X : Beyond W, w' = X.now) → Q .normal a' w') l a) : (Code.region id l.toArray true).wp P Q a w :=
  wp_region_quiet (C := fun w' => ∃ X : Beyond W, w' = X.now) hm hB ⟨⟨_, below_dn hb 1⟩, rfl⟩ (by simpa using h)
theorem beyond_call {P : Program} {f : FuncId} {args : Array Value} {W : World} {v : Value} (X : Beyond W) (h : Calls P f args X.now fun e w' => e = .returned v ∧ Below X.now.heap.size X.now w') : Calls P f args X.now (fun e w'' => e = .returned v ∧ ∃ Y : Beyond W, w'' = Y.now) :=
  h.mono fun _ w' hh => ⟨hh.1, ⟨w', bt X.is hh.2⟩, rfl⟩
theorem beyond_same {P : Program} {f : FuncId} {args : Array Value} {W : World} {v : Value} (X : Beyond W) (h : Calls P f args X.now fun e w' => e = .returned v ∧ w' = X.now) : Calls P f args X.now (fun e w'' => e = .returned v ∧ ∃ Y : Beyond W, w'' = Y.now) :=
  h.mono fun _ _ hh => ⟨hh.1, X, hh.2⟩
set_option maxRecDepth 100000 in
set_option maxHeartbeats 1000000 in
theorem readyL_any {w : World} {p me mw : Nat} {g : Lg} (h : LogAt w p me mw g) (x : EvM) (hx : EvOk w x) : Calls Tryz.prog 19 #[.pointer (some ⟨p, 0, none⟩), x.val] w fun e w' => e = .returned (.bool (decide (ReadyE g.A x.e))) ∧ Below w.heap.size w w' := by
  obtain ⟨W, hW⟩ : ∃ W, W = w.alloc (.cells x.cells.toArray 33) := ⟨_, rfl⟩
  have HB : Hid (Below w.heap.size w W) := by rw [hW]; exact (Below.refl _ _).alloc (Nat.le_refl _) _
  have HK : Hid (Blk W w.heap.size 33 x.cells) := by rw [hW]; exact Blk.new w _ _
  have HL := hid (h.below HB.out)
  have HOX := hid (hx.below HB.out)
  have HW := hid hW
  clear hW hx h
  obtain ⟨⟨o, s, dp, ct, ep, sk, qt, cl⟩, ao1, cap1⟩ := x
  obtain ⟨XN, HXN⟩ : ∃ m, Hid (dp.length = m) := ⟨_, hid rfl⟩
  simp only [EvM.val, EvM.cells] at HW HK ⊢
  rw [HXN.out] at HW HK ⊢
  obtain ⟨ao, cap, hv, c0, _⟩ := HL.out.cells
  have HNX := hid (fun X : Beyond W => beyond_call X (nextL_any (HL.out.below X.is) o))
  have HBL := hid (fun X : Beyond W => beyond_same X (below_any X.now ao1 ao cap1 cap dp g.A XN g.A.length HXN.out rfl (HOX.out.below X.is).deps (hv.below X.is)))
  obtain ⟨z, HZ⟩ : ∃ z, Hid (ofV g.A o = z) := ⟨_, hid rfl⟩
  obtain ⟨L, HLn⟩ : ∃ z, Hid (g.A.length = z) := ⟨_, hid rfl⟩
  obtain ⟨r, HR⟩ : ∃ z, Hid (decide (BelowV dp g.A) = z) := ⟨_, hid rfl⟩
  rw [HZ.out] at HNX
  rw [HLn.out, HR.out] at HBL
  rw [HLn.out] at c0
  have hkl := HK.out.lt
  have hpl := HL.out.lt p (.inl rfl)
  have kc0 := fun X : Beyond W => X.cell c0 hpl
  have k0 := fun X : Beyond W => X.cell (HK.out.cell (i := 0) rfl) hkl
  have k1 := fun X : Beyond W => X.cell (HK.out.cell (i := 1) rfl) hkl
  have k2 := fun X : Beyond W => X.cell (HK.out.cell (i := 2) rfl) hkl
  have HRE : Hid (decide (ReadyE g.A ⟨o, s, dp, ct, ep, sk, qt, cl⟩) = (decide (s = z + 1) && r)) := by
    show _ = _
    rw [← HR.out, ← HZ.out, Bool.eq_iff_iff]
    simp only [Bool.and_eq_true, decide_eq_true_eq]
    exact Iff.rfl
  rw [HRE.out]
  clear c0 hv hkl hpl HRE
  obtain ⟨pb, hpb⟩ : ∃ q, q = w.heap.size := ⟨_, rfl⟩
  by_cases hs : s = z + 1
  · subst hs
    rw [decide_eq_true rfl, Bool.true_and]
    go_enter Tryz.func19, Tryz.ntmps19
    go_wp2
    rw [← HW.out]
    refine wp_region_beyond W (by kernel_rfl) (by kernel_rfl) (Below.refl _ _) ?_
    repeat (go_big_quiet_step (first | (go_at_call 45; exact HNX.out _) | (go_at_call 46; exact HBL.out _)))
    refine wpQuiet_nil ?_
    rintro _ ⟨X, rfl⟩
    have HBX := hid (bt HB.out X.is)
    go_wp2
    go_ret
    exact ⟨rfl, HBX.out⟩
  · rw [decide_eq_false hs, Bool.false_and]
    go_enter Tryz.func19, Tryz.ntmps19
    go_wp2
    rw [← HW.out]
    refine wp_region_beyond W (by kernel_rfl) (by kernel_rfl) (Below.refl _ _) ?_
    repeat (go_big_quiet_step (first | (go_at_call 45; exact HNX.out _) | (go_at_call 46; exact HBL.out _)))
    refine wpQuiet_nil ?_
    rintro _ ⟨X, rfl⟩
    have HBX := hid (bt HB.out X.is)
    go_wp2
    go_ret
    exact ⟨rfl, HBX.out⟩
theorem Sc.setCell {W V : World} (h : Sc W V) {q : Addr} (hq : W.heap.size ≤ q.block) (u : Value) : Sc W (V.setCell q u) := ⟨h.out.setCell hq u⟩
def zeroV : Value := .agg #[.int .i64 0, .int .i64 0, .slice none 0 0, .string ⟨#[]⟩, .int .i64 0, .string ⟨#[]⟩, .int .i64 0, .bool false]
theorem Tryz.zeroEvt (w : World) : (zeroValue 33).run Tryz.prog w = .ok zeroV w := by kernel_rfl
/-- What lies at a dot, and whether something does. -/
theorem EvMap.look {w : World} {m n : Nat} {S : Dots} {D : DataW Value} (h : EvMap w m S n D) {o s : Int} (ho : I64 o) (hs : I64 s) : (Instr.lookup 41 (.map (some m)) (.agg #[.int .i64 o, .int .i64 s]) true).run Tryz.prog w = .ok (.tuple #[((S o s).map EvM.val).getD zeroV, .bool (S o s).isSome]) w := by
  have := run_look_ok h.map Tryz.keyedDot Tryz.underlying41 (Tryz.zeroEvt w) (key_dot ho hs)
  rw [h.key o s ho hs] at this
  unfold dotVal at this
  simpa using this
set_option maxRecDepth 100000 in
set_option maxHeartbeats 1000000 in
theorem knowsL_any {w : World} {p me mw : Nat} {g : Lg} (h : LogAt w p me mw g) (o s : Int) (ho : I64 o) (hs : I64 s) : Calls Tryz.prog 17 #[.pointer (some ⟨p, 0, none⟩), .agg #[.int .i64 o, .int .i64 s]] w fun e w' => e = .returned (.bool ((g.W o s).isSome || decide (HasV g.A o s))) ∧ Below w.heap.size w w' := by
  obtain ⟨W, hW⟩ : ∃ W, W = w.alloc (.cells #[.int .i64 o, .int .i64 s] 25) := ⟨_, rfl⟩
  have HB : Hid (Below w.heap.size w W) := by rw [hW]; exact (Below.refl _ _).alloc (Nat.le_refl _) _
  have HK : Hid (Blk W w.heap.size 25 [.int .i64 o, .int .i64 s]) := by rw [hW]; exact Blk.new w _ _
  have HL := hid (h.below HB.out)
  have HW := hid hW
  obtain ⟨ao, cap, hv, c0, _, c2⟩ := HL.out.cells
  obtain ⟨D, hD⟩ := HL.out.wm
  have HVV := hid hv
  have HHA := hid (fun V (hV : Below W.heap.size W V) => has_any V ao cap g.A g.A.length rfl (hv.below hV) o s)
  have HLK : Hid (∀ V, Sc W V → (Instr.lookup 41 (.map (some mw)) (.agg #[.int .i64 o, .int .i64 s]) true).run Tryz.prog V = .ok (.tuple #[((g.W o s).map EvM.val).getD zeroV, .bool (g.W o s).isSome]) V) := fun V hV => (hD.below hV.out).look ho hs
  obtain ⟨L, HLn⟩ : ∃ z, Hid (g.A.length = z) := ⟨_, hid rfl⟩
  obtain ⟨r, HR⟩ : ∃ z, Hid (decide (HasV g.A o s) = z) := ⟨_, hid rfl⟩
  rw [HLn.out, HR.out] at HHA
  rw [HLn.out] at c0
  rw [HR.out]
  have HKL := hid HK.out.lt
  have HPL := hid (HL.out.lt p (.inl rfl))
  obtain ⟨u, HU⟩ : ∃ u, Hid (((g.W o s).map EvM.val).getD zeroV = u) := ⟨_, hid rfl⟩
  have hu : ∃ v0 v1 d0 d1 d2 v3 v4 v5 v6 v7, u = .agg #[.int .i64 v0, .int .i64 v1, .slice d0 d1 d2, .string v3, .int .i64 v4, .string v5, .int .i64 v6, .bool v7] := by
    rw [← HU.out]
    cases g.W o s with
    | none => exact ⟨_, _, _, _, _, _, _, _, _, _, rfl⟩
    | some x => exact ⟨_, _, _, _, _, _, _, _, _, _, rfl⟩
  obtain ⟨v0, v1, d0, d1, d2, v3, v4, v5, v6, v7, rfl⟩ := hu
  obtain ⟨q, HQ⟩ : ∃ z, Hid ((g.W o s).isSome = z) := ⟨_, hid rfl⟩
  rw [HU.out, HQ.out] at HLK
  rw [HQ.out]
  have HC0 := hid c0
  have HC2 := hid c2
  have HSA : Hid (∀ V, Sc W V → (Sc W V ∧ V.cell? ⟨w.heap.size, 0, none⟩ = some (.int .i64 o) ∧ V.cell? ⟨w.heap.size, 1, none⟩ = some (.int .i64 s) ∧ V.cell? ⟨p, 0, none⟩ = some (.slice ao L cap) ∧ V.cell? ⟨p, 2, none⟩ = some (.map (some mw)) ∧ (Instr.lookup 41 (.map (some mw)) (.agg #[.int .i64 o, .int .i64 s]) true).run Tryz.prog V = .ok (.tuple #[.agg #[.int .i64 v0, .int .i64 v1, .slice d0 d1 d2, .string v3, .int .i64 v4, .string v5, .int .i64 v6, .bool v7], .bool q]) V)) := fun V hV => by
    have hb := HK.out.below hV.out HK.out.lt
    exact ⟨hV, hb.cell rfl, hb.cell rfl, (hV.out.cell (p := ⟨p, 0, none⟩) HPL.out).trans HC0.out, (hV.out.cell (p := ⟨p, 2, none⟩) HPL.out).trans HC2.out, HLK.out V hV⟩
  clear hW h hv hD c0 c2 HLK HU HQ
  go_enter Tryz.func17, Tryz.ntmps17
  go_wp2
  rw [← HW.out]
  obtain ⟨pb, hpb⟩ : ∃ z, z = w.heap.size := ⟨_, rfl⟩
  rw [← hpb] at HSA ⊢
  clear hpb
  go_region_held3 (fun V => Sc W V ∧ V.cell? ⟨pb, 0, none⟩ = some (.int .i64 o) ∧ V.cell? ⟨pb, 1, none⟩ = some (.int .i64 s) ∧ V.cell? ⟨p, 0, none⟩ = some (.slice ao L cap) ∧ V.cell? ⟨p, 2, none⟩ = some (.map (some mw)) ∧ (Instr.lookup 41 (.map (some mw)) (.agg #[.int .i64 o, .int .i64 s]) true).run Tryz.prog V = .ok (.tuple #[.agg #[.int .i64 v0, .int .i64 v1, .slice d0 d1 d2, .string v3, .int .i64 v4, .string v5, .int .i64 v6, .bool v7], .bool q]) V)
    (first | (refine ⟨?_, ?_, ?_, ?_, ?_, ?_⟩ <;> assumption) | (refine HSA.out _ ?_; (repeat (first | assumption | exact Sc.start _ | apply Sc.dr | apply Sc.alloc | refine Sc.setCell ?_ (by first | exact Nat.le_refl _ | (simp; done) | (simp; omega)) _)))) (fail)
  all_goals
    rename_i hHeld
    obtain ⟨hsc, e0, e1, e2, e3, _⟩ := hHeld
    obtain ⟨V, hV⟩ : ∃ V, V = (W.alloc (.cells #[.int .i64 v0, .int .i64 v1, .slice d0 d1 d2, .string v3, .int .i64 v4, .string v5, .int .i64 v6, .bool v7] 33)).drew := ⟨_, rfl⟩
    rw [← hV] at hsc e0 e1 e2 e3 ⊢
    have HSC := hid hsc
    have hpV : pb < V.heap.size := World.block_lt_of_cell? V _ e0
    have hpl : p < V.heap.size := World.block_lt_of_cell? V _ e2
    have k0 := fun X : Beyond V => X.cell e0 hpV
    have k1 := fun X : Beyond V => X.cell e1 hpV
    have k2 := fun X : Beyond V => X.cell e2 hpl
    have HHX := hid (fun X : Beyond V => beyond_call X (HHA.out X.now (bt hsc.out X.is)))
    clear hV hsc e0 e1 e2 e3 HSA hpV hpl
    cases q
    · go_wp2
      refine wp_region_beyond V (by kernel_rfl) (by kernel_rfl) (Below.refl _ _) ?_
      repeat (go_big_quiet_step (first | (go_at_call 44; exact HHX.out _)))
      refine wpQuiet_nil ?_
      rintro _ ⟨X, rfl⟩
      have HBX := hid (bt HB.out (bt HSC.out.out X.is))
      go_wp2
      go_ret
      exact ⟨rfl, HBX.out⟩
    · go_wp2
      refine wp_region_beyond V (by kernel_rfl) (by kernel_rfl) (Below.refl _ _) ?_
      repeat (go_big_quiet_step (first | (go_at_call 44; exact HHX.out _)))
      refine wpQuiet_nil ?_
      rintro _ ⟨X, rfl⟩
      have HBX := hid (bt HB.out (bt HSC.out.out X.is))
      go_wp2
      go_ret
      exact ⟨rfl, HBX.out⟩
/-- A boxed event, and what else is as it was. -/
structure BoxS (W : World) (p : Nat) (cs : List Value) (V : World) : Prop where
  turn : Turns (fun i => i = p) W V
  blk : Blk V p 33 cs
theorem BoxS.start {W : World} {p : Nat} {cs : List Value} (h : Blk W p 33 cs) : BoxS W p cs W := ⟨Turns.refl _ _, h⟩
theorem BoxS.dr {W V : World} {p : Nat} {cs : List Value} (h : BoxS W p cs V) : BoxS W p cs V.drew := ⟨h.turn.drew, h.blk.drew⟩
theorem BoxS.go {W V U : World} {p : Nat} {cs : List Value} (h : BoxS W p cs V) (hb : Below V.heap.size V U) : BoxS W p cs U := ⟨h.turn.trans (Turns.of_below (F := fun _ => False) hb (Nat.le_refl _)) (fun _ h => h.elim), h.blk.below hb h.blk.lt⟩
theorem BoxS.set {W V : World} {p : Nat} {cs : List Value} (h : BoxS W p cs V) (i : Nat) (v : Value) (hv : cs.set i v = cs) : BoxS W p cs (V.setCell ⟨p, i, none⟩ v) := ⟨h.turn.setCell (p := ⟨p, i, none⟩) (.inl rfl) v, by have := h.blk.set i v; rw [hv] at this; exact this⟩
set_option maxRecDepth 100000 in
set_option maxHeartbeats 1000000 in
theorem ownL_any (w : World) (x : EvM) (hx : EvOk w x) (hc : x.e.cart.size ≤ 140737488355328) (hk : x.e.sku.size ≤ 140737488355328) : Calls Tryz.prog 21 #[x.val] w (ToldL w x) := by
  obtain ⟨⟨o, s, dp, ct, ep, sk, qt, cl⟩, ao1, cap1⟩ := x
  obtain ⟨XN, HXN⟩ : ∃ m, Hid (dp.length = m) := ⟨_, hid rfl⟩
  obtain ⟨W0, hW0⟩ : ∃ W, W = w.alloc (.cells #[.int .i64 o, .int .i64 s, .slice ao1 XN cap1, .string ct, .int .i64 ep, .string sk, .int .i64 qt, .bool cl] 33) := ⟨_, rfl⟩
  obtain ⟨W, hW⟩ : ∃ W, W = W0.alloc (.cells #[.int .i64 0, .int .i64 0, .slice none 0 0, .string ⟨#[]⟩, .int .i64 0, .string ⟨#[]⟩, .int .i64 0, .bool false] 33) := ⟨_, rfl⟩
  have HB0 : Hid (Below w.heap.size w W0) := by rw [hW0]; exact (Below.refl _ _).alloc (Nat.le_refl _) _
  have hs0 : W0.heap.size = w.heap.size + 1 := by rw [hW0]; simp
  have HB : Hid (Below w.heap.size w W) := by rw [hW]; exact HB0.out.alloc HB0.out.size _
  have HK : Hid (Blk W w.heap.size 33 [.int .i64 o, .int .i64 s, .slice ao1 XN cap1, .string ct, .int .i64 ep, .string sk, .int .i64 qt, .bool cl]) := by rw [hW, hW0]; exact (Blk.new w _ _).alloc _
  have HR : Hid (Blk W (w.heap.size + 1) 33 [.int .i64 0, .int .i64 0, .slice none 0 0, .string ⟨#[]⟩, .int .i64 0, .string ⟨#[]⟩, .int .i64 0, .bool false]) := by rw [hW, ← hs0]; exact Blk.new W0 _ _
  have HOX := hid (hx.below HB.out)
  have HEO : Hid (EvOff w.heap.size ⟨⟨o, s, dp, ct, ep, sk, qt, cl⟩, ao1, cap1⟩) := evOff_of hx (Nat.le_refl _)
  have HW : Hid (W = (w.alloc (.cells #[.int .i64 o, .int .i64 s, .slice ao1 XN cap1, .string ct, .int .i64 ep, .string sk, .int .i64 qt, .bool cl] 33)).alloc (.cells #[.int .i64 0, .int .i64 0, .slice none 0 0, .string ⟨#[]⟩, .int .i64 0, .string ⟨#[]⟩, .int .i64 0, .bool false] 33)) := by show _ = _; rw [hW, hW0]
  obtain ⟨p, hp⟩ : ∃ q, q = w.heap.size := ⟨_, rfl⟩
  have HC1 := hid (fun V (hV : BoxS W p [.int .i64 o, .int .i64 s, .slice ao1 XN cap1, .string ct, .int .i64 ep, .string sk, .int .i64 qt, .bool cl] V) => (strClone_any ct V hc).mono (fun e w' (hh : _ ∧ _) => And.intro hh.1 (hV.go hh.2)))
  have HC2 := hid (fun V (hV : BoxS W p [.int .i64 o, .int .i64 s, .slice ao1 XN cap1, .string ct, .int .i64 ep, .string sk, .int .i64 qt, .bool cl] V) => (strClone_any sk V hk).mono (fun e w' (hh : _ ∧ _) => And.intro hh.1 (hV.go hh.2)))
  rw [← hp] at HK HEO
  have HST := hid (BoxS.start HK.out)
  have HSA : Hid (∀ V, BoxS W p [.int .i64 o, .int .i64 s, .slice ao1 XN cap1, .string ct, .int .i64 ep, .string sk, .int .i64 qt, .bool cl] V → (BoxS W p [.int .i64 o, .int .i64 s, .slice ao1 XN cap1, .string ct, .int .i64 ep, .string sk, .int .i64 qt, .bool cl] V ∧ V.cell? ⟨p, 0, none⟩ = some (.int .i64 o) ∧ V.cell? ⟨p, 1, none⟩ = some (.int .i64 s) ∧ V.cell? ⟨p, 2, none⟩ = some (.slice ao1 XN cap1) ∧ V.cell? ⟨p, 3, none⟩ = some (.string ct) ∧ V.cell? ⟨p, 4, none⟩ = some (.int .i64 ep) ∧ V.cell? ⟨p, 5, none⟩ = some (.string sk) ∧ V.cell? ⟨p, 6, none⟩ = some (.int .i64 qt) ∧ V.cell? ⟨p, 7, none⟩ = some (.bool cl) ∧ V.frozen? ⟨p, 3, none⟩ = false ∧ V.frozen? ⟨p, 5, none⟩ = false)) := fun V hV =>
    ⟨hV, hV.blk.cell rfl, hV.blk.cell rfl, hV.blk.cell rfl, hV.blk.cell rfl, hV.blk.cell rfl, hV.blk.cell rfl, hV.blk.cell rfl, hV.blk.cell rfl, hV.blk.frozen 3, hV.blk.frozen 5⟩
  have HPP := hid hp
  simp only [EvM.val]
  rw [HXN.out]
  clear hW hW0 hx hs0 hc hk hp
  go_enter Tryz.func21, Tryz.ntmps21
  go_wp2
  rw [← HW.out, ← HPP.out]
  go_region_held3 (fun V => BoxS W p [.int .i64 o, .int .i64 s, .slice ao1 XN cap1, .string ct, .int .i64 ep, .string sk, .int .i64 qt, .bool cl] V ∧ V.cell? ⟨p, 0, none⟩ = some (.int .i64 o) ∧ V.cell? ⟨p, 1, none⟩ = some (.int .i64 s) ∧ V.cell? ⟨p, 2, none⟩ = some (.slice ao1 XN cap1) ∧ V.cell? ⟨p, 3, none⟩ = some (.string ct) ∧ V.cell? ⟨p, 4, none⟩ = some (.int .i64 ep) ∧ V.cell? ⟨p, 5, none⟩ = some (.string sk) ∧ V.cell? ⟨p, 6, none⟩ = some (.int .i64 qt) ∧ V.cell? ⟨p, 7, none⟩ = some (.bool cl) ∧ V.frozen? ⟨p, 3, none⟩ = false ∧ V.frozen? ⟨p, 5, none⟩ = false)
    (first | (refine ⟨?_, ?_, ?_, ?_, ?_, ?_, ?_, ?_, ?_, ?_, ?_⟩ <;> assumption) | (refine HSA.out _ ?_; (repeat (first | assumption | exact HST.out | apply BoxS.dr | refine BoxS.set ?_ 3 _ rfl | refine BoxS.set ?_ 5 _ rfl))))
    (first
      | (go_at_call 50; with_reducible refine (HC1.out _ (by (repeat (first | assumption | exact HST.out | apply BoxS.dr | refine BoxS.set ?_ 3 _ rfl | refine BoxS.set ?_ 5 _ rfl)))).mono ?_; rintro e w5 ⟨rfl, hs5⟩)
      | (go_at_call 50; with_reducible refine (HC2.out _ (by (repeat (first | assumption | exact HST.out | apply BoxS.dr | refine BoxS.set ?_ 3 _ rfl | refine BoxS.set ?_ 5 _ rfl)))).mono ?_; rintro e w6 ⟨rfl, hs6⟩))
  all_goals
    rename_i hHeld
    obtain ⟨hbx, e0, e1, e2, e3, e4, e5, e6, e7, _, _⟩ := hHeld
    have HBX := hid hbx
    have HTD := hid (toldL_any _ ⟨⟨o, s, dp, ct, ep, sk, qt, cl⟩, ao1, cap1⟩ (HOX.out.turned HEO.out hbx.turn))
    simp only [EvM.val] at HTD
    rw [HXN.out] at HTD
    have HR3 := hid (hbx.turn.blk HR.out (fun e => by have := HPP.out; omega))
    have HBV : Hid (Below w.heap.size w _) := HB.out.trans (hbx.turn.below (B := w.heap.size) (fun i hi => by rw [hi, HPP.out]; exact Nat.le_refl _) HB.out.size)
    clear hbx
    go_wp2_with fail
    refine HTD.out.mono ?_
    rintro e w7 ⟨⟨ye, bo, cp⟩, rfl, hye, hyo, hyb, hb7⟩
    have hr7 := HR3.out.below hb7 HR3.out.lt
    have HBF0 := hid (bt HBV.out hb7)
    have HBO := hid (fun b off e => Nat.le_trans HR3.out.lt (hyb b off e))
    obtain rfl : ye = ⟨o, s, dp, ct, ep, sk, qt, cl⟩ := hye
    have HYO := hid hyo
    have HR7 := hid hr7
    rw [← HPP.out] at hr7
    have r0 := hr7.cell (i := 0) rfl
    have r1 := hr7.cell (i := 1) rfl
    have r2 := hr7.cell (i := 2) rfl
    have r3 := hr7.cell (i := 3) rfl
    have r4 := hr7.cell (i := 4) rfl
    have r5 := hr7.cell (i := 5) rfl
    have r6 := hr7.cell (i := 6) rfl
    have r7 := hr7.cell (i := 7) rfl
    have q0 := hr7.frozen 0
    have q1 := hr7.frozen 1
    have q2 := hr7.frozen 2
    have q3 := hr7.frozen 3
    have q4 := hr7.frozen 4
    have q5 := hr7.frozen 5
    have q6 := hr7.frozen 6
    have q7 := hr7.frozen 7
    obtain ⟨W3, hW3⟩ : ∃ V, V = st8 w7 (p + 1) (.int .i64 o) (.int .i64 s) (.slice bo XN cp) (.string ct) (.int .i64 ep) (.string sk) (.int .i64 qt) (.bool cl) := ⟨_, rfl⟩
    have hk9 : Blk W3 (p + 1) 33 [.int .i64 o, .int .i64 s, .slice bo XN cp, .string ct, .int .i64 ep, .string sk, .int .i64 qt, .bool cl] := by rw [hW3]; exact st8_blk hr7 _ _ _ _ _ _ _ _
    have hT3 : Turns (fun i => i = p + 1) w7 W3 := by rw [hW3]; exact st8_turns _ _ _ _ _ _ _ _ _ _
    have HBF : Hid (Below w.heap.size w W3) := HBF0.out.trans (hT3.below (fun i hi => by rw [hi, HPP.out]; omega) HBF0.out.size)
    have HV3 : Hid (EvKeep W3 ⟨⟨o, s, dp, ct, ep, sk, qt, cl⟩, bo, cp⟩) := HYO.out.onEvs hr7 hT3
    have k0 := hk9.cell (i := 0) rfl
    have k1 := hk9.cell (i := 1) rfl
    have k2 := hk9.cell (i := 2) rfl
    have k3 := hk9.cell (i := 3) rfl
    have k4 := hk9.cell (i := 4) rfl
    have k5 := hk9.cell (i := 5) rfl
    have k6 := hk9.cell (i := 6) rfl
    have k7 := hk9.cell (i := 7) rfl
    unfold st8 at hW3
    clear hyo hyb hb7 hr7 hT3 hk9
    simp only [EvM.val]
    rw [HXN.out]
    go_wp2
    rw [← hW3]
    (try simp only [Exit.inBlock, Exit.then])
    refine bodyPost_ret (v := .agg #[.int .i64 o, .int .i64 s, .slice bo XN cp, .string ct, .int .i64 ep, .string sk, .int .i64 qt, .bool cl]) ?_ rfl ⟨⟨⟨o, s, dp, ct, ep, sk, qt, cl⟩, bo, cp⟩, ?_, rfl, HV3.out, fun b off e => by have := HBO.out b off e; omega, HBF.out⟩
    · rw [results_cell1 rfl]
      go_simp
    · simp only [EvM.val]
      rw [HXN.out]
end Go.Proofs.YtjlompnjhmbhhaaGreat
/-
  Package oplog: apply.
-/
namespace Go.Proofs.YtjlompnjhmbhhaaGreat
open Go.RowKit Go.Maps

def updD (S : Dots) (o s : Int) (v : Option EvM) : Dots := fun o' s' => if o' = o ∧ s' = s then v else S o' s'
theorem updD_same (S : Dots) (o s : Int) (v : Option EvM) : updD S o s v o s = v := by simp [updD]
theorem updD_other (S : Dots) {o s o' s' : Int} (v : Option EvM) (h : ¬ (o' = o ∧ s' = s)) : updD S o s v o' s' = S o' s' := by simp [updD, h]
section
variable {w : World} {m n : Nat} {S : Dots} {D : DataW Value}
theorem EvMap.put (h : EvMap w m S n D) (hn : n < maxLen) (x : EvM) (hk : EvKeep w x) (hS : S x.e.o x.e.s = none) :
    ∃ w2, (Instr.mapUpdate 41 (.map (some m)) (.agg #[.int .i64 x.e.o, .int .i64 x.e.s]) x.val).run Tryz.prog w = .ok () w2 ∧ (∃ D', EvMap w2 m (updD S x.e.o x.e.s (some x)) (n + 1) D') ∧ Turns (fun i => i = m) w w2 := by
  have hx := hk.ok
  obtain ⟨w2, hrun, hown, hturn⟩ := h.map.store Tryz.keyedDot Tryz.underlying41 hn (key_dot hx.io hx.is) (show valR x.val = some (.held x.val, []) from rfl)
  have ht : Turns (fun i => i = m) w w2 := Turns.of_grown (F := fun i => i = m) hturn.grown (fun k hk => by cases hk; rfl)
  have hni := noInt_map h.map
  refine ⟨w2, hrun, ⟨_, hown, fun o s ho hs => ?_, fun o s y hy => ?_, ?_⟩, ht⟩
  · by_cases e : o = x.e.o ∧ s = x.e.s
    · obtain ⟨rfl, rfl⟩ := e
      rw [look_put_same h.map.isMap (Tryz.keyedDot.key (key_dot ho hs)), updD_same]
      rfl
    · rw [look_put_other (fun k => e (dk_inj ho hs hx.io hx.is k)), updD_other S _ e]
      exact h.key o s ho hs
  · by_cases e : o = x.e.o ∧ s = x.e.s
    · obtain ⟨rfl, rfl⟩ := e
      rw [updD_same] at hy
      cases hy
      exact ⟨hk.noInt hni ht, rfl, rfl⟩
    · rw [updD_other S _ e] at hy
      exact ⟨(h.ok o s y hy).1.noInt hni ht, (h.ok o s y hy).2⟩
  · have h1 := size_put (k := dk x.e.o x.e.s) (size_tidy h.map) (.held x.val)
    rw [has_look (allHeld_of h.map), h.key _ _ hx.io hx.is, hS] at h1
    have := h.cnt
    simp at h1
    omega
theorem EvMap.del (h : EvMap w m S n D) {o s : Int} (ho : I64 o) (hs : I64 s) {x : EvM} (hS : S o s = some x) (ty : TypeId) :
    ∃ w2, (Builtin.delete_ #[41, 25] ty #[.map (some m), .agg #[.int .i64 o, .int .i64 s]]).run Tryz.prog w = .ok (.tuple #[]) w2 ∧ (∃ D', EvMap w2 m (updD S o s none) (n - 1) D') ∧ 1 ≤ n ∧ Turns (fun i => i = m) w w2 := by
  obtain ⟨w2, hrun, hown, hturn⟩ := h.map.drop Tryz.keyedDot Tryz.underlying41 (key_dot ho hs) ty
  have ht : Turns (fun i => i = m) w w2 := Turns.of_grown (F := fun i => i = m) hturn.grown (fun k hk => by cases hk; rfl)
  have hni := noInt_map h.map
  have h1 := size_del (k := dk o s) (size_tidy h.map)
  rw [has_look (allHeld_of h.map), h.key _ _ ho hs, hS] at h1
  have h2 := h.cnt
  simp at h1
  have hcnt : Maps.size (D.del (dk o s)) = n - 1 := by omega
  have hown' := own_tight hown
  rw [hcnt] at hown'
  refine ⟨w2, hrun, ⟨_, hown', fun o' s' ho' hs' => ?_, fun o' s' y hy => ?_, hcnt⟩, by omega, ht⟩
  · by_cases e : o' = o ∧ s' = s
    · obtain ⟨rfl, rfl⟩ := e
      rw [look_del_same, updD_same]
      rfl
    · rw [look_del_other (fun k => e (dk_inj ho' hs' ho hs k)), updD_other S _ e]
      exact h.key o' s' ho' hs'
  · by_cases e : o' = o ∧ s' = s
    · obtain ⟨rfl, rfl⟩ := e
      rw [updD_same] at hy
      cases hy
    · rw [updD_other S _ e] at hy
      exact ⟨(h.ok o' s' y hy).1.noInt hni ht, (h.ok o' s' y hy).2⟩
end
/-- The vector with one more of an origin. -/
def addA (A : List Int) (e : Ev) : List Int := plainOf (withOf A e.o.toNat e.s)
/-- The log with x applied. -/
def applyG (g : Lg) (x : EvM) : Lg := ⟨addA g.A x.e, updD g.E x.e.o x.e.s (some x), g.W, g.ne + 1, g.nw⟩
theorem addA_getD (A : List Int) (e : Ev) (i : Nat) : (addA A e).getD i 0 = if i = e.o.toNat then e.s else A.getD i 0 := by
  unfold addA
  rw [plain_getD, with_getD]
theorem addA_of (A : List Int) (e : Ev) (h0 : 0 ≤ e.o) (o : Int) : ofV (addA A e) o = if o = e.o then e.s else ofV A o := by
  by_cases hn : o < 0
  · have h1 : ∀ B, ofV B o = 0 := fun B => by unfold ofV; rw [if_pos (.inl hn)]
    rw [h1, h1, if_neg (by omega)]
  · obtain ⟨k, rfl⟩ := Int.eq_ofNat_of_zero_le (show 0 ≤ o by omega)
    rw [ofV_nat, ofV_nat, addA_getD]
    by_cases e1 : (k : Int) = e.o
    · rw [if_pos (by omega), if_pos e1]
    · rw [if_neg (by omega), if_neg e1]
theorem addA_may {A : List Int} {e : Ev} (h : MayV A) (hf : EvFacts e) : MayV (addA A e) := by
  have hl : (withOf A e.o.toNat e.s).length ≤ 7 := by rw [with_len]; have := hf.o; have := h.1; omega
  refine ⟨?_, fun x hx => ?_⟩
  · have h1 := endOf_le (withOf A e.o.toNat e.s)
    unfold addA
    rw [plain_len]
    omega
  · obtain ⟨i, hi, rfl⟩ := List.mem_iff_getElem.1 hx
    have h1 := addA_getD A e i
    have h2 : (addA A e).getD i 0 = (addA A e)[i] := by simp [List.getD, List.getElem?_eq_getElem hi]
    rw [← h2, h1]
    split
    · exact hf.s
    · by_cases hk : i < A.length
      · exact h.2 _ (getD_mem hk)
      · rw [getD_far (by omega)]
        omega
theorem addA_has {A : List Int} {e : Ev} (hm : MayE e) (hr : ReadyE A e) (o s : Int) : HasV (addA A e) o s ↔ HasV A o s ∨ (o = e.o ∧ s = e.s) := by
  have hf := rightEv_iff hm.1
  unfold HasV
  rw [addA_of A e hf.o.1]
  have h1 := hr.1
  have h2 := hm.2.1
  by_cases e1 : o = e.o
  · subst e1
    rw [if_pos rfl]
    constructor
    · intro h
      by_cases e2 : s = e.s
      · exact .inr ⟨rfl, e2⟩
      · left; omega
    · rintro (h | ⟨_, h⟩) <;> omega
  · rw [if_neg e1]
    constructor
    · intro h
      exact .inl h
    · rintro (h | ⟨h, _⟩)
      · exact h
      · exact absurd h e1
theorem below_has {a b : List Int} : BelowV a b → (∀ i : Nat, a.getD i 0 ≤ b.getD i 0) := fun h i => belowV_iff.1 h i
theorem addA_above {A : List Int} {e : Ev} (hm : MayE e) (hr : ReadyE A e) {v : List Int} (h : BelowV v A) : BelowV v (addA A e) := by
  have hf := rightEv_iff hm.1
  refine belowV_iff.2 fun i => ?_
  have h1 := belowV_iff.1 h i
  rw [addA_getD]
  split
  · next e1 =>
    have h2 := hr.1
    have h3 : ofV A e.o = A.getD i 0 := by
      have := ofV_nat A e.o.toNat
      rw [show ((e.o.toNat : Nat) : Int) = e.o by have := hf.o; omega] at this
      rw [this, e1]
    omega
  · exact h1
end Go.Proofs.YtjlompnjhmbhhaaGreat
/-
  Package oplog: apply in memory.
-/
namespace Go.Proofs.YtjlompnjhmbhhaaGreat
open Go.RowKit Go.Maps

/-- What a call on the log leaves. -/
def AtG (w : World) (p me mw : Nat) (g : Lg) (w' : World) : Prop := LogAt w' p me mw g ∧ Turns (FootL p me mw) w w'
/-- A vector that lies in another block, if it has any numbers. -/
def NotIn (a : Option Addr) (xs : List Int) (b : Nat) : Prop := xs ≠ [] → ∀ off, a ≠ some ⟨b, off, none⟩
/-- What the log keeps lies in other blocks than b. -/
structure AwayL (w : World) (p : Nat) (g : Lg) (b : Nat) : Prop where
  vec : ∀ ao n cap, w.cell? ⟨p, 0, none⟩ = some (.slice ao n cap) → NotIn ao g.A b
  E : ∀ o s y, g.E o s = some y → NotIn y.ao y.e.deps b
  W : ∀ o s y, g.W o s = some y → NotIn y.ao y.e.deps b
theorem AwayL.of_cell {w w' : World} {p b : Nat} {g : Lg} (h : AwayL w p g b) (hc : w'.cell? ⟨p, 0, none⟩ = w.cell? ⟨p, 0, none⟩) : AwayL w' p g b := ⟨fun ao n cap k => h.vec ao n cap (by rw [← hc]; exact k), h.E, h.W⟩
theorem AwayL.below {w w' : World} {p b : Nat} {g : Lg} (h : AwayL w p g b) (hp : p < w.heap.size) (hb : Below w.heap.size w w') : AwayL w' p g b := h.of_cell (hb.cell (p := ⟨p, 0, none⟩) hp)
theorem cell_block {w w' : World} {p : Nat} (h : w'.heap[p]? = w.heap[p]?) : w'.cell? ⟨p, 0, none⟩ = w.cell? ⟨p, 0, none⟩ := by
  unfold World.cell?
  simp only [h]
theorem AwayL.turned {F : Nat → Prop} {w w' : World} {p b : Nat} {g : Lg} (h : AwayL w p g b) (hp : p < w.heap.size) (ht : Turns F w w') (hF : ¬ F p) : AwayL w' p g b := h.of_cell (cell_block (ht.block p hp hF))
theorem applied_at {W w6 : World} {p me mw : Nat} {g : Lg} {x : EvM} (h : LogAt W p me mw g) (hm : MayE x.e) (hr : ReadyE g.A x.e) (hw : g.W x.e.o x.e.s = none) (hn : g.ne < 65536) {bo : Option Addr} {cp : Nat}
    (blk : Blk w6 p 43 [.slice bo (addA g.A x.e).length cp, .map (some me), .map (some mw)]) (hv : HV w6 bo cp (addA g.A x.e)) (hne : NEv w6 bo (addA g.A x.e)) {D1 D2 : DataW Value} (em : EvMap w6 me (updD g.E x.e.o x.e.s (some x)) (g.ne + 1) D1) (wm : EvMap w6 mw g.W g.nw D2) : LogAt w6 p me mw (applyG g x) := by
  refine ⟨⟨bo, cp, blk, hv, hne⟩, h.apart, addA_may h.may (rightEv_iff hm.1), ⟨D1, em⟩, ⟨D2, wm⟩, fun o s => ?_, fun o s y hy => ?_, fun o s y hy => ?_, hn, h.fewW⟩
  · show (updD g.E x.e.o x.e.s (some x) o s).isSome = true ↔ HasV (addA g.A x.e) o s
    rw [addA_has hm hr]
    by_cases e : o = x.e.o ∧ s = x.e.s
    · obtain ⟨rfl, rfl⟩ := e
      rw [updD_same]
      exact ⟨fun _ => .inr ⟨rfl, rfl⟩, fun _ => rfl⟩
    · rw [updD_other _ _ e, h.has]
      exact ⟨.inl, fun k => k.elim id (fun k => absurd k e)⟩
  · have hy' : updD g.E x.e.o x.e.s (some x) o s = some y := hy
    by_cases e : o = x.e.o ∧ s = x.e.s
    · obtain ⟨rfl, rfl⟩ := e
      rw [updD_same] at hy'
      cases hy'
      exact ⟨hm, addA_above hm hr hr.2⟩
    · rw [updD_other _ _ e] at hy'
      have := h.evs o s y hy'
      exact ⟨this.1, addA_above hm hr this.2⟩
  · have := h.wait o s y hy
    refine ⟨this.1, fun hh => ?_⟩
    rcases (addA_has hm hr o s).1 hh with h1 | ⟨rfl, rfl⟩
    · exact this.2 h1
    · have hy' : g.W x.e.o x.e.s = some y := hy
      rw [hw] at hy'
      cases hy'
set_option maxRecDepth 100000 in
set_option maxHeartbeats 2000000 in
theorem applyL_any {w : World} {p me mw : Nat} {g : Lg} (h : LogAt w p me mw g) (x : EvM) (hx : EvKeep w x) (hm : MayE x.e) (hr : ReadyE g.A x.e) (hw : g.W x.e.o x.e.s = none) (hn : g.ne < 65536) :
    Calls Tryz.prog 48 #[.pointer (some ⟨p, 0, none⟩), x.val] w fun e w' => e = .returned (.tuple #[]) ∧ AtG w p me mw (applyG g x) w' ∧ ∀ b, b < w.heap.size → AwayL w p g b → NotIn x.ao x.e.deps b → AwayL w' p (applyG g x) b := by
  obtain ⟨W, hW⟩ : ∃ W, W = w.alloc (.cells x.cells.toArray 33) := ⟨_, rfl⟩
  have HB : Hid (Below w.heap.size w W) := by rw [hW]; exact (Below.refl _ _).alloc (Nat.le_refl _) _
  have HK : Hid (Blk W w.heap.size 33 x.cells) := by rw [hW]; exact Blk.new w _ _
  have HL := hid (h.below HB.out)
  have HOX := hid (hx.below HB.out)
  have HW := hid hW
  have HMM := hid hm
  have HRR := hid hr
  have HWW := hid hw
  have HNN := hid hn
  have HF := hid (rightEv_iff hm.1)
  have HPW : Hid (∀ i, FootL p me mw i → i < w.heap.size) := h.lt
  clear hW hx h hm hr hw hn
  obtain ⟨ao, cap, hb, hv, _⟩ := HL.out.blk
  have HBp := hid hb
  have HNI : Hid (NoInt W (fun i => i = p)) := fun i hi => HL.out.noInt i (.inl hi)
  have HWT : Hid (∀ V, Sc W V → Calls Tryz.prog 70 #[.slice ao g.A.length cap, .int .i64 x.e.o, .int .i64 x.e.s] V fun e w' => ∃ bo cp, e = .returned (.tuple #[.slice bo (addA g.A x.e).length cp, .int .i64 0]) ∧ Hid (HV w' bo cp (addA g.A x.e) ∧ NEv w' bo (addA g.A x.e) ∧ ∀ b off, bo = some ⟨b, off, none⟩ → w.heap.size ≤ b) ∧ Sc W w') := fun V hV => by
    have := with_new V ao cap g.A g.A.length rfl (hv.below hV.out) x.e.o.toNat (by have := HF.out.o; omega) x.e.s HF.out.s
    rw [show ((x.e.o.toNat : Nat) : Int) = x.e.o by have := HF.out.o; omega] at this
    refine this.mono ?_
    rintro e w' ⟨cp, rfl, h1, h3, h2⟩
    exact ⟨_, cp, rfl, ⟨h1, nev_int h3, fun b off e => by cases e; exact Nat.le_trans HB.out.size hV.size⟩, hV.go h2⟩
  obtain ⟨L, HLn⟩ : ∃ z, Hid (g.A.length = z) := ⟨_, hid rfl⟩
  obtain ⟨M, HMn⟩ : ∃ z, Hid ((addA g.A x.e).length = z) := ⟨_, hid rfl⟩
  rw [HLn.out, HMn.out] at HWT
  rw [HLn.out] at HBp
  have HPB : Hid (w.heap.size ≠ p) := fun e => by have := HPW.out p (.inl rfl); omega
  clear hb hv
  obtain ⟨⟨o, s, dp, ct, ep, sk, qt, cl⟩, ao1, cap1⟩ := x
  obtain ⟨XN, HXN⟩ : ∃ m, Hid (dp.length = m) := ⟨_, hid rfl⟩
  simp only [EvM.val, EvM.cells] at HW HK ⊢
  rw [HXN.out] at HW HK ⊢
  dsimp only at HWT
  have HSA : Hid (∀ V, Turns (fun i => i = p) W V → (Turns (fun i => i = p) W V ∧ V.cell? ⟨w.heap.size, 0, none⟩ = some (.int .i64 o) ∧ V.cell? ⟨w.heap.size, 1, none⟩ = some (.int .i64 s))) := fun V hV => by
    have hb := hV.blk HK.out HPB.out
    exact ⟨hV, hb.cell rfl, hb.cell rfl⟩
  have HT0 : Hid (Turns (fun i => i = p) W W) := Turns.refl _ _
  have c0 : W.drew.cell? ⟨p, 0, none⟩ = some (.slice ao L cap) := HBp.out.cell (i := 0) rfl
  have c0' : W.cell? ⟨p, 0, none⟩ = some (.slice ao L cap) := HBp.out.cell (i := 0) rfl
  go_enter Tryz.func48, Tryz.ntmps48
  go_wp2
  rw [← HW.out]
  obtain ⟨pb, hpb⟩ : ∃ z, z = w.heap.size := ⟨_, rfl⟩
  rw [← hpb] at HSA HPB HK ⊢
  have HPP := hid hpb
  clear hpb
  have b0 : W.drew.cell? ⟨pb, 0, none⟩ = some (.int .i64 o) := HK.out.cell (i := 0) rfl
  have b1 : W.drew.cell? ⟨pb, 1, none⟩ = some (.int .i64 s) := HK.out.cell (i := 1) rfl
  go_region_with (go_at_call 70; refine (HWT.out _ (Sc.dr0 W)).mono ?_; rintro e w5 ⟨bo, cp, rfl, HV5, hs5⟩; have hb5 := HBp.out.below hs5.out HBp.out.lt; have d0 := hb5.cell (i := 0) rfl; have f0 := hb5.frozen 0)
  all_goals
    have HNB := hid HV5.out.2.2
    have hbV := hb5.set 0 (.slice bo M cp)
    have hni : NoInt w5 (fun i => i = p) := noInt_blk hb5 (by simp)
    have htV : Turns (fun i => i = p) w5 (w5.setCell ⟨p, 0, none⟩ (.slice bo M cp)) := (Turns.refl (fun i => i = p) w5).setCell (p := ⟨p, 0, none⟩) (.inl rfl) _
    have hkV := htV.blk (HK.out.below hs5.out HK.out.lt) HPB.out
    have hvV := HV5.out.1.noInt hni htV
    have hneV := HV5.out.2.1.stay HV5.out.1.held htV (noInt_off HV5.out.1.held hni)
    have hxV := (HOX.out.below hs5.out).noInt hni htV
    obtain ⟨De, hem⟩ := HL.out.em
    obtain ⟨Dw, hwm⟩ := HL.out.wm
    have hemV := (hem.below hs5.out).turned htV (fun e => HL.out.pne.1 e.symm) hni
    have hwmV := (hwm.below hs5.out).turned htV (fun e => HL.out.pne.2 e.symm) hni
    have HT1 : Hid (Turns (FootL p me mw) W (w5.setCell ⟨p, 0, none⟩ (.slice bo M cp))) := (Turns.of_below (F := FootL p me mw) hs5.out (Nat.le_refl _)).trans htV (fun i hi => .inl (.inl hi))
    have HEN : Hid (g.E o s = none) := by
      cases hE : g.E o s with
      | none => rfl
      | some y =>
        have h1 := (HL.out.has o s).1 (by rw [hE]; rfl)
        have h2 := h1.2
        have h3 : s = ofV g.A o + 1 := HRR.out.1
        omega
    obtain ⟨V, hV⟩ : ∃ V, V = w5.setCell ⟨p, 0, none⟩ (.slice bo M cp) := ⟨_, rfl⟩
    rw [← hV] at hbV hkV hvV hneV hxV hemV hwmV HT1 ⊢
    obtain ⟨w6, hrun, ⟨D6, hem6⟩, ht6⟩ := EvMap.put (w := V.drew) (hemV.below (below_dr (Below.refl _ _))) (by have := HNN.out; unfold maxLen; omega) ⟨⟨o, s, dp, ct, ep, sk, qt, cl⟩, ao1, cap1⟩ (hxV.below (below_dr (Below.refl _ _))) HEN.out
    simp only [EvM.val] at hrun
    rw [HXN.out] at hrun
    have hpm : p ≠ me := HL.out.pne.1
    have hbm : pb ≠ me := fun e => by have := HPW.out me (.inr (.inl rfl)); rw [← HPP.out] at this; omega
    have hb6 := ht6.blk (show Blk V.drew p 43 _ from hbV) hpm
    have hk6 := ht6.blk (show Blk V.drew pb 33 _ from hkV) hbm
    have hni6 : NoInt V.drew (fun i => i = me) := noInt_map (show V.drew.ownsMap _ _ _ _ _ _ from hemV.map)
    have HV6 : Hid (HV w6 bo cp (addA g.A ⟨o, s, dp, ct, ep, sk, qt, cl⟩)) := (show HV V.drew bo cp _ from hvV.below (below_dr (Below.refl _ _))).noInt hni6 ht6
    have HN6 : Hid (NEv w6 bo (addA g.A ⟨o, s, dp, ct, ep, sk, qt, cl⟩)) := NEv.stay (w := V.drew) hneV (hvV.below (below_dr (Below.refl _ _))).held ht6 (noInt_off (hvV.below (below_dr (Below.refl _ _))).held hni6)
    have HW6 := hid ((hwmV.below (below_dr (Below.refl _ _))).turned ht6 (fun e => HL.out.apart e.symm) hni6)
    have HE6 := hid hem6
    have HB6 := hid hb6
    have HT6 : Hid (Turns (FootL p me mw) w w6) := (Turns.of_below (F := FootL p me mw) HB.out (Nat.le_refl _)).trans ((HT1.out.drew).trans ht6 (fun i hi => .inl (.inr (.inl hi)))) (fun i hi => .inl hi)
    have a1 := hbV.cell (i := 1) rfl
    have k0 := hkV.cell (i := 0) rfl
    have k1 := hkV.cell (i := 1) rfl
    have k2 := hkV.cell (i := 2) rfl
    have k3 := hkV.cell (i := 3) rfl
    have k4 := hkV.cell (i := 4) rfl
    have k5 := hkV.cell (i := 5) rfl
    have k6 := hkV.cell (i := 6) rfl
    have k7 := hkV.cell (i := 7) rfl
    have a1' := hb6.cell (i := 1) rfl
    have k0' := hk6.cell (i := 0) rfl
    have k1' := hk6.cell (i := 1) rfl
    have k2' := hk6.cell (i := 2) rfl
    have k3' := hk6.cell (i := 3) rfl
    have k4' := hk6.cell (i := 4) rfl
    have k5' := hk6.cell (i := 5) rfl
    have k6' := hk6.cell (i := 6) rfl
    have k7' := hk6.cell (i := 7) rfl
    clear hV hbV hni htV hkV hvV hneV hxV hem hwm hemV hwmV hb5 hs5 HV5 hb6 hk6 hni6 hem6 ht6 hpm hbm d0 f0 b0 b1 c0 c0' HSA HT0 HWT HT1
    go_wp2
    go_region_held3 (fun V => V.cell? ⟨p, 1, none⟩ = some (.map (some me)) ∧ V.cell? ⟨pb, 0, none⟩ = some (.int .i64 o) ∧ V.cell? ⟨pb, 1, none⟩ = some (.int .i64 s) ∧ V.cell? ⟨pb, 2, none⟩ = some (.slice ao1 XN cap1) ∧ V.cell? ⟨pb, 3, none⟩ = some (.string ct) ∧ V.cell? ⟨pb, 4, none⟩ = some (.int .i64 ep) ∧ V.cell? ⟨pb, 5, none⟩ = some (.string sk) ∧ V.cell? ⟨pb, 6, none⟩ = some (.int .i64 qt) ∧ V.cell? ⟨pb, 7, none⟩ = some (.bool cl)) (first | (refine ⟨?_, ?_, ?_, ?_, ?_, ?_, ?_, ?_, ?_⟩ <;> assumption) | go_keep) (fail)
    go_wp2
    (try simp only [Exit.inBlock, Exit.then])
    refine bodyPost_end (results_none rfl _ _ _) rfl ?_
    refine ⟨rfl, ⟨applied_at HL.out HMM.out HRR.out HWW.out HNN.out (by rw [HMn.out]; exact HB6.out) HV6.out HN6.out HE6.out HW6.out, HT6.out⟩, fun b hb ha hx => ⟨fun ao' n' cap' hc => ?_, fun o' s' y hy => ?_, ha.W⟩⟩
    · have h1 := (HB6.out.cell (i := 0) rfl).symm.trans hc
      cases h1
      intro _ off e
      have := HNB.out b off e
      omega
    · have hy' : updD g.E o s (some ⟨⟨o, s, dp, ct, ep, sk, qt, cl⟩, ao1, cap1⟩) o' s' = some y := hy
      by_cases e : o' = o ∧ s' = s
      · rw [e.1, e.2, updD_same] at hy'
        cases hy'
        exact hx
      · rw [updD_other _ _ e] at hy'
        exact ha.E o' s' y hy'
end Go.Proofs.YtjlompnjhmbhhaaGreat
