/-
  Package cut: sealsByCart: a map of rows of seals, each in memory of its own.
-/
import Derived.Test.YtkgfpnmifgifpaaSealB
import Derived.Test.YtkgfpnmifgifpaaCartSn
import Derived.Deep.RegionHeld3
import Derived.Deep.RegionLaw
namespace Go.Proofs.Ytkgfpnmifgifpaa
open Go.RowKit Go.Maps

/-- A map of rows of seals of xs, no two of which lie in one block. -/
structure RowsAt (B : Nat) (xs : List SlM) (k : Nat) (w : World) (m N : Nat) (D : DataW Value) : Prop where
  map : w.ownsMap Try.prog 9 valR m N D
  row : ∀ s v, look D (key s) = some v → ∃ ds : List SlM, (∀ x ∈ ds, x ∈ xs) ∧ ds.length ≤ k ∧ w.ownsRow B 50 4 v ds.length (flatS ds)
  apart : ∀ s t v u, s ≠ t → look D (key s) = some v → look D (key t) = some u → ∀ g, v.ownBlock = some g → u.ownBlock ≠ some g
section
variable {B k m N : Nat} {xs : List SlM} {w w' : World} {D : DataW Value}
theorem RowsAt.below (h : RowsAt B xs k w m N D) (hb : Below w.heap.size w w') : RowsAt B xs k w' m N D := by
  have ht : Turns (fun _ => False) w w' := Turns.of_below hb (Nat.le_refl _)
  refine ⟨ht.map h.map (fun h => h), fun s v hv => ?_, h.apart⟩
  obtain ⟨ds, h1, h2, h3⟩ := h.row s v hv
  exact ⟨ds, h1, h2, ht.row h3 (fun _ _ h => h)⟩
theorem RowsAt.new (B : Nat) (xs : List SlM) (w : World) : RowsAt B xs 0 (w.alloc (.map #[] 0)) w.heap.size 0 (.map []) :=
  ⟨World.ownsMap_made w _ _ _, fun s v hv => (by rw [look_empty] at hv; cases hv), fun s t v u _ hv => (by rw [look_empty] at hv; cases hv)⟩
theorem Try.zeroSls (w : World) : (zeroValue 23).run Try.prog w = .ok (.slice none 0 0) w := by kernel_rfl
/-- What lies at a cart. -/
theorem RowsAt.at (h : RowsAt B xs k w m N D) (s : ByteArray) : ∃ ds : List SlM, ∃ v, (look D (key s)).getD (.slice none 0 0) = v ∧ (∀ x ∈ ds, x ∈ xs) ∧ ds.length ≤ k ∧ w.ownsRow B 50 4 v ds.length (flatS ds) := by
  cases hl : look D (key s) with
  | none => exact ⟨[], _, rfl, fun x hx => (by cases hx), Nat.zero_le _, World.ownsRow_nil _ _ _ _⟩
  | some v =>
    obtain ⟨ds, h1, h2, h3⟩ := h.row s v hl
    exact ⟨ds, v, rfl, h1, h2, h3⟩
theorem RowsAt.lookup (h : RowsAt B xs k w m N D) {s : ByteArray} (hs : s.size ≤ maxLen) {v : Value} (hv : (look D (key s)).getD (.slice none 0 0) = v) : (Instr.lookup 66 (.map (some m)) (.string s) false).run Try.prog w = .ok v w := by
  have := run_look h.map Try.keyedStr Try.underlying66 (Try.zeroSls w) (Try.keyStr hs)
  rw [hv] at this
  exact this
/-- The map with a cart's row that has one more. -/
theorem RowsAt.put (h : RowsAt B xs k w m N D) (hN : N < maxLen) {s : ByteArray} (hs : s.size ≤ maxLen) {v v' : Value} (hv : (look D (key s)).getD (.slice none 0 0) = v) {W : World} {q : Nat} (hq : w.heap.size ≤ q) (hg : Turns (fun i => v.ownBlock = some i) w W) (hmb : some m ≠ v.ownBlock)
    (hob : v'.ownBlock = v.ownBlock ∨ v'.ownBlock = some q) {es : List SlM} (hes : ∀ x ∈ es, x ∈ xs) (hlen : es.length ≤ k + 1) (hrow : W.ownsRow B 50 4 v' es.length (flatS es)) :
    ∃ w2, (Instr.mapUpdate 66 (.map (some m)) (.string s) v').run Try.prog W = .ok () w2 ∧ (∃ D', RowsAt B xs (k + 1) w2 m (N + 1) D') ∧ Turns (fun i => i = m) W w2 := by
  have hmW : W.ownsMap Try.prog 9 valR m N D := hg.map h.map (fun e => hmb e.symm)
  obtain ⟨w2, hrun, hown, hturn⟩ := hmW.store Try.keyedStr Try.underlying66 hN (Try.keyStr hs) (show valR v' = some (.held v', []) from rfl)
  have ht2 : Turns (fun i => i = m) W w2 := Turns.of_grown (F := fun i => i = m) hturn.grown (fun k hk => by cases hk; rfl)
  have hold : ∀ t u, t ≠ s → look D (key t) = some u → ∀ g, v.ownBlock = some g → u.ownBlock ≠ some g := by
    intro t u ht hu g hg1 hg2
    cases hl : look D (key s) with
    | none =>
      rw [hl] at hv
      subst hv
      cases hg1
    | some v0 =>
      rw [hl] at hv
      cases hv
      exact h.apart s t _ u (Ne.symm ht) hl hu g hg1 hg2
  have hnm : ∀ {W' : World} {u : Value} {n : Nat} {ys : List Value}, W'.ownsMap Try.prog 9 valR m N D → W'.ownsRow B 50 4 u n ys → ∀ g, u.ownBlock = some g → ¬ g = m := fun hm hr g hg1 e => row_not_map hr hm (by rw [hg1, e])
  refine ⟨w2, hrun, ⟨_, hown, fun t u hu => ?_, fun t t' u u' hne hu hu' g hg1 hg2 => ?_⟩, ht2⟩
  · by_cases e : t = s
    · subst e
      rw [look_put_same hmW.isMap (Try.keyedStr.key (Try.keyStr hs))] at hu
      cases hu
      exact ⟨es, hes, hlen, ht2.row hrow (hnm hmW hrow)⟩
    · rw [look_put_other (fun k => e (key_inj k))] at hu
      obtain ⟨ds, h1, h2, h3⟩ := h.row t u hu
      have h4 : W.ownsRow B 50 4 u ds.length (flatS ds) := hg.row h3 (fun g hg1 hg2 => hold t u e hu g hg2 hg1)
      exact ⟨ds, h1, Nat.le_succ_of_le h2, ht2.row h4 (hnm hmW h4)⟩
  · have key1 : ∀ r z, r ≠ s → look D (key r) = some z → ∀ g, v'.ownBlock = some g → z.ownBlock ≠ some g := by
      intro r z hr hz g hg1 hg2
      rcases hob with hob | hob
      · exact hold r z hr hz g (hob ▸ hg1) hg2
      · rw [hob] at hg1
        cases hg1
        obtain ⟨ds, _, _, h3⟩ := h.row r z hz
        have := (h3.lt _ hg2).2
        omega
    by_cases e : t = s
    · subst e
      rw [look_put_same hmW.isMap (Try.keyedStr.key (Try.keyStr hs))] at hu
      cases hu
      rw [look_put_other (fun k => hne (key_inj k).symm)] at hu'
      exact key1 t' u' (Ne.symm hne) hu' g hg1 hg2
    · rw [look_put_other (fun k => e (key_inj k))] at hu
      by_cases e' : t' = s
      · subst e'
        rw [look_put_same hmW.isMap (Try.keyedStr.key (Try.keyStr hs))] at hu'
        cases hu'
        exact key1 t u e hu g hg2 hg1
      · rw [look_put_other (fun k => e' (key_inj k))] at hu'
        exact h.apart t t' u u' hne hu hu' g hg1 hg2
end
/-- append of one seal to a row, in a region that draws its order. -/
theorem step_append_sl {ops : Array Oper} {o : Oper} {a : Act} {w : World} {K : Act → World → Prop} {Q : Exit → Act → World → Prop} {E : Prop} (hgd : o.guard = none) (s x : Operand)
    (ho : o.op = .call { callee := .builtin .append, args := #[s, x], argTypes := #[23, 23] })
    (base : Nat) (v : Value) (ds : List SlM) (hs : a.eval s = v) (hown : w.ownsRow base 50 4 v ds.length (flatS ds))
    (g : Nat) (y : SlM) (hx : a.eval x = .slice (some ⟨g, 0, none⟩) 1 1) (hh : Blk w g 50 y.cells) (hsum : ds.length ≤ 100000000) (hbase : base ≤ w.heap.size)
    (h : ∀ v' w', w'.ownsRow base 50 4 v' (ds ++ [y]).length (flatS (ds ++ [y])) → w.grownBy w' v.ownBlock → (v'.ownBlock = v.ownBlock ∨ v'.ownBlock = some w.heap.size) → K (a.put o.dst v') w') :
    if Region.wanted o (yielded ops a.tmps) = true then Oper.wp Try.prog o a w K Q else E := by
  have hw : Region.wanted o (yielded ops a.tmps) = true := by simp [Region.wanted, hgd]
  rw [if_pos hw]
  obtain ⟨iI, hj, hy0, hy1, hy2⟩ := info_parts Try.infoSl
  obtain ⟨v', w', hr, hown', hgrow, _, hb⟩ := run_append_own_at (P := Try.prog) w base 23 o.type 50 iI _ 4 64 Try.underlying23 hj hy0 hy1 hy2 rfl (by decide) v ds.length (flatS ds) hown ⟨g, 0, none⟩ 1 1 y.cells rfl (fun j u hu => by rw [Addr.add_lit, Nat.zero_add]; exact hh.cell hu) (sl_one y) (by unfold maxLen; omega) (by omega) hbase
  unfold Oper.wp execOp
  simp only [ho, resolve, invoke, builtin, Sem.run_bind, Sem.run_pure, Result.andThen_ok, List.map_toArray, List.map_cons, List.map_nil, hs, hx, hr]
  refine h v' w' ?_ hgrow hb
  rw [flatS_snoc, List.length_append]
  exact hown'
/-- What sealsByCart leaves. -/
def ByCart (w : World) (xs : List SlM) (e : Ending) (w' : World) : Prop := ∃ m N D, e = .returned (.map (some m)) ∧ RowsAt w.heap.size xs xs.length w' m N D ∧ Below w.heap.size w w'
set_option maxRecDepth 1000000 in
set_option maxHeartbeats 4000000 in
theorem byCart_any (w : World) (ao : Option Addr) (cap : Nat) (xs : List SlM) (n : Nat) (hn : xs.length = n) (h : HeldSl w ao xs) (hl : n ≤ 100000000) :
    Calls Try.prog 29 #[.slice ao n cap] w (ByCart w xs) := by
  have hmm := @run_makeMap Try.prog
  have HN := hid hn
  have H := hid h
  obtain ⟨W0, hW0⟩ : ∃ W, W = w.alloc (.map #[] 0) := ⟨_, rfl⟩
  have HB0 : Hid (Below w.heap.size w W0) := by rw [hW0]; exact (Below.refl _ _).alloc (Nat.le_refl _) _
  have HM0 : Hid (RowsAt w.heap.size xs 0 W0 w.heap.size 0 (.map [])) := by rw [hW0]; exact RowsAt.new _ _ w
  have HW0 := hid hW0
  clear hn h hW0
  go_enter Try.func29, Try.ntmps29
  go_wp2
  rw [← HW0.out]
  obtain ⟨mm, hmmm⟩ : ∃ p, p = w.heap.size := ⟨_, rfl⟩
  rw [← hmmm] at HM0 ⊢
  have HMM := hid hmmm
  clear hmmm
  go_loopw [5, 9] (fun _ i wr => ∃ k : Nat, k ≤ n ∧ i = .int .i64 k ∧ Hid ((∃ D N, N ≤ k ∧ RowsAt mm xs k wr mm N D) ∧ Below w.heap.size w wr)) (fun _ i _ => n - (intOf i).toNat)
  case atStart => exact ⟨0, Nat.zero_le _, rfl, ⟨_, 0, Nat.le_refl _, HM0.out⟩, HB0.out⟩
  case round =>
    obtain ⟨k, hk, rfl, HR⟩ := hrel
    by_cases hlt : k < n
    · have hlt' : (k : Int) < (n : Int) := by omega
      have hkx : Hid (k < xs.length) := (by rw [HN.out]; exact hlt : k < xs.length)
      obtain ⟨bb, off, hao, hbb, g0, g1, g2, g3⟩ := (H.out.below HR.out.2).at hkx.out
      have HKM : Hid (k + 1 ≤ n) := (by omega : k + 1 ≤ n)
      have HOX := hid ((H.out.1 _ (List.getElem_mem hkx.out)).below HR.out.2)
      have HMX : Hid (xs[k]'hkx.out ∈ xs) := List.getElem_mem hkx.out
      obtain ⟨D, N, hNk, hrows⟩ := HR.out.1
      subst hao
      obtain ⟨X, HX⟩ : ∃ X, Hid (xs[k]'hkx.out = X) := ⟨_, hid rfl⟩
      rw [HX.out] at g0 g1 g2 g3 HOX HMX
      obtain ⟨⟨tok, cart, ep, cut⟩, ao1, cap1⟩ := X
      obtain ⟨XN, HXN⟩ : ∃ m, Hid (cut.length = m) := ⟨_, hid rfl⟩
      simp only at g0 g1 g2 g3
      rw [HXN.out] at g3
      obtain ⟨W1, hW1⟩ : ∃ W, W = wr.alloc (.cells #[.string tok, .string cart, .int .i64 ep, .slice ao1 XN cap1] 50) := ⟨_, rfl⟩
      have HB1 : Hid (Below wr.heap.size wr W1) := by rw [hW1]; exact (Below.refl _ _).alloc (Nat.le_refl _) _
      have HK1 : Hid (Blk W1 wr.heap.size 50 [.string tok, .string cart, .int .i64 ep, .slice ao1 XN cap1]) := by rw [hW1]; exact Blk.new wr _ _
      have hr1 := hrows.below HB1.out
      obtain ⟨ds, v, hv, hds, hdl, hdo⟩ := hr1.at cart
      have HLT : Hid (∀ g, v.ownBlock = some g → g < wr.heap.size) := by
        intro g hg
        obtain ⟨ds', v', hv', _, _, hdo'⟩ := hrows.at cart
        rw [hv] at hv'
        subst hv'
        exact (hdo'.lt g hg).2
      have HCS : Hid (cart.size ≤ maxLen) := HOX.out.hc
      have HR1 := hid hr1
      have HVV := hid hv
      have HDS := hid hds
      have HDL := hid hdl
      have HDO := hid hdo
      have HNK := hid hNk
      have HMV : Hid (some mm ≠ v.ownBlock) := row_not_map hdo hr1.map
      have HPL : Hid (wr.heap.size < W1.heap.size) := HK1.out.lt
      have HSA : Hid (∀ V, Turns (fun i => v.ownBlock = some i ∨ i = mm) W1 V → (Turns (fun i => v.ownBlock = some i ∨ i = mm) W1 V ∧ V.cell? ⟨wr.heap.size, 0, none⟩ = some (.string tok) ∧ V.cell? ⟨wr.heap.size, 1, none⟩ = some (.string cart) ∧ V.cell? ⟨wr.heap.size, 2, none⟩ = some (.int .i64 ep) ∧ V.cell? ⟨wr.heap.size, 3, none⟩ = some (.slice ao1 XN cap1))) := by
        intro V hV
        have hb := hV.blk HK1.out (fun e => by
          rcases e with e | e
          · have := HLT.out _ e
            omega
          · exact HK1.out.not_map HR1.out.map e)
        exact ⟨hV, hb.cell rfl, hb.cell rfl, hb.cell rfl, hb.cell rfl⟩
      have HLK : Hid (∀ V, Sc W1 V → (Instr.lookup 66 (.map (some mm)) (.string cart) false).run Try.prog V = .ok v V) := fun V hV => (HR1.out.below hV.out).lookup HCS.out HVV.out
      have hlk1 := HLK.out _ (Sc.dr0 W1)
      have hlk2 := fun o => HLK.out _ ((Sc.dr0 W1).alloc o)
      have hlk3 := fun o => HLK.out _ ((Sc.start W1).alloc o).dr
      have HW1 := hid hW1
      clear hW1 hbb hr1 hrows hNk hv hds hdl hdo
      go_wp2
      rw [← HW1.out]
      obtain ⟨p, hp⟩ : ∃ p, p = wr.heap.size := ⟨_, rfl⟩
      rw [← hp] at HK1 HSA HPL HLT ⊢
      have HPP := hid hp
      clear hp
      have HBK : Hid (∀ V : World, Blk (V.alloc (.cells #[.string tok, .string cart, .int .i64 ep, .slice ao1 XN cap1] 50)) V.heap.size 50 (SlM.cells ⟨⟨tok, cart, ep, cut⟩, ao1, cap1⟩)) := fun V => by
        show Blk _ _ _ [_, _, _, _]
        rw [HXN.out]
        exact Blk.new V _ _
      have HRW : Hid (∀ V, Sc W1 V → V.ownsRow mm 50 4 v ds.length (flatS ds)) := fun V hV => (Turns.of_below (F := fun _ => False) hV.out (Nat.le_refl _)).row HDO.out (fun _ _ h => h)
      have HPUT : Hid (∀ U V v', Sc W1 U → U.grownBy V v.ownBlock → (v'.ownBlock = v.ownBlock ∨ v'.ownBlock = some U.heap.size) → V.ownsRow mm 50 4 v' (ds ++ [(⟨⟨tok, cart, ep, cut⟩, ao1, cap1⟩ : SlM)]).length (flatS (ds ++ [(⟨⟨tok, cart, ep, cut⟩, ao1, cap1⟩ : SlM)])) →
          ∃ w2, (Instr.mapUpdate 66 (.map (some mm)) (.string cart) v').run Try.prog V = .ok () w2 ∧ Hid ((∃ D', RowsAt mm xs (k + 1) w2 mm (N + 1) D') ∧ Below w.heap.size w w2) ∧ Turns (fun i => v.ownBlock = some i ∨ i = mm) W1 w2) := fun U V v' hU hg hob hrow => by
        have hT : Turns (fun i => v.ownBlock = some i) W1 V := (Turns.of_below hU.out (Nat.le_refl _)).grown hg (fun k hk => .inl hk)
        obtain ⟨w2, h1, h2, h3⟩ := HR1.out.put (by have := HNK.out; unfold maxLen; omega) HCS.out HVV.out hU.size hT HMV.out hob (es := ds ++ [⟨⟨tok, cart, ep, cut⟩, ao1, cap1⟩]) (fun x hx => by
          rcases List.mem_append.1 hx with hx | hx
          · exact HDS.out x hx
          · rw [List.mem_singleton.1 hx]; exact HMX.out) (by rw [List.length_append]; have := HDL.out; simpa using this) hrow
        refine ⟨w2, h1, ⟨h2, ?_⟩, (hT.mono (fun i hi => .inl hi)).trans h3 (fun i hi => .inl (.inr hi))⟩
        have hbw : Below w.heap.size w W1 := bt HR.out.2 HB1.out
        have hwm : w.heap.size ≤ mm := by rw [HMM.out]; exact Nat.le_refl _
        exact (hbw.trans (hT.below (fun i hi => by have := (HDO.out.lt i hi).1; omega) hbw.size)).trans (h3.below (fun i hi => by rw [hi]; exact hwm) (Nat.le_trans hbw.size hT.size))
      have HSS : Hid (∀ V, Sc W1 V → Turns (fun i => v.ownBlock = some i ∨ i = mm) W1 V) := fun V hV => Turns.of_below hV.out (Nat.le_refl _)
      have HDL2 : Hid (ds.length ≤ 100000000) := by have := HDL.out; show _ ≤ _; omega
      have HMS : Hid (mm ≤ W1.heap.size) := by have := (bt HR.out.2 HB1.out).size; rw [HMM.out]; exact this
      go_region_held3 (fun V => Turns (fun i => v.ownBlock = some i ∨ i = mm) W1 V ∧ V.cell? ⟨p, 0, none⟩ = some (.string tok) ∧ V.cell? ⟨p, 1, none⟩ = some (.string cart) ∧ V.cell? ⟨p, 2, none⟩ = some (.int .i64 ep) ∧ V.cell? ⟨p, 3, none⟩ = some (.slice ao1 XN cap1))
        (first | (refine ⟨?_, ?_, ?_, ?_, ?_⟩ <;> assumption) | (refine HSA.out _ ?_; first | assumption | (refine HSS.out _ ?_; (repeat (first | assumption | exact Sc.start _ | apply Sc.dr | apply Sc.alloc)))))
        (first
          | (refine step_append_sl rfl _ _ rfl mm v ds rfl ?_ _ ⟨⟨tok, cart, ep, cut⟩, ao1, cap1⟩ rfl ?_ HDL2.out ?_ ?_
             · refine HRW.out _ ?_; (repeat (first | assumption | exact Sc.start _ | apply Sc.dr | apply Sc.alloc))
             · first | exact HBK.out _ | exact (HBK.out _).drew
             · refine Nat.le_trans HMS.out (Sc.size ?_); (repeat (first | assumption | exact Sc.start _ | apply Sc.dr | apply Sc.alloc))
             intro v' w3 hown3 hg3 hob3
             obtain ⟨w4, hrun4, HF4, hT4⟩ := HPUT.out _ _ _ (by (repeat (first | assumption | exact Sc.start _ | apply Sc.dr | apply Sc.alloc))) hg3 hob3 hown3
             have hT3 := (HSS.out _ (by (repeat (first | assumption | exact Sc.start _ | apply Sc.dr | apply Sc.alloc)))).grown hg3 (fun k hk => .inl (.inl hk))
             clear hown3 hob3 hg3))
      all_goals
        go_wp2
        go_roundw
        case rel =>
          obtain ⟨⟨D', hD'⟩, hB'⟩ := HF4.out
          exact ⟨k + 1, HKM.out, by go_num, ⟨D', N + 1, by have := HNK.out; omega, hD'⟩, hB'⟩
        case measure => simp [intOf]; have := HKM.out; omega
    · have hlt' : ¬ (k : Int) < (n : Int) := by omega
      have HKE : Hid (k = xs.length) := by rw [HN.out]; show _ = _; omega
      obtain ⟨D, N, _, hrows⟩ := HR.out.1
      rw [HKE.out] at hrows
      have HRO := hid hrows
      clear hrows
      go_wp2
      go_ret
      exact ⟨mm, N, D, rfl, by rw [← HMM.out]; exact HRO.out, HR.out.2⟩
end Go.Proofs.Ytkgfpnmifgifpaa
