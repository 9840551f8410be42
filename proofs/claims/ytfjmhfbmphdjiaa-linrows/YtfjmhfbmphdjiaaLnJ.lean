/-
  Package lin: byToken: a map of rows of sights, each in memory of its own.
-/
import Derived.Test.YtfjmhfbmphdjiaaLnI
import Derived.Deep.RegionHeld3
import Derived.Deep.RegionLaw
namespace Go.Proofs.Ytfjmhfbmphdjiaa
open Go.RowKit Go.Maps

/-- A map of rows of sights, what lies at each token told by f, no two of which lie in one block. -/
structure RowsN (B : Nat) (f : ByteArray → List Sn) (w : World) (m N : Nat) (D : DataW Value) : Prop where
  map : w.ownsMap Try.prog 9 valR m N D
  row : ∀ s v, look D (key s) = some v → w.ownsRow B 31 5 v (f s).length (flatN (f s))
  no : ∀ s, look D (key s) = none → f s = []
  apart : ∀ s t v u, s ≠ t → look D (key s) = some v → look D (key t) = some u → ∀ g, v.ownBlock = some g → u.ownBlock ≠ some g
def updN (f : ByteArray → List Sn) (x : Sn) : ByteArray → List Sn := fun t => if t = x.tok then f t ++ [x] else f t
section
variable {B m N : Nat} {f : ByteArray → List Sn} {w w' : World} {D : DataW Value}
theorem RowsN.below (h : RowsN B f w m N D) (hb : Below w.heap.size w w') : RowsN B f w' m N D := by
  have ht : Turns (fun _ => False) w w' := Turns.of_below hb (Nat.le_refl _)
  exact ⟨ht.map h.map (fun h => h), fun s v hv => ht.row (h.row s v hv) (fun _ _ h => h), h.no, h.apart⟩
theorem RowsN.new (B : Nat) (w : World) : RowsN B (fun _ => []) (w.alloc (.map #[] 0)) w.heap.size 0 (.map []) :=
  ⟨World.ownsMap_made w _ _ _, fun s v hv => (by rw [look_empty] at hv; cases hv), fun _ _ => rfl, fun s t v u _ hv => (by rw [look_empty] at hv; cases hv)⟩
theorem Try.zeroSns (w : World) : (zeroValue 22).run Try.prog w = .ok (.slice none 0 0) w := by kernel_rfl
/-- What lies at a token. -/
theorem RowsN.at (h : RowsN B f w m N D) (s : ByteArray) : ∃ v, (look D (key s)).getD (.slice none 0 0) = v ∧ w.ownsRow B 31 5 v (f s).length (flatN (f s)) := by
  cases hl : look D (key s) with
  | none => exact ⟨_, rfl, by rw [h.no s hl]; exact World.ownsRow_nil _ _ _ _⟩
  | some v => exact ⟨v, rfl, h.row s v hl⟩
theorem RowsN.lookup (h : RowsN B f w m N D) {s : ByteArray} (hs : s.size ≤ maxLen) {v : Value} (hv : (look D (key s)).getD (.slice none 0 0) = v) : (Instr.lookup 50 (.map (some m)) (.string s) false).run Try.prog w = .ok v w := by
  have := run_look h.map Try.keyedStr Try.underlying50 (Try.zeroSns w) (Try.keyStr hs)
  rw [hv] at this
  exact this
/-- The map with a token's row that has one more. -/
theorem RowsN.put (h : RowsN B f w m N D) (hN : N < maxLen) {x : Sn} (hs : x.tok.size ≤ maxLen) {v v' : Value} (hv : (look D (key x.tok)).getD (.slice none 0 0) = v) {W : World} {q : Nat} (hq : w.heap.size ≤ q) (hg : Turns (fun i => v.ownBlock = some i) w W) (hmb : some m ≠ v.ownBlock)
    (hob : v'.ownBlock = v.ownBlock ∨ v'.ownBlock = some q) (hrow : W.ownsRow B 31 5 v' (f x.tok ++ [x]).length (flatN (f x.tok ++ [x]))) :
    ∃ w2, (Instr.mapUpdate 50 (.map (some m)) (.string x.tok) v').run Try.prog W = .ok () w2 ∧ (∃ D', RowsN B (updN f x) w2 m (N + 1) D') ∧ Turns (fun i => i = m) W w2 := by
  have hmW : W.ownsMap Try.prog 9 valR m N D := hg.map h.map (fun e => hmb e.symm)
  obtain ⟨w2, hrun, hown, hturn⟩ := hmW.store Try.keyedStr Try.underlying50 hN (Try.keyStr hs) (show valR v' = some (.held v', []) from rfl)
  have ht2 : Turns (fun i => i = m) W w2 := Turns.of_grown (F := fun i => i = m) hturn.grown (fun k hk => by cases hk; rfl)
  have hold : ∀ t u, t ≠ x.tok → look D (key t) = some u → ∀ g, v.ownBlock = some g → u.ownBlock ≠ some g := by
    intro t u ht hu g hg1 hg2
    cases hl : look D (key x.tok) with
    | none =>
      rw [hl] at hv
      subst hv
      cases hg1
    | some v0 =>
      rw [hl] at hv
      cases hv
      exact h.apart x.tok t _ u (Ne.symm ht) hl hu g hg1 hg2
  have hnm : ∀ {W' : World} {u : Value} {n : Nat} {ys : List Value}, W'.ownsMap Try.prog 9 valR m N D → W'.ownsRow B 31 5 u n ys → ∀ g, u.ownBlock = some g → ¬ g = m := fun hm hr g hg1 e => row_not_map hr hm (by rw [hg1, e])
  refine ⟨w2, hrun, ⟨_, hown, fun t u hu => ?_, fun t hu => ?_, fun t t' u u' hne hu hu' g hg1 hg2 => ?_⟩, ht2⟩
  · unfold updN
    by_cases e : t = x.tok
    · subst e
      rw [look_put_same hmW.isMap (Try.keyedStr.key (Try.keyStr hs))] at hu
      cases hu
      rw [if_pos rfl]
      exact ht2.row hrow (hnm hmW hrow)
    · rw [look_put_other (fun k => e (key_inj k))] at hu
      have h3 := h.row t u hu
      have h4 : W.ownsRow B 31 5 u (f t).length (flatN (f t)) := hg.row h3 (fun g hg1 hg2 => hold t u e hu g hg2 hg1)
      rw [if_neg e]
      exact ht2.row h4 (hnm hmW h4)
  · unfold updN
    by_cases e : t = x.tok
    · subst e
      rw [look_put_same hmW.isMap (Try.keyedStr.key (Try.keyStr hs))] at hu
      cases hu
    · rw [look_put_other (fun k => e (key_inj k))] at hu
      rw [if_neg e]
      exact h.no t hu
  · have key1 : ∀ r z, r ≠ x.tok → look D (key r) = some z → ∀ g, v'.ownBlock = some g → z.ownBlock ≠ some g := by
      intro r z hr hz g hg1 hg2
      rcases hob with hob | hob
      · exact hold r z hr hz g (hob ▸ hg1) hg2
      · rw [hob] at hg1
        cases hg1
        have := ((h.row r z hz).lt _ hg2).2
        omega
    by_cases e : t = x.tok
    · subst e
      rw [look_put_same hmW.isMap (Try.keyedStr.key (Try.keyStr hs))] at hu
      cases hu
      rw [look_put_other (fun k => hne (key_inj k).symm)] at hu'
      exact key1 t' u' (Ne.symm hne) hu' g hg1 hg2
    · rw [look_put_other (fun k => e (key_inj k))] at hu
      by_cases e' : t' = x.tok
      · subst e'
        rw [look_put_same hmW.isMap (Try.keyedStr.key (Try.keyStr hs))] at hu'
        cases hu'
        exact key1 t u e hu g hg2 hg1
      · rw [look_put_other (fun k => e' (key_inj k))] at hu'
        exact h.apart t t' u u' hne hu hu' g hg1 hg2
end
/-- append of one sight to a row, in a region that draws its order. -/
theorem step_append_sn {ops : Array Oper} {o : Oper} {a : Act} {w : World} {K : Act → World → Prop} {Q : Exit → Act → World → Prop} {E : Prop} (hgd : o.guard = none) (s x : Operand)
    (ho : o.op = .call { callee := .builtin .append, args := #[s, x], argTypes := #[22, 22] })
    (base : Nat) (v : Value) (ds : List Sn) (hs : a.eval s = v) (hown : w.ownsRow base 31 5 v ds.length (flatN ds))
    (g : Nat) (y : Sn) (hx : a.eval x = .slice (some ⟨g, 0, none⟩) 1 1) (hh : Blk w g 31 y.cells) (hsum : ds.length < 2932031007402) (hbase : base ≤ w.heap.size)
    (h : ∀ v' w', w'.ownsRow base 31 5 v' (ds ++ [y]).length (flatN (ds ++ [y])) → w.grownBy w' v.ownBlock → (v'.ownBlock = v.ownBlock ∨ v'.ownBlock = some w.heap.size) → K (a.put o.dst v') w') :
    if Region.wanted o (yielded ops a.tmps) = true then Oper.wp Try.prog o a w K Q else E := by
  have hw : Region.wanted o (yielded ops a.tmps) = true := by simp [Region.wanted, hgd]
  rw [if_pos hw]
  obtain ⟨iI, hj, hy0, hy1, hy2⟩ := info_parts Try.infoSn
  obtain ⟨v', w', hr, hown', hgrow, _, hb⟩ := run_append_own_at (P := Try.prog) w base 22 o.type 31 iI _ 5 48 Try.underlying22 hj hy0 hy1 hy2 rfl (by decide) v ds.length (flatN ds) hown ⟨g, 0, none⟩ 1 1 y.cells rfl (fun j u hu => by rw [Addr.add_lit, Nat.zero_add]; exact hh.cell hu) (sn_one y) (by unfold maxLen; omega) (by omega) hbase
  unfold Oper.wp execOp
  simp only [ho, resolve, invoke, builtin, Sem.run_bind, Sem.run_pure, Result.andThen_ok, List.map_toArray, List.map_cons, List.map_nil, hs, hx, hr]
  refine h v' w' ?_ hgrow hb
  rw [flatN_snoc, List.length_append]
  exact hown'
/-- The sights of a token. -/
def ofT (xs : List Sn) (t : ByteArray) : List Sn := xs.filter fun s => decide (s.tok = t)
theorem ofT_len (xs : List Sn) (t : ByteArray) : (ofT xs t).length ≤ xs.length := List.length_filter_le _ _
theorem ofT_take {xs : List Sn} {k : Nat} (hk : k < xs.length) : ofT (xs.take (k + 1)) = updN (ofT (xs.take k)) xs[k] := by
  funext t
  unfold ofT updN
  rw [List.take_succ_eq_append_getElem hk, List.filter_append]
  by_cases h : t = xs[k].tok
  · rw [if_pos h]
    simp [h]
  · rw [if_neg h]
    have : ¬ xs[k].tok = t := fun e => h e.symm
    simp [this]
/-- What byToken leaves. -/
def ByTok (w : World) (xs : List Sn) (e : Ending) (w' : World) : Prop := ∃ m N D, e = .returned (.map (some m)) ∧ RowsN w.heap.size (ofT xs) w' m N D ∧ Below w.heap.size w w'
set_option maxRecDepth 1000000 in
set_option maxHeartbeats 4000000 in
theorem byToken_any (w : World) (ao : Option Addr) (cap : Nat) (xs : List Sn) (n : Nat) (hn : xs.length = n) (h : HeldSn w ao xs) (hl : n ≤ 2932031007402) :
    Calls Try.prog 33 #[.slice ao n cap] w (ByTok w xs) := by
  have hmm := @run_makeMap Try.prog
  have HN := hid hn
  have H := hid h
  have HLN := hid hl
  obtain ⟨W0, hW0⟩ : ∃ W, W = w.alloc (.map #[] 0) := ⟨_, rfl⟩
  have HB0 : Hid (Below w.heap.size w W0) := by rw [hW0]; exact one_new _ _
  have HM0 : Hid (RowsN w.heap.size (ofT (xs.take 0)) W0 w.heap.size 0 (.map [])) := by rw [hW0]; exact RowsN.new _ w
  have HW0 := hid hW0
  clear hn h hW0
  go_enter Try.func33, Try.ntmps33
  go_wp2
  rw [← HW0.out]
  obtain ⟨mm, hmmm⟩ : ∃ p, p = w.heap.size := ⟨_, rfl⟩
  rw [← hmmm] at HM0 ⊢
  have HMM := hid hmmm
  clear hmmm
  go_loopw [5, 9] (fun _ i wr => ∃ k : Nat, k ≤ n ∧ i = .int .i64 k ∧ Hid ((∃ D N, N ≤ k ∧ RowsN mm (ofT (xs.take k)) wr mm N D) ∧ Below w.heap.size w wr)) (fun _ i _ => n - (intOf i).toNat)
  case atStart => exact ⟨0, Nat.zero_le _, rfl, ⟨_, 0, Nat.le_refl _, HM0.out⟩, HB0.out⟩
  case round =>
    obtain ⟨k, hk, rfl, HR⟩ := hrel
    by_cases hlt : k < n
    · have hlt' : (k : Int) < (n : Int) := by omega
      have hkx : Hid (k < xs.length) := (by rw [HN.out]; exact hlt : k < xs.length)
      obtain ⟨bb, off, hao, hbb, g0, g1, g2, g3, g4⟩ := (H.out.below HR.out.2).at hkx.out
      have HKM : Hid (k + 1 ≤ n) := (by omega : k + 1 ≤ n)
      have HOX := hid (H.out.1 _ (List.getElem_mem hkx.out))
      have HTK := hid (ofT_take hkx.out)
      obtain ⟨D, N, hNk, hrows⟩ := HR.out.1
      subst hao
      obtain ⟨X, HX⟩ : ∃ X, Hid (xs[k]'hkx.out = X) := ⟨_, hid rfl⟩
      rw [HX.out] at g0 g1 g2 g3 g4 HOX HTK
      obtain ⟨f, HFF⟩ : ∃ f, Hid (ofT (xs.take k) = f) := ⟨_, hid rfl⟩
      have HFL : Hid (∀ t, (f t).length ≤ k) := fun t => by
        rw [← HFF.out]
        have := ofT_len (xs.take k) t
        rw [List.length_take] at this
        omega
      rw [HFF.out] at HTK hrows
      obtain ⟨co, tok, sb, se, id⟩ := X
      simp only at g0 g1 g2 g3 g4
      obtain ⟨W1, hW1⟩ : ∃ W, W = wr.alloc (.cells #[.bool co, .string tok, .int .i64 sb, .int .i64 se, .int .i64 id] 31) := ⟨_, rfl⟩
      have HB1 : Hid (Below wr.heap.size wr W1) := by rw [hW1]; exact one_new _ _
      have HK1 : Hid (Blk W1 wr.heap.size 31 [.bool co, .string tok, .int .i64 sb, .int .i64 se, .int .i64 id]) := by rw [hW1]; exact Blk.new wr _ _
      have hr1 := hrows.below HB1.out
      obtain ⟨v, hv, hdo⟩ := hr1.at tok
      have HLT : Hid (∀ g, v.ownBlock = some g → g < wr.heap.size) := by
        intro g hg
        obtain ⟨v', hv', hdo'⟩ := hrows.at tok
        rw [hv] at hv'
        subst hv'
        exact (hdo'.lt g hg).2
      have HCS : Hid (tok.size ≤ maxLen) := HOX.out.ht
      have HR1 := hid hr1
      have HVV := hid hv
      have HDO := hid hdo
      have HNK := hid hNk
      have HMV : Hid (some mm ≠ v.ownBlock) := row_not_map hdo hr1.map
      have HPL : Hid (wr.heap.size < W1.heap.size) := HK1.out.lt
      have HSA : Hid (∀ V, Turns (fun i => v.ownBlock = some i ∨ i = mm) W1 V → (Turns (fun i => v.ownBlock = some i ∨ i = mm) W1 V ∧ V.cell? ⟨wr.heap.size, 0, none⟩ = some (.bool co) ∧ V.cell? ⟨wr.heap.size, 1, none⟩ = some (.string tok) ∧ V.cell? ⟨wr.heap.size, 2, none⟩ = some (.int .i64 sb) ∧ V.cell? ⟨wr.heap.size, 3, none⟩ = some (.int .i64 se) ∧ V.cell? ⟨wr.heap.size, 4, none⟩ = some (.int .i64 id))) := by
        intro V hV
        have hb := hV.blk HK1.out (fun e => by
          rcases e with e | e
          · have := HLT.out _ e
            omega
          · exact HK1.out.not_map HR1.out.map e)
        exact ⟨hV, hb.cell rfl, hb.cell rfl, hb.cell rfl, hb.cell rfl, hb.cell rfl⟩
      have HLK : Hid (∀ V, ScS W1 V → (Instr.lookup 50 (.map (some mm)) (.string tok) false).run Try.prog V = .ok v V) := fun V hV => (HR1.out.below hV.out).lookup HCS.out HVV.out
      have hlk1 := HLK.out _ (ScS.start W1).dr
      have hlk2 := fun o => HLK.out _ ((ScS.start W1).dr.alloc o)
      have hlk3 := fun o => HLK.out _ ((ScS.start W1).alloc o).dr
      have HW1 := hid hW1
      clear hW1 hbb hr1 hrows hNk hv hdo
      go_wp2
      rw [← HW1.out]
      obtain ⟨p, hp⟩ : ∃ p, p = wr.heap.size := ⟨_, rfl⟩
      rw [← hp] at HK1 HSA HPL HLT ⊢
      have HPP := hid hp
      clear hp
      have HBK : Hid (∀ V : World, Blk (V.alloc (.cells #[.bool co, .string tok, .int .i64 sb, .int .i64 se, .int .i64 id] 31)) V.heap.size 31 (Sn.cells ⟨co, tok, sb, se, id⟩)) := fun V => Blk.new V _ _
      have HRW : Hid (∀ V, ScS W1 V → V.ownsRow mm 31 5 v (f tok).length (flatN (f tok))) := fun V hV => (Turns.of_below (F := fun _ => False) hV.out (Nat.le_refl _)).row HDO.out (fun _ _ h => h)
      have HPUT : Hid (∀ U V v', ScS W1 U → U.grownBy V v.ownBlock → (v'.ownBlock = v.ownBlock ∨ v'.ownBlock = some U.heap.size) → V.ownsRow mm 31 5 v' (f tok ++ [(⟨co, tok, sb, se, id⟩ : Sn)]).length (flatN (f tok ++ [(⟨co, tok, sb, se, id⟩ : Sn)])) →
          ∃ w2, (Instr.mapUpdate 50 (.map (some mm)) (.string tok) v').run Try.prog V = .ok () w2 ∧ Hid ((∃ D', RowsN mm (updN f ⟨co, tok, sb, se, id⟩) w2 mm (N + 1) D') ∧ Below w.heap.size w w2) ∧ Turns (fun i => v.ownBlock = some i ∨ i = mm) W1 w2) := fun U V v' hU hg hob hrow => by
        have hT : Turns (fun i => v.ownBlock = some i) W1 V := (Turns.of_below hU.out (Nat.le_refl _)).grown hg (fun k hk => .inl hk)
        obtain ⟨w2, h1, h2, h3⟩ := HR1.out.put (x := ⟨co, tok, sb, se, id⟩) (by have := HNK.out; have := HLN.out; unfold maxLen; omega) HCS.out HVV.out hU.size hT HMV.out hob hrow
        refine ⟨w2, h1, ⟨h2, ?_⟩, (hT.mono (fun i hi => .inl hi)).trans h3 (fun i hi => .inl (.inr hi))⟩
        have hbw : Below w.heap.size w W1 := bt' HR.out.2 HB1.out
        have hwm : w.heap.size ≤ mm := by rw [HMM.out]; exact Nat.le_refl _
        exact (hbw.trans (hT.below (fun i hi => by have := (HDO.out.lt i hi).1; omega) hbw.size)).trans (h3.below (fun i hi => by rw [hi]; exact hwm) (Nat.le_trans hbw.size hT.size))
      have HSS : Hid (∀ V, ScS W1 V → Turns (fun i => v.ownBlock = some i ∨ i = mm) W1 V) := fun V hV => Turns.of_below hV.out (Nat.le_refl _)
      have HDL2 : Hid ((f tok).length < 2932031007402) := by have := HFL.out tok; have := HLN.out; show _ < _; omega
      have HMS : Hid (mm ≤ W1.heap.size) := by have := (bt' HR.out.2 HB1.out).size; rw [HMM.out]; exact this
      go_region_held3 (fun V => Turns (fun i => v.ownBlock = some i ∨ i = mm) W1 V ∧ V.cell? ⟨p, 0, none⟩ = some (.bool co) ∧ V.cell? ⟨p, 1, none⟩ = some (.string tok) ∧ V.cell? ⟨p, 2, none⟩ = some (.int .i64 sb) ∧ V.cell? ⟨p, 3, none⟩ = some (.int .i64 se) ∧ V.cell? ⟨p, 4, none⟩ = some (.int .i64 id))
        (first | (refine ⟨?_, ?_, ?_, ?_, ?_, ?_⟩ <;> assumption) | (refine HSA.out _ ?_; first | assumption | (refine HSS.out _ ?_; (repeat (first | assumption | exact ScS.start _ | apply ScS.dr | apply ScS.alloc)))))
        (first
          | (refine step_append_sn rfl _ _ rfl mm v (f tok) rfl ?_ _ ⟨co, tok, sb, se, id⟩ rfl ?_ HDL2.out ?_ ?_
             · refine HRW.out _ ?_; (repeat (first | assumption | exact ScS.start _ | apply ScS.dr | apply ScS.alloc))
             · first | exact HBK.out _ | exact (HBK.out _).drew
             · refine Nat.le_trans HMS.out (ScS.size ?_); (repeat (first | assumption | exact ScS.start _ | apply ScS.dr | apply ScS.alloc))
             intro v' w3 hown3 hg3 hob3
             obtain ⟨w4, hrun4, HF4, hT4⟩ := HPUT.out _ _ _ (by (repeat (first | assumption | exact ScS.start _ | apply ScS.dr | apply ScS.alloc))) hg3 hob3 hown3
             have hT3 := (HSS.out _ (by (repeat (first | assumption | exact ScS.start _ | apply ScS.dr | apply ScS.alloc)))).grown hg3 (fun k hk => .inl (.inl hk))
             clear hown3 hob3 hg3))
      all_goals
        go_wp2
        go_roundw
        case rel =>
          obtain ⟨⟨D', hD'⟩, hB'⟩ := HF4.out
          exact ⟨k + 1, HKM.out, by go_num, ⟨D', N + 1, by have := HNK.out; omega, by rw [HTK.out]; exact hD'⟩, hB'⟩
        case measure => simp [intOf]; have := HKM.out; omega
    · have hlt' : ¬ (k : Int) < (n : Int) := by omega
      have HKE : Hid (xs.take k = xs) := List.take_of_length_le (by have := HN.out; omega)
      obtain ⟨D, N, _, hrows⟩ := HR.out.1
      rw [HKE.out] at hrows
      have HRO := hid hrows
      clear hrows
      go_wp2
      go_ret
      exact ⟨mm, N, D, rfl, by rw [← HMM.out]; exact HRO.out, HR.out.2⟩
end Go.Proofs.Ytfjmhfbmphdjiaa
