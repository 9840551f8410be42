/-
  Package oplog: events collected in a range over a function: append in a fence, and what lies between two rounds (for After).
-/
import Derived.Test.YtcammngbhnhjjaaLogP
import Derived.Test.YtcammngbhnhjjaaLogQ
namespace Go.Proofs.Ytcammngbhnhjjaa
open Go.RowKit Go.Shelf Go.Maps

/-- append(out, e) in a fence. -/
theorem wpListIn_append_ev {F : Fence} {n : Nat} {ops : Array Oper} {rest : List Oper} {o : Oper} {a : Act} {Q : Exit → Act → World → Prop} (W0 W : World) (x : EvM) (hW : W = W0.alloc (.cells x.cells.toArray 33)) (hgd : o.guard = none) (s xx : Operand)
    (ho : o.op = .call { callee := .builtin .append, args := #[s, xx], argTypes := #[22, 22] }) (B : Nat) (v : Value) (ds : List EvM)
    (hs : a.eval s = v) (hx : a.eval xx = .slice (some ⟨W0.heap.size, 0, none⟩) 1 1) (hown : W0.ownsRow B 33 8 v ds.length (flatE ds)) (hB : B ≤ W0.heap.size) (hl : ds.length ≤ 1000000)
    (h : ∀ v' w', w'.ownsRow B 33 8 v' (ds ++ [x]).length (flatE (ds ++ [x])) → Below B W0 w' → W.grownBy w' v.ownBlock → wpListIn F n Try.prog ops Q rest (a.put o.dst v') w') :
    wpListIn F n Try.prog ops Q (o :: rest) a W := by
  subst hW
  obtain ⟨iI, hj, hy0, hy1, hy2⟩ := info_parts Try.infoEv
  have hn := Blk.new W0 33 x.cells
  refine wpListIn_append_own _ hgd s xx 22 ho B 33 iI _ 8 96 Try.underlying22 hj hy0 hy1 hy2 rfl (by decide) v ds.length (flatE ds) hs (hown.alloc _) ⟨W0.heap.size, 0, none⟩ 1 1 x.cells hx rfl (fun j u hu => ?_) (ev_one x) (by unfold maxLen; omega) (by omega) (by simp; omega) ?_
  · rw [Addr.add_lit, Nat.zero_add]
    exact hn.cell hu
  · intro v' w' hown' hgrow _
    refine h v' w' ?_ (((Below.refl _ _).alloc hB _).grown hgrow (by simp; omega) (fun k hk => (hown.lt k hk).1)) hgrow
    rw [flatE_snoc, List.length_append]
    exact hown'
/-- An event stays where a block that holds no cells is turned. -/
theorem EvKeep.noCells {V V' : World} {x : EvM} {row : Option Nat} (h : EvKeep V x) (hg : V.grownBy V' row) (hr : ∀ r, row = some r → ∃ o : Obj, V.heap[r]? = some o ∧ o.isCells = false) : EvKeep V' x := by
  have ht : Turns (fun i => row = some i) V V' := Turns.of_grown hg (fun _ h => h)
  have ho : ∀ b off, x.ao = some ⟨b, off, none⟩ → x.e.deps ≠ [] → ¬ row = some b := by
    intro b off e hne hc
    obtain ⟨o, ho, hoc⟩ := hr b hc
    rcases h.ok.deps.held.2 with h0 | ⟨b', off', e', _, hcell⟩
    · exact hne h0
    · rw [e] at e'
      cases e'
      have h1 := hcell 0 (List.length_pos_iff.2 hne)
      simp only [World.cell?, ho] at h1
      cases o <;> simp_all [Obj.isCells]
  exact ⟨⟨⟨h.ok.deps.held.turned ht ho, h.ok.deps.room, h.ok.deps.few⟩, h.ok.io, h.ok.is, h.ok.ie, h.ok.iq, h.ok.hc, h.ok.hs⟩, h.ne.stay h.ok.deps.held ht ho⟩
/-- What lies between two rounds: the box at eb holds the row of what has come. -/
def CollE (w : World) (eb : Nat) (pre : List EvM) (V : World) : Prop := ∃ eo cap, Boxed V eb 22 (.slice eo pre.length cap) ∧ RowE eb V (.slice eo pre.length cap) pre ∧ Below w.heap.size w V
theorem collE_own (w : World) (eb B : Nat) (hB : w.heap.size ≤ B) : OwnFrom B (CollE w eb) := fun pre V V' row ⟨eo, cap, h1, h2, h3⟩ hg hr => by
  have hne : ∀ g, (∃ cs t, V.heap[g]? = some (.cells cs t (0, 0))) → some g ≠ row := fun g ⟨cs, t, hc⟩ e => by
    obtain ⟨_, o, ho, hoc⟩ := hr g e.symm
    rw [hc] at ho
    cases ho
    cases hoc
  refine ⟨eo, cap, h1.kept hg (hne eb ⟨_, _, h1⟩), ⟨?_, fun y hy => (h2.keep y hy).noCells hg (fun r e => (hr r e).2)⟩, h3.grown hg h3.size (fun k e => Nat.le_trans hB (hr k e).1)⟩
  refine (Turns.of_grown (F := fun i => row = some i) hg (fun _ h => h)).row h2.row (fun g hgb e => ?_)
  rcases h2.row.2 with ⟨h0, _⟩ | ⟨g', c', cur, h0, _, hb, _⟩
  · rw [h0] at hgb
    simp [Value.ownBlock] at hgb
  · rw [h0] at hgb
    have : g' = g := by simpa [Value.ownBlock] using hgb
    subst this
    exact hne g' ⟨_, _, hb⟩ e.symm
end Go.Proofs.Ytcammngbhnhjjaa
/-
  Package oplog: After of a log.
-/
namespace Go.Proofs.Ytcammngbhnhjjaa
open Go.RowKit Go.Shelf Go.Maps
attribute [local go_sem] Oper.semAt_some

def AfterP (w : World) (g : Lg) (v : List Int) (m : Int) (e : Ending) (w' : World) : Prop := ∃ r xs, e = .returned r ∧ RowE w.heap.size w' r xs ∧ xs.map (·.e) = (evL v g).take m.toNat ∧ Below w.heap.size w w'
set_option maxRecDepth 100000 in
set_option maxHeartbeats 4000000 in
theorem after_any {w : World} {p me mw : Nat} {g : Lg} (h : LogAt w p me mw g) (vo : Option Addr) (vc : Nat) (v : List Int) (hv : HV w vo vc v) (kl : Nat) (hkl : v.length = kl) (m : Int) (hlen : (evL v g).length ≤ 65536) :
    Calls Try.prog 19 #[.pointer (some ⟨p, 0, none⟩), .slice vo kl vc, .int .i64 m] w (AfterP w g v m) := by
  refine (callsIn_wide (n := 5)).1 ?_
  obtain ⟨W0, hW0⟩ : ∃ W0, W0 = (w.alloc (.cells #[.int .i64 m] 3)).alloc (.cells #[.slice none 0 0] 22) := ⟨_, rfl⟩
  have HA : Hid (Below w.heap.size w W0) := by rw [hW0]; exact ((Below.refl _ w).alloc (Nat.le_refl _) _).alloc (by simp) _
  have HM : Hid (Boxed W0 w.heap.size 3 (.int .i64 m)) := by rw [hW0]; exact (Boxed.new w 3 _).alloc _
  have HR : Hid (Boxed W0 (w.heap.size + 1) 22 (.slice none 0 0)) := by
    have := Boxed.new (w.alloc (.cells #[.int .i64 m] 3)) 22 (.slice none 0 0)
    rw [World.size_alloc] at this
    rw [hW0]
    exact this
  have HS0 : Hid (W0.heap.size = w.heap.size + 2) := by show _ = _; rw [hW0]; simp
  have HH := hid h
  have HVV := hid hv
  clear h hv
  refine callsIn_of_wp_marks Try.func19 rfl trivial ?_ rfl
  simp only [Try.ntmps19, List.size_toArray, List.length_cons, List.length_nil, Nat.reduceAdd, Nat.reduceSub, Array.replicate_succ, Array.replicate_zero, List.push_toArray, List.append_toArray, List.nil_append, List.cons_append]
  gi_wp2_with fail
  rw [← hW0]
  clear hW0
  refine ⟨trivial, (callsIn_wide.2 (since_any W0 (some ⟨p, 0, none⟩) vo kl vc)).mono ?_⟩
  rintro e w1 ⟨rfl, hw1⟩
  obtain ⟨hx0, hb⟩ := since_boxes _ _ _ hw1
  have hx1 : Boxed w1 (W0.heap.size + 1) 26 (.slice vo v.length vc) := by
    have := Boxed.new (W0.alloc (.cells #[.pointer (some ⟨p, 0, none⟩)] 23)) 26 (.slice vo kl vc)
    rw [World.size_alloc] at this
    rw [hw1, hkl]
    exact this
  have HS1 : Hid (w1.heap.size = w.heap.size + 4) := by show _ = _; rw [hw1]; simp; have := HS0.out; omega
  have HA1 := hid (bt HA.out hb)
  have HM1 : Hid (Boxed w1 w.heap.size 3 (.int .i64 m)) := (hb.block _ HM.out.lt).trans HM.out
  have HR1 : Hid (Boxed w1 (w.heap.size + 1) 22 (.slice none 0 0)) := (hb.block _ HR.out.lt).trans HR.out
  have HX0 := hid hx0
  have HX1 := hid hx1
  obtain ⟨Fo, hFo⟩ : ∃ Fo : Nat → Prop, Fo = fun j => j = w.heap.size + 1 ∨ j = w1.heap.size + 1 := ⟨_, rfl⟩
  have HSEQ : Hid (∀ r, SeqAt Fence.wide 4 Try.prog (w1.heap.size + 1) 43 #[.pointer (some ⟨W0.heap.size, 0, none⟩), .pointer (some ⟨W0.heap.size + 1, 0, none⟩)] (fun x : EvM => #[x.val]) (Ke Fo)
      (fun pre x V => pre.map (·.e) ++ [x.e] <+: evL v g ∧ EvKeep V x) (fun xs => xs.map (·.e) = evL v g) (fun pre => pre.map (·.e) <+: evL v g) ((w1.alloc (.deferred (some []))).alloc (.loop r))) := fun r => by
    have hbr : Below w1.heap.size w1 ((w1.alloc (.deferred (some []))).alloc (.loop r)) := ((Below.refl _ _).alloc (Nat.le_refl _) _).alloc (by simp) _
    have s0 := HS0.out
    have s1 := HS1.out
    refine since_at 4 (by omega) _ HH.out (bt HA1.out hbr) W0.heap.size (W0.heap.size + 1) ((hbr.block _ HX0.out.lt).trans HX0.out) vo vc v ((hbr.block _ HX1.out.lt).trans HX1.out) ((HVV.out.below HA1.out).below hbr) Fo ?_ ?_ ?_ ?_
    · intro j hj
      rw [hFo] at hj
      simp
      omega
    · intro i hi hj
      rw [hFo] at hj
      have := HH.out.lt i hi
      omega
    · rintro i ⟨hj, hl⟩
      rw [hFo] at hj
      omega
    · intro hj
      rw [hFo] at hj
      omega
  clear hw1 hb hx0 hx1 HA HR HM
  gi_wp2
  apply wpIn_rangeFunc_Gb (encs := fun x : EvM => #[x.val]) (Kp := Ke Fo) (G := fun pre x V => pre.map (·.e) ++ [x.e] <+: evL v g ∧ EvKeep V x) (S := fun xs => xs.map (·.e) = evL v g) (Sp := fun pre => pre.map (·.e) <+: evL v g) rfl (by omega) (gf := 43) (lb := #[.pointer (some ⟨W0.heap.size, 0, none⟩), .pointer (some ⟨W0.heap.size + 1, 0, none⟩)]) rfl trivial (enters_of Try.func43 (by kernel_rfl) rfl) HSEQ.out
    (I := fun pre V => CollE w (w.heap.size + 1) pre V ∧ Boxed V w.heap.size 3 (.int .i64 m) ∧ pre.length ≤ m.toNat ∧ pre.map (·.e) <+: evL v g ∧ w1.heap.size ≤ V.heap.size)
    (Ix := fun c pre V => c = .exit 0 ∧ ∃ qs x, pre = qs ++ [x] ∧ CollE w (w.heap.size + 1) qs V ∧ qs.length = m.toNat ∧ w1.heap.size ≤ V.heap.size)
    (X := fun pre x V => pre.map (·.e) ++ [x.e] <+: evL v g ∧ EvKeep V x) (Bx := fun x => x.cells) (t := 33)
  case hKt => exact fun h k => Ke.trans h k
  case hKb =>
    intro V r r' _
    exact Turns.of_grown (grownBy_putObj' V _ _) (fun j e => by cases e; exact .inl (by rw [hFo]; exact .inr rfl))
  case hps => exact fun _ => rfl
  case hI =>
    rintro pre V V' row ⟨h1, h2, h3, h4, h5⟩ hg hr
    exact ⟨collE_own w _ _ HA1.out.size pre V V' row h1 hg hr, h2.kept hg (fun e => by obtain ⟨_, o, ho, hc⟩ := hr _ e.symm; rw [show V.heap[w.heap.size]? = _ from h2] at ho; cases ho; cases hc), h3, h4, Nat.le_trans h5 hg.size⟩
  case hIx =>
    rintro c pre V V' row ⟨hc, qs, x, e, h1, h2, h3⟩ hg hr
    exact ⟨hc, qs, x, e, collE_own w _ _ HA1.out.size qs V V' row h1 hg hr, h2, Nat.le_trans h3 hg.size⟩
  case h0 => exact ⟨⟨none, 0, HR1.out, ⟨⟨rfl, .inl ⟨rfl, rfl⟩⟩, fun y hy => (by cases hy)⟩, HA1.out⟩, HM1.out, Nat.zero_le _, List.nil_prefix, Nat.le_refl _⟩
  case hX =>
    rintro pre x _ V V' row ⟨h1, h2⟩ hg hr
    exact ⟨h1, h2.noCells hg (fun r e => (hr r e).2)⟩
  case hassign =>
    rintro l' pre x V K hlt ⟨h1, h2, h3, h4, h5⟩ ⟨hG, hG2⟩ hK
    obtain ⟨gg, hgg⟩ : ∃ z, z = V.heap.size := ⟨_, rfl⟩
    have hba : Below V.heap.size V (V.alloc (.cells x.cells.toArray 33)) := (Below.refl _ _).alloc (Nat.le_refl _) _
    have hbk : Blk (V.alloc (.cells x.cells.toArray 33)) gg 33 x.cells := by rw [hgg]; exact Blk.new V _ _
    have HI : Hid (KeptAs w1.heap.size V (V.alloc (.cells x.cells.toArray 33)) ∧ Ke Fo V (V.alloc (.cells x.cells.toArray 33)) ∧ (CollE w (w.heap.size + 1) pre (V.alloc (.cells x.cells.toArray 33)) ∧ Boxed (V.alloc (.cells x.cells.toArray 33)) w.heap.size 3 (.int .i64 m) ∧ pre.length ≤ m.toNat ∧ pre.map (·.e) <+: evL v g ∧ w1.heap.size ≤ (V.alloc (.cells x.cells.toArray 33)).heap.size) ∧ (pre.map (·.e) ++ [x.e] <+: evL v g ∧ EvKeep (V.alloc (.cells x.cells.toArray 33)) x) ∧ w1.heap.size ≤ gg) :=
      ⟨⟨hba.block _ hlt, hba.block _ (by omega)⟩, Ke.below hba, ⟨(collE_own w _ w1.heap.size HA1.out.size).alloc _ h1, h2.alloc _, h3, h4, Nat.le_trans h5 hba.size⟩, ⟨hG, hG2.below hba⟩, by omega⟩
    have HBK := hid hbk
    have HGG := hid hgg
    clear hgg hba hbk h1 h2 h3 h4 h5 hG hG2 hlt
    gi_wp2
    rw [← HGG.out]
    exact hK gg (V.alloc (.cells x.cells.toArray 33)) HI.out.1 HI.out.2.1 HI.out.2.2.1 HI.out.2.2.2.1 HBK.out HI.out.2.2.2.2
  case hbody =>
    rintro l' pre x gg V ⟨rc, hkp⟩ ⟨⟨eo, cap, hbx, hrow, hbl⟩, hm, h3, h4, h5⟩ ⟨hG, hG2⟩ hbk hgl
    have hcb := hbx.cell
    have hfb := hbx.frozen
    have hcm := hm.cell
    have c0 := hbk.cell (i := 0) rfl
    have c1 := hbk.cell (i := 1) rfl
    have c2 := hbk.cell (i := 2) rfl
    have c3 := hbk.cell (i := 3) rfl
    have c4 := hbk.cell (i := 4) rfl
    have c5 := hbk.cell (i := 5) rfl
    have c6 := hbk.cell (i := 6) rfl
    have c7 := hbk.cell (i := 7) rfl
    obtain ⟨pl, HPL⟩ : ∃ z, Hid (pre.length = z) := ⟨_, hid rfl⟩
    rw [HPL.out] at hcb h3
    have hrow2 : RowE (w.heap.size + 1) V (.slice eo pl cap) pre := by rw [← HPL.out]; exact hrow
    have hbx2 : Boxed V (w.heap.size + 1) 22 (.slice eo pl cap) := by rw [← HPL.out]; exact hbx
    have HROW := hid hrow2
    have HBOX := hid hbx2
    have HBL := hid hbl
    have HMB := hid hm
    have HG := hid hG
    have HG2 := hid hG2
    have H5 := hid h5
    have H3 := hid h3
    have HKP := hid hkp
    have HFO := hid hFo
    have HSW : Hid (w.heap.size + 1 ≤ V.heap.size) := (by have := hbx2.lt; omega : w.heap.size + 1 ≤ V.heap.size)
    have HPS : Hid (pre.length ≤ 1000000) := by
      have h6 := h4.length_le
      simp at h6
      show _ ≤ _
      omega
    have HFV : Hid (∀ y : EvM, EvKeep V y → ∀ b off, y.ao = some ⟨b, off, none⟩ → y.e.deps ≠ [] → ¬ Fo b) := by
      intro y hy b off e hne hF
      rw [hFo] at hF
      rcases hy.ok.deps.held.2 with h0 | ⟨b', off', e', _, hcell⟩
      · exact hne h0
      · rw [e] at e'
        cases e'
        have h1 := hcell 0 (List.length_pos_iff.2 hne)
        rcases hF with rfl | rfl
        · have h7 : V.heap[w.heap.size + 1]? = some (.cells #[.slice eo pl cap] 22 (0, 0)) := hbx2
          simp only [World.cell?, h7] at h1
          rcases off with _ | off <;> simp at h1
        · have h7 := hkp.loop
          simp only [World.cell?, h7] at h1
          cases h1
    clear hbx hrow hrow2 hbx2 hbl hm hG hG2 h5 hkp hFo h4
    by_cases hmp : m ≤ (pl : Int)
    · gi_wp2
      exact ⟨KeptAs.refl _ _, Ke.refl _ _, rfl, pre, x, rfl, ⟨eo, cap, by rw [HPL.out]; exact HBOX.out, by rw [HPL.out]; exact HROW.out, HBL.out⟩, by have := HPL.out; have := H3.out; omega, H5.out⟩
    · gi_wp2_with (gi_at_builtin; refine wpListIn_append_ev V _ x rfl rfl _ _ rfl (w.heap.size + 1) _ pre rfl rfl HROW.out.row HSW.out HPS.out ?_)
      intro v' w' hown' hb' hgrow
      have hnr := (show Blk V (w.heap.size + 1) 22 [.slice eo pl cap] from HBOX.out).not_row (by decide) HROW.out.row
      have hbx' : Boxed w' (w.heap.size + 1) 22 (.slice eo pl cap) := (HBOX.out.alloc _).kept hgrow (fun e => hnr e)
      have hcb2 := hbx'.cell
      have hfb2 := hbx'.frozen
      obtain ⟨eo2, cap2, rfl⟩ := own_slice hown'
      have hl1 : (pre ++ [x]).length = pl + 1 := by simp [HPL.out]
      have HL1 := hid hl1
      have HBX' := hid hbx'
      have HOWN' := hid hown'
      have HNR := hid hnr
      have HGR := hid hgrow
      have HB' := hid hb'
      have HMP : Hid (pl + 1 ≤ m.toNat) := (by omega : pl + 1 ≤ m.toNat)
      clear hbx' hown' hb' hgrow hl1 hnr hmp
      gi_wp2
      obtain ⟨u, hu⟩ : ∃ u, u = Value.slice eo2 (pre.length + 1) cap2 := ⟨_, rfl⟩
      have hlx : (pre ++ [x]).length = pre.length + 1 := by simp
      have hevt : ∀ j, (Value.slice eo pl cap).ownBlock = some j → ∃ cur : Array Value, V.heap[j]? = some (.cells cur 33 (0, 0)) := by
        intro j hj
        rcases HROW.out.row.2 with ⟨h0, _⟩ | ⟨j', c', cur, h0, _, hb, _⟩
        · rw [h0] at hj
          simp [Value.ownBlock] at hj
        · rw [h0] at hj
          have : j' = j := by simpa [Value.ownBlock] using hj
          subst this
          exact ⟨_, hb⟩
      have hT : Ke Fo V (w'.setCell ⟨w.heap.size + 1, 0, none⟩ u) :=
        Turns.setCell (Turns.grown ((Turns.refl _ V).alloc _) HGR.out (fun j hj => .inl (.inr (by obtain ⟨cur, hc⟩ := hevt j hj; exact ⟨cur.toList, by simpa [Blk] using hc⟩)))) (p := ⟨w.heap.size + 1, 0, none⟩) (.inl (.inl (by rw [HFO.out]; exact .inl rfl))) _
      have hk1 : ∀ j o, V.heap[j]? = some o → o.isCells = false → j ≠ w.heap.size + 1 → (w'.setCell ⟨w.heap.size + 1, 0, none⟩ u).heap[j]? = V.heap[j]? := by
        intro j o ho hc hj
        have hlt : j < V.heap.size := (Array.getElem?_eq_some_iff.1 ho).1
        rw [Below.heap_setCell _ _ _ _ (by simpa using hj)]
        refine (HGR.out.block j (by simp; omega) (fun e => ?_)).trans (Below.heap_alloc _ _ _ hlt)
        obtain ⟨cur, hcu⟩ := hevt j e.symm
        rw [ho] at hcu
        cases hcu
        cases hc
      have s1 := HS1.out
      have hfin : roundG w1.heap.size (Ke Fo) (fun pre V => CollE w (w.heap.size + 1) pre V ∧ Boxed V w.heap.size 3 (.int .i64 m) ∧ pre.length ≤ m.toNat ∧ pre.map (·.e) <+: evL v g ∧ w1.heap.size ≤ V.heap.size) (fun c pre V => c = .exit 0 ∧ ∃ qs x, pre = qs ++ [x] ∧ CollE w (w.heap.size + 1) qs V ∧ qs.length = m.toNat ∧ w1.heap.size ≤ V.heap.size) (pre ++ [x]) V .normal { tmps := #[], defers := [] } (w'.setCell ⟨w.heap.size + 1, 0, none⟩ u) := by
        refine ⟨⟨hk1 _ _ HKP.out.loop rfl (by omega), hk1 _ _ HKP.out.calls rfl (by omega)⟩, hT, ⟨eo2, cap2, ?_, ⟨?_, fun y hy => ?_⟩, ?_⟩, ?_, by rw [HL1.out]; exact HMP.out, by rw [List.map_append]; exact HG.out, Nat.le_trans H5.out hT.size⟩
        · rw [hlx, ← hu]
          exact HBX'.out.set _
        · rw [hlx]
          have hnr2 := (show Blk w' (w.heap.size + 1) 22 [.slice eo pl cap] from HBX'.out).not_row (by decide) HOWN'.out
          exact ((Turns.refl (fun i => i = w.heap.size + 1) w').setCell (p := ⟨w.heap.size + 1, 0, none⟩) (.inl rfl) _).row HOWN'.out (fun j hj e => hnr2 (by rw [hj, e]))
        · rcases List.mem_append.1 hy with hy | hy
          · exact hT.keep (HROW.out.keep y hy) (HFV.out y (HROW.out.keep y hy))
          · rw [List.mem_singleton.1 hy]
            exact hT.keep HG2.out (HFV.out x HG2.out)
        · exact (HBL.out.trans (HB'.out.mono (Nat.le_succ _))).setCell (p := ⟨w.heap.size + 1, 0, none⟩) (Nat.le_succ _) _
        · have h9 : Blk V w.heap.size 3 [.int .i64 m] := HMB.out
          exact hT.blk h9 (by rw [HFO.out]; omega) (by decide)
      subst hu
      exact hfin
  case hdone =>
    rintro D xs V hD hS ⟨⟨eo, cap, hbx, hrow, hbl⟩, _, h3, _, h5⟩ hDef
    have hcb := hbx.cell
    have HROW := hid hrow
    have HBL := hid hbl
    have HQ : Hid (xs.map (·.e) = (evL v g).take m.toNat) := by
      show _ = _
      rw [hS, List.take_of_length_le]
      rw [← hS]
      simpa using h3
    have HDef := hid hDef
    have hD' : w.heap.size + 1 < D := by have := HS1.out; omega
    have HNR : Hid (∀ j, (Value.slice eo xs.length cap).ownBlock = some j → j ≠ D) := by
      intro j hj e
      rcases hrow.row.2 with ⟨h0, _⟩ | ⟨j', c', cur, h0, _, hb, _⟩
      · rw [h0] at hj
        simp [Value.ownBlock] at hj
      · rw [h0] at hj
        have : j' = j := by simpa [Value.ownBlock] using hj
        subst this
        rw [e, hDef] at hb
        cases hb
    clear hbx hrow hbl hS h3 h5 hDef
    gi_wp2
    refine ⟨by simp, .inl ⟨_, _, rfl, run_takeDeferred HDef.out, ?_⟩⟩
    refine ⟨_, results_tmp rfl _ _ _, _, xs, rfl, ⟨?_, fun y hy => (HROW.out.keep y hy).noCells (grownBy_putObj' V D (.deferred none)) (fun r e => by cases e; exact ⟨_, HDef.out, rfl⟩)⟩, HQ.out, HBL.out.trans (belowK_b (w := w) (Nat.le_refl _) _ D _ _ (by omega) HDef.out rfl rfl)⟩
    exact own_mono ((Turns.of_grown (F := fun i => i = D) (grownBy_putObj' V D (.deferred none)) (fun k e => by cases e; rfl)).row HROW.out.row HNR.out) (Nat.le_succ _)
  case hstop =>
    rintro D c pre V hD hSp ⟨rfl, qs, x, rfl, ⟨eo, cap, hbx, hrow, hbl⟩, h3, h5⟩ hDef
    have hcb := hbx.cell
    have HROW := hid hrow
    have HBL := hid hbl
    have HQ : Hid (qs.map (·.e) = (evL v g).take m.toNat) := by
      show _ = _
      rw [List.map_append] at hSp
      have h6 := List.prefix_iff_eq_take.1 ((List.prefix_append _ _).trans hSp)
      rw [h6]
      simp [h3]
    have HDef := hid hDef
    have hD' : w.heap.size + 1 < D := by have := HS1.out; omega
    have HNR : Hid (∀ j, (Value.slice eo qs.length cap).ownBlock = some j → j ≠ D) := by
      intro j hj e
      rcases hrow.row.2 with ⟨h0, _⟩ | ⟨j', c', cur, h0, _, hb, _⟩
      · rw [h0] at hj
        simp [Value.ownBlock] at hj
      · rw [h0] at hj
        have : j' = j := by simpa [Value.ownBlock] using hj
        subst this
        rw [e, hDef] at hb
        cases hb
    clear hbx hrow hbl hSp h3 h5 hDef
    gi_wp2
    refine ⟨by simp, .inl ⟨_, _, rfl, run_takeDeferred HDef.out, ?_⟩⟩
    refine ⟨_, results_tmp rfl _ _ _, _, qs, rfl, ⟨?_, fun y hy => (HROW.out.keep y hy).noCells (grownBy_putObj' V D (.deferred none)) (fun r e => by cases e; exact ⟨_, HDef.out, rfl⟩)⟩, HQ.out, HBL.out.trans (belowK_b (w := w) (Nat.le_refl _) _ D _ _ (by omega) HDef.out rfl rfl)⟩
    exact own_mono ((Turns.of_grown (F := fun i => i = D) (grownBy_putObj' V D (.deferred none)) (fun k e => by cases e; rfl)).row HROW.out.row HNR.out) (Nat.le_succ _)
end Go.Proofs.Ytcammngbhnhjjaa
