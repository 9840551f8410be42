/-
  Package oplog: events collected in a range over a function: append in a fence, and what lies between two rounds (for After).
-/
import Derived.Test.YtjlompnjhmbhhaaGreatLogQ
import Derived.Test.YtjlompnjhmbhhaaGreatOlK0
import Derived.Deep.RegionHeld3
import Derived.Test.YtjlompnjhmbhhaaGreatOlS
namespace Go.Proofs.YtjlompnjhmbhhaaGreat
open Go.RowKit Go.Shelf Go.Maps

/-- append(out, e) in a fence. -/
theorem wpListIn_append_ev {F : Fence} {n : Nat} {ops : Array Oper} {rest : List Oper} {o : Oper} {a : Act} {Q : Exit → Act → World → Prop} (W0 W : World) (x : EvM) (hW : W = W0.alloc (.cells x.cells.toArray 33)) (hgd : o.guard = none) (s xx : Operand)
    (ho : o.op = .call { callee := .builtin .append, args := #[s, xx], argTypes := #[22, 22] }) (B : Nat) (v : Value) (ds : List EvM)
    (hs : a.eval s = v) (hx : a.eval xx = .slice (some ⟨W0.heap.size, 0, none⟩) 1 1) (hown : W0.ownsRow B 33 8 v ds.length (flatE ds)) (hB : B ≤ W0.heap.size) (hl : ds.length ≤ 1000000)
    (h : ∀ v' w', w'.ownsRow B 33 8 v' (ds ++ [x]).length (flatE (ds ++ [x])) → Below B W0 w' → W.grownBy w' v.ownBlock → wpListIn F n Tryz.prog ops Q rest (a.put o.dst v') w') :
    wpListIn F n Tryz.prog ops Q (o :: rest) a W := by
  subst hW
  obtain ⟨iI, hj, hy0, hy1, hy2⟩ := info_parts Tryz.infoEv
  have hn := Blk.new W0 33 x.cells
  refine wpListIn_append_own _ hgd s xx 22 ho B 33 iI _ 8 96 Tryz.underlying22 hj hy0 hy1 hy2 rfl (by decide) v ds.length (flatE ds) hs (hown.alloc _) ⟨W0.heap.size, 0, none⟩ 1 1 x.cells hx rfl (fun j u hu => ?_) (ev_one x) (by unfold maxLen; omega) (by omega) (by simp; omega) ?_
  · rw [Addr.add_lit, Nat.zero_add]
    exact hn.cell hu
  · intro v' w' hown' hgrow _
    refine h v' w' ?_ (((Below.refl _ _).alloc hB _).grown hgrow (by simp; omega) (fun k hk => (hown.lt k hk).1)) hgrow
    rw [flatE_snoc, List.length_append]
    exact hown'
/-- An event stays where a block that holds no cells is turned. -/
theorem EvKeep.noCells {V V' : World} {x : EvM} {row : Option Nat} (h : EvKeep V x) (hg : V.grownBy V' row) (hr : ∀ r, row = some r → ∃ o : Obj, V.heap[r]? = some o ∧ o.isCells = false) : EvKeep V' x := by
  have ht : Turns (fun i => row = some i) V V' := Turns.of_grown hg (fun _ h => h)
  have ho : ∀ b off, x.ao = some ⟨b, off, none⟩ → x.e.deps ≠ [] → ¬ row = some b := by
    intro b off e hne hc
    obtain ⟨o, ho, hoc⟩ := hr b hc
    rcases h.ok.deps.held.2 with h0 | ⟨b', off', e', _, hcell⟩
    · exact hne h0
    · rw [e] at e'
      cases e'
      have h1 := hcell 0 (List.length_pos_iff.2 hne)
      simp only [World.cell?, ho] at h1
      cases o <;> simp_all [Obj.isCells]
  exact ⟨⟨⟨h.ok.deps.held.turned ht ho, h.ok.deps.room, h.ok.deps.few⟩, h.ok.io, h.ok.is, h.ok.ie, h.ok.iq, h.ok.hc, h.ok.hs⟩, h.ne.stay h.ok.deps.held ht ho⟩
/-- What lies between two rounds: the box at eb holds the row of what has come. -/
def CollE (w : World) (eb : Nat) (pre : List EvM) (V : World) : Prop := ∃ eo cap, Boxed V eb 22 (.slice eo pre.length cap) ∧ RowE eb V (.slice eo pre.length cap) pre ∧ Below w.heap.size w V
theorem collE_own (w : World) (eb B : Nat) (hB : w.heap.size ≤ B) : OwnFrom B (CollE w eb) := fun pre V V' row ⟨eo, cap, h1, h2, h3⟩ hg hr => by
  have hne : ∀ g, (∃ cs t, V.heap[g]? = some (.cells cs t (0, 0))) → some g ≠ row := fun g ⟨cs, t, hc⟩ e => by
    obtain ⟨_, o, ho, hoc⟩ := hr g e.symm
    rw [hc] at ho
    cases ho
    cases hoc
  refine ⟨eo, cap, h1.kept hg (hne eb ⟨_, _, h1⟩), ⟨?_, fun y hy => (h2.keep y hy).noCells hg (fun r e => (hr r e).2)⟩, h3.grown hg h3.size (fun k e => Nat.le_trans hB (hr k e).1)⟩
  refine (Turns.of_grown (F := fun i => row = some i) hg (fun _ h => h)).row h2.row (fun g hgb e => ?_)
  rcases h2.row.2 with ⟨h0, _⟩ | ⟨g', c', cur, h0, _, hb, _⟩
  · rw [h0] at hgb
    simp [Value.ownBlock] at hgb
  · rw [h0] at hgb
    have : g' = g := by simpa [Value.ownBlock] using hgb
    subst this
    exact hne g' ⟨_, _, hb⟩ e.symm
end Go.Proofs.YtjlompnjhmbhhaaGreat
/-
  Package oplog: After of a log.
-/
namespace Go.Proofs.YtjlompnjhmbhhaaGreat
open Go.RowKit Go.Shelf Go.Maps
attribute [local go_sem] Oper.semAt_some

def AfterP (w : World) (g : Lg) (v : List Int) (m : Int) (e : Ending) (w' : World) : Prop := ∃ r xs, e = .returned r ∧ RowE w.heap.size w' r xs ∧ xs.map (·.e) = (evL v g).take m.toNat ∧ Below w.heap.size w w'
set_option maxRecDepth 100000 in
set_option maxHeartbeats 4000000 in
theorem after_any {w : World} {p me mw : Nat} {g : Lg} (h : LogAt w p me mw g) (vo : Option Addr) (vc : Nat) (v : List Int) (hv : HV w vo vc v) (kl : Nat) (hkl : v.length = kl) (m : Int) (hlen : (evL v g).length ≤ 65536) :
    Calls Tryz.prog 34 #[.pointer (some ⟨p, 0, none⟩), .slice vo kl vc, .int .i64 m] w (AfterP w g v m) := by
  refine (callsIn_wide (n := 5)).1 ?_
  obtain ⟨W0, hW0⟩ : ∃ W0, W0 = (w.alloc (.cells #[.int .i64 m] 3)).alloc (.cells #[.slice none 0 0] 22) := ⟨_, rfl⟩
  have HA : Hid (Below w.heap.size w W0) := by rw [hW0]; exact ((Below.refl _ w).alloc (Nat.le_refl _) _).alloc (by simp) _
  have HM : Hid (Boxed W0 w.heap.size 3 (.int .i64 m)) := by rw [hW0]; exact (Boxed.new w 3 _).alloc _
  have HR : Hid (Boxed W0 (w.heap.size + 1) 22 (.slice none 0 0)) := by
    have := Boxed.new (w.alloc (.cells #[.int .i64 m] 3)) 22 (.slice none 0 0)
    rw [World.size_alloc] at this
    rw [hW0]
    exact this
  have HS0 : Hid (W0.heap.size = w.heap.size + 2) := by show _ = _; rw [hW0]; simp
  have HH := hid h
  have HVV := hid hv
  clear h hv
  refine callsIn_of_wp_marks Tryz.func34 rfl trivial ?_ rfl
  simp only [Tryz.ntmps34, List.size_toArray, List.length_cons, List.length_nil, Nat.reduceAdd, Nat.reduceSub, Array.replicate_succ, Array.replicate_zero, List.push_toArray, List.append_toArray, List.nil_append, List.cons_append]
  gi_wp2_with fail
  rw [← hW0]
  clear hW0
  refine ⟨trivial, (callsIn_wide.2 (since_any W0 (some ⟨p, 0, none⟩) vo kl vc)).mono ?_⟩
  rintro e w1 ⟨rfl, hw1⟩
  obtain ⟨hx0, hb⟩ := since_boxes _ _ _ hw1
  have hx1 : Boxed w1 (W0.heap.size + 1) 23 (.slice vo v.length vc) := by
    have := Boxed.new (W0.alloc (.cells #[.pointer (some ⟨p, 0, none⟩)] 26)) 23 (.slice vo kl vc)
    rw [World.size_alloc] at this
    rw [hw1, hkl]
    exact this
  have HS1 : Hid (w1.heap.size = w.heap.size + 4) := by show _ = _; rw [hw1]; simp; have := HS0.out; omega
  have HA1 := hid (bt HA.out hb)
  have HM1 : Hid (Boxed w1 w.heap.size 3 (.int .i64 m)) := (hb.block _ HM.out.lt).trans HM.out
  have HR1 : Hid (Boxed w1 (w.heap.size + 1) 22 (.slice none 0 0)) := (hb.block _ HR.out.lt).trans HR.out
  have HX0 := hid hx0
  have HX1 := hid hx1
  obtain ⟨Fo, hFo⟩ : ∃ Fo : Nat → Prop, Fo = fun j => j = w.heap.size + 1 ∨ j = w1.heap.size + 1 := ⟨_, rfl⟩
  have HSEQ : Hid (∀ r, SeqAt Fence.wide 4 Tryz.prog (w1.heap.size + 1) 61 #[.pointer (some ⟨W0.heap.size, 0, none⟩), .pointer (some ⟨W0.heap.size + 1, 0, none⟩)] (fun x : EvM => #[x.val]) (Ke Fo)
      (fun pre x V => pre.map (·.e) ++ [x.e] <+: evL v g ∧ EvKeep V x) (fun xs => xs.map (·.e) = evL v g) (fun pre => pre.map (·.e) <+: evL v g) ((w1.alloc (.deferred (some []))).alloc (.loop r))) := fun r => by
    have hbr : Below w1.heap.size w1 ((w1.alloc (.deferred (some []))).alloc (.loop r)) := ((Below.refl _ _).alloc (Nat.le_refl _) _).alloc (by simp) _
    have s0 := HS0.out
    have s1 := HS1.out
    refine since_at 4 (by omega) _ HH.out (bt HA1.out hbr) W0.heap.size (W0.heap.size + 1) ((hbr.block _ HX0.out.lt).trans HX0.out) vo vc v ((hbr.block _ HX1.out.lt).trans HX1.out) ((HVV.out.below HA1.out).below hbr) Fo ?_ ?_ ?_ ?_
    · intro j hj
      rw [hFo] at hj
      simp
      omega
    · intro i hi hj
      rw [hFo] at hj
      have := HH.out.lt i hi
      omega
    · rintro i ⟨hj, hl⟩
      rw [hFo] at hj
      omega
    · intro hj
      rw [hFo] at hj
      omega
  clear hw1 hb hx0 hx1 HA HR HM
  gi_wp2
  apply wpIn_rangeFunc_Gb (encs := fun x : EvM => #[x.val]) (Kp := Ke Fo) (G := fun pre x V => pre.map (·.e) ++ [x.e] <+: evL v g ∧ EvKeep V x) (S := fun xs => xs.map (·.e) = evL v g) (Sp := fun pre => pre.map (·.e) <+: evL v g) rfl (by omega) (gf := 61) (lb := #[.pointer (some ⟨W0.heap.size, 0, none⟩), .pointer (some ⟨W0.heap.size + 1, 0, none⟩)]) rfl trivial (enters_of Tryz.func61 (by kernel_rfl) rfl) HSEQ.out
    (I := fun pre V => CollE w (w.heap.size + 1) pre V ∧ Boxed V w.heap.size 3 (.int .i64 m) ∧ pre.length ≤ m.toNat ∧ pre.map (·.e) <+: evL v g ∧ w1.heap.size ≤ V.heap.size)
    (Ix := fun c pre V => c = .exit 0 ∧ ∃ qs x, pre = qs ++ [x] ∧ CollE w (w.heap.size + 1) qs V ∧ qs.length = m.toNat ∧ w1.heap.size ≤ V.heap.size)
    (X := fun pre x V => pre.map (·.e) ++ [x.e] <+: evL v g ∧ EvKeep V x) (Bx := fun x => x.cells) (t := 33)
  case hKt => exact fun h k => Ke.trans h k
  case hKb =>
    intro V r r' _
    exact Turns.of_grown (grownBy_putObj' V _ _) (fun j e => by cases e; exact .inl (by rw [hFo]; exact .inr rfl))
  case hps => exact fun _ => rfl
  case hI =>
    rintro pre V V' row ⟨h1, h2, h3, h4, h5⟩ hg hr
    exact ⟨collE_own w _ _ HA1.out.size pre V V' row h1 hg hr, h2.kept hg (fun e => by obtain ⟨_, o, ho, hc⟩ := hr _ e.symm; rw [show V.heap[w.heap.size]? = _ from h2] at ho; cases ho; cases hc), h3, h4, Nat.le_trans h5 hg.size⟩
  case hIx =>
    rintro c pre V V' row ⟨hc, qs, x, e, h1, h2, h3⟩ hg hr
    exact ⟨hc, qs, x, e, collE_own w _ _ HA1.out.size qs V V' row h1 hg hr, h2, Nat.le_trans h3 hg.size⟩
  case h0 => exact ⟨⟨none, 0, HR1.out, ⟨⟨rfl, .inl ⟨rfl, rfl⟩⟩, fun y hy => (by cases hy)⟩, HA1.out⟩, HM1.out, Nat.zero_le _, List.nil_prefix, Nat.le_refl _⟩
  case hX =>
    rintro pre x _ V V' row ⟨h1, h2⟩ hg hr
    exact ⟨h1, h2.noCells hg (fun r e => (hr r e).2)⟩
  case hassign =>
    rintro l' pre x V K hlt ⟨h1, h2, h3, h4, h5⟩ ⟨hG, hG2⟩ hK
    obtain ⟨gg, hgg⟩ : ∃ z, z = V.heap.size := ⟨_, rfl⟩
    have hba : Below V.heap.size V (V.alloc (.cells x.cells.toArray 33)) := (Below.refl _ _).alloc (Nat.le_refl _) _
    have hbk : Blk (V.alloc (.cells x.cells.toArray 33)) gg 33 x.cells := by rw [hgg]; exact Blk.new V _ _
    have HI : Hid (KeptAs w1.heap.size V (V.alloc (.cells x.cells.toArray 33)) ∧ Ke Fo V (V.alloc (.cells x.cells.toArray 33)) ∧ (CollE w (w.heap.size + 1) pre (V.alloc (.cells x.cells.toArray 33)) ∧ Boxed (V.alloc (.cells x.cells.toArray 33)) w.heap.size 3 (.int .i64 m) ∧ pre.length ≤ m.toNat ∧ pre.map (·.e) <+: evL v g ∧ w1.heap.size ≤ (V.alloc (.cells x.cells.toArray 33)).heap.size) ∧ (pre.map (·.e) ++ [x.e] <+: evL v g ∧ EvKeep (V.alloc (.cells x.cells.toArray 33)) x) ∧ w1.heap.size ≤ gg) :=
      ⟨⟨hba.block _ hlt, hba.block _ (by omega)⟩, Ke.below hba, ⟨(collE_own w _ w1.heap.size HA1.out.size).alloc _ h1, h2.alloc _, h3, h4, Nat.le_trans h5 hba.size⟩, ⟨hG, hG2.below hba⟩, by omega⟩
    have HBK := hid hbk
    have HGG := hid hgg
    clear hgg hba hbk h1 h2 h3 h4 h5 hG hG2 hlt
    gi_wp2
    rw [← HGG.out]
    exact hK gg (V.alloc (.cells x.cells.toArray 33)) HI.out.1 HI.out.2.1 HI.out.2.2.1 HI.out.2.2.2.1 HBK.out HI.out.2.2.2.2
  case hbody =>
    rintro l' pre x gg V ⟨rc, hkp⟩ ⟨⟨eo, cap, hbx, hrow, hbl⟩, hm, h3, h4, h5⟩ ⟨hG, hG2⟩ hbk hgl
    have hcb := hbx.cell
    have hfb := hbx.frozen
    have hcm := hm.cell
    have c0 := hbk.cell (i := 0) rfl
    have c1 := hbk.cell (i := 1) rfl
    have c2 := hbk.cell (i := 2) rfl
    have c3 := hbk.cell (i := 3) rfl
    have c4 := hbk.cell (i := 4) rfl
    have c5 := hbk.cell (i := 5) rfl
    have c6 := hbk.cell (i := 6) rfl
    have c7 := hbk.cell (i := 7) rfl
    obtain ⟨pl, HPL⟩ : ∃ z, Hid (pre.length = z) := ⟨_, hid rfl⟩
    rw [HPL.out] at hcb h3
    have hrow2 : RowE (w.heap.size + 1) V (.slice eo pl cap) pre := by rw [← HPL.out]; exact hrow
    have hbx2 : Boxed V (w.heap.size + 1) 22 (.slice eo pl cap) := by rw [← HPL.out]; exact hbx
    have HROW := hid hrow2
    have HBOX := hid hbx2
    have HBL := hid hbl
    have HMB := hid hm
    have HG := hid hG
    have HG2 := hid hG2
    have H5 := hid h5
    have H3 := hid h3
    have HKP := hid hkp
    have HFO := hid hFo
    have HSW : Hid (w.heap.size + 1 ≤ V.heap.size) := (by have := hbx2.lt; omega : w.heap.size + 1 ≤ V.heap.size)
    have HPS : Hid (pre.length ≤ 1000000) := by
      have h6 := h4.length_le
      simp at h6
      show _ ≤ _
      omega
    have HFV : Hid (∀ y : EvM, EvKeep V y → ∀ b off, y.ao = some ⟨b, off, none⟩ → y.e.deps ≠ [] → ¬ Fo b) := by
      intro y hy b off e hne hF
      rw [hFo] at hF
      rcases hy.ok.deps.held.2 with h0 | ⟨b', off', e', _, hcell⟩
      · exact hne h0
      · rw [e] at e'
        cases e'
        have h1 := hcell 0 (List.length_pos_iff.2 hne)
        rcases hF with rfl | rfl
        · have h7 : V.heap[w.heap.size + 1]? = some (.cells #[.slice eo pl cap] 22 (0, 0)) := hbx2
          simp only [World.cell?, h7] at h1
          rcases off with _ | off <;> simp at h1
        · have h7 := hkp.loop
          simp only [World.cell?, h7] at h1
          cases h1
    clear hbx hrow hrow2 hbx2 hbl hm hG hG2 h5 hkp hFo h4
    by_cases hmp : m ≤ (pl : Int)
    · gi_wp2
      exact ⟨KeptAs.refl _ _, Ke.refl _ _, rfl, pre, x, rfl, ⟨eo, cap, by rw [HPL.out]; exact HBOX.out, by rw [HPL.out]; exact HROW.out, HBL.out⟩, by have := HPL.out; have := H3.out; omega, H5.out⟩
    · gi_wp2_with (gi_at_builtin; refine wpListIn_append_ev V _ x rfl rfl _ _ rfl (w.heap.size + 1) _ pre rfl rfl HROW.out.row HSW.out HPS.out ?_)
      intro v' w' hown' hb' hgrow
      have hnr := (show Blk V (w.heap.size + 1) 22 [.slice eo pl cap] from HBOX.out).not_row (by decide) HROW.out.row
      have hbx' : Boxed w' (w.heap.size + 1) 22 (.slice eo pl cap) := (HBOX.out.alloc _).kept hgrow (fun e => hnr e)
      have hcb2 := hbx'.cell
      have hfb2 := hbx'.frozen
      obtain ⟨eo2, cap2, rfl⟩ := own_slice hown'
      have hl1 : (pre ++ [x]).length = pl + 1 := by simp [HPL.out]
      have HL1 := hid hl1
      have HBX' := hid hbx'
      have HOWN' := hid hown'
      have HNR := hid hnr
      have HGR := hid hgrow
      have HB' := hid hb'
      have HMP : Hid (pl + 1 ≤ m.toNat) := (by omega : pl + 1 ≤ m.toNat)
      clear hbx' hown' hb' hgrow hl1 hnr hmp
      gi_wp2
      obtain ⟨u, hu⟩ : ∃ u, u = Value.slice eo2 (pre.length + 1) cap2 := ⟨_, rfl⟩
      have hlx : (pre ++ [x]).length = pre.length + 1 := by simp
      have hevt : ∀ j, (Value.slice eo pl cap).ownBlock = some j → ∃ cur : Array Value, V.heap[j]? = some (.cells cur 33 (0, 0)) := by
        intro j hj
        rcases HROW.out.row.2 with ⟨h0, _⟩ | ⟨j', c', cur, h0, _, hb, _⟩
        · rw [h0] at hj
          simp [Value.ownBlock] at hj
        · rw [h0] at hj
          have : j' = j := by simpa [Value.ownBlock] using hj
          subst this
          exact ⟨_, hb⟩
      have hT : Ke Fo V (w'.setCell ⟨w.heap.size + 1, 0, none⟩ u) :=
        Turns.setCell (Turns.grown ((Turns.refl _ V).alloc _) HGR.out (fun j hj => .inl (.inr (by obtain ⟨cur, hc⟩ := hevt j hj; exact ⟨cur.toList, by simpa [Blk] using hc⟩)))) (p := ⟨w.heap.size + 1, 0, none⟩) (.inl (.inl (by rw [HFO.out]; exact .inl rfl))) _
      have hk1 : ∀ j o, V.heap[j]? = some o → o.isCells = false → j ≠ w.heap.size + 1 → (w'.setCell ⟨w.heap.size + 1, 0, none⟩ u).heap[j]? = V.heap[j]? := by
        intro j o ho hc hj
        have hlt : j < V.heap.size := (Array.getElem?_eq_some_iff.1 ho).1
        rw [Below.heap_setCell _ _ _ _ (by simpa using hj)]
        refine (HGR.out.block j (by simp; omega) (fun e => ?_)).trans (Below.heap_alloc _ _ _ hlt)
        obtain ⟨cur, hcu⟩ := hevt j e.symm
        rw [ho] at hcu
        cases hcu
        cases hc
      have s1 := HS1.out
      have hfin : roundG w1.heap.size (Ke Fo) (fun pre V => CollE w (w.heap.size + 1) pre V ∧ Boxed V w.heap.size 3 (.int .i64 m) ∧ pre.length ≤ m.toNat ∧ pre.map (·.e) <+: evL v g ∧ w1.heap.size ≤ V.heap.size) (fun c pre V => c = .exit 0 ∧ ∃ qs x, pre = qs ++ [x] ∧ CollE w (w.heap.size + 1) qs V ∧ qs.length = m.toNat ∧ w1.heap.size ≤ V.heap.size) (pre ++ [x]) V .normal { tmps := #[], defers := [] } (w'.setCell ⟨w.heap.size + 1, 0, none⟩ u) := by
        refine ⟨⟨hk1 _ _ HKP.out.loop rfl (by omega), hk1 _ _ HKP.out.calls rfl (by omega)⟩, hT, ⟨eo2, cap2, ?_, ⟨?_, fun y hy => ?_⟩, ?_⟩, ?_, by rw [HL1.out]; exact HMP.out, by rw [List.map_append]; exact HG.out, Nat.le_trans H5.out hT.size⟩
        · rw [hlx, ← hu]
          exact HBX'.out.set _
        · rw [hlx]
          have hnr2 := (show Blk w' (w.heap.size + 1) 22 [.slice eo pl cap] from HBX'.out).not_row (by decide) HOWN'.out
          exact ((Turns.refl (fun i => i = w.heap.size + 1) w').setCell (p := ⟨w.heap.size + 1, 0, none⟩) (.inl rfl) _).row HOWN'.out (fun j hj e => hnr2 (by rw [hj, e]))
        · rcases List.mem_append.1 hy with hy | hy
          · exact hT.keep (HROW.out.keep y hy) (HFV.out y (HROW.out.keep y hy))
          · rw [List.mem_singleton.1 hy]
            exact hT.keep HG2.out (HFV.out x HG2.out)
        · exact (HBL.out.trans (HB'.out.mono (Nat.le_succ _))).setCell (p := ⟨w.heap.size + 1, 0, none⟩) (Nat.le_succ _) _
        · have h9 : Blk V w.heap.size 3 [.int .i64 m] := HMB.out
          exact hT.blk h9 (by rw [HFO.out]; omega) (by decide)
      subst hu
      exact hfin
  case hdone =>
    rintro D xs V hD hS ⟨⟨eo, cap, hbx, hrow, hbl⟩, _, h3, _, h5⟩ hDef
    have hcb := hbx.cell
    have HROW := hid hrow
    have HBL := hid hbl
    have HQ : Hid (xs.map (·.e) = (evL v g).take m.toNat) := by
      show _ = _
      rw [hS, List.take_of_length_le]
      rw [← hS]
      simpa using h3
    have HDef := hid hDef
    have hD' : w.heap.size + 1 < D := by have := HS1.out; omega
    have HNR : Hid (∀ j, (Value.slice eo xs.length cap).ownBlock = some j → j ≠ D) := by
      intro j hj e
      rcases hrow.row.2 with ⟨h0, _⟩ | ⟨j', c', cur, h0, _, hb, _⟩
      · rw [h0] at hj
        simp [Value.ownBlock] at hj
      · rw [h0] at hj
        have : j' = j := by simpa [Value.ownBlock] using hj
        subst this
        rw [e, hDef] at hb
        cases hb
    clear hbx hrow hbl hS h3 h5 hDef
    gi_wp2
    refine ⟨by simp, .inl ⟨_, _, rfl, run_takeDeferred HDef.out, ?_⟩⟩
    refine ⟨_, results_tmp rfl _ _ _, _, xs, rfl, ⟨?_, fun y hy => (HROW.out.keep y hy).noCells (grownBy_putObj' V D (.deferred none)) (fun r e => by cases e; exact ⟨_, HDef.out, rfl⟩)⟩, HQ.out, HBL.out.trans (belowK_b (w := w) (Nat.le_refl _) _ D _ _ (by omega) HDef.out rfl rfl)⟩
    exact own_mono ((Turns.of_grown (F := fun i => i = D) (grownBy_putObj' V D (.deferred none)) (fun k e => by cases e; rfl)).row HROW.out.row HNR.out) (Nat.le_succ _)
  case hstop =>
    rintro D c pre V hD hSp ⟨rfl, qs, x, rfl, ⟨eo, cap, hbx, hrow, hbl⟩, h3, h5⟩ hDef
    have hcb := hbx.cell
    have HROW := hid hrow
    have HBL := hid hbl
    have HQ : Hid (qs.map (·.e) = (evL v g).take m.toNat) := by
      show _ = _
      rw [List.map_append] at hSp
      have h6 := List.prefix_iff_eq_take.1 ((List.prefix_append _ _).trans hSp)
      rw [h6]
      simp [h3]
    have HDef := hid hDef
    have hD' : w.heap.size + 1 < D := by have := HS1.out; omega
    have HNR : Hid (∀ j, (Value.slice eo qs.length cap).ownBlock = some j → j ≠ D) := by
      intro j hj e
      rcases hrow.row.2 with ⟨h0, _⟩ | ⟨j', c', cur, h0, _, hb, _⟩
      · rw [h0] at hj
        simp [Value.ownBlock] at hj
      · rw [h0] at hj
        have : j' = j := by simpa [Value.ownBlock] using hj
        subst this
        rw [e, hDef] at hb
        cases hb
    clear hbx hrow hbl hSp h3 h5 hDef
    gi_wp2
    refine ⟨by simp, .inl ⟨_, _, rfl, run_takeDeferred HDef.out, ?_⟩⟩
    refine ⟨_, results_tmp rfl _ _ _, _, qs, rfl, ⟨?_, fun y hy => (HROW.out.keep y hy).noCells (grownBy_putObj' V D (.deferred none)) (fun r e => by cases e; exact ⟨_, HDef.out, rfl⟩)⟩, HQ.out, HBL.out.trans (belowK_b (w := w) (Nat.le_refl _) _ D _ _ (by omega) HDef.out rfl rfl)⟩
    exact own_mono ((Turns.of_grown (F := fun i => i = D) (grownBy_putObj' V D (.deferred none)) (fun k e => by cases e; rfl)).row HROW.out.row HNR.out) (Nat.le_succ _)
end Go.Proofs.YtjlompnjhmbhhaaGreat
/-
  Put of both logs: the same answer, the same row; the logs stay the same (mathematics).
-/
namespace Go.Proofs.YtjlompnjhmbhhaaGreat
open Go.RowKit Go.Maps

theorem knowM_iff {W : List EvM} {e : Ev} (hs : RiseO (evs W)) : KnowM W e ↔ ∃ x ∈ evs W, x.o = e.o ∧ x.s = e.s := by
  constructor
  · rintro ⟨h, h1, h2⟩
    exact ⟨_, List.mem_map.2 ⟨_, List.getElem_mem h, rfl⟩, h1, h2⟩
  · rintro ⟨x, hx, h1, h2⟩
    obtain ⟨y, hy, rfl⟩ := List.mem_map.1 hx
    obtain ⟨j, hj, rfl⟩ := List.getElem_of_mem hy
    have hp : j = posM W e := posM_at (W := W) (e := e) (k := j) hj (fun i hi hij => by
      have h3 := List.pairwise_iff_getElem.1 hs i j (by rw [evs_len]; exact hi) (by rw [evs_len]; exact hj) hij
      simp only [evs, List.getElem_map] at h3
      exact decide_eq_true (by omega)) (decide_eq_false (by omega))
    have key : ∀ k (hk : k = posM W e) (hl : k < W.length), W[k].e.o = e.o → W[k].e.s = e.s → KnowM W e := fun k hk hl e1 e2 => by
      subst hk
      exact ⟨hl, e1, e2⟩
    exact key j hp hj h1 h2
theorem nextM_first {g : Dm} (h : nextM g < g.W.length) : firstD (vecL (evs g.L)) (evs g.W) = some (g.W[nextM g]'h).e := by
  unfold firstD
  rw [List.find?_eq_some_iff_getElem]
  refine ⟨?_, nextM g, by rw [evs_len]; exact h, by simp [evs], fun j hj => ?_⟩
  · have h1 := List.findIdx_getElem (p := fun y : EvM => decide (ReadyE (vecL (evs g.L)) y.e)) (w := h)
    exact h1
  · have h1 : decide (ReadyE (vecL (evs g.L)) (g.W[j]'(Nat.lt_trans hj h)).e) = false := by
      have h2 := List.not_of_lt_findIdx (p := fun y : EvM => decide (ReadyE (vecL (evs g.L)) y.e)) (xs := g.W) hj
      first | exact h2 | exact Bool.not_eq_true _ ▸ h2
    have e : ((evs g.W)[j]'(by rw [evs_len]; exact Nat.lt_trans hj h)) = (g.W[j]'(Nat.lt_trans hj h)).e := by simp [evs]
    rw [e, h1]
    rfl
theorem nextM_firstNone {g : Dm} (h : ¬ nextM g < g.W.length) : firstD (vecL (evs g.L)) (evs g.W) = none := by
  unfold firstD
  rw [List.find?_eq_none]
  intro x hx hr
  obtain ⟨y, hy, rfl⟩ := List.mem_map.1 hx
  exact h (List.findIdx_lt_length_of_exists ⟨y, hy, hr⟩)
theorem evs_append (a b : List EvM) : evs (a ++ b) = evs a ++ evs b := List.map_append
theorem dropE_less {W : List EvM} {k : Nat} (hk : k < W.length) (hs : RiseO (evs W)) : evs (dropE W k) = lessD (evs W) (W[k]'hk).e := by
  obtain ⟨t, ht⟩ : ∃ t, W[k]'hk = t := ⟨_, rfl⟩
  rw [ht]
  have e1 : evs W = evs (W.take k) ++ t.e :: evs (W.drop (k + 1)) := by
    have h1 : W.take k ++ t :: W.drop (k + 1) = W := by rw [← ht, List.getElem_cons_drop, List.take_append_drop]
    conv => lhs; rw [← h1]
    rw [evs_append]
    rfl
  unfold dropE
  rw [evs_append, e1]
  rw [e1] at hs
  obtain ⟨_, h2, h3⟩ := List.pairwise_append.1 hs
  obtain ⟨h4, _⟩ := List.pairwise_cons.1 h2
  unfold lessD
  rw [List.filter_append, List.filter_cons, if_neg (by simp), List.filter_eq_self.2 (fun y hy => ?_), List.filter_eq_self.2 (fun y hy => ?_)]
  · rw [Bool.not_eq_true', decide_eq_false_iff_not]
    have := h4 y hy
    omega
  · rw [Bool.not_eq_true', decide_eq_false_iff_not]
    have := h3 y hy t.e (by simp)
    omega
theorem drainM_d : ∀ (n : Nat) (g : Dm), RiseO (evs g.W) → (drainM n g).d = ⟨evs g.L ++ drainL n (evs g.L) (evs g.W), lessL (evs g.W) (drainL n (evs g.L) (evs g.W))⟩
  | 0, g, _ => by simp [drainM, drainL, lessL, Dm.d]
  | n + 1, g, hs => by
    unfold drainM drainL
    by_cases hf : 65536 ≤ g.L.length
    · rw [if_pos (.inl hf), if_pos (by rw [evs_len]; exact hf)]
      simp [lessL, Dm.d]
    · rw [if_neg (c := 65536 ≤ (evs g.L).length) (by rw [evs_len]; exact hf)]
      by_cases hn : nextM g < g.W.length
      · rw [if_neg (by rintro (h | h); exact hf h; exact h hn), nextM_first hn]
        have eW : evs (stepM g).W = lessD (evs g.W) (g.W[nextM g]'hn).e := dropE_less hn hs
        have eL : evs (stepM g).L = evs g.L ++ [(g.W[nextM g]'hn).e] := by
          show evs (g.L ++ [g.W.getD (nextM g) zeroEM]) = _
          rw [evs_append, List.getD_eq_getElem?_getD, List.getElem?_eq_getElem hn]
          rfl
        have ih := drainM_d n (stepM g) (by rw [eW]; exact hs.less _)
        rw [ih, eL, eW]
        simp [lessL]
      · rw [if_pos (.inr hn), nextM_firstNone hn]
        simp [lessL, Dm.d]
theorem evs_drop (L : List EvM) (k : Nat) : evs (L.drop k) = (evs L).drop k := List.map_drop
/-- No dot twice. -/
def NodE (L : List Ev) : Prop := L.Pairwise (fun a b => ¬ (a.o = b.o ∧ a.s = b.s))
theorem nodE_nil : NodE [] := List.Pairwise.nil
theorem nod_ready : ∀ {l : List Ev} {A : List Int}, ReadyL A l → (∀ e ∈ l, MayE e) → NodE l
  | [], _, _, _ => .nil
  | x :: r, A, hr, hm => by
    refine List.pairwise_cons.2 ⟨fun y hy hd => ?_, nod_ready (l := r) (A := addA A x) hr.2 (fun e he => hm e (by simp [he]))⟩
    have h3 := hasV_ready_no (l := r) (A := addA A x) (o := x.o) (s := x.s) hr.2 (fun e he => hm e (by simp [he])) ((addA_has (hm x (by simp)) hr.1 x.o x.s).2 (.inr ⟨rfl, rfl⟩))
    exact h3 ⟨y, hy, hd.1.symm, hd.2.symm⟩
theorem nod_goes {w : World} {p me mw : Nat} {g g' : Lg} {d : Dl} {l : List Ev} (hn : NodE d.L) (hS : SameO g d) (hL : LogAt w p me mw g) (hr : RanG g l g') : NodE (d.L ++ l) := by
  refine List.pairwise_append.2 ⟨hn, nod_ready hr.ready hr.may, fun a ha b hb hd => ?_⟩
  obtain ⟨y, hy, hye⟩ := (hS.E a).1 ha
  exact hasV_ready_no hr.ready hr.may ((hL.has a.o a.s).1 (by rw [hy]; rfl)) ⟨b, hb, hd.1.symm, hd.2.symm⟩
/-- What Put of both leaves: the same answer, rows that tell the same, logs that are the same. -/
def BothP (w0 w v : World) (p me mw x : Nat) (g : Lg) (F : Nat → Prop) (e e' : Ending) (w' v' : World) : Prop :=
  ∃ (r r' : Value) (c : Int) (g' : Lg) (gm' : Dm) (ys zs : List EvM), e = .returned (.tuple #[r, .int .i64 c]) ∧ e' = .returned (.tuple #[r', .int .i64 c]) ∧ SameO g' gm'.d ∧ NodE gm'.d.L ∧ AtG w p me mw g' w' ∧ DlTo w0 v v' x F gm' ∧ RowE w.heap.size w' r ys ∧ v'.ownsRow v.heap.size 33 8 r' zs.length (flatE zs) ∧ AllOk w0 zs ∧ ys.map (·.e) = evs zs ∧ zs.length ≤ 65536 ∧ (∀ b, b < w.heap.size → AwayL w p g b → AwayL w' p g' b) ∧ ∀ y ∈ ys, ∀ b, b < w.heap.size → NotIn y.ao y.e.deps b
theorem rowE_nil (B : Nat) (w : World) : RowE B w (.slice none 0 0) [] := ⟨World.ownsRow_nil _ _ _ _, fun y hy => by cases hy⟩
theorem put_same2 {w0 w v w' v' : World} {p me mw x cap cap2 : Nat} {g : Lg} {gm : Dm} {eo fo : Option Addr} {X : Ev} {Y : EvM} {e e' : Ending} (hS : SameO g gm.d) (hL : LogAt w p me mw g) (hD : DlAt w0 v x gm eo cap fo cap2) (hn : NodE gm.d.L) (hXY : Y.e = X)
    (hp : PutP2 w p me mw g X e w') (hr : RPutP w0 v x (FootR x eo gm.L.length cap fo gm.W.length cap2) gm Y e' v') : BothP w0 w v p me mw x g (FootR x eo gm.L.length cap fo gm.W.length cap2) e e' w' v' := by
  subst hXY
  have hb : MayE Y.e → 0 ≤ Y.e.o ∧ Y.e.o ≤ 6 := fun h => (rightEv_iff h.1).o
  have hbW : ∀ e ∈ gm.d.W, 0 ≤ e.o ∧ e.o ≤ 6 := fun e he => by
    obtain ⟨y, hy, rfl⟩ := List.mem_map.1 he
    exact (rightEv_iff (hD.mayW y hy).1).o
  have hHas : MayE Y.e → (HasV g.A Y.e.o Y.e.s ↔ HasV (vecL (evs gm.L)) Y.e.o Y.e.s) := fun h => by
    unfold HasV
    rw [hS.A.of (hb h).1 (hb h).2, show vecL (evs gm.L) = vecL gm.d.L from rfl, (ReadsL.vec gm.d.L).of (hb h).1 (hb h).2]
  have hKnow : (g.W Y.e.o Y.e.s).isSome = true ↔ KnowM gm.W Y.e := by
    rw [knowM_iff hS.rise]
    obtain ⟨D, hwm⟩ := hL.wm
    exact hS.known Y.e.o Y.e.s (fun o s y h => (hwm.ok o s y h).2)
  have hKn : g.W Y.e.o Y.e.s = none → ¬ KnowM gm.W Y.e := fun h hk => by
    have := hKnow.2 hk
    rw [h] at this
    cases this
  have hReady : MayE Y.e → (ReadyE g.A Y.e ↔ ReadyE (vecL (evs gm.L)) Y.e) := fun h => hS.A.ready (hb h)
  have hne : g.ne = gm.L.length := by rw [hS.ne]; exact evs_len gm.L
  have hnw : g.nw = gm.W.length := by rw [hS.nw]; exact evs_len gm.W
  have same : ∀ {a : World} {b : World} (c : Int), Below w.heap.size w a → Below v.heap.size v b → BothP w0 w v p me mw x g (FootR x eo gm.L.length cap fo gm.W.length cap2) (.returned (.tuple #[.slice none 0 0, .int .i64 c])) (.returned (.tuple #[.slice none 0 0, .int .i64 c])) a b := fun c ha hb' =>
    ⟨_, _, c, g, gm, [], [], rfl, rfl, hS, hn, ⟨hL.below ha, Turns.of_below ha (Nat.le_refl _)⟩, DlTo.same hD hb', rowE_nil _ _, World.ownsRow_nil _ _ _ _, (fun z hz => by cases hz), rfl, by simp, fun b _ hA => hA.below (hL.lt p (.inl rfl)) ha, fun y hy => by cases hy⟩
  cases hp with
  | wrong hm hbw =>
    cases hr with
    | no hno hbv =>
      cases hno with
      | wrong _ => exact same _ hbw hbv
      | has h _ => exact absurd h hm
      | known h _ => exact absurd h hm
      | full h _ _ _ => exact absurd h hm
      | fullW h _ _ _ _ _ => exact absurd h hm
    | waits h _ _ _ _ _ _ => exact absurd h hm
    | goes h _ _ _ _ _ _ => exact absurd h hm
  | twice hm ht hbw =>
    have ht' : KnowM gm.W Y.e ∨ HasV (vecL (evs gm.L)) Y.e.o Y.e.s := ht.imp hKnow.1 (hHas hm).1
    cases hr with
    | no hno hbv =>
      cases hno with
      | wrong h => exact absurd hm h
      | has _ _ => exact same _ hbw hbv
      | known _ _ => exact same _ hbw hbv
      | full _ h1 h2 _ => exact (ht'.elim h2 h1).elim
      | fullW _ h1 h2 _ _ _ => exact (ht'.elim h2 h1).elim
    | waits _ h1 h2 _ _ _ _ => exact (ht'.elim h2 h1).elim
    | goes _ h1 h2 _ _ _ _ => exact (ht'.elim h2 h1).elim
  | full hm hw hh hf hbw =>
    have h1 := hKn hw
    have h2 := fun k => hh ((hHas hm).2 k)
    cases hr with
    | no hno hbv =>
      cases hno with
      | wrong h => exact absurd hm h
      | has _ h => exact absurd h h2
      | known _ h => exact absurd h h1
      | full _ _ _ _ => exact same _ hbw hbv
      | fullW _ _ _ _ _ _ => exact same _ hbw hbv
    | waits _ _ _ h3 h4 h5 _ =>
      rcases hf with hf | ⟨_, hf⟩ <;> omega
    | goes _ _ _ h3 h4 _ _ =>
      rcases hf with hf | ⟨hf, _⟩
      · omega
      · exact absurd ((hReady hm).2 h4) hf
  | waits hm hw hh hf hrd hnW hy hat haw =>
    rename_i y
    have h1 := hKn hw
    have h2 := fun k => hh ((hHas hm).2 k)
    have h3 := fun k => hrd ((hReady hm).2 k)
    cases hr with
    | no hno hbv =>
      cases hno with
      | wrong h => exact absurd hm h
      | has _ h => exact absurd h h2
      | known _ h => exact absurd h h1
      | full _ _ _ _ => omega
      | fullW _ _ _ _ _ _ => omega
    | waits _ _ _ _ _ _ hto =>
      have hs := hS.waits (y := y) (by rw [hy]; exact hw)
      have he : (⟨gm.d.L, insO gm.d.W y.e⟩ : Dl) = (⟨gm.L, insM gm.W (posM gm.W Y.e) Y⟩ : Dm).d := by
        show _ = (⟨evs gm.L, evs (insM gm.W (posM gm.W Y.e) Y)⟩ : Dl)
        rw [insM_evs, hy]
        rfl
      rw [he] at hs
      exact ⟨_, _, 0, _, _, [], [], rfl, rfl, hs, hn, hat, hto, rowE_nil _ _, World.ownsRow_nil _ _ _ _, (fun z hz => by cases hz), rfl, by simp, haw, fun y hy => by cases hy⟩
    | goes _ _ _ _ h _ _ => exact absurd h h3
  | goes hm hw hh hf hrd hrow hfst hran hst hat haw hfr =>
    rename_i rv ys g'
    have h1 := hKn hw
    have h2 := fun k => hh ((hHas hm).2 k)
    cases hr with
    | no hno hbv =>
      cases hno with
      | wrong h => exact absurd hm h
      | has _ h => exact absurd h h2
      | known _ h => exact absurd h h1
      | full _ _ _ _ => omega
      | fullW _ _ _ _ h _ => exact absurd ((hReady hm).1 hrd) h
    | waits _ _ _ _ h _ _ => exact absurd ((hReady hm).1 hrd) h
    | goes _ _ _ _ _ hto hown =>
      obtain ⟨tail, htl⟩ := hfst
      rw [htl] at hran
      have hg := hS.goes hL hran hw (fun e he => (rightEv_iff he.1).o)
      have hxw : ∀ y ∈ gm.d.W, ¬ (y.o = Y.e.o ∧ y.s = Y.e.s) := fun y hy hd => h1 ((knowM_iff hS.rise).2 ⟨y, hy, hd⟩)
      have hlen : tail.length < gm.W.length + 1 := by
        have := hran.nw
        simp only [List.length_cons] at this
        omega
      have hlog : LogAt w' p me mw g' := hat.1
      have hlist := hS.list hran hst hlog.fewE hbW (hb hm) hxw _ hlen
      have hl0 : lessD gm.d.W Y.e = gm.d.W := by
        unfold lessD
        exact List.filter_eq_self.2 (fun y hy => by
          rw [Bool.not_eq_true', decide_eq_false_iff_not]
          exact hxw y hy)
      have hdr := drainM_d (gm.W.length + 1) ⟨gm.L ++ [Y], gm.W⟩ hS.rise
      have e1 : evs (gm.L ++ [Y]) = gm.d.L ++ [Y.e] := evs_append _ _
      simp only [e1] at hdr
      have e2 : evs gm.W = gm.d.W := rfl
      rw [e2, ← hlist] at hdr
      have e3 : (lastM ⟨gm.L ++ [Y], gm.W⟩).d = ⟨gm.d.L ++ Y.e :: tail, lessL gm.d.W (Y.e :: tail)⟩ := by
        show (drainM (gm.W.length + 1) ⟨gm.L ++ [Y], gm.W⟩).d = _
        rw [hdr]
        have e5 : lessL gm.d.W (Y.e :: tail) = lessL gm.d.W tail := by
          show lessL (lessD gm.d.W Y.e) tail = _
          rw [hl0]
        rw [e5]
        simp
      have hto' := hto
      obtain ⟨eo', cap', fo', cap2', hAt, _, _⟩ := hto'
      refine ⟨_, _, 0, g', _, ys, _, rfl, rfl, by rw [e3]; exact hg, by rw [e3]; exact nod_goes hn hS hL hran, hat, hto, hrow, hown, fun z hz => hAt.okL z (List.mem_of_mem_drop hz), ?_, ?_, haw, hfr⟩
      · have e4 : evs (lastM ⟨gm.L ++ [Y], gm.W⟩).L = gm.d.L ++ Y.e :: tail := by
          have := congrArg Dl.L e3
          exact this
        rw [htl, evs_drop, e4]
        have e6 : gm.L.length = gm.d.L.length := (evs_len gm.L).symm
        rw [e6, List.drop_left]
      · rw [List.length_drop]
        have := hAt.fewL
        omega
end Go.Proofs.YtjlompnjhmbhhaaGreat
/-
  Package oplog: Get.
-/
namespace Go.Proofs.YtjlompnjhmbhhaaGreat
open Go.RowKit Go.Maps

/-- What Get answers. -/
def GetP (w : World) (r : Option Ev) (e : Ending) (w' : World) : Prop := ∃ y : EvM, e = .returned (.tuple #[y.val, .bool r.isSome]) ∧ y.e = r.getD zeroEv ∧ EvOk w' y ∧ Below w.heap.size w w'
theorem lookE_val (r : Option EvM) : (r.map EvM.val).getD zeroV = (r.getD zeroEM).val := by
  cases r with
  | none => rfl
  | some x => rfl
theorem lookE_ev (r : Option EvM) : (r.getD zeroEM).e = (r.map (·.e)).getD zeroEv := by
  cases r <;> rfl
set_option maxRecDepth 1000000 in
set_option maxHeartbeats 4000000 in
theorem LogAt.get {w : World} {p me mw : Nat} {g : Lg} (h : LogAt w p me mw g) (o s : Int) (ho : I64 o) (hs : I64 s) : Calls Tryz.prog 37 #[.pointer (some ⟨p, 0, none⟩), .agg #[.int .i64 o, .int .i64 s]] w (GetP w ((g.E o s).map (·.e))) := by
  obtain ⟨W, hW⟩ : ∃ W, W = (w.alloc (.cells #[.int .i64 o, .int .i64 s] 25)).alloc (.cells #[.int .i64 0, .int .i64 0, .slice none 0 0, .string ⟨#[]⟩, .int .i64 0, .string ⟨#[]⟩, .int .i64 0, .bool false] 33) := ⟨_, rfl⟩
  have HB : Hid (Below w.heap.size w W) := by rw [hW]; exact ((Below.refl _ _).alloc (Nat.le_refl _) _).alloc (by simp) _
  obtain ⟨r, hr⟩ : ∃ r, r = w.heap.size + 1 := ⟨_, rfl⟩
  obtain ⟨pb, hpb⟩ : ∃ q, q = w.heap.size := ⟨_, rfl⟩
  have HK : Hid (Blk W r 33 [.int .i64 0, .int .i64 0, .slice none 0 0, .string ⟨#[]⟩, .int .i64 0, .string ⟨#[]⟩, .int .i64 0, .bool false]) := by
    have := Blk.new (w.alloc (.cells #[.int .i64 o, .int .i64 s] 25)) 33 [.int .i64 0, .int .i64 0, .slice none 0 0, .string ⟨#[]⟩, .int .i64 0, .string ⟨#[]⟩, .int .i64 0, .bool false]
    rw [World.size_alloc] at this
    rw [hW, hr]
    exact this
  have HK0 : Hid (Blk W pb 25 [.int .i64 o, .int .i64 s]) := by
    rw [hW, hpb]
    exact (Blk.new w 25 [.int .i64 o, .int .i64 s]).below ((Below.refl _ _).alloc (Nat.le_refl _) _) (by simp)
  have HRL : Hid (w.heap.size ≤ r) := by rw [hr]; exact Nat.le_succ _
  have HL := hid (h.below HB.out)
  have HCL := hid (closedL_no HL.out)
  obtain ⟨D, hD⟩ := HL.out.em
  have HYO : Hid (EvOk W ((g.E o s).getD zeroEM)) := by
    cases hE : g.E o s with
    | none => exact EvOk.zero W
    | some x => exact (hD.ok o s x hE).1.ok
  have HYE := hid (lookE_ev (g.E o s))
  have HLK : Hid (∀ V, Sc W V → (Instr.lookup 41 (.map (some me)) (.agg #[.int .i64 o, .int .i64 s]) true).run Tryz.prog V = .ok (.tuple #[((g.E o s).getD zeroEM).val, .bool (g.E o s).isSome]) V) := fun V hV => by
    have h1 := (hD.below hV.out).look ho hs
    rw [lookE_val] at h1
    exact h1
  have HIS : Hid (((g.E o s).map (·.e)).isSome = (g.E o s).isSome) := by show _ = _; cases g.E o s <;> rfl
  obtain ⟨q, HQ⟩ : ∃ z, Hid ((g.E o s).isSome = z) := ⟨_, hid rfl⟩
  rw [HQ.out] at HLK HIS
  obtain ⟨Y, HY⟩ : ∃ y, Hid ((g.E o s).getD zeroEM = y) := ⟨_, hid rfl⟩
  rw [HY.out] at HLK HYO HYE
  obtain ⟨ro, HRO⟩ : ∃ z, Hid ((g.E o s).map (·.e) = z) := ⟨_, hid rfl⟩
  rw [HRO.out] at HIS HYE ⊢
  have c1 := HL.out.cells
  obtain ⟨ao0, cap0, _, _, c1, _⟩ := c1
  have HC1 := hid c1
  have HPL := hid (HL.out.lt p (.inl rfl))
  obtain ⟨Y2, HY2⟩ : ∃ y, Hid (Y = y) := ⟨_, hid rfl⟩
  have HTL : Hid (∀ V, Sc W V → Calls Tryz.prog 49 #[Y.val] V (ToldL V Y2)) := fun V hV => by rw [← HY2.out]; exact toldL_any V Y (HYO.out.below hV.out)
  rw [HY2.out] at HYE
  have HYO2 := hid (HY2.out ▸ HYO.out : EvOk W Y2)
  clear HYO HY
  obtain ⟨⟨yo, ys, yd, yc, ye, yk, yq, yl⟩, ya, yp⟩ := Y
  obtain ⟨YN, HYN⟩ : ∃ m, Hid (yd.length = m) := ⟨_, hid rfl⟩
  simp only [EvM.val] at HLK HTL
  rw [HYN.out] at HLK HTL
  have HSA : Hid (∀ V, Sc W V → (Sc W V ∧ V.cell? ⟨pb, 0, none⟩ = some (.int .i64 o) ∧ V.cell? ⟨pb, 1, none⟩ = some (.int .i64 s) ∧ V.cell? ⟨p, 1, none⟩ = some (.map (some me)) ∧ (Instr.lookup 41 (.map (some me)) (.agg #[.int .i64 o, .int .i64 s]) true).run Tryz.prog V = .ok (.tuple #[.agg #[.int .i64 yo, .int .i64 ys, .slice ya YN yp, .string yc, .int .i64 ye, .string yk, .int .i64 yq, .bool yl], .bool q]) V)) := fun V hV => by
    have hb := HK0.out.below hV.out HK0.out.lt
    exact ⟨hV, hb.cell rfl, hb.cell rfl, (hV.out.cell (p := ⟨p, 1, none⟩) HPL.out).trans HC1.out, HLK.out V hV⟩
  have HW := hid hW
  have HRR := hid hr
  have HPB := hid hpb
  clear hW hr hpb h hD c1 HLK HQ
  go_enter Tryz.func37, Tryz.ntmps37
  go_wp2_with fail
  rw [← HW.out, ← HRR.out, ← HPB.out]
  refine HCL.out.mono ?_
  rintro e w1 ⟨rfl, hw1⟩
  subst hw1
  go_wp2
  go_region_held3 (fun V => Sc w1 V ∧ V.cell? ⟨pb, 0, none⟩ = some (.int .i64 o) ∧ V.cell? ⟨pb, 1, none⟩ = some (.int .i64 s) ∧ V.cell? ⟨p, 1, none⟩ = some (.map (some me)) ∧ (Instr.lookup 41 (.map (some me)) (.agg #[.int .i64 o, .int .i64 s]) true).run Tryz.prog V = .ok (.tuple #[.agg #[.int .i64 yo, .int .i64 ys, .slice ya YN yp, .string yc, .int .i64 ye, .string yk, .int .i64 yq, .bool yl], .bool q]) V)
    (first | (refine ⟨?_, ?_, ?_, ?_, ?_⟩ <;> assumption) | (refine HSA.out _ ?_; (repeat (first | assumption | exact Sc.start _ | apply Sc.dr | apply Sc.alloc | refine Sc.setCell ?_ (by first | exact Nat.le_refl _ | (simp; done) | (simp; omega)) _)))) (fail)
  all_goals
    rename_i hHeld
    obtain ⟨V, hV⟩ : ∃ V, V = (w1.alloc (.cells #[.int .i64 yo, .int .i64 ys, .slice ya YN yp, .string yc, .int .i64 ye, .string yk, .int .i64 yq, .bool yl] 33)).drew := ⟨_, rfl⟩
    obtain ⟨eb, heb⟩ : ∃ q, q = w1.heap.size := ⟨_, rfl⟩
    have hSC : Sc w1 V := by rw [hV]; exact ((Sc.start _).alloc _).dr
    have hEB : Blk V eb 33 [.int .i64 yo, .int .i64 ys, .slice ya YN yp, .string yc, .int .i64 ye, .string yk, .int .i64 yq, .bool yl] := by rw [hV, heb]; exact (Blk.new w1 33 [.int .i64 yo, .int .i64 ys, .slice ya YN yp, .string yc, .int .i64 ye, .string yk, .int .i64 yq, .bool yl]).drew
    rw [← hV, ← heb]
    have HSC := hid hSC
    have k0 := hEB.cell (i := 0) rfl
    have k1 := hEB.cell (i := 1) rfl
    have k2 := hEB.cell (i := 2) rfl
    have k3 := hEB.cell (i := 3) rfl
    have k4 := hEB.cell (i := 4) rfl
    have k5 := hEB.cell (i := 5) rfl
    have k6 := hEB.cell (i := 6) rfl
    have k7 := hEB.cell (i := 7) rfl
    clear hV heb hSC hEB hHeld HSA
    go_wp2_with fail
    refine (HTL.out V HSC.out).mono ?_
    rintro e w5 ⟨y, rfl, hye, hky, _, hb5⟩
    obtain ⟨y2, HY3⟩ : ∃ z, Hid (y = z) := ⟨_, hid rfl⟩
    have HEY : Hid (y2.e = Y2.e) := by rw [← HY3.out]; exact hye
    have HB5 : Hid (Below w1.heap.size w1 w5) := bt HSC.out.out hb5
    have HOY : Hid (EvKeep w5 y2) := by rw [← HY3.out]; exact hky
    have HK5 := hid (HK.out.below HB5.out HK.out.lt)
    obtain ⟨⟨zo, zs, zd, zc, ze, zk, zq, zl⟩, za, zp⟩ := y
    obtain ⟨ZN, HZN⟩ : ∃ m, Hid (zd.length = m) := ⟨_, hid rfl⟩
    simp only [EvM.val]
    rw [HZN.out]
    have f0 := HK5.out.frozen 0
    have f1 := HK5.out.frozen 1
    have f2 := HK5.out.frozen 2
    have f3 := HK5.out.frozen 3
    have f4 := HK5.out.frozen 4
    have f5 := HK5.out.frozen 5
    have f6 := HK5.out.frozen 6
    have f7 := HK5.out.frozen 7
    have g0 := HK5.out.cell (i := 0) rfl
    have g1 := HK5.out.cell (i := 1) rfl
    have g2 := HK5.out.cell (i := 2) rfl
    have g3 := HK5.out.cell (i := 3) rfl
    have g4 := HK5.out.cell (i := 4) rfl
    have g5 := HK5.out.cell (i := 5) rfl
    have g6 := HK5.out.cell (i := 6) rfl
    have g7 := HK5.out.cell (i := 7) rfl
    obtain ⟨W3, hW3⟩ : ∃ V, V = st8 w5 r (.int .i64 zo) (.int .i64 zs) (.slice za ZN zp) (.string zc) (.int .i64 ze) (.string zk) (.int .i64 zq) (.bool zl) := ⟨_, rfl⟩
    have hk9 : Blk W3 r 33 [.int .i64 zo, .int .i64 zs, .slice za ZN zp, .string zc, .int .i64 ze, .string zk, .int .i64 zq, .bool zl] := by rw [hW3]; exact st8_blk HK5.out _ _ _ _ _ _ _ _
    have ht9 : Turns (fun i => i = r) w5 W3 := by rw [hW3]; exact st8_turns _ _ _ _ _ _ _ _ _ _
    have HBF : Hid (GetP w ro (.returned (.tuple #[.agg #[.int .i64 zo, .int .i64 zs, .slice za ZN zp, .string zc, .int .i64 ze, .string zk, .int .i64 zq, .bool zl], .bool q])) W3) := by
      refine ⟨y2, ?_, ?_, ?_, ?_⟩
      · rw [HIS.out, ← HY3.out]
        simp only [EvM.val]
        rw [HZN.out]
      · rw [HEY.out]; exact HYE.out
      · exact (HOY.out.onEvs HK5.out ht9).ok
      · exact (bt HB.out HB5.out).trans (ht9.below (fun i hi => by rw [hi]; exact HRL.out) (bt HB.out HB5.out).size)
    have q0 := hk9.cell (i := 0) rfl
    have q1 := hk9.cell (i := 1) rfl
    have q2 := hk9.cell (i := 2) rfl
    have q3 := hk9.cell (i := 3) rfl
    have q4 := hk9.cell (i := 4) rfl
    have q5 := hk9.cell (i := 5) rfl
    have q6 := hk9.cell (i := 6) rfl
    have q7 := hk9.cell (i := 7) rfl
    unfold st8 at hW3
    clear hk9 ht9 hb5 hye hky
    go_wp2
    rw [← hW3]
    (try simp only [Exit.inBlock, Exit.then])
    refine bodyPost_ret (v := .tuple #[.agg #[.int .i64 zo, .int .i64 zs, .slice za ZN zp, .string zc, .int .i64 ze, .string zk, .int .i64 zq, .bool zl], .bool q]) ?_ rfl HBF.out
    rw [results_cell_tmp rfl]
    go_simp
end Go.Proofs.YtjlompnjhmbhhaaGreat
/-
  The document's log: Get, After.
-/
namespace Go.Proofs.YtjlompnjhmbhhaaGreat
open Go.RowKit Go.Maps
set_option linter.unusedSimpArgs false

def dotIs (o s : Int) (e : Ev) : Bool := decide (e.o = o ∧ e.s = s)
def NoDotL (L : List EvM) (o s : Int) (k : Nat) : Prop := ∀ j (h : j < L.length), j < k → ¬ (L[j].e.o = o ∧ L[j].e.s = s)
theorem find_dot {L : List EvM} {o s : Int} {k : Nat} (hk : k < L.length) (h : NoDotL L o s k) (hd : L[k].e.o = o ∧ L[k].e.s = s) : (evs L).find? (dotIs o s) = some L[k].e := by
  rw [List.find?_eq_some_iff_getElem]
  refine ⟨decide_eq_true hd, k, by rw [evs_len]; exact hk, by simp [evs], fun j hj => ?_⟩
  have h1 := h j (by omega) hj
  simp only [evs, List.getElem_map, dotIs]
  rw [decide_eq_false h1]
  rfl
theorem find_noDot {L : List EvM} {o s : Int} (h : NoDotL L o s L.length) : (evs L).find? (dotIs o s) = none := by
  rw [List.find?_eq_none]
  intro e he
  obtain ⟨y, hy, rfl⟩ := List.mem_map.1 he
  obtain ⟨j, hj, rfl⟩ := List.getElem_of_mem hy
  intro hd
  exact h j hj hj (of_decide_eq_true hd)
set_option maxRecDepth 1000000 in
set_option maxHeartbeats 4000000 in
theorem DlAt.get {w0 w : World} {x cap cap2 : Nat} {g : Dm} {eo fo : Option Addr} (h : DlAt w0 w x g eo cap fo cap2) (o s : Int) : Calls Tryz.prog 38 #[.pointer (some ⟨x, 0, none⟩), .agg #[.int .i64 o, .int .i64 s]] w (GetP w ((evs g.L).find? (dotIs o s))) := by
  obtain ⟨W, hW⟩ : ∃ W, W = (w.alloc (.cells #[.int .i64 o, .int .i64 s] 25)).alloc (.cells #[.int .i64 0, .int .i64 0, .slice none 0 0, .string ⟨#[]⟩, .int .i64 0, .string ⟨#[]⟩, .int .i64 0, .bool false] 33) := ⟨_, rfl⟩
  have HB : Hid (Below w.heap.size w W) := by rw [hW]; exact ((Below.refl _ _).alloc (Nat.le_refl _) _).alloc (by simp) _
  obtain ⟨r, hr⟩ : ∃ r, r = w.heap.size + 1 := ⟨_, rfl⟩
  obtain ⟨pb, hpb⟩ : ∃ q, q = w.heap.size := ⟨_, rfl⟩
  have HK : Hid (Blk W r 33 [.int .i64 0, .int .i64 0, .slice none 0 0, .string ⟨#[]⟩, .int .i64 0, .string ⟨#[]⟩, .int .i64 0, .bool false]) := by
    have := Blk.new (w.alloc (.cells #[.int .i64 o, .int .i64 s] 25)) 33 [.int .i64 0, .int .i64 0, .slice none 0 0, .string ⟨#[]⟩, .int .i64 0, .string ⟨#[]⟩, .int .i64 0, .bool false]
    rw [World.size_alloc] at this
    rw [hW, hr]
    exact this
  have HK0 : Hid (Blk W pb 25 [.int .i64 o, .int .i64 s]) := by
    rw [hW, hpb]
    exact (Blk.new w 25 [.int .i64 o, .int .i64 s]).below ((Below.refl _ _).alloc (Nat.le_refl _) _) (by simp)
  have HRL : Hid (w.heap.size ≤ r) := by rw [hr]; exact Nat.le_succ _
  have HW0S : Hid (w0.heap.size ≤ w.heap.size) := h.bel.size
  have H := hid (h.below HB.out)
  obtain ⟨m, HM⟩ : ∃ m, Hid (g.L.length = m) := ⟨_, hid rfl⟩
  have HMF : Hid (m ≤ 65536) := by rw [← HM.out]; exact h.fewL
  have HCL : Hid (m ≤ cap) := by rw [← HM.out]; exact h.heldL.2
  have HW := hid hW
  have HRR := hid hr
  have HPB := hid hpb
  clear hW hr hpb h
  obtain ⟨ro, HRO⟩ : ∃ z, Hid ((evs g.L).find? (dotIs o s) = z) := ⟨_, hid rfl⟩
  rw [HRO.out]
  go_enter Tryz.func38, Tryz.ntmps38
  go_wp2
  rw [← HW.out, ← HRR.out, ← HPB.out]
  go_loopw [6] (fun i wr => ∃ k : Nat, k ≤ m ∧ i = .int .i64 k ∧ Hid (NoDotL g.L o s k) ∧ Hid (Below W.heap.size W wr)) (fun i _ => m - (intOf i).toNat)
  case atStart => exact ⟨0, Nat.zero_le _, rfl, fun j _ h => (by omega), Below.refl _ _⟩
  case round =>
    obtain ⟨k, hk, rfl, HNO, HBR⟩ := hrel
    have HR := hid (H.out.below HBR.out)
    have HK5 := hid (HK.out.below HBR.out HK.out.lt)
    have e0 := HR.out.blk.cell (i := 0) rfl
    rw [HM.out] at e0
    have hk0 : (0 : Int) ≤ (k : Int) := by omega
    by_cases hlt : k < m
    · have hlt' : (k : Int) < (m : Int) := by omega
      have HKX : Hid (k < g.L.length) := by rw [HM.out]; exact hlt
      have HKM : Hid (k + 1 ≤ m) := (by omega : k + 1 ≤ m)
      have hwk : wrap64 ((k : Int) + 1) = (k : Int) + 1 := wrapN (by omega) (by have := HMF.out; omega)
      obtain ⟨bL, heo⟩ := row_zero HR.out.rowL (by have := HKX.out; omega)
      obtain ⟨b, off, hao, hbl, a0, a1, a2, a3, a4, a5, a6, a7⟩ := HR.out.heldL.1.at HKX.out
      rw [heo] at hao
      cases hao
      rw [heo] at e0
      have p0 := (HK0.out.below HBR.out HK0.out.lt).cell (i := 0) rfl
      have p1 := (HK0.out.below HBR.out HK0.out.lt).cell (i := 1) rfl
      have HYO : Hid (EvOk w0 (g.L[k]'HKX.out)) := H.out.okL _ (List.getElem_mem _)
      obtain ⟨Y, HY⟩ : ∃ z, Hid (g.L[k]'HKX.out = z) := ⟨_, hid rfl⟩
      rw [HY.out] at a0 a1 a2 a3 a4 a5 a6 a7 HYO
      obtain ⟨Y2, HY2⟩ : ∃ z, Hid (Y = z) := ⟨_, hid rfl⟩
      have HYO2 : Hid (EvOk w0 Y2) := by rw [← HY2.out]; exact HYO.out
      obtain ⟨⟨yo, ys, yd, yc, ye, yk, yq, yl⟩, ya, yp⟩ := Y
      obtain ⟨YN, HYN⟩ : ∃ m, Hid (yd.length = m) := ⟨_, hid rfl⟩
      simp only [Nat.zero_add] at a0 a1 a2 a3 a4 a5 a6 a7
      rw [HYN.out] at a2
      by_cases hkw : yo = o ∧ ys = s
      · have HFD : Hid (ro = some Y2.e) := by
          show _ = _
          rw [← HRO.out, find_dot HKX.out HNO.out (by rw [HY.out]; exact hkw), HY.out, HY2.out]
        obtain ⟨rfl, rfl⟩ := hkw
        clear hlt hk
        go_wp2
        go_quiet (fail)
        obtain ⟨w5, HW5⟩ : ∃ V, Hid (V = wr.drewN nq) := ⟨_, hid rfl⟩
        rw [← HW5.out]
        have HD5 : Hid (Below wr.heap.size wr w5) := by rw [HW5.out]; exact below_dn (Below.refl _ _) nq
        have HK6 := hid (HK5.out.below HD5.out HK5.out.lt)
        have HR6 := hid (HR.out.below HD5.out)
        have HB6 := hid (bt HB.out (bt HBR.out HD5.out))
        clear a0 a1 a2 a3 a4 a5 a6 a7 p0 p1 e0
        have e0 := HR6.out.blk.cell (i := 0) rfl
        rw [HM.out, heo] at e0
        obtain ⟨b, off, hao, hbl, a0, a1, a2, a3, a4, a5, a6, a7⟩ := HR6.out.heldL.1.at HKX.out
        rw [heo] at hao
        cases hao
        rw [HY.out] at a0 a1 a2 a3 a4 a5 a6 a7
        simp only [Nat.zero_add] at a0 a1 a2 a3 a4 a5 a6 a7
        rw [HYN.out] at a2
        have f0 := HK6.out.frozen 0
        have f1 := HK6.out.frozen 1
        have f2 := HK6.out.frozen 2
        have f3 := HK6.out.frozen 3
        have f4 := HK6.out.frozen 4
        have f5 := HK6.out.frozen 5
        have f6 := HK6.out.frozen 6
        have f7 := HK6.out.frozen 7
        have g0 := HK6.out.cell (i := 0) rfl
        have g1 := HK6.out.cell (i := 1) rfl
        have g2 := HK6.out.cell (i := 2) rfl
        have g3 := HK6.out.cell (i := 3) rfl
        have g4 := HK6.out.cell (i := 4) rfl
        have g5 := HK6.out.cell (i := 5) rfl
        have g6 := HK6.out.cell (i := 6) rfl
        have g7 := HK6.out.cell (i := 7) rfl
        obtain ⟨W3, hW3⟩ : ∃ V, V = st8 w5 r (.int .i64 yo) (.int .i64 ys) (.slice ya YN yp) (.string yc) (.int .i64 ye) (.string yk) (.int .i64 yq) (.bool yl) := ⟨_, rfl⟩
        have hk9 : Blk W3 r 33 [.int .i64 yo, .int .i64 ys, .slice ya YN yp, .string yc, .int .i64 ye, .string yk, .int .i64 yq, .bool yl] := by rw [hW3]; exact st8_blk HK6.out _ _ _ _ _ _ _ _
        have ht9 : Turns (fun i => i = r) w5 W3 := by rw [hW3]; exact st8_turns _ _ _ _ _ _ _ _ _ _
        have HBF : Hid (GetP w ro (.returned (.tuple #[.agg #[.int .i64 yo, .int .i64 ys, .slice ya YN yp, .string yc, .int .i64 ye, .string yk, .int .i64 yq, .bool yl], .bool true])) W3) := by
          refine ⟨Y2, ?_, ?_, ?_, ?_⟩
          · rw [HFD.out, ← HY2.out]
            simp only [EvM.val]
            rw [HYN.out]
            rfl
          · rw [HFD.out]; rfl
          · have h9 := HR6.out.bel
            exact HYO2.out.below (h9.trans (ht9.below (fun i hi => by rw [hi]; exact Nat.le_trans HW0S.out HRL.out) h9.size))
          · exact HB6.out.trans (ht9.below (fun i hi => by rw [hi]; exact HRL.out) HB6.out.size)
        have q0 := hk9.cell (i := 0) rfl
        have q1 := hk9.cell (i := 1) rfl
        have q2 := hk9.cell (i := 2) rfl
        have q3 := hk9.cell (i := 3) rfl
        have q4 := hk9.cell (i := 4) rfl
        have q5 := hk9.cell (i := 5) rfl
        have q6 := hk9.cell (i := 6) rfl
        have q7 := hk9.cell (i := 7) rfl
        unfold st8 at hW3
        clear hk9 ht9
        go_wp2
        rw [← hW3]
        (try simp only [Exit.inBlock, Exit.then])
        refine bodyPost_ret (v := .tuple #[.agg #[.int .i64 yo, .int .i64 ys, .slice ya YN yp, .string yc, .int .i64 ye, .string yk, .int .i64 yq, .bool yl], .bool true]) ?_ rfl HBF.out
        rw [results_cell_tmp rfl]
        go_simp
      · have HNX : Hid (NoDotL g.L o s (k + 1)) := fun j hj hjk => by
          by_cases e : j = k
          · subst e
            rw [HY.out]
            exact hkw
          · exact HNO.out j hj (by omega)
        have hqe := fun W => eql_dotL W yo ys o s hkw
        clear hlt hk hkw
        go_wp2
        go_quiet (fail)
        go_wp2
        go_roundw
        case rel => exact ⟨k + 1, HKM.out, by go_num, HNX.out, below_dn HBR.out _⟩
        case measure => first | exact measNW HKM.out hwk | exact measN1 HKM.out
    · have hlt' : ¬ (k : Int) < (m : Int) := by omega
      have HFD : Hid (ro = none) := by
        show _ = _
        rw [← HRO.out]
        refine find_noDot ?_
        have h1 : g.L.length = k := by have := HM.out; omega
        rw [h1]
        exact HNO.out
      have HB6 := hid (bt HB.out HBR.out)
      have f0 := HK5.out.frozen 0
      have f1 := HK5.out.frozen 1
      have f2 := HK5.out.frozen 2
      have f3 := HK5.out.frozen 3
      have f4 := HK5.out.frozen 4
      have f5 := HK5.out.frozen 5
      have f6 := HK5.out.frozen 6
      have f7 := HK5.out.frozen 7
      have g0 := HK5.out.cell (i := 0) rfl
      have g1 := HK5.out.cell (i := 1) rfl
      have g2 := HK5.out.cell (i := 2) rfl
      have g3 := HK5.out.cell (i := 3) rfl
      have g4 := HK5.out.cell (i := 4) rfl
      have g5 := HK5.out.cell (i := 5) rfl
      have g6 := HK5.out.cell (i := 6) rfl
      have g7 := HK5.out.cell (i := 7) rfl
      obtain ⟨W3, hW3⟩ : ∃ V, V = st8 wr r (.int .i64 0) (.int .i64 0) (.slice none 0 0) (.string ⟨#[]⟩) (.int .i64 0) (.string ⟨#[]⟩) (.int .i64 0) (.bool false) := ⟨_, rfl⟩
      have hk9 : Blk W3 r 33 [.int .i64 0, .int .i64 0, .slice none 0 0, .string ⟨#[]⟩, .int .i64 0, .string ⟨#[]⟩, .int .i64 0, .bool false] := by rw [hW3]; exact st8_blk HK5.out _ _ _ _ _ _ _ _
      have ht9 : Turns (fun i => i = r) wr W3 := by rw [hW3]; exact st8_turns _ _ _ _ _ _ _ _ _ _
      have HBF : Hid (GetP w ro (.returned (.tuple #[zeroV, .bool false])) W3) := by
        refine ⟨zeroEM, ?_, ?_, EvOk.zero _, HB6.out.trans (ht9.below (fun i hi => by rw [hi]; exact HRL.out) HB6.out.size)⟩
        · rw [HFD.out]; rfl
        · rw [HFD.out]; rfl
      have q0 := hk9.cell (i := 0) rfl
      have q1 := hk9.cell (i := 1) rfl
      have q2 := hk9.cell (i := 2) rfl
      have q3 := hk9.cell (i := 3) rfl
      have q4 := hk9.cell (i := 4) rfl
      have q5 := hk9.cell (i := 5) rfl
      have q6 := hk9.cell (i := 6) rfl
      have q7 := hk9.cell (i := 7) rfl
      unfold st8 at hW3
      clear hk9 ht9 hlt hk
      go_wp2
      rw [← hW3]
      (try simp only [Exit.inBlock, Exit.then])
      refine bodyPost_ret (v := .tuple #[zeroV, .bool false]) ?_ rfl HBF.out
      rw [results_cell_tmp rfl]
      unfold zeroV
      go_simp
end Go.Proofs.YtjlompnjhmbhhaaGreat
