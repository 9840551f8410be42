/-
  LearnerGrows: rows of entries; what a round over From keeps; marks of ranges; a range whose second variable lies in a box.
-/
import Derived.Test.YtgghfmdciohinaaSeqH
namespace Go.Proofs.Ytgghfmdciohinaa
open Go.RowKit Go.Shelf Go.Maps
attribute [local go_sem] Oper.semAt_some

def flatEn (xs : List EnM) : List Value := xs.flatMap EnM.cells
theorem flatEn_snoc (xs : List EnM) (x : EnM) : flatEn (xs ++ [x]) = flatEn xs ++ x.cells := by simp [flatEn]
theorem flatEn_get : ∀ (xs : List EnM) (j : Nat) (hj : j < xs.length) (c : Nat) (u : Value), xs[j].cells[c]? = some u → (flatEn xs)[j * 5 + c]? = some u
  | [], j, hj, _, _, _ => by cases hj
  | x :: r, 0, _, c, u, h => by
    simp only [List.getElem_cons_zero] at h
    have hc : c < 5 := (List.getElem?_eq_some_iff.1 h).1
    unfold flatEn
    rw [List.flatMap_cons, Nat.zero_mul, Nat.zero_add, List.getElem?_append_left (show c < 5 from hc)]
    exact h
  | x :: r, j + 1, hj, c, u, h => by
    simp only [List.getElem_cons_succ] at h
    have := flatEn_get r j (by simpa using hj) c u h
    unfold flatEn at this ⊢
    rw [List.flatMap_cons, List.getElem?_append_right (show x.cells.length ≤ _ by show 5 ≤ _; omega)]
    rw [show (j + 1) * 5 + c - x.cells.length = j * 5 + c by show _ - 5 = _; omega]
    exact this
theorem en_one (x : EnM) : ∀ u ∈ x.cells, u.oneCell' = true := by
  intro u hu
  simp only [EnM.cells, List.mem_cons, List.not_mem_nil, or_false] at hu
  rcases hu with rfl | rfl | rfl | rfl | rfl <;> rfl
theorem Try.infoEnQ : (Try.prog.info? 33).map (fun i => (i.zero, i.size, i.bytes)) = some (some (.agg #[.bool false, .string ⟨#[]⟩, .string ⟨#[]⟩, .int .i64 0, .slice none 0 0]), 5, 72) := by kernel_rfl
/-- append(have, e) in a fence. -/
theorem wpListIn_append_en {F : Fence} {n : Nat} {ops : Array Oper} {rest : List Oper} {o : Oper} {a : Act} {Q : Exit → Act → World → Prop} (W0 W : World) (x : EnM) (hW : W = W0.alloc (.cells x.cells.toArray 33)) (hgd : o.guard = none) (s xx : Operand)
    (ho : o.op = .call { callee := .builtin .append, args := #[s, xx], argTypes := #[40, 40] }) (B : Nat) (v : Value) (ds : List EnM) (k : Nat) (hk : ds.length = k)
    (hs : a.eval s = v) (gg : Nat) (hx : a.eval xx = .slice (some ⟨gg, 0, none⟩) 1 1) (hgg : gg = W0.heap.size) (hown : W0.ownsRow B 33 5 v k (flatEn ds)) (hB : B ≤ W0.heap.size) (hl : k ≤ 1000000)
    (h : ∀ bo cp w', w'.ownsRow B 33 5 (.slice bo (k + 1) cp) (k + 1) (flatEn (ds ++ [x])) → Below B W0 w' → W.grownBy w' v.ownBlock → wpListIn F n Try.prog ops Q rest (a.put o.dst (.slice bo (k + 1) cp)) w') :
    wpListIn F n Try.prog ops Q (o :: rest) a W := by
  subst hW
  subst hgg
  obtain ⟨iI, hj, hy0, hy1, hy2⟩ := info_parts Try.infoEnQ
  have hn := Blk.new W0 33 x.cells
  refine wpListIn_append_own _ hgd s xx 40 ho B 33 iI _ 5 72 Try.underlying40 hj hy0 hy1 hy2 rfl (by decide) v k (flatEn ds) hs (hown.alloc _) ⟨W0.heap.size, 0, none⟩ 1 1 x.cells hx rfl (fun j u hu => ?_) (en_one x) (by unfold maxLen; omega) (by omega) (by simp; omega) ?_
  · rw [Addr.add_lit, Nat.zero_add]
    exact hn.cell hu
  · intro v' w' hown' hgrow _
    rw [← flatEn_snoc] at hown'
    obtain ⟨bo, cp, rfl⟩ := own_slice hown'
    exact h bo cp w' hown' (((Below.refl _ _).alloc hB _).grown hgrow (by simp; omega) (fun k hk => (hown.lt k hk).1)) hgrow
theorem enKeep_turned {F : Nat → Prop} {w w' : World} {x : EnM} (h : EnKeep w x) (ho : ∀ b off, x.ao = some ⟨b, off, none⟩ → x.e.cut ≠ [] → ¬ F b) (ht : Turns F w w') : EnKeep w' x := by
  refine ⟨⟨⟨h.ok.cut.held.turned ht ho, h.ok.cut.room, h.ok.cut.few⟩, h.ok.ie, h.ok.ht, h.ok.hc⟩, fun b off e hne => ?_⟩
  obtain ⟨cs, hb⟩ := h.num b off e hne
  exact ⟨cs, ht.blk hb (ho b off e hne)⟩
theorem EnKeep.noCells {V V' : World} {x : EnM} {row : Option Nat} (h : EnKeep V x) (hg : V.grownBy V' row) (hr : ∀ r, row = some r → ∃ o : Obj, V.heap[r]? = some o ∧ o.isCells = false) : EnKeep V' x := by
  refine enKeep_turned h (fun b off e hne hc => ?_) (Turns.of_grown (F := fun i => row = some i) hg (fun _ h => h))
  obtain ⟨cs, hb⟩ := h.num b off e hne
  obtain ⟨o, ho, hoc⟩ := hr b hc
  unfold Blk at hb
  rw [hb] at ho
  cases ho
  cases hoc
/-- A block of entries. -/
def EnTyped (V : World) (k : Nat) : Prop := ∃ cs, Blk V k 33 cs
/-- What a round over a learner's entries keeps: all but Fo, and blocks of entries. -/
def Kn (Fo : Nat → Prop) (V V' : World) : Prop := Turns (fun k => Fo k ∨ EnTyped V k) V V'
section
variable {Fo Fi : Nat → Prop} {A B C w w' : World}
theorem Kn.refl (Fo : Nat → Prop) (A : World) : Kn Fo A A := Turns.refl _ _
theorem Kn.trans (h : Kn Fo A B) (k : Kn Fo B C) : Kn Fo A C :=
  ⟨k.os.trans h.os, k.tape.trans h.tape, k.output.trans h.output, Nat.le_trans h.size k.size, fun i hi hn => by
    have e := h.block i hi hn
    refine (k.block i (Nat.lt_of_lt_of_le hi h.size) (fun hc => hn ?_)).trans e
    rcases hc with hc | ⟨cs, hc⟩
    · exact .inl hc
    · exact .inr ⟨cs, e.symm.trans hc⟩⟩
theorem Kn.below (h : Below A.heap.size A B) : Kn Fo A B := Turns.of_below h (Nat.le_refl _)
theorem blk_typeQ {w : World} {b : Nat} {t t' : TypeId} {cs cs' : List Value} (h : Blk w b t cs) (k : Blk w b t' cs') : t = t' := by
  unfold Blk at h k
  rw [h] at k
  cases k
  rfl
theorem Kn.blk (h : Kn Fo A B) {k : Nat} {t : TypeId} {cs : List Value} (hb : Blk A k t cs) (hn : ¬ Fo k) (ht : t ≠ 33) : Blk B k t cs := by
  refine Turns.blk h hb ?_
  rintro (hc | ⟨cs', hc⟩)
  · exact hn hc
  · exact ht (blk_typeQ hb hc)
/-- A learner stays through a round. -/
theorem Kn.lr (h : Kn Fo w w') {p m pre z : Nat} {g : Lr} (hL : LrAt w p m pre z g) (hd : ∀ i, FootR p m i → ¬ Fo i) (hF : NoNum w (fun i => Fo i ∧ i < w.heap.size)) : LrAt w' p m pre z g := by
  have ht : Turns (fun i => (Fo i ∧ i < w.heap.size) ∨ EnTyped w i) w w' := ⟨h.os, h.tape, h.output, h.size, fun k hk hn => h.block k hk (fun hc => hn (hc.elim (fun hc => .inl ⟨hc, hk⟩) .inr))⟩
  refine hL.turned ht (fun i hi hc => ?_) (fun i hi cs hb => ?_)
  · rcases hc with hc | ⟨cs, hc⟩
    · exact hd i hi hc.1
    · rcases hi with rfl | rfl
      · exact absurd (blk_typeQ hL.blk hc) (by decide)
      · obtain ⟨S, D, hem, _⟩ := hL.map
        exact hc.not_map hem.map rfl
  · rcases hi with hc | ⟨cs', hc⟩
    · exact hF i hc cs hb
    · exact absurd (blk_typeQ hb hc) (by decide)
/-- A kept entry stays through a round. -/
theorem Kn.keep (h : Kn Fo w w') {x : EnM} (hx : EnKeep w x) (hF : ∀ b off, x.ao = some ⟨b, off, none⟩ → x.e.cut ≠ [] → ¬ Fo b) : EnKeep w' x :=
  enKeep_turned hx (fun b off e hne hc => by
    rcases hc with hc | ⟨cs, hc⟩
    · exact hF b off e hne hc
    · obtain ⟨cs', hb⟩ := hx.num b off e hne
      exact absurd (blk_typeQ hb hc) (by decide)) h
end
/-- What ranges leave among a function's deferred calls. -/
def markD (D : Nat) : Deferred := { target := .collected D, args := #[] }
structure Marks (B : Nat) (Ds : List Nat) (V : World) : Prop where
  one : Ds.Nodup
  at_ : ∀ D ∈ Ds, B ≤ D ∧ V.heap[D]? = some (.deferred (some []))
theorem Marks.nil (B : Nat) (V : World) : Marks B [] V := ⟨List.nodup_nil, fun D h => (by cases h)⟩
theorem Marks.turned {B : Nat} {Ds : List Nat} {V V' : World} {F : Nat → Prop} (h : Marks B Ds V) (ht : Turns F V V') (hF : ∀ i, F i → V.heap[i]? ≠ some (.deferred (some []))) : Marks B Ds V' :=
  ⟨h.one, fun D hD => ⟨(h.at_ D hD).1, (ht.block D (Array.getElem?_eq_some_iff.1 (h.at_ D hD).2).1 (fun hf => hF D hf (h.at_ D hD).2)).trans (h.at_ D hD).2⟩⟩
theorem Marks.below {B : Nat} {Ds : List Nat} {V V' : World} (h : Marks B Ds V) (hb : Below V.heap.size V V') : Marks B Ds V' := h.turned (F := fun _ => False) (Turns.of_below hb (Nat.le_refl _)) (fun _ h => h.elim)
theorem Marks.push {B : Nat} {Ds : List Nat} {V : World} (h : Marks B Ds V) {D : Nat} (h1 : B ≤ D) (h2 : V.heap[D]? = some (.deferred (some []))) (h3 : D ∉ Ds) : Marks B (D :: Ds) V :=
  ⟨List.nodup_cons.2 ⟨h3, h.one⟩, fun E hE => by
    rcases List.mem_cons.1 hE with rfl | hE
    · exact ⟨h1, h2⟩
    · exact h.at_ E hE⟩
/-- The end of a function that left marks: they are taken, one by one. -/
theorem leavesM_all {F : Fence} {n : Nat} {P : Program} {fn : Func} {tmps : Array Value} {R : Ending → World → Prop} {B : Nat} (Inv : World → Prop) (hInv : ∀ V D, Inv V → B ≤ D → V.heap[D]? = some (.deferred (some [])) → Inv (V.putObj D (.deferred none)))
    (hend : ∀ V, Inv V → LeavesIn F n P fn tmps R [] .returning V) : ∀ (Ds : List Nat) (V : World), Marks B Ds V → Inv V → LeavesInM F n P fn tmps R (Ds.map markD) .returning V
  | [], V, _, h => hend V h
  | D :: Ds, V, hm, h => by
    obtain ⟨h1, h2⟩ := hm.at_ D List.mem_cons_self
    refine ⟨by simp, .inl ⟨D, V.putObj D (.deferred none), rfl, run_takeDeferred h2, ?_⟩⟩
    refine leavesM_all Inv hInv hend Ds _ ⟨(List.nodup_cons.1 hm.one).2, fun E hE => ?_⟩ (hInv V D h h1 h2)
    obtain ⟨h3, h4⟩ := hm.at_ E (List.mem_cons_of_mem _ hE)
    refine ⟨h3, ?_⟩
    rw [World.putObj_heap_other (by rintro rfl; exact (List.nodup_cons.1 hm.one).1 hE)]
    exact h4
end Go.Proofs.Ytgghfmdciohinaa
/-
  LearnerGrows: what lies in memory between two entries, and between two rounds of its range.
-/
namespace Go.Proofs.Ytgghfmdciohinaa
open Go.RowKit Go.Shelf Go.Maps
attribute [local go_sem] Oper.semAt_some

theorem choose_keeps {g : Lr} {s j : Int} {e x : En} (h : g.f j = some x) : (chooseL g s e).f j = some x := by
  unfold chooseL
  split
  · next hc =>
    have h1 := (chooseC_zero hc).2.2.2.1
    show (if j = s then some e else g.f j) = _
    rw [if_neg (by rintro rfl; rw [h] at h1; cases h1)]
    exact h
  · exact h
/-- What is chosen lets the prefix only grow. -/
theorem pre_grows {w w' : World} {p m pre z pre' z' : Nat} {g : Lr} {s : Int} {e : En} (h : LrAt w p m pre z g) (h' : LrAt w' p m pre' z' (chooseL g s e)) : pre ≤ pre' := by
  apply Classical.byContradiction
  intro hlt
  have h1 := h.all (pre' : Int) (by omega) (by omega)
  obtain ⟨x, hx⟩ := Option.isSome_iff_exists.1 ((h.ok.has _).1 h1)
  exact h'.gap ((h'.ok.has _).2 (by rw [choose_keeps hx]; rfl))
/-- The entries of the first slots. -/
def FitH (g : Lr) (H : List EnM) : Prop := ∀ j (h : j < H.length), g.f (j : Int) = some H[j].e
theorem FitH.choose {g : Lr} {H : List EnM} (h : FitH g H) (s : Int) (e : En) : FitH (chooseL g s e) H := fun j hj => choose_keeps (h j hj)
theorem FitH.snoc {g : Lr} {H : List EnM} (h : FitH g H) {y : EnM} (hy : g.f (H.length : Int) = some y.e) : FitH g (H ++ [y]) := fun j hj => by
  by_cases e : j < H.length
  · rw [List.getElem_append_left e]
    exact h j e
  · have e' : j = H.length := by simp at hj; omega
    subst e'
    simp
    exact hy
/-- What stays between two calls: the result's box, the row of entries, the marks. -/
structure GrB (w V : World) (rb hb : Nat) (Ds : List Nat) (H : List EnM) (eo : Option Addr) (cap : Nat) : Prop where
  bel : Below w.heap.size w V
  res : Boxed V rb 4 (.bool false)
  hbx : Boxed V hb 40 (.slice eo H.length cap)
  row : V.ownsRow w.heap.size 33 5 (.slice eo H.length cap) H.length (flatEn H)
  ens : ∀ x ∈ H, EnKeep V x
  mks : Marks w.heap.size Ds V
  rl : w.heap.size ≤ rb
  hl : w.heap.size ≤ hb
section
variable {w V V' : World} {rb hb p m pre z cap : Nat} {Ds : List Nat} {H : List EnM} {eo : Option Addr} {g : Lr}
theorem boxed_blk {V : World} {b : Nat} {t : TypeId} {v : Value} (h : Boxed V b t v) : Blk V b t [v] := h
theorem GrB.below (h : GrB w V rb hb Ds H eo cap) (hb' : Below V.heap.size V V') : GrB w V' rb hb Ds H eo cap :=
  ⟨bt' h.bel hb', (hb'.block _ h.res.lt).trans h.res, (hb'.block _ h.hbx.lt).trans h.hbx, (Turns.of_below (F := fun _ => False) hb' (Nat.le_refl _)).row h.row (fun _ _ h => h), fun x hx => (h.ens x hx).below hb', h.mks.below hb', h.rl, h.hl⟩
/-- Behind Choose. -/
theorem GrB.choose (h : GrB w V rb hb Ds H eo cap) (hL : LrAt V p m pre z g) (ht : Turns (FootR p m) V V') (hp : ∀ i, FootR p m i → w.heap.size ≤ i) : GrB w V' rb hb Ds H eo cap := by
  obtain ⟨S, D, hem, _⟩ := hL.map
  have hbox : ∀ {b : Nat} {t : TypeId} {v : Value}, Boxed V b t v → t ≠ 49 → ¬ FootR p m b := by
    intro b t v hb1 ht1 hc
    rcases hc with rfl | rfl
    · exact ht1 (blk_typeQ (boxed_blk hb1) hL.blk)
    · exact (boxed_blk hb1).not_map hem.map rfl
  refine ⟨h.bel.trans (ht.below hp h.bel.size), (ht.block _ h.res.lt (hbox h.res (by decide))).trans h.res, (ht.block _ h.hbx.lt (hbox h.hbx (by decide))).trans h.hbx, ht.row h.row (fun gg hg hc => ?_), fun x hx => (h.ens x hx).turned hL.toLrMid.noNum ht, h.mks.turned ht (fun i hi => ?_), h.rl, h.hl⟩
  · rcases hc with rfl | rfl
    · exact hL.blk.not_row (by decide) h.row hg.symm
    · exact row_not_map h.row hem.map hg.symm
  · rcases hi with rfl | rfl
    · have h1 : V.heap[i]? = _ := hL.blk
      rw [h1]
      simp
    · obtain ⟨es, clock, h1, _⟩ := hem.map
      rw [h1]
      simp
end
/-- Between two rounds of the range: X is the world where it begins, L how many entries there were. -/
structure RnI (w X : World) (rb hb nb : Nat) (Ds : List Nat) (g : Lr) (L : Nat) (Fo : Nat → Prop) (pr : List (Int × EnM)) (V : World) (H : List EnM) (eo : Option Addr) (cap : Nat) : Prop where
  gr : GrB w V rb hb Ds H eo cap
  len : H.length = max L pr.length
  fit : FitH g H
  off : ∀ x ∈ H, ∀ b off, x.ao = some ⟨b, off, none⟩ → x.e.cut ≠ [] → b ≠ nb
  nbx : Boxed V nb 3 (.int .i64 (pr.length : Int))
  kn : Kn Fo X V
  mlt : ∀ D ∈ Ds, D < X.heap.size
def RnP (w X : World) (rb hb nb : Nat) (Ds : List Nat) (g : Lr) (L : Nat) (Fo : Nat → Prop) (pr : List (Int × EnM)) (V : World) : Prop := ∃ H eo cap, RnI w X rb hb nb Ds g L Fo pr V H eo cap
theorem boxed_own {W W' : World} {B : Nat} {t : TypeId} {v : Value} {row : Option Nat} (h : Boxed W B t v) (hg : W.grownBy W' row) (hr : ∀ r, row = some r → ∃ o : Obj, W.heap[r]? = some o ∧ o.isCells = false) : Boxed W' B t v := h.kept hg (fun e => by
  obtain ⟨o, ho, hc⟩ := hr B e.symm
  have h' : W.heap[B]? = some (.cells #[v] t (0, 0)) := h
  rw [h'] at ho
  cases ho
  cases hc)
theorem rnP_own (w X : World) (rb hb nb : Nat) (Ds : List Nat) (g : Lr) (L : Nat) (Fo : Nat → Prop) (hwX : w.heap.size ≤ X.heap.size) : OwnFrom X.heap.size (RnP w X rb hb nb Ds g L Fo) := by
  rintro pr V V' row ⟨H, eo, cap, h⟩ hg hr
  have hno : ∀ r, row = some r → ∃ o : Obj, V.heap[r]? = some o ∧ o.isCells = false := fun r e => (hr r e).2
  have hT : Turns (fun i => row = some i) V V' := Turns.of_grown hg (fun _ h => h)
  refine ⟨H, eo, cap, ⟨h.gr.bel.grown hg h.gr.bel.size (fun k e => Nat.le_trans hwX (hr k e).1), boxed_own h.gr.res hg hno, boxed_own h.gr.hbx hg hno, ?_, fun x hx => (h.gr.ens x hx).noCells hg hno, ⟨h.gr.mks.one, fun D hD => ⟨(h.gr.mks.at_ D hD).1, ?_⟩⟩, h.gr.rl, h.gr.hl⟩, h.len, h.fit, h.off, boxed_own h.nbx hg hno, Turns.grown h.kn hg (fun j e => .inr (hr j e).1), h.mlt⟩
  · refine hT.row h.gr.row (fun gg hgb e => ?_)
    rcases h.gr.row.2 with ⟨h0, _⟩ | ⟨g', c', cur, h0, _, hb, _⟩
    · rw [h0] at hgb
      simp [Value.ownBlock] at hgb
    · rw [h0] at hgb
      have : g' = gg := by simpa [Value.ownBlock] using hgb
      subst this
      obtain ⟨o, ho, hc⟩ := hno g' e
      rw [hb] at ho
      cases ho
      cases hc
  · have h1 := (h.gr.mks.at_ D hD).2
    refine (hT.block D (Array.getElem?_eq_some_iff.1 h1).1 (fun e => ?_)).trans h1
    have := (hr D e).1
    have := h.mlt D hD
    omega
end Go.Proofs.Ytgghfmdciohinaa
