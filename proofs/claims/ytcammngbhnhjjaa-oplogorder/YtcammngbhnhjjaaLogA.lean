/-
  Package oplog: a log in memory ('LogAt'), and the contracts of New, closed, full, next.
-/
import Derived.Test.YtcammngbhnhjjaaEvMay
import Derived.Test.YtcammngbhnhjjaaVvI2
import Derived.Test.YtcammngbhnhjjaaDotsG
import Derived.Test.YtcammngbhnhjjaaStrClone2
namespace Go.Proofs.Ytcammngbhnhjjaa
open Go.RowKit Go.Maps

theorem results_cell1 {fn : Func} {p : Tmp} {ty : TypeId} (h : fn.results = #[.cell p ty]) (tmps : Array Value) (P : Program) (w : World) :
    (results fn tmps).run P w = ((asAddr (tmps.getD p undef)).run P w).andThen fun a w₁ => (loadVar ty a).run P w₁ := by
  simp only [results, h]
  simp [Sem.run_bind, Result.andThen]
/-- May an event be in a log? -/
def MayE (e : Ev) : Prop := RightEv e = true ∧ 1 ≤ e.s ∧ ofV e.deps e.o = e.s - 1
instance (e : Ev) : Decidable (MayE e) := by unfold MayE; infer_instance
def ReadyE (A : List Int) (e : Ev) : Prop := e.s = ofV A e.o + 1 ∧ BelowV e.deps A
instance (A : List Int) (e : Ev) : Decidable (ReadyE A e) := by unfold ReadyE; infer_instance
/-- A vector does not lie in a block of events. -/
def NEv (w : World) (ao : Option Addr) (xs : List Int) : Prop := ∀ b off, ao = some ⟨b, off, none⟩ → xs ≠ [] → ∀ cs, ¬ Blk w b 33 cs
theorem nev_int {w : World} {b off : Nat} {xs : List Int} (h : ∃ cs, Blk w b 3 cs) : NEv w (some ⟨b, off, none⟩) xs := by
  intro b' off' e _ cs hb
  cases e
  obtain ⟨cs', h⟩ := h
  have h1 : w.heap[b]? = some (.cells cs'.toArray 3) := h
  have h2 : w.heap[b]? = some (.cells cs.toArray 33) := hb
  rw [h1] at h2
  injection h2 with h2
  injection h2 with _ h2
  exact absurd h2 (by decide)
theorem NEv.stay {F : Nat → Prop} {w w' : World} {ao : Option Addr} {xs : List Int} (h : NEv w ao xs) (hh : HeldInt w ao xs) (ht : Turns F w w') (hF : ∀ b off, ao = some ⟨b, off, none⟩ → xs ≠ [] → ¬ F b) : NEv w' ao xs := by
  intro b off e hne cs hb
  rcases hh.2 with h0 | ⟨b', off', e', hlt, _⟩
  · exact hne h0
  · rw [e] at e'
    cases e'
    exact h b off e hne cs ((ht.block b hlt (hF b off e hne)).symm.trans hb)
/-- An event that is kept: its vector lies apart from all events. -/
structure EvKeep (w : World) (x : EvM) : Prop where
  ok : EvOk w x
  ne : NEv w x.ao x.e.deps
abbrev Dots := Int → Int → Option EvM
/-- Events in a map, each at its dot. -/
structure EvMap (w : World) (m : Nat) (S : Dots) (n : Nat) (D : DataW Value) : Prop where
  map : w.ownsMap Try.prog 31 valR m n D
  key : ∀ o s, I64 o → I64 s → look D (dk o s) = (S o s).map EvM.val
  ok : ∀ o s x, S o s = some x → EvKeep w x ∧ x.e.o = o ∧ x.e.s = s
  cnt : Maps.size D = n
/-- What a log has: how many of each origin, the applied events, those that wait, and how many these are. -/
structure Lg where
  A : List Int
  E : Dots
  W : Dots
  ne : Nat
  nw : Nat
structure LogAt (w : World) (p me mw : Nat) (g : Lg) : Prop where
  blk : ∃ ao cap, Blk w p 52 [.slice ao g.A.length cap, .map (some me), .map (some mw)] ∧ HV w ao cap g.A ∧ NEv w ao g.A
  apart : me ≠ mw
  may : MayV g.A
  em : ∃ D, EvMap w me g.E g.ne D
  wm : ∃ D, EvMap w mw g.W g.nw D
  has : ∀ o s, (g.E o s).isSome = true ↔ HasV g.A o s
  evs : ∀ o s x, g.E o s = some x → MayE x.e ∧ BelowV x.e.deps g.A
  wait : ∀ o s x, g.W o s = some x → MayE x.e ∧ ¬ HasV g.A o s
  fewE : g.ne ≤ 65536
  fewW : g.nw ≤ 4096
def FootL (p me mw : Nat) (i : Nat) : Prop := i = p ∨ i = me ∨ i = mw
/-- No number lies in these blocks. -/
def NoInt (w : World) (F : Nat → Prop) : Prop := ∀ i, F i → ∀ off x, w.cell? ⟨i, off, none⟩ ≠ some (.int .i64 x)
theorem held_noInt {F : Nat → Prop} {w w' : World} {ao : Option Addr} {xs : List Int} (h : HeldInt w ao xs) (hF : NoInt w F) (ht : Turns F w w') : HeldInt w' ao xs := by
  refine h.turned ht (fun b off e hne hf => ?_)
  rcases h.2 with h0 | ⟨b', off', e', _, hc⟩
  · exact hne h0
  · rw [e] at e'
    cases e'
    have := hc 0 (List.length_pos_iff.2 hne)
    rw [Nat.add_zero] at this
    exact hF b hf _ _ this
theorem HV.noInt {F : Nat → Prop} {w w' : World} {ao : Option Addr} {c : Nat} {xs : List Int} (h : HV w ao c xs) (hF : NoInt w F) (ht : Turns F w w') : HV w' ao c xs := ⟨held_noInt h.held hF ht, h.room, h.few⟩
theorem noInt_off {F : Nat → Prop} {w : World} {ao : Option Addr} {xs : List Int} (h : HeldInt w ao xs) (hF : NoInt w F) : ∀ b off, ao = some ⟨b, off, none⟩ → xs ≠ [] → ¬ F b := by
  intro b off e hne hf
  rcases h.2 with h0 | ⟨b', off', e', _, hc⟩
  · exact hne h0
  · rw [e] at e'
    cases e'
    have := hc 0 (List.length_pos_iff.2 hne)
    rw [Nat.add_zero] at this
    exact hF b hf _ _ this
theorem EvOk.noInt {F : Nat → Prop} {w w' : World} {x : EvM} (h : EvOk w x) (hF : NoInt w F) (ht : Turns F w w') : EvOk w' x := ⟨h.deps.noInt hF ht, h.io, h.is, h.ie, h.iq, h.hc, h.hs⟩
theorem EvKeep.noInt {F : Nat → Prop} {w w' : World} {x : EvM} (h : EvKeep w x) (hF : NoInt w F) (ht : Turns F w w') : EvKeep w' x := ⟨h.ok.noInt hF ht, h.ne.stay h.ok.deps.held ht (noInt_off h.ok.deps.held hF)⟩
theorem EvKeep.below {w w' : World} {x : EvM} (h : EvKeep w x) (hb : Below w.heap.size w w') : EvKeep w' x := ⟨h.ok.below hb, h.ne.stay h.ok.deps.held (Turns.of_below (F := fun _ => False) hb (Nat.le_refl _)) (fun _ _ _ _ h => h)⟩
/-- A block of events is turned. -/
theorem EvKeep.onEvs {w w' : World} {x : EvM} {b : Nat} {cs : List Value} (h : EvKeep w x) (hb : Blk w b 33 cs) (ht : Turns (fun i => i = b) w w') : EvKeep w' x := by
  have ho : ∀ b' off, x.ao = some ⟨b', off, none⟩ → x.e.deps ≠ [] → ¬ b' = b := fun b' off e hne e' => h.ne b' off e hne cs (by rw [e']; exact hb)
  exact ⟨⟨⟨h.ok.deps.held.turned ht ho, h.ok.deps.room, h.ok.deps.few⟩, h.ok.io, h.ok.is, h.ok.ie, h.ok.iq, h.ok.hc, h.ok.hs⟩, h.ne.stay h.ok.deps.held ht ho⟩
theorem noInt_map {w : World} {m n : Nat} {D : DataW Value} (h : w.ownsMap Try.prog 31 valR m n D) : NoInt w (fun i => i = m) := by
  rintro i rfl off x hc
  obtain ⟨es, clock, hb, _⟩ := h
  simp [World.cell?, hb] at hc
theorem noInt_blk {w : World} {p : Nat} {t : TypeId} {cs : List Value} (h : Blk w p t cs) (hc : ∀ v ∈ cs, ∀ x, v ≠ .int .i64 x) : NoInt w (fun i => i = p) := by
  rintro i rfl off x hx
  have hb : w.heap[i]? = some (.cells cs.toArray t) := h
  simp [World.cell?, hb] at hx
  have := List.mem_of_getElem? hx
  exact hc _ this x rfl
theorem own_tight {w : World} {P : Program} {k : TypeId} {b n : Nat} {D : DataW Value} (h : w.ownsMap P k valR b n D) : w.ownsMap P k valR b (Maps.size D) D := by
  obtain ⟨es, clock, h1, h2, hs, rfl⟩ := h
  have e1 : Maps.size (DataW.map ((es.toList.map (Go.WideElems.rg P k valR)).foldr DataW.insert [])) = es.size := by simp [Maps.size, length_sorted]
  exact ⟨es, clock, h1, h2, by rw [e1]; exact Nat.le_refl _, rfl⟩
section
variable {w w' : World} {p me mw m n : Nat} {g : Lg} {S : Dots} {D : DataW Value}
theorem EvMap.turned {F : Nat → Prop} (h : EvMap w m S n D) (ht : Turns F w w') (hm : ¬ F m) (hF : NoInt w F) : EvMap w' m S n D :=
  ⟨ht.map h.map hm, h.key, fun o s x hx => ⟨(h.ok o s x hx).1.noInt hF ht, (h.ok o s x hx).2⟩, h.cnt⟩
theorem noInt_none (w : World) : NoInt w (fun _ => False) := fun _ h => h.elim
theorem EvMap.below (h : EvMap w m S n D) (hb : Below w.heap.size w w') : EvMap w' m S n D := h.turned (F := fun _ => False) (Turns.of_below hb (Nat.le_refl _)) (fun h => h) (noInt_none w)
theorem LogAt.turned {F : Nat → Prop} (h : LogAt w p me mw g) (ht : Turns F w w') (hd : ∀ i, FootL p me mw i → ¬ F i) (hF : NoInt w F) : LogAt w' p me mw g := by
  obtain ⟨ao, cap, h1, h2, h2'⟩ := h.blk
  obtain ⟨De, h3⟩ := h.em
  obtain ⟨Dw, h4⟩ := h.wm
  exact ⟨⟨ao, cap, ht.blk h1 (hd p (.inl rfl)), h2.noInt hF ht, h2'.stay h2.held ht (noInt_off h2.held hF)⟩, h.apart, h.may, ⟨De, h3.turned ht (hd me (.inr (.inl rfl))) hF⟩, ⟨Dw, h4.turned ht (hd mw (.inr (.inr rfl))) hF⟩, h.has, h.evs, h.wait, h.fewE, h.fewW⟩
/-- A block of events is turned. -/
theorem EvMap.onEvs {b : Nat} {cs : List Value} (h : EvMap w m S n D) (hb : Blk w b 33 cs) (ht : Turns (fun i => i = b) w w') : EvMap w' m S n D :=
  ⟨ht.map h.map (fun e => hb.not_map h.map e.symm), h.key, fun o s x hx => ⟨(h.ok o s x hx).1.onEvs hb ht, (h.ok o s x hx).2⟩, h.cnt⟩
theorem LogAt.onEvs {b : Nat} {cs : List Value} (h : LogAt w p me mw g) (hb : Blk w b 33 cs) (ht : Turns (fun i => i = b) w w') : LogAt w' p me mw g := by
  obtain ⟨ao, cap, h1, h2, h2'⟩ := h.blk
  obtain ⟨De, h3⟩ := h.em
  obtain ⟨Dw, h4⟩ := h.wm
  have hpb : p ≠ b := by
    rintro rfl
    have h5 : w.heap[p]? = some (.cells _ 52) := h1
    have h6 : w.heap[p]? = some (.cells cs.toArray 33) := hb
    rw [h5] at h6
    injection h6 with h6
    injection h6 with _ h6
    exact absurd h6 (by decide)
  have ho : ∀ b' off, ao = some ⟨b', off, none⟩ → g.A ≠ [] → ¬ b' = b := fun b' off e hne e' => h2' b' off e hne cs (by rw [e']; exact hb)
  exact ⟨⟨ao, cap, ht.blk h1 hpb, ⟨h2.held.turned ht ho, h2.room, h2.few⟩, h2'.stay h2.held ht ho⟩, h.apart, h.may, ⟨De, h3.onEvs hb ht⟩, ⟨Dw, h4.onEvs hb ht⟩, h.has, h.evs, h.wait, h.fewE, h.fewW⟩
theorem LogAt.below (h : LogAt w p me mw g) (hb : Below w.heap.size w w') : LogAt w' p me mw g := h.turned (F := fun _ => False) (Turns.of_below hb (Nat.le_refl _)) (fun _ _ h => h) (noInt_none w)
theorem LogAt.noInt (h : LogAt w p me mw g) : NoInt w (FootL p me mw) := by
  obtain ⟨ao, cap, h1, _⟩ := h.blk
  obtain ⟨De, h3⟩ := h.em
  obtain ⟨Dw, h4⟩ := h.wm
  rintro i (rfl | rfl | rfl)
  · exact noInt_blk h1 (by simp) _ rfl
  · exact noInt_map h3.map _ rfl
  · exact noInt_map h4.map _ rfl
theorem LogAt.lt (h : LogAt w p me mw g) : ∀ i, FootL p me mw i → i < w.heap.size := by
  obtain ⟨ao, cap, h1, _⟩ := h.blk
  obtain ⟨De, h3⟩ := h.em
  obtain ⟨Dw, h4⟩ := h.wm
  rintro i (rfl | rfl | rfl)
  · exact h1.lt
  · exact h3.map.lt
  · exact h4.map.lt
theorem LogAt.pne (h : LogAt w p me mw g) : p ≠ me ∧ p ≠ mw := by
  obtain ⟨ao, cap, h1, _⟩ := h.blk
  obtain ⟨De, h3⟩ := h.em
  obtain ⟨Dw, h4⟩ := h.wm
  exact ⟨h1.not_map h3.map, h1.not_map h4.map⟩
/-- The cells of a log's block. -/
theorem LogAt.cells (h : LogAt w p me mw g) : ∃ ao cap, HV w ao cap g.A ∧ w.cell? ⟨p, 0, none⟩ = some (.slice ao g.A.length cap) ∧ w.cell? ⟨p, 1, none⟩ = some (.map (some me)) ∧ w.cell? ⟨p, 2, none⟩ = some (.map (some mw)) := by
  obtain ⟨ao, cap, h1, h2, _⟩ := h.blk
  exact ⟨ao, cap, h2, h1.cell (i := 0) rfl, h1.cell (i := 1) rfl, h1.cell (i := 2) rfl⟩
end
/-- append([]int(nil), x...): a new row, in a block of numbers. -/
theorem wpList_append_nilT {ops : Array Oper} {rest : List Oper} {o : Oper} {a : Act} {Q : Exit → Act → World → Prop} (W : World) (hgd : o.guard = none) (s x : Operand)
    (ho : o.op = .call { callee := .builtin .append, args := #[s, x], argTypes := #[26, 26] })
    (hs : a.eval s = .slice none 0 0) (ao : Option Addr) (c : Nat) (xs : List Int) (n : Nat) (hn : xs.length = n) (hx : a.eval x = .slice ao n c) (hh : HeldInt W ao xs) (hl : xs.length ≤ 17592186044416)
    (h : ∀ bo cp w', HV w' bo cp xs → NEv w' bo xs → (∀ b off, bo = some ⟨b, off, none⟩ → W.heap.size ≤ b) → Below W.heap.size W w' → wpList Try.prog ops Q rest (a.put o.dst (.slice bo n cp)) w') :
    wpList Try.prog ops Q (o :: rest) a W := by
  subst hn
  obtain ⟨iI, hj, hy0, hy1, hy2⟩ := info_parts Try.infoInt
  have fin : ∀ (v' : Value) (w' : World), w'.ownsRow W.heap.size 3 1 v' xs.length (ints xs) → Below W.heap.size W w' → wpList Try.prog ops Q rest (a.put o.dst v') w' := by
    intro v' w' hown hb
    have hlt := hown.lt
    have hty : ∀ b off cap', v' = .slice (some ⟨b, off, none⟩) xs.length cap' → ∃ cs, Blk w' b 3 cs := fun b off cap' e => by
      rcases hown.2 with ⟨h0, _⟩ | ⟨g, cap, cur, h0, _, hg, _⟩
      · rw [e] at h0
        cases h0
      · rw [e] at h0
        cases h0
        exact ⟨cur.toList, hg⟩
    obtain ⟨eo, cap, rfl, hv⟩ := hv_of_own hown hh.1 hl
    refine h eo cap w' hv ?_ (fun b off e => (hlt b (by rw [e]; rfl)).1) hb
    intro b off e hne cs hbk
    exact nev_int (off := off) (hty b off cap (by rw [e])) b off rfl hne cs hbk
  cases ao with
  | none =>
    have hx0 : xs = [] := by
      rcases hh.2 with h0 | ⟨b, off, e, _⟩
      · exact h0
      · cases e
    subst hx0
    refine wpList_plain hgd fun K hK => ?_
    have hr := run_append_noneI (P := Try.prog) W W.heap.size 26 o.type 3 iI 1 Try.underlying26 hj _ 0 c _ (ownI_nil W W.heap.size)
    unfold Oper.wp execOp
    simp only [ho, resolve, invoke, builtin, Sem.run_bind, Sem.run_pure, Result.andThen_ok, List.map_toArray, List.map_cons, List.map_nil, hs, hx, List.length_nil, hr]
    exact hK _ _ (fin _ _ (ownI_nil W W.heap.size) (Below.refl _ _))
  | some ad =>
    have hnews : ∀ j u, (ints xs)[j]? = some u → W.cell? (ad.add j) = some u := by
      intro j u hu
      rcases hh.2 with h0 | ⟨b, off, e, _⟩
      · subst h0
        simp [ints] at hu
      · cases e
        exact hh.news j u hu
    refine wpList_append_own_at _ hgd s x 26 ho W.heap.size 3 iI (.int .i64 0) 1 8 Try.underlying26 hj hy0 hy1 hy2 rfl (by decide) _ 0 (ints []) hs (ownI_nil W W.heap.size) ad xs.length c (ints xs) hx (by rw [ints_len]; omega) hnews (ints_one xs) (by unfold maxLen; omega) (by omega) (Nat.le_refl _) ?_
    intro v' w' hown hgrow _ _
    exact fin v' w' (by simpa [ints] using hown) ((Below.refl _ _).grown hgrow (Nat.le_refl _) (fun k e => by cases e))
def emptyLg : Lg := ⟨[], fun _ _ => none, fun _ _ => none, 0, 0⟩
theorem EvMap.new (w : World) : EvMap (w.alloc (.map #[] 0)) w.heap.size (fun _ _ => none) 0 (.map []) :=
  ⟨World.ownsMap_made w _ _ _, fun o s _ _ => by rw [look_empty]; rfl, fun o s x h => (by cases h), rfl⟩
theorem LogAt.new (w : World) : LogAt (((w.alloc (.map #[] 0)).alloc (.map #[] 0)).alloc (.cells #[.slice none 0 0, .map (some w.heap.size), .map (some (w.heap.size + 1))] 52)) (w.heap.size + 1 + 1) w.heap.size (w.heap.size + 1) emptyLg := by
  have e1 := EvMap.new w
  have e2 := EvMap.new (w.alloc (.map #[] 0))
  rw [World.size_alloc] at e2
  have b := Blk.new ((w.alloc (.map #[] 0)).alloc (.map #[] 0)) 52 [.slice none 0 0, .map (some w.heap.size), .map (some (w.heap.size + 1))]
  rw [World.size_alloc, World.size_alloc] at b
  have hb1 : Below (w.alloc (.map #[] 0)).heap.size (w.alloc (.map #[] 0)) (((w.alloc (.map #[] 0)).alloc (.map #[] 0)).alloc (.cells #[.slice none 0 0, .map (some w.heap.size), .map (some (w.heap.size + 1))] 52)) := ((Below.refl _ _).alloc (Nat.le_refl _) _).alloc (by simp) _
  have hb2 : Below ((w.alloc (.map #[] 0)).alloc (.map #[] 0)).heap.size ((w.alloc (.map #[] 0)).alloc (.map #[] 0)) (((w.alloc (.map #[] 0)).alloc (.map #[] 0)).alloc (.cells #[.slice none 0 0, .map (some w.heap.size), .map (some (w.heap.size + 1))] 52)) := (Below.refl _ _).alloc (Nat.le_refl _) _
  refine ⟨⟨none, 0, b, hv_none _ 0, fun b off e => by cases e⟩, by omega, ⟨by decide, fun x hx => by cases hx⟩, ⟨_, e1.below hb1⟩, ⟨_, e2.below hb2⟩, fun o s => ?_, fun o s x h => (by cases h), fun o s x h => (by cases h), by decide, by decide⟩
  constructor
  · intro h
    cases h
  · intro h
    have h1 := h.1
    have h2 := h.2
    unfold ofV emptyLg at h2
    simp at h2
    omega
theorem newL_any (w : World) : Calls Try.prog 6 #[] w fun e w' => ∃ p me mw, e = .returned (.pointer (some ⟨p, 0, none⟩)) ∧ LogAt w' p me mw emptyLg ∧ (∀ i, FootL p me mw i → w.heap.size ≤ i) ∧ Below w.heap.size w w' := by
  have hmm := @run_makeMap Try.prog
  have HN := hid (LogAt.new w)
  have HB : Hid (Below w.heap.size w (((w.alloc (.map #[] 0)).alloc (.map #[] 0)).alloc (.cells #[.slice none 0 0, .map (some w.heap.size), .map (some (w.heap.size + 1))] 52))) := (((Below.refl _ _).alloc (Nat.le_refl _) _).alloc (by simp) _).alloc (by simp; omega) _
  go_enter Try.func6, Try.ntmps6
  go_wp2
  go_ret
  refine ⟨_, _, _, rfl, HN.out, ?_, HB.out⟩
  rintro i (rfl | rfl | rfl) <;> omega
theorem eqlML (W : World) (b : Nat) : (binOp .eql 50 (.map (some b)) (.map none)).run Try.prog W = .ok (.bool false) W := by kernel_rfl
theorem closedL_nil (w : World) : Calls Try.prog 20 #[.pointer none] w fun e w' => e = .returned (.bool true) ∧ w' = w := by
  go_enter Try.func20, Try.ntmps20
  go_wp2
  go_ret
  exact ⟨rfl, rfl⟩
theorem closedL_no {w : World} {p me mw : Nat} {g : Lg} (h : LogAt w p me mw g) : Calls Try.prog 20 #[.pointer (some ⟨p, 0, none⟩)] w fun e w' => e = .returned (.bool false) ∧ w' = w := by
  obtain ⟨ao, cap, _, _, hc, _⟩ := h.cells
  have he := fun W => eqlML W me
  clear h
  go_enter Try.func20, Try.ntmps20
  go_wp2
  go_ret
  exact ⟨rfl, rfl⟩
theorem fullL_any {w : World} {p me mw : Nat} {g : Lg} (h : LogAt w p me mw g) : Calls Try.prog 23 #[.pointer (some ⟨p, 0, none⟩)] w fun e w' => e = .returned (.bool (decide (65536 ≤ g.ne))) ∧ w' = w := by
  obtain ⟨ao, cap, _, _, hc, _⟩ := h.cells
  obtain ⟨D, hD⟩ := h.em
  have hlen := fun ty => hD.map.len Try.underlying50 ty
  rw [hD.cnt] at hlen
  have hfew := h.fewE
  obtain ⟨N, HN⟩ : ∃ N, Hid (g.ne = N) := ⟨_, hid rfl⟩
  rw [HN.out] at hlen hfew ⊢
  clear h hD
  by_cases h6 : 65536 ≤ N
  · have h6' : (65536 : Int) ≤ (N : Int) := by omega
    rw [decide_eq_true h6]
    clear h6
    go_enter Try.func23, Try.ntmps23
    go_wp2
    go_ret
    exact ⟨by simp, rfl⟩
  · have h6' : ¬ (65536 : Int) ≤ (N : Int) := by omega
    rw [decide_eq_false h6]
    clear h6
    go_enter Try.func23, Try.ntmps23
    go_wp2
    go_ret
    exact ⟨by simp, rfl⟩
theorem ofV_may {A : List Int} (h : MayV A) (o : Int) : 0 ≤ ofV A o ∧ ofV A o ≤ 2147483647 := by
  unfold ofV
  split
  · omega
  · next hc =>
    have hl : o.toNat < A.length := by omega
    exact h.2 _ (getD_mem hl)
theorem nextL_any {w : World} {p me mw : Nat} {g : Lg} (h : LogAt w p me mw g) (o : Int) : Calls Try.prog 37 #[.pointer (some ⟨p, 0, none⟩), .int .i64 o] w fun e w' => e = .returned (.agg #[.int .i64 o, .int .i64 (ofV g.A o + 1)]) ∧ Below w.heap.size w w' := by
  obtain ⟨W, hW⟩ : ∃ W, W = w.alloc (.cells #[.int .i64 0, .int .i64 0] 31) := ⟨_, rfl⟩
  have HB : Hid (Below w.heap.size w W) := by rw [hW]; exact (Below.refl _ _).alloc (Nat.le_refl _) _
  have HK : Hid (Blk W w.heap.size 31 [.int .i64 0, .int .i64 0]) := by rw [hW]; exact Blk.new w _ _
  obtain ⟨ao, cap, hv, c0, _⟩ := (h.below HB.out).cells
  have HO := hid (of_any W ao cap g.A g.A.length rfl o hv.held)
  have hr := ofV_may h.may o
  obtain ⟨z, HZ⟩ : ∃ z, Hid (ofV g.A o = z) := ⟨_, hid rfl⟩
  obtain ⟨L, HL⟩ : ∃ z, Hid (g.A.length = z) := ⟨_, hid rfl⟩
  rw [HZ.out] at HO hr ⊢
  rw [HL.out] at HO c0
  have hadd : IntKind.i64.wrap (z + 1) = z + 1 := by rw [IntKind.wrap_i64]; omega
  have f0 := HK.out.frozen 0
  have f1 := HK.out.frozen 1
  have k0 := HK.out.cell (i := 0) rfl
  have k1 := HK.out.cell (i := 1) rfl
  obtain ⟨W2, hW2⟩ : ∃ V, V = (W.setCell ⟨w.heap.size, 0, none⟩ (.int .i64 o)).setCell ⟨w.heap.size, 1, none⟩ (.int .i64 (z + 1)) := ⟨_, rfl⟩
  have hk2 : Blk W2 w.heap.size 31 [.int .i64 o, .int .i64 (z + 1)] := by rw [hW2]; exact (HK.out.set 0 _).set 1 _
  have t0 := hk2.cell (i := 0) rfl
  have t1 := hk2.cell (i := 1) rfl
  have HB2 : Hid (Below w.heap.size w W2) := by rw [hW2]; exact (HB.out.setCell (p := ⟨w.heap.size, 0, none⟩) (Nat.le_refl _) _).setCell (p := ⟨w.heap.size, 1, none⟩) (Nat.le_refl _) _
  have HW := hid hW
  have HW2 := hid hW2
  clear hv h hW hW2 hk2
  rw [HW.out] at c0
  go_enter Try.func37, Try.ntmps37
  go_wp2_with fail
  rw [← HW.out]
  refine HO.out.mono ?_
  rintro e w' ⟨rfl, rfl⟩
  go_wp2
  rw [← HW2.out]
  (try simp only [Exit.inBlock, Exit.then])
  refine bodyPost_ret (v := .agg #[.int .i64 o, .int .i64 (z + 1)]) ?_ rfl ⟨rfl, HB2.out⟩
  rw [results_cell1 rfl]
  go_simp
end Go.Proofs.Ytcammngbhnhjjaa
