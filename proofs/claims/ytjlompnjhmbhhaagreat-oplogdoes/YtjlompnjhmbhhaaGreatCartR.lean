/-
  Package oplog: a log in memory ('LogAt'), and the contracts of New, closed, full, next.
-/
import Derived.Test.YtjlompnjhmbhhaaGreatEvMay
import Derived.Test.YtjlompnjhmbhhaaGreatVvI2
import Derived.Test.YtjlompnjhmbhhaaGreatDotsC
import Derived.Test.YtjlompnjhmbhhaaGreatStrClone2
import Derived.Deep.QuietTactic
import Derived.BigQuiet
import Derived.Test.YtjlompnjhmbhhaaGreatSealI
import Derived.Deep.RegionHeld3
import Derived.Deep.RegionLaw
namespace Go.Proofs.YtjlompnjhmbhhaaGreat
open Go.RowKit Go.Maps

theorem results_cell1 {fn : Func} {p : Tmp} {ty : TypeId} (h : fn.results = #[.cell p ty]) (tmps : Array Value) (P : Program) (w : World) :
    (results fn tmps).run P w = ((asAddr (tmps.getD p undef)).run P w).andThen fun a w₁ => (loadVar ty a).run P w₁ := by
  simp only [results, h]
  simp [Sem.run_bind, Result.andThen]
/-- May an event be in a log? -/
def MayE (e : Ev) : Prop := RightEv e = true ∧ 1 ≤ e.s ∧ ofV e.deps e.o = e.s - 1
instance (e : Ev) : Decidable (MayE e) := by unfold MayE; infer_instance
def ReadyE (A : List Int) (e : Ev) : Prop := e.s = ofV A e.o + 1 ∧ BelowV e.deps A
instance (A : List Int) (e : Ev) : Decidable (ReadyE A e) := by unfold ReadyE; infer_instance
/-- A vector does not lie in a block of events. -/
def NEv (w : World) (ao : Option Addr) (xs : List Int) : Prop := ∀ b off, ao = some ⟨b, off, none⟩ → xs ≠ [] → ∀ cs, ¬ Blk w b 33 cs
theorem nev_int {w : World} {b off : Nat} {xs : List Int} (h : ∃ cs, Blk w b 3 cs) : NEv w (some ⟨b, off, none⟩) xs := by
  intro b' off' e _ cs hb
  cases e
  obtain ⟨cs', h⟩ := h
  have h1 : w.heap[b]? = some (.cells cs'.toArray 3) := h
  have h2 : w.heap[b]? = some (.cells cs.toArray 33) := hb
  rw [h1] at h2
  injection h2 with h2
  injection h2 with _ h2
  exact absurd h2 (by decide)
theorem NEv.stay {F : Nat → Prop} {w w' : World} {ao : Option Addr} {xs : List Int} (h : NEv w ao xs) (hh : HeldInt w ao xs) (ht : Turns F w w') (hF : ∀ b off, ao = some ⟨b, off, none⟩ → xs ≠ [] → ¬ F b) : NEv w' ao xs := by
  intro b off e hne cs hb
  rcases hh.2 with h0 | ⟨b', off', e', hlt, _⟩
  · exact hne h0
  · rw [e] at e'
    cases e'
    exact h b off e hne cs ((ht.block b hlt (hF b off e hne)).symm.trans hb)
/-- An event that is kept: its vector lies apart from all events. -/
structure EvKeep (w : World) (x : EvM) : Prop where
  ok : EvOk w x
  ne : NEv w x.ao x.e.deps
abbrev Dots := Int → Int → Option EvM
/-- Events in a map, each at its dot. -/
structure EvMap (w : World) (m : Nat) (S : Dots) (n : Nat) (D : DataW Value) : Prop where
  map : w.ownsMap Tryz.prog 25 valR m n D
  key : ∀ o s, I64 o → I64 s → look D (dk o s) = (S o s).map EvM.val
  ok : ∀ o s x, S o s = some x → EvKeep w x ∧ x.e.o = o ∧ x.e.s = s
  cnt : Maps.size D = n
/-- What a log has: how many of each origin, the applied events, those that wait, and how many these are. -/
structure Lg where
  A : List Int
  E : Dots
  W : Dots
  ne : Nat
  nw : Nat
structure LogAt (w : World) (p me mw : Nat) (g : Lg) : Prop where
  blk : ∃ ao cap, Blk w p 43 [.slice ao g.A.length cap, .map (some me), .map (some mw)] ∧ HV w ao cap g.A ∧ NEv w ao g.A
  apart : me ≠ mw
  may : MayV g.A
  em : ∃ D, EvMap w me g.E g.ne D
  wm : ∃ D, EvMap w mw g.W g.nw D
  has : ∀ o s, (g.E o s).isSome = true ↔ HasV g.A o s
  evs : ∀ o s x, g.E o s = some x → MayE x.e ∧ BelowV x.e.deps g.A
  wait : ∀ o s x, g.W o s = some x → MayE x.e ∧ ¬ HasV g.A o s
  fewE : g.ne ≤ 65536
  fewW : g.nw ≤ 4096
def FootL (p me mw : Nat) (i : Nat) : Prop := i = p ∨ i = me ∨ i = mw
/-- No number lies in these blocks. -/
def NoInt (w : World) (F : Nat → Prop) : Prop := ∀ i, F i → ∀ off x, w.cell? ⟨i, off, none⟩ ≠ some (.int .i64 x)
theorem held_noInt {F : Nat → Prop} {w w' : World} {ao : Option Addr} {xs : List Int} (h : HeldInt w ao xs) (hF : NoInt w F) (ht : Turns F w w') : HeldInt w' ao xs := by
  refine h.turned ht (fun b off e hne hf => ?_)
  rcases h.2 with h0 | ⟨b', off', e', _, hc⟩
  · exact hne h0
  · rw [e] at e'
    cases e'
    have := hc 0 (List.length_pos_iff.2 hne)
    rw [Nat.add_zero] at this
    exact hF b hf _ _ this
theorem HV.noInt {F : Nat → Prop} {w w' : World} {ao : Option Addr} {c : Nat} {xs : List Int} (h : HV w ao c xs) (hF : NoInt w F) (ht : Turns F w w') : HV w' ao c xs := ⟨held_noInt h.held hF ht, h.room, h.few⟩
theorem noInt_off {F : Nat → Prop} {w : World} {ao : Option Addr} {xs : List Int} (h : HeldInt w ao xs) (hF : NoInt w F) : ∀ b off, ao = some ⟨b, off, none⟩ → xs ≠ [] → ¬ F b := by
  intro b off e hne hf
  rcases h.2 with h0 | ⟨b', off', e', _, hc⟩
  · exact hne h0
  · rw [e] at e'
    cases e'
    have := hc 0 (List.length_pos_iff.2 hne)
    rw [Nat.add_zero] at this
    exact hF b hf _ _ this
theorem EvOk.noInt {F : Nat → Prop} {w w' : World} {x : EvM} (h : EvOk w x) (hF : NoInt w F) (ht : Turns F w w') : EvOk w' x := ⟨h.deps.noInt hF ht, h.io, h.is, h.ie, h.iq, h.hc, h.hs⟩
theorem EvKeep.noInt {F : Nat → Prop} {w w' : World} {x : EvM} (h : EvKeep w x) (hF : NoInt w F) (ht : Turns F w w') : EvKeep w' x := ⟨h.ok.noInt hF ht, h.ne.stay h.ok.deps.held ht (noInt_off h.ok.deps.held hF)⟩
theorem EvKeep.below {w w' : World} {x : EvM} (h : EvKeep w x) (hb : Below w.heap.size w w') : EvKeep w' x := ⟨h.ok.below hb, h.ne.stay h.ok.deps.held (Turns.of_below (F := fun _ => False) hb (Nat.le_refl _)) (fun _ _ _ _ h => h)⟩
/-- A block of events is turned. -/
theorem EvKeep.onEvs {w w' : World} {x : EvM} {b : Nat} {cs : List Value} (h : EvKeep w x) (hb : Blk w b 33 cs) (ht : Turns (fun i => i = b) w w') : EvKeep w' x := by
  have ho : ∀ b' off, x.ao = some ⟨b', off, none⟩ → x.e.deps ≠ [] → ¬ b' = b := fun b' off e hne e' => h.ne b' off e hne cs (by rw [e']; exact hb)
  exact ⟨⟨⟨h.ok.deps.held.turned ht ho, h.ok.deps.room, h.ok.deps.few⟩, h.ok.io, h.ok.is, h.ok.ie, h.ok.iq, h.ok.hc, h.ok.hs⟩, h.ne.stay h.ok.deps.held ht ho⟩
theorem noInt_map {w : World} {m n : Nat} {D : DataW Value} (h : w.ownsMap Tryz.prog 25 valR m n D) : NoInt w (fun i => i = m) := by
  rintro i rfl off x hc
  obtain ⟨es, clock, hb, _⟩ := h
  simp [World.cell?, hb] at hc
theorem noInt_blk {w : World} {p : Nat} {t : TypeId} {cs : List Value} (h : Blk w p t cs) (hc : ∀ v ∈ cs, ∀ x, v ≠ .int .i64 x) : NoInt w (fun i => i = p) := by
  rintro i rfl off x hx
  have hb : w.heap[i]? = some (.cells cs.toArray t) := h
  simp [World.cell?, hb] at hx
  have := List.mem_of_getElem? hx
  exact hc _ this x rfl
theorem own_tight {w : World} {P : Program} {k : TypeId} {b n : Nat} {D : DataW Value} (h : w.ownsMap P k valR b n D) : w.ownsMap P k valR b (Maps.size D) D := by
  obtain ⟨es, clock, h1, h2, hs, rfl⟩ := h
  have e1 : Maps.size (DataW.map ((es.toList.map (Go.WideElems.rg P k valR)).foldr DataW.insert [])) = es.size := by simp [Maps.size, length_sorted]
  exact ⟨es, clock, h1, h2, by rw [e1]; exact Nat.le_refl _, rfl⟩
section
variable {w w' : World} {p me mw m n : Nat} {g : Lg} {S : Dots} {D : DataW Value}
theorem EvMap.turned {F : Nat → Prop} (h : EvMap w m S n D) (ht : Turns F w w') (hm : ¬ F m) (hF : NoInt w F) : EvMap w' m S n D :=
  ⟨ht.map h.map hm, h.key, fun o s x hx => ⟨(h.ok o s x hx).1.noInt hF ht, (h.ok o s x hx).2⟩, h.cnt⟩
theorem noInt_none (w : World) : NoInt w (fun _ => False) := fun _ h => h.elim
theorem EvMap.below (h : EvMap w m S n D) (hb : Below w.heap.size w w') : EvMap w' m S n D := h.turned (F := fun _ => False) (Turns.of_below hb (Nat.le_refl _)) (fun h => h) (noInt_none w)
theorem LogAt.turned {F : Nat → Prop} (h : LogAt w p me mw g) (ht : Turns F w w') (hd : ∀ i, FootL p me mw i → ¬ F i) (hF : NoInt w F) : LogAt w' p me mw g := by
  obtain ⟨ao, cap, h1, h2, h2'⟩ := h.blk
  obtain ⟨De, h3⟩ := h.em
  obtain ⟨Dw, h4⟩ := h.wm
  exact ⟨⟨ao, cap, ht.blk h1 (hd p (.inl rfl)), h2.noInt hF ht, h2'.stay h2.held ht (noInt_off h2.held hF)⟩, h.apart, h.may, ⟨De, h3.turned ht (hd me (.inr (.inl rfl))) hF⟩, ⟨Dw, h4.turned ht (hd mw (.inr (.inr rfl))) hF⟩, h.has, h.evs, h.wait, h.fewE, h.fewW⟩
/-- A block of events is turned. -/
theorem EvMap.onEvs {b : Nat} {cs : List Value} (h : EvMap w m S n D) (hb : Blk w b 33 cs) (ht : Turns (fun i => i = b) w w') : EvMap w' m S n D :=
  ⟨ht.map h.map (fun e => hb.not_map h.map e.symm), h.key, fun o s x hx => ⟨(h.ok o s x hx).1.onEvs hb ht, (h.ok o s x hx).2⟩, h.cnt⟩
theorem LogAt.onEvs {b : Nat} {cs : List Value} (h : LogAt w p me mw g) (hb : Blk w b 33 cs) (ht : Turns (fun i => i = b) w w') : LogAt w' p me mw g := by
  obtain ⟨ao, cap, h1, h2, h2'⟩ := h.blk
  obtain ⟨De, h3⟩ := h.em
  obtain ⟨Dw, h4⟩ := h.wm
  have hpb : p ≠ b := by
    rintro rfl
    have h5 : w.heap[p]? = some (.cells _ 43) := h1
    have h6 : w.heap[p]? = some (.cells cs.toArray 33) := hb
    rw [h5] at h6
    injection h6 with h6
    injection h6 with _ h6
    exact absurd h6 (by decide)
  have ho : ∀ b' off, ao = some ⟨b', off, none⟩ → g.A ≠ [] → ¬ b' = b := fun b' off e hne e' => h2' b' off e hne cs (by rw [e']; exact hb)
  exact ⟨⟨ao, cap, ht.blk h1 hpb, ⟨h2.held.turned ht ho, h2.room, h2.few⟩, h2'.stay h2.held ht ho⟩, h.apart, h.may, ⟨De, h3.onEvs hb ht⟩, ⟨Dw, h4.onEvs hb ht⟩, h.has, h.evs, h.wait, h.fewE, h.fewW⟩
theorem LogAt.below (h : LogAt w p me mw g) (hb : Below w.heap.size w w') : LogAt w' p me mw g := h.turned (F := fun _ => False) (Turns.of_below hb (Nat.le_refl _)) (fun _ _ h => h) (noInt_none w)
theorem LogAt.noInt (h : LogAt w p me mw g) : NoInt w (FootL p me mw) := by
  obtain ⟨ao, cap, h1, _⟩ := h.blk
  obtain ⟨De, h3⟩ := h.em
  obtain ⟨Dw, h4⟩ := h.wm
  rintro i (rfl | rfl | rfl)
  · exact noInt_blk h1 (by simp) _ rfl
  · exact noInt_map h3.map _ rfl
  · exact noInt_map h4.map _ rfl
theorem LogAt.lt (h : LogAt w p me mw g) : ∀ i, FootL p me mw i → i < w.heap.size := by
  obtain ⟨ao, cap, h1, _⟩ := h.blk
  obtain ⟨De, h3⟩ := h.em
  obtain ⟨Dw, h4⟩ := h.wm
  rintro i (rfl | rfl | rfl)
  · exact h1.lt
  · exact h3.map.lt
  · exact h4.map.lt
theorem LogAt.pne (h : LogAt w p me mw g) : p ≠ me ∧ p ≠ mw := by
  obtain ⟨ao, cap, h1, _⟩ := h.blk
  obtain ⟨De, h3⟩ := h.em
  obtain ⟨Dw, h4⟩ := h.wm
  exact ⟨h1.not_map h3.map, h1.not_map h4.map⟩
/-- The cells of a log's block. -/
theorem LogAt.cells (h : LogAt w p me mw g) : ∃ ao cap, HV w ao cap g.A ∧ w.cell? ⟨p, 0, none⟩ = some (.slice ao g.A.length cap) ∧ w.cell? ⟨p, 1, none⟩ = some (.map (some me)) ∧ w.cell? ⟨p, 2, none⟩ = some (.map (some mw)) := by
  obtain ⟨ao, cap, h1, h2, _⟩ := h.blk
  exact ⟨ao, cap, h2, h1.cell (i := 0) rfl, h1.cell (i := 1) rfl, h1.cell (i := 2) rfl⟩
end
/-- append([]int(nil), x...): a new row, in a block of numbers. -/
theorem wpList_append_nilT {ops : Array Oper} {rest : List Oper} {o : Oper} {a : Act} {Q : Exit → Act → World → Prop} (W : World) (hgd : o.guard = none) (s x : Operand)
    (ho : o.op = .call { callee := .builtin .append, args := #[s, x], argTypes := #[23, 23] })
    (hs : a.eval s = .slice none 0 0) (ao : Option Addr) (c : Nat) (xs : List Int) (n : Nat) (hn : xs.length = n) (hx : a.eval x = .slice ao n c) (hh : HeldInt W ao xs) (hl : xs.length ≤ 17592186044416)
    (h : ∀ bo cp w', HV w' bo cp xs → NEv w' bo xs → (∀ b off, bo = some ⟨b, off, none⟩ → W.heap.size ≤ b) → Below W.heap.size W w' → wpList Tryz.prog ops Q rest (a.put o.dst (.slice bo n cp)) w') :
    wpList Tryz.prog ops Q (o :: rest) a W := by
  subst hn
  obtain ⟨iI, hj, hy0, hy1, hy2⟩ := info_parts Tryz.infoInt
  have fin : ∀ (v' : Value) (w' : World), w'.ownsRow W.heap.size 3 1 v' xs.length (ints xs) → Below W.heap.size W w' → wpList Tryz.prog ops Q rest (a.put o.dst v') w' := by
    intro v' w' hown hb
    have hlt := hown.lt
    have hty : ∀ b off cap', v' = .slice (some ⟨b, off, none⟩) xs.length cap' → ∃ cs, Blk w' b 3 cs := fun b off cap' e => by
      rcases hown.2 with ⟨h0, _⟩ | ⟨g, cap, cur, h0, _, hg, _⟩
      · rw [e] at h0
        cases h0
      · rw [e] at h0
        cases h0
        exact ⟨cur.toList, hg⟩
    obtain ⟨eo, cap, rfl, hv⟩ := hv_of_own hown hh.1 hl
    refine h eo cap w' hv ?_ (fun b off e => (hlt b (by rw [e]; rfl)).1) hb
    intro b off e hne cs hbk
    exact nev_int (off := off) (hty b off cap (by rw [e])) b off rfl hne cs hbk
  cases ao with
  | none =>
    have hx0 : xs = [] := by
      rcases hh.2 with h0 | ⟨b, off, e, _⟩
      · exact h0
      · cases e
    subst hx0
    refine wpList_plain hgd fun K hK => ?_
    have hr := run_append_noneI (P := Tryz.prog) W W.heap.size 23 o.type 3 iI 1 Tryz.underlying23 hj _ 0 c _ (ownI_nil W W.heap.size)
    unfold Oper.wp execOp
    simp only [ho, resolve, invoke, builtin, Sem.run_bind, Sem.run_pure, Result.andThen_ok, List.map_toArray, List.map_cons, List.map_nil, hs, hx, List.length_nil, hr]
    exact hK _ _ (fin _ _ (ownI_nil W W.heap.size) (Below.refl _ _))
  | some ad =>
    have hnews : ∀ j u, (ints xs)[j]? = some u → W.cell? (ad.add j) = some u := by
      intro j u hu
      rcases hh.2 with h0 | ⟨b, off, e, _⟩
      · subst h0
        simp [ints] at hu
      · cases e
        exact hh.news j u hu
    refine wpList_append_own_at _ hgd s x 23 ho W.heap.size 3 iI (.int .i64 0) 1 8 Tryz.underlying23 hj hy0 hy1 hy2 rfl (by decide) _ 0 (ints []) hs (ownI_nil W W.heap.size) ad xs.length c (ints xs) hx (by rw [ints_len]; omega) hnews (ints_one xs) (by unfold maxLen; omega) (by omega) (Nat.le_refl _) ?_
    intro v' w' hown hgrow _ _
    exact fin v' w' (by simpa [ints] using hown) ((Below.refl _ _).grown hgrow (Nat.le_refl _) (fun k e => by cases e))
def emptyLg : Lg := ⟨[], fun _ _ => none, fun _ _ => none, 0, 0⟩
theorem EvMap.new (w : World) : EvMap (w.alloc (.map #[] 0)) w.heap.size (fun _ _ => none) 0 (.map []) :=
  ⟨World.ownsMap_made w _ _ _, fun o s _ _ => by rw [look_empty]; rfl, fun o s x h => (by cases h), rfl⟩
theorem LogAt.new (w : World) : LogAt (((w.alloc (.map #[] 0)).alloc (.map #[] 0)).alloc (.cells #[.slice none 0 0, .map (some w.heap.size), .map (some (w.heap.size + 1))] 43)) (w.heap.size + 1 + 1) w.heap.size (w.heap.size + 1) emptyLg := by
  have e1 := EvMap.new w
  have e2 := EvMap.new (w.alloc (.map #[] 0))
  rw [World.size_alloc] at e2
  have b := Blk.new ((w.alloc (.map #[] 0)).alloc (.map #[] 0)) 43 [.slice none 0 0, .map (some w.heap.size), .map (some (w.heap.size + 1))]
  rw [World.size_alloc, World.size_alloc] at b
  have hb1 : Below (w.alloc (.map #[] 0)).heap.size (w.alloc (.map #[] 0)) (((w.alloc (.map #[] 0)).alloc (.map #[] 0)).alloc (.cells #[.slice none 0 0, .map (some w.heap.size), .map (some (w.heap.size + 1))] 43)) := ((Below.refl _ _).alloc (Nat.le_refl _) _).alloc (by simp) _
  have hb2 : Below ((w.alloc (.map #[] 0)).alloc (.map #[] 0)).heap.size ((w.alloc (.map #[] 0)).alloc (.map #[] 0)) (((w.alloc (.map #[] 0)).alloc (.map #[] 0)).alloc (.cells #[.slice none 0 0, .map (some w.heap.size), .map (some (w.heap.size + 1))] 43)) := (Below.refl _ _).alloc (Nat.le_refl _) _
  refine ⟨⟨none, 0, b, hv_none _ 0, fun b off e => by cases e⟩, by omega, ⟨by decide, fun x hx => by cases hx⟩, ⟨_, e1.below hb1⟩, ⟨_, e2.below hb2⟩, fun o s => ?_, fun o s x h => (by cases h), fun o s x h => (by cases h), by decide, by decide⟩
  constructor
  · intro h
    cases h
  · intro h
    have h1 := h.1
    have h2 := h.2
    unfold ofV emptyLg at h2
    simp at h2
    omega
theorem newL_any (w : World) : Calls Tryz.prog 4 #[] w fun e w' => ∃ p me mw, e = .returned (.pointer (some ⟨p, 0, none⟩)) ∧ LogAt w' p me mw emptyLg ∧ (∀ i, FootL p me mw i → w.heap.size ≤ i) ∧ Below w.heap.size w w' := by
  have hmm := @run_makeMap Tryz.prog
  have HN := hid (LogAt.new w)
  have HB : Hid (Below w.heap.size w (((w.alloc (.map #[] 0)).alloc (.map #[] 0)).alloc (.cells #[.slice none 0 0, .map (some w.heap.size), .map (some (w.heap.size + 1))] 43))) := (((Below.refl _ _).alloc (Nat.le_refl _) _).alloc (by simp) _).alloc (by simp; omega) _
  go_enter Tryz.func4, Tryz.ntmps4
  go_wp2
  go_ret
  refine ⟨_, _, _, rfl, HN.out, ?_, HB.out⟩
  rintro i (rfl | rfl | rfl) <;> omega
theorem eqlML (W : World) (b : Nat) : (binOp .eql 41 (.map (some b)) (.map none)).run Tryz.prog W = .ok (.bool false) W := by kernel_rfl
theorem closedL_nil (w : World) : Calls Tryz.prog 16 #[.pointer none] w fun e w' => e = .returned (.bool true) ∧ w' = w := by
  go_enter Tryz.func16, Tryz.ntmps16
  go_wp2
  go_ret
  exact ⟨rfl, rfl⟩
theorem closedL_no {w : World} {p me mw : Nat} {g : Lg} (h : LogAt w p me mw g) : Calls Tryz.prog 16 #[.pointer (some ⟨p, 0, none⟩)] w fun e w' => e = .returned (.bool false) ∧ w' = w := by
  obtain ⟨ao, cap, _, _, hc, _⟩ := h.cells
  have he := fun W => eqlML W me
  clear h
  go_enter Tryz.func16, Tryz.ntmps16
  go_wp2
  go_ret
  exact ⟨rfl, rfl⟩
theorem fullL_any {w : World} {p me mw : Nat} {g : Lg} (h : LogAt w p me mw g) : Calls Tryz.prog 18 #[.pointer (some ⟨p, 0, none⟩)] w fun e w' => e = .returned (.bool (decide (65536 ≤ g.ne))) ∧ w' = w := by
  obtain ⟨ao, cap, _, _, hc, _⟩ := h.cells
  obtain ⟨D, hD⟩ := h.em
  have hlen := fun ty => hD.map.len Tryz.underlying41 ty
  rw [hD.cnt] at hlen
  have hfew := h.fewE
  obtain ⟨N, HN⟩ : ∃ N, Hid (g.ne = N) := ⟨_, hid rfl⟩
  rw [HN.out] at hlen hfew ⊢
  clear h hD
  by_cases h6 : 65536 ≤ N
  · have h6' : (65536 : Int) ≤ (N : Int) := by omega
    rw [decide_eq_true h6]
    clear h6
    go_enter Tryz.func18, Tryz.ntmps18
    go_wp2
    go_ret
    exact ⟨by simp, rfl⟩
  · have h6' : ¬ (65536 : Int) ≤ (N : Int) := by omega
    rw [decide_eq_false h6]
    clear h6
    go_enter Tryz.func18, Tryz.ntmps18
    go_wp2
    go_ret
    exact ⟨by simp, rfl⟩
theorem ofV_may {A : List Int} (h : MayV A) (o : Int) : 0 ≤ ofV A o ∧ ofV A o ≤ 2147483647 := by
  unfold ofV
  split
  · omega
  · next hc =>
    have hl : o.toNat < A.length := by omega
    exact h.2 _ (getD_mem hl)
theorem nextL_any {w : World} {p me mw : Nat} {g : Lg} (h : LogAt w p me mw g) (o : Int) : Calls Tryz.prog 45 #[.pointer (some ⟨p, 0, none⟩), .int .i64 o] w fun e w' => e = .returned (.agg #[.int .i64 o, .int .i64 (ofV g.A o + 1)]) ∧ Below w.heap.size w w' := by
  obtain ⟨W, hW⟩ : ∃ W, W = w.alloc (.cells #[.int .i64 0, .int .i64 0] 25) := ⟨_, rfl⟩
  have HB : Hid (Below w.heap.size w W) := by rw [hW]; exact (Below.refl _ _).alloc (Nat.le_refl _) _
  have HK : Hid (Blk W w.heap.size 25 [.int .i64 0, .int .i64 0]) := by rw [hW]; exact Blk.new w _ _
  obtain ⟨ao, cap, hv, c0, _⟩ := (h.below HB.out).cells
  have HO := hid (of_any W ao cap g.A g.A.length rfl o hv.held)
  have hr := ofV_may h.may o
  obtain ⟨z, HZ⟩ : ∃ z, Hid (ofV g.A o = z) := ⟨_, hid rfl⟩
  obtain ⟨L, HL⟩ : ∃ z, Hid (g.A.length = z) := ⟨_, hid rfl⟩
  rw [HZ.out] at HO hr ⊢
  rw [HL.out] at HO c0
  have hadd : IntKind.i64.wrap (z + 1) = z + 1 := by rw [IntKind.wrap_i64]; omega
  have f0 := HK.out.frozen 0
  have f1 := HK.out.frozen 1
  have k0 := HK.out.cell (i := 0) rfl
  have k1 := HK.out.cell (i := 1) rfl
  obtain ⟨W2, hW2⟩ : ∃ V, V = (W.setCell ⟨w.heap.size, 0, none⟩ (.int .i64 o)).setCell ⟨w.heap.size, 1, none⟩ (.int .i64 (z + 1)) := ⟨_, rfl⟩
  have hk2 : Blk W2 w.heap.size 25 [.int .i64 o, .int .i64 (z + 1)] := by rw [hW2]; exact (HK.out.set 0 _).set 1 _
  have t0 := hk2.cell (i := 0) rfl
  have t1 := hk2.cell (i := 1) rfl
  have HB2 : Hid (Below w.heap.size w W2) := by rw [hW2]; exact (HB.out.setCell (p := ⟨w.heap.size, 0, none⟩) (Nat.le_refl _) _).setCell (p := ⟨w.heap.size, 1, none⟩) (Nat.le_refl _) _
  have HW := hid hW
  have HW2 := hid hW2
  clear hv h hW hW2 hk2
  rw [HW.out] at c0
  go_enter Tryz.func45, Tryz.ntmps45
  go_wp2_with fail
  rw [← HW.out]
  refine HO.out.mono ?_
  rintro e w' ⟨rfl, rfl⟩
  go_wp2
  rw [← HW2.out]
  (try simp only [Exit.inBlock, Exit.then])
  refine bodyPost_ret (v := .agg #[.int .i64 o, .int .i64 (z + 1)]) ?_ rfl ⟨rfl, HB2.out⟩
  rw [results_cell1 rfl]
  go_simp
end Go.Proofs.YtjlompnjhmbhhaaGreat
/-
  Package oplog: told, own, May.
-/
namespace Go.Proofs.YtjlompnjhmbhhaaGreat
open Go.RowKit Go.Maps

/-- A block of eight cells stored anew. -/
def st8 (w : World) (p : Nat) (v0 v1 v2 v3 v4 v5 v6 v7 : Value) : World :=
  (((((((w.setCell ⟨p, 0, none⟩ v0).setCell ⟨p, 1, none⟩ v1).setCell ⟨p, 2, none⟩ v2).setCell ⟨p, 3, none⟩ v3).setCell ⟨p, 4, none⟩ v4).setCell ⟨p, 5, none⟩ v5).setCell ⟨p, 6, none⟩ v6).setCell ⟨p, 7, none⟩ v7
theorem st8_blk {w : World} {p : Nat} {t : TypeId} {a0 a1 a2 a3 a4 a5 a6 a7 : Value} (h : Blk w p t [a0, a1, a2, a3, a4, a5, a6, a7]) (v0 v1 v2 v3 v4 v5 v6 v7 : Value) : Blk (st8 w p v0 v1 v2 v3 v4 v5 v6 v7) p t [v0, v1, v2, v3, v4, v5, v6, v7] :=
  (((((((h.set 0 v0).set 1 v1).set 2 v2).set 3 v3).set 4 v4).set 5 v5).set 6 v6).set 7 v7
theorem st8_turns (w : World) (p : Nat) (v0 v1 v2 v3 v4 v5 v6 v7 : Value) : Turns (fun i => i = p) w (st8 w p v0 v1 v2 v3 v4 v5 v6 v7) :=
  ((((((((Turns.refl (fun i => i = p) w).setCell (p := ⟨p, 0, none⟩) (.inl rfl) _).setCell (p := ⟨p, 1, none⟩) (.inl rfl) _).setCell (p := ⟨p, 2, none⟩) (.inl rfl) _).setCell (p := ⟨p, 3, none⟩) (.inl rfl) _).setCell (p := ⟨p, 4, none⟩) (.inl rfl) _).setCell (p := ⟨p, 5, none⟩) (.inl rfl) _).setCell (p := ⟨p, 6, none⟩) (.inl rfl) _).setCell (p := ⟨p, 7, none⟩) (.inl rfl) _
/-- An event told anew: the same, its vector in new memory. -/
def ToldL (w : World) (x : EvM) (e : Ending) (w' : World) : Prop := ∃ y : EvM, e = .returned y.val ∧ y.e = x.e ∧ EvKeep w' y ∧ (∀ b off, y.ao = some ⟨b, off, none⟩ → w.heap.size ≤ b) ∧ Below w.heap.size w w'
set_option maxRecDepth 100000 in
set_option maxHeartbeats 1000000 in
theorem toldL_any (w : World) (x : EvM) (hx : EvOk w x) : Calls Tryz.prog 49 #[x.val] w (ToldL w x) := by
  obtain ⟨⟨o, s, dp, ct, ep, sk, qt, cl⟩, ao1, cap1⟩ := x
  obtain ⟨XN, HXN⟩ : ∃ m, Hid (dp.length = m) := ⟨_, hid rfl⟩
  simp only [EvM.val]
  rw [HXN.out]
  obtain ⟨W0, hW0⟩ : ∃ W, W = w.alloc (.cells #[.int .i64 o, .int .i64 s, .slice ao1 XN cap1, .string ct, .int .i64 ep, .string sk, .int .i64 qt, .bool cl] 33) := ⟨_, rfl⟩
  obtain ⟨W, hW⟩ : ∃ W, W = W0.alloc (.cells #[.int .i64 0, .int .i64 0, .slice none 0 0, .string ⟨#[]⟩, .int .i64 0, .string ⟨#[]⟩, .int .i64 0, .bool false] 33) := ⟨_, rfl⟩
  have HB0 : Hid (Below w.heap.size w W0) := by rw [hW0]; exact (Below.refl _ _).alloc (Nat.le_refl _) _
  have hs0 : W0.heap.size = w.heap.size + 1 := by rw [hW0]; simp
  have HB : Hid (Below w.heap.size w W) := by rw [hW]; exact HB0.out.alloc HB0.out.size _
  have HK : Hid (Blk W w.heap.size 33 [.int .i64 o, .int .i64 s, .slice ao1 XN cap1, .string ct, .int .i64 ep, .string sk, .int .i64 qt, .bool cl]) := by rw [hW, hW0]; exact (Blk.new w _ _).alloc _
  have HR : Hid (Blk W (w.heap.size + 1) 33 [.int .i64 0, .int .i64 0, .slice none 0 0, .string ⟨#[]⟩, .int .i64 0, .string ⟨#[]⟩, .int .i64 0, .bool false]) := by rw [hW, ← hs0]; exact Blk.new W0 _ _
  have HDI := hid (hx.deps.held.below HB.out)
  have HDF : Hid (dp.length ≤ 17592186044416) := hx.deps.few
  have HOX := hid hx
  have c2 := HK.out.cell (i := 2) rfl
  have HW : Hid (W = (w.alloc (.cells #[.int .i64 o, .int .i64 s, .slice ao1 XN cap1, .string ct, .int .i64 ep, .string sk, .int .i64 qt, .bool cl] 33)).alloc (.cells #[.int .i64 0, .int .i64 0, .slice none 0 0, .string ⟨#[]⟩, .int .i64 0, .string ⟨#[]⟩, .int .i64 0, .bool false] 33)) := by show _ = _; rw [hW, hW0]
  rw [HW.out] at c2
  clear hW hW0 hx hs0
  go_enter Tryz.func49, Tryz.ntmps49
  go_wp2_with (at_builtin; rw [← HW.out]; refine wpList_append_nilT _ rfl _ _ rfl rfl ao1 cap1 dp XN HXN.out rfl HDI.out HDF.out ?_; intro bo cp w2 hv2 hne2 hbo2 hb2; have HV2 := hid hv2; have HNE2 := hid hne2; have HBO := hid hbo2; have HB2 := hid hb2; have hk2 := HK.out.below hb2 HK.out.lt; have d2 := hk2.cell (i := 2) rfl; have f2 := hk2.frozen 2; have hk3 := hk2.set 2 (.slice bo XN cp); have t0 := hk3.cell (i := 0) rfl; have t1 := hk3.cell (i := 1) rfl; have t2 := hk3.cell (i := 2) rfl; have t3 := hk3.cell (i := 3) rfl; have t4 := hk3.cell (i := 4) rfl; have t5 := hk3.cell (i := 5) rfl; have t6 := hk3.cell (i := 6) rfl; have t7 := hk3.cell (i := 7) rfl; have hr3 := (HR.out.below hb2 HR.out.lt).other (C := w.heap.size) (by omega) 2 (.slice bo XN cp); have r0 := hr3.cell (i := 0) rfl; have r1 := hr3.cell (i := 1) rfl; have r2 := hr3.cell (i := 2) rfl; have r3 := hr3.cell (i := 3) rfl; have r4 := hr3.cell (i := 4) rfl; have r5 := hr3.cell (i := 5) rfl; have r6 := hr3.cell (i := 6) rfl; have r7 := hr3.cell (i := 7) rfl; have q0 := hr3.frozen 0; have q1 := hr3.frozen 1; have q2 := hr3.frozen 2; have q3 := hr3.frozen 3; have q4 := hr3.frozen 4; have q5 := hr3.frozen 5; have q6 := hr3.frozen 6; have q7 := hr3.frozen 7; clear hv2 hb2 hbo2 hne2 c2 hk2 hk3)
  obtain ⟨W3, hW3⟩ : ∃ V, V = st8 (w2.setCell ⟨w.heap.size, 2, none⟩ (.slice bo XN cp)) (w.heap.size + 1) (.int .i64 o) (.int .i64 s) (.slice bo XN cp) (.string ct) (.int .i64 ep) (.string sk) (.int .i64 qt) (.bool cl) := ⟨_, rfl⟩
  have hk9 : Blk W3 (w.heap.size + 1) 33 [.int .i64 o, .int .i64 s, .slice bo XN cp, .string ct, .int .i64 ep, .string sk, .int .i64 qt, .bool cl] := by rw [hW3]; exact st8_blk hr3 _ _ _ _ _ _ _ _
  have hT3 : Turns (fun i => i = w.heap.size ∨ i = w.heap.size + 1) w2 W3 := by
    rw [hW3]
    exact (((Turns.refl (fun i => i = w.heap.size) w2).setCell (p := ⟨w.heap.size, 2, none⟩) (.inl rfl) _).mono (fun i hi => .inl hi)).trans (st8_turns _ _ _ _ _ _ _ _ _ _) (fun i hi => .inl (.inr hi))
  have HBF : Hid (Below w.heap.size w W3) := (HB.out.trans (HB2.out.mono HB.out.size)).trans (hT3.below (fun i hi => by omega) (bt HB.out HB2.out).size)
  have HLW : Hid (w.heap.size + 1 < W.heap.size) := HR.out.lt
  have HV3 : Hid (HV W3 bo cp dp) := ⟨HV2.out.held.turned hT3 (fun b off e _ hF => by have := HBO.out b off e; have := HLW.out; omega), HV2.out.room, HV2.out.few⟩
  have HNE3 : Hid (NEv W3 bo dp) := HNE2.out.stay HV2.out.held hT3 (fun b off e _ hF => by have := HBO.out b off e; have := HLW.out; omega)
  have k0 := hk9.cell (i := 0) rfl
  have k1 := hk9.cell (i := 1) rfl
  have k2 := hk9.cell (i := 2) rfl
  have k3 := hk9.cell (i := 3) rfl
  have k4 := hk9.cell (i := 4) rfl
  have k5 := hk9.cell (i := 5) rfl
  have k6 := hk9.cell (i := 6) rfl
  have k7 := hk9.cell (i := 7) rfl
  unfold st8 at hW3
  rw [← hW3]
  (try simp only [Exit.inBlock, Exit.then])
  refine bodyPost_ret (v := .agg #[.int .i64 o, .int .i64 s, .slice bo XN cp, .string ct, .int .i64 ep, .string sk, .int .i64 qt, .bool cl]) ?_ rfl ⟨⟨⟨o, s, dp, ct, ep, sk, qt, cl⟩, bo, cp⟩, ?_, rfl, ⟨⟨HV3.out, HOX.out.io, HOX.out.is, HOX.out.ie, HOX.out.iq, HOX.out.hc, HOX.out.hs⟩, HNE3.out⟩, fun b off e => Nat.le_trans HB.out.size (HBO.out b off e), HBF.out⟩
  · rw [results_cell1 rfl]
    go_simp
  · simp only [EvM.val]
    rw [HXN.out]
set_option maxRecDepth 100000 in
set_option maxHeartbeats 1000000 in
theorem mayL_any (w : World) (x : EvM) (hx : EvOk w x) : Calls Tryz.prog 9 #[x.val] w fun e w' => e = .returned (.bool (decide (MayE x.e))) ∧ Below w.heap.size w w' := by
  obtain ⟨W, hW⟩ : ∃ W, W = w.alloc (.cells x.cells.toArray 33) := ⟨_, rfl⟩
  have HB : Hid (Below w.heap.size w W) := by rw [hW]; exact (Below.refl _ _).alloc (Nat.le_refl _) _
  have HK : Hid (Blk W w.heap.size 33 x.cells) := by rw [hW]; exact Blk.new w _ _
  have HEV := hid (event_any W x (hx.below HB.out))
  unfold EventP at HEV
  have HOX := hid hx
  have HW := hid hW
  clear hW hx
  by_cases hr : RightEv x.e = true
  rotate_left 1
  · have HD : Hid (decide (MayE x.e) = false) := decide_eq_false fun h => hr h.1
    rw [HD.out]
    simp only [hr] at HEV
    clear hr HD
    obtain ⟨⟨o, s, dp, ct, ep, sk, qt, cl⟩, ao1, cap1⟩ := x
    obtain ⟨XN, HXN⟩ : ∃ m, Hid (dp.length = m) := ⟨_, hid rfl⟩
    simp only [EvM.val, EvM.cells] at HEV HW HK ⊢
    rw [HXN.out] at HEV HW HK ⊢
    go_enter Tryz.func9, Tryz.ntmps9
    go_wp2_with fail
    rw [← HW.out]
    refine HEV.out.mono ?_
    rintro e w1 ⟨hp, hb⟩
    simp at hp
    subst hp
    have HB1 := hid (bt HB.out hb)
    clear hb
    go_wp2
    go_quiet (fail)
    go_wp2
    go_ret
    exact ⟨rfl, below_dn HB1.out _⟩
  · have HRT := hid hr
    simp only [hr, if_true] at HEV
    clear hr
    obtain ⟨⟨o, s, dp, ct, ep, sk, qt, cl⟩, ao1, cap1⟩ := x
    obtain ⟨XN, HXN⟩ : ∃ m, Hid (dp.length = m) := ⟨_, hid rfl⟩
    simp only [EvM.val, EvM.cells] at HEV HW HK ⊢
    rw [HXN.out] at HEV HW HK ⊢
    have HOF := hid (fun V (hV : Below w.heap.size w V) => of_any V ao1 cap1 dp XN HXN.out o (HOX.out.below hV).deps.held)
    have hsr : 0 ≤ s ∧ s ≤ 2147483647 := (rightEv_iff HRT.out).s
    by_cases h1 : 1 ≤ s
    rotate_left 1
    · have HD : Hid (decide (MayE ⟨o, s, dp, ct, ep, sk, qt, cl⟩) = false) := decide_eq_false fun h => h1 h.2.1
      rw [HD.out]
      have hd1 : decide (1 ≤ s) = false := decide_eq_false h1
      go_enter Tryz.func9, Tryz.ntmps9
      go_wp2_with fail
      rw [← HW.out]
      obtain ⟨p, hp⟩ : ∃ p, p = w.heap.size := ⟨_, rfl⟩
      rw [← hp] at HK ⊢
      refine HEV.out.mono ?_
      rintro e w1 ⟨⟨v, rfl, _⟩, hb⟩
      have HB1 := hid (bt HB.out hb)
      have hk1 := HK.out.below hb HK.out.lt
      have c1 := hk1.cell (i := 1) rfl
      clear hb hk1 hp
      go_wp2
      go_quiet (fail)
      go_wp2
      go_ret
      exact ⟨rfl, below_dn HB1.out _⟩
    · obtain ⟨z, HZ⟩ : ∃ z, Hid (ofV dp o = z) := ⟨_, hid rfl⟩
      rw [HZ.out] at HOF
      have HD : Hid (decide (MayE ⟨o, s, dp, ct, ep, sk, qt, cl⟩) = decide (z = s - 1)) := by
        show _ = _
        rw [decide_eq_decide, ← HZ.out]
        exact ⟨fun h => h.2.2, fun h => ⟨HRT.out, h1, h⟩⟩
      rw [HD.out]
      have hd1 : decide (1 ≤ s) = true := decide_eq_true h1
      have hsub : IntKind.i64.wrap (s - 1) = s - 1 := by rw [IntKind.wrap_i64]; omega
      go_enter Tryz.func9, Tryz.ntmps9
      go_wp2_with fail
      rw [← HW.out]
      obtain ⟨p, hp⟩ : ∃ p, p = w.heap.size := ⟨_, rfl⟩
      rw [← hp] at HK ⊢
      refine HEV.out.mono ?_
      rintro e w1 ⟨⟨v, rfl, _⟩, hb⟩
      have HB1 := hid (bt HB.out hb)
      have hk1 := HK.out.below hb HK.out.lt
      have c0 := hk1.cell (i := 0) rfl
      have c1 := hk1.cell (i := 1) rfl
      have c2 := hk1.cell (i := 2) rfl
      have HOF2 := hid (fun q => HOF.out _ (below_dn HB1.out q))
      clear hb hk1 hp
      go_wp2
      go_quiet (first | (go_at_call 28; refine Calls.quiet_of_same (HOF2.out _)))
      go_wp2
      go_ret
      exact ⟨ret_bool (by rw [Bool.eq_iff_iff]; simp), below_dn HB1.out _⟩
end Go.Proofs.YtjlompnjhmbhhaaGreat
/-
  The law's lives: what must come of every program.
-/
namespace Go.Proofs.YtjlompnjhmbhhaaGreat
open Go.RowKit Go.Maps

def bsC : ByteArray := { data := #[99] }
def bsTea : ByteArray := { data := #[116, 101, 97] }
def lv1 : Ev := ⟨0, 1, [], bsC, 0, bsTea, 2, false⟩
def lv2 : Ev := ⟨1, 1, [], bsC, 0, bsTea, 1, false⟩
def lv3 : Ev := ⟨0, 2, [1], bsC, 0, bsTea, 0, true⟩
theorem lv_stand : standOf [lv1, lv2, lv3] = [lv2, lv3] := by decide +kernel
theorem lv_count : countOf bsC [lv1, lv2, lv3] = [lv2, lv3] := by decide +kernel
theorem lv_lines {ls : List Ln} (h : LinesOf (linesQ bsC [lv1, lv2, lv3]) ls) : ls = [(bsTea, 1)] := by
  refine linesOf_unique h (g := fun s => if s = bsTea then 1 else 0) ⟨by simp, fun s q => ?_⟩ (fun s => ?_)
  · rw [List.mem_singleton, Prod.mk.injEq]
    constructor
    · rintro ⟨rfl, rfl⟩
      exact ⟨by decide, (if_pos rfl).symm⟩
    · rintro ⟨h1, h2⟩
      dsimp only at h2
      split at h2
      · next e => exact ⟨e, h2⟩
      · omega
  · unfold linesQ
    rw [lv_count]
    simp only [qtyOf, lv2, lv3]
    by_cases e : s = bsTea
    · subst e
      simp
    · simp [e, Ne.symm e]
def lvM (w : World) : List EvM := [⟨lv1, none, 0⟩, ⟨lv2, none, 0⟩, ⟨lv3, some ⟨w.heap.size, 0, none⟩, 1⟩]
set_option maxRecDepth 100000 in
theorem lv_held (w : World) : HeldE ((w.alloc (.cells #[.int .i64 1] 3)).alloc (.cells (flatE (lvM w)).toArray 33)) (some ⟨w.heap.size + 1, 0, none⟩) (lvM w) := by
  have hb := ((Blk.new w 3 [.int .i64 1]).alloc (.cells (flatE (lvM w)).toArray 33))
  have hb2 := Blk.new (w.alloc (.cells #[.int .i64 1] 3)) 33 (flatE (lvM w))
  rw [World.size_alloc] at hb2
  refine ⟨?_, .inr ⟨_, 0, rfl, hb2.lt, fun j hj c u hu => ?_⟩⟩
  · intro x hx
    simp [lvM] at hx
    rcases hx with rfl | rfl | rfl
    · exact ⟨hv_none _ 0, by unfold I64; decide, by unfold I64; decide, by unfold I64; decide, by unfold I64; decide, by decide, by decide⟩
    · exact ⟨hv_none _ 0, by unfold I64; decide, by unfold I64; decide, by unfold I64; decide, by unfold I64; decide, by decide, by decide⟩
    · refine ⟨⟨⟨fun x hx => ?_, .inr ⟨_, 0, rfl, hb.lt, fun j hj => ?_⟩⟩, (by decide : lv3.deps.length ≤ 1), (by decide : lv3.deps.length ≤ 17592186044416)⟩, (by unfold I64; decide : I64 lv3.o), (by unfold I64; decide : I64 lv3.s), (by unfold I64; decide : I64 lv3.epoch), (by unfold I64; decide : I64 lv3.qty), (by decide : lv3.cart.size ≤ maxLen), (by decide : lv3.sku.size ≤ maxLen)⟩
      · simp [lv3] at hx
        subst hx
        decide
      · obtain rfl : j = 0 := by simp [lv3] at hj; omega
        exact hb.cell rfl
  · rw [Nat.zero_add]
    exact hb2.cell (flatE_get _ j hj c u hu)
theorem lvM_e (w : World) : (lvM w).map (·.e) = [lv1, lv2, lv3] := rfl
theorem lv_standM (w : World) : (standM (lvM w)).length = 2 := by
  have := congrArg List.length (standM_e (lvM w))
  rw [lvM_e, lv_stand, List.length_map] at this
  exact this
end Go.Proofs.YtjlompnjhmbhhaaGreat
/-
  A new slice of events; what lines tell of an article; small numbers.
-/
namespace Go.Proofs.YtjlompnjhmbhhaaGreat
open Go.RowKit Go.Maps

/-- A new slice of events. -/
theorem held_new {V : World} {xs : List EvM} (h : AllOk V xs) : HeldE (V.alloc (.cells (flatE xs).toArray 33)) (some ⟨V.heap.size, 0, none⟩) xs := by
  have hb := Blk.new V 33 (flatE xs)
  refine ⟨h.below ((Below.refl _ _).alloc (Nat.le_refl _) _), .inr ⟨_, 0, rfl, hb.lt, fun j hj c u hu => ?_⟩⟩
  rw [Nat.zero_add]
  exact hb.cell (flatE_get _ j hj c u hu)
theorem linesQ_nonneg {c : ByteArray} {l : List Ev} (h : ∀ e ∈ l, 0 ≤ e.qty) (s : ByteArray) : 0 ≤ linesQ c l s :=
  qtyOf_nonneg fun e he => h e (by
    have h1 := firstsFrom_sub _ _ e he
    exact (ofCart_mem.1 (standOf_mem.1 h1).1).1)
/-- Lines, and of: how many of an article events have. -/
theorem linesOf_q {f : ByteArray → Int} {ls : List Ln} (h : LinesOf f ls) (hf : ∀ s, 0 ≤ f s) {s : ByteArray} {q : Int} (hq : f s = q) : ofL s ls = q := by rw [ofL_lines h hf, hq]
theorem i64_small {x : Int} (h0 : 0 ≤ x) (h1 : x ≤ 1000) : I64 x := by unfold I64; omega
end Go.Proofs.YtjlompnjhmbhhaaGreat
/-
  The law's SameEvent and right: has each dot one event, with a Qty that may be?
-/
namespace Go.Proofs.YtjlompnjhmbhhaaGreat
open Go.RowKit Go.Maps

set_option maxRecDepth 100000 in
set_option maxHeartbeats 1000000 in
theorem sameEv_any (w : World) (x y : EvM) (hx : EvOk w x) (hy : EvOk w y) :
    Calls Tryz.prog 26 #[x.val, y.val] w fun e w' => e = .returned (.bool (decide (x.e = y.e))) ∧ Below w.heap.size w w' := by
  have HB := hid (ev_two w x y)
  have HEQ : Hid (Calls Tryz.prog 53 #[.slice x.ao x.e.deps.length x.cap, .slice y.ao y.e.deps.length y.cap] ((w.alloc (.cells x.cells.toArray 33)).alloc (.cells y.cells.toArray 33)) fun e w' => e = .returned (.bool (decide (x.e.deps = y.e.deps))) ∧ ∃ q, w' = ((w.alloc (.cells x.cells.toArray 33)).alloc (.cells y.cells.toArray 33)).drewN q) :=
    sameVec_any _ x.ao y.ao x.cap y.cap x.e.deps y.e.deps _ _ rfl rfl (hx.deps.below HB.out) (hy.deps.below HB.out)
  obtain ⟨⟨o1, s1, d1, c1, p1, k1, q1, b1⟩, ao1, cap1⟩ := x
  obtain ⟨⟨o2, s2, d2, c2, p2, k2, q2, b2⟩, ao2, cap2⟩ := y
  simp only [EvM.cells] at HB HEQ
  simp only [EvM.val]
  clear hx hy
  obtain ⟨n1, HN1⟩ : ∃ n, Hid (d1.length = n) := ⟨_, hid rfl⟩
  obtain ⟨n2, HN2⟩ : ∃ n, Hid (d2.length = n) := ⟨_, hid rfl⟩
  rw [HN1.out, HN2.out] at HEQ ⊢
  rw [HN1.out, HN2.out] at HB
  by_cases ho : o1 = o2
  rotate_left 1
  · have HF : Hid (decide ((⟨o1, s1, d1, c1, p1, k1, q1, b1⟩ : Ev) = ⟨o2, s2, d2, c2, p2, k2, q2, b2⟩) = false) := decide_eq_false (fun h => ho (by injection h))
    rw [HF.out]
    go_enter Tryz.func26, Tryz.ntmps26
    go_wp2
    go_ret
    exact ⟨rfl, HB.out⟩
  subst ho
  by_cases hs : s1 = s2
  rotate_left 1
  · have HF : Hid (decide ((⟨o1, s1, d1, c1, p1, k1, q1, b1⟩ : Ev) = ⟨o1, s2, d2, c2, p2, k2, q2, b2⟩) = false) := decide_eq_false (fun h => hs (by injection h))
    rw [HF.out]
    go_enter Tryz.func26, Tryz.ntmps26
    go_wp2
    go_ret
    exact ⟨rfl, HB.out⟩
  subst hs
  obtain ⟨r, HR⟩ : ∃ r, Hid (decide (d1 = d2) = r) := ⟨_, hid rfl⟩
  rw [HR.out] at HEQ
  cases r
  · have HF : Hid (decide ((⟨o1, s1, d1, c1, p1, k1, q1, b1⟩ : Ev) = ⟨o1, s1, d2, c2, p2, k2, q2, b2⟩) = false) := decide_eq_false (fun h => of_decide_eq_false HR.out (by injection h))
    rw [HF.out]
    go_enter Tryz.func26, Tryz.ntmps26
    go_wp2_with fail
    refine HEQ.out.mono ?_
    rintro e w' ⟨rfl, q, rfl⟩
    go_wp2
    go_ret
    exact ⟨rfl, below_dn HB.out q⟩
  have HDD := hid (of_decide_eq_true HR.out)
  by_cases hc : c1 = c2
  rotate_left 1
  · have HF : Hid (decide ((⟨o1, s1, d1, c1, p1, k1, q1, b1⟩ : Ev) = ⟨o1, s1, d2, c2, p2, k2, q2, b2⟩) = false) := decide_eq_false (fun h => hc (by injection h))
    rw [HF.out]
    have hbb : ¬ c1.toList = c2.toList := fun hh => hc (bytes_inj hh)
    go_enter Tryz.func26, Tryz.ntmps26
    go_wp2_with fail
    refine HEQ.out.mono ?_
    rintro e w' ⟨rfl, q, rfl⟩
    go_wp2
    go_ret
    exact ⟨rfl, below_dn HB.out q⟩
  subst hc
  by_cases hp : p1 = p2
  rotate_left 1
  · have HF : Hid (decide ((⟨o1, s1, d1, c1, p1, k1, q1, b1⟩ : Ev) = ⟨o1, s1, d2, c1, p2, k2, q2, b2⟩) = false) := decide_eq_false (fun h => hp (by injection h))
    rw [HF.out]
    go_enter Tryz.func26, Tryz.ntmps26
    go_wp2_with fail
    refine HEQ.out.mono ?_
    rintro e w' ⟨rfl, q, rfl⟩
    go_wp2
    go_ret
    exact ⟨rfl, below_dn HB.out q⟩
  subst hp
  by_cases hk : k1 = k2
  rotate_left 1
  · have HF : Hid (decide ((⟨o1, s1, d1, c1, p1, k1, q1, b1⟩ : Ev) = ⟨o1, s1, d2, c1, p1, k2, q2, b2⟩) = false) := decide_eq_false (fun h => hk (by injection h))
    rw [HF.out]
    have hbb : ¬ k1.toList = k2.toList := fun hh => hk (bytes_inj hh)
    go_enter Tryz.func26, Tryz.ntmps26
    go_wp2_with fail
    refine HEQ.out.mono ?_
    rintro e w' ⟨rfl, q, rfl⟩
    go_wp2
    go_ret
    exact ⟨rfl, below_dn HB.out q⟩
  subst hk
  by_cases hq : q1 = q2
  rotate_left 1
  · have HF : Hid (decide ((⟨o1, s1, d1, c1, p1, k1, q1, b1⟩ : Ev) = ⟨o1, s1, d2, c1, p1, k1, q2, b2⟩) = false) := decide_eq_false (fun h => hq (by injection h))
    rw [HF.out]
    go_enter Tryz.func26, Tryz.ntmps26
    go_wp2_with fail
    refine HEQ.out.mono ?_
    rintro e w' ⟨rfl, q, rfl⟩
    go_wp2
    go_ret
    exact ⟨rfl, below_dn HB.out q⟩
  subst hq
  by_cases hb : b1 = b2
  rotate_left 1
  · have HF : Hid (decide ((⟨o1, s1, d1, c1, p1, k1, q1, b1⟩ : Ev) = ⟨o1, s1, d2, c1, p1, k1, q1, b2⟩) = false) := decide_eq_false (fun h => hb (by injection h))
    rw [HF.out]
    have hbb : (b1 == b2) = false := by simpa using hb
    go_enter Tryz.func26, Tryz.ntmps26
    go_wp2_with fail
    refine HEQ.out.mono ?_
    rintro e w' ⟨rfl, q, rfl⟩
    go_wp2
    go_ret
    exact ⟨rfl, below_dn HB.out q⟩
  subst hb
  have HF : Hid (decide ((⟨o1, s1, d1, c1, p1, k1, q1, b1⟩ : Ev) = ⟨o1, s1, d2, c1, p1, k1, q1, b1⟩) = true) := decide_eq_true (by rw [HDD.out])
  rw [HF.out]
  go_enter Tryz.func26, Tryz.ntmps26
  go_wp2_with fail
  refine HEQ.out.mono ?_
  rintro e w' ⟨rfl, q, rfl⟩
  go_wp2
  go_ret
  exact ⟨rfl, below_dn HB.out q⟩

/-- Has each dot one event, with a Qty that may be? -/
def RightL (l : List Ev) : Prop := (∀ e ∈ l, 0 ≤ e.qty ∧ e.qty ≤ 1000) ∧ OneEach l
def RightTo (xs : List EvM) (i : Nat) : Prop := ∀ a (ha : a < xs.length), a < i → (0 ≤ xs[a].e.qty ∧ xs[a].e.qty ≤ 1000) ∧ ∀ b (hb : b < xs.length), b < a → xs[b].e.o = xs[a].e.o → xs[b].e.s = xs[a].e.s → xs[b].e = xs[a].e
theorem right_all {xs : List EvM} {n : Nat} (hn : xs.length ≤ n) (h : RightTo xs n) : RightL (xs.map (·.e)) := by
  refine ⟨fun e he => ?_, fun e he f hf h1 h2 => ?_⟩
  · obtain ⟨x, hx, rfl⟩ := List.mem_map.1 he
    obtain ⟨a, ha, rfl⟩ := List.mem_iff_getElem.1 hx
    exact (h a ha (by omega)).1
  · obtain ⟨x, hx, rfl⟩ := List.mem_map.1 he
    obtain ⟨a, ha, rfl⟩ := List.mem_iff_getElem.1 hx
    obtain ⟨y, hy, rfl⟩ := List.mem_map.1 hf
    obtain ⟨b, hb, rfl⟩ := List.mem_iff_getElem.1 hy
    rcases Nat.lt_trichotomy a b with hlt | rfl | hlt
    · exact (h b hb (by omega)).2 a ha hlt h1 h2
    · rfl
    · exact ((h a ha (by omega)).2 b hb hlt h1.symm h2.symm).symm
theorem mem_e {xs : List EvM} {a : Nat} (ha : a < xs.length) : xs[a].e ∈ xs.map (·.e) := List.mem_map.2 ⟨_, List.getElem_mem ha, rfl⟩
/-- What right leaves. -/
def RightP (w : World) (l : List Ev) (e : Ending) (w' : World) : Prop := (∃ r, e = .returned (.bool r) ∧ (r = true ↔ RightL l)) ∧ Below w.heap.size w w'
end Go.Proofs.YtjlompnjhmbhhaaGreat
/-
  Appending events in a region that draws its order; what lines tell, said for a walk.
-/
namespace Go.Proofs.YtjlompnjhmbhhaaGreat
open Go.RowKit Go.Maps

/-- V lies behind W: what was there is as it was. -/
structure Sc (W V : World) : Prop where
  out : Below W.heap.size W V
theorem Sc.start (W : World) : Sc W W := ⟨Below.refl _ _⟩
theorem Sc.go {W V U : World} (h : Sc W V) (hb : Below V.heap.size V U) : Sc W U := ⟨bt h.out hb⟩
theorem Sc.dr {W V : World} (h : Sc W V) : Sc W V.drew := ⟨below_dr h.out⟩
theorem Sc.dr0 (W : World) : Sc W W.drew := ⟨below_dr (Below.refl _ _)⟩
theorem Sc.dn {W V : World} (h : Sc W V) (q : Nat) : Sc W (V.drewN q) := ⟨below_dn h.out q⟩
theorem Sc.alloc {W V : World} (h : Sc W V) (o : Obj) : Sc W (V.alloc o) := ⟨h.out.alloc h.out.size _⟩
theorem Sc.grown {W V U : World} (h : Sc W V) (hb : Below W.heap.size V U) : Sc W U := ⟨h.out.trans hb⟩
theorem Sc.size {W V : World} (h : Sc W V) : W.heap.size ≤ V.heap.size := h.out.size

theorem flatE_append (a b : List EvM) : flatE (a ++ b) = flatE a ++ flatE b := by simp [flatE]
theorem flatE_one (xs : List EvM) : ∀ u ∈ flatE xs, u.oneCell' = true := by
  intro u hu
  obtain ⟨x, _, hx⟩ := List.mem_flatMap.1 hu
  exact ev_one x u hx
theorem flatE_at {xs : List EvM} {i : Nat} {u : Value} (h : (flatE xs)[i]? = some u) : ∃ j, ∃ hj : j < xs.length, ∃ c, c < 8 ∧ i = j * 8 + c ∧ xs[j].cells[c]? = some u := by
  have hi : i < xs.length * 8 := by rw [← flatE_len]; exact (List.getElem?_eq_some_iff.1 h).1
  have hj : i / 8 < xs.length := by omega
  have hc : i % 8 < (xs[i / 8]).cells.length := by show _ < 8; omega
  refine ⟨i / 8, hj, i % 8, by omega, by omega, ?_⟩
  have h2 := flatE_get xs (i / 8) hj (i % 8) _ (List.getElem?_eq_getElem hc)
  rw [show i / 8 * 8 + i % 8 = i by omega, h] at h2
  rw [List.getElem?_eq_getElem hc, Option.some.inj h2]
theorem HeldE.news {w : World} {ad : Addr} {xs : List EvM} (h : HeldE w (some ad) xs) : ∀ j u, (flatE xs)[j]? = some u → w.cell? (ad.add j) = some u := by
  intro i u hu
  obtain ⟨j, hj, c, _, rfl, hc⟩ := flatE_at hu
  rcases h.2 with h0 | ⟨b, off, e, _, h3⟩
  · subst h0
    cases hj
  · cases e
    have := h3 j hj c u hc
    rw [Addr.add_lit, ← Nat.add_assoc]
    exact this
theorem ownE_made (w : World) (B : Nat) (hB : B ≤ w.heap.size) : (w.alloc (.cells #[] 33)).ownsRow B 33 8 (.slice (some ⟨w.heap.size, 0, none⟩) 0 0) 0 (flatE []) :=
  ⟨rfl, .inr ⟨w.heap.size, 0, #[], rfl, hB, World.alloc_heap_new w _, Nat.le_refl _, Nat.zero_le _, rfl, rfl⟩⟩
/-- append of events to a row of the call's own, in a region that draws its order. -/
theorem step_append_evs {ops : Array Oper} {o : Oper} {a : Act} {w : World} {K : Act → World → Prop} {Q : Exit → Act → World → Prop} {E : Prop} (hgd : o.guard = none) (s x : Operand)
    (ho : o.op = .call { callee := .builtin .append, args := #[s, x], argTypes := #[22, 22] })
    (base : Nat) (v : Value) (n : Nat) (ds : List EvM) (hn : ds.length = n) (hs : a.eval s = v) (hown : w.ownsRow base 33 8 v n (flatE ds))
    (ao : Option Addr) (m c : Nat) (xs : List EvM) (hm : xs.length = m) (hx : a.eval x = .slice ao m c) (hh : HeldE w ao xs) (hsum : n + m ≤ 100000000) (hbase : base ≤ w.heap.size)
    (hok : ∀ V, Below base w V → AllOk V (ds ++ xs))
    (h : ∀ bo cp w', w'.ownsRow base 33 8 (.slice bo (n + m) cp) (n + m) (flatE (ds ++ xs)) → HeldE w' bo (ds ++ xs) → Below base w w' → w.grownBy w' v.ownBlock → K (a.put o.dst (.slice bo (n + m) cp)) w') :
    if Region.wanted o (yielded ops a.tmps) = true then Oper.wp Tryz.prog o a w K Q else E := by
  have hw : Region.wanted o (yielded ops a.tmps) = true := by simp [Region.wanted, hgd]
  rw [if_pos hw]
  obtain ⟨iI, hj, hy0, hy1, hy2⟩ := info_parts Tryz.infoEv
  cases ao with
  | none =>
    have hx0 : xs = [] := by
      rcases hh.2 with h0 | ⟨b, off, e, _⟩
      · exact h0
      · cases e
    subst hx0
    obtain rfl : 0 = m := hm
    have hr := run_append_noneI (P := Tryz.prog) w base 22 o.type 33 iI 8 Tryz.underlying22 hj v n c _ hown
    rw [List.append_nil] at h hok
    simp only [Nat.add_zero] at h
    obtain ⟨eo, cap, hv, _, hhE⟩ := heldE_of_own hn hown (hok w (Below.refl _ _))
    unfold Oper.wp execOp
    simp only [ho, resolve, invoke, builtin, Sem.run_bind, Sem.run_pure, Result.andThen_ok, List.map_toArray, List.map_cons, List.map_nil, hs, hx, hr]
    have := h eo cap w (by rw [← hv]; exact hown) hhE (Below.refl _ _) (World.grownBy.refl _ _)
    rw [← hv] at this
    exact this
  | some ad =>
    obtain ⟨v', w', hr, hown', hgrow, _, _⟩ := run_append_own_at (P := Tryz.prog) w base 22 o.type 33 iI _ 8 96 Tryz.underlying22 hj hy0 hy1 hy2 rfl (by decide) v n (flatE ds) hown ad m c (flatE xs) (by rw [flatE_len, hm]) hh.news (flatE_one xs) (by unfold maxLen; omega) (by omega) hbase
    unfold Oper.wp execOp
    simp only [ho, resolve, invoke, builtin, Sem.run_bind, Sem.run_pure, Result.andThen_ok, List.map_toArray, List.map_cons, List.map_nil, hs, hx, hr]
    rw [← flatE_append] at hown'
    have hb : Below base w w' := (Below.refl _ _).grown hgrow hbase (fun k hk => (hown.lt k hk).1)
    obtain ⟨bo, cp, rfl, _, hhE⟩ := heldE_of_own (by rw [List.length_append, hn, hm]) hown' (hok w' hb)
    exact h bo cp w' hown' hhE hb hgrow
/-- append([]api.Event{}, x...) in a region that draws its order. -/
theorem step_copy_evs {ops : Array Oper} {o : Oper} {a : Act} {w : World} {K : Act → World → Prop} {Q : Exit → Act → World → Prop} {E : Prop} (hgd : o.guard = none) (s x : Operand)
    (ho : o.op = .call { callee := .builtin .append, args := #[s, x], argTypes := #[22, 22] })
    (base : Nat) (g : Nat) (hs : a.eval s = .slice (some ⟨g, 0, none⟩) 0 0) (hown : w.ownsRow base 33 8 (.slice (some ⟨g, 0, none⟩) 0 0) 0 (flatE []))
    (ao : Option Addr) (m c : Nat) (xs : List EvM) (hm : xs.length = m) (hx : a.eval x = .slice ao m c) (hh : HeldE w ao xs) (hsum : m ≤ 100000000) (hbase : base ≤ w.heap.size)
    (hok : ∀ V, Below base w V → AllOk V xs)
    (h : ∀ bo cp w', w'.ownsRow base 33 8 (.slice bo m cp) m (flatE xs) → HeldE w' bo xs → Below base w w' → w.grownBy w' (some g) → K (a.put o.dst (.slice bo m cp)) w') :
    if Region.wanted o (yielded ops a.tmps) = true then Oper.wp Tryz.prog o a w K Q else E := by
  refine step_append_evs hgd s x ho base _ 0 [] rfl hs hown ao m c xs hm hx hh (by omega) hbase hok ?_
  intro bo cp w' h1 h2 h3 h4
  rw [Nat.zero_add] at h1 ⊢
  exact h bo cp w' h1 h2 h3 h4
theorem ownE_made2 (w : World) (o : Obj) (B : Nat) (hB : B ≤ w.heap.size) : ((w.alloc o).alloc (.cells #[] 33)).ownsRow B 33 8 (.slice (some ⟨w.heap.size + 1, 0, none⟩) 0 0) 0 (flatE []) := by
  have := ownE_made (w.alloc o) B (by simp; omega)
  rw [World.size_alloc] at this
  exact this
theorem held_new2 {V : World} {xs : List EvM} (h : ∀ U, AllOk U xs) (o : Obj) : HeldE ((V.alloc o).alloc (.cells (flatE xs).toArray 33)) (some ⟨V.heap.size + 1, 0, none⟩) xs := by
  have := held_new (V := V.alloc o) (h _)
  rw [World.size_alloc] at this
  exact this
/-- One event without a vector, through a growing row. -/
theorem held_grown {w w' : World} {b : Nat} {X : EvM} (hX : ∀ V, EvOk V X) {row : Option Nat} (h : HeldE w (some ⟨b, 0, none⟩) [X]) (hg : w.grownBy w' row) (hne : some b ≠ row) : HeldE w' (some ⟨b, 0, none⟩) [X] := by
  refine ⟨fun x hx => by rw [List.mem_singleton.1 hx]; exact hX w', ?_⟩
  rcases h.2 with h0 | ⟨b', off, e, h2, h3⟩
  · cases h0
  · cases e
    refine .inr ⟨b, 0, rfl, Nat.lt_of_lt_of_le h2 hg.size, fun j hj c u hu => ?_⟩
    exact hg.cell (h3 j hj c u hu) (by simpa using hne)
/-- A slice of lines that f tells. -/
def LinesAt (f : ByteArray → Int) (V : World) (lo : Option Addr) (ln : Nat) : Prop := ∃ ls, LinesOf f ls ∧ ls.length = ln ∧ ln ≤ 4194304 ∧ HeldL V lo ls
theorem LinesAt.below {f : ByteArray → Int} {V U : World} {lo : Option Addr} {ln : Nat} (h : LinesAt f V lo ln) (hb : Below V.heap.size V U) : LinesAt f U lo ln := by
  obtain ⟨ls, h1, h2, h3, h4⟩ := h
  exact ⟨ls, h1, h2, h3, h4.below hb⟩
theorem wrapI {x : Int} (h0 : -9223372036854775808 ≤ x) (h1 : x ≤ 9223372036854775807) : IntKind.i64.wrap x = x := by
  rw [IntKind.wrap_i64]
  omega
end Go.Proofs.YtjlompnjhmbhhaaGreat
