/-
  Slots with their entries in memory, and how an argument of type []pannierref18.Slot is read; an argument of type api.Entry.
-/
import Derived.Test.YtgghfmdciohinaaVoOpen
import Derived.RangeFuncNested
import Derived.RangeFuncKeeps
import Derived.RangeFuncBox
import Derived.RangeFuncLeaves
import Derived.RangeFuncSeq
import Derived.RangeFuncCalls
import Derived.RangeFuncBound
import Derived.Sort.QuietIn
namespace Go.Proofs.Ytgghfmdciohinaa
open Go.RowKit Go.ChangeShapes Go.WideShapes Go.Deep

/-- A slot, its entry, and the place of the entry's cut. -/
structure StM where
  n : Int
  en : EnM
def zeroSt : StM := ⟨0, ⟨⟨false, ⟨#[]⟩, ⟨#[]⟩, 0, []⟩, none, 0⟩⟩
instance : Inhabited StM := ⟨zeroSt⟩
def StM.cells (x : StM) : List Value := [.int .i64 x.n, .bool x.en.e.noop, .string x.en.e.tok, .string x.en.e.cart, .int .i64 x.en.e.ep, .slice x.en.ao x.en.e.cut.length x.en.cap]
structure StOk (w : World) (x : StM) : Prop where
  en : EnOk w x.en
  is : I64 x.n
theorem StOk.below {w w' : World} {x : StM} (h : StOk w x) (hb : Below w.heap.size w w') : StOk w' x := ⟨h.en.below hb, h.is⟩
def AllSt (w : World) (xs : List StM) : Prop := ∀ x ∈ xs, StOk w x
/-- A slice of slots holds xs. -/
def HeldSt (w : World) (ao : Option Addr) (xs : List StM) : Prop :=
  AllSt w xs ∧ (xs = [] ∨ ∃ b off, ao = some ⟨b, off, none⟩ ∧ b < w.heap.size ∧ ∀ j (hj : j < xs.length) c u, xs[j].cells[c]? = some u → w.cell? ⟨b, off + j * 6 + c, none⟩ = some u)
theorem HeldSt.below {w w' : World} {ao : Option Addr} {xs : List StM} (h : HeldSt w ao xs) (hb : Below w.heap.size w w') : HeldSt w' ao xs := by
  refine ⟨fun x hx => (h.1 x hx).below hb, ?_⟩
  rcases h.2 with h0 | ⟨b, off, h1, h2, h3⟩
  · exact .inl h0
  · exact .inr ⟨b, off, h1, Nat.lt_of_lt_of_le h2 hb.size, fun j hj c u hu => (hb.cell (p := ⟨b, off + j * 6 + c, none⟩) h2).trans (h3 j hj c u hu)⟩
theorem st_getD {xs : List StM} {k : Nat} (hk : k < xs.length) : xs.getD k default = xs[k] := by simp [List.getD, List.getElem?_eq_getElem hk]
theorem HeldSt.cellsD {w : World} {ao : Option Addr} {xs : List StM} (h : HeldSt w ao xs) {k : Nat} (hk : k < xs.length) :
    ∃ b off, ao = some ⟨b, off, none⟩ ∧ b < w.heap.size ∧ w.cell? ⟨b, off + k * 6, none⟩ = some (.int .i64 (xs.getD k default).n) ∧ w.cell? ⟨b, off + k * 6 + 1, none⟩ = some (.bool (xs.getD k default).en.e.noop) ∧ w.cell? ⟨b, off + k * 6 + 2, none⟩ = some (.string (xs.getD k default).en.e.tok) ∧ w.cell? ⟨b, off + k * 6 + 3, none⟩ = some (.string (xs.getD k default).en.e.cart) ∧ w.cell? ⟨b, off + k * 6 + 4, none⟩ = some (.int .i64 (xs.getD k default).en.e.ep) ∧ w.cell? ⟨b, off + k * 6 + 5, none⟩ = some (.slice (xs.getD k default).en.ao (xs.getD k default).en.e.cut.length (xs.getD k default).en.cap) := by
  rcases h.2 with h0 | ⟨b, off, h1, h2, h3⟩
  · subst h0
    cases hk
  · rw [st_getD hk]
    exact ⟨b, off, h1, h2, h3 k hk 0 _ rfl, h3 k hk 1 _ rfl, h3 k hk 2 _ rfl, h3 k hk 3 _ rfl, h3 k hk 4 _ rfl, h3 k hk 5 _ rfl⟩
theorem HeldSt.okD {w : World} {ao : Option Addr} {xs : List StM} (h : HeldSt w ao xs) {k : Nat} (hk : k < xs.length) : StOk w (xs.getD k default) := by
  rw [st_getD hk]
  exact h.1 _ (List.getElem_mem hk)
theorem arr6B {α : Type} {cs : List α} (h : cs.length = 6) : ∃ c0 c1 c2 c3 c4 c5, cs = [c0, c1, c2, c3, c4, c5] := by
  match cs, h with
  | [c0, c1, c2, c3, c4, c5], _ => exact ⟨c0, c1, c2, c3, c4, c5, rfl⟩
theorem Try.cellsSt : Try.prog.cellsOf 35 = 6 := by kernel_rfl
set_option maxRecDepth 100000 in
theorem st_sized {H : Type} {enc : TypeId × Value → H} {w : World} {base : Nat} {held : Bool} {fuel : Nat} {cs : List Value} {x : DataW H × List MemPlace} (h : DataW.trod enc Try.prog w base (fun _ => true) held fuel 35 cs = some x) (hw : ∀ n ∈ x.1.weights Try.prog 35, n ≤ reachBytes) :
    ∃ o : StM, cs = o.cells ∧ StOk w o := by
  obtain ⟨xs, n, _, hxe, hl, hlen, hf⟩ := DataW.trod_struct Try.underlying35 h
  rw [Try.cellsSt] at hl
  obtain ⟨c0, c1, c2, c3, c4, c5, rfl⟩ := arr6B hl
  obtain ⟨y0, y1, rfl⟩ := arr2B hlen
  have g : ∀ (i : Nat) (f : Field), (#[_, _] : Array Field)[i]? = some f → _ := hf
  have h0 := g 0 _ rfl
  have h1 := g 1 _ rfl
  have k3 : Try.prog.cellsOf 3 = 1 := by kernel_rfl
  have k5 := Try.cellsEn
  simp [k3, k5] at h0 h1
  obtain ⟨a0, e0, _, w0⟩ := DataW.trod_int Try.underlying3 h0
  simp at e0
  subst e0
  obtain ⟨o, e2, ho⟩ := en_sizedB h1 (fun m hm => hw m (by
    rw [hxe]
    simp only [DataW.weights, Try.underlying35]
    exact DataW.weights_mem_each (j := 1) rfl rfl _ hm))
  simp [EnM.cells] at e2
  obtain ⟨rfl, rfl, rfl, rfl, rfl⟩ := e2
  exact ⟨⟨a0, o⟩, rfl, ⟨ho, in64B_wf w0⟩⟩
set_option maxRecDepth 100000 in
theorem open_sts {H : Type} {enc : TypeId × Value → H} {w : World} {base : Nat} {held : Bool} {ao : Option Addr} {len cap : Nat} {d : DataW H} {p : List MemPlace} (h : DataW.Trod enc Try.prog w base (fun _ => true) held 22 (.slice ao len cap) d p)
    (hw : ∀ es sp, d = .slice es sp → ∀ x ∈ es, ∀ n ∈ x.weights Try.prog 35, n ≤ reachBytes) :
    ∃ os : List StM, os.length = len ∧ (HeldSt w ao os ∧ len ≤ cap) ∧ (len = 0 ∨ ∃ es sp, d = .slice es sp ∧ es.length = len) := by
  obtain ⟨fuel, hf⟩ := h
  rcases open_slice Try.underlying22 hf with ⟨hcs, hx⟩ | ⟨a, l, c, m, n, Dd, Pl, hcs, _, hl, hm, hmm, hx, hall⟩
  · simp [Value.cells] at hcs
    obtain ⟨rfl, rfl, rfl⟩ := hcs
    exact ⟨[], rfl, ⟨⟨fun o ho => (by cases ho), .inl rfl⟩, Nat.le_refl _⟩, .inl rfl⟩
  · simp [Value.cells] at hcs
    obtain ⟨rfl, rfl, rfl⟩ := hcs
    rw [Try.cellsSt] at hall
    have hlm : len ≤ m := by rw [hmm]; split <;> omega
    simp only [Prod.mk.injEq] at hx
    obtain ⟨O, hO⟩ := choose_lt (α := StM) (n := len) (p := fun i o => StOk w o ∧ w.cells? base (a.add (i * 6)) 6 = some o.cells) (fun i hi => by
      obtain ⟨cs', h1, h2⟩ := hall i (by omega)
      obtain ⟨o, rfl, hok⟩ := st_sized h2 (hw _ _ hx.1 _ (List.mem_map.2 ⟨i, List.mem_range.2 hi, rfl⟩))
      exact ⟨o, hok, h1⟩)
    refine ⟨(List.range len).map O, by simp, ⟨⟨fun o ho => ?_, ?_⟩, hl⟩, .inr ⟨_, _, hx.1, by simp⟩⟩
    · obtain ⟨i, hi, rfl⟩ := List.mem_map.1 ho
      exact (hO i (List.mem_range.1 hi)).1
    · by_cases h0 : len = 0
      · left
        simp [h0]
      · right
        have hc0 : ∀ i, i < len → ∀ c u, (O i).cells[c]? = some u → w.cell? (a.add (i * 6 + c)) = some u := by
          intro i hi c u hu
          have hc := (World.cells?_some (hO i hi).2).2.2 c (by have := (List.getElem?_eq_some_iff.1 hu).1; simpa [StM.cells] using this)
          rw [add_add] at hc
          rw [hc, hu]
        obtain ⟨b, off, spot⟩ := a
        have hz := hc0 0 (by omega) 0 _ rfl
        have hspot : spot = none := by simpa [Addr.add] using World.cell?_spot hz
        subst hspot
        have hlt := World.block_lt_of_cell? w _ hz
        refine ⟨b, off, rfl, by simpa [Addr.add] using hlt, fun j hj c u hu => ?_⟩
        have hj' : j < len := by simpa using hj
        have := hc0 j hj' c u (by simpa using hu)
        rwa [Addr.add_lit, ← Nat.add_assoc] at this
set_option maxRecDepth 100000 in
/-- An entry as an argument, of whatever size. -/
theorem open_en {H : Type} {enc : TypeId × Value → H} {w : World} {base b0 : Nat} {r : Reach} {held : Bool} {v : Value} {d : DataW H} {p : List MemPlace} (hv : Value.okWide Try.prog w r b0 33 v) (h : DataW.Trod enc Try.prog w base (fun _ => true) held 33 v d p) (hw : ∀ n ∈ d.weights Try.prog 33, n ≤ reachBytes) :
    ∃ o : EnM, v = o.val ∧ EnOk w o := by
  obtain ⟨cs, rfl, _⟩ := okWide_struct Try.underlying33 hv
  obtain ⟨fuel, hf⟩ := h
  obtain ⟨o, ho, hok⟩ := en_sizedB hf hw
  refine ⟨o, ?_, hok⟩
  simp [Value.cells, EnM.cells] at ho
  rw [show cs = #[.bool o.e.noop, .string o.e.tok, .string o.e.cart, .int .i64 o.e.ep, .slice o.ao o.e.cut.length o.cap] from Array.ext' ho]
end Go.Proofs.Ytgghfmdciohinaa
/-
  Package learner: From of a nil learner yields nothing; a range over what yields nothing.
-/
namespace Go.Proofs.Ytgghfmdciohinaa
open Go.RowKit Go.Shelf Go.Maps
attribute [local go_sem] Oper.semAt_some

/-- What yields nothing. -/
def noEncsR : Empty → Array Value := fun x => nomatch x
/-- A range over an iterator that yields nothing. -/
theorem wpIn_rangeFunc_noR {F : Fence} {n : Nat} {P : Program} {g : Operand} {ps : Array Tmp} {assign body : Code} {Q : Exit → Act → World → Prop} {a : Act} {w : World}
    (hro : F.round = none) (h1 : 1 ≤ n) {gf : Nat} {lb : Array Value} (hg : a.eval g = .func (.func gf) #[] lb) (hFg : F.fn gf) (eg : ∀ args w, (callFunc gf args).run P w = .ok (.enter gf args) w)
    {Sp : List Empty → Prop} (hseq : SeqStopsK F (n - 1) P gf lb noEncsR KeepsWalks (fun ys => ys = []) Sp 0 w)
    (hafter : ∀ (D : Nat) (W : World), w.heap.size ≤ D → Below w.heap.size w W → W.heap[D]? = some (.deferred (some [])) → Q .normal { a with defers := { target := .collected D, args := #[] } :: a.defers } W) :
    (Code.rangeFunc g ps assign body).wpIn F n P Q a w :=
  wpIn_rangeFunc_ownG hro h1 hg hFg eg hseq (fun h k => walksK_t h k) (fun W l o o' hl ho hc hw => walksK_b (w := w) W l o o' hl ho hc hw) (Below.refl _ _) (fun x => nomatch x) (fun _ W => Below w.heap.size w W) (fun _ _ _ => False)
    (ownFrom_below (Nat.le_refl _) (Nat.le_refl _)) (fun _ _ _ _ _ h _ _ => h) (Below.refl _ _) (fun x => nomatch x) (fun _ x => nomatch x) (fun _ _ x => nomatch x) (fun D _ W hD _ hI hd => hafter D W hD hI hd) (fun _ _ _ _ _ _ h _ => h.elim)
theorem from_boxes (w : World) (q : Option Addr) (s : Int) {W : World} (hW : W = (w.alloc (.cells #[.pointer q] 23)).alloc (.cells #[.int .i64 s] 3)) : Boxed W w.heap.size 23 (.pointer q) ∧ Boxed W (w.heap.size + 1) 3 (.int .i64 s) ∧ Below w.heap.size w W := by
  subst hW
  refine ⟨(Boxed.new w 23 (.pointer q)).alloc _, ?_, ((Below.refl _ w).alloc (Nat.le_refl _) _).alloc (by simp) _⟩
  have := Boxed.new (w.alloc (.cells #[.pointer q] 23)) 3 (.int .i64 s)
  rw [World.size_alloc] at this
  exact this
set_option maxRecDepth 100000 in
theorem from_nil_seq (n : Nat) (hn : 1 ≤ n) (q0 q1 : Nat) (s : Int) (V : World) (h0 : Boxed V q0 23 (.pointer none)) (h1 : Boxed V q1 3 (.int .i64 s)) :
    SeqStopsK Fence.wide n Try.prog 31 #[.pointer (some ⟨q0, 0, none⟩), .pointer (some ⟨q1, 0, none⟩)] noEncsR KeepsWalks (fun ys => ys = []) (fun _ => True) 0 V := by
  intro l J Jx W hW hJ hJx hY hj
  have hb0 : Boxed W q0 23 (.pointer none) := (hW.block _ h0.lt).trans h0
  have hb1 : Boxed W q1 3 (.int .i64 s) := (hW.block _ h1.lt).trans h1
  have hc0 := hb0.cell
  have hc1 := hb1.cell
  have HJ := hid hJ
  clear hW hJx hY hb0 hb1 h0 h1 hJ
  change CallsIn Fence.wide n Try.prog 31 #[.func (.yield l) #[] #[], .pointer (some ⟨q0, 0, none⟩), .pointer (some ⟨q1, 0, none⟩)] W _
  refine callsIn_of_wp Try.func31 rfl trivial ?_ rfl
  simp only [Try.ntmps31, List.size_toArray, List.length_cons, List.length_nil, Nat.reduceAdd, Nat.reduceSub, Array.replicate_succ, Array.replicate_zero, List.push_toArray, List.append_toArray, List.nil_append, List.cons_append]
  gi_wp2_with fail
  refine ⟨trivial, (callsIn_wide.2 (prefixR_nil _)).mono ?_⟩
  rintro e w2 ⟨rfl, rfl⟩
  obtain ⟨k, hk⟩ : ∃ k : Nat, max s 0 = (k : Int) := ⟨(max s 0).toNat, by omega⟩
  gi_wp2
  have HC0 := hid hc0
  have HC1 := hid hc1
  clear hc0 hc1 hk
  gi_loopw [5] (fun i wr => i = .int .i64 (k : Int) ∧ wr = w2) (fun _ _ => 0)
  case atStart => exact ⟨rfl, rfl⟩
  case round =>
    obtain ⟨rfl, rfl⟩ := hrel
    have hlt : ¬ (k : Int) < 0 := by omega
    gi_wp2
    refine bodyPost_end (results_none rfl _ _ _) rfl ?_
    exact ⟨⟨_, rfl⟩, .inl hj⟩


theorem infoBR : (Try.prog.info? 4).map (fun i => (i.zero, i.size, i.bytes)) = some (some (.bool false), 1, 1) := by kernel_rfl
theorem results_cellR {fn : Func} {t : Tmp} (h : fn.results = #[.cell t 4]) (tmps : Array Value) (w : World) {B : Nat} {v : Value} (hp : tmps.getD t undef = .pointer (some ⟨B, 0, none⟩)) (hc : w.cell? ⟨B, 0, none⟩ = some v) :
    (results fn tmps).run Try.prog w = .ok v w := by
  obtain ⟨i, hi, _, hs, _⟩ := info_parts infoBR
  have hp' : tmps[t]?.getD undef = .pointer (some ⟨B, 0, none⟩) := by simpa using hp
  simp [results, h, hp', hc, go_sem]
end Go.Proofs.Ytgghfmdciohinaa
/-
  Gaps that are filled: the mathematics of LearnerGaps; the law's noop.
-/
namespace Go.Proofs.Ytgghfmdciohinaa
open Go.RowKit Go.Maps

theorem chooseL_mem {g : Lr} {s t : Int} {e : En} (h : t ∈ (chooseL g s e).ks) : t ∈ g.ks ∨ t = s := by
  unfold chooseL at h
  split at h
  · exact (putS_mem _ _ _).1 h
  · exact .inl h
theorem rises_len {ks : List Int} (hr : Rises ks) {B : Nat} (h : ∀ s ∈ ks, 0 ≤ s ∧ s < B) : ks.length ≤ B := by
  have e : ks = (upto 0 B).filter (fun x => decide (x ∈ ks)) := by
    refine rises_unique hr (rises_filter (upto_rises _ _) _) (fun x => ?_)
    rw [List.mem_filter, upto_mem]
    simp
    intro hx
    have := h x hx
    omega
  have h2 := congrArg List.length e
  have h3 := List.length_filter_le (fun x => decide (x ∈ ks)) (upto 0 B)
  rw [upto_len] at h3
  omega
/-- A learner of which some gaps are filled. -/
structure Filled (g : Lr) (G : List Int) (k : Nat) (h : Lr) : Prop where
  mem : ∀ t, t ∈ h.ks ↔ t ∈ g.ks ∨ t ∈ G.take k
  ok : LrOk h
theorem Filled.start {g : Lr} (h : LrOk g) (G : List Int) : Filled g G 0 g := ⟨fun t => by simp, h⟩
theorem rises_take {G : List Int} (h : Rises G) {k : Nat} (hk : k < G.length) : G.getD k 0 ∉ G.take k := by
  rw [show G.getD k 0 = G[k] by simp [List.getD, List.getElem?_eq_getElem hk]]
  intro hm
  obtain ⟨j, hj, e⟩ := List.getElem_of_mem hm
  have hj' : j < k := by simp at hj; omega
  rw [List.getElem_take] at e
  have := List.pairwise_iff_getElem.1 h j k (by omega) hk hj'
  omega
theorem gaps_rises (ks : List Int) (a k : Nat) : Rises (gapsL ks a k) := rises_filter (upto_rises _ _) _
/-- The next gap: no entry stands there, and it is filled. -/
theorem Filled.next {g h : Lr} {a z k : Nat} (hf : Filled g (gapsL g.ks a (z - a)) k h) (hz : z ≤ 3000) (hg : ∀ s ∈ g.ks, s < 3000) (hk : k < (gapsL g.ks a (z - a)).length) : h.f ((gapsL g.ks a (z - a)).getD k 0) = none ∧ chooseC h ((gapsL g.ks a (z - a)).getD k 0) noopEn = 0 ∧ Filled g (gapsL g.ks a (z - a)) (k + 1) (chooseL h ((gapsL g.ks a (z - a)).getD k 0) noopEn) ∧ 0 ≤ (gapsL g.ks a (z - a)).getD k 0 ∧ (gapsL g.ks a (z - a)).getD k 0 < 3000 := by
  obtain ⟨G, hG⟩ : ∃ G, G = gapsL g.ks a (z - a) := ⟨_, rfl⟩
  have hGm : ∀ x ∈ G, (0 ≤ x ∧ x < 3000) ∧ x ∉ g.ks := fun x hx => by
    rw [hG] at hx
    have := gaps_mem.1 hx
    exact ⟨by omega, this.2⟩
  have hr : Rises G := by rw [hG]; exact gaps_rises _ _ _
  rw [← hG] at hk hf ⊢
  clear hG
  have hx : G.getD k 0 ∈ G := by rw [show G.getD k 0 = G[k] by simp [List.getD, List.getElem?_eq_getElem hk]]; exact List.getElem_mem hk
  obtain ⟨⟨x0, x1⟩, x2⟩ := hGm _ hx
  have hnm : G.getD k 0 ∉ h.ks := fun hm => by
    rcases (hf.mem _).1 hm with h1 | h1
    · exact x2 h1
    · exact rises_take hr hk h1
  have hnone : h.f (G.getD k 0) = none := by
    cases hh : h.f (G.getD k 0) with
    | none => rfl
    | some y => exact absurd ((hf.ok.has _).2 (by rw [hh]; rfl)) hnm
  have hlen : h.ks.length ≤ 3000 := rises_len hf.ok.rise (fun s hs => ⟨(hf.ok.slot s hs).1, by
    rcases (hf.mem s).1 hs with h1 | h1
    · exact hg s h1
    · exact (hGm s (List.mem_of_mem_take h1)).1.2⟩)
  have hc : chooseC h (G.getD k 0) noopEn = 0 := by
    unfold chooseC
    rw [if_pos ⟨x0, by omega, right_noop⟩, hnone]
    exact if_pos (by omega)
  refine ⟨hnone, hc, ⟨fun t => ?_, chooseL_ok hf.ok _ _⟩, x0, x1⟩
  unfold chooseL
  rw [if_pos hc]
  show t ∈ putS h.ks _ ↔ _
  rw [putS_mem, hf.mem, List.take_succ_eq_append_getElem hk, List.mem_append, List.mem_singleton, show G.getD k 0 = G[k] by simp [List.getD, List.getElem?_eq_getElem hk], or_assoc]
/-- When all gaps are filled, there is none. -/
theorem Filled.all {g h : Lr} {a z : Nat} (hf : Filled g (gapsL g.ks a (z - a)) (gapsL g.ks a (z - a)).length h) (ha : ∀ s : Int, 0 ≤ s → s < a → s ∈ g.ks) (haz : a ≤ z) (hz : IsEnd g.ks z) (h0 : ∀ s ∈ g.ks, 0 ≤ s) : h.ks = upto 0 z := by
  refine rises_unique hf.ok.rise (upto_rises _ _) (fun x => ?_)
  rw [hf.mem, List.take_length, upto_mem, gaps_mem]
  constructor
  · rintro (h1 | h1)
    · have := hz.all x h1
      have := h0 x h1
      omega
    · omega
  · rintro ⟨h1, h2⟩
    by_cases hx : x ∈ g.ks
    · exact .inl hx
    · refine .inr ⟨⟨?_, by omega⟩, hx⟩
      by_cases h3 : (a : Int) ≤ x
      · exact h3
      · exact absurd (ha x (by omega) (by omega)) hx
theorem pre_upto (z : Nat) : IsPre (upto 0 z) z := ⟨fun s h0 h1 => upto_mem.2 (by omega), fun h => by have := upto_mem.1 h; omega⟩
theorem end_upto (z : Nat) : IsEnd (upto 0 z) z := ⟨fun s h => by have := upto_mem.1 h; omega, by
  rcases Nat.eq_zero_or_pos z with e | e
  · exact .inl e
  · exact .inr (upto_mem.2 (by omega))⟩
theorem extra_upto (z : Nat) : extraL (upto 0 z) z = [] := by
  unfold extraL
  rw [List.filter_eq_nil_iff]
  intro x hx
  have := upto_mem.1 hx
  simp
  omega
theorem miss_upto (ks : List Int) (z : Nat) (most : Int) : missL ks z z most = [] := by unfold missL; rw [Nat.sub_self, gaps_zero]; simp
end Go.Proofs.Ytgghfmdciohinaa
/-
  In whatever order entries are chosen: the mathematics of LearnerOrder; the law's sameInts.
-/
namespace Go.Proofs.Ytgghfmdciohinaa
open Go.RowKit Go.Maps

set_option maxRecDepth 100000 in
theorem sameIntsR (w : World) (ao bo : Option Addr) (ca cb : Nat) (a b : List Int) (m n : Nat) (hm : a.length = m) (hn : b.length = n) (ha : HV w ao ca a) (hb : HV w bo cb b) :
    Calls Try.prog 28 #[.slice ao m ca, .slice bo n cb] w fun e w' => e = .returned (.bool (decide (a = b))) ∧ ∃ q, w' = w.drewN q := by
  by_cases hmn : m = n
  · subst hmn
    have HA := hid ha.held
    have HB := hid hb.held
    have hfa := ha.few
    rw [hm] at hfa
    have HM := hid hm
    have HN := hid hn
    clear ha hb hm hn
    go_enter Try.func28, Try.ntmps28
    go_wp2
    go_loopw [5] (fun i wr => ∃ k : Nat, k ≤ m ∧ i = .int .i64 k ∧ Hid ((∃ q, wr = w.drewN q) ∧ ∀ j, j < k → a.getD j 0 = b.getD j 0)) (fun i _ => m - (intOf i).toNat)
    case atStart => exact ⟨0, Nat.zero_le _, rfl, ⟨0, rfl⟩, fun j hj => absurd hj (Nat.not_lt_zero _)⟩
    case round =>
      obtain ⟨k, hk, rfl, HR⟩ := hrel
      by_cases hlt : k < m
      · have hlt' : (k : Int) < (m : Int) := by omega
        obtain ⟨q, hq⟩ := HR.out.1
        have hka : k < a.length := by rw [HM.out]; exact hlt
        have hkb : k < b.length := by rw [HN.out]; exact hlt
        obtain ⟨b1, o1, rfl, hc1⟩ := HA.out.cellAt hka
        obtain ⟨b2, o2, rfl, hc2⟩ := HB.out.cellAt hkb
        have c1 : wr.cell? ⟨b1, o1 + k, none⟩ = some (.int .i64 (a.getD k 0)) := by rw [hq]; exact hc1 k hka
        have c2 : wr.cell? ⟨b2, o2 + k, none⟩ = some (.int .i64 (b.getD k 0)) := by rw [hq]; exact hc2 k hkb
        have HKB := hid hkb
        have HKA := hid hka
        have HQ := hid hq
        clear hc1 hc2 hka hkb hq
        obtain ⟨X, HX⟩ : ∃ X, Hid (a.getD k 0 = X) := ⟨_, hid rfl⟩
        obtain ⟨Y, HY⟩ : ∃ Y, Hid (b.getD k 0 = Y) := ⟨_, hid rfl⟩
        rw [HX.out] at c1
        rw [HY.out] at c2
        by_cases hxy : X = Y
        · have hb : (X != Y) = false := by simp [hxy]
          have HXY := hid hxy
          clear hxy
          go_wp2
          go_quiet (fail)
          all_goals
            go_wp2
            go_roundw
            case rel => exact ⟨k + 1, by omega, by go_num, ⟨_, by rw [HQ.out, drewN_add]⟩, eq_stepB HR.out.2 (by rw [HX.out, HY.out, HXY.out])⟩
            case measure => simp [intOf]; omega
        · have hb : (X != Y) = true := by simp [hxy]
          have HXY := hid hxy
          clear hxy
          go_wp2
          go_quiet (fail)
          all_goals
            go_wp2
            go_ret
            refine ⟨?_, _, by rw [HQ.out, drewN_add]⟩
            have : ¬ a = b := fun h => HXY.out (by rw [← HX.out, ← HY.out, h])
            rw [decide_eq_false this]
            rfl
      · have hlt' : ¬ (k : Int) < (m : Int) := by omega
        go_wp2
        go_ret
        refine ⟨?_, HR.out.1⟩
        rw [decide_eq_true (eq_of_getDB (by rw [HM.out, HN.out]) (by rw [HM.out]; exact hlt) HR.out.2)]
        rfl
  · have hne : ((m : Int) != (n : Int)) = true := by simp; omega
    have HE : Hid (decide (a = b) = false) := decide_eq_false (fun h => hmn (by rw [← hm, ← hn, h]))
    clear ha hb hm hn
    rw [HE.out]
    go_enter Try.func28, Try.ntmps28
    go_wp2
    go_ret
    exact ⟨rfl, 0, rfl⟩

/-- What was chosen of the slots so far, in the order σ. -/
structure Chose (xs : List StM) (σ : Nat → Nat) (i : Nat) (g : Lr) : Prop where
  ok : LrOk g
  few : g.ks.length ≤ i
  mem : ∀ s e, g.f s = some e ↔ ∃ t, t < i ∧ (xs.getD (σ t) default).n = s ∧ (xs.getD (σ t) default).en.e = e ∧ 0 ≤ s ∧ s ≤ 2147483647 ∧ RightEn e = true
theorem Chose.start (xs : List StM) (σ : Nat → Nat) : Chose xs σ 0 noLr := ⟨noLr_ok, by simp [noLr], fun s e => ⟨fun h => (by simp [noLr] at h), fun ⟨t, ht, _⟩ => (by omega)⟩⟩
/-- No two slots are the same. -/
def Apart (xs : List StM) : Prop := ∀ i j, i < xs.length → j < xs.length → (xs.getD i default).n = (xs.getD j default).n → i = j
theorem Chose.step {xs : List StM} {σ : Nat → Nat} {i : Nat} {g : Lr} (h : Chose xs σ i g) (ha : Apart xs) (hl : xs.length ≤ 60000) (hi : i < xs.length) (hlt : ∀ t, t < xs.length → σ t < xs.length) (hinj : ∀ t u, t < xs.length → u < xs.length → σ t = σ u → t = u) : Chose xs σ (i + 1) (chooseL g (xs.getD (σ i) default).n (xs.getD (σ i) default).en.e) := by
  obtain ⟨s0, hs0⟩ : ∃ s, s = (xs.getD (σ i) default).n := ⟨_, rfl⟩
  obtain ⟨e0, he0⟩ : ∃ e, e = (xs.getD (σ i) default).en.e := ⟨_, rfl⟩
  rw [← hs0, ← he0]
  have hnone : g.f s0 = none := by
    cases hh : g.f s0 with
    | none => rfl
    | some y =>
      obtain ⟨t, ht, h1, _⟩ := (h.mem s0 y).1 hh
      have h2 := ha (σ t) (σ i) (hlt t (by omega)) (hlt i hi) (by rw [h1, hs0])
      have := hinj t i (by omega) hi h2
      omega
  have hfew := h.few
  by_cases hr : 0 ≤ s0 ∧ s0 ≤ 2147483647 ∧ RightEn e0 = true
  · have hc : chooseC g s0 e0 = 0 := by
      unfold chooseC
      rw [if_pos hr, hnone]
      exact if_pos (by omega)
    have hl2 : chooseL g s0 e0 = putL g s0 e0 := by unfold chooseL; rw [if_pos hc]
    refine ⟨chooseL_ok h.ok _ _, ?_, fun s e => ?_⟩
    · rw [hl2]
      have := putS_len g.ks s0
      show (putS g.ks s0).length ≤ _
      omega
    · rw [hl2]
      show (if s = s0 then some e0 else g.f s) = some e ↔ _
      by_cases hs : s = s0
      · rw [if_pos hs]
        constructor
        · intro h1
          cases h1
          exact ⟨i, by omega, by rw [← hs0, hs], he0.symm, by omega, by omega, hr.2.2⟩
        · rintro ⟨t, ht, h1, h2, _⟩
          have h3 := ha (σ t) (σ i) (hlt t (by omega)) (hlt i hi) (by rw [h1, hs, hs0])
          have h4 := hinj t i (by omega) hi h3
          rw [h4] at h2
          rw [he0, h2]
      · rw [if_neg hs, h.mem]
        constructor
        · rintro ⟨t, ht, h1⟩
          exact ⟨t, by omega, h1⟩
        · rintro ⟨t, ht, h1, h2⟩
          refine ⟨t, ?_, h1, h2⟩
          rcases Nat.lt_or_ge t i with h3 | h3
          · exact h3
          · have : t = i := by omega
            subst this
            exact absurd (h1.symm.trans hs0.symm) hs
  · have hc : chooseC g s0 e0 = 1 := by unfold chooseC; rw [if_neg hr]
    have hl2 : chooseL g s0 e0 = g := by unfold chooseL; rw [if_neg (by rw [hc]; decide)]
    rw [hl2]
    refine ⟨h.ok, by omega, fun s e => ?_⟩
    rw [h.mem]
    constructor
    · rintro ⟨t, ht, h1⟩
      exact ⟨t, by omega, h1⟩
    · rintro ⟨t, ht, h1, h2, h3⟩
      refine ⟨t, ?_, h1, h2, h3⟩
      rcases Nat.lt_or_ge t i with h4 | h4
      · exact h4
      · have : t = i := by omega
        subst this
        exact absurd ⟨by rw [hs0, h1]; exact h3.1, by rw [hs0, h1]; exact h3.2.1, by rw [he0, h2]; exact h3.2.2⟩ hr
theorem Chose.same {xs : List StM} {σ τ : Nat → Nat} {g h : Lr} (hg : Chose xs σ xs.length g) (hh : Chose xs τ xs.length h) (h1 : ∀ t, t < xs.length → ∃ u, u < xs.length ∧ τ u = σ t) (h2 : ∀ t, t < xs.length → ∃ u, u < xs.length ∧ σ u = τ t) : g = h := by
  have hf : g.f = h.f := by
    funext s
    apply Option.ext
    intro e
    rw [hg.mem, hh.mem]
    constructor
    · rintro ⟨t, ht, k⟩
      obtain ⟨u, hu, e⟩ := h1 t ht
      exact ⟨u, hu, by rw [e]; exact k⟩
    · rintro ⟨t, ht, k⟩
      obtain ⟨u, hu, e⟩ := h2 t ht
      exact ⟨u, hu, by rw [e]; exact k⟩
  have hk : g.ks = h.ks := rises_unique hg.ok.rise hh.ok.rise (fun x => by rw [hg.ok.has, hh.ok.has, hf])
  cases g
  cases h
  simp only at hf hk
  rw [hf, hk]
/-- The other order. -/
def turnS (n k t : Nat) : Nat := n - 1 - (t + k) % n
theorem mod_two {n a : Nat} (h : a < 2 * n) : a % n = if a < n then a else a - n := by
  split
  · next h1 => exact Nat.mod_eq_of_lt h1
  · next h1 =>
    rw [Nat.mod_eq_sub_mod (by omega)]
    exact Nat.mod_eq_of_lt (by omega)
theorem turnS_lt {n k t : Nat} (h : t < n) : turnS n k t < n := by unfold turnS; omega
theorem turnS_inj {n k t u : Nat} (hk : k < n) (ht : t < n) (hu : u < n) (h : turnS n k t = turnS n k u) : t = u := by
  unfold turnS at h
  have h1 := Nat.mod_lt (t + k) (show 0 < n by omega)
  have h2 := Nat.mod_lt (u + k) (show 0 < n by omega)
  rw [mod_two (show t + k < 2 * n by omega)] at h h1
  rw [mod_two (show u + k < 2 * n by omega)] at h h2
  split at h <;> split at h <;> omega
theorem turnS_onto {n k j : Nat} (hk : k < n) (hj : j < n) : ∃ t, t < n ∧ turnS n k t = j := by
  by_cases h : k ≤ n - 1 - j
  · refine ⟨n - 1 - j - k, by omega, ?_⟩
    unfold turnS
    rw [Nat.mod_eq_of_lt (by omega)]
    omega
  · refine ⟨n - 1 - j + n - k, by omega, ?_⟩
    unfold turnS
    rw [mod_two (by omega), if_neg (by omega)]
    omega
end Go.Proofs.Ytgghfmdciohinaa
