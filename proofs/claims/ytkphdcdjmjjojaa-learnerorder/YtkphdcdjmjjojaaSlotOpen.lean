/-
  Slots with their entries in memory, and how an argument of type []pannierref18.Slot is read; an argument of type api.Entry.
-/
import Derived.Test.YtkphdcdjmjjojaaVoOpen
namespace Go.Proofs.Ytkphdcdjmjjojaa
open Go.RowKit Go.ChangeShapes Go.WideShapes Go.Deep

/-- A slot, its entry, and the place of the entry's cut. -/
structure StM where
  n : Int
  en : EnM
def zeroSt : StM := ⟨0, ⟨⟨false, ⟨#[]⟩, ⟨#[]⟩, 0, []⟩, none, 0⟩⟩
instance : Inhabited StM := ⟨zeroSt⟩
def StM.cells (x : StM) : List Value := [.int .i64 x.n, .bool x.en.e.noop, .string x.en.e.tok, .string x.en.e.cart, .int .i64 x.en.e.ep, .slice x.en.ao x.en.e.cut.length x.en.cap]
structure StOk (w : World) (x : StM) : Prop where
  en : EnOk w x.en
  is : I64 x.n
theorem StOk.below {w w' : World} {x : StM} (h : StOk w x) (hb : Below w.heap.size w w') : StOk w' x := ⟨h.en.below hb, h.is⟩
def AllSt (w : World) (xs : List StM) : Prop := ∀ x ∈ xs, StOk w x
/-- A slice of slots holds xs. -/
def HeldSt (w : World) (ao : Option Addr) (xs : List StM) : Prop :=
  AllSt w xs ∧ (xs = [] ∨ ∃ b off, ao = some ⟨b, off, none⟩ ∧ b < w.heap.size ∧ ∀ j (hj : j < xs.length) c u, xs[j].cells[c]? = some u → w.cell? ⟨b, off + j * 6 + c, none⟩ = some u)
theorem HeldSt.below {w w' : World} {ao : Option Addr} {xs : List StM} (h : HeldSt w ao xs) (hb : Below w.heap.size w w') : HeldSt w' ao xs := by
  refine ⟨fun x hx => (h.1 x hx).below hb, ?_⟩
  rcases h.2 with h0 | ⟨b, off, h1, h2, h3⟩
  · exact .inl h0
  · exact .inr ⟨b, off, h1, Nat.lt_of_lt_of_le h2 hb.size, fun j hj c u hu => (hb.cell (p := ⟨b, off + j * 6 + c, none⟩) h2).trans (h3 j hj c u hu)⟩
theorem st_getD {xs : List StM} {k : Nat} (hk : k < xs.length) : xs.getD k default = xs[k] := by simp [List.getD, List.getElem?_eq_getElem hk]
theorem HeldSt.cellsD {w : World} {ao : Option Addr} {xs : List StM} (h : HeldSt w ao xs) {k : Nat} (hk : k < xs.length) :
    ∃ b off, ao = some ⟨b, off, none⟩ ∧ b < w.heap.size ∧ w.cell? ⟨b, off + k * 6, none⟩ = some (.int .i64 (xs.getD k default).n) ∧ w.cell? ⟨b, off + k * 6 + 1, none⟩ = some (.bool (xs.getD k default).en.e.noop) ∧ w.cell? ⟨b, off + k * 6 + 2, none⟩ = some (.string (xs.getD k default).en.e.tok) ∧ w.cell? ⟨b, off + k * 6 + 3, none⟩ = some (.string (xs.getD k default).en.e.cart) ∧ w.cell? ⟨b, off + k * 6 + 4, none⟩ = some (.int .i64 (xs.getD k default).en.e.ep) ∧ w.cell? ⟨b, off + k * 6 + 5, none⟩ = some (.slice (xs.getD k default).en.ao (xs.getD k default).en.e.cut.length (xs.getD k default).en.cap) := by
  rcases h.2 with h0 | ⟨b, off, h1, h2, h3⟩
  · subst h0
    cases hk
  · rw [st_getD hk]
    exact ⟨b, off, h1, h2, h3 k hk 0 _ rfl, h3 k hk 1 _ rfl, h3 k hk 2 _ rfl, h3 k hk 3 _ rfl, h3 k hk 4 _ rfl, h3 k hk 5 _ rfl⟩
theorem HeldSt.okD {w : World} {ao : Option Addr} {xs : List StM} (h : HeldSt w ao xs) {k : Nat} (hk : k < xs.length) : StOk w (xs.getD k default) := by
  rw [st_getD hk]
  exact h.1 _ (List.getElem_mem hk)
theorem arr6B {α : Type} {cs : List α} (h : cs.length = 6) : ∃ c0 c1 c2 c3 c4 c5, cs = [c0, c1, c2, c3, c4, c5] := by
  match cs, h with
  | [c0, c1, c2, c3, c4, c5], _ => exact ⟨c0, c1, c2, c3, c4, c5, rfl⟩
theorem Try.cellsSt : Try.prog.cellsOf 35 = 6 := by kernel_rfl
set_option maxRecDepth 100000 in
theorem st_sized {H : Type} {enc : TypeId × Value → H} {w : World} {base : Nat} {held : Bool} {fuel : Nat} {cs : List Value} {x : DataW H × List MemPlace} (h : DataW.trod enc Try.prog w base (fun _ => true) held fuel 35 cs = some x) (hw : ∀ n ∈ x.1.weights Try.prog 35, n ≤ reachBytes) :
    ∃ o : StM, cs = o.cells ∧ StOk w o := by
  obtain ⟨xs, n, _, hxe, hl, hlen, hf⟩ := DataW.trod_struct Try.underlying35 h
  rw [Try.cellsSt] at hl
  obtain ⟨c0, c1, c2, c3, c4, c5, rfl⟩ := arr6B hl
  obtain ⟨y0, y1, rfl⟩ := arr2B hlen
  have g : ∀ (i : Nat) (f : Field), (#[_, _] : Array Field)[i]? = some f → _ := hf
  have h0 := g 0 _ rfl
  have h1 := g 1 _ rfl
  have k3 : Try.prog.cellsOf 3 = 1 := by kernel_rfl
  have k5 := Try.cellsEn
  simp [k3, k5] at h0 h1
  obtain ⟨a0, e0, _, w0⟩ := DataW.trod_int Try.underlying3 h0
  simp at e0
  subst e0
  obtain ⟨o, e2, ho⟩ := en_sizedB h1 (fun m hm => hw m (by
    rw [hxe]
    simp only [DataW.weights, Try.underlying35]
    exact DataW.weights_mem_each (j := 1) rfl rfl _ hm))
  simp [EnM.cells] at e2
  obtain ⟨rfl, rfl, rfl, rfl, rfl⟩ := e2
  exact ⟨⟨a0, o⟩, rfl, ⟨ho, in64B_wf w0⟩⟩
set_option maxRecDepth 100000 in
theorem open_sts {H : Type} {enc : TypeId × Value → H} {w : World} {base : Nat} {held : Bool} {ao : Option Addr} {len cap : Nat} {d : DataW H} {p : List MemPlace} (h : DataW.Trod enc Try.prog w base (fun _ => true) held 22 (.slice ao len cap) d p)
    (hw : ∀ es sp, d = .slice es sp → ∀ x ∈ es, ∀ n ∈ x.weights Try.prog 35, n ≤ reachBytes) :
    ∃ os : List StM, os.length = len ∧ (HeldSt w ao os ∧ len ≤ cap) ∧ (len = 0 ∨ ∃ es sp, d = .slice es sp ∧ es.length = len) := by
  obtain ⟨fuel, hf⟩ := h
  rcases open_slice Try.underlying22 hf with ⟨hcs, hx⟩ | ⟨a, l, c, m, n, Dd, Pl, hcs, _, hl, hm, hmm, hx, hall⟩
  · simp [Value.cells] at hcs
    obtain ⟨rfl, rfl, rfl⟩ := hcs
    exact ⟨[], rfl, ⟨⟨fun o ho => (by cases ho), .inl rfl⟩, Nat.le_refl _⟩, .inl rfl⟩
  · simp [Value.cells] at hcs
    obtain ⟨rfl, rfl, rfl⟩ := hcs
    rw [Try.cellsSt] at hall
    have hlm : len ≤ m := by rw [hmm]; split <;> omega
    simp only [Prod.mk.injEq] at hx
    obtain ⟨O, hO⟩ := choose_lt (α := StM) (n := len) (p := fun i o => StOk w o ∧ w.cells? base (a.add (i * 6)) 6 = some o.cells) (fun i hi => by
      obtain ⟨cs', h1, h2⟩ := hall i (by omega)
      obtain ⟨o, rfl, hok⟩ := st_sized h2 (hw _ _ hx.1 _ (List.mem_map.2 ⟨i, List.mem_range.2 hi, rfl⟩))
      exact ⟨o, hok, h1⟩)
    refine ⟨(List.range len).map O, by simp, ⟨⟨fun o ho => ?_, ?_⟩, hl⟩, .inr ⟨_, _, hx.1, by simp⟩⟩
    · obtain ⟨i, hi, rfl⟩ := List.mem_map.1 ho
      exact (hO i (List.mem_range.1 hi)).1
    · by_cases h0 : len = 0
      · left
        simp [h0]
      · right
        have hc0 : ∀ i, i < len → ∀ c u, (O i).cells[c]? = some u → w.cell? (a.add (i * 6 + c)) = some u := by
          intro i hi c u hu
          have hc := (World.cells?_some (hO i hi).2).2.2 c (by have := (List.getElem?_eq_some_iff.1 hu).1; simpa [StM.cells] using this)
          rw [add_add] at hc
          rw [hc, hu]
        obtain ⟨b, off, spot⟩ := a
        have hz := hc0 0 (by omega) 0 _ rfl
        have hspot : spot = none := by simpa [Addr.add] using World.cell?_spot hz
        subst hspot
        have hlt := World.block_lt_of_cell? w _ hz
        refine ⟨b, off, rfl, by simpa [Addr.add] using hlt, fun j hj c u hu => ?_⟩
        have hj' : j < len := by simpa using hj
        have := hc0 j hj' c u (by simpa using hu)
        rwa [Addr.add_lit, ← Nat.add_assoc] at this
set_option maxRecDepth 100000 in
/-- An entry as an argument, of whatever size. -/
theorem open_en {H : Type} {enc : TypeId × Value → H} {w : World} {base b0 : Nat} {r : Reach} {held : Bool} {v : Value} {d : DataW H} {p : List MemPlace} (hv : Value.okWide Try.prog w r b0 33 v) (h : DataW.Trod enc Try.prog w base (fun _ => true) held 33 v d p) (hw : ∀ n ∈ d.weights Try.prog 33, n ≤ reachBytes) :
    ∃ o : EnM, v = o.val ∧ EnOk w o := by
  obtain ⟨cs, rfl, _⟩ := okWide_struct Try.underlying33 hv
  obtain ⟨fuel, hf⟩ := h
  obtain ⟨o, ho, hok⟩ := en_sizedB hf hw
  refine ⟨o, ?_, hok⟩
  simp [Value.cells, EnM.cells] at ho
  rw [show cs = #[.bool o.e.noop, .string o.e.tok, .string o.e.cart, .int .i64 o.e.ep, .slice o.ao o.e.cut.length o.cap] from Array.ext' ho]
end Go.Proofs.Ytkphdcdjmjjojaa
