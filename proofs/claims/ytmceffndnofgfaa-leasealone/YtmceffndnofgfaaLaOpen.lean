/-
  How an argument of type []pannierlaw21.Move is read.
-/
import Derived.Test.YtmceffndnofgfaaLeOpen
namespace Go.Proofs.Ytmceffndnofgfaa
open Go.RowKit Go.ChangeShapes Go.WideShapes Go.Deep

/-- One Move: its kind, node, time, and where its clocks lie. -/
structure MoveV where
  kind : Int
  node : Int
  time : Int
  ao : Option Addr
  cap : Nat
  on : List Int
instance : Inhabited MoveV := ⟨⟨0, 0, 0, none, 0, []⟩⟩
def MoveV.cells (m : MoveV) : List Value := [.int .i64 m.kind, .int .i64 m.node, .int .i64 m.time, .slice m.ao m.on.length m.cap]
def MoveV.Ok (w : World) (m : MoveV) : Prop := In64 m.kind ∧ In64 m.node ∧ In64 m.time ∧ HeldInt w m.ao m.on
theorem Try.cellsMove : Try.prog.cellsOf 65 = 4 := by kernel_rfl

set_option maxRecDepth 100000 in
theorem move_of_trod {H : Type} {enc : TypeId × Value → H} {w : World} {base : Nat} {held : Bool} {fuel : Nat} {cs : List Value} {x : DataW H × List MemPlace} (h : DataW.trod enc Try.prog w base (fun _ => true) held fuel 65 cs = some x) :
    ∃ o : MoveV, cs = o.cells ∧ o.Ok w ∧ (o.on.length = 0 ∨ ∃ d0 d1 d2 es sp, x.1 = .agg [d0, d1, d2, .slice es sp] ∧ es.length = o.on.length) := by
  obtain ⟨xs, n, _, hxe, hl, hlen, hf⟩ := DataW.trod_struct Try.underlying65 h
  rw [Try.cellsMove] at hl
  obtain ⟨c0, c1, c2, c3, rfl⟩ := arr4L hl
  obtain ⟨y0, y1, y2, y3, rfl⟩ := arr4L hlen
  have g : ∀ (i : Nat) (f : Field), (#[_, _, _, _] : Array Field)[i]? = some f → _ := hf
  have h0 := g 0 _ rfl
  have h1 := g 1 _ rfl
  have h2 := g 2 _ rfl
  have h3 := g 3 _ rfl
  have k3 : Try.prog.cellsOf 3 = 1 := by kernel_rfl
  have k9 : Try.prog.cellsOf 63 = 1 := by kernel_rfl
  simp [k3, k9] at h0 h1 h2 h3
  obtain ⟨a0, e0, _, w0⟩ := DataW.trod_int Try.underlying3 h0
  obtain ⟨a1, e1, _, w1⟩ := DataW.trod_int Try.underlying3 h1
  obtain ⟨a2, e2, _, w2⟩ := DataW.trod_int Try.underlying3 h2
  simp at e0 e1 e2
  subst e0 e1 e2
  have hv : ∃ ao' len' cap', c3 = .slice ao' len' cap' := by
    rcases open_ints Try.underlying63 Try.underlying3 (by kernel_rfl) h3 with ⟨hcs, _⟩ | ⟨x, l, c, zs, hcs, _⟩
    · simp at hcs; exact ⟨_, _, _, hcs⟩
    · simp at hcs; exact ⟨_, _, _, hcs⟩
  obtain ⟨ao', len', cap', rfl⟩ := hv
  have h3' : DataW.Trod enc Try.prog w base (fun _ => true) held 63 (.slice ao' len' cap') y3.1 y3.2 := ⟨_, h3⟩
  obtain ⟨xs, hxl, hxh, hxd⟩ := open_nums h3'
  subst hxl
  refine ⟨⟨a0, a1, a2, ao', cap', xs⟩, rfl, ⟨in64_wf w0, in64_wf w1, in64_wf w2, hxh⟩, ?_⟩
  rcases hxd with h | ⟨es, sp, hd, he⟩
  · exact .inl h
  · exact .inr ⟨y0.1, y1.1, y2.1, es, sp, by rw [hxe]; simp [hd], he⟩

/-- A slice of Moves holds os. -/
def HeldMv (w : World) (ao : Option Addr) (os : List MoveV) : Prop :=
  (∀ o ∈ os, o.Ok w) ∧ (os = [] ∨ ∃ b off, ao = some ⟨b, off, none⟩ ∧ b < w.heap.size ∧ ∀ j (hj : j < os.length) c u, os[j].cells[c]? = some u → w.cell? ⟨b, off + j * 4 + c, none⟩ = some u)

set_option maxRecDepth 100000 in
theorem open_moves {H : Type} {enc : TypeId × Value → H} {w : World} {base : Nat} {held : Bool} {ao : Option Addr} {len cap : Nat} {d : DataW H} {p : List MemPlace} (h : DataW.Trod enc Try.prog w base (fun _ => true) held 56 (.slice ao len cap) d p) :
    ∃ os, os.length = len ∧ HeldMv w ao os ∧ (len = 0 ∨ ∃ es sp, d = .slice es sp ∧ es.length = len ∧ ∀ o ∈ os, o.on.length = 0 ∨ ∃ d0 d1 d2 es' sp', DataW.agg [d0, d1, d2, .slice es' sp'] ∈ es ∧ es'.length = o.on.length) := by
  obtain ⟨fuel, hf⟩ := h
  rcases open_slice Try.underlying56 hf with ⟨hcs, hx⟩ | ⟨a, l, c, m, n, Dd, Pl, hcs, _, hl, hm, hmm, hx, hall⟩
  · simp [Value.cells] at hcs
    obtain ⟨rfl, rfl, rfl⟩ := hcs
    exact ⟨[], rfl, ⟨fun o ho => (by cases ho), .inl rfl⟩, .inl rfl⟩
  · simp [Value.cells] at hcs
    obtain ⟨rfl, rfl, rfl⟩ := hcs
    rw [Try.cellsMove] at hall
    have hlm : len ≤ m := by rw [hmm]; split <;> omega
    obtain ⟨O, hO⟩ := choose_lt (α := MoveV) (n := len) (p := fun i o => (o.Ok w ∧ (o.on.length = 0 ∨ ∃ d0 d1 d2 es sp, Dd i = .agg [d0, d1, d2, .slice es sp] ∧ es.length = o.on.length)) ∧ w.cells? base (a.add (i * 4)) 4 = some o.cells) (fun i hi => by
      obtain ⟨cs', h1, h2⟩ := hall i (by omega)
      obtain ⟨o, rfl, hok, hk⟩ := move_of_trod h2
      exact ⟨o, ⟨hok, hk⟩, h1⟩)
    refine ⟨(List.range len).map O, by simp, ⟨fun o ho => ?_, ?_⟩, .inr ?_⟩
    · obtain ⟨i, hi, rfl⟩ := List.mem_map.1 ho
      exact (hO i (List.mem_range.1 hi)).1.1
    · by_cases h0 : len = 0
      · left
        simp [h0]
      · right
        have hc0 : ∀ i, i < len → ∀ c u, (O i).cells[c]? = some u → w.cell? (a.add (i * 4 + c)) = some u := by
          intro i hi c u hu
          have hc := (World.cells?_some (hO i hi).2).2.2 c (by have := (List.getElem?_eq_some_iff.1 hu).1; simpa [MoveV.cells] using this)
          rw [add_add] at hc
          rw [hc, hu]
        obtain ⟨b, off, spot⟩ := a
        have hz := hc0 0 (by omega) 0 _ rfl
        have hspot : spot = none := by simpa [Addr.add] using World.cell?_spot hz
        subst hspot
        have hlt := World.block_lt_of_cell? w _ hz
        refine ⟨b, off, rfl, by simpa [Addr.add] using hlt, fun j hj c u hu => ?_⟩
        have hj' : j < len := by simpa using hj
        have := hc0 j hj' c u (by simpa using hu)
        rwa [Addr.add_lit, ← Nat.add_assoc] at this
    · simp only [Prod.mk.injEq] at hx
      refine ⟨_, _, hx.1, by simp, fun o ho => ?_⟩
      obtain ⟨i, hi, rfl⟩ := List.mem_map.1 ho
      rcases (hO i (List.mem_range.1 hi)).1.2 with h | ⟨d0, d1, d2, es, sp, hd, he⟩
      · exact .inl h
      · exact .inr ⟨d0, d1, d2, es, sp, List.mem_map.2 ⟨i, hi, hd⟩, he⟩
theorem HeldMv.at {w W : World} {ao : Option Addr} {os : List MoveV} (h : HeldMv w ao os) (hb : Below w.heap.size w W) {k : Nat} (hk : k < os.length) : ∃ b off, ao = some ⟨b, off, none⟩ ∧ W.cell? ⟨b, off + k * 4, none⟩ = some (.int .i64 os[k].kind) ∧ W.cell? ⟨b, off + k * 4 + 1, none⟩ = some (.int .i64 os[k].node) ∧ W.cell? ⟨b, off + k * 4 + 2, none⟩ = some (.int .i64 os[k].time) ∧ W.cell? ⟨b, off + k * 4 + 3, none⟩ = some (.slice os[k].ao os[k].on.length os[k].cap) ∧ HeldInt W os[k].ao os[k].on ∧ (∀ b' off', os[k].ao = some ⟨b', off', none⟩ → os[k].on ≠ [] → b' < w.heap.size) := by
  rcases h.2 with h0 | ⟨b, off, h1, h2, h3⟩
  · rw [h0] at hk
    cases hk
  · have hc : ∀ i u, os[k].cells[i]? = some u → W.cell? ⟨b, off + k * 4 + i, none⟩ = some u := fun i u hu => (hb.cell (p := ⟨b, off + k * 4 + i, none⟩) h2).trans (h3 k hk i u hu)
    have hk1 := (h.1 _ (List.getElem_mem hk)).2.2.2
    refine ⟨b, off, h1, hc 0 _ rfl, hc 1 _ rfl, hc 2 _ rfl, hc 3 _ rfl, ?_, fun b' off' e he => ?_⟩
    · refine ⟨hk1.1, ?_⟩
      rcases hk1.2 with h0 | ⟨b2, off2, e2, h4, h5⟩
      · exact .inl h0
      · exact .inr ⟨b2, off2, e2, Nat.lt_of_lt_of_le h4 hb.size, fun j hj => (hb.cell (p := ⟨b2, off2 + j, none⟩) h4).trans (h5 j hj)⟩
    · rcases hk1.2 with h0 | ⟨b2, off2, e2, h4, _⟩
      · exact absurd h0 he
      · rw [e] at e2
        cases e2
        exact h4
end Go.Proofs.Ytmceffndnofgfaa
