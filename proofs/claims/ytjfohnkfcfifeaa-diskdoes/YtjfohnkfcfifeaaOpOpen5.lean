/-
  A row of pannierlaw03's Ops, opened: also how many bytes each has, in the argument.
-/
import Derived.Test.YtjfohnkfcfifeaaOpOpen4
namespace Go.Proofs.Ytjfohnkfcfifeaa
open Go.RowKit Go.ChangeShapes Go.WideShapes Go.Deep

set_option maxRecDepth 100000 in
theorem held_of_trodL {H : Type} {enc : TypeId × Value → H} {w : World} {base : Nat} {held : Bool} {fuel : Nat} {ao : Option Addr} {len cap : Nat} {x : DataW H × List MemPlace} (h : DataW.trod enc Try.prog w base (fun _ => true) held fuel 31 [.slice ao len cap] = some x) : len = 0 ∨ ∃ es sp, x.1 = .slice es sp ∧ es.length = len := by
  rcases open_slice Try.underlying31 h with ⟨hcs, _⟩ | ⟨a, l, c, m, n, Dd, Pl, hcs, _, hl, hm, hmm, hx, hall⟩
  · simp at hcs
    exact .inl hcs.2.1
  · simp at hcs
    obtain ⟨rfl, rfl, rfl⟩ := hcs
    refine .inr ?_
    rw [hx]
    exact ⟨_, _, rfl, by simp⟩

set_option maxRecDepth 100000 in
theorem opL_of_trod {H : Type} {enc : TypeId × Value → H} {w : World} {base : Nat} {held : Bool} {fuel : Nat} {cs : List Value} {x : DataW H × List MemPlace} (h : DataW.trod enc Try.prog w base (fun _ => true) held fuel 34 cs = some x) :
    ∃ o : OpV, cs = o.cells ∧ OpH w o ∧ (o.kl = 0 ∨ ∃ d0 d1 d2 d3 d4 es sp, x.1 = .agg [d0, d1, d2, d3, d4, .slice es sp] ∧ es.length = o.kl) ∧ (o.bl = 0 ∨ ∃ d0 d1 d2 es sp d4 d5, x.1 = .agg [d0, d1, d2, .slice es sp, d4, d5] ∧ es.length = o.bl) := by
  obtain ⟨xs, n, _, hxe, hl, hlen, hf⟩ := DataW.trod_struct Try.underlying34 h
  rw [Try.cellsOp] at hl
  obtain ⟨c0, c1, c2, c3, c4, c5, rfl⟩ := array6 hl
  obtain ⟨y0, y1, y2, y3, y4, y5, rfl⟩ := array6 hlen
  have g : ∀ (i : Nat) (f : Field), (#[_, _, _, _, _, _] : Array Field)[i]? = some f → _ := hf
  have h0 := g 0 _ rfl
  have h1 := g 1 _ rfl
  have h2 := g 2 _ rfl
  have h3 := g 3 _ rfl
  have h4 := g 4 _ rfl
  have h5 := g 5 _ rfl
  have k3 : Try.prog.cellsOf 3 = 1 := by kernel_rfl
  have k9 : Try.prog.cellsOf 9 = 1 := by kernel_rfl
  have k31 : Try.prog.cellsOf 31 = 1 := by kernel_rfl
  have k32 : Try.prog.cellsOf 32 = 1 := by kernel_rfl
  simp [k3, k9, k31, k32] at h0 h1 h2 h3 h4 h5
  obtain ⟨a0, e0, _, w0⟩ := DataW.trod_int Try.underlying3 h0
  obtain ⟨s1, e1, _, w1⟩ := DataW.trod_string Try.underlying9 h1
  obtain ⟨s2, e2, _, w2⟩ := DataW.trod_string Try.underlying9 h2
  obtain ⟨a3, l3, d3, rfl⟩ := slice_of_trod Try.underlying31 h3
  obtain ⟨a4, e4, _, w4⟩ := DataW.trod_int Try.underlying3 h4
  obtain ⟨a5, l5, d5, rfl⟩ := slice_of_trod Try.underlying32 h5
  simp at e0 e1 e2 e4
  subst e0 e1 e2 e4
  obtain ⟨ts, t1, t2, t3, t4, t5⟩ := torns_of_trod (d := y5.1) (pl := y5.2) h5
  refine ⟨⟨a0, s1, s2, a3, l3, d3, a4, a5, l5, d5⟩, rfl, ⟨⟨in64_wf w0, in64_wf w4, w1, w2⟩, held_of_trod h3, ⟨ts, t1, t2, t3, t4⟩⟩, ?_, ?_⟩
  · rcases t5 with h6 | ⟨es, sp, hd, he⟩
    · exact .inl h6
    · exact .inr ⟨y0.1, y1.1, y2.1, y3.1, y4.1, es, sp, by rw [hxe]; simp [hd], he⟩
  · rcases held_of_trodL h3 with h6 | ⟨es, sp, hd, he⟩
    · exact .inl h6
    · exact .inr ⟨y0.1, y1.1, y2.1, es, sp, y4.1, y5.1, by rw [hxe]; simp [hd], he⟩

set_option maxRecDepth 100000 in
theorem open_ops5 {H : Type} {enc : TypeId × Value → H} {w : World} {base : Nat} {held : Bool} {ao : Option Addr} {len cap : Nat} {d : DataW H} {p : List MemPlace} (h : DataW.Trod enc Try.prog w base (fun _ => true) held 22 (.slice ao len cap) d p) :
    ∃ os, os.length = len ∧ HeldO w ao os ∧ (len = 0 ∨ ∃ es sp, d = .slice es sp ∧ es.length = len ∧ (∀ o ∈ os, o.kl = 0 ∨ ∃ d0 d1 d2 d3 d4 es' sp', DataW.agg [d0, d1, d2, d3, d4, .slice es' sp'] ∈ es ∧ es'.length = o.kl) ∧ ∀ o ∈ os, o.bl = 0 ∨ ∃ d0 d1 d2 es' sp' d4 d5, DataW.agg [d0, d1, d2, .slice es' sp', d4, d5] ∈ es ∧ es'.length = o.bl) := by
  obtain ⟨fuel, hf⟩ := h
  rcases open_slice Try.underlying22 hf with ⟨hcs, hx⟩ | ⟨a, l, c, m, n, Dd, Pl, hcs, _, hl, hm, hmm, hx, hall⟩
  · simp [Value.cells] at hcs
    obtain ⟨rfl, rfl, rfl⟩ := hcs
    exact ⟨[], rfl, ⟨fun o ho => (by cases ho), .inl rfl⟩, .inl rfl⟩
  · simp [Value.cells] at hcs
    obtain ⟨rfl, rfl, rfl⟩ := hcs
    rw [Try.cellsOp] at hall
    have hlm : len ≤ m := by rw [hmm]; split <;> omega
    obtain ⟨O, hO⟩ := choose_lt (α := OpV) (n := len) (p := fun i o => (OpH w o ∧ (o.kl = 0 ∨ ∃ d0 d1 d2 d3 d4 es sp, Dd i = .agg [d0, d1, d2, d3, d4, .slice es sp] ∧ es.length = o.kl) ∧ (o.bl = 0 ∨ ∃ d0 d1 d2 es sp d4 d5, Dd i = .agg [d0, d1, d2, .slice es sp, d4, d5] ∧ es.length = o.bl)) ∧ w.cells? base (a.add (i * 6)) 6 = some o.cells) (fun i hi => by
      obtain ⟨cs', h1, h2⟩ := hall i (by omega)
      obtain ⟨o, rfl, hok, hk, hl2⟩ := opL_of_trod h2
      exact ⟨o, ⟨hok, hk, hl2⟩, h1⟩)
    refine ⟨(List.range len).map O, by simp, ⟨fun o ho => ?_, ?_⟩, .inr ?_⟩
    · obtain ⟨i, hi, rfl⟩ := List.mem_map.1 ho
      exact (hO i (List.mem_range.1 hi)).1.1
    · by_cases h0 : len = 0
      · left
        simp [h0]
      · right
        have hc0 : ∀ i, i < len → ∀ c u, (O i).cells[c]? = some u → w.cell? (a.add (i * 6 + c)) = some u := by
          intro i hi c u hu
          have hc := (World.cells?_some (hO i hi).2).2.2 c (by have := (List.getElem?_eq_some_iff.1 hu).1; simpa [OpV.cells] using this)
          rw [add_add] at hc
          rw [hc, hu]
        obtain ⟨b, off, spot⟩ := a
        have hz := hc0 0 (by omega) 0 _ rfl
        have hspot : spot = none := by simpa [Addr.add] using World.cell?_spot hz
        subst hspot
        have hlt := World.block_lt_of_cell? w _ hz
        refine ⟨b, off, rfl, by simpa [Addr.add] using hlt, fun j hj c u hu => ?_⟩
        have hj' : j < len := by simpa using hj
        have := hc0 j hj' c u (by simpa using hu)
        rwa [Addr.add_lit, ← Nat.add_assoc] at this
    · simp only [Prod.mk.injEq] at hx
      refine ⟨_, _, hx.1, by simp, fun o ho => ?_, fun o ho => ?_⟩
      · obtain ⟨i, hi, rfl⟩ := List.mem_map.1 ho
        rcases (hO i (List.mem_range.1 hi)).1.2.1 with h1 | ⟨d0, d1, d2, d3, d4, es', sp', hd, he⟩
        · exact .inl h1
        · exact .inr ⟨d0, d1, d2, d3, d4, es', sp', List.mem_map.2 ⟨i, hi, hd⟩, he⟩
      · obtain ⟨i, hi, rfl⟩ := List.mem_map.1 ho
        rcases (hO i (List.mem_range.1 hi)).1.2.2 with h1 | ⟨d0, d1, d2, es', sp', d4, d5, hd, he⟩
        · exact .inl h1
        · exact .inr ⟨d0, d1, d2, es', sp', d4, d5, List.mem_map.2 ⟨i, hi, hd⟩, he⟩
theorem open_torns {H : Type} {enc : TypeId × Value → H} {w : World} {base : Nat} {held : Bool} {ao : Option Addr} {len cap : Nat} {d : DataW H} {p : List MemPlace} (h : DataW.Trod enc Try.prog w base (fun _ => true) held 32 (.slice ao len cap) d p) :
    ∃ ts : List (ByteArray × Int), ts.length = len ∧ (ts.length ≤ 140737488355328 → HeldT w ao ts) ∧ (len = 0 ∨ ∃ es sp, d = .slice es sp ∧ es.length = len) := by
  obtain ⟨fuel, hf⟩ := h
  obtain ⟨ts, h1, h2, h3, h4, h5⟩ := torns_of_trod (d := d) (pl := p) (by simpa [Value.cells] using hf)
  exact ⟨ts, h1, fun hl => ⟨h2, h3, hl, h4⟩, h5⟩
end Go.Proofs.Ytjfohnkfcfifeaa
