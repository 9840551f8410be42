/-
  How an argument of type []api.Seal is read; what the second form's bound gives of it.
-/
import Derived.Test.YtkgfpnmifgifpaaSealA
import Derived.Test.YtkgfpnmifgifpaaEvOpen
namespace Go.Proofs.Ytkgfpnmifgifpaa
open Go.RowKit Go.ChangeShapes Go.WideShapes Go.Deep

theorem array4 {α : Type} {cs : List α} (h : cs.length = 4) : ∃ c0 c1 c2 c3, cs = [c0, c1, c2, c3] := by
  match cs, h with
  | [c0, c1, c2, c3], _ => exact ⟨c0, c1, c2, c3, rfl⟩
theorem Try.cellsSl : Try.prog.cellsOf 50 = 4 := by kernel_rfl
set_option maxRecDepth 100000 in
theorem sl_of_trod {H : Type} {enc : TypeId × Value → H} {w : World} {base : Nat} {held : Bool} {fuel : Nat} {cs : List Value} {x : DataW H × List MemPlace} (h : DataW.trod enc Try.prog w base (fun _ => true) held fuel 50 cs = some x) (hbulk : Rows.uptoBulk x.1 ≤ 1048576) :
    ∃ o : SlM, cs = o.cells ∧ SlOk w o ∧ o.e.cut.length ≤ 1048576 := by
  obtain ⟨xs, n, _, hxe, hl, hlen, hf⟩ := DataW.trod_struct Try.underlying50 h
  rw [Try.cellsSl] at hl
  obtain ⟨c0, c1, c2, c3, rfl⟩ := array4 hl
  obtain ⟨y0, y1, y2, y3, rfl⟩ := array4 hlen
  have g : ∀ (i : Nat) (f : Field), (#[_, _, _, _] : Array Field)[i]? = some f → _ := hf
  have h0 := g 0 _ rfl
  have h1 := g 1 _ rfl
  have h2 := g 2 _ rfl
  have h3 := g 3 _ rfl
  have k3 : Try.prog.cellsOf 3 = 1 := by kernel_rfl
  have k9 : Try.prog.cellsOf 9 = 1 := by kernel_rfl
  have k27 : Try.prog.cellsOf 32 = 1 := by kernel_rfl
  simp [k3, k9, k27] at h0 h1 h2 h3
  obtain ⟨s0, e0, _, w0⟩ := DataW.trod_string Try.underlying9 h0
  obtain ⟨s1, e1, _, w1⟩ := DataW.trod_string Try.underlying9 h1
  obtain ⟨a2, e2, _, w2⟩ := DataW.trod_int Try.underlying3 h2
  obtain ⟨a3, l3, d3, rfl⟩ := slice_trod h3
  simp at e0 e1 e2
  subst e0 e1 e2
  obtain ⟨ds, hds, ⟨hh, hr⟩, hd⟩ := open_nums (d := y3.1) (p := y3.2) ⟨n, h3⟩
  have hb : l3 ≤ 1048576 := by
    rcases hd with h | ⟨es, sp, hd, he⟩
    · omega
    · rw [hxe] at hbulk
      simp only [List.map_cons, List.map_nil, Rows.uptoBulk, Rows.uptoBulkAll, hd] at hbulk
      have := bulk_len es
      omega
  subst hds
  exact ⟨⟨⟨s0, s1, a2, ds⟩, a3, d3⟩, rfl, ⟨⟨hh, hr, by show ds.length ≤ _; omega⟩, in64_wf w2, w0, w1⟩, hb⟩

set_option maxRecDepth 100000 in
theorem open_seals {H : Type} {enc : TypeId × Value → H} {w : World} {base : Nat} {held : Bool} {ao : Option Addr} {len cap : Nat} {d : DataW H} {p : List MemPlace} (h : DataW.Trod enc Try.prog w base (fun _ => true) held 23 (.slice ao len cap) d p) (hbulk : Rows.uptoBulk d ≤ 1048576) :
    ∃ os : List SlM, os.length = len ∧ HeldSl w ao os ∧ (len ≤ 1048576 ∧ len ≤ cap) ∧ ∀ o ∈ os, o.e.cut.length ≤ 1048576 := by
  obtain ⟨fuel, hf⟩ := h
  rcases open_slice Try.underlying23 hf with ⟨hcs, hx⟩ | ⟨a, l, c, m, n, Dd, Pl, hcs, _, hl, hm, hmm, hx, hall⟩
  · simp [Value.cells] at hcs
    obtain ⟨rfl, rfl, rfl⟩ := hcs
    exact ⟨[], rfl, ⟨fun o ho => (by cases ho), .inl rfl⟩, ⟨by omega, Nat.le_refl _⟩, fun o ho => (by cases ho)⟩
  · simp [Value.cells] at hcs
    obtain ⟨rfl, rfl, rfl⟩ := hcs
    rw [Try.cellsSl] at hall
    have hlm : len ≤ m := by rw [hmm]; split <;> omega
    simp only [Prod.mk.injEq] at hx
    have hin : ∀ i, i < len → Rows.uptoBulk (Dd i) ≤ 1048576 := fun i hi => by
      have hb := hbulk
      rw [hx.1] at hb
      simp only [Rows.uptoBulk] at hb
      have := bulk_mem (d := Dd i) (l := (List.range len).map Dd) (List.mem_map.2 ⟨i, List.mem_range.2 hi, rfl⟩)
      omega
    have hln : len ≤ 1048576 := by
      have hb := hbulk
      rw [hx.1] at hb
      simp only [Rows.uptoBulk] at hb
      have := bulk_len ((List.range len).map Dd)
      simp at this
      omega
    obtain ⟨O, hO⟩ := choose_lt (α := SlM) (n := len) (p := fun i o => (SlOk w o ∧ o.e.cut.length ≤ 1048576) ∧ w.cells? base (a.add (i * 4)) 4 = some o.cells) (fun i hi => by
      obtain ⟨cs', h1, h2⟩ := hall i (by omega)
      obtain ⟨o, rfl, hok, hk⟩ := sl_of_trod h2 (hin i hi)
      exact ⟨o, ⟨hok, hk⟩, h1⟩)
    refine ⟨(List.range len).map O, by simp, ⟨fun o ho => ?_, ?_⟩, ⟨hln, hl⟩, fun o ho => ?_⟩
    · obtain ⟨i, hi, rfl⟩ := List.mem_map.1 ho
      exact (hO i (List.mem_range.1 hi)).1.1
    · by_cases h0 : len = 0
      · left
        simp [h0]
      · right
        have hc0 : ∀ i, i < len → ∀ c u, (O i).cells[c]? = some u → w.cell? (a.add (i * 4 + c)) = some u := by
          intro i hi c u hu
          have hc := (World.cells?_some (hO i hi).2).2.2 c (by have := (List.getElem?_eq_some_iff.1 hu).1; simpa [SlM.cells] using this)
          rw [add_add] at hc
          rw [hc, hu]
        obtain ⟨b, off, spot⟩ := a
        have hz := hc0 0 (by omega) 0 _ rfl
        have hspot : spot = none := by simpa [Addr.add] using World.cell?_spot hz
        subst hspot
        have hlt := World.block_lt_of_cell? w _ hz
        refine ⟨b, off, rfl, by simpa [Addr.add] using hlt, fun j hj c u hu => ?_⟩
        have hj' : j < len := by simpa using hj
        have := hc0 j hj' c u (by simpa using hu)
        rwa [Addr.add_lit, ← Nat.add_assoc] at this
    · obtain ⟨i, hi, rfl⟩ := List.mem_map.1 ho
      exact (hO i (List.mem_range.1 hi)).1.2
end Go.Proofs.Ytkgfpnmifgifpaa
