/-
  What the second form's bound gives: lengths of strings and slices that were read. Over any data.
-/
import Derived.Test.YtmpkbdhihdboiaaRows
import Derived.Test.YtmpkbdhihdboiaaBlk
import Derived.Lib.SmallJoins
import Derived.Test.YtmpkbdhihdboiaaVoA
import Derived.Deep.SlicePairs
import Derived.ChangeSlices
namespace Go.Proofs.Ytmpkbdhihdboiaa
theorem bulk_pos {H : Type} (d : DataW H) : 1 ≤ Rows.uptoBulk d := by
  cases d with
  | lit l => cases l <;> simp [Rows.uptoBulk]
  | nil => simp [Rows.uptoBulk]
  | ptr d => simp [Rows.uptoBulk]
  | slice elems spare => simp [Rows.uptoBulk]
  | agg parts => simp [Rows.uptoBulk]
  | iface t d => simp [Rows.uptoBulk]
  | map entries => simp [Rows.uptoBulk]
  | held h => simp [Rows.uptoBulk]
theorem bulk_mem {H : Type} {d : DataW H} : ∀ {l : List (DataW H)}, d ∈ l → Rows.uptoBulk d ≤ Rows.uptoBulkAll l
  | [], h => by cases h
  | x :: r, h => by
    simp only [Rows.uptoBulkAll]
    rcases List.mem_cons.1 h with e | e
    · subst e; omega
    · have := bulk_mem e; omega
theorem bulk_len {H : Type} : ∀ l : List (DataW H), l.length ≤ Rows.uptoBulkAll l
  | [] => by simp [Rows.uptoBulkAll]
  | x :: r => by
    have h1 := bulk_pos x
    have h2 := bulk_len r
    simp only [Rows.uptoBulkAll, List.length_cons]
    omega
theorem bulk_string {H : Type} {s : ByteArray} {l : List (DataW H)} (hk : Rows.uptoBulkAll l ≤ 1048576) (h : DataW.lit (.string s.data.toList) ∈ l) : s.size ≤ 1048576 := by
  have := bulk_mem h
  simp only [Rows.uptoBulk] at this
  have e : s.data.toList.length = s.size := by simp
  omega
theorem bulk_slice {H : Type} {elems spare : List (DataW H)} {l : List (DataW H)} (hk : Rows.uptoBulkAll l ≤ 1048576) (h : DataW.slice elems spare ∈ l) : elems.length + spare.length ≤ 1048576 := by
  have := bulk_mem h
  have h1 := bulk_len elems
  have h2 := bulk_len spare
  simp only [Rows.uptoBulk] at this
  omega
end Go.Proofs.Ytmpkbdhihdboiaa
/-
  How an argument of type api.Dot is read.
-/
namespace Go.Proofs.Ytmpkbdhihdboiaa
open Go.RowKit Go.ChangeShapes Go.WideShapes Go.Deep

/-- Whole numbers of 64 bits. -/
def In64 (x : Int) : Prop := -9223372036854775808 ≤ x ∧ x ≤ 9223372036854775807
theorem in64_wf {x : Int} (h : (Lit.int .i64 x).wf = true) : In64 x := by
  simp [Lit.wf, IntKind.min, IntKind.max, IntKind.signed, IntKind.bits] at h
  exact ⟨by omega, by omega⟩
theorem array2 {α : Type} {cs : List α} (h : cs.length = 2) : ∃ c0 c1, cs = [c0, c1] := by
  match cs, h with
  | [c0, c1], _ => exact ⟨c0, c1, rfl⟩
theorem Try.cellsDot : Try.prog.cellsOf 34 = 2 := by kernel_rfl

set_option maxRecDepth 100000 in
theorem dot_of_trod {H : Type} {enc : TypeId × Value → H} {w : World} {base : Nat} {spare : Nat → Bool} {held : Bool} {fuel : Nat} {cs : List Value} {x : DataW H × List MemPlace} (h : DataW.trod enc Try.prog w base spare held fuel 34 cs = some x) :
    ∃ o s : Int, cs = [.int .i64 o, .int .i64 s] ∧ In64 o ∧ In64 s := by
  obtain ⟨xs, n, _, _, hl, hlen, hf⟩ := DataW.trod_struct Try.underlying34 h
  rw [Try.cellsDot] at hl
  obtain ⟨c0, c1, rfl⟩ := array2 hl
  obtain ⟨y0, y1, rfl⟩ := array2 hlen
  have g : ∀ (i : Nat) (f : Field), (#[_, _] : Array Field)[i]? = some f → _ := hf
  have h0 := g 0 _ rfl
  have h1 := g 1 _ rfl
  have k3 : Try.prog.cellsOf 3 = 1 := by kernel_rfl
  simp [k3] at h0 h1
  obtain ⟨a0, e0, _, w0⟩ := DataW.trod_int Try.underlying3 h0
  obtain ⟨a1, e1, _, w1⟩ := DataW.trod_int Try.underlying3 h1
  simp at e0 e1
  subst e0 e1
  exact ⟨a0, a1, rfl, in64_wf w0, in64_wf w1⟩
set_option maxRecDepth 100000 in
theorem open_dot {H : Type} {enc : TypeId × Value → H} {w : World} {base b0 : Nat} {r : Reach} {spare : Nat → Bool} {held : Bool} {v : Value} {d : DataW H} {p : List MemPlace} (hv : Value.okWide Try.prog w r b0 34 v) (h : DataW.Trod enc Try.prog w base spare held 34 v d p) :
    ∃ o s : Int, v = .agg #[.int .i64 o, .int .i64 s] ∧ In64 o ∧ In64 s := by
  obtain ⟨cs, rfl, _⟩ := okWide_struct Try.underlying34 hv
  obtain ⟨fuel, hf⟩ := h
  obtain ⟨o, s, ho, h1, h2⟩ := dot_of_trod hf
  refine ⟨o, s, ?_, h1, h2⟩
  simp [Value.cells] at ho
  rw [show cs = #[.int .i64 o, .int .i64 s] from Array.ext' ho]
end Go.Proofs.Ytmpkbdhihdboiaa
/-
  How an argument of type []api.Event is read; what the second form's bound gives of it.
-/
namespace Go.Proofs.Ytmpkbdhihdboiaa
open Go.RowKit Go.ChangeShapes Go.WideShapes Go.Deep

theorem slice_trod {H : Type} {enc : TypeId × Value → H} {w : World} {base : Nat} {spare : Nat → Bool} {held : Bool} {fuel : Nat} {v : Value} {x : DataW H × List MemPlace} (h : DataW.trod enc Try.prog w base spare held fuel 24 [v] = some x) : ∃ a l c, v = .slice a l c := by
  rcases open_ints Try.underlying24 Try.underlying3 (by kernel_rfl) h with ⟨hcs, _⟩ | ⟨x, l, c, zs, hcs, _⟩
  · simp at hcs; exact ⟨_, _, _, hcs⟩
  · simp at hcs; exact ⟨_, _, _, hcs⟩
theorem array7 {α : Type} {cs : List α} (h : cs.length = 7) : ∃ c0 c1 c2 c3 c4 c5 c6, cs = [c0, c1, c2, c3, c4, c5, c6] := by
  match cs, h with
  | [c0, c1, c2, c3, c4, c5, c6], _ => exact ⟨c0, c1, c2, c3, c4, c5, c6, rfl⟩
theorem array8 {α : Type} {cs : List α} (h : cs.length = 8) : ∃ c0 c1 c2 c3 c4 c5 c6 c7, cs = [c0, c1, c2, c3, c4, c5, c6, c7] := by
  match cs, h with
  | [c0, c1, c2, c3, c4, c5, c6, c7], _ => exact ⟨c0, c1, c2, c3, c4, c5, c6, c7, rfl⟩
theorem Try.cellsEv : Try.prog.cellsOf 36 = 8 := by kernel_rfl
set_option maxRecDepth 100000 in
theorem ev_of_trod {H : Type} {enc : TypeId × Value → H} {w : World} {base : Nat} {held : Bool} {fuel : Nat} {cs : List Value} {x : DataW H × List MemPlace} (h : DataW.trod enc Try.prog w base (fun _ => true) held fuel 36 cs = some x) (hbulk : Rows.uptoBulk x.1 ≤ 1048576) :
    ∃ o : EvM, cs = o.cells ∧ EvOk w o ∧ o.e.deps.length ≤ 1048576 := by
  obtain ⟨xs, n, _, hxe, hl, hlen, hf⟩ := DataW.trod_struct Try.underlying36 h
  rw [Try.cellsEv] at hl
  obtain ⟨c0, c1, c2, c3, c4, c5, c6, c7, rfl⟩ := array8 hl
  obtain ⟨y0, y1, y2, y3, y4, y5, y6, rfl⟩ := array7 hlen
  have g : ∀ (i : Nat) (f : Field), (#[_, _, _, _, _, _, _] : Array Field)[i]? = some f → _ := hf
  have h0 := g 0 _ rfl
  have h1 := g 1 _ rfl
  have h2 := g 2 _ rfl
  have h3 := g 3 _ rfl
  have h4 := g 4 _ rfl
  have h5 := g 5 _ rfl
  have h6 := g 6 _ rfl
  have k3 : Try.prog.cellsOf 3 = 1 := by kernel_rfl
  have k4 : Try.prog.cellsOf 4 = 1 := by kernel_rfl
  have k9 : Try.prog.cellsOf 9 = 1 := by kernel_rfl
  have k27 : Try.prog.cellsOf 24 = 1 := by kernel_rfl
  have k26 := Try.cellsDot
  simp [k3, k4, k9, k27, k26] at h0 h1 h2 h3 h4 h5 h6
  obtain ⟨a0, a1, e0, w0, w1⟩ := dot_of_trod h0
  obtain ⟨a2, l2, d2, rfl⟩ := slice_trod h1
  obtain ⟨s3, e3, _, w3⟩ := DataW.trod_string Try.underlying9 h2
  obtain ⟨a4, e4, _, w4⟩ := DataW.trod_int Try.underlying3 h3
  obtain ⟨s5, e5, _, w5⟩ := DataW.trod_string Try.underlying9 h4
  obtain ⟨a6, e6, _, w6⟩ := DataW.trod_int Try.underlying3 h5
  obtain ⟨b7, e7, _⟩ := DataW.trod_bool Try.underlying4 h6
  simp at e0 e3 e4 e5 e6 e7
  obtain ⟨rfl, rfl⟩ := e0
  subst e3 e4 e5 e6 e7
  obtain ⟨ds, hds, ⟨hh, hr⟩, hd⟩ := open_nums (d := y1.1) (p := y1.2) ⟨n, h1⟩
  have hb : l2 ≤ 1048576 := by
    rcases hd with h | ⟨es, sp, hd, he⟩
    · omega
    · rw [hxe] at hbulk
      simp only [List.map_cons, List.map_nil, Rows.uptoBulk, Rows.uptoBulkAll, hd] at hbulk
      have := bulk_len es
      omega
  subst hds
  exact ⟨⟨⟨a0, a1, ds, s3, a4, s5, a6, b7⟩, a2, d2⟩, rfl, ⟨⟨hh, hr, by show ds.length ≤ _; omega⟩, w0, w1, in64_wf w4, in64_wf w6, w3, w5⟩, hb⟩

set_option maxRecDepth 100000 in
theorem open_events {H : Type} {enc : TypeId × Value → H} {w : World} {base : Nat} {held : Bool} {ao : Option Addr} {len cap : Nat} {d : DataW H} {p : List MemPlace} (h : DataW.Trod enc Try.prog w base (fun _ => true) held 30 (.slice ao len cap) d p) (hbulk : Rows.uptoBulk d ≤ 1048576) :
    ∃ os : List EvM, os.length = len ∧ HeldE w ao os ∧ (len ≤ 1048576 ∧ len ≤ cap) ∧ ∀ o ∈ os, o.e.deps.length ≤ 1048576 := by
  obtain ⟨fuel, hf⟩ := h
  rcases open_slice Try.underlying30 hf with ⟨hcs, hx⟩ | ⟨a, l, c, m, n, Dd, Pl, hcs, _, hl, hm, hmm, hx, hall⟩
  · simp [Value.cells] at hcs
    obtain ⟨rfl, rfl, rfl⟩ := hcs
    exact ⟨[], rfl, ⟨fun o ho => (by cases ho), .inl rfl⟩, ⟨by omega, Nat.le_refl _⟩, fun o ho => (by cases ho)⟩
  · simp [Value.cells] at hcs
    obtain ⟨rfl, rfl, rfl⟩ := hcs
    rw [Try.cellsEv] at hall
    have hlm : len ≤ m := by rw [hmm]; split <;> omega
    simp only [Prod.mk.injEq] at hx
    have hin : ∀ i, i < len → Rows.uptoBulk (Dd i) ≤ 1048576 := fun i hi => by
      have hb := hbulk
      rw [hx.1] at hb
      simp only [Rows.uptoBulk] at hb
      have := bulk_mem (d := Dd i) (l := (List.range len).map Dd) (List.mem_map.2 ⟨i, List.mem_range.2 hi, rfl⟩)
      omega
    have hln : len ≤ 1048576 := by
      have hb := hbulk
      rw [hx.1] at hb
      simp only [Rows.uptoBulk] at hb
      have := bulk_len ((List.range len).map Dd)
      simp at this
      omega
    obtain ⟨O, hO⟩ := choose_lt (α := EvM) (n := len) (p := fun i o => (EvOk w o ∧ o.e.deps.length ≤ 1048576) ∧ w.cells? base (a.add (i * 8)) 8 = some o.cells) (fun i hi => by
      obtain ⟨cs', h1, h2⟩ := hall i (by omega)
      obtain ⟨o, rfl, hok, hk⟩ := ev_of_trod h2 (hin i hi)
      exact ⟨o, ⟨hok, hk⟩, h1⟩)
    refine ⟨(List.range len).map O, by simp, ⟨fun o ho => ?_, ?_⟩, ⟨hln, hl⟩, fun o ho => ?_⟩
    · obtain ⟨i, hi, rfl⟩ := List.mem_map.1 ho
      exact (hO i (List.mem_range.1 hi)).1.1
    · by_cases h0 : len = 0
      · left
        simp [h0]
      · right
        have hc0 : ∀ i, i < len → ∀ c u, (O i).cells[c]? = some u → w.cell? (a.add (i * 8 + c)) = some u := by
          intro i hi c u hu
          have hc := (World.cells?_some (hO i hi).2).2.2 c (by have := (List.getElem?_eq_some_iff.1 hu).1; simpa [EvM.cells] using this)
          rw [add_add] at hc
          rw [hc, hu]
        obtain ⟨b, off, spot⟩ := a
        have hz := hc0 0 (by omega) 0 _ rfl
        have hspot : spot = none := by simpa [Addr.add] using World.cell?_spot hz
        subst hspot
        have hlt := World.block_lt_of_cell? w _ hz
        refine ⟨b, off, rfl, by simpa [Addr.add] using hlt, fun j hj c u hu => ?_⟩
        have hj' : j < len := by simpa using hj
        have := hc0 j hj' c u (by simpa using hu)
        rwa [Addr.add_lit, ← Nat.add_assoc] at this
    · obtain ⟨i, hi, rfl⟩ := List.mem_map.1 ho
      exact (hO i (List.mem_range.1 hi)).1.2
end Go.Proofs.Ytmpkbdhihdboiaa
