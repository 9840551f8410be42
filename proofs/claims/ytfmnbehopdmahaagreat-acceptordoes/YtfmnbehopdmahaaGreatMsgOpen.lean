/-
  What the second form's bound gives: lengths of strings and slices that were read. Over any data.
-/
import Derived.Test.YtfmnbehopdmahaaGreatRows
import Derived.Test.YtfmnbehopdmahaaGreatTexts
import Derived.Lib.SmallJoins
import Derived.Test.YtfmnbehopdmahaaGreatCodA
import Derived.Deep.SlicePairs
import Derived.ChangeSlices
import Derived.SizedLaws
import Derived.Test.YtfmnbehopdmahaaGreatMsgA
import Derived.Test.YtfmnbehopdmahaaGreatVoOpen
namespace Go.Proofs.YtfmnbehopdmahaaGreat
theorem bulk_pos {H : Type} (d : DataW H) : 1 ≤ Rows.uptoBulk d := by
  cases d with
  | lit l => cases l <;> simp [Rows.uptoBulk]
  | nil => simp [Rows.uptoBulk]
  | ptr d => simp [Rows.uptoBulk]
  | slice elems spare => simp [Rows.uptoBulk]
  | agg parts => simp [Rows.uptoBulk]
  | iface t d => simp [Rows.uptoBulk]
  | map entries => simp [Rows.uptoBulk]
  | held h => simp [Rows.uptoBulk]
theorem bulk_mem {H : Type} {d : DataW H} : ∀ {l : List (DataW H)}, d ∈ l → Rows.uptoBulk d ≤ Rows.uptoBulkAll l
  | [], h => by cases h
  | x :: r, h => by
    simp only [Rows.uptoBulkAll]
    rcases List.mem_cons.1 h with e | e
    · subst e; omega
    · have := bulk_mem e; omega
theorem bulk_len {H : Type} : ∀ l : List (DataW H), l.length ≤ Rows.uptoBulkAll l
  | [] => by simp [Rows.uptoBulkAll]
  | x :: r => by
    have h1 := bulk_pos x
    have h2 := bulk_len r
    simp only [Rows.uptoBulkAll, List.length_cons]
    omega
theorem bulk_string {H : Type} {s : ByteArray} {l : List (DataW H)} (hk : Rows.uptoBulkAll l ≤ 1048576) (h : DataW.lit (.string s.data.toList) ∈ l) : s.size ≤ 1048576 := by
  have := bulk_mem h
  simp only [Rows.uptoBulk] at this
  have e : s.data.toList.length = s.size := by simp
  omega
theorem bulk_slice {H : Type} {elems spare : List (DataW H)} {l : List (DataW H)} (hk : Rows.uptoBulkAll l ≤ 1048576) (h : DataW.slice elems spare ∈ l) : elems.length + spare.length ≤ 1048576 := by
  have := bulk_mem h
  have h1 := bulk_len elems
  have h2 := bulk_len spare
  simp only [Rows.uptoBulk] at this
  omega
end Go.Proofs.YtfmnbehopdmahaaGreat
/-
  How an argument of type api.Dot is read.
-/
namespace Go.Proofs.YtfmnbehopdmahaaGreat
open Go.RowKit Go.ChangeShapes Go.WideShapes Go.Deep

/-- Whole numbers of 64 bits. -/
def In64 (x : Int) : Prop := -9223372036854775808 ≤ x ∧ x ≤ 9223372036854775807
theorem in64_wf {x : Int} (h : (Lit.int .i64 x).wf = true) : In64 x := by
  simp [Lit.wf, IntKind.min, IntKind.max, IntKind.signed, IntKind.bits] at h
  exact ⟨by omega, by omega⟩
theorem array2 {α : Type} {cs : List α} (h : cs.length = 2) : ∃ c0 c1, cs = [c0, c1] := by
  match cs, h with
  | [c0, c1], _ => exact ⟨c0, c1, rfl⟩
theorem Tryz.cellsDot : Tryz.prog.cellsOf 95 = 2 := by kernel_rfl

set_option maxRecDepth 100000 in
theorem dot_of_trod {H : Type} {enc : TypeId × Value → H} {w : World} {base : Nat} {spare : Nat → Bool} {held : Bool} {fuel : Nat} {cs : List Value} {x : DataW H × List MemPlace} (h : DataW.trod enc Tryz.prog w base spare held fuel 95 cs = some x) :
    ∃ o s : Int, cs = [.int .i64 o, .int .i64 s] ∧ In64 o ∧ In64 s := by
  obtain ⟨xs, n, _, _, hl, hlen, hf⟩ := DataW.trod_struct Tryz.underlying95 h
  rw [Tryz.cellsDot] at hl
  obtain ⟨c0, c1, rfl⟩ := array2 hl
  obtain ⟨y0, y1, rfl⟩ := array2 hlen
  have g : ∀ (i : Nat) (f : Field), (#[_, _] : Array Field)[i]? = some f → _ := hf
  have h0 := g 0 _ rfl
  have h1 := g 1 _ rfl
  have k3 : Tryz.prog.cellsOf 3 = 1 := by kernel_rfl
  simp [k3] at h0 h1
  obtain ⟨a0, e0, _, w0⟩ := DataW.trod_int Tryz.underlying3 h0
  obtain ⟨a1, e1, _, w1⟩ := DataW.trod_int Tryz.underlying3 h1
  simp at e0 e1
  subst e0 e1
  exact ⟨a0, a1, rfl, in64_wf w0, in64_wf w1⟩
set_option maxRecDepth 100000 in
theorem open_dot {H : Type} {enc : TypeId × Value → H} {w : World} {base b0 : Nat} {r : Reach} {spare : Nat → Bool} {held : Bool} {v : Value} {d : DataW H} {p : List MemPlace} (hv : Value.okWide Tryz.prog w r b0 95 v) (h : DataW.Trod enc Tryz.prog w base spare held 95 v d p) :
    ∃ o s : Int, v = .agg #[.int .i64 o, .int .i64 s] ∧ In64 o ∧ In64 s := by
  obtain ⟨cs, rfl, _⟩ := okWide_struct Tryz.underlying95 hv
  obtain ⟨fuel, hf⟩ := h
  obtain ⟨o, s, ho, h1, h2⟩ := dot_of_trod hf
  refine ⟨o, s, ?_, h1, h2⟩
  simp [Value.cells] at ho
  rw [show cs = #[.int .i64 o, .int .i64 s] from Array.ext' ho]
end Go.Proofs.YtfmnbehopdmahaaGreat
/-
  How an argument of type []api.Event is read; what the second form's bound gives of it.
-/
namespace Go.Proofs.YtfmnbehopdmahaaGreat
open Go.RowKit Go.ChangeShapes Go.WideShapes Go.Deep

theorem slice_trod {H : Type} {enc : TypeId × Value → H} {w : World} {base : Nat} {spare : Nat → Bool} {held : Bool} {fuel : Nat} {v : Value} {x : DataW H × List MemPlace} (h : DataW.trod enc Tryz.prog w base spare held fuel 23 [v] = some x) : ∃ a l c, v = .slice a l c := by
  rcases open_ints Tryz.underlying23 Tryz.underlying3 (by kernel_rfl) h with ⟨hcs, _⟩ | ⟨x, l, c, zs, hcs, _⟩
  · simp at hcs; exact ⟨_, _, _, hcs⟩
  · simp at hcs; exact ⟨_, _, _, hcs⟩
theorem array7 {α : Type} {cs : List α} (h : cs.length = 7) : ∃ c0 c1 c2 c3 c4 c5 c6, cs = [c0, c1, c2, c3, c4, c5, c6] := by
  match cs, h with
  | [c0, c1, c2, c3, c4, c5, c6], _ => exact ⟨c0, c1, c2, c3, c4, c5, c6, rfl⟩
theorem array8 {α : Type} {cs : List α} (h : cs.length = 8) : ∃ c0 c1 c2 c3 c4 c5 c6 c7, cs = [c0, c1, c2, c3, c4, c5, c6, c7] := by
  match cs, h with
  | [c0, c1, c2, c3, c4, c5, c6, c7], _ => exact ⟨c0, c1, c2, c3, c4, c5, c6, c7, rfl⟩
theorem Tryz.cellsEv : Tryz.prog.cellsOf 97 = 8 := by kernel_rfl
set_option maxRecDepth 100000 in
theorem ev_of_trod {H : Type} {enc : TypeId × Value → H} {w : World} {base : Nat} {held : Bool} {fuel : Nat} {cs : List Value} {x : DataW H × List MemPlace} (h : DataW.trod enc Tryz.prog w base (fun _ => true) held fuel 97 cs = some x) (hbulk : Rows.uptoBulk x.1 ≤ 1048576) :
    ∃ o : EvM, cs = o.cells ∧ EvOk w o ∧ o.e.deps.length ≤ 1048576 := by
  obtain ⟨xs, n, _, hxe, hl, hlen, hf⟩ := DataW.trod_struct Tryz.underlying97 h
  rw [Tryz.cellsEv] at hl
  obtain ⟨c0, c1, c2, c3, c4, c5, c6, c7, rfl⟩ := array8 hl
  obtain ⟨y0, y1, y2, y3, y4, y5, y6, rfl⟩ := array7 hlen
  have g : ∀ (i : Nat) (f : Field), (#[_, _, _, _, _, _, _] : Array Field)[i]? = some f → _ := hf
  have h0 := g 0 _ rfl
  have h1 := g 1 _ rfl
  have h2 := g 2 _ rfl
  have h3 := g 3 _ rfl
  have h4 := g 4 _ rfl
  have h5 := g 5 _ rfl
  have h6 := g 6 _ rfl
  have k3 : Tryz.prog.cellsOf 3 = 1 := by kernel_rfl
  have k4 : Tryz.prog.cellsOf 4 = 1 := by kernel_rfl
  have k9 : Tryz.prog.cellsOf 9 = 1 := by kernel_rfl
  have k27 : Tryz.prog.cellsOf 23 = 1 := by kernel_rfl
  have k26 := Tryz.cellsDot
  simp [k3, k4, k9, k27, k26] at h0 h1 h2 h3 h4 h5 h6
  obtain ⟨a0, a1, e0, w0, w1⟩ := dot_of_trod h0
  obtain ⟨a2, l2, d2, rfl⟩ := slice_trod h1
  obtain ⟨s3, e3, _, w3⟩ := DataW.trod_string Tryz.underlying9 h2
  obtain ⟨a4, e4, _, w4⟩ := DataW.trod_int Tryz.underlying3 h3
  obtain ⟨s5, e5, _, w5⟩ := DataW.trod_string Tryz.underlying9 h4
  obtain ⟨a6, e6, _, w6⟩ := DataW.trod_int Tryz.underlying3 h5
  obtain ⟨b7, e7, _⟩ := DataW.trod_bool Tryz.underlying4 h6
  simp at e0 e3 e4 e5 e6 e7
  obtain ⟨rfl, rfl⟩ := e0
  subst e3 e4 e5 e6 e7
  obtain ⟨ds, hds, ⟨hh, hr⟩, hd⟩ := open_nums (d := y1.1) (p := y1.2) ⟨n, h1⟩
  have hb : l2 ≤ 1048576 := by
    rcases hd with h | ⟨es, sp, hd, he⟩
    · omega
    · rw [hxe] at hbulk
      simp only [List.map_cons, List.map_nil, Rows.uptoBulk, Rows.uptoBulkAll, hd] at hbulk
      have := bulk_len es
      omega
  subst hds
  exact ⟨⟨⟨a0, a1, ds, s3, a4, s5, a6, b7⟩, a2, d2⟩, rfl, ⟨⟨hh, hr, by show ds.length ≤ _; omega⟩, w0, w1, in64_wf w4, in64_wf w6, w3, w5⟩, hb⟩

set_option maxRecDepth 100000 in
theorem open_events {H : Type} {enc : TypeId × Value → H} {w : World} {base : Nat} {held : Bool} {ao : Option Addr} {len cap : Nat} {d : DataW H} {p : List MemPlace} (h : DataW.Trod enc Tryz.prog w base (fun _ => true) held 41 (.slice ao len cap) d p) (hbulk : Rows.uptoBulk d ≤ 1048576) :
    ∃ os : List EvM, os.length = len ∧ HeldE w ao os ∧ (len ≤ 1048576 ∧ len ≤ cap) ∧ ∀ o ∈ os, o.e.deps.length ≤ 1048576 := by
  obtain ⟨fuel, hf⟩ := h
  rcases open_slice Tryz.underlying41 hf with ⟨hcs, hx⟩ | ⟨a, l, c, m, n, Dd, Pl, hcs, _, hl, hm, hmm, hx, hall⟩
  · simp [Value.cells] at hcs
    obtain ⟨rfl, rfl, rfl⟩ := hcs
    exact ⟨[], rfl, ⟨fun o ho => (by cases ho), .inl rfl⟩, ⟨by omega, Nat.le_refl _⟩, fun o ho => (by cases ho)⟩
  · simp [Value.cells] at hcs
    obtain ⟨rfl, rfl, rfl⟩ := hcs
    rw [Tryz.cellsEv] at hall
    have hlm : len ≤ m := by rw [hmm]; split <;> omega
    simp only [Prod.mk.injEq] at hx
    have hin : ∀ i, i < len → Rows.uptoBulk (Dd i) ≤ 1048576 := fun i hi => by
      have hb := hbulk
      rw [hx.1] at hb
      simp only [Rows.uptoBulk] at hb
      have := bulk_mem (d := Dd i) (l := (List.range len).map Dd) (List.mem_map.2 ⟨i, List.mem_range.2 hi, rfl⟩)
      omega
    have hln : len ≤ 1048576 := by
      have hb := hbulk
      rw [hx.1] at hb
      simp only [Rows.uptoBulk] at hb
      have := bulk_len ((List.range len).map Dd)
      simp at this
      omega
    obtain ⟨O, hO⟩ := choose_lt (α := EvM) (n := len) (p := fun i o => (EvOk w o ∧ o.e.deps.length ≤ 1048576) ∧ w.cells? base (a.add (i * 8)) 8 = some o.cells) (fun i hi => by
      obtain ⟨cs', h1, h2⟩ := hall i (by omega)
      obtain ⟨o, rfl, hok, hk⟩ := ev_of_trod h2 (hin i hi)
      exact ⟨o, ⟨hok, hk⟩, h1⟩)
    refine ⟨(List.range len).map O, by simp, ⟨fun o ho => ?_, ?_⟩, ⟨hln, hl⟩, fun o ho => ?_⟩
    · obtain ⟨i, hi, rfl⟩ := List.mem_map.1 ho
      exact (hO i (List.mem_range.1 hi)).1.1
    · by_cases h0 : len = 0
      · left
        simp [h0]
      · right
        have hc0 : ∀ i, i < len → ∀ c u, (O i).cells[c]? = some u → w.cell? (a.add (i * 8 + c)) = some u := by
          intro i hi c u hu
          have hc := (World.cells?_some (hO i hi).2).2.2 c (by have := (List.getElem?_eq_some_iff.1 hu).1; simpa [EvM.cells] using this)
          rw [add_add] at hc
          rw [hc, hu]
        obtain ⟨b, off, spot⟩ := a
        have hz := hc0 0 (by omega) 0 _ rfl
        have hspot : spot = none := by simpa [Addr.add] using World.cell?_spot hz
        subst hspot
        have hlt := World.block_lt_of_cell? w _ hz
        refine ⟨b, off, rfl, by simpa [Addr.add] using hlt, fun j hj c u hu => ?_⟩
        have hj' : j < len := by simpa using hj
        have := hc0 j hj' c u (by simpa using hu)
        rwa [Addr.add_lit, ← Nat.add_assoc] at this
    · obtain ⟨i, hi, rfl⟩ := List.mem_map.1 ho
      exact (hO i (List.mem_range.1 hi)).1.2
end Go.Proofs.YtfmnbehopdmahaaGreat
/-
  How an argument of type []api.Event is read, where it takes no more than the form's own reach.
-/
namespace Go.Proofs.YtfmnbehopdmahaaGreat
open Go.RowKit Go.ChangeShapes Go.WideShapes Go.Deep

theorem weightsAll_in {H : Type} {P : Program} {e : TypeId} : ∀ {l : List (DataW H)} {d : DataW H}, d ∈ l → ∀ n ∈ d.weights P e, n ∈ DataW.weightsAll P e l
  | [], _, h, _, _ => by cases h
  | x :: l, d, h, n, hn => by
    simp only [DataW.weightsAll, List.mem_append]
    rcases List.mem_cons.1 h with rfl | h
    · exact .inl hn
    · exact .inr (weightsAll_in h n hn)
/-- What an element of a slice takes. -/
theorem sized_elem {H : Type} {P : Program} {ts : List TypeId} {ds : List (DataW H)} (h : (DataW.weightsEach P ts ds).all (· ≤ reachBytes) = true) {j : Nat} {t e : TypeId} {elems spare : List (DataW H)} (ht : ts[j]? = some t) (hd : ds[j]? = some (.slice elems spare)) (hu : P.underlying t = some (.slice e))
    {d : DataW H} (hm : d ∈ elems) : ∀ n ∈ d.weights P e, n ≤ reachBytes := by
  intro n hn
  have h2 := weightsAll_in hm n hn
  have := List.all_eq_true.1 h n (DataW.weights_mem_each ht hd n (by simp only [DataW.weights, hu]; exact List.mem_cons_of_mem _ (List.mem_append_left _ h2)))
  simpa using this
set_option maxRecDepth 100000 in
theorem ev_sized {H : Type} {enc : TypeId × Value → H} {w : World} {base : Nat} {held : Bool} {fuel : Nat} {cs : List Value} {x : DataW H × List MemPlace} (h : DataW.trod enc Tryz.prog w base (fun _ => true) held fuel 97 cs = some x) (hw : ∀ n ∈ x.1.weights Tryz.prog 97, n ≤ reachBytes) :
    ∃ o : EvM, cs = o.cells ∧ EvOk w o := by
  obtain ⟨xs, n, _, hxe, hl, hlen, hf⟩ := DataW.trod_struct Tryz.underlying97 h
  rw [Tryz.cellsEv] at hl
  obtain ⟨c0, c1, c2, c3, c4, c5, c6, c7, rfl⟩ := array8 hl
  obtain ⟨y0, y1, y2, y3, y4, y5, y6, rfl⟩ := array7 hlen
  have g : ∀ (i : Nat) (f : Field), (#[_, _, _, _, _, _, _] : Array Field)[i]? = some f → _ := hf
  have h0 := g 0 _ rfl
  have h1 := g 1 _ rfl
  have h2 := g 2 _ rfl
  have h3 := g 3 _ rfl
  have h4 := g 4 _ rfl
  have h5 := g 5 _ rfl
  have h6 := g 6 _ rfl
  have k3 : Tryz.prog.cellsOf 3 = 1 := by kernel_rfl
  have k4 : Tryz.prog.cellsOf 4 = 1 := by kernel_rfl
  have k9 : Tryz.prog.cellsOf 9 = 1 := by kernel_rfl
  have k27 : Tryz.prog.cellsOf 23 = 1 := by kernel_rfl
  have k26 := Tryz.cellsDot
  simp [k3, k4, k9, k27, k26] at h0 h1 h2 h3 h4 h5 h6
  obtain ⟨a0, a1, e0, w0, w1⟩ := dot_of_trod h0
  obtain ⟨a2, l2, d2, rfl⟩ := slice_trod h1
  obtain ⟨s3, e3, _, w3⟩ := DataW.trod_string Tryz.underlying9 h2
  obtain ⟨a4, e4, _, w4⟩ := DataW.trod_int Tryz.underlying3 h3
  obtain ⟨s5, e5, _, w5⟩ := DataW.trod_string Tryz.underlying9 h4
  obtain ⟨a6, e6, _, w6⟩ := DataW.trod_int Tryz.underlying3 h5
  obtain ⟨b7, e7, _⟩ := DataW.trod_bool Tryz.underlying4 h6
  simp at e0 e3 e4 e5 e6 e7
  obtain ⟨rfl, rfl⟩ := e0
  subst e3 e4 e5 e6 e7
  obtain ⟨ds, hds, ⟨hh, hr⟩, hd⟩ := open_nums (d := y1.1) (p := y1.2) ⟨n, h1⟩
  have hb : l2 ≤ 17592186044416 := by
    rcases hd with h | ⟨es, sp, hd, he⟩
    · omega
    · have hreach := hw ((es.length + sp.length) * 8) (by
        rw [hxe]
        simp only [DataW.weights, Tryz.underlying97]
        refine DataW.weights_mem_each (j := 1) rfl rfl _ ?_
        show _ ∈ DataW.weights Tryz.prog 23 y1.1
        rw [hd]
        simp only [DataW.weights, Tryz.underlying23]
        rw [show Tryz.prog.bytesOf 3 = 8 by kernel_rfl]
        exact List.mem_cons_self)
      simp only [reachBytes] at hreach
      omega
  subst hds
  exact ⟨⟨⟨a0, a1, ds, s3, a4, s5, a6, b7⟩, a2, d2⟩, rfl, ⟨⟨hh, hr, hb⟩, w0, w1, in64_wf w4, in64_wf w6, w3, w5⟩⟩
set_option maxRecDepth 100000 in
theorem open_evs {H : Type} {enc : TypeId × Value → H} {w : World} {base : Nat} {held : Bool} {ao : Option Addr} {len cap : Nat} {d : DataW H} {p : List MemPlace} (h : DataW.Trod enc Tryz.prog w base (fun _ => true) held 41 (.slice ao len cap) d p)
    (hw : ∀ es sp, d = .slice es sp → ∀ x ∈ es, ∀ n ∈ x.weights Tryz.prog 97, n ≤ reachBytes) :
    ∃ os : List EvM, os.length = len ∧ (HeldE w ao os ∧ len ≤ cap) ∧ (len = 0 ∨ ∃ es sp, d = .slice es sp ∧ es.length = len) := by
  obtain ⟨fuel, hf⟩ := h
  rcases open_slice Tryz.underlying41 hf with ⟨hcs, hx⟩ | ⟨a, l, c, m, n, Dd, Pl, hcs, _, hl, hm, hmm, hx, hall⟩
  · simp [Value.cells] at hcs
    obtain ⟨rfl, rfl, rfl⟩ := hcs
    exact ⟨[], rfl, ⟨⟨fun o ho => (by cases ho), .inl rfl⟩, Nat.le_refl _⟩, .inl rfl⟩
  · simp [Value.cells] at hcs
    obtain ⟨rfl, rfl, rfl⟩ := hcs
    rw [Tryz.cellsEv] at hall
    have hlm : len ≤ m := by rw [hmm]; split <;> omega
    simp only [Prod.mk.injEq] at hx
    obtain ⟨O, hO⟩ := choose_lt (α := EvM) (n := len) (p := fun i o => EvOk w o ∧ w.cells? base (a.add (i * 8)) 8 = some o.cells) (fun i hi => by
      obtain ⟨cs', h1, h2⟩ := hall i (by omega)
      obtain ⟨o, rfl, hok⟩ := ev_sized h2 (hw _ _ hx.1 _ (List.mem_map.2 ⟨i, List.mem_range.2 hi, rfl⟩))
      exact ⟨o, hok, h1⟩)
    refine ⟨(List.range len).map O, by simp, ⟨⟨fun o ho => ?_, ?_⟩, hl⟩, .inr ⟨_, _, hx.1, by simp⟩⟩
    · obtain ⟨i, hi, rfl⟩ := List.mem_map.1 ho
      exact (hO i (List.mem_range.1 hi)).1
    · by_cases h0 : len = 0
      · left
        simp [h0]
      · right
        have hc0 : ∀ i, i < len → ∀ c u, (O i).cells[c]? = some u → w.cell? (a.add (i * 8 + c)) = some u := by
          intro i hi c u hu
          have hc := (World.cells?_some (hO i hi).2).2.2 c (by have := (List.getElem?_eq_some_iff.1 hu).1; simpa [EvM.cells] using this)
          rw [add_add] at hc
          rw [hc, hu]
        obtain ⟨b, off, spot⟩ := a
        have hz := hc0 0 (by omega) 0 _ rfl
        have hspot : spot = none := by simpa [Addr.add] using World.cell?_spot hz
        subst hspot
        have hlt := World.block_lt_of_cell? w _ hz
        refine ⟨b, off, rfl, by simpa [Addr.add] using hlt, fun j hj c u hu => ?_⟩
        have hj' : j < len := by simpa using hj
        have := hc0 j hj' c u (by simpa using hu)
        rwa [Addr.add_lit, ← Nat.add_assoc] at this
end Go.Proofs.YtfmnbehopdmahaaGreat
/-
  Messages in a slice, and how arguments of the types []api.Msg and api.Msg are read.
-/
namespace Go.Proofs.YtfmnbehopdmahaaGreat
open Go.RowKit Go.ChangeShapes Go.WideShapes Go.Deep

def zeroMs : MsM := ⟨0, 0, 0, (0, 0), 0, ⟨⟨false, ⟨#[]⟩, ⟨#[]⟩, 0, []⟩, none, 0⟩, none, 0, [], none, 0, [], none, 0, [], 0⟩
instance : Inhabited MsM := ⟨zeroMs⟩
def AllMs (w : World) (xs : List MsM) : Prop := ∀ x ∈ xs, MsOk w x
/-- A slice of messages holds xs. -/
def HeldMs (w : World) (ao : Option Addr) (xs : List MsM) : Prop :=
  AllMs w xs ∧ (xs = [] ∨ ∃ b off, ao = some ⟨b, off, none⟩ ∧ b < w.heap.size ∧ ∀ j (hj : j < xs.length) c u, xs[j].cells[c]? = some u → w.cell? ⟨b, off + j * 15 + c, none⟩ = some u)
theorem HeldMs.below {w w' : World} {ao : Option Addr} {xs : List MsM} (h : HeldMs w ao xs) (hb : Below w.heap.size w w') : HeldMs w' ao xs := by
  refine ⟨fun x hx => (h.1 x hx).below hb, ?_⟩
  rcases h.2 with h0 | ⟨b, off, h1, h2, h3⟩
  · exact .inl h0
  · exact .inr ⟨b, off, h1, Nat.lt_of_lt_of_le h2 hb.size, fun j hj c u hu => (hb.cell (p := ⟨b, off + j * 15 + c, none⟩) h2).trans (h3 j hj c u hu)⟩
theorem ms_getD {xs : List MsM} {k : Nat} (hk : k < xs.length) : xs.getD k default = xs[k] := by simp [List.getD, List.getElem?_eq_getElem hk]
theorem HeldMs.cellsD {w : World} {ao : Option Addr} {xs : List MsM} (h : HeldMs w ao xs) {k : Nat} (hk : k < xs.length) :
    ∃ b off, ao = some ⟨b, off, none⟩ ∧ b < w.heap.size ∧ w.cell? ⟨b, off + k * 15, none⟩ = some (.int .i64 (xs.getD k default).kind) ∧ w.cell? ⟨b, off + k * 15 + 1, none⟩ = some (.int .i64 (xs.getD k default).frm) ∧ w.cell? ⟨b, off + k * 15 + 2, none⟩ = some (.int .i64 (xs.getD k default).to) ∧ w.cell? ⟨b, off + k * 15 + 3, none⟩ = some (.int .i64 (xs.getD k default).bal.1) ∧ w.cell? ⟨b, off + k * 15 + 4, none⟩ = some (.int .i64 (xs.getD k default).bal.2) ∧ w.cell? ⟨b, off + k * 15 + 5, none⟩ = some (.int .i64 (xs.getD k default).slot) ∧ w.cell? ⟨b, off + k * 15 + 6, none⟩ = some (.bool (xs.getD k default).en.e.noop) ∧ w.cell? ⟨b, off + k * 15 + 7, none⟩ = some (.string (xs.getD k default).en.e.tok) ∧ w.cell? ⟨b, off + k * 15 + 8, none⟩ = some (.string (xs.getD k default).en.e.cart) ∧ w.cell? ⟨b, off + k * 15 + 9, none⟩ = some (.int .i64 (xs.getD k default).en.e.ep) ∧ w.cell? ⟨b, off + k * 15 + 10, none⟩ = some (.slice (xs.getD k default).en.ao (xs.getD k default).en.e.cut.length (xs.getD k default).en.cap) ∧ w.cell? ⟨b, off + k * 15 + 11, none⟩ = some (.slice (xs.getD k default).vo (xs.getD k default).vs.length (xs.getD k default).vc) ∧ w.cell? ⟨b, off + k * 15 + 12, none⟩ = some (.slice (xs.getD k default).so (xs.getD k default).seen.length (xs.getD k default).sc) ∧ w.cell? ⟨b, off + k * 15 + 13, none⟩ = some (.slice (xs.getD k default).eo (xs.getD k default).evs.length (xs.getD k default).ec) ∧ w.cell? ⟨b, off + k * 15 + 14, none⟩ = some (.int .i64 (xs.getD k default).time) := by
  rcases h.2 with h0 | ⟨b, off, h1, h2, h3⟩
  · subst h0
    cases hk
  · rw [ms_getD hk]
    exact ⟨b, off, h1, h2, h3 k hk 0 _ rfl, h3 k hk 1 _ rfl, h3 k hk 2 _ rfl, h3 k hk 3 _ rfl, h3 k hk 4 _ rfl, h3 k hk 5 _ rfl, h3 k hk 6 _ rfl, h3 k hk 7 _ rfl, h3 k hk 8 _ rfl, h3 k hk 9 _ rfl, h3 k hk 10 _ rfl, h3 k hk 11 _ rfl, h3 k hk 12 _ rfl, h3 k hk 13 _ rfl, h3 k hk 14 _ rfl⟩
theorem HeldMs.okD {w : World} {ao : Option Addr} {xs : List MsM} (h : HeldMs w ao xs) {k : Nat} (hk : k < xs.length) : MsOk w (xs.getD k default) := by
  rw [ms_getD hk]
  exact h.1 _ (List.getElem_mem hk)
theorem arr15B {α : Type} {cs : List α} (h : cs.length = 15) : ∃ c0 c1 c2 c3 c4 c5 c6 c7 c8 c9 c10 c11 c12 c13 c14, cs = [c0, c1, c2, c3, c4, c5, c6, c7, c8, c9, c10, c11, c12, c13, c14] := by
  match cs, h with
  | [c0, c1, c2, c3, c4, c5, c6, c7, c8, c9, c10, c11, c12, c13, c14], _ => exact ⟨c0, c1, c2, c3, c4, c5, c6, c7, c8, c9, c10, c11, c12, c13, c14, rfl⟩
theorem arr10B {α : Type} {cs : List α} (h : cs.length = 10) : ∃ c0 c1 c2 c3 c4 c5 c6 c7 c8 c9, cs = [c0, c1, c2, c3, c4, c5, c6, c7, c8, c9] := by
  match cs, h with
  | [c0, c1, c2, c3, c4, c5, c6, c7, c8, c9], _ => exact ⟨c0, c1, c2, c3, c4, c5, c6, c7, c8, c9, rfl⟩
theorem Tryz.cellsMs : Tryz.prog.cellsOf 43 = 15 := by kernel_rfl
theorem slice_trodM {H : Type} {enc : TypeId × Value → H} {w : World} {base : Nat} {held : Bool} {fuel : Nat} {t e : TypeId} {v : Value} {x : DataW H × List MemPlace} (hu : Tryz.prog.underlying t = some (.slice e)) (h : DataW.trod enc Tryz.prog w base (fun _ => true) held fuel t [v] = some x) : ∃ a l c, v = .slice a l c := by
  rcases open_slice hu h with ⟨hcs, _⟩ | ⟨a, l, c, m, n, Dd, Pl, hcs, _⟩
  · simp at hcs; exact ⟨_, _, _, hcs⟩
  · simp at hcs; exact ⟨_, _, _, hcs⟩
set_option maxRecDepth 100000 in
set_option maxHeartbeats 2000000 in
theorem ms_sized {H : Type} {enc : TypeId × Value → H} {w : World} {base : Nat} {held : Bool} {fuel : Nat} {cs : List Value} {x : DataW H × List MemPlace} (h : DataW.trod enc Tryz.prog w base (fun _ => true) held fuel 43 cs = some x) (hw : ∀ n ∈ x.1.weights Tryz.prog 43, n ≤ reachBytes) :
    ∃ o : MsM, cs = o.cells ∧ MsOk w o := by
  obtain ⟨xs, n, _, hxe, hl, hlen, hf⟩ := DataW.trod_struct Tryz.underlying43 h
  rw [Tryz.cellsMs] at hl
  obtain ⟨c0, c1, c2, c3, c4, c5, c6, c7, c8, c9, c10, c11, c12, c13, c14, rfl⟩ := arr15B hl
  obtain ⟨y0, y1, y2, y3, y4, y5, y6, y7, y8, y9, rfl⟩ := arr10B hlen
  have g : ∀ (i : Nat) (f : Field), (#[_, _, _, _, _, _, _, _, _, _] : Array Field)[i]? = some f → _ := hf
  have h0 := g 0 _ rfl
  have h1 := g 1 _ rfl
  have h2 := g 2 _ rfl
  have h3 := g 3 _ rfl
  have h4 := g 4 _ rfl
  have h5 := g 5 _ rfl
  have h6 := g 6 _ rfl
  have h7 := g 7 _ rfl
  have h8 := g 8 _ rfl
  have h9 := g 9 _ rfl
  have k3 : Tryz.prog.cellsOf 3 = 1 := by kernel_rfl
  have k4 := Tryz.cellsBal
  have k5 := Tryz.cellsEn
  have k6 : Tryz.prog.cellsOf 40 = 1 := by kernel_rfl
  have k7 : Tryz.prog.cellsOf 23 = 1 := by kernel_rfl
  have k8 : Tryz.prog.cellsOf 41 = 1 := by kernel_rfl
  simp [k3, k4, k5, k6, k7, k8] at h0 h1 h2 h3 h4 h5 h6 h7 h8 h9
  obtain ⟨a0, e0, _, w0⟩ := DataW.trod_int Tryz.underlying3 h0
  obtain ⟨a1, e1, _, w1⟩ := DataW.trod_int Tryz.underlying3 h1
  obtain ⟨a2, e2, _, w2⟩ := DataW.trod_int Tryz.underlying3 h2
  obtain ⟨r3, m3, e3, w3, w3'⟩ := bal_of_trod h3
  obtain ⟨a4, e4, _, w4⟩ := DataW.trod_int Tryz.underlying3 h4
  obtain ⟨a9, e9, _, w9⟩ := DataW.trod_int Tryz.underlying3 h9
  obtain ⟨a6, l6, d6, rfl⟩ := slice_trodM Tryz.underlying40 h6
  obtain ⟨a7, l7, d7, rfl⟩ := slice_trodM Tryz.underlying23 h7
  obtain ⟨a8, l8, d8, rfl⟩ := slice_trodM Tryz.underlying41 h8
  simp at e0 e1 e2 e3 e4 e9
  subst e0 e1 e2 e4 e9
  obtain ⟨rfl, rfl⟩ := e3
  have hwj : ∀ (j : Nat) (t : TypeId) (d : DataW H), [3, 3, 3, 35, 3, 39, 40, 23, 41, 3][j]? = some t → [y0.1, y1.1, y2.1, y3.1, y4.1, y5.1, y6.1, y7.1, y8.1, y9.1][j]? = some d → ∀ n ∈ d.weights Tryz.prog t, n ≤ reachBytes := by
    intro j t d ht hd n hn
    refine hw n ?_
    rw [hxe]
    simp only [DataW.weights, Tryz.underlying43]
    exact DataW.weights_mem_each (j := j) ht hd _ hn
  obtain ⟨o5, e5, ho5⟩ := en_sizedB h5 (hwj 5 _ _ rfl rfl)
  simp [EnM.cells] at e5
  obtain ⟨rfl, rfl, rfl, rfl, rfl⟩ := e5
  obtain ⟨os6, hl6, ⟨hh6, hc6⟩, hd6⟩ := open_vos (d := y6.1) (p := y6.2) ⟨n, h6⟩ (fun es sp hd x hx k hk => hwj 6 _ _ rfl rfl k (by rw [hd]; simp only [DataW.weights, Tryz.underlying40]; exact List.mem_cons_of_mem _ (List.mem_append_left _ (weightsAll_inB hx k hk))))
  obtain ⟨ds7, hl7, ⟨hh7, hr7⟩, hd7⟩ := open_nums (d := y7.1) (p := y7.2) ⟨n, h7⟩
  obtain ⟨os8, hl8, ⟨hh8, hc8⟩, hd8⟩ := open_evs (d := y8.1) (p := y8.2) ⟨n, h8⟩ (fun es sp hd x hx k hk => hwj 8 _ _ rfl rfl k (by rw [hd]; simp only [DataW.weights, Tryz.underlying41]; exact List.mem_cons_of_mem _ (List.mem_append_left _ (weightsAll_inB hx k hk))))
  have hb6 : l6 ≤ 1466015503701 := by
    rcases hd6 with h | ⟨es, sp, hd, he⟩
    · omega
    · have hreach := hwj 6 _ _ rfl rfl ((es.length + sp.length) * 96) (by
        rw [hd]
        simp only [DataW.weights, Tryz.underlying40]
        rw [show Tryz.prog.bytesOf 73 = 96 by kernel_rfl]
        exact List.mem_cons_self)
      simp only [reachBytes] at hreach
      omega
  have hb7 : l7 ≤ 17592186044416 := by
    rcases hd7 with h | ⟨es, sp, hd, he⟩
    · omega
    · have hreach := hwj 7 _ _ rfl rfl ((es.length + sp.length) * 8) (by
        rw [hd]
        simp only [DataW.weights, Tryz.underlying23]
        rw [show Tryz.prog.bytesOf 3 = 8 by kernel_rfl]
        exact List.mem_cons_self)
      simp only [reachBytes] at hreach
      omega
  have hb8 : l8 ≤ 1466015503701 := by
    rcases hd8 with h | ⟨es, sp, hd, he⟩
    · omega
    · have hreach := hwj 8 _ _ rfl rfl ((es.length + sp.length) * 96) (by
        rw [hd]
        simp only [DataW.weights, Tryz.underlying41]
        rw [show Tryz.prog.bytesOf 97 = 96 by kernel_rfl]
        exact List.mem_cons_self)
      simp only [reachBytes] at hreach
      omega
  subst hl6 hl7 hl8
  exact ⟨⟨a0, a1, a2, (r3, m3), a4, o5, a6, d6, os6, a7, d7, ds7, a8, d8, os8, a9⟩, rfl, ⟨ho5, hh6, hb6, ⟨hh7, hr7, hb7⟩, hh8, hb8, in64B_wf w0, in64B_wf w1, in64B_wf w2, w3, w3', in64B_wf w4, in64B_wf w9⟩⟩
set_option maxRecDepth 100000 in
theorem open_mss {H : Type} {enc : TypeId × Value → H} {w : World} {base : Nat} {held : Bool} {ao : Option Addr} {len cap : Nat} {d : DataW H} {p : List MemPlace} (h : DataW.Trod enc Tryz.prog w base (fun _ => true) held 22 (.slice ao len cap) d p)
    (hw : ∀ es sp, d = .slice es sp → ∀ x ∈ es, ∀ n ∈ x.weights Tryz.prog 43, n ≤ reachBytes) :
    ∃ os : List MsM, os.length = len ∧ (HeldMs w ao os ∧ len ≤ cap) ∧ (len = 0 ∨ ∃ es sp, d = .slice es sp ∧ es.length = len) := by
  obtain ⟨fuel, hf⟩ := h
  rcases open_slice Tryz.underlying22 hf with ⟨hcs, hx⟩ | ⟨a, l, c, m, n, Dd, Pl, hcs, _, hl, hm, hmm, hx, hall⟩
  · simp [Value.cells] at hcs
    obtain ⟨rfl, rfl, rfl⟩ := hcs
    exact ⟨[], rfl, ⟨⟨fun o ho => (by cases ho), .inl rfl⟩, Nat.le_refl _⟩, .inl rfl⟩
  · simp [Value.cells] at hcs
    obtain ⟨rfl, rfl, rfl⟩ := hcs
    rw [Tryz.cellsMs] at hall
    have hlm : len ≤ m := by rw [hmm]; split <;> omega
    simp only [Prod.mk.injEq] at hx
    obtain ⟨O, hO⟩ := choose_lt (α := MsM) (n := len) (p := fun i o => MsOk w o ∧ w.cells? base (a.add (i * 15)) 15 = some o.cells) (fun i hi => by
      obtain ⟨cs', h1, h2⟩ := hall i (by omega)
      obtain ⟨o, rfl, hok⟩ := ms_sized h2 (hw _ _ hx.1 _ (List.mem_map.2 ⟨i, List.mem_range.2 hi, rfl⟩))
      exact ⟨o, hok, h1⟩)
    refine ⟨(List.range len).map O, by simp, ⟨⟨fun o ho => ?_, ?_⟩, hl⟩, .inr ⟨_, _, hx.1, by simp⟩⟩
    · obtain ⟨i, hi, rfl⟩ := List.mem_map.1 ho
      exact (hO i (List.mem_range.1 hi)).1
    · by_cases h0 : len = 0
      · left
        simp [h0]
      · right
        have hc0 : ∀ i, i < len → ∀ c u, (O i).cells[c]? = some u → w.cell? (a.add (i * 15 + c)) = some u := by
          intro i hi c u hu
          have hc := (World.cells?_some (hO i hi).2).2.2 c (by have := (List.getElem?_eq_some_iff.1 hu).1; simpa [MsM.cells] using this)
          rw [add_add] at hc
          rw [hc, hu]
        obtain ⟨b, off, spot⟩ := a
        have hz := hc0 0 (by omega) 0 _ rfl
        have hspot : spot = none := by simpa [Addr.add] using World.cell?_spot hz
        subst hspot
        have hlt := World.block_lt_of_cell? w _ hz
        refine ⟨b, off, rfl, by simpa [Addr.add] using hlt, fun j hj c u hu => ?_⟩
        have hj' : j < len := by simpa using hj
        have := hc0 j hj' c u (by simpa using hu)
        rwa [Addr.add_lit, ← Nat.add_assoc] at this
set_option maxRecDepth 100000 in
/-- A message as an argument. -/
theorem open_ms {H : Type} {enc : TypeId × Value → H} {w : World} {base b0 : Nat} {r : Reach} {held : Bool} {v : Value} {d : DataW H} {p : List MemPlace} (hv : Value.okWide Tryz.prog w r b0 43 v) (h : DataW.Trod enc Tryz.prog w base (fun _ => true) held 43 v d p) (hw : ∀ n ∈ d.weights Tryz.prog 43, n ≤ reachBytes) :
    ∃ o : MsM, v = o.val ∧ MsOk w o := by
  obtain ⟨cs, rfl, _⟩ := okWide_struct Tryz.underlying43 hv
  obtain ⟨fuel, hf⟩ := h
  obtain ⟨o, ho, hok⟩ := ms_sized hf hw
  refine ⟨o, ?_, hok⟩
  simp [Value.cells, MsM.cells] at ho
  rw [show cs = #[.int .i64 o.kind, .int .i64 o.frm, .int .i64 o.to, .int .i64 o.bal.1, .int .i64 o.bal.2, .int .i64 o.slot, .bool o.en.e.noop, .string o.en.e.tok, .string o.en.e.cart, .int .i64 o.en.e.ep, .slice o.en.ao o.en.e.cut.length o.en.cap, .slice o.vo o.vs.length o.vc, .slice o.so o.seen.length o.sc, .slice o.eo o.evs.length o.ec, .int .i64 o.time] from Array.ext' ho]
end Go.Proofs.YtfmnbehopdmahaaGreat
