/-
  How an argument of type pannierlaw03.Op is read.
-/
import Derived.Test.YtjfohnkfcfifeaaRows
import Derived.Test.YtjfohnkfcfifeaaBlk
import Derived.Lib.SmallJoins
import Derived.Test.YtjfohnkfcfifeaaDiskM
import Derived.Deep.SlicePairs
import Derived.ChangeSlices
import Derived.SizedLaws
namespace Go.Proofs.Ytjfohnkfcfifeaa
open Go.RowKit Go.ChangeShapes Go.WideShapes Go.Deep

/-- Whole numbers of 64 bits. -/
def In64 (x : Int) : Prop := -9223372036854775808 ≤ x ∧ x ≤ 9223372036854775807
theorem in64_wf {x : Int} (h : (Lit.int .i64 x).wf = true) : In64 x := by
  simp [Lit.wf, IntKind.min, IntKind.max, IntKind.signed, IntKind.bits] at h
  exact ⟨by omega, by omega⟩
theorem array6 {α : Type} {cs : List α} (h : cs.length = 6) : ∃ c0 c1 c2 c3 c4 c5, cs = [c0, c1, c2, c3, c4, c5] := by
  match cs, h with
  | [c0, c1, c2, c3, c4, c5], _ => exact ⟨c0, c1, c2, c3, c4, c5, rfl⟩

/-- One Op: its kind, name, other name, where its bytes lie, its number, where what it keeps lies. -/
structure OpV where
  kind : Int
  name : ByteArray
  to : ByteArray
  ba : Option Addr
  bl : Nat
  bc : Nat
  n : Int
  ka : Option Addr
  kl : Nat
  kc : Nat
def OpV.cells (o : OpV) : List Value := [.int .i64 o.kind, .string o.name, .string o.to, .slice o.ba o.bl o.bc, .int .i64 o.n, .slice o.ka o.kl o.kc]
def OpV.Ok (o : OpV) : Prop := In64 o.kind ∧ In64 o.n ∧ o.name.size ≤ maxLen ∧ o.to.size ≤ maxLen

theorem Try.cellsOp : Try.prog.cellsOf 34 = 6 := by kernel_rfl

theorem slice_of_trod {H : Type} {enc : TypeId × Value → H} {w : World} {base : Nat} {spare : Nat → Bool} {held : Bool} {fuel : Nat} {v : Value} {x : DataW H × List MemPlace} {t e : TypeId} (ht : Try.prog.underlying t = some (.slice e)) (h : DataW.trod enc Try.prog w base spare held fuel t [v] = some x) : ∃ a l c, v = .slice a l c := by
  rcases open_slice ht h with ⟨hcs, _⟩ | ⟨a, l, c, m, n, Dd, Pl, hcs, _⟩
  · simp at hcs
    exact ⟨_, _, _, hcs⟩
  · simp at hcs
    exact ⟨_, _, _, hcs⟩

set_option maxRecDepth 100000 in
theorem op_of_trod {H : Type} {enc : TypeId × Value → H} {w : World} {base : Nat} {spare : Nat → Bool} {held : Bool} {fuel : Nat} {cs : List Value} {x : DataW H × List MemPlace} (h : DataW.trod enc Try.prog w base spare held fuel 34 cs = some x) :
    ∃ o : OpV, cs = o.cells ∧ o.Ok := by
  obtain ⟨xs, n, _, _, hl, hlen, hf⟩ := DataW.trod_struct Try.underlying34 h
  rw [Try.cellsOp] at hl
  obtain ⟨c0, c1, c2, c3, c4, c5, rfl⟩ := array6 hl
  obtain ⟨y0, y1, y2, y3, y4, y5, rfl⟩ := array6 hlen
  have g : ∀ (i : Nat) (f : Field), (#[_, _, _, _, _, _] : Array Field)[i]? = some f → _ := hf
  have h0 := g 0 _ rfl
  have h1 := g 1 _ rfl
  have h2 := g 2 _ rfl
  have h3 := g 3 _ rfl
  have h4 := g 4 _ rfl
  have h5 := g 5 _ rfl
  have k3 : Try.prog.cellsOf 3 = 1 := by kernel_rfl
  have k9 : Try.prog.cellsOf 9 = 1 := by kernel_rfl
  have k31 : Try.prog.cellsOf 31 = 1 := by kernel_rfl
  have k32 : Try.prog.cellsOf 32 = 1 := by kernel_rfl
  simp [k3, k9, k31, k32] at h0 h1 h2 h3 h4 h5
  obtain ⟨a0, e0, _, w0⟩ := DataW.trod_int Try.underlying3 h0
  obtain ⟨s1, e1, _, w1⟩ := DataW.trod_string Try.underlying9 h1
  obtain ⟨s2, e2, _, w2⟩ := DataW.trod_string Try.underlying9 h2
  obtain ⟨a3, l3, d3, rfl⟩ := slice_of_trod Try.underlying31 h3
  obtain ⟨a4, e4, _, w4⟩ := DataW.trod_int Try.underlying3 h4
  obtain ⟨a5, l5, d5, rfl⟩ := slice_of_trod Try.underlying32 h5
  simp at e0 e1 e2 e4
  subst e0 e1 e2 e4
  exact ⟨⟨a0, s1, s2, a3, l3, d3, a4, a5, l5, d5⟩, rfl, in64_wf w0, in64_wf w4, w1, w2⟩

set_option maxRecDepth 100000 in
theorem open_op {H : Type} {enc : TypeId × Value → H} {w : World} {base b0 : Nat} {r : Reach} {spare : Nat → Bool} {held : Bool} {v : Value} {d : DataW H} {p : List MemPlace} (hv : Value.okWide Try.prog w r b0 34 v) (h : DataW.Trod enc Try.prog w base spare held 34 v d p) :
    ∃ o : OpV, v = .agg o.cells.toArray ∧ o.Ok := by
  obtain ⟨cs, rfl, _⟩ := okWide_struct Try.underlying34 hv
  obtain ⟨fuel, hf⟩ := h
  obtain ⟨o, ho, hok⟩ := op_of_trod hf
  refine ⟨o, ?_, hok⟩
  simp [Value.cells] at ho
  rw [← ho]
end Go.Proofs.Ytjfohnkfcfifeaa
/-
  How an argument of type []pannierlaw03.Op is read, with the bytes and what is kept of each.
-/
namespace Go.Proofs.Ytjfohnkfcfifeaa
open Go.RowKit Go.ChangeShapes Go.WideShapes Go.Deep

theorem weightsAll_mem {H : Type} {P : Program} {e : TypeId} : ∀ {l : List (DataW H)} {d : DataW H}, d ∈ l → ∀ n ∈ d.weights P e, n ∈ DataW.weightsAll P e l
  | [], _, h, _, _ => by cases h
  | x :: l, d, h, n, hn => by
    simp only [DataW.weightsAll, List.mem_append]
    rcases List.mem_cons.1 h with rfl | h
    · exact .inl hn
    · exact .inr (weightsAll_mem h n hn)
theorem sized_inner {H : Type} {P : Program} {ts : List TypeId} {ds : List (DataW H)} (h : (DataW.weightsEach P ts ds).all (· ≤ reachBytes) = true) {j : Nat} {t e : TypeId} {elems spare : List (DataW H)} (ht : ts[j]? = some t) (hd : ds[j]? = some (.slice elems spare)) (hu : P.underlying t = some (.slice e))
    {fs : Array Field} (he : P.underlying e = some (.struct fs)) {parts : List (DataW H)} (hm : DataW.agg parts ∈ elems) {k : Nat} {tk : TypeId} {d : DataW H} (hk : (fs.toList.map (·.type))[k]? = some tk) (hp : parts[k]? = some d) : ∀ n ∈ d.weights P tk, n ≤ reachBytes := by
  intro n hn
  have h1 : n ∈ (DataW.agg parts).weights P e := by
    simp only [DataW.weights, he]
    exact DataW.weights_mem_each hk hp n hn
  have h2 := weightsAll_mem hm n h1
  have := List.all_eq_true.1 h n (DataW.weights_mem_each ht hd n (by simp only [DataW.weights, hu]; exact List.mem_cons_of_mem _ (List.mem_append_left _ h2)))
  simpa using this

instance : Inhabited OpV := ⟨⟨0, ByteArray.empty, ByteArray.empty, none, 0, 0, 0, none, 0, 0⟩⟩
/-- What one Op's slices hold. -/
structure OpH (w : World) (o : OpV) : Prop where
  ok : o.Ok
  bytes : ∃ bs, Held w o.ba o.bl o.bc bs
  keep : ∃ ts : List (ByteArray × Int), ts.length = o.kl ∧ (∀ t ∈ ts, t.1.size ≤ maxLen) ∧ (∀ t ∈ ts, -9223372036854775808 ≤ t.2 ∧ t.2 ≤ 9223372036854775807) ∧ (ts = [] ∨ ∃ b off, o.ka = some ⟨b, off, none⟩ ∧ b < w.heap.size ∧ ∀ j (hj : j < ts.length), w.cell? ⟨b, off + j * 2, none⟩ = some (.string ts[j].1) ∧ w.cell? ⟨b, off + j * 2 + 1, none⟩ = some (.int .i64 ts[j].2))

theorem held_of_trod {H : Type} {enc : TypeId × Value → H} {w : World} {base : Nat} {held : Bool} {fuel : Nat} {ao : Option Addr} {len cap : Nat} {x : DataW H × List MemPlace} (h : DataW.trod enc Try.prog w base (fun _ => true) held fuel 31 [.slice ao len cap] = some x) : ∃ bs, Held w ao len cap bs := by
  rcases open_ints Try.underlying31 Try.underlying5 (by kernel_rfl) h with ⟨hcs, _⟩ | ⟨a, l, c, zs, hcs, _, hl, hm, hz, _, hcell, hwz⟩
  · simp at hcs
    obtain ⟨rfl, rfl, rfl⟩ := hcs
    exact ⟨[], held_nil w⟩
  · simp at hcs
    obtain ⟨rfl, rfl, rfl⟩ := hcs
    exact ⟨zs.take len, held_row hl hm (by simpa using hz) hcell hwz⟩

set_option maxRecDepth 100000 in
theorem torns_of_trod {H : Type} {enc : TypeId × Value → H} {w : World} {base : Nat} {held : Bool} {fuel : Nat} {ao : Option Addr} {len cap : Nat} {d : DataW H} {pl : List MemPlace} (h : DataW.trod enc Try.prog w base (fun _ => true) held fuel 32 [.slice ao len cap] = some (d, pl)) :
    ∃ ts : List (ByteArray × Int), ts.length = len ∧ (∀ t ∈ ts, t.1.size ≤ maxLen) ∧ (∀ t ∈ ts, -9223372036854775808 ≤ t.2 ∧ t.2 ≤ 9223372036854775807) ∧ (ts = [] ∨ ∃ b off, ao = some ⟨b, off, none⟩ ∧ b < w.heap.size ∧ ∀ j (hj : j < ts.length), w.cell? ⟨b, off + j * 2, none⟩ = some (.string ts[j].1) ∧ w.cell? ⟨b, off + j * 2 + 1, none⟩ = some (.int .i64 ts[j].2)) ∧ (len = 0 ∨ ∃ es sp, d = .slice es sp ∧ es.length = len) := by
  rcases open_slice_pairs Try.underlying32 Try.underlying53 (by kernel_rfl) rfl rfl (by kernel_rfl) (by kernel_rfl) h with ⟨hcs, hx⟩ | ⟨a, l, c, m, n, V0, V1, D0, D1, P0, P1, hcs, _, hl, hm, hmm, hx, hall⟩
  · simp at hcs
    obtain ⟨rfl, rfl, rfl⟩ := hcs
    exact ⟨[], rfl, fun t ht => (by cases ht), fun t ht => (by cases ht), .inl rfl, .inl rfl⟩
  · simp at hcs
    obtain ⟨rfl, rfl, rfl⟩ := hcs
    have hlm : len ≤ m := by rw [hmm]; split <;> omega
    obtain ⟨O, hO⟩ := choose_lt (α := ByteArray × Int) (n := len) (p := fun i t => (t.1.size ≤ maxLen ∧ -9223372036854775808 ≤ t.2 ∧ t.2 ≤ 9223372036854775807) ∧ V0 i = .string t.1 ∧ V1 i = .int .i64 t.2) (fun i hi => by
      obtain ⟨_, _, h0, h1⟩ := hall i (by omega)
      obtain ⟨s, e0, _, w0⟩ := DataW.trod_string Try.underlying9 h0
      obtain ⟨z, e1, _, w1⟩ := DataW.trod_int Try.underlying3 h1
      simp at e0 e1
      exact ⟨(s, z), ⟨w0, in64_wf w1⟩, e0, e1⟩)
    refine ⟨(List.range len).map O, by simp, fun t ht => ?_, fun t ht => ?_, ?_, .inr ?_⟩
    · obtain ⟨i, hi, rfl⟩ := List.mem_map.1 ht
      exact (hO i (List.mem_range.1 hi)).1.1
    · obtain ⟨i, hi, rfl⟩ := List.mem_map.1 ht
      exact (hO i (List.mem_range.1 hi)).1.2
    · by_cases h0 : len = 0
      · left
        simp [h0]
      · right
        obtain ⟨b, off, spot⟩ := a
        have hz := (hall 0 (by omega)).1
        have hspot : spot = none := by simpa [Addr.add] using World.cell?_spot hz
        subst hspot
        have hlt := World.block_lt_of_cell? w _ hz
        refine ⟨b, off, rfl, by simpa [Addr.add] using hlt, fun j hj => ?_⟩
        have hj' : j < len := by simpa using hj
        obtain ⟨g0, g1, _, _⟩ := hall j (by omega)
        obtain ⟨_, v0, v1⟩ := hO j hj'
        rw [Addr.add_lit, v0] at g0
        rw [Addr.add_lit, ← Nat.add_assoc, v1] at g1
        exact ⟨by simpa using g0, by simpa using g1⟩
    · simp only [Prod.mk.injEq] at hx
      exact ⟨_, _, hx.1, by simp⟩

set_option maxRecDepth 100000 in
theorem opH_of_trod {H : Type} {enc : TypeId × Value → H} {w : World} {base : Nat} {held : Bool} {fuel : Nat} {cs : List Value} {x : DataW H × List MemPlace} (h : DataW.trod enc Try.prog w base (fun _ => true) held fuel 34 cs = some x) :
    ∃ o : OpV, cs = o.cells ∧ OpH w o ∧ (o.kl = 0 ∨ ∃ d0 d1 d2 d3 d4 es sp, x.1 = .agg [d0, d1, d2, d3, d4, .slice es sp] ∧ es.length = o.kl) := by
  obtain ⟨xs, n, _, hxe, hl, hlen, hf⟩ := DataW.trod_struct Try.underlying34 h
  rw [Try.cellsOp] at hl
  obtain ⟨c0, c1, c2, c3, c4, c5, rfl⟩ := array6 hl
  obtain ⟨y0, y1, y2, y3, y4, y5, rfl⟩ := array6 hlen
  have g : ∀ (i : Nat) (f : Field), (#[_, _, _, _, _, _] : Array Field)[i]? = some f → _ := hf
  have h0 := g 0 _ rfl
  have h1 := g 1 _ rfl
  have h2 := g 2 _ rfl
  have h3 := g 3 _ rfl
  have h4 := g 4 _ rfl
  have h5 := g 5 _ rfl
  have k3 : Try.prog.cellsOf 3 = 1 := by kernel_rfl
  have k9 : Try.prog.cellsOf 9 = 1 := by kernel_rfl
  have k31 : Try.prog.cellsOf 31 = 1 := by kernel_rfl
  have k32 : Try.prog.cellsOf 32 = 1 := by kernel_rfl
  simp [k3, k9, k31, k32] at h0 h1 h2 h3 h4 h5
  obtain ⟨a0, e0, _, w0⟩ := DataW.trod_int Try.underlying3 h0
  obtain ⟨s1, e1, _, w1⟩ := DataW.trod_string Try.underlying9 h1
  obtain ⟨s2, e2, _, w2⟩ := DataW.trod_string Try.underlying9 h2
  obtain ⟨a3, l3, d3, rfl⟩ := slice_of_trod Try.underlying31 h3
  obtain ⟨a4, e4, _, w4⟩ := DataW.trod_int Try.underlying3 h4
  obtain ⟨a5, l5, d5, rfl⟩ := slice_of_trod Try.underlying32 h5
  simp at e0 e1 e2 e4
  subst e0 e1 e2 e4
  obtain ⟨ts, t1, t2, t3, t4, t5⟩ := torns_of_trod (d := y5.1) (pl := y5.2) h5
  refine ⟨⟨a0, s1, s2, a3, l3, d3, a4, a5, l5, d5⟩, rfl, ⟨⟨in64_wf w0, in64_wf w4, w1, w2⟩, held_of_trod h3, ⟨ts, t1, t2, t3, t4⟩⟩, ?_⟩
  rcases t5 with h6 | ⟨es, sp, hd, he⟩
  · exact .inl h6
  · exact .inr ⟨y0.1, y1.1, y2.1, y3.1, y4.1, es, sp, by rw [hxe]; simp [hd], he⟩

/-- A slice of Ops holds os. -/
def HeldO (w : World) (ao : Option Addr) (os : List OpV) : Prop :=
  (∀ o ∈ os, OpH w o) ∧ (os = [] ∨ ∃ b off, ao = some ⟨b, off, none⟩ ∧ b < w.heap.size ∧ ∀ j (hj : j < os.length) c u, os[j].cells[c]? = some u → w.cell? ⟨b, off + j * 6 + c, none⟩ = some u)

set_option maxRecDepth 100000 in
theorem open_ops {H : Type} {enc : TypeId × Value → H} {w : World} {base : Nat} {held : Bool} {ao : Option Addr} {len cap : Nat} {d : DataW H} {p : List MemPlace} (h : DataW.Trod enc Try.prog w base (fun _ => true) held 22 (.slice ao len cap) d p) :
    ∃ os, os.length = len ∧ HeldO w ao os ∧ (len = 0 ∨ ∃ es sp, d = .slice es sp ∧ es.length = len ∧ ∀ o ∈ os, o.kl = 0 ∨ ∃ d0 d1 d2 d3 d4 es' sp', DataW.agg [d0, d1, d2, d3, d4, .slice es' sp'] ∈ es ∧ es'.length = o.kl) := by
  obtain ⟨fuel, hf⟩ := h
  rcases open_slice Try.underlying22 hf with ⟨hcs, hx⟩ | ⟨a, l, c, m, n, Dd, Pl, hcs, _, hl, hm, hmm, hx, hall⟩
  · simp [Value.cells] at hcs
    obtain ⟨rfl, rfl, rfl⟩ := hcs
    exact ⟨[], rfl, ⟨fun o ho => (by cases ho), .inl rfl⟩, .inl rfl⟩
  · simp [Value.cells] at hcs
    obtain ⟨rfl, rfl, rfl⟩ := hcs
    rw [Try.cellsOp] at hall
    have hlm : len ≤ m := by rw [hmm]; split <;> omega
    obtain ⟨O, hO⟩ := choose_lt (α := OpV) (n := len) (p := fun i o => (OpH w o ∧ (o.kl = 0 ∨ ∃ d0 d1 d2 d3 d4 es sp, Dd i = .agg [d0, d1, d2, d3, d4, .slice es sp] ∧ es.length = o.kl)) ∧ w.cells? base (a.add (i * 6)) 6 = some o.cells) (fun i hi => by
      obtain ⟨cs', h1, h2⟩ := hall i (by omega)
      obtain ⟨o, rfl, hok, hk⟩ := opH_of_trod h2
      exact ⟨o, ⟨hok, hk⟩, h1⟩)
    refine ⟨(List.range len).map O, by simp, ⟨fun o ho => ?_, ?_⟩, .inr ?_⟩
    · obtain ⟨i, hi, rfl⟩ := List.mem_map.1 ho
      exact (hO i (List.mem_range.1 hi)).1.1
    · by_cases h0 : len = 0
      · left
        simp [h0]
      · right
        have hc0 : ∀ i, i < len → ∀ c u, (O i).cells[c]? = some u → w.cell? (a.add (i * 6 + c)) = some u := by
          intro i hi c u hu
          have hc := (World.cells?_some (hO i hi).2).2.2 c (by have := (List.getElem?_eq_some_iff.1 hu).1; simpa [OpV.cells] using this)
          rw [add_add] at hc
          rw [hc, hu]
        obtain ⟨b, off, spot⟩ := a
        have hz := hc0 0 (by omega) 0 _ rfl
        have hspot : spot = none := by simpa [Addr.add] using World.cell?_spot hz
        subst hspot
        have hlt := World.block_lt_of_cell? w _ hz
        refine ⟨b, off, rfl, by simpa [Addr.add] using hlt, fun j hj c u hu => ?_⟩
        have hj' : j < len := by simpa using hj
        have := hc0 j hj' c u (by simpa using hu)
        rwa [Addr.add_lit, ← Nat.add_assoc] at this
    · simp only [Prod.mk.injEq] at hx
      refine ⟨_, _, hx.1, by simp, fun o ho => ?_⟩
      obtain ⟨i, hi, rfl⟩ := List.mem_map.1 ho
      rcases (hO i (List.mem_range.1 hi)).1.2 with h1 | ⟨d0, d1, d2, d3, d4, es', sp', hd, he⟩
      · exact .inl h1
      · exact .inr ⟨d0, d1, d2, d3, d4, es', sp', List.mem_map.2 ⟨i, hi, hd⟩, he⟩
end Go.Proofs.Ytjfohnkfcfifeaa
