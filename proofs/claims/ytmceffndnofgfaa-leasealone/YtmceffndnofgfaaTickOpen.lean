/-
  How arguments of type []int and []pannierref05.Tick are read.
-/
import Derived.Test.YtmceffndnofgfaaRows
import Derived.Test.YtmceffndnofgfaaBlk
import Derived.ChangeSlices
import Derived.Deep.SlicePairs
import Derived.Lib.SmallJoins
import Derived.SizedLaws
namespace Go.Proofs.Ytmceffndnofgfaa
open Go.RowKit Go.ChangeShapes Go.WideShapes Go.Deep

/-- A slice of ints holds xs. -/
def HeldInt (w : World) (ao : Option Addr) (xs : List Int) : Prop :=
  (∀ x ∈ xs, -9223372036854775808 ≤ x ∧ x ≤ 9223372036854775807) ∧ (xs = [] ∨ ∃ b off, ao = some ⟨b, off, none⟩ ∧ b < w.heap.size ∧ ∀ j, j < xs.length → w.cell? ⟨b, off + j, none⟩ = some (.int .i64 (xs.getD j 0)))

theorem plain_addr {w : World} {a : Addr} {v : Value} (h : w.cell? (a.add 0) = some v) : ∃ b off, a = ⟨b, off, none⟩ ∧ b < w.heap.size := by
  obtain ⟨b, off, spot⟩ := a
  have hspot : spot = none := by simpa [Addr.add] using World.cell?_spot h
  subst hspot
  have hlt := World.block_lt_of_cell? w _ h
  exact ⟨b, off, rfl, by simpa [Addr.add] using hlt⟩

theorem open_nums {H : Type} {enc : TypeId × Value → H} {w : World} {base : Nat} {held : Bool} {ao : Option Addr} {len cap : Nat} {d : DataW H} {p : List MemPlace} (h : DataW.Trod enc Try.prog w base (fun _ => true) held 63 (.slice ao len cap) d p) :
    ∃ xs, xs.length = len ∧ HeldInt w ao xs ∧ (len = 0 ∨ ∃ es sp, d = .slice es sp ∧ es.length = len) := by
  obtain ⟨fuel, hf⟩ := h
  rcases open_ints Try.underlying63 Try.underlying3 (by kernel_rfl) hf with ⟨hcs, _⟩ | ⟨x, l, c, zs, hcs, _, hl, hm, hz, hx, hcell, hwz⟩
  · simp [Value.cells] at hcs
    obtain ⟨rfl, rfl, rfl⟩ := hcs
    exact ⟨[], rfl, ⟨fun s hs => (by cases hs), .inl rfl⟩, .inl rfl⟩
  · simp [Value.cells] at hcs
    obtain ⟨rfl, rfl, rfl⟩ := hcs
    have hz' : zs.length = cap := by simpa using hz
    refine ⟨zs.take len, by simp; omega, ⟨fun s hs => ?_, ?_⟩, ?_⟩
    · have := hwz s (List.mem_of_mem_take hs)
      simp [Lit.wf, IntKind.min, IntKind.max, IntKind.signed, IntKind.bits] at this
      omega
    · by_cases h0 : len = 0
      · left
        simp [h0]
      · right
        obtain ⟨b, off, rfl, hb⟩ := plain_addr (hcell 0 (by omega))
        refine ⟨b, off, rfl, hb, fun j hj => ?_⟩
        simp at hj
        have := hcell j (by omega)
        rw [Addr.add_lit] at this
        rw [this]
        simp [List.getD, List.getElem?_take_of_lt (show j < len by omega)]
    · simp only [Prod.mk.injEq] at hx
      right
      exact ⟨_, _, hx.1, by simp [lits]; omega⟩

theorem weightsAll_mem {H : Type} {P : Program} {e : TypeId} : ∀ {l : List (DataW H)} {d : DataW H}, d ∈ l → ∀ n ∈ d.weights P e, n ∈ DataW.weightsAll P e l
  | [], _, h, _, _ => by cases h
  | x :: l, d, h, n, hn => by
    simp only [DataW.weightsAll, List.mem_append]
    rcases List.mem_cons.1 h with rfl | h
    · exact .inl hn
    · exact .inr (weightsAll_mem h n hn)
theorem sized_inner {H : Type} {P : Program} {ts : List TypeId} {ds : List (DataW H)} (h : (DataW.weightsEach P ts ds).all (· ≤ reachBytes) = true) {j : Nat} {t e : TypeId} {elems spare : List (DataW H)} (ht : ts[j]? = some t) (hd : ds[j]? = some (.slice elems spare)) (hu : P.underlying t = some (.slice e))
    {fs : Array Field} (he : P.underlying e = some (.struct fs)) {parts : List (DataW H)} (hm : DataW.agg parts ∈ elems) {k : Nat} {tk : TypeId} {d : DataW H} (hk : (fs.toList.map (·.type))[k]? = some tk) (hp : parts[k]? = some d) : ∀ n ∈ d.weights P tk, n ≤ reachBytes := by
  intro n hn
  have h1 : n ∈ (DataW.agg parts).weights P e := by
    simp only [DataW.weights, he]
    exact DataW.weights_mem_each hk hp n hn
  have h2 := weightsAll_mem hm n h1
  have := List.all_eq_true.1 h n (DataW.weights_mem_each ht hd n (by simp only [DataW.weights, hu]; exact List.mem_cons_of_mem _ (List.mem_append_left _ h2)))
  simpa using this

/-- Whole numbers of 64 bits. -/
def In64 (x : Int) : Prop := -9223372036854775808 ≤ x ∧ x ≤ 9223372036854775807
theorem in64_wf {x : Int} (h : (Lit.int .i64 x).wf = true) : In64 x := by
  simp [Lit.wf, IntKind.min, IntKind.max, IntKind.signed, IntKind.bits] at h
  exact ⟨by omega, by omega⟩
/-- One tick: the time, and the slice of how far each clock goes on. -/
structure TickV where
  time : Int
  ao : Option Addr
  cap : Nat
  on : List Int
instance : Inhabited TickV := ⟨⟨0, none, 0, []⟩⟩
def TickV.sl (t : TickV) : Value := .slice t.ao t.on.length t.cap
/-- A slice of ticks holds ts. -/
def HeldTk (w : World) (ao : Option Addr) (ts : List TickV) : Prop :=
  (∀ t ∈ ts, In64 t.time ∧ HeldInt w t.ao t.on) ∧ (ts = [] ∨ ∃ b off, ao = some ⟨b, off, none⟩ ∧ b < w.heap.size ∧ ∀ j (hj : j < ts.length), w.cell? ⟨b, off + j * 2, none⟩ = some (.int .i64 ts[j].time) ∧ w.cell? ⟨b, off + j * 2 + 1, none⟩ = some ts[j].sl)

end Go.Proofs.Ytmceffndnofgfaa
