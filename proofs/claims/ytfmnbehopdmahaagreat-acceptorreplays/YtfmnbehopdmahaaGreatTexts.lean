/-
  Maps whose elements are whatever values: what lies at a key, behind a store and a delete; the operations' laws for a walk. No function of the program is named here.
-/
import Derived.Maps.OwnSet
import Derived.Maps.RangeWalk
import Derived.Test.YtfmnbehopdmahaaGreatBase
import Derived.RangeFuncBox
import Derived.Test.YtfmnbehopdmahaaGreatRows
import Derived.ChangeSlices
import Derived.Lib.SmallJoins
import Derived.SizedLaws
import Derived.Laws.ResultCell
import Derived.Lib.SlicesCompact
namespace Go.Proofs.YtfmnbehopdmahaaGreat
open Go.RowKit Go.Maps
open Go.WideElems (rg rg_of rd_val)

/-- An element reads as itself. -/
def valR (v : Value) : Option (DataW Value × List MemPlace) := some (.held v, [])
/-- What lies at a key. -/
def look (D : DataW Value) (kl : Lit) : Option Value := match D.atKey kl .nil with
  | .held v => some v
  | _ => none
def AllHeld (D : DataW Value) : Prop := ∃ es, D = .map es ∧ ∀ p ∈ es, ∃ v, p.2 = .held v

theorem allHeld_of {w : World} {P : Program} {k : TypeId} {b n : Nat} {D : DataW Value} (h : w.ownsMap P k valR b n D) : AllHeld D := by
  obtain ⟨es, clock, _, F, _, rfl⟩ := h
  refine ⟨_, rfl, fun p hp => ?_⟩
  obtain ⟨x, hx, rfl⟩ := List.mem_map.1 (mem_sorted.1 hp)
  obtain ⟨y, hy⟩ := F.reads x hx
  obtain ⟨z, hz, hzd⟩ := rd_val hy
  rw [rg_of hy, hzd]
  unfold valR at hz
  cases hz
  exact ⟨_, rfl⟩

theorem find_held {es : List (Lit × DataW Value)} (h : ∀ p ∈ es, ∃ v, p.2 = .held v) (kl : Lit) : (es.find? (fun p => p.1.sameKey kl) = none) ∨ ∃ p v, es.find? (fun p => p.1.sameKey kl) = some p ∧ p.2 = .held v := by
  cases hf : es.find? (fun p => p.1.sameKey kl) with
  | none => exact .inl rfl
  | some p =>
    obtain ⟨v, hv⟩ := h p (List.mem_of_find?_eq_some hf)
    exact .inr ⟨p, v, rfl, hv⟩

theorem has_look {D : DataW Value} (h : AllHeld D) (kl : Lit) : Maps.has D kl = (look D kl).isSome := by
  obtain ⟨es, rfl, hh⟩ := h
  have e1 : Maps.has (.map es) kl = (es.find? (fun p => p.1.sameKey kl)).isSome := by
    rw [Maps.has_eq, Bool.eq_iff_iff, List.find?_isSome, List.any_eq_true]
  rw [e1]
  rcases find_held hh kl with hf | ⟨p, v, hf, hv⟩
  · simp [look, DataW.atKey, hf]
  · simp [look, DataW.atKey, hf, hv]

theorem at_look {D : DataW Value} (h : AllHeld D) (kl : Lit) (z : Value) : D.atKey kl (.held z) = .held ((look D kl).getD z) := by
  obtain ⟨es, rfl, hh⟩ := h
  rcases find_held hh kl with hf | ⟨p, v, hf, hv⟩
  · simp [look, DataW.atKey, hf]
  · simp [look, DataW.atKey, hf, hv]

theorem look_at {D : DataW Value} {kl : Lit} {v : Value} (h : ∀ zd, D.atKey kl zd = .held v) : look D kl = some v := by simp [look, h]
theorem look_put_same {D : DataW Value} (hD : IsMap D) {kl : Lit} (hk : WideAt.IsKeyLit kl) (v : Value) : look (D.put kl (.held v)) kl = some v := by
  unfold look
  rw [atKey_put_same hD hk]
theorem look_put_other {D : DataW Value} {kl kl' : Lit} (h : kl' ≠ kl) (d : DataW Value) : look (D.put kl d) kl' = look D kl' := by
  unfold look
  rw [atKey_put_other h]
theorem look_del_same {D : DataW Value} {kl : Lit} : look (D.del kl) kl = none := by
  unfold look
  rw [atKey_del_same]
theorem look_del_other {D : DataW Value} {kl kl' : Lit} (h : kl' ≠ kl) : look (D.del kl) kl' = look D kl' := by
  unfold look
  rw [atKey_del_other h]
theorem look_empty (kl : Lit) : look (.map []) kl = none := rfl

section
variable {P : Program} {w : World} {k e t : TypeId} {b n : Nat} {D : DataW Value}

theorem run_look (h : w.ownsMap P k valR b n D) (K : Keyed P k) (ht : P.underlying t = some (.map k e)) {z : Value} (hz : (zeroValue e).run P w = .ok z w) {key : Value} {kl : Lit} (hkey : keyOf P k key = some kl) :
    (Instr.lookup t (.map (some b)) key false).run P w = .ok ((look D kl).getD z) w := by
  obtain ⟨v, ps, hrun, hv⟩ := h.lookup K ht hz (zd := .held z) (zp := []) rfl hkey
  rw [at_look (allHeld_of h)] at hv
  unfold valR at hv
  simp at hv
  rw [hrun, hv.1]

theorem run_look_ok (h : w.ownsMap P k valR b n D) (K : Keyed P k) (ht : P.underlying t = some (.map k e)) {z : Value} (hz : (zeroValue e).run P w = .ok z w) {key : Value} {kl : Lit} (hkey : keyOf P k key = some kl) :
    (Instr.lookup t (.map (some b)) key true).run P w = .ok (.tuple #[(look D kl).getD z, .bool (look D kl).isSome]) w := by
  obtain ⟨v, ps, hrun, hv⟩ := h.look_ok K ht hz (zd := .held z) (zp := []) rfl hkey
  rw [at_look (allHeld_of h)] at hv
  unfold valR at hv
  simp at hv
  rw [hrun, hv.1, has_look (allHeld_of h)]
end

section
variable {P : Program} (w : World) {ops : Array Oper} {rest : List Oper} {o : Oper} {a : Act} {Q : Exit → Act → World → Prop}

/-- 'm[k]'. -/
theorem wpList_look (hg : o.guard = none) (m x : Operand) (t : TypeId) (hop : o.op = Op.lookup t m x false) (k e : TypeId) (K : Keyed P k) (ht : P.underlying t = some (.map k e)) (z : Value) (hz : (zeroValue e).run P w = .ok z w) (b n : Nat) (D : DataW Value)
    (hm : a.eval m = .map (some b)) (hown : w.ownsMap P k valR b n D) (key : Value) (kl : Lit) (hx : a.eval x = key) (hkey : keyOf P k key = some kl) (v : Value) (hv : (look D kl).getD z = v)
    (hK : wpList P ops Q rest (a.put o.dst v) w) : wpList P ops Q (o :: rest) a w := by
  refine wpList_plain hg fun K' hK' => ?_
  have hrun := run_look hown K ht hz hkey
  rw [hv] at hrun
  unfold Oper.wp
  simp [execOp, hop, hm, hx, hrun, Result.andThen]
  exact hK' _ _ hK

/-- 'v, ok := m[k]'. -/
theorem wpList_look_ok (hg : o.guard = none) (m x : Operand) (t : TypeId) (hop : o.op = Op.lookup t m x true) (k e : TypeId) (K : Keyed P k) (ht : P.underlying t = some (.map k e)) (z : Value) (hz : (zeroValue e).run P w = .ok z w) (b n : Nat) (D : DataW Value)
    (hm : a.eval m = .map (some b)) (hown : w.ownsMap P k valR b n D) (key : Value) (kl : Lit) (hx : a.eval x = key) (hkey : keyOf P k key = some kl) (v : Value) (ok : Bool) (hv : (look D kl).getD z = v) (hok : (look D kl).isSome = ok)
    (hK : wpList P ops Q rest (a.put o.dst (.tuple #[v, .bool ok])) w) : wpList P ops Q (o :: rest) a w := by
  refine wpList_plain hg fun K' hK' => ?_
  have hrun := run_look_ok hown K ht hz hkey
  rw [hv, hok] at hrun
  unfold Oper.wp
  simp [execOp, hop, hm, hx, hrun, Result.andThen]
  exact hK' _ _ hK
end
end Go.Proofs.YtfmnbehopdmahaaGreat
/-
  Words on worlds for the walks over objects behind pointers: a block of cells ('Blk'), and what a call may have turned ('Turns': nothing but the blocks of F; new blocks may lie behind). No function of the program is named here.
-/
namespace Go.Proofs.YtfmnbehopdmahaaGreat
open Go.RowKit

/-- Block B is an array of these cells. -/
def Blk (w : World) (B : Nat) (t : TypeId) (cs : List Value) : Prop := w.heap[B]? = some (.cells cs.toArray t (0, 0))
section
variable {w w' : World} {B C i : Nat} {t e : TypeId} {cs : List Value} {v : Value}
theorem Blk.lt (h : Blk w B t cs) : B < w.heap.size := (Array.getElem?_eq_some_iff.1 h).1
theorem Blk.cell (h : Blk w B t cs) (hi : cs[i]? = some v) : w.cell? ⟨B, i, none⟩ = some v := by
  have h' : w.heap[B]? = some (.cells cs.toArray t (0, 0)) := h
  simp [World.cell?, h', hi]
theorem Blk.frozen (h : Blk w B t cs) (i : Nat) : w.frozen? ⟨B, i, none⟩ = false := by
  have h' : w.heap[B]? = some (.cells cs.toArray t (0, 0)) := h
  simp [World.frozen?, h']
theorem Blk.new (w : World) (t : TypeId) (cs : List Value) : Blk (w.alloc (.cells cs.toArray t)) w.heap.size t cs := World.alloc_heap_new w _
theorem Blk.kept {row : Option Nat} (h : Blk w B t cs) (hg : w.grownBy w' row) (hne : some B ≠ row) : Blk w' B t cs := (hg.block B h.lt hne).trans h
theorem Blk.alloc (h : Blk w B t cs) (o : Obj) : Blk (w.alloc o) B t cs := h.kept (World.grownBy_alloc w o none) (by simp)
theorem Blk.other (h : Blk w B t cs) (hne : B ≠ C) (i : Nat) (v : Value) : Blk (w.setCell ⟨C, i, none⟩ v) B t cs := (RowKit.Below.heap_setCell _ _ _ _ hne).trans h
theorem Blk.set (h : Blk w B t cs) (i : Nat) (v : Value) : Blk (w.setCell ⟨B, i, none⟩ v) B t (cs.set i v) := by
  obtain ⟨hlt, hk⟩ := Array.getElem?_eq_some_iff.1 h
  show (w.heap.modify B _)[B]? = _
  rw [Array.getElem?_modify]
  simp [hlt, hk]
theorem Blk.drewN (h : Blk w B t cs) (q : Nat) : Blk (w.drewN q) B t cs := h
theorem Blk.drew (h : Blk w B t cs) : Blk w.drew B t cs := h
theorem Blk.below {K : Nat} (h : Blk w B t cs) (hb : Below K w w') (hK : B < K) : Blk w' B t cs := (hb.block B hK).trans h
theorem Blk.not_row (h : Blk w B t cs) (hte : t ≠ e) {base size k : Nat} {u : Value} {xs : List Value} (hr : w.ownsRow base e size u k xs) : some B ≠ u.ownBlock := by
  rcases hr.2 with ⟨rfl, _⟩ | ⟨g, cap, cur, rfl, _, hg, _⟩
  · simp [Value.ownBlock]
  · intro he
    have e1 : B = g := by simpa [Value.ownBlock] using he
    subst e1
    have h' : w.heap[B]? = some (.cells cs.toArray t (0, 0)) := h
    rw [h'] at hg
    simp at hg
    exact hte hg.2
theorem Blk.not_map (h : Blk w B t cs) {P : Program} {k : TypeId} {b n : Nat} {D : DataW Value} (hm : w.ownsMap P k valR b n D) : B ≠ b := by
  obtain ⟨es, clock, hb, _⟩ := hm
  rintro rfl
  have h' : w.heap[B]? = some (.cells cs.toArray t (0, 0)) := h
  rw [h'] at hb
  cases hb
theorem row_not_map {base size k n : Nat} {u : Value} {xs : List Value} (hr : w.ownsRow base e size u k xs) {P : Program} {kt : TypeId} {b : Nat} {D : DataW Value} (hm : w.ownsMap P kt valR b n D) : some b ≠ u.ownBlock := by
  obtain ⟨es, clock, hb, _⟩ := hm
  rcases hr.2 with ⟨rfl, _⟩ | ⟨g, cap, cur, rfl, _, hg, _⟩
  · simp [Value.ownBlock]
  · intro he
    have e1 : b = g := by simpa [Value.ownBlock] using he
    subst e1
    rw [hb] at hg
    cases hg
end

/-- Nothing but the blocks of F has turned; new blocks may lie behind. -/
structure Turns (F : Nat → Prop) (w w' : World) : Prop where
  os : w'.os = w.os
  tape : w'.tape = w.tape
  output : w'.output = w.output
  size : w.heap.size ≤ w'.heap.size
  block : ∀ k, k < w.heap.size → ¬ F k → w'.heap[k]? = w.heap[k]?
section
variable {F G : Nat → Prop} {a b c : World}
theorem Turns.refl (F : Nat → Prop) (w : World) : Turns F w w := ⟨rfl, rfl, rfl, Nat.le_refl _, fun _ _ _ => rfl⟩
theorem Turns.trans (h : Turns F a b) (k : Turns G b c) (hG : ∀ i, G i → F i ∨ a.heap.size ≤ i) : Turns F a c :=
  ⟨k.os.trans h.os, k.tape.trans h.tape, k.output.trans h.output, Nat.le_trans h.size k.size, fun i hi hn => (k.block i (Nat.lt_of_lt_of_le hi h.size) (fun hg => by
    rcases hG i hg with h1 | h1
    · exact hn h1
    · omega)).trans (h.block i hi hn)⟩
theorem Turns.mono (h : Turns F a b) (hF : ∀ i, F i → G i) : Turns G a b := ⟨h.os, h.tape, h.output, h.size, fun k hk hn => h.block k hk (fun hf => hn (hF k hf))⟩
theorem Turns.of_grown {row : Option Nat} (h : a.grownBy b row) (hF : ∀ k, row = some k → F k) : Turns F a b := ⟨h.os, h.tape, h.output, h.size, fun k hk hn => h.block k hk (fun e => hn (hF k e.symm))⟩
theorem Turns.grown {row : Option Nat} (h : Turns F a b) (k : b.grownBy c row) (hF : ∀ k, row = some k → F k ∨ a.heap.size ≤ k) : Turns F a c := h.trans (Turns.of_grown (F := fun i => row = some i) k (fun _ h => h)) hF
theorem Turns.alloc (h : Turns F a b) (o : Obj) : Turns F a (b.alloc o) := h.grown (World.grownBy_alloc b o none) (fun _ h => by cases h)
theorem Turns.setCell (h : Turns F a b) {p : Addr} (hp : F p.block ∨ a.heap.size ≤ p.block) (u : Value) : Turns F a (b.setCell p u) :=
  h.trans (G := fun i => i = p.block) ⟨rfl, rfl, rfl, by simp, fun k _ hn => RowKit.Below.heap_setCell _ _ _ _ hn⟩ (fun i hi => by subst hi; exact hp)
theorem Turns.drew (h : Turns F a b) : Turns F a b.drew := ⟨h.os, h.tape, h.output, h.size, h.block⟩
theorem Turns.drewN (h : Turns F a b) (q : Nat) : Turns F a (b.drewN q) := ⟨h.os, h.tape, h.output, h.size, h.block⟩
theorem Turns.of_below {B : Nat} (h : Below B a b) (hB : a.heap.size ≤ B) : Turns F a b := ⟨h.os, h.tape, h.output, h.size, fun k hk _ => h.block k (Nat.lt_of_lt_of_le hk hB)⟩
theorem Turns.below {B : Nat} (h : Turns F a b) (hF : ∀ i, F i → B ≤ i) (hB : B ≤ a.heap.size) : Below B a b := ⟨h.os, h.tape, h.output, h.size, fun k hk => h.block k (Nat.lt_of_lt_of_le hk hB) (fun hf => by have := hF k hf; omega)⟩
theorem Turns.keeps (h : Turns F a b) {k : Nat} (hk : k < a.heap.size) (hn : ¬ F k) : b.heap[k]? = a.heap[k]? := h.block k hk hn
theorem Turns.blk (h : Turns F a b) {B : Nat} {t : TypeId} {cs : List Value} (hb : Blk a B t cs) (hn : ¬ F B) : Blk b B t cs := (h.block B hb.lt hn).trans hb
theorem Turns.map (h : Turns F a b) {P : Program} {k : TypeId} {m n : Nat} {D : DataW Value} (hm : a.ownsMap P k valR m n D) (hn : ¬ F m) : b.ownsMap P k valR m n D := by
  have hlt := hm.lt
  obtain ⟨es, clock, hb, r⟩ := hm
  exact ⟨es, clock, (h.block m hlt hn).trans hb, r⟩
theorem Turns.row (h : Turns F a b) {base size k : Nat} {e : TypeId} {u : Value} {xs : List Value} (hr : a.ownsRow base e size u k xs) (hn : ∀ g, u.ownBlock = some g → ¬ F g) : b.ownsRow base e size u k xs := by
  refine ⟨hr.1, ?_⟩
  rcases hr.2 with h0 | ⟨g, cap, cur, rfl, hbg, hg, r⟩
  · exact .inl h0
  · exact .inr ⟨g, cap, cur, rfl, hbg, (h.block g (Array.getElem?_eq_some_iff.1 hg).1 (hn g rfl)).trans hg, r⟩
end

theorem ownsRow_lt {w : World} {base size k : Nat} {e : TypeId} {u : Value} {xs : List Value} (hr : w.ownsRow base e size u k xs) {g : Nat} (hg : u.ownBlock = some g) : g < w.heap.size := (hr.lt g hg).2
end Go.Proofs.YtfmnbehopdmahaaGreat
/-
  Slices of ints: what they hold ('HeldInt', 'HV'), how an argument of type []int is read, what append([]int{}, x...) and append(out, n) make. No function of the program is named here.
-/
namespace Go.Proofs.YtfmnbehopdmahaaGreat
open Go.RowKit Go.ChangeShapes Go.WideShapes Go.Deep Go.Maps

theorem ret_int {k : IntKind} {a b : Int} (h : a = b) : Ending.returned (.int k a) = .returned (.int k b) := by rw [h]
theorem wrapS {x : Int} (h0 : -9223372036854775808 ≤ x) (h1 : x ≤ 9223372036854775807) : wrap64 x = x := by
  unfold wrap64
  omega
/-- A slice of ints holds xs. -/
def HeldInt (w : World) (ao : Option Addr) (xs : List Int) : Prop :=
  (∀ x ∈ xs, -9223372036854775808 ≤ x ∧ x ≤ 9223372036854775807) ∧ (xs = [] ∨ ∃ b off, ao = some ⟨b, off, none⟩ ∧ b < w.heap.size ∧ ∀ j, j < xs.length → w.cell? ⟨b, off + j, none⟩ = some (.int .i64 (xs.getD j 0)))
/-- A vector in memory. -/
structure HV (w : World) (ao : Option Addr) (cap : Nat) (xs : List Int) : Prop where
  held : HeldInt w ao xs
  room : xs.length ≤ cap
  few : xs.length ≤ 17592186044416

theorem plain_addr {w : World} {a : Addr} {v : Value} (h : w.cell? (a.add 0) = some v) : ∃ b off, a = ⟨b, off, none⟩ ∧ b < w.heap.size := by
  obtain ⟨b, off, spot⟩ := a
  have hspot : spot = none := by simpa [Addr.add] using World.cell?_spot h
  subst hspot
  have hlt := World.block_lt_of_cell? w _ h
  exact ⟨b, off, rfl, by simpa [Addr.add] using hlt⟩

theorem open_nums {H : Type} {enc : TypeId × Value → H} {w : World} {base : Nat} {held : Bool} {ao : Option Addr} {len cap : Nat} {d : DataW H} {p : List MemPlace} (h : DataW.Trod enc Tryz.prog w base (fun _ => true) held 23 (.slice ao len cap) d p) :
    ∃ xs, xs.length = len ∧ (HeldInt w ao xs ∧ len ≤ cap) ∧ (len = 0 ∨ ∃ es sp, d = .slice es sp ∧ es.length = len) := by
  obtain ⟨fuel, hf⟩ := h
  rcases open_ints Tryz.underlying23 Tryz.underlying3 (by kernel_rfl) hf with ⟨hcs, _⟩ | ⟨x, l, c, zs, hcs, _, hl, hm, hz, hx, hcell, hwz⟩
  · simp [Value.cells] at hcs
    obtain ⟨rfl, rfl, rfl⟩ := hcs
    exact ⟨[], rfl, ⟨⟨fun s hs => (by cases hs), .inl rfl⟩, Nat.le_refl _⟩, .inl rfl⟩
  · simp [Value.cells] at hcs
    obtain ⟨rfl, rfl, rfl⟩ := hcs
    have hz' : zs.length = cap := by simpa using hz
    refine ⟨zs.take len, by simp; omega, ⟨⟨fun s hs => ?_, ?_⟩, hl⟩, ?_⟩
    · have := hwz s (List.mem_of_mem_take hs)
      simp [Lit.wf, IntKind.min, IntKind.max, IntKind.signed, IntKind.bits] at this
      omega
    · by_cases h0 : len = 0
      · left
        simp [h0]
      · right
        obtain ⟨b, off, rfl, hb⟩ := plain_addr (hcell 0 (by omega))
        refine ⟨b, off, rfl, hb, fun j hj => ?_⟩
        simp at hj
        have := hcell j (by omega)
        rw [Addr.add_lit] at this
        rw [this]
        simp [List.getD, List.getElem?_take_of_lt (show j < len by omega)]
    · simp only [Prod.mk.injEq] at hx
      right
      exact ⟨_, _, hx.1, by simp [lits]; omega⟩

theorem HeldInt.cellAt {w : World} {ao : Option Addr} {xs : List Int} (h : HeldInt w ao xs) {k : Nat} (hk : k < xs.length) : ∃ b off, ao = some ⟨b, off, none⟩ ∧ ∀ j, j < xs.length → w.cell? ⟨b, off + j, none⟩ = some (.int .i64 (xs.getD j 0)) := by
  rcases h.2 with h0 | ⟨b, off, h1, _, h2⟩
  · rw [h0] at hk; cases hk
  · exact ⟨b, off, h1, h2⟩
theorem getD_mem {xs : List Int} {k : Nat} (hk : k < xs.length) : xs.getD k 0 ∈ xs := by
  simp [List.getD, List.getElem?_eq_getElem hk]
theorem HeldInt.rng {w : World} {ao : Option Addr} {xs : List Int} (h : HeldInt w ao xs) (k : Nat) : -9223372036854775808 ≤ xs.getD k 0 ∧ xs.getD k 0 ≤ 9223372036854775807 := by
  by_cases hk : k < xs.length
  · exact h.1 _ (getD_mem hk)
  · simp [List.getD, List.getElem?_eq_none (by omega : xs.length ≤ k)]
def ints (xs : List Int) : List Value := xs.map (Value.int .i64)
theorem ints_len (xs : List Int) : (ints xs).length = xs.length := by simp [ints]
theorem ints_one (xs : List Int) : ∀ u ∈ ints xs, u.oneCell' = true := by
  intro u hu
  obtain ⟨_, _, rfl⟩ := List.mem_map.1 hu
  rfl
theorem ints_set (xs : List Int) (l : List Value) (k : Nat) (v : Int) (hk : k < xs.length) : (ints xs ++ l).set k (.int .i64 v) = ints (xs.set k v) ++ l := by
  rw [List.set_append, if_pos (by rw [ints_len]; exact hk)]
  simp [ints, List.map_set]
theorem ints_get {xs : List Int} {j : Nat} (h : j < xs.length) : (ints xs)[j]? = some (.int .i64 (xs.getD j 0)) := by
  simp [ints, List.getD, List.getElem?_eq_getElem h]
theorem HeldInt.turned {F : Nat → Prop} {w w' : World} {ao : Option Addr} {xs : List Int} (h : HeldInt w ao xs) (ht : Turns F w w') (hF : ∀ b off, ao = some ⟨b, off, none⟩ → xs ≠ [] → ¬ F b) : HeldInt w' ao xs := by
  refine ⟨h.1, ?_⟩
  rcases h.2 with h0 | ⟨b, off, rfl, hb, hc⟩
  · exact .inl h0
  · by_cases h0 : xs = []
    · exact .inl h0
    · refine .inr ⟨b, off, rfl, Nat.lt_of_lt_of_le hb ht.size, fun j hj => ?_⟩
      have := hc j hj
      have hbk := ht.block b hb (hF b off rfl h0)
      simp only [World.cell?] at this ⊢
      rw [hbk]
      exact this
theorem HeldInt.below {w w' : World} {ao : Option Addr} {xs : List Int} (h : HeldInt w ao xs) (hb : Below w.heap.size w w') : HeldInt w' ao xs :=
  h.turned (F := fun _ => False) (Turns.of_below hb (Nat.le_refl _)) (fun _ _ _ _ h => h)
theorem HV.below {w w' : World} {ao : Option Addr} {cap : Nat} {xs : List Int} (h : HV w ao cap xs) (hb : Below w.heap.size w w') : HV w' ao cap xs := ⟨h.held.below hb, h.room, h.few⟩
theorem HV.dn {w : World} {ao : Option Addr} {cap : Nat} {xs : List Int} (h : HV w ao cap xs) (q : Nat) : HV (w.drewN q) ao cap xs := h.below (below_dn (Below.refl _ _) q)
theorem HeldInt.take {w : World} {ao : Option Addr} {xs : List Int} (h : HeldInt w ao xs) (n : Nat) : HeldInt w ao (xs.take n) := by
  refine ⟨fun x hx => h.1 x (List.mem_of_mem_take hx), ?_⟩
  rcases h.2 with rfl | ⟨b, off, h1, h2, hc⟩
  · left; simp
  · right
    refine ⟨b, off, h1, h2, fun j hj => ?_⟩
    simp at hj
    rw [hc j (by omega)]
    simp [List.getD, List.getElem?_take_of_lt (show j < n by omega)]
theorem HeldInt.new (w : World) (xs : List Int) (hx : ∀ x ∈ xs, -9223372036854775808 ≤ x ∧ x ≤ 9223372036854775807) : HeldInt (w.alloc (.cells (ints xs).toArray 3)) (some ⟨w.heap.size, 0, none⟩) xs := by
  refine ⟨hx, .inr ⟨_, 0, rfl, by simp, fun j hj => ?_⟩⟩
  refine (Blk.new w 3 (ints xs)).cell (i := 0 + j) ?_
  simp [ints, List.getD, List.getElem?_eq_getElem hj]
theorem Blk.heldInt {w : World} {b : Nat} {xs : List Int} {rest : List Value} (h : Blk w b 3 (ints xs ++ rest)) (hx : ∀ x ∈ xs, -9223372036854775808 ≤ x ∧ x ≤ 9223372036854775807) : HeldInt w (some ⟨b, 0, none⟩) xs := by
  refine ⟨hx, .inr ⟨b, 0, rfl, h.lt, fun j hj => h.cell ?_⟩⟩
  rw [Nat.zero_add, List.getElem?_append_left (by rw [ints_len]; exact hj), ints_get hj]
theorem HeldInt.news {w : World} {b off : Nat} {xs : List Int} (h : HeldInt w (some ⟨b, off, none⟩) xs) : ∀ j u, (ints xs)[j]? = some u → w.cell? ((⟨b, off, none⟩ : Addr).add j) = some u := by
  intro j u hu
  have hj : j < xs.length := by
    have := (List.getElem?_eq_some_iff.1 hu).1
    simpa [ints] using this
  rcases h.2 with h0 | ⟨b', off', e, _, hc⟩
  · rw [h0] at hj; cases hj
  · cases e
    rw [Addr.add_lit, hc j hj]
    simp [ints, List.getElem?_eq_getElem hj] at hu
    subst hu
    simp [List.getD, List.getElem?_eq_getElem hj]
theorem own_form' {w : World} {B e n : Nat} {v : Value} {xs : List Value} (h : w.ownsRow B e 1 v n xs) :
    ∃ eo cap, v = .slice eo n cap ∧ n ≤ cap ∧ (0 < n → ∃ g, eo = some ⟨g, 0, none⟩ ∧ B ≤ g ∧ g < w.heap.size ∧ ∀ j u, xs[j]? = some u → w.cell? ⟨g, j, none⟩ = some u) := by
  rcases h.2 with ⟨rfl, rfl⟩ | ⟨g, cap, cur, rfl, hbg, hg, hnc, _⟩
  · exact ⟨none, 0, rfl, Nat.le_refl _, fun h0 => by omega⟩
  · refine ⟨some ⟨g, 0, none⟩, cap, rfl, hnc, fun _ => ⟨g, rfl, hbg, (Array.getElem?_eq_some_iff.1 hg).1, fun j u hu => ?_⟩⟩
    have := h.cells (g := g) rfl j u hu
    simpa [Addr.add_lit] using this
theorem own_blk {w : World} {B n : Nat} {v : Value} {xs : List Int} (h : w.ownsRow B 3 1 v n (ints xs)) (hn : 0 < n) : ∃ g cap rest, v = .slice (some ⟨g, 0, none⟩) n cap ∧ Blk w g 3 (ints xs ++ rest) ∧ B ≤ g := by
  rcases h.2 with ⟨_, h0⟩ | ⟨g, cap, cur, rfl, hbg, hg, hnc, hcm, hcs, htake⟩
  · omega
  · refine ⟨g, cap, cur.toList.drop (ints xs).length, rfl, ?_, hbg⟩
    have he : ints xs ++ cur.toList.drop (ints xs).length = cur.toList := by
      have h1 : cur.toList.take (n * 1) = ints xs := htake
      have h2 : (ints xs).length = n * 1 := h.1
      rw [h2, ← h1, List.take_append_drop]
    unfold Blk
    rw [he]
    exact hg
/-- What an owned row of ints holds. -/
theorem hv_of_own {w : World} {B : Nat} {v : Value} {xs : List Int} (h : w.ownsRow B 3 1 v xs.length (ints xs)) (hx : ∀ x ∈ xs, -9223372036854775808 ≤ x ∧ x ≤ 9223372036854775807) (hf : xs.length ≤ 17592186044416) : ∃ ao cap, v = .slice ao xs.length cap ∧ HV w ao cap xs := by
  obtain ⟨eo, cap, rfl, hnc, hc⟩ := own_form' h
  refine ⟨eo, cap, rfl, ⟨hx, ?_⟩, hnc, hf⟩
  by_cases h0 : xs = []
  · exact .inl h0
  · obtain ⟨g, rfl, _, hg, hcell⟩ := hc (List.length_pos_iff.2 h0)
    refine .inr ⟨g, 0, rfl, hg, fun j hj => ?_⟩
    rw [Nat.zero_add]
    exact hcell j _ (ints_get hj)
theorem ownI_made (w : World) (B : Nat) (hB : B ≤ w.heap.size) : (w.alloc (.cells #[] 3)).ownsRow B 3 1 (.slice (some ⟨w.heap.size, 0, none⟩) 0 0) 0 (ints []) :=
  ⟨rfl, .inr ⟨w.heap.size, 0, #[], rfl, hB, World.alloc_heap_new w _, Nat.le_refl _, Nat.zero_le _, rfl, rfl⟩⟩
theorem ownI_nil (w : World) (B : Nat) : w.ownsRow B 3 1 (.slice none 0 0) 0 (ints []) := ⟨rfl, .inl ⟨rfl, rfl⟩⟩
theorem Tryz.infoInt : (Tryz.prog.info? 3).map (fun i => (i.zero, i.size, i.bytes)) = some (some (.int .i64 0), 1, 8) := by kernel_rfl

theorem run_append_noneI {P : Program} (w : World) (base : Nat) (t ty e : TypeId) (i : TypeInfo) (size : Nat) (ht : P.underlying t = some (.slice e)) (hi : P.info? e = some i)
    (v : Value) (n c : Nat) (xs : List Value) (hown : w.ownsRow base e size v n xs) : (Builtin.append_ #[t, t] ty #[v, .slice none 0 c]).run P w = .ok v w := by
  rcases hown.2 with ⟨rfl, rfl⟩ | ⟨g, cap, cur, rfl, _, _, hnc, _⟩
  · simp [Builtin.append_, run_underlying ht, sizeOf, typeInfo, hi, Builtin.lenOf, Builtin.firstCells]
  · simp [Builtin.append_, run_underlying ht, sizeOf, typeInfo, hi, Builtin.lenOf, Builtin.firstCells, hnc, storeCells]

/-- append([]int{}, x...): a new row that holds x's numbers. -/
theorem wpList_append_copy {ops : Array Oper} {rest : List Oper} {o : Oper} {a : Act} {Q : Exit → Act → World → Prop} (W : World) (hgd : o.guard = none) (s x : Operand)
    (ho : o.op = .call { callee := .builtin .append, args := #[s, x], argTypes := #[23, 23] })
    (hs : a.eval s = .slice (some ⟨W.heap.size, 0, none⟩) 0 0) (ao : Option Addr) (c : Nat) (xs : List Int) (n : Nat) (hn : xs.length = n) (hx : a.eval x = .slice ao n c) (hh : HeldInt W ao xs) (hl : xs.length ≤ 17592186044416)
    (h : ∀ bo cp w', w'.ownsRow W.heap.size 3 1 (.slice bo n cp) n (ints xs) → HV w' bo cp xs → Below W.heap.size W w' → wpList Tryz.prog ops Q rest (a.put o.dst (.slice bo n cp)) w') :
    wpList Tryz.prog ops Q (o :: rest) a (W.alloc (.cells #[] 3)) := by
  subst hn
  obtain ⟨iI, hj, hy0, hy1, hy2⟩ := info_parts Tryz.infoInt
  have hbel : Below W.heap.size W (W.alloc (.cells #[] 3)) := (Below.refl _ _).alloc (Nat.le_refl _) _
  have fin : ∀ (v' : Value) (w' : World), w'.ownsRow W.heap.size 3 1 v' xs.length (ints xs) → Below W.heap.size W w' → wpList Tryz.prog ops Q rest (a.put o.dst v') w' := by
    intro v' w' hown hb
    obtain ⟨eo, cap, rfl, hv⟩ := hv_of_own hown hh.1 hl
    exact h eo cap w' hown hv hb
  cases ao with
  | none =>
    have hx0 : xs = [] := by
      rcases hh.2 with h0 | ⟨b, off, e, _⟩
      · exact h0
      · cases e
    subst hx0
    refine wpList_plain hgd fun K hK => ?_
    have hr := run_append_noneI (P := Tryz.prog) (W.alloc (.cells #[] 3)) W.heap.size 23 o.type 3 iI 1 Tryz.underlying23 hj _ 0 c _ (ownI_made W W.heap.size (Nat.le_refl _))
    unfold Oper.wp execOp
    simp only [ho, resolve, invoke, builtin, Sem.run_bind, Sem.run_pure, Result.andThen_ok, List.map_toArray, List.map_cons, List.map_nil, hs, hx, List.length_nil, hr]
    exact hK _ _ (fin _ _ (ownI_made W W.heap.size (Nat.le_refl _)) hbel)
  | some ad =>
    have hnews : ∀ j u, (ints xs)[j]? = some u → (W.alloc (.cells #[] 3)).cell? (ad.add j) = some u := by
      intro j u hu
      rcases hh.2 with h0 | ⟨b, off, e, _⟩
      · subst h0
        simp [ints] at hu
      · cases e
        exact (hh.below hbel).news j u hu
    refine wpList_append_own_at _ hgd s x 23 ho W.heap.size 3 iI (.int .i64 0) 1 8 Tryz.underlying23 hj hy0 hy1 hy2 rfl (by decide) _ 0 (ints []) hs (ownI_made W W.heap.size (Nat.le_refl _)) ad xs.length c (ints xs) hx (by rw [ints_len]; omega) hnews (ints_one xs) (by unfold maxLen; omega) (by omega) (by simp) ?_
    intro v' w' hown hgrow _ _
    refine fin v' w' (by simpa [ints] using hown) (hbel.grown hgrow (by simp) (fun k e => ?_))
    cases e
    exact Nat.le_refl _

theorem own_lt {w : World} {B e size n : Nat} {v : Value} {xs : List Value} (h : w.ownsRow B e size v n xs) : ∀ k, v.ownBlock = some k → B ≤ k := fun k hk => (h.lt k hk).1
/-- append(out, n) of an owned row. -/
theorem wpList_append_one {ops : Array Oper} {rest : List Oper} {o : Oper} {a : Act} {Q : Exit → Act → World → Prop} (W0 W : World) (c : Int) (hW : W = W0.alloc (.cells #[.int .i64 c] 3)) (hgd : o.guard = none) (s x : Operand)
    (ho : o.op = .call { callee := .builtin .append, args := #[s, x], argTypes := #[23, 23] }) (B : Nat) (v : Value) (xs : List Int)
    (hs : a.eval s = v) (hx : a.eval x = .slice (some ⟨W0.heap.size, 0, none⟩) 1 1) (hown : W0.ownsRow B 3 1 v xs.length (ints xs)) (hB : B ≤ W0.heap.size) (hl : xs.length < 17592186044416)
    (h : ∀ v' w', w'.ownsRow B 3 1 v' (xs ++ [c]).length (ints (xs ++ [c])) → Below B W0 w' → wpList Tryz.prog ops Q rest (a.put o.dst v') w') :
    wpList Tryz.prog ops Q (o :: rest) a W := by
  subst hW
  obtain ⟨iI, hj, hy0, hy1, hy2⟩ := info_parts Tryz.infoInt
  have hn := Blk.new W0 3 [.int .i64 c]
  refine wpList_append_own_at _ hgd s x 23 ho B 3 iI (.int .i64 0) 1 8 Tryz.underlying23 hj hy0 hy1 hy2 rfl (by decide) v xs.length (ints xs) hs (hown.alloc _) ⟨W0.heap.size, 0, none⟩ 1 1 [.int .i64 c] hx rfl (fun j u hu => ?_) (one_int _ _) (by unfold maxLen; omega) (by omega) (by simp; omega) ?_
  · rw [Addr.add_lit, Nat.zero_add]
    exact hn.cell hu
  · intro v' w' hown' hgrow _ _
    refine h v' w' (by simpa [ints] using hown') (((Below.refl _ _).alloc hB _).grown hgrow (by simp; omega) (own_lt hown))
end Go.Proofs.YtfmnbehopdmahaaGreat
/-
  Rows of numbers that rise strictly: two with the same numbers are the same; what is put at its place; what slices.Compact makes of a sorted row. No function of the program is named here.
-/
namespace Go.Proofs.YtfmnbehopdmahaaGreat
open Go.RowKit

def Rises (l : List Int) : Prop := l.Pairwise (· < ·)
theorem rises_unique : ∀ {a b : List Int}, Rises a → Rises b → (∀ x, x ∈ a ↔ x ∈ b) → a = b
  | [], [], _, _, _ => rfl
  | [], y :: b, _, _, h => absurd ((h y).2 (by simp)) (by simp)
  | x :: a, [], _, _, h => absurd ((h x).1 (by simp)) (by simp)
  | x :: a, y :: b, ha, hb, h => by
    unfold Rises at ha hb
    rw [List.pairwise_cons] at ha hb
    have hxy : x = y := by
      rcases List.mem_cons.1 ((h x).1 (by simp)) with e | e
      · exact e
      · rcases List.mem_cons.1 ((h y).2 (by simp)) with e2 | e2
        · exact e2.symm
        · have := hb.1 x e
          have := ha.1 y e2
          omega
    subst hxy
    congr 1
    refine rises_unique ha.2 hb.2 (fun z => ⟨fun hz => ?_, fun hz => ?_⟩)
    · rcases List.mem_cons.1 ((h z).1 (List.mem_cons_of_mem _ hz)) with e | e
      · subst e; have := ha.1 z hz; omega
      · exact e
    · rcases List.mem_cons.1 ((h z).2 (List.mem_cons_of_mem _ hz)) with e | e
      · subst e; have := hb.1 z hz; omega
      · exact e
/-- How many stand ahead of x's place. -/
def aheadOf (l : List Int) (x : Int) : Nat := (l.takeWhile (fun y => decide (y < x))).length
theorem aheadOf_le (l : List Int) (x : Int) : aheadOf l x ≤ l.length := (List.takeWhile_prefix _).length_le
theorem aheadOf_lt : ∀ (l : List Int) (x : Int) (j : Nat) (hj : j < l.length), j < aheadOf l x → l[j] < x
  | [], _, _, hj, _ => by cases hj
  | y :: l, x, 0, _, h => by
    unfold aheadOf at h
    rw [List.takeWhile_cons] at h
    split at h
    · next hy => simpa using hy
    · simp at h
  | y :: l, x, j + 1, hj, h => by
    unfold aheadOf at h
    rw [List.takeWhile_cons] at h
    split at h
    · simp only [List.length_cons] at h
      exact aheadOf_lt l x j (by simpa using hj) (by unfold aheadOf; omega)
    · simp at h
theorem aheadOf_at : ∀ (l : List Int) (x : Int) (h : aheadOf l x < l.length), x ≤ l[aheadOf l x]
  | [], _, h => by cases h
  | y :: l, x, h => by
    by_cases hy : y < x
    · have e : aheadOf (y :: l) x = aheadOf l x + 1 := by unfold aheadOf; rw [List.takeWhile_cons, if_pos (by simpa using hy)]; simp
      have h' : aheadOf l x < l.length := by rw [e] at h; simpa using h
      have := aheadOf_at l x h'
      simp only [e, List.getElem_cons_succ]
      exact this
    · have e : aheadOf (y :: l) x = 0 := by unfold aheadOf; rw [List.takeWhile_cons, if_neg (by simpa using hy)]; rfl
      simp only [e, List.getElem_cons_zero]
      omega
/-- The row's own search stops where x belongs. -/
theorem aheadOf_eq {l : List Int} {x : Int} {k : Nat} (h1 : ∀ j (hj : j < l.length), j < k → l[j] < x) (hk : k ≤ l.length) (h2 : k = l.length ∨ ∃ h : k < l.length, ¬ l[k] < x) : k = aheadOf l x := by
  rcases Nat.lt_trichotomy k (aheadOf l x) with h | h | h
  · have hl := aheadOf_le l x
    rcases h2 with h2 | ⟨h3, h4⟩
    · omega
    · exact absurd (aheadOf_lt l x k h3 h) h4
  · exact h
  · have h3 : aheadOf l x < l.length := by omega
    have := aheadOf_at l x h3
    have := h1 _ h3 h
    omega
/-- x at its place, where it is not there yet. -/
def putS (l : List Int) (x : Int) : List Int := if aheadOf l x = l.length ∨ l.getD (aheadOf l x) 0 ≠ x then l.take (aheadOf l x) ++ [x] ++ l.drop (aheadOf l x) else l
theorem putS_mem (l : List Int) (x y : Int) : y ∈ putS l x ↔ y ∈ l ∨ y = x := by
  unfold putS
  split
  · rw [List.mem_append, List.mem_append, List.mem_singleton]
    constructor
    · rintro ((h | h) | h)
      · exact .inl (List.mem_of_mem_take h)
      · exact .inr h
      · exact .inl (List.mem_of_mem_drop h)
    · rintro (h | h)
      · rw [← List.take_append_drop (aheadOf l x) l] at h
        rcases List.mem_append.1 h with h | h
        · exact .inl (.inl h)
        · exact .inr h
      · exact .inl (.inr h)
  · next h =>
    simp only [not_or, ne_eq, Decidable.not_not] at h
    refine ⟨.inl, fun hh => ?_⟩
    rcases hh with hh | rfl
    · exact hh
    · have hl : aheadOf l y < l.length := by have := aheadOf_le l y; omega
      have := h.2
      rw [show l.getD (aheadOf l y) 0 = l[aheadOf l y] by simp [List.getD, List.getElem?_eq_getElem hl]] at this
      rw [← this]
      exact List.getElem_mem hl
theorem putS_rises {l : List Int} (hl : Rises l) (x : Int) : Rises (putS l x) := by
  unfold putS
  split
  · next h =>
    have hup : ∀ y ∈ l.drop (aheadOf l x), x < y := by
      intro y hy
      obtain ⟨j, hj, rfl⟩ := List.getElem_of_mem hy
      have hj' : aheadOf l x + j < l.length := by simp at hj; omega
      have h0 : aheadOf l x < l.length := by omega
      have hx : x < l[aheadOf l x] := by
        have h1 := aheadOf_at l x h0
        rcases h with h | h
        · omega
        · rw [show l.getD (aheadOf l x) 0 = l[aheadOf l x] by simp [List.getD, List.getElem?_eq_getElem h0]] at h
          omega
      rw [List.getElem_drop]
      rcases Nat.eq_zero_or_pos j with rfl | hp
      · simpa using hx
      · have := List.pairwise_iff_getElem.1 hl (aheadOf l x) (aheadOf l x + j) h0 hj' (by omega)
        omega
    have hdn : ∀ y ∈ l.take (aheadOf l x), y < x := by
      intro y hy
      obtain ⟨j, hj, rfl⟩ := List.getElem_of_mem hy
      have hj' : j < aheadOf l x ∧ j < l.length := by simp at hj; omega
      rw [List.getElem_take]
      exact aheadOf_lt l x j hj'.2 hj'.1
    have e : l.take (aheadOf l x) ++ [x] ++ l.drop (aheadOf l x) = l.take (aheadOf l x) ++ x :: l.drop (aheadOf l x) := by simp
    rw [e]
    refine List.pairwise_append.2 ⟨hl.sublist (List.take_sublist _ _), List.pairwise_cons.2 ⟨hup, hl.sublist (List.drop_sublist _ _)⟩, fun a ha b hb => ?_⟩
    rcases List.mem_cons.1 hb with rfl | hb
    · exact hdn a ha
    · exact Int.lt_trans (hdn a ha) (hup b hb)
  · exact hl
theorem putS_len (l : List Int) (x : Int) : (putS l x).length ≤ l.length + 1 := by
  unfold putS
  split
  · have := aheadOf_le l x
    simp
    omega
  · omega
def putAll (l : List Int) : List Int := l.foldl putS []
theorem putAll_snoc (l : List Int) (x : Int) : putAll (l ++ [x]) = putS (putAll l) x := by simp [putAll]
theorem foldS : ∀ (l a : List Int), Rises a → Rises (l.foldl putS a) ∧ (∀ y, y ∈ l.foldl putS a ↔ y ∈ a ∨ y ∈ l) ∧ (l.foldl putS a).length ≤ a.length + l.length
  | [], a, ha => ⟨ha, fun y => by simp, by simp⟩
  | x :: l, a, ha => by
    obtain ⟨h1, h2, h3⟩ := foldS l (putS a x) (putS_rises ha x)
    refine ⟨h1, fun y => ?_, ?_⟩
    · show y ∈ l.foldl putS (putS a x) ↔ _
      rw [h2, putS_mem, List.mem_cons, or_assoc]
    · have := putS_len a x
      show (l.foldl putS (putS a x)).length ≤ _
      simp only [List.length_cons]
      omega
theorem putAll_rises (l : List Int) : Rises (putAll l) := (foldS l [] .nil).1
theorem putAll_mem (l : List Int) (y : Int) : y ∈ putAll l ↔ y ∈ l := by
  have := (foldS l [] .nil).2.1 y
  simpa [putAll] using this
theorem putAll_len (l : List Int) : (putAll l).length ≤ l.length := by
  have := (foldS l [] .nil).2.2
  simpa [putAll] using this
/-- slices.Compact of a sorted row. -/
theorem compact_sorted {d : Array Int} (hs : ∀ i j, i < j → j < d.size → d[i]! ≤ d[j]!) : ∀ m, m ≤ d.size → Rises (Lib.compactUpTo d m) ∧ (∀ y ∈ Lib.compactUpTo d m, ∃ j, j < m ∧ y = d[j]!) ∧ (∀ j, j < m → d[j]! ∈ Lib.compactUpTo d m)
  | 0, _ => ⟨.nil, fun y hy => by simp [Lib.compactUpTo] at hy, fun j hj => by omega⟩
  | m + 1, hm => by
    obtain ⟨h1, h2, h3⟩ := compact_sorted hs m (by omega)
    rw [Lib.compactUpTo_succ]
    by_cases hk : Lib.keeps d m = true
    · rw [if_pos hk]
      refine ⟨List.pairwise_append.2 ⟨h1, by simp, fun a ha b hb => ?_⟩, fun y hy => ?_, fun j hj => ?_⟩
      · simp only [List.mem_singleton] at hb
        subst hb
        obtain ⟨j, hj, rfl⟩ := h2 a ha
        have hne : d[m]! ≠ d[m - 1]! := by
          simp only [Lib.keeps, decide_eq_true_eq] at hk
          rcases hk with h | h
          · omega
          · exact h
        have a1 : d[j]! ≤ d[m - 1]! := by
          rcases Nat.lt_or_ge j (m - 1) with h | h
          · exact hs j (m - 1) h (by omega)
          · rw [show j = m - 1 by omega]; exact Int.le_refl _
        have a2 := hs (m - 1) m (by omega) (by omega)
        omega
      · rcases List.mem_append.1 hy with h | h
        · obtain ⟨j, hj, e⟩ := h2 y h
          exact ⟨j, by omega, e⟩
        · simp only [List.mem_singleton] at h
          exact ⟨m, by omega, h⟩
      · rcases Nat.lt_or_ge j m with h | h
        · exact List.mem_append.2 (.inl (h3 j h))
        · rw [show j = m by omega]; simp
    · rw [if_neg hk, List.append_nil]
      refine ⟨h1, fun y hy => ?_, fun j hj => ?_⟩
      · obtain ⟨j, hj, e⟩ := h2 y hy
        exact ⟨j, by omega, e⟩
      · rcases Nat.lt_or_ge j m with h | h
        · exact h3 j h
        · have hm0 : m ≠ 0 ∧ d[m]! = d[m - 1]! := by
            simp only [Lib.keeps, decide_eq_true_eq, not_or, ne_eq, Decidable.not_not] at hk
            exact hk
          rw [show j = m by omega, hm0.2]
          exact h3 (m - 1) (by omega)
theorem compact_putAll (l : List Int) : Lib.compact (l.mergeSort fun x y => decide (x ≤ y)) = putAll l := by
  have hp : (l.mergeSort fun x y => decide (x ≤ y)).Pairwise (fun a b => decide (a ≤ b) = true) := List.pairwise_mergeSort (fun a b c h1 h2 => by simp at *; omega) (fun a b => by simp; omega) l
  obtain ⟨s, hs⟩ : ∃ s, s = l.mergeSort fun x y => decide (x ≤ y) := ⟨_, rfl⟩
  rw [← hs] at hp ⊢
  have hmem : ∀ y, y ∈ s ↔ y ∈ l := fun y => by rw [hs]; exact List.mem_mergeSort
  have hso : ∀ i j, i < j → j < s.toArray.size → s.toArray[i]! ≤ s.toArray[j]! := by
    intro i j hij hj
    have hj' : j < s.length := by simpa using hj
    have := List.pairwise_iff_getElem.1 hp i j (by omega) hj' hij
    rw [getElem!_pos s.toArray i (by simp; omega), getElem!_pos s.toArray j hj]
    simpa using this
  obtain ⟨h1, h2, h3⟩ := compact_sorted hso s.length (by simp)
  refine rises_unique h1 (putAll_rises l) (fun y => ?_)
  rw [putAll_mem, ← hmem y]
  constructor
  · intro hy
    obtain ⟨j, hj, rfl⟩ := h2 y hy
    rw [getElem!_pos s.toArray j (by simpa using hj)]
    simp
  · intro hy
    obtain ⟨j, hj, rfl⟩ := List.getElem_of_mem hy
    have := h3 j hj
    rw [getElem!_pos s.toArray j (by simpa using hj)] at this
    show _ ∈ Lib.compactUpTo s.toArray s.length
    simpa using this
end Go.Proofs.YtfmnbehopdmahaaGreat
/-
  Laws on append, cutting and opening for slices of bytes, over any program: what 'append(v, x...)' makes of an owned row v and a slice x that holds bytes; what 's[l:]', 's[l:h]' hold; how an argument of type []byte is read. No function of the program is named here.
-/
namespace Go.Proofs.YtfmnbehopdmahaaGreat
open Go.RowKit

theorem wpList_append_held {P : Program} (w : World) {ops : Array Oper} {rest : List Oper} {o : Oper} {a : Act} {Q : Exit → Act → World → Prop} (hgd : o.guard = none) (s x : Operand) (t : TypeId)
    (ho : o.op = .call { callee := .builtin .append, args := #[s, x], argTypes := #[t, t] })
    (base : Nat) (e : TypeId) (i : TypeInfo) (ht : P.underlying t = some (.slice e)) (hi : P.info? e = some i) (hz : i.zero = some (.int .u8 0)) (hsize : i.size = 1) (hby : i.bytes = 1)
    (v : Value) (n : Nat) (bs : List Int) (hs : a.eval s = v) (hown : w.ownsRow base e 1 v n (nums bs)) (hbs : AllB bs)
    (ao : Option Addr) (m c : Nat) (cs : List Int) (hx : a.eval x = .slice ao m c) (hh : Held w ao m c cs) (hsum : n + m ≤ 140737488355328) (hbase : base ≤ w.heap.size)
    (h : ∀ bo cp w', w'.ownsRow base e 1 (.slice bo (n + m) cp) (n + m) (nums (bs ++ cs)) → Held w' bo (n + m) cp (bs ++ cs) → Below base w w' → Grew w w' v (.slice bo (n + m) cp) → wpList P ops Q rest (a.put o.dst (.slice bo (n + m) cp)) w') :
    wpList P ops Q (o :: rest) a w := by
  cases ao with
  | none =>
    have hc := hh.nil rfl
    have hm : m = 0 := by have := hh.hcap; omega
    subst hm hc
    have hcs : cs = [] := List.eq_nil_of_length_eq_zero hh.hlen
    subst hcs
    obtain ⟨bo, cp, rfl, hhv⟩ := held_of_own hown hbs
    refine wpList_plain hgd fun K hK => ?_
    have hr := run_append_owned_none (P := P) w base t o.type e i 1 ht hi _ n _ hown
    unfold Oper.wp execOp
    simp only [ho, resolve, invoke, builtin, Sem.run_bind, Sem.run_pure, Result.andThen_ok, List.map_toArray, List.map_cons, List.map_nil, hs, hx, hr]
    refine hK _ _ ?_
    have := h bo cp w (by simpa using hown) (by simpa using hhv) (Below.refl _ _) (Grew.refl _ _)
    simpa using this
  | some ad =>
    refine wpList_append_own_at w hgd s x t ho base e i (.int .u8 0) 1 1 ht hi hz hsize hby rfl (by decide) v n (nums bs) hs hown ad m c (nums cs) hx (by rw [nums_len, hh.hlen]; omega) (hh.news ad rfl) (nums_one cs) (by unfold maxLen; omega) (by omega) hbase ?_
    intro v' w' hown' hgrow _ hat
    rw [← nums_append] at hown'
    obtain ⟨bo, cp, rfl, hhv⟩ := held_of_own hown' (hbs.append hh.byte)
    exact h bo cp w' hown' hhv ((Below.refl _ _).grown hgrow hbase (own_lt hown)) (Grew.of hgrow hat)

theorem held_row {w : World} {x : Addr} {len cap : Nat} {zs : List Int} (hl : len ≤ cap) (hm : cap ≤ maxLen) (hz : zs.length = cap) (hcell : ∀ i, i < zs.length → w.cell? (x.add i) = some (.int .u8 (zs.getD i 0))) (hwz : ∀ n ∈ zs, (Lit.int .u8 n).wf = true) : Held w (some x) len cap (zs.take len) := by
  have hb : AllB zs := by
    intro c hc
    have := hwz c hc
    simpa [Lit.wf, IntKind.min, IntKind.max, IntKind.signed, IntKind.bits] using this
  refine ⟨by simp; omega, hl, hm, fun h => (by cases h), hb.take len, fun ad ha j hj => ?_, fun ad ha hp => ?_⟩
  · obtain rfl := Option.some.inj ha
    rw [hcell j (by omega)]
    simp [List.getD, List.getElem?_take_of_lt hj]
  · obtain rfl := Option.some.inj ha
    have := World.block_lt_of_cell? w _ (hcell 0 (by omega))
    simpa [Addr.add] using this

theorem held_nil (w : World) : Held w none 0 0 [] := ⟨rfl, Nat.le_refl _, Nat.zero_le _, fun _ => rfl, fun c hc => (by cases hc), fun ad h => (by cases h), fun ad h => (by cases h)⟩

/-- What 's[l:h]' holds. -/
def cutAt (ao : Option Addr) (cap l : Nat) : Option Addr := if cap = l then ao else ao.map (·.add l)
theorem addr_add (p : Addr) (i j : Nat) : (p.add i).add j = p.add (i + j) := by
  obtain ⟨b, o, s⟩ := p
  simp only [Addr.add]
  split <;> split <;> simp_all [Nat.add_assoc]

theorem run_cut_l {P : Program} (W : World) (t e : TypeId) (ht : P.underlying t = some (.slice e)) (hz : ∀ w, (Go.sizeOf e).run P w = .ok 1 w) (ao : Option Addr) (len cap l : Nat) (L : Int) (hL : L = (l : Int)) (hl : l ≤ len) :
    (Instr.slice t (.slice ao len cap) (some (.int .i64 L)) none none).run P W = .ok (.slice (cutAt ao cap l) (len - l) (cap - l)) W := by
  subst hL
  have ht' : P.underlying t = some (.slice (P.elem t)) := by simp [Program.elem, ht]
  have he : P.elem t = e := by simp [Program.elem, ht]
  rw [run_slice_l W t _ _ _ ht' .i64 _ (by omega) (by omega), he, hz]
  simp [Result.andThen, sliced, cutAt]

theorem run_cut_lh {P : Program} (W : World) (t e : TypeId) (ht : P.underlying t = some (.slice e)) (hz : ∀ w, (Go.sizeOf e).run P w = .ok 1 w) (ao : Option Addr) (len cap l h : Nat) (L U : Int) (hL : L = (l : Int)) (hU : U = (h : Int)) (hl : l ≤ h) (hh : h ≤ cap) :
    (Instr.slice t (.slice ao len cap) (some (.int .i64 L)) (some (.int .i64 U)) none).run P W = .ok (.slice (cutAt ao cap l) (h - l) (cap - l)) W := by
  subst hL hU
  have ht' : P.underlying t = some (.slice (P.elem t)) := by simp [Program.elem, ht]
  have he : P.elem t = e := by simp [Program.elem, ht]
  rw [run_slice_lh W t _ _ _ ht' .i64 .i64 _ _ (by omega) (by omega) (by omega), he, hz]
  simp [Result.andThen, sliced, cutAt]

theorem Held.cut {w : World} {ao : Option Addr} {len cap : Nat} {bs : List Int} (h : Held w ao len cap bs) {l u : Nat} (hl : l ≤ u) (hu : u ≤ len) : Held w (cutAt ao cap l) (u - l) (cap - l) ((bs.take u).drop l) := by
  have hlen := h.hlen
  have hcap := h.hcap
  refine ⟨by simp; omega, by omega, Nat.le_trans (Nat.sub_le _ _) h.hmax, fun hn => ?_, (h.byte.take u).drop l, fun ad ha j hj => ?_, fun ad ha hp => ?_⟩
  · unfold cutAt at hn
    split at hn
    · omega
    · have := h.nil (by simpa using hn)
      omega
  · unfold cutAt at ha
    rw [if_neg (by omega)] at ha
    obtain ⟨a0, rfl, rfl⟩ := Option.map_eq_some_iff.1 ha
    rw [addr_add, h.cell a0 rfl (l + j) (by omega)]
    simp [List.getD, List.getElem?_drop, List.getElem?_take_of_lt (show l + j < u by omega)]
  · unfold cutAt at ha
    rw [if_neg (by omega)] at ha
    obtain ⟨a0, rfl, rfl⟩ := Option.map_eq_some_iff.1 ha
    have := h.old a0 rfl (by omega)
    unfold Addr.add
    split <;> exact this
theorem Held.cutl {w : World} {ao : Option Addr} {len cap : Nat} {bs : List Int} (h : Held w ao len cap bs) {l : Nat} (hl : l ≤ len) : Held w (cutAt ao cap l) (len - l) (cap - l) (bs.drop l) := by
  have := h.cut hl (Nat.le_refl _)
  rwa [List.take_of_length_le (by rw [h.hlen]; exact Nat.le_refl _)] at this
end Go.Proofs.YtfmnbehopdmahaaGreat
/-
  The writers of numbers: codec.ownCopy, codec.appendUint, codec.Uint and pannierref01.Uint write the one form 'enc' behind what was there, in memory of their own, for every uint64; conditions: the lengths stay below 2^47.
-/
namespace Go.Proofs.YtfmnbehopdmahaaGreat
open Go.RowKit

theorem Tryz.info5 : (Tryz.prog.info? 5).map (fun i => (i.zero, i.size, i.bytes)) = some (some (.int .u8 0), 1, 1) := by kernel_rfl

theorem Tryz.size5 : ∀ w, (Go.sizeOf 5).run Tryz.prog w = .ok 1 w := by
  intro w
  obtain ⟨i0, hi, hz0, hz1, hz2⟩ := info_parts Tryz.info5
  simp [Go.sizeOf, typeInfo, hi, hz1]

theorem appendUint_any (v : Value) (n : Nat) (bs : List Int) (x B : Nat) (w : World) (hx : x < 18446744073709551616) (hown : w.ownsRow B 5 1 v n (nums bs)) (hB : B ≤ w.heap.size) (hn : n ≤ 140737488355000) :
    Calls Tryz.prog 149 #[v, .int .u64 x] w fun e w' => ∃ v', e = .returned v' ∧ w'.ownsRow B 5 1 v' (n + (enc x).length) (nums (bs ++ enc x)) ∧ Grew w w' v v' := by
  obtain ⟨i0, hi, hz0, hz1, hz2⟩ := info_parts Tryz.info5
  go_enter Tryz.func149, Tryz.ntmps149
  go_wp2
  go_loopw [0, 1] (fun b t wr => ∃ (y m : Nat) (cs : List Int), t = .int .u64 y ∧ y < 18446744073709551616 ∧ wr.ownsRow B 5 1 b m (nums cs) ∧ m ≤ n + 10 ∧ cs ++ enc y = bs ++ enc x ∧ Grew w wr v b) (fun _ t _ => (intOf t).toNat)
  case atStart => exact ⟨x, n, bs, rfl, hx, hown, by omega, rfl, Grew.refl _ _⟩
  case round =>
    obtain ⟨y, m, cs, rfl, hy, hownr, hm, hcs, hgr⟩ := hrel
    have hl := congrArg List.length hcs
    simp only [List.length_append] at hl
    have hcl : cs.length = m := by simpa [nums] using hownr.1
    have hbl : bs.length = n := by simpa [nums] using hown.1
    have h10 := enc_le10 hx
    have hyp := enc_pos y
    have hsz : w.heap.size ≤ wr.heap.size := hgr.1.size
    have HC : Hid (cs ++ enc y = bs ++ enc x) := hcs
    have HG : Hid (Grew w wr v u0) := hgr
    have hsum : m + (enc y).length ≤ n + 10 := by omega
    clear hcs hgr hcl hl
    by_cases hlt : 128 ≤ y
    · have hy1 : (127 : Int) < (y : Int) := by omega
      have ha := and127 hy
      have ho := or128 (c := (y : Int) % 128) (by omega) (by omega)
      go_wp2_with (at_builtin; refine wpList_append_own_at _ rfl _ _ 66 rfl B 5 i0 (.int .u8 0) 1 1 Tryz.underlying66 hi hz0 hz1 hz2 rfl (by decide) _ _ _ rfl (hownr.alloc _) ⟨wr.heap.size, 0, none⟩ 1 1 [.int .u8 ((y : Int) % 128 + 128)] rfl rfl (cell_one_new _ _ _) (one_int _ _) (by unfold maxLen; omega) (by omega) (by simp; omega) ?_)
      · intro v' w1 hown' hgrow _ hat
        have hg2 : Grew w w1 v v' := HG.out.trans ((Grew.alloc _ _ _).trans (Grew.of hgrow (by simpa using hat)))
        have HG2 : Hid (Grew w w1 v v') := hg2
        have HO : Hid (w1.ownsRow B 5 1 v' (m + 1) (nums (cs ++ [(y : Int) % 128 + 128]))) := by rw [nums_append]; exact hown'
        clear hown' hgrow hat hg2 HG hownr
        go_wp2
        go_roundw
        case rel => exact ⟨y / 128, m + 1, cs ++ [(y : Int) % 128 + 128], by go_num, by omega, HO.out, by omega, by rw [← HC.out, enc_ge hlt, List.append_assoc]; rfl, HG2.out⟩
        case measure => simp [intOf]; omega
    · have hy1 : ¬ (127 : Int) < (y : Int) := by omega
      go_wp2_with (at_builtin; refine wpList_append_own_at _ rfl _ _ 66 rfl B 5 i0 (.int .u8 0) 1 1 Tryz.underlying66 hi hz0 hz1 hz2 rfl (by decide) _ _ _ rfl (hownr.alloc _) ⟨wr.heap.size, 0, none⟩ 1 1 [.int .u8 (y : Int)] rfl rfl (cell_one_new _ _ _) (one_int _ _) (by unfold maxLen; omega) (by omega) (by simp; omega) ?_)
      · intro v' w1 hown' hgrow _ hat
        have hg2 : Grew w w1 v v' := HG.out.trans ((Grew.alloc _ _ _).trans (Grew.of hgrow (by simpa using hat)))
        have he : bs ++ enc x = cs ++ [(y : Int)] := by rw [← HC.out, enc_lt (by omega)]
        have hlen : n + (enc x).length = m + 1 := by
          have h2 := congrArg List.length he
          have h3 := hownr.1
          simp [nums] at h2 h3
          omega
        have HO : Hid (w1.ownsRow B 5 1 v' (n + (enc x).length) (nums (bs ++ enc x))) := by rw [he, nums_append, hlen]; exact hown'
        have HG2 : Hid (Grew w w1 v v') := hg2
        clear hown' hgrow hat hg2 HG hownr he hlen
        go_wp2
        go_ret
        exact ⟨v', rfl, HO.out, HG2.out⟩


/-- The same, in words that a caller wants who holds nothing from B on but this row. -/
theorem appendUint_own (v : Value) (n : Nat) (bs : List Int) (x : Int) (B : Nat) (w : World) (h0 : 0 ≤ x) (hx : x < 18446744073709551616) (hown : w.ownsRow B 5 1 v n (nums bs)) (hB : B ≤ w.heap.size) (hn : n ≤ 140737488355000) :
    Calls Tryz.prog 149 #[v, .int .u64 x] w fun e w' => ∃ v', e = .returned v' ∧ w'.ownsRow B 5 1 v' (n + (enc x.toNat).length) (nums (bs ++ enc x.toNat)) ∧ Below B w w' := by
  obtain ⟨y, rfl⟩ := Int.eq_ofNat_of_zero_le h0
  refine (appendUint_any v n bs y B w (by omega) hown hB hn).mono ?_
  rintro e w' ⟨v', rfl, h1, h2⟩
  exact ⟨v', rfl, by simpa using h1, h2.below (Below.refl _ _) hB (own_lt hown)⟩

theorem refUint_any (x : Int) (w : World) (h0 : 0 ≤ x) (hx : x < 18446744073709551616) :
    Calls Tryz.prog 67 #[.int .u64 x] w fun e w' => ∃ v, e = .returned v ∧ w'.ownsRow w.heap.size 5 1 v (enc x.toNat).length (nums (enc x.toNat)) ∧ Below w.heap.size w w' := by
  obtain ⟨x, rfl⟩ := Int.eq_ofNat_of_zero_le h0
  rw [Int.toNat_natCast]
  have hx' : x < 18446744073709551616 := by omega
  obtain ⟨i0, hi, hz0, hz1, hz2⟩ := info_parts Tryz.info5
  clear hx
  go_enter Tryz.func67, Tryz.ntmps67
  go_wp2
  go_loopw [0, 3] (fun t b wr => ∃ (y m : Nat) (cs : List Int), t = .int .u64 y ∧ y < 18446744073709551616 ∧ wr.ownsRow w.heap.size 5 1 b m (nums cs) ∧ cs ++ enc y = enc x ∧ Below w.heap.size w wr) (fun t _ _ => (intOf t).toNat)
  case atStart => exact ⟨x, 0, [], rfl, hx', World.ownsRow_nil _ _ _ _, rfl, Below.refl _ _⟩
  case round =>
    obtain ⟨y, m, cs, rfl, hy, hownr, hcs, hbr⟩ := hrel
    have hl := congrArg List.length hcs
    simp only [List.length_append] at hl
    have hcl : cs.length = m := by simpa [nums] using hownr.1
    have h10 := enc_le10 hx'
    have hyp := enc_pos y
    have hsz : w.heap.size ≤ wr.heap.size := hbr.size
    have hsum : m + (enc y).length ≤ 10 := by omega
    have HC : Hid (cs ++ enc y = enc x) := hcs
    have HB : Hid (Below w.heap.size w wr) := hbr
    have HL : Hid (∀ k, u3.ownBlock = some k → w.heap.size ≤ k) := own_lt hownr
    clear hcs hbr hcl hl
    by_cases hlt : 128 ≤ y
    · have hy1 : (128 : Int) ≤ (y : Int) := by omega
      go_wp2_with (at_builtin; refine wpList_append_own_at _ rfl _ _ 66 rfl w.heap.size 5 i0 (.int .u8 0) 1 1 Tryz.underlying66 hi hz0 hz1 hz2 rfl (by decide) _ _ _ rfl (hownr.alloc _) ⟨wr.heap.size, 0, none⟩ 1 1 [.int .u8 ((y : Int) % 128 + 128)] rfl rfl (cell_one_new _ _ _) (one_int _ _) (by unfold maxLen; omega) (by omega) (by simp; omega) ?_)
      intro v' w1 hown' hgrow _ hat
      have hb1 : Below w.heap.size w w1 := (HB.out.alloc hsz _).grown hgrow (by simp; omega) HL.out
      have HB1 : Hid (Below w.heap.size w w1) := hb1
      have HO : Hid (w1.ownsRow w.heap.size 5 1 v' (m + 1) (nums (cs ++ [(y : Int) % 128 + 128]))) := by rw [nums_append]; exact hown'
      clear hown' hgrow hat hb1 hownr
      go_wp2
      go_roundw
      case rel => exact ⟨y / 128, m + 1, cs ++ [(y : Int) % 128 + 128], by go_num, by omega, HO.out, by rw [← HC.out, enc_ge hlt, List.append_assoc]; rfl, HB1.out⟩
      case measure => simp [intOf]; omega
    · have hy1 : ¬ (128 : Int) ≤ (y : Int) := by omega
      go_wp2_with (at_builtin; refine wpList_append_own_at _ rfl _ _ 66 rfl w.heap.size 5 i0 (.int .u8 0) 1 1 Tryz.underlying66 hi hz0 hz1 hz2 rfl (by decide) _ _ _ rfl (hownr.alloc _) ⟨wr.heap.size, 0, none⟩ 1 1 [.int .u8 (y : Int)] rfl rfl (cell_one_new _ _ _) (one_int _ _) (by unfold maxLen; omega) (by omega) (by simp; omega) ?_)
      intro v' w1 hown' hgrow _ hat
      have hb1 : Below w.heap.size w w1 := (HB.out.alloc hsz _).grown hgrow (by simp; omega) HL.out
      have HB1 : Hid (Below w.heap.size w w1) := hb1
      have he : enc x = cs ++ [(y : Int)] := by rw [← HC.out, enc_lt (by omega)]
      have hlen : (enc x).length = m + 1 := by
        have h2 := congrArg List.length he
        have h3 := hownr.1
        simp [nums] at h2 h3
        omega
      have HO : Hid (w1.ownsRow w.heap.size 5 1 v' (enc x).length (nums (enc x))) := by rw [hlen, he, nums_append]; exact hown'
      clear hown' hgrow hat hb1 hownr he hlen
      go_wp2
      go_ret
      exact ⟨v', rfl, HO.out, HB1.out⟩
end Go.Proofs.YtfmnbehopdmahaaGreat
/-
  The writers of texts: codec.appendText, codec.Text and pannierref01.Text write how many bytes a text has, and these, behind what was there; conditions: the lengths stay below 2^47.
-/
namespace Go.Proofs.YtfmnbehopdmahaaGreat
open Go.RowKit

/-- A text's bytes: how many, and these. -/
def encText (s : ByteArray) : List Int := enc s.size ++ strNums s
theorem encText_len (s : ByteArray) : (encText s).length = (enc s.size).length + s.size := by simp [encText, strNums_len]
theorem encText_byte (s : ByteArray) : AllB (encText s) := AllB.append (enc_byte _) (strNums_byte s)

theorem appendText_own (v : Value) (n : Nat) (bs : List Int) (s : ByteArray) (B : Nat) (w : World) (hown : w.ownsRow B 5 1 v n (nums bs)) (hB : B ≤ w.heap.size) (hn : n + s.size ≤ 140737488355000) :
    Calls Tryz.prog 153 #[v, .string s] w fun e w' => ∃ v', e = .returned v' ∧ w'.ownsRow B 5 1 v' (n + (encText s).length) (nums (bs ++ encText s)) ∧ Below B w w' := by
  obtain ⟨i0, hi, hz0, hz1, hz2⟩ := info_parts Tryz.info5
  have h10 := enc_le10 (x := s.size) (by omega)
  have HO : Hid (w.ownsRow B 5 1 v n (nums bs)) := hown
  clear hown
  go_enter Tryz.func153, Tryz.ntmps153
  go_wp2_with fail
  refine (appendUint_own v n bs s.size B w (by omega) (by omega) HO.out hB (by omega)).mono ?_
  rintro e w1 ⟨v1, rfl, hown1, hb1⟩
  rw [Int.toNat_natCast] at hown1
  have hs1 : w.heap.size ≤ w1.heap.size := hb1.size
  have HB : Hid (Below B w w1) := hb1
  have HL : Hid (∀ k, v1.ownBlock = some k → B ≤ k) := own_lt hown1
  clear hb1
  go_wp2_with (at_builtin; refine Lib.wpList_append_own_string _ rfl _ _ 66 9 rfl B 5 i0 Tryz.underlying66 Tryz.underlying9 hi hz0 hz1 hz2 _ _ _ rfl hown1 s rfl (by unfold maxLen; omega) (by omega) (by omega) ?_)
  intro v' w2 hown' hgrow _
  have HB2 : Hid (Below B w w2) := HB.out.grown hgrow (by omega) HL.out
  have HO2 : Hid (w2.ownsRow B 5 1 v' (n + (encText s).length) (nums (bs ++ encText s))) := by
    rw [encText_len, encText, ← List.append_assoc, nums_append, strNums_cells, ← Nat.add_assoc]
    exact hown'
  clear hown' hgrow hown1
  go_wp2
  go_ret
  exact ⟨v', rfl, HO2.out, HB2.out⟩

theorem refText_any (s : ByteArray) (w : World) (hm : s.size ≤ 140737488355000) :
    Calls Tryz.prog 112 #[.string s] w fun e w' => ∃ v, e = .returned v ∧ w'.ownsRow w.heap.size 5 1 v (encText s).length (nums (encText s)) ∧ Below w.heap.size w w' := by
  obtain ⟨i0, hi, hz0, hz1, hz2⟩ := info_parts Tryz.info5
  have h10 := enc_le10 (x := s.size) (by omega)
  go_enter Tryz.func112, Tryz.ntmps112
  go_wp2_with fail
  refine (refUint_any s.size w (by omega) (by omega)).mono ?_
  rintro e w1 ⟨v1, rfl, hown1, hb1⟩
  rw [Int.toNat_natCast] at hown1
  have hs1 : w.heap.size ≤ w1.heap.size := hb1.size
  have HB : Hid (Below w.heap.size w w1) := hb1
  have HL : Hid (∀ k, v1.ownBlock = some k → w.heap.size ≤ k) := own_lt hown1
  clear hb1
  go_wp2_with (at_builtin; refine Lib.wpList_append_own_string _ rfl _ _ 66 9 rfl w.heap.size 5 i0 Tryz.underlying66 Tryz.underlying9 hi hz0 hz1 hz2 _ _ _ rfl hown1 s rfl (by unfold maxLen; omega) (by omega) (by omega) ?_)
  intro v' w2 hown' hgrow _
  have HB2 : Hid (Below w.heap.size w w2) := HB.out.grown hgrow (by omega) HL.out
  have HO2 : Hid (w2.ownsRow w.heap.size 5 1 v' (encText s).length (nums (encText s))) := by
    rw [encText_len, encText, nums_append, strNums_cells]
    exact hown'
  clear hown' hgrow hown1
  go_wp2
  go_ret
  exact ⟨v', rfl, HO2.out, HB2.out⟩
end Go.Proofs.YtfmnbehopdmahaaGreat
