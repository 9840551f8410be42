/-
  Maps whose elements are whatever values: what lies at a key, behind a store and a delete; the operations' laws for a walk. No function of the program is named here.
-/
import Derived.Maps.OwnSet
import Derived.Maps.RangeWalk
import Derived.Test.YthcpopigkbefhaaGreatBase
import Derived.RangeFuncBox
import Derived.Test.YthcpopigkbefhaaGreatRows
import Derived.ChangeSlices
import Derived.Lib.SmallJoins
import Derived.SizedLaws
import Derived.Laws.ResultCell
namespace Go.Proofs.YthcpopigkbefhaaGreat
open Go.RowKit Go.Maps
open Go.WideElems (rg rg_of rd_val)

/-- An element reads as itself. -/
def valR (v : Value) : Option (DataW Value × List MemPlace) := some (.held v, [])
/-- What lies at a key. -/
def look (D : DataW Value) (kl : Lit) : Option Value := match D.atKey kl .nil with
  | .held v => some v
  | _ => none
def AllHeld (D : DataW Value) : Prop := ∃ es, D = .map es ∧ ∀ p ∈ es, ∃ v, p.2 = .held v

theorem allHeld_of {w : World} {P : Program} {k : TypeId} {b n : Nat} {D : DataW Value} (h : w.ownsMap P k valR b n D) : AllHeld D := by
  obtain ⟨es, clock, _, F, _, rfl⟩ := h
  refine ⟨_, rfl, fun p hp => ?_⟩
  obtain ⟨x, hx, rfl⟩ := List.mem_map.1 (mem_sorted.1 hp)
  obtain ⟨y, hy⟩ := F.reads x hx
  obtain ⟨z, hz, hzd⟩ := rd_val hy
  rw [rg_of hy, hzd]
  unfold valR at hz
  cases hz
  exact ⟨_, rfl⟩

theorem find_held {es : List (Lit × DataW Value)} (h : ∀ p ∈ es, ∃ v, p.2 = .held v) (kl : Lit) : (es.find? (fun p => p.1.sameKey kl) = none) ∨ ∃ p v, es.find? (fun p => p.1.sameKey kl) = some p ∧ p.2 = .held v := by
  cases hf : es.find? (fun p => p.1.sameKey kl) with
  | none => exact .inl rfl
  | some p =>
    obtain ⟨v, hv⟩ := h p (List.mem_of_find?_eq_some hf)
    exact .inr ⟨p, v, rfl, hv⟩

theorem has_look {D : DataW Value} (h : AllHeld D) (kl : Lit) : Maps.has D kl = (look D kl).isSome := by
  obtain ⟨es, rfl, hh⟩ := h
  have e1 : Maps.has (.map es) kl = (es.find? (fun p => p.1.sameKey kl)).isSome := by
    rw [Maps.has_eq, Bool.eq_iff_iff, List.find?_isSome, List.any_eq_true]
  rw [e1]
  rcases find_held hh kl with hf | ⟨p, v, hf, hv⟩
  · simp [look, DataW.atKey, hf]
  · simp [look, DataW.atKey, hf, hv]

theorem at_look {D : DataW Value} (h : AllHeld D) (kl : Lit) (z : Value) : D.atKey kl (.held z) = .held ((look D kl).getD z) := by
  obtain ⟨es, rfl, hh⟩ := h
  rcases find_held hh kl with hf | ⟨p, v, hf, hv⟩
  · simp [look, DataW.atKey, hf]
  · simp [look, DataW.atKey, hf, hv]

theorem look_at {D : DataW Value} {kl : Lit} {v : Value} (h : ∀ zd, D.atKey kl zd = .held v) : look D kl = some v := by simp [look, h]
theorem look_put_same {D : DataW Value} (hD : IsMap D) {kl : Lit} (hk : WideAt.IsKeyLit kl) (v : Value) : look (D.put kl (.held v)) kl = some v := by
  unfold look
  rw [atKey_put_same hD hk]
theorem look_put_other {D : DataW Value} {kl kl' : Lit} (h : kl' ≠ kl) (d : DataW Value) : look (D.put kl d) kl' = look D kl' := by
  unfold look
  rw [atKey_put_other h]
theorem look_del_same {D : DataW Value} {kl : Lit} : look (D.del kl) kl = none := by
  unfold look
  rw [atKey_del_same]
theorem look_del_other {D : DataW Value} {kl kl' : Lit} (h : kl' ≠ kl) : look (D.del kl) kl' = look D kl' := by
  unfold look
  rw [atKey_del_other h]
theorem look_empty (kl : Lit) : look (.map []) kl = none := rfl

section
variable {P : Program} {w : World} {k e t : TypeId} {b n : Nat} {D : DataW Value}

theorem run_look (h : w.ownsMap P k valR b n D) (K : Keyed P k) (ht : P.underlying t = some (.map k e)) {z : Value} (hz : (zeroValue e).run P w = .ok z w) {key : Value} {kl : Lit} (hkey : keyOf P k key = some kl) :
    (Instr.lookup t (.map (some b)) key false).run P w = .ok ((look D kl).getD z) w := by
  obtain ⟨v, ps, hrun, hv⟩ := h.lookup K ht hz (zd := .held z) (zp := []) rfl hkey
  rw [at_look (allHeld_of h)] at hv
  unfold valR at hv
  simp at hv
  rw [hrun, hv.1]

theorem run_look_ok (h : w.ownsMap P k valR b n D) (K : Keyed P k) (ht : P.underlying t = some (.map k e)) {z : Value} (hz : (zeroValue e).run P w = .ok z w) {key : Value} {kl : Lit} (hkey : keyOf P k key = some kl) :
    (Instr.lookup t (.map (some b)) key true).run P w = .ok (.tuple #[(look D kl).getD z, .bool (look D kl).isSome]) w := by
  obtain ⟨v, ps, hrun, hv⟩ := h.look_ok K ht hz (zd := .held z) (zp := []) rfl hkey
  rw [at_look (allHeld_of h)] at hv
  unfold valR at hv
  simp at hv
  rw [hrun, hv.1, has_look (allHeld_of h)]
end

section
variable {P : Program} (w : World) {ops : Array Oper} {rest : List Oper} {o : Oper} {a : Act} {Q : Exit → Act → World → Prop}

/-- 'm[k]'. -/
theorem wpList_look (hg : o.guard = none) (m x : Operand) (t : TypeId) (hop : o.op = Op.lookup t m x false) (k e : TypeId) (K : Keyed P k) (ht : P.underlying t = some (.map k e)) (z : Value) (hz : (zeroValue e).run P w = .ok z w) (b n : Nat) (D : DataW Value)
    (hm : a.eval m = .map (some b)) (hown : w.ownsMap P k valR b n D) (key : Value) (kl : Lit) (hx : a.eval x = key) (hkey : keyOf P k key = some kl) (v : Value) (hv : (look D kl).getD z = v)
    (hK : wpList P ops Q rest (a.put o.dst v) w) : wpList P ops Q (o :: rest) a w := by
  refine wpList_plain hg fun K' hK' => ?_
  have hrun := run_look hown K ht hz hkey
  rw [hv] at hrun
  unfold Oper.wp
  simp [execOp, hop, hm, hx, hrun, Result.andThen]
  exact hK' _ _ hK

/-- 'v, ok := m[k]'. -/
theorem wpList_look_ok (hg : o.guard = none) (m x : Operand) (t : TypeId) (hop : o.op = Op.lookup t m x true) (k e : TypeId) (K : Keyed P k) (ht : P.underlying t = some (.map k e)) (z : Value) (hz : (zeroValue e).run P w = .ok z w) (b n : Nat) (D : DataW Value)
    (hm : a.eval m = .map (some b)) (hown : w.ownsMap P k valR b n D) (key : Value) (kl : Lit) (hx : a.eval x = key) (hkey : keyOf P k key = some kl) (v : Value) (ok : Bool) (hv : (look D kl).getD z = v) (hok : (look D kl).isSome = ok)
    (hK : wpList P ops Q rest (a.put o.dst (.tuple #[v, .bool ok])) w) : wpList P ops Q (o :: rest) a w := by
  refine wpList_plain hg fun K' hK' => ?_
  have hrun := run_look_ok hown K ht hz hkey
  rw [hv, hok] at hrun
  unfold Oper.wp
  simp [execOp, hop, hm, hx, hrun, Result.andThen]
  exact hK' _ _ hK
end
end Go.Proofs.YthcpopigkbefhaaGreat
/-
  Words on worlds for the walks over objects behind pointers: a block of cells ('Blk'), and what a call may have turned ('Turns': nothing but the blocks of F; new blocks may lie behind). No function of the program is named here.
-/
namespace Go.Proofs.YthcpopigkbefhaaGreat
open Go.RowKit

/-- Block B is an array of these cells. -/
def Blk (w : World) (B : Nat) (t : TypeId) (cs : List Value) : Prop := w.heap[B]? = some (.cells cs.toArray t (0, 0))
section
variable {w w' : World} {B C i : Nat} {t e : TypeId} {cs : List Value} {v : Value}
theorem Blk.lt (h : Blk w B t cs) : B < w.heap.size := (Array.getElem?_eq_some_iff.1 h).1
theorem Blk.cell (h : Blk w B t cs) (hi : cs[i]? = some v) : w.cell? ⟨B, i, none⟩ = some v := by
  have h' : w.heap[B]? = some (.cells cs.toArray t (0, 0)) := h
  simp [World.cell?, h', hi]
theorem Blk.frozen (h : Blk w B t cs) (i : Nat) : w.frozen? ⟨B, i, none⟩ = false := by
  have h' : w.heap[B]? = some (.cells cs.toArray t (0, 0)) := h
  simp [World.frozen?, h']
theorem Blk.new (w : World) (t : TypeId) (cs : List Value) : Blk (w.alloc (.cells cs.toArray t)) w.heap.size t cs := World.alloc_heap_new w _
theorem Blk.kept {row : Option Nat} (h : Blk w B t cs) (hg : w.grownBy w' row) (hne : some B ≠ row) : Blk w' B t cs := (hg.block B h.lt hne).trans h
theorem Blk.alloc (h : Blk w B t cs) (o : Obj) : Blk (w.alloc o) B t cs := h.kept (World.grownBy_alloc w o none) (by simp)
theorem Blk.other (h : Blk w B t cs) (hne : B ≠ C) (i : Nat) (v : Value) : Blk (w.setCell ⟨C, i, none⟩ v) B t cs := (RowKit.Below.heap_setCell _ _ _ _ hne).trans h
theorem Blk.set (h : Blk w B t cs) (i : Nat) (v : Value) : Blk (w.setCell ⟨B, i, none⟩ v) B t (cs.set i v) := by
  obtain ⟨hlt, hk⟩ := Array.getElem?_eq_some_iff.1 h
  show (w.heap.modify B _)[B]? = _
  rw [Array.getElem?_modify]
  simp [hlt, hk]
theorem Blk.drewN (h : Blk w B t cs) (q : Nat) : Blk (w.drewN q) B t cs := h
theorem Blk.drew (h : Blk w B t cs) : Blk w.drew B t cs := h
theorem Blk.below {K : Nat} (h : Blk w B t cs) (hb : Below K w w') (hK : B < K) : Blk w' B t cs := (hb.block B hK).trans h
theorem Blk.not_row (h : Blk w B t cs) (hte : t ≠ e) {base size k : Nat} {u : Value} {xs : List Value} (hr : w.ownsRow base e size u k xs) : some B ≠ u.ownBlock := by
  rcases hr.2 with ⟨rfl, _⟩ | ⟨g, cap, cur, rfl, _, hg, _⟩
  · simp [Value.ownBlock]
  · intro he
    have e1 : B = g := by simpa [Value.ownBlock] using he
    subst e1
    have h' : w.heap[B]? = some (.cells cs.toArray t (0, 0)) := h
    rw [h'] at hg
    simp at hg
    exact hte hg.2
theorem Blk.not_map (h : Blk w B t cs) {P : Program} {k : TypeId} {b n : Nat} {D : DataW Value} (hm : w.ownsMap P k valR b n D) : B ≠ b := by
  obtain ⟨es, clock, hb, _⟩ := hm
  rintro rfl
  have h' : w.heap[B]? = some (.cells cs.toArray t (0, 0)) := h
  rw [h'] at hb
  cases hb
theorem row_not_map {base size k n : Nat} {u : Value} {xs : List Value} (hr : w.ownsRow base e size u k xs) {P : Program} {kt : TypeId} {b : Nat} {D : DataW Value} (hm : w.ownsMap P kt valR b n D) : some b ≠ u.ownBlock := by
  obtain ⟨es, clock, hb, _⟩ := hm
  rcases hr.2 with ⟨rfl, _⟩ | ⟨g, cap, cur, rfl, _, hg, _⟩
  · simp [Value.ownBlock]
  · intro he
    have e1 : b = g := by simpa [Value.ownBlock] using he
    subst e1
    rw [hb] at hg
    cases hg
end

/-- Nothing but the blocks of F has turned; new blocks may lie behind. -/
structure Turns (F : Nat → Prop) (w w' : World) : Prop where
  os : w'.os = w.os
  tape : w'.tape = w.tape
  output : w'.output = w.output
  size : w.heap.size ≤ w'.heap.size
  block : ∀ k, k < w.heap.size → ¬ F k → w'.heap[k]? = w.heap[k]?
section
variable {F G : Nat → Prop} {a b c : World}
theorem Turns.refl (F : Nat → Prop) (w : World) : Turns F w w := ⟨rfl, rfl, rfl, Nat.le_refl _, fun _ _ _ => rfl⟩
theorem Turns.trans (h : Turns F a b) (k : Turns G b c) (hG : ∀ i, G i → F i ∨ a.heap.size ≤ i) : Turns F a c :=
  ⟨k.os.trans h.os, k.tape.trans h.tape, k.output.trans h.output, Nat.le_trans h.size k.size, fun i hi hn => (k.block i (Nat.lt_of_lt_of_le hi h.size) (fun hg => by
    rcases hG i hg with h1 | h1
    · exact hn h1
    · omega)).trans (h.block i hi hn)⟩
theorem Turns.mono (h : Turns F a b) (hF : ∀ i, F i → G i) : Turns G a b := ⟨h.os, h.tape, h.output, h.size, fun k hk hn => h.block k hk (fun hf => hn (hF k hf))⟩
theorem Turns.of_grown {row : Option Nat} (h : a.grownBy b row) (hF : ∀ k, row = some k → F k) : Turns F a b := ⟨h.os, h.tape, h.output, h.size, fun k hk hn => h.block k hk (fun e => hn (hF k e.symm))⟩
theorem Turns.grown {row : Option Nat} (h : Turns F a b) (k : b.grownBy c row) (hF : ∀ k, row = some k → F k ∨ a.heap.size ≤ k) : Turns F a c := h.trans (Turns.of_grown (F := fun i => row = some i) k (fun _ h => h)) hF
theorem Turns.alloc (h : Turns F a b) (o : Obj) : Turns F a (b.alloc o) := h.grown (World.grownBy_alloc b o none) (fun _ h => by cases h)
theorem Turns.setCell (h : Turns F a b) {p : Addr} (hp : F p.block ∨ a.heap.size ≤ p.block) (u : Value) : Turns F a (b.setCell p u) :=
  h.trans (G := fun i => i = p.block) ⟨rfl, rfl, rfl, by simp, fun k _ hn => RowKit.Below.heap_setCell _ _ _ _ hn⟩ (fun i hi => by subst hi; exact hp)
theorem Turns.drew (h : Turns F a b) : Turns F a b.drew := ⟨h.os, h.tape, h.output, h.size, h.block⟩
theorem Turns.drewN (h : Turns F a b) (q : Nat) : Turns F a (b.drewN q) := ⟨h.os, h.tape, h.output, h.size, h.block⟩
theorem Turns.of_below {B : Nat} (h : Below B a b) (hB : a.heap.size ≤ B) : Turns F a b := ⟨h.os, h.tape, h.output, h.size, fun k hk _ => h.block k (Nat.lt_of_lt_of_le hk hB)⟩
theorem Turns.below {B : Nat} (h : Turns F a b) (hF : ∀ i, F i → B ≤ i) (hB : B ≤ a.heap.size) : Below B a b := ⟨h.os, h.tape, h.output, h.size, fun k hk => h.block k (Nat.lt_of_lt_of_le hk hB) (fun hf => by have := hF k hf; omega)⟩
theorem Turns.keeps (h : Turns F a b) {k : Nat} (hk : k < a.heap.size) (hn : ¬ F k) : b.heap[k]? = a.heap[k]? := h.block k hk hn
theorem Turns.blk (h : Turns F a b) {B : Nat} {t : TypeId} {cs : List Value} (hb : Blk a B t cs) (hn : ¬ F B) : Blk b B t cs := (h.block B hb.lt hn).trans hb
theorem Turns.map (h : Turns F a b) {P : Program} {k : TypeId} {m n : Nat} {D : DataW Value} (hm : a.ownsMap P k valR m n D) (hn : ¬ F m) : b.ownsMap P k valR m n D := by
  have hlt := hm.lt
  obtain ⟨es, clock, hb, r⟩ := hm
  exact ⟨es, clock, (h.block m hlt hn).trans hb, r⟩
theorem Turns.row (h : Turns F a b) {base size k : Nat} {e : TypeId} {u : Value} {xs : List Value} (hr : a.ownsRow base e size u k xs) (hn : ∀ g, u.ownBlock = some g → ¬ F g) : b.ownsRow base e size u k xs := by
  refine ⟨hr.1, ?_⟩
  rcases hr.2 with h0 | ⟨g, cap, cur, rfl, hbg, hg, r⟩
  · exact .inl h0
  · exact .inr ⟨g, cap, cur, rfl, hbg, (h.block g (Array.getElem?_eq_some_iff.1 hg).1 (hn g rfl)).trans hg, r⟩
end

theorem ownsRow_lt {w : World} {base size k : Nat} {e : TypeId} {u : Value} {xs : List Value} (hr : w.ownsRow base e size u k xs) {g : Nat} (hg : u.ownBlock = some g) : g < w.heap.size := (hr.lt g hg).2
end Go.Proofs.YthcpopigkbefhaaGreat
/-
  Slices of ints: what they hold ('HeldInt', 'HV'), how an argument of type []int is read, what append([]int{}, x...) and append(out, n) make. No function of the program is named here.
-/
namespace Go.Proofs.YthcpopigkbefhaaGreat
open Go.RowKit Go.ChangeShapes Go.WideShapes Go.Deep Go.Maps

theorem ret_int {k : IntKind} {a b : Int} (h : a = b) : Ending.returned (.int k a) = .returned (.int k b) := by rw [h]
theorem wrapS {x : Int} (h0 : -9223372036854775808 ≤ x) (h1 : x ≤ 9223372036854775807) : wrap64 x = x := by
  unfold wrap64
  omega
/-- A slice of ints holds xs. -/
def HeldInt (w : World) (ao : Option Addr) (xs : List Int) : Prop :=
  (∀ x ∈ xs, -9223372036854775808 ≤ x ∧ x ≤ 9223372036854775807) ∧ (xs = [] ∨ ∃ b off, ao = some ⟨b, off, none⟩ ∧ b < w.heap.size ∧ ∀ j, j < xs.length → w.cell? ⟨b, off + j, none⟩ = some (.int .i64 (xs.getD j 0)))
/-- A vector in memory. -/
structure HV (w : World) (ao : Option Addr) (cap : Nat) (xs : List Int) : Prop where
  held : HeldInt w ao xs
  room : xs.length ≤ cap
  few : xs.length ≤ 17592186044416

theorem plain_addr {w : World} {a : Addr} {v : Value} (h : w.cell? (a.add 0) = some v) : ∃ b off, a = ⟨b, off, none⟩ ∧ b < w.heap.size := by
  obtain ⟨b, off, spot⟩ := a
  have hspot : spot = none := by simpa [Addr.add] using World.cell?_spot h
  subst hspot
  have hlt := World.block_lt_of_cell? w _ h
  exact ⟨b, off, rfl, by simpa [Addr.add] using hlt⟩

theorem open_nums {H : Type} {enc : TypeId × Value → H} {w : World} {base : Nat} {held : Bool} {ao : Option Addr} {len cap : Nat} {d : DataW H} {p : List MemPlace} (h : DataW.Trod enc Tryz.prog w base (fun _ => true) held 30 (.slice ao len cap) d p) :
    ∃ xs, xs.length = len ∧ (HeldInt w ao xs ∧ len ≤ cap) ∧ (len = 0 ∨ ∃ es sp, d = .slice es sp ∧ es.length = len) := by
  obtain ⟨fuel, hf⟩ := h
  rcases open_ints Tryz.underlying30 Tryz.underlying3 (by kernel_rfl) hf with ⟨hcs, _⟩ | ⟨x, l, c, zs, hcs, _, hl, hm, hz, hx, hcell, hwz⟩
  · simp [Value.cells] at hcs
    obtain ⟨rfl, rfl, rfl⟩ := hcs
    exact ⟨[], rfl, ⟨⟨fun s hs => (by cases hs), .inl rfl⟩, Nat.le_refl _⟩, .inl rfl⟩
  · simp [Value.cells] at hcs
    obtain ⟨rfl, rfl, rfl⟩ := hcs
    have hz' : zs.length = cap := by simpa using hz
    refine ⟨zs.take len, by simp; omega, ⟨⟨fun s hs => ?_, ?_⟩, hl⟩, ?_⟩
    · have := hwz s (List.mem_of_mem_take hs)
      simp [Lit.wf, IntKind.min, IntKind.max, IntKind.signed, IntKind.bits] at this
      omega
    · by_cases h0 : len = 0
      · left
        simp [h0]
      · right
        obtain ⟨b, off, rfl, hb⟩ := plain_addr (hcell 0 (by omega))
        refine ⟨b, off, rfl, hb, fun j hj => ?_⟩
        simp at hj
        have := hcell j (by omega)
        rw [Addr.add_lit] at this
        rw [this]
        simp [List.getD, List.getElem?_take_of_lt (show j < len by omega)]
    · simp only [Prod.mk.injEq] at hx
      right
      exact ⟨_, _, hx.1, by simp [lits]; omega⟩

theorem HeldInt.cellAt {w : World} {ao : Option Addr} {xs : List Int} (h : HeldInt w ao xs) {k : Nat} (hk : k < xs.length) : ∃ b off, ao = some ⟨b, off, none⟩ ∧ ∀ j, j < xs.length → w.cell? ⟨b, off + j, none⟩ = some (.int .i64 (xs.getD j 0)) := by
  rcases h.2 with h0 | ⟨b, off, h1, _, h2⟩
  · rw [h0] at hk; cases hk
  · exact ⟨b, off, h1, h2⟩
theorem getD_mem {xs : List Int} {k : Nat} (hk : k < xs.length) : xs.getD k 0 ∈ xs := by
  simp [List.getD, List.getElem?_eq_getElem hk]
theorem HeldInt.rng {w : World} {ao : Option Addr} {xs : List Int} (h : HeldInt w ao xs) (k : Nat) : -9223372036854775808 ≤ xs.getD k 0 ∧ xs.getD k 0 ≤ 9223372036854775807 := by
  by_cases hk : k < xs.length
  · exact h.1 _ (getD_mem hk)
  · simp [List.getD, List.getElem?_eq_none (by omega : xs.length ≤ k)]
def ints (xs : List Int) : List Value := xs.map (Value.int .i64)
theorem ints_len (xs : List Int) : (ints xs).length = xs.length := by simp [ints]
theorem ints_one (xs : List Int) : ∀ u ∈ ints xs, u.oneCell' = true := by
  intro u hu
  obtain ⟨_, _, rfl⟩ := List.mem_map.1 hu
  rfl
theorem ints_set (xs : List Int) (l : List Value) (k : Nat) (v : Int) (hk : k < xs.length) : (ints xs ++ l).set k (.int .i64 v) = ints (xs.set k v) ++ l := by
  rw [List.set_append, if_pos (by rw [ints_len]; exact hk)]
  simp [ints, List.map_set]
theorem ints_get {xs : List Int} {j : Nat} (h : j < xs.length) : (ints xs)[j]? = some (.int .i64 (xs.getD j 0)) := by
  simp [ints, List.getD, List.getElem?_eq_getElem h]
theorem HeldInt.turned {F : Nat → Prop} {w w' : World} {ao : Option Addr} {xs : List Int} (h : HeldInt w ao xs) (ht : Turns F w w') (hF : ∀ b off, ao = some ⟨b, off, none⟩ → xs ≠ [] → ¬ F b) : HeldInt w' ao xs := by
  refine ⟨h.1, ?_⟩
  rcases h.2 with h0 | ⟨b, off, rfl, hb, hc⟩
  · exact .inl h0
  · by_cases h0 : xs = []
    · exact .inl h0
    · refine .inr ⟨b, off, rfl, Nat.lt_of_lt_of_le hb ht.size, fun j hj => ?_⟩
      have := hc j hj
      have hbk := ht.block b hb (hF b off rfl h0)
      simp only [World.cell?] at this ⊢
      rw [hbk]
      exact this
theorem HeldInt.below {w w' : World} {ao : Option Addr} {xs : List Int} (h : HeldInt w ao xs) (hb : Below w.heap.size w w') : HeldInt w' ao xs :=
  h.turned (F := fun _ => False) (Turns.of_below hb (Nat.le_refl _)) (fun _ _ _ _ h => h)
theorem HV.below {w w' : World} {ao : Option Addr} {cap : Nat} {xs : List Int} (h : HV w ao cap xs) (hb : Below w.heap.size w w') : HV w' ao cap xs := ⟨h.held.below hb, h.room, h.few⟩
theorem HV.dn {w : World} {ao : Option Addr} {cap : Nat} {xs : List Int} (h : HV w ao cap xs) (q : Nat) : HV (w.drewN q) ao cap xs := h.below (below_dn (Below.refl _ _) q)
theorem HeldInt.take {w : World} {ao : Option Addr} {xs : List Int} (h : HeldInt w ao xs) (n : Nat) : HeldInt w ao (xs.take n) := by
  refine ⟨fun x hx => h.1 x (List.mem_of_mem_take hx), ?_⟩
  rcases h.2 with rfl | ⟨b, off, h1, h2, hc⟩
  · left; simp
  · right
    refine ⟨b, off, h1, h2, fun j hj => ?_⟩
    simp at hj
    rw [hc j (by omega)]
    simp [List.getD, List.getElem?_take_of_lt (show j < n by omega)]
theorem HeldInt.new (w : World) (xs : List Int) (hx : ∀ x ∈ xs, -9223372036854775808 ≤ x ∧ x ≤ 9223372036854775807) : HeldInt (w.alloc (.cells (ints xs).toArray 3)) (some ⟨w.heap.size, 0, none⟩) xs := by
  refine ⟨hx, .inr ⟨_, 0, rfl, by simp, fun j hj => ?_⟩⟩
  refine (Blk.new w 3 (ints xs)).cell (i := 0 + j) ?_
  simp [ints, List.getD, List.getElem?_eq_getElem hj]
theorem Blk.heldInt {w : World} {b : Nat} {xs : List Int} {rest : List Value} (h : Blk w b 3 (ints xs ++ rest)) (hx : ∀ x ∈ xs, -9223372036854775808 ≤ x ∧ x ≤ 9223372036854775807) : HeldInt w (some ⟨b, 0, none⟩) xs := by
  refine ⟨hx, .inr ⟨b, 0, rfl, h.lt, fun j hj => h.cell ?_⟩⟩
  rw [Nat.zero_add, List.getElem?_append_left (by rw [ints_len]; exact hj), ints_get hj]
theorem HeldInt.news {w : World} {b off : Nat} {xs : List Int} (h : HeldInt w (some ⟨b, off, none⟩) xs) : ∀ j u, (ints xs)[j]? = some u → w.cell? ((⟨b, off, none⟩ : Addr).add j) = some u := by
  intro j u hu
  have hj : j < xs.length := by
    have := (List.getElem?_eq_some_iff.1 hu).1
    simpa [ints] using this
  rcases h.2 with h0 | ⟨b', off', e, _, hc⟩
  · rw [h0] at hj; cases hj
  · cases e
    rw [Addr.add_lit, hc j hj]
    simp [ints, List.getElem?_eq_getElem hj] at hu
    subst hu
    simp [List.getD, List.getElem?_eq_getElem hj]
theorem own_form' {w : World} {B e n : Nat} {v : Value} {xs : List Value} (h : w.ownsRow B e 1 v n xs) :
    ∃ eo cap, v = .slice eo n cap ∧ n ≤ cap ∧ (0 < n → ∃ g, eo = some ⟨g, 0, none⟩ ∧ B ≤ g ∧ g < w.heap.size ∧ ∀ j u, xs[j]? = some u → w.cell? ⟨g, j, none⟩ = some u) := by
  rcases h.2 with ⟨rfl, rfl⟩ | ⟨g, cap, cur, rfl, hbg, hg, hnc, _⟩
  · exact ⟨none, 0, rfl, Nat.le_refl _, fun h0 => by omega⟩
  · refine ⟨some ⟨g, 0, none⟩, cap, rfl, hnc, fun _ => ⟨g, rfl, hbg, (Array.getElem?_eq_some_iff.1 hg).1, fun j u hu => ?_⟩⟩
    have := h.cells (g := g) rfl j u hu
    simpa [Addr.add_lit] using this
theorem own_blk {w : World} {B n : Nat} {v : Value} {xs : List Int} (h : w.ownsRow B 3 1 v n (ints xs)) (hn : 0 < n) : ∃ g cap rest, v = .slice (some ⟨g, 0, none⟩) n cap ∧ Blk w g 3 (ints xs ++ rest) ∧ B ≤ g := by
  rcases h.2 with ⟨_, h0⟩ | ⟨g, cap, cur, rfl, hbg, hg, hnc, hcm, hcs, htake⟩
  · omega
  · refine ⟨g, cap, cur.toList.drop (ints xs).length, rfl, ?_, hbg⟩
    have he : ints xs ++ cur.toList.drop (ints xs).length = cur.toList := by
      have h1 : cur.toList.take (n * 1) = ints xs := htake
      have h2 : (ints xs).length = n * 1 := h.1
      rw [h2, ← h1, List.take_append_drop]
    unfold Blk
    rw [he]
    exact hg
/-- What an owned row of ints holds. -/
theorem hv_of_own {w : World} {B : Nat} {v : Value} {xs : List Int} (h : w.ownsRow B 3 1 v xs.length (ints xs)) (hx : ∀ x ∈ xs, -9223372036854775808 ≤ x ∧ x ≤ 9223372036854775807) (hf : xs.length ≤ 17592186044416) : ∃ ao cap, v = .slice ao xs.length cap ∧ HV w ao cap xs := by
  obtain ⟨eo, cap, rfl, hnc, hc⟩ := own_form' h
  refine ⟨eo, cap, rfl, ⟨hx, ?_⟩, hnc, hf⟩
  by_cases h0 : xs = []
  · exact .inl h0
  · obtain ⟨g, rfl, _, hg, hcell⟩ := hc (List.length_pos_iff.2 h0)
    refine .inr ⟨g, 0, rfl, hg, fun j hj => ?_⟩
    rw [Nat.zero_add]
    exact hcell j _ (ints_get hj)
theorem ownI_made (w : World) (B : Nat) (hB : B ≤ w.heap.size) : (w.alloc (.cells #[] 3)).ownsRow B 3 1 (.slice (some ⟨w.heap.size, 0, none⟩) 0 0) 0 (ints []) :=
  ⟨rfl, .inr ⟨w.heap.size, 0, #[], rfl, hB, World.alloc_heap_new w _, Nat.le_refl _, Nat.zero_le _, rfl, rfl⟩⟩
theorem ownI_nil (w : World) (B : Nat) : w.ownsRow B 3 1 (.slice none 0 0) 0 (ints []) := ⟨rfl, .inl ⟨rfl, rfl⟩⟩
theorem Tryz.infoInt : (Tryz.prog.info? 3).map (fun i => (i.zero, i.size, i.bytes)) = some (some (.int .i64 0), 1, 8) := by kernel_rfl

theorem run_append_noneI {P : Program} (w : World) (base : Nat) (t ty e : TypeId) (i : TypeInfo) (size : Nat) (ht : P.underlying t = some (.slice e)) (hi : P.info? e = some i)
    (v : Value) (n c : Nat) (xs : List Value) (hown : w.ownsRow base e size v n xs) : (Builtin.append_ #[t, t] ty #[v, .slice none 0 c]).run P w = .ok v w := by
  rcases hown.2 with ⟨rfl, rfl⟩ | ⟨g, cap, cur, rfl, _, _, hnc, _⟩
  · simp [Builtin.append_, run_underlying ht, sizeOf, typeInfo, hi, Builtin.lenOf, Builtin.firstCells]
  · simp [Builtin.append_, run_underlying ht, sizeOf, typeInfo, hi, Builtin.lenOf, Builtin.firstCells, hnc, storeCells]

/-- append([]int{}, x...): a new row that holds x's numbers. -/
theorem wpList_append_copy {ops : Array Oper} {rest : List Oper} {o : Oper} {a : Act} {Q : Exit → Act → World → Prop} (W : World) (hgd : o.guard = none) (s x : Operand)
    (ho : o.op = .call { callee := .builtin .append, args := #[s, x], argTypes := #[30, 30] })
    (hs : a.eval s = .slice (some ⟨W.heap.size, 0, none⟩) 0 0) (ao : Option Addr) (c : Nat) (xs : List Int) (n : Nat) (hn : xs.length = n) (hx : a.eval x = .slice ao n c) (hh : HeldInt W ao xs) (hl : xs.length ≤ 17592186044416)
    (h : ∀ bo cp w', w'.ownsRow W.heap.size 3 1 (.slice bo n cp) n (ints xs) → HV w' bo cp xs → Below W.heap.size W w' → wpList Tryz.prog ops Q rest (a.put o.dst (.slice bo n cp)) w') :
    wpList Tryz.prog ops Q (o :: rest) a (W.alloc (.cells #[] 3)) := by
  subst hn
  obtain ⟨iI, hj, hy0, hy1, hy2⟩ := info_parts Tryz.infoInt
  have hbel : Below W.heap.size W (W.alloc (.cells #[] 3)) := (Below.refl _ _).alloc (Nat.le_refl _) _
  have fin : ∀ (v' : Value) (w' : World), w'.ownsRow W.heap.size 3 1 v' xs.length (ints xs) → Below W.heap.size W w' → wpList Tryz.prog ops Q rest (a.put o.dst v') w' := by
    intro v' w' hown hb
    obtain ⟨eo, cap, rfl, hv⟩ := hv_of_own hown hh.1 hl
    exact h eo cap w' hown hv hb
  cases ao with
  | none =>
    have hx0 : xs = [] := by
      rcases hh.2 with h0 | ⟨b, off, e, _⟩
      · exact h0
      · cases e
    subst hx0
    refine wpList_plain hgd fun K hK => ?_
    have hr := run_append_noneI (P := Tryz.prog) (W.alloc (.cells #[] 3)) W.heap.size 30 o.type 3 iI 1 Tryz.underlying30 hj _ 0 c _ (ownI_made W W.heap.size (Nat.le_refl _))
    unfold Oper.wp execOp
    simp only [ho, resolve, invoke, builtin, Sem.run_bind, Sem.run_pure, Result.andThen_ok, List.map_toArray, List.map_cons, List.map_nil, hs, hx, List.length_nil, hr]
    exact hK _ _ (fin _ _ (ownI_made W W.heap.size (Nat.le_refl _)) hbel)
  | some ad =>
    have hnews : ∀ j u, (ints xs)[j]? = some u → (W.alloc (.cells #[] 3)).cell? (ad.add j) = some u := by
      intro j u hu
      rcases hh.2 with h0 | ⟨b, off, e, _⟩
      · subst h0
        simp [ints] at hu
      · cases e
        exact (hh.below hbel).news j u hu
    refine wpList_append_own_at _ hgd s x 30 ho W.heap.size 3 iI (.int .i64 0) 1 8 Tryz.underlying30 hj hy0 hy1 hy2 rfl (by decide) _ 0 (ints []) hs (ownI_made W W.heap.size (Nat.le_refl _)) ad xs.length c (ints xs) hx (by rw [ints_len]; omega) hnews (ints_one xs) (by unfold maxLen; omega) (by omega) (by simp) ?_
    intro v' w' hown hgrow _ _
    refine fin v' w' (by simpa [ints] using hown) (hbel.grown hgrow (by simp) (fun k e => ?_))
    cases e
    exact Nat.le_refl _

theorem own_lt {w : World} {B e size n : Nat} {v : Value} {xs : List Value} (h : w.ownsRow B e size v n xs) : ∀ k, v.ownBlock = some k → B ≤ k := fun k hk => (h.lt k hk).1
/-- append(out, n) of an owned row. -/
theorem wpList_append_one {ops : Array Oper} {rest : List Oper} {o : Oper} {a : Act} {Q : Exit → Act → World → Prop} (W0 W : World) (c : Int) (hW : W = W0.alloc (.cells #[.int .i64 c] 3)) (hgd : o.guard = none) (s x : Operand)
    (ho : o.op = .call { callee := .builtin .append, args := #[s, x], argTypes := #[30, 30] }) (B : Nat) (v : Value) (xs : List Int)
    (hs : a.eval s = v) (hx : a.eval x = .slice (some ⟨W0.heap.size, 0, none⟩) 1 1) (hown : W0.ownsRow B 3 1 v xs.length (ints xs)) (hB : B ≤ W0.heap.size) (hl : xs.length < 17592186044416)
    (h : ∀ v' w', w'.ownsRow B 3 1 v' (xs ++ [c]).length (ints (xs ++ [c])) → Below B W0 w' → wpList Tryz.prog ops Q rest (a.put o.dst v') w') :
    wpList Tryz.prog ops Q (o :: rest) a W := by
  subst hW
  obtain ⟨iI, hj, hy0, hy1, hy2⟩ := info_parts Tryz.infoInt
  have hn := Blk.new W0 3 [.int .i64 c]
  refine wpList_append_own_at _ hgd s x 30 ho B 3 iI (.int .i64 0) 1 8 Tryz.underlying30 hj hy0 hy1 hy2 rfl (by decide) v xs.length (ints xs) hs (hown.alloc _) ⟨W0.heap.size, 0, none⟩ 1 1 [.int .i64 c] hx rfl (fun j u hu => ?_) (one_int _ _) (by unfold maxLen; omega) (by omega) (by simp; omega) ?_
  · rw [Addr.add_lit, Nat.zero_add]
    exact hn.cell hu
  · intro v' w' hown' hgrow _ _
    refine h v' w' (by simpa [ints] using hown') (((Below.refl _ _).alloc hB _).grown hgrow (by simp; omega) (own_lt hown))
end Go.Proofs.YthcpopigkbefhaaGreat
