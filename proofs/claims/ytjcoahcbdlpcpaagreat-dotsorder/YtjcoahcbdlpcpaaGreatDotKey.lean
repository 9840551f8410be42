/-
  Words on worlds for the walks over objects behind pointers: a block of cells ('Blk'), and what a call may have turned ('Turns': nothing but the blocks of F; new blocks may lie behind). No function of the program is named here.
-/
import Derived.Test.YtjcoahcbdlpcpaaGreatBase
import Derived.Test.YtjcoahcbdlpcpaaGreatMaps
import Derived.RangeFuncBox
import Derived.Test.YtjcoahcbdlpcpaaGreatRows
import Derived.DeepKeys4
namespace Go.Proofs.YtjcoahcbdlpcpaaGreat
open Go.RowKit

/-- Block B is an array of these cells. -/
def Blk (w : World) (B : Nat) (t : TypeId) (cs : List Value) : Prop := w.heap[B]? = some (.cells cs.toArray t (0, 0))
section
variable {w w' : World} {B C i : Nat} {t e : TypeId} {cs : List Value} {v : Value}
theorem Blk.lt (h : Blk w B t cs) : B < w.heap.size := (Array.getElem?_eq_some_iff.1 h).1
theorem Blk.cell (h : Blk w B t cs) (hi : cs[i]? = some v) : w.cell? ⟨B, i, none⟩ = some v := by
  have h' : w.heap[B]? = some (.cells cs.toArray t (0, 0)) := h
  simp [World.cell?, h', hi]
theorem Blk.frozen (h : Blk w B t cs) (i : Nat) : w.frozen? ⟨B, i, none⟩ = false := by
  have h' : w.heap[B]? = some (.cells cs.toArray t (0, 0)) := h
  simp [World.frozen?, h']
theorem Blk.new (w : World) (t : TypeId) (cs : List Value) : Blk (w.alloc (.cells cs.toArray t)) w.heap.size t cs := World.alloc_heap_new w _
theorem Blk.kept {row : Option Nat} (h : Blk w B t cs) (hg : w.grownBy w' row) (hne : some B ≠ row) : Blk w' B t cs := (hg.block B h.lt hne).trans h
theorem Blk.alloc (h : Blk w B t cs) (o : Obj) : Blk (w.alloc o) B t cs := h.kept (World.grownBy_alloc w o none) (by simp)
theorem Blk.other (h : Blk w B t cs) (hne : B ≠ C) (i : Nat) (v : Value) : Blk (w.setCell ⟨C, i, none⟩ v) B t cs := (RowKit.Below.heap_setCell _ _ _ _ hne).trans h
theorem Blk.set (h : Blk w B t cs) (i : Nat) (v : Value) : Blk (w.setCell ⟨B, i, none⟩ v) B t (cs.set i v) := by
  obtain ⟨hlt, hk⟩ := Array.getElem?_eq_some_iff.1 h
  show (w.heap.modify B _)[B]? = _
  rw [Array.getElem?_modify]
  simp [hlt, hk]
theorem Blk.drewN (h : Blk w B t cs) (q : Nat) : Blk (w.drewN q) B t cs := h
theorem Blk.drew (h : Blk w B t cs) : Blk w.drew B t cs := h
theorem Blk.below {K : Nat} (h : Blk w B t cs) (hb : Below K w w') (hK : B < K) : Blk w' B t cs := (hb.block B hK).trans h
theorem Blk.not_row (h : Blk w B t cs) (hte : t ≠ e) {base size k : Nat} {u : Value} {xs : List Value} (hr : w.ownsRow base e size u k xs) : some B ≠ u.ownBlock := by
  rcases hr.2 with ⟨rfl, _⟩ | ⟨g, cap, cur, rfl, _, hg, _⟩
  · simp [Value.ownBlock]
  · intro he
    have e1 : B = g := by simpa [Value.ownBlock] using he
    subst e1
    have h' : w.heap[B]? = some (.cells cs.toArray t (0, 0)) := h
    rw [h'] at hg
    simp at hg
    exact hte hg.2
theorem Blk.not_map (h : Blk w B t cs) {P : Program} {k : TypeId} {b n : Nat} {D : DataW Value} (hm : w.ownsMap P k valR b n D) : B ≠ b := by
  obtain ⟨es, clock, hb, _⟩ := hm
  rintro rfl
  have h' : w.heap[B]? = some (.cells cs.toArray t (0, 0)) := h
  rw [h'] at hb
  cases hb
theorem row_not_map {base size k n : Nat} {u : Value} {xs : List Value} (hr : w.ownsRow base e size u k xs) {P : Program} {kt : TypeId} {b : Nat} {D : DataW Value} (hm : w.ownsMap P kt valR b n D) : some b ≠ u.ownBlock := by
  obtain ⟨es, clock, hb, _⟩ := hm
  rcases hr.2 with ⟨rfl, _⟩ | ⟨g, cap, cur, rfl, _, hg, _⟩
  · simp [Value.ownBlock]
  · intro he
    have e1 : b = g := by simpa [Value.ownBlock] using he
    subst e1
    rw [hb] at hg
    cases hg
end

/-- Nothing but the blocks of F has turned; new blocks may lie behind. -/
structure Turns (F : Nat → Prop) (w w' : World) : Prop where
  os : w'.os = w.os
  tape : w'.tape = w.tape
  output : w'.output = w.output
  size : w.heap.size ≤ w'.heap.size
  block : ∀ k, k < w.heap.size → ¬ F k → w'.heap[k]? = w.heap[k]?
section
variable {F G : Nat → Prop} {a b c : World}
theorem Turns.refl (F : Nat → Prop) (w : World) : Turns F w w := ⟨rfl, rfl, rfl, Nat.le_refl _, fun _ _ _ => rfl⟩
theorem Turns.trans (h : Turns F a b) (k : Turns G b c) (hG : ∀ i, G i → F i ∨ a.heap.size ≤ i) : Turns F a c :=
  ⟨k.os.trans h.os, k.tape.trans h.tape, k.output.trans h.output, Nat.le_trans h.size k.size, fun i hi hn => (k.block i (Nat.lt_of_lt_of_le hi h.size) (fun hg => by
    rcases hG i hg with h1 | h1
    · exact hn h1
    · omega)).trans (h.block i hi hn)⟩
theorem Turns.mono (h : Turns F a b) (hF : ∀ i, F i → G i) : Turns G a b := ⟨h.os, h.tape, h.output, h.size, fun k hk hn => h.block k hk (fun hf => hn (hF k hf))⟩
theorem Turns.of_grown {row : Option Nat} (h : a.grownBy b row) (hF : ∀ k, row = some k → F k) : Turns F a b := ⟨h.os, h.tape, h.output, h.size, fun k hk hn => h.block k hk (fun e => hn (hF k e.symm))⟩
theorem Turns.grown {row : Option Nat} (h : Turns F a b) (k : b.grownBy c row) (hF : ∀ k, row = some k → F k ∨ a.heap.size ≤ k) : Turns F a c := h.trans (Turns.of_grown (F := fun i => row = some i) k (fun _ h => h)) hF
theorem Turns.alloc (h : Turns F a b) (o : Obj) : Turns F a (b.alloc o) := h.grown (World.grownBy_alloc b o none) (fun _ h => by cases h)
theorem Turns.setCell (h : Turns F a b) {p : Addr} (hp : F p.block ∨ a.heap.size ≤ p.block) (u : Value) : Turns F a (b.setCell p u) :=
  h.trans (G := fun i => i = p.block) ⟨rfl, rfl, rfl, by simp, fun k _ hn => RowKit.Below.heap_setCell _ _ _ _ hn⟩ (fun i hi => by subst hi; exact hp)
theorem Turns.drew (h : Turns F a b) : Turns F a b.drew := ⟨h.os, h.tape, h.output, h.size, h.block⟩
theorem Turns.drewN (h : Turns F a b) (q : Nat) : Turns F a (b.drewN q) := ⟨h.os, h.tape, h.output, h.size, h.block⟩
theorem Turns.of_below {B : Nat} (h : Below B a b) (hB : a.heap.size ≤ B) : Turns F a b := ⟨h.os, h.tape, h.output, h.size, fun k hk _ => h.block k (Nat.lt_of_lt_of_le hk hB)⟩
theorem Turns.below {B : Nat} (h : Turns F a b) (hF : ∀ i, F i → B ≤ i) (hB : B ≤ a.heap.size) : Below B a b := ⟨h.os, h.tape, h.output, h.size, fun k hk => h.block k (Nat.lt_of_lt_of_le hk hB) (fun hf => by have := hF k hf; omega)⟩
theorem Turns.keeps (h : Turns F a b) {k : Nat} (hk : k < a.heap.size) (hn : ¬ F k) : b.heap[k]? = a.heap[k]? := h.block k hk hn
theorem Turns.blk (h : Turns F a b) {B : Nat} {t : TypeId} {cs : List Value} (hb : Blk a B t cs) (hn : ¬ F B) : Blk b B t cs := (h.block B hb.lt hn).trans hb
theorem Turns.map (h : Turns F a b) {P : Program} {k : TypeId} {m n : Nat} {D : DataW Value} (hm : a.ownsMap P k valR m n D) (hn : ¬ F m) : b.ownsMap P k valR m n D := by
  have hlt := hm.lt
  obtain ⟨es, clock, hb, r⟩ := hm
  exact ⟨es, clock, (h.block m hlt hn).trans hb, r⟩
theorem Turns.row (h : Turns F a b) {base size k : Nat} {e : TypeId} {u : Value} {xs : List Value} (hr : a.ownsRow base e size u k xs) (hn : ∀ g, u.ownBlock = some g → ¬ F g) : b.ownsRow base e size u k xs := by
  refine ⟨hr.1, ?_⟩
  rcases hr.2 with h0 | ⟨g, cap, cur, rfl, hbg, hg, r⟩
  · exact .inl h0
  · exact .inr ⟨g, cap, cur, rfl, hbg, (h.block g (Array.getElem?_eq_some_iff.1 hg).1 (hn g rfl)).trans hg, r⟩
end

theorem ownsRow_lt {w : World} {base size k : Nat} {e : TypeId} {u : Value} {xs : List Value} (hr : w.ownsRow base e size u k xs) {g : Nat} (hg : u.ownBlock = some g) : g < w.heap.size := (hr.lt g hg).2
end Go.Proofs.YtjcoahcbdlpcpaaGreat
/-
  api.Dot as a map's key. No function of the program is named here.
-/
namespace Go.Proofs.YtjcoahcbdlpcpaaGreat
open Go.RowKit Go.Maps

theorem Tryz.laidOutK : laidOutB Tryz.prog = true := by kernel_rfl
theorem Tryz.keyedDot : Keyed Tryz.prog 31 := Keyed.of_law (deep_law_laid Tryz.laidOutK (m := 3) (by decide) (of_decide_eq_true (by kernel_rfl)) (by kernel_rfl) (by kernel_rfl))
def I64 (x : Int) : Prop := -9223372036854775808 ≤ x ∧ x ≤ 9223372036854775807
theorem wf_of {x : Int} (h : I64 x) : (Lit.int .i64 x).wf = true := by
  unfold I64 at h
  simp [Lit.wf, IntKind.min, IntKind.max, IntKind.signed, IntKind.bits]
  omega
def dotVal (o s : Int) : Value := .agg #[.int .i64 o, .int .i64 s]
theorem types_pos : ∃ k, Tryz.prog.types.size = k + 1 := by
  have h : 0 < Tryz.prog.types.size := of_decide_eq_true (by kernel_rfl)
  exact ⟨Tryz.prog.types.size - 1, by omega⟩
/-- What a dot reads as, as a key. -/
def dk (o s : Int) : Lit := .string (keyBytes [.int .i64 o, .int .i64 s])
theorem key_dot {o s : Int} (ho : I64 o) (hs : I64 s) : keyOf Tryz.prog 31 (dotVal o s) = some (dk o s) := by
  have h1 : Tryz.prog.keyType 31 = true := by kernel_rfl
  have h2 : (dotVal o s).formed Tryz.prog 31 = true := by kernel_rfl
  have h3 : Tryz.prog.keyLits (Tryz.prog.types.size + 1) 31 (dotVal o s).cells.toList = some [.int .i64 o, .int .i64 s] := by
    obtain ⟨k, hk⟩ := types_pos
    rw [hk]
    have hi : ∀ x, I64 x → Tryz.prog.keyLits (k + 1) 3 [.int .i64 x] = some [.int .i64 x] := fun x hx => by
      simp [Program.keyLits, Tryz.underlying3, wf_of hx]
    have e1 : Tryz.prog.cellsOf 31 = 2 := by kernel_rfl
    have e2 : Tryz.prog.cellsOf 3 = 1 := by kernel_rfl
    unfold Program.keyLits
    simp [Tryz.underlying31, dotVal, Value.cells, e1, e2, hi o ho, hi s hs]
  unfold keyOf
  rw [Tryz.underlying31]
  show (if _ then _ else _) = _
  rw [if_pos (by rw [h1, h2]; rfl), h3]
  rfl
theorem dk_inj {o s o' s' : Int} (ho : I64 o) (hs : I64 s) (ho' : I64 o') (hs' : I64 s') (h : dk o s = dk o' s') : o = o' ∧ s = s' := by
  have h1 := key_dot ho hs
  have h2 := key_dot ho' hs'
  rw [← h] at h2
  have := Tryz.keyedDot.inj h1 h2
  simpa [dotVal] using this
set_option maxRecDepth 20000 in
/-- What reads as a dot's key is a dot. -/
theorem dk_inv {key : Value} {kl : Lit} (h : keyOf Tryz.prog 31 key = some kl) : ∃ o s, key = dotVal o s ∧ kl = dk o s ∧ I64 o ∧ I64 s := by
  obtain ⟨xs, L, rfl, h1, h2⟩ := keyOf_top (by kernel_rfl) h
  obtain ⟨k, hk⟩ := types_pos
  rw [hk] at h1
  have hi : ∀ v l, Tryz.prog.keyLits (k + 1) 3 [v] = some l → ∃ x, v = .int .i64 x ∧ I64 x ∧ l = [.int .i64 x] := fun v l hv => by
    cases v <;> simp [Program.keyLits, Tryz.underlying3] at hv
    rename_i q x
    obtain ⟨⟨rfl, hw⟩, rfl⟩ := hv
    refine ⟨x, rfl, ?_, rfl⟩
    simp [Lit.wf, IntKind.min, IntKind.max, IntKind.signed, IntKind.bits] at hw
    unfold I64
    omega
  have e1 : Tryz.prog.cellsOf 31 = 2 := by kernel_rfl
  have e2 : Tryz.prog.cellsOf 3 = 1 := by kernel_rfl
  obtain ⟨xs⟩ := xs
  change Tryz.prog.keyLits (k + 1 + 1) 31 xs = some L at h1
  rcases xs with _ | ⟨a, _ | ⟨b, _ | ⟨c, r⟩⟩⟩
  · simp [Program.keyLits, Tryz.underlying31, e1] at h1
  · simp [Program.keyLits, Tryz.underlying31, e1] at h1
  · unfold Program.keyLits at h1
    simp [Tryz.underlying31, e1, e2] at h1
    cases ha : Tryz.prog.keyLits (k + 1) 3 [a] with
    | none => simp [ha] at h1
    | some la =>
      cases hb : Tryz.prog.keyLits (k + 1) 3 [b] with
      | none => simp [ha, hb] at h1
      | some lb =>
        obtain ⟨x, rfl, hx, rfl⟩ := hi a la ha
        obtain ⟨y, rfl, hy, rfl⟩ := hi b lb hb
        simp [ha, hb] at h1
        subst h1
        exact ⟨x, y, rfl, h2, hx, hy⟩
  · simp [Program.keyLits, Tryz.underlying31, e1] at h1
end Go.Proofs.YtjcoahcbdlpcpaaGreat
