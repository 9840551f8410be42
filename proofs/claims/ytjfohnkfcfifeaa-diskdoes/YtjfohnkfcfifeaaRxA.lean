/-
  Files appended in a drawn region; the document's disk in memory; its find, did.
-/
import Derived.Test.YtjfohnkfcfifeaaRDiskA
import Derived.Test.YtjfohnkfcfifeaaOrdK
import Derived.Deep.AppendLies
import Derived.Deep.RegionLaw
import Derived.Deep.QuietTactic
import Derived.BigQuiet
namespace Go.Proofs.Ytjfohnkfcfifeaa
open Go.RowKit Go.Maps
set_option linter.unusedSimpArgs false

def Rf.zero : Value := .agg #[.string ⟨#[]⟩, .string ⟨#[]⟩, .int .i64 0]
theorem Try.infoFr : (Try.prog.info? 47).map (fun i => (i.zero, i.size, i.bytes)) = some (some Rf.zero, 3, 40) := by kernel_rfl
theorem flatR_len (xs : List Rf) : (flatR xs).length = xs.length * 3 := by
  induction xs with
  | nil => rfl
  | cons x r ih => unfold flatR at ih ⊢; rw [List.flatMap_cons, List.length_append, ih, List.length_cons]; show 3 + _ = _; omega
theorem flatR_snoc (xs : List Rf) (x : Rf) : flatR (xs ++ [x]) = flatR xs ++ x.cells := by simp [flatR]
theorem fr_one (x : Rf) : ∀ u ∈ x.cells, u.oneCell' = true := by
  intro u hu
  simp [Rf.cells] at hu
  rcases hu with rfl | rfl | rfl <;> rfl
theorem btN {a b c : World} (h : Below a.heap.size a b) (k : Below b.heap.size b c) : Below a.heap.size a c := h.trans (k.mono h.size)
theorem wrapN {x : Int} (h0 : -9223372036854775808 ≤ x) (h1 : x ≤ 9223372036854775807) : wrap64 x = x := by unfold wrap64; omega
theorem measNW {n k : Nat} (h : k + 1 ≤ n) (hw : wrap64 ((k : Int) + 1) = (k : Int) + 1) : n - (intOf (.int .i64 (wrap64 ((k : Int) + 1)))).toNat < n - (intOf (.int .i64 (k : Int))).toNat := by
  rw [hw]
  simp [intOf]
  omega
theorem measN1 {n k : Nat} (h : k + 1 ≤ n) : n - (intOf (.int .i64 ((k : Int) + 1))).toNat < n - (intOf (.int .i64 (k : Int))).toNat := by
  simp [intOf]
  omega
theorem run_append_noneFr {P : Program} (w : World) (base : Nat) (t ty e : TypeId) (i : TypeInfo) (size : Nat) (ht : P.underlying t = some (.slice e)) (hi : P.info? e = some i)
    (v : Value) (n c : Nat) (xs : List Value) (hown : w.ownsRow base e size v n xs) : (Builtin.append_ #[t, t] ty #[v, .slice none 0 c]).run P w = .ok v w := by
  rcases hown.2 with ⟨rfl, rfl⟩ | ⟨g, cap, cur, rfl, _, _, hnc, _⟩
  · simp [Builtin.append_, run_underlying ht, sizeOf, typeInfo, hi, Builtin.lenOf, Builtin.firstCells]
  · simp [Builtin.append_, run_underlying ht, sizeOf, typeInfo, hi, Builtin.lenOf, Builtin.firstCells, hnc, storeCells]


structure ScN (W V : World) : Prop where
  out : Below W.heap.size W V
theorem ScN.start (W : World) : ScN W W := ⟨Below.refl _ _⟩
theorem ScN.go {W V U : World} (h : ScN W V) (hb : Below V.heap.size V U) : ScN W U := ⟨btN h.out hb⟩
theorem ScN.dr {W V : World} (h : ScN W V) : ScN W V.drew := ⟨h.out.drew⟩
theorem ScN.alloc {W V : World} (h : ScN W V) (o : Obj) : ScN W (V.alloc o) := ⟨h.out.alloc h.out.size _⟩
theorem ScN.grown {W V U : World} (h : ScN W V) (hb : Below W.heap.size V U) : ScN W U := ⟨h.out.trans hb⟩
theorem ScN.size {W V : World} (h : ScN W V) : W.heap.size ≤ V.heap.size := h.out.size
theorem flatFr_get : ∀ (xs : List Rf) (j : Nat) (hj : j < xs.length) (c : Nat) (u : Value), xs[j].cells[c]? = some u → (flatR xs)[j * 3 + c]? = some u
  | [], j, hj, _, _, _ => by cases hj
  | x :: r, 0, _, c, u, h => by
    simp only [List.getElem_cons_zero] at h
    have hc : c < 3 := (List.getElem?_eq_some_iff.1 h).1
    unfold flatR
    rw [List.flatMap_cons, Nat.zero_mul, Nat.zero_add, List.getElem?_append_left (show c < 3 from hc)]
    exact h
  | x :: r, j + 1, hj, c, u, h => by
    simp only [List.getElem_cons_succ] at h
    have := flatFr_get r j (by simpa using hj) c u h
    unfold flatR at this ⊢
    rw [List.flatMap_cons, List.getElem?_append_right (show x.cells.length ≤ _ by show 3 ≤ _; omega)]
    rw [show (j + 1) * 3 + c - x.cells.length = j * 3 + c by show _ - 3 = _; omega]
    exact this
/-- The cells of a row of packets. -/
def HeldFr (w : World) (ao : Option Addr) (xs : List Rf) : Prop :=
  xs = [] ∨ ∃ b off, ao = some ⟨b, off, none⟩ ∧ b < w.heap.size ∧ ∀ j (hj : j < xs.length) c u, xs[j].cells[c]? = some u → w.cell? ⟨b, off + j * 3 + c, none⟩ = some u
theorem HeldFr.below {w w' : World} {ao : Option Addr} {xs : List Rf} (h : HeldFr w ao xs) (hb : Below w.heap.size w w') : HeldFr w' ao xs := by
  rcases h with h0 | ⟨b, off, h1, h2, h3⟩
  · exact .inl h0
  · exact .inr ⟨b, off, h1, Nat.lt_of_lt_of_le h2 hb.size, fun j hj c u hu => (hb.cell (p := ⟨b, off + j * 3 + c, none⟩) h2).trans (h3 j hj c u hu)⟩
theorem HeldFr.take {w : World} {ao : Option Addr} {xs : List Rf} (h : HeldFr w ao xs) (k : Nat) : HeldFr w ao (xs.take k) := by
  rcases h with h0 | ⟨b, off, h1, h2, h3⟩
  · left; rw [h0]; simp
  · refine .inr ⟨b, off, h1, h2, fun j hj c u hu => ?_⟩
    rw [List.length_take] at hj
    exact h3 j (by omega) c u (by rw [List.getElem_take] at hu; exact hu)
theorem HeldFr.drop {w : World} {b off : Nat} {xs : List Rf} (h : HeldFr w (some ⟨b, off, none⟩) xs) (k : Nat) : HeldFr w (some ⟨b, off + k * 3, none⟩) (xs.drop k) := by
  rcases h with h0 | ⟨b', off', h1, h2, h3⟩
  · left; rw [h0]; simp
  · cases h1
    refine .inr ⟨b, off + k * 3, rfl, h2, fun j hj c u hu => ?_⟩
    rw [List.length_drop] at hj
    have := h3 (k + j) (by omega) c u (by rw [List.getElem_drop] at hu; exact hu)
    rw [show off + (k + j) * 3 + c = off + k * 3 + j * 3 + c by rw [Nat.add_mul]; omega] at this
    exact this
theorem held_dropFr {w : World} {b off cap : Nat} {xs : List Rf} (h : HeldFr w (some ⟨b, off, none⟩) xs) (k : Nat) (hc : xs.length ≤ cap) : HeldFr w (if cap = k then some ⟨b, off, none⟩ else some ⟨b, off + k * 3, none⟩) (xs.drop k) := by
  split
  · exact .inl (List.drop_eq_nil_of_le (by omega))
  · exact h.drop k
theorem HeldFr.cellsD {w : World} {ao : Option Addr} {xs : List Rf} (h : HeldFr w ao xs) {k : Nat} (hk : k < xs.length) : ∃ b off, ao = some ⟨b, off, none⟩ ∧ b < w.heap.size ∧ w.cell? ⟨b, off + k * 3, none⟩ = some (.string xs[k].name) ∧ w.cell? ⟨b, off + k * 3 + 1, none⟩ = some (.string xs[k].bytes) ∧ w.cell? ⟨b, off + k * 3 + 2, none⟩ = some (.int .i64 xs[k].sure) := by
  rcases h with h0 | ⟨b, off, h1, h2, h3⟩
  · subst h0
    cases hk
  · exact ⟨b, off, h1, h2, h3 k hk 0 _ rfl, h3 k hk 1 _ rfl, h3 k hk 2 _ rfl⟩
theorem own_formFr {w : World} {B e n : Nat} {v : Value} {xs : List Value} {k : Nat} (h : w.ownsRow B e k v n xs) :
    ∃ eo cap, v = .slice eo n cap ∧ n ≤ cap ∧ (0 < n → ∃ g, eo = some ⟨g, 0, none⟩ ∧ B ≤ g ∧ g < w.heap.size ∧ ∀ j u, xs[j]? = some u → w.cell? ⟨g, j, none⟩ = some u) := by
  rcases h.2 with ⟨rfl, rfl⟩ | ⟨g, cap, cur, rfl, hbg, hg, hnc, _⟩
  · exact ⟨none, 0, rfl, Nat.le_refl _, fun h0 => by omega⟩
  · refine ⟨some ⟨g, 0, none⟩, cap, rfl, hnc, fun _ => ⟨g, rfl, hbg, (Array.getElem?_eq_some_iff.1 hg).1, fun j u hu => ?_⟩⟩
    have := h.cells (g := g) rfl j u hu
    simpa [Addr.add_lit] using this
theorem heldFr_of_own {w : World} {B : Nat} {v : Value} {xs : List Rf} {n : Nat} (hn : xs.length = n) (h : w.ownsRow B 47 3 v n (flatR xs)) : ∃ ao cap, v = .slice ao n cap ∧ n ≤ cap ∧ HeldFr w ao xs := by
  subst hn
  obtain ⟨eo, cap, rfl, hnc, hc⟩ := own_formFr h
  refine ⟨eo, cap, rfl, hnc, ?_⟩
  by_cases h0 : xs = []
  · exact .inl h0
  · obtain ⟨g, rfl, _, hg, hcell⟩ := hc (List.length_pos_iff.2 h0)
    refine .inr ⟨g, 0, rfl, hg, fun j hj c u hu => ?_⟩
    rw [Nat.zero_add]
    exact hcell _ _ (flatFr_get xs j hj c u hu)
theorem HeldFr.news {w : World} {ad : Addr} {xs : List Rf} (h : HeldFr w (some ad) xs) : ∀ j u, (flatR xs)[j]? = some u → w.cell? (ad.add j) = some u := by
  intro i u hu
  have hlt := (List.getElem?_eq_some_iff.1 hu).1
  rw [flatR_len] at hlt
  rcases h with h0 | ⟨b, off, e, _, h3⟩
  · subst h0
    simp at hlt
  · cases e
    have hj : i / 3 < xs.length := by omega
    have hc : xs[i / 3].cells[i % 3]? = some u := by
      have hlen : i % 3 < xs[i / 3].cells.length := by show _ < 3; omega
      have h4 := flatFr_get xs (i / 3) hj (i % 3) _ (List.getElem?_eq_getElem hlen)
      rw [show i / 3 * 3 + i % 3 = i by omega] at h4
      rw [hu] at h4
      rw [List.getElem?_eq_getElem hlen, h4]
    have h5 := h3 (i / 3) hj (i % 3) u hc
    rw [Addr.add_lit]
    rw [show off + i / 3 * 3 + i % 3 = off + i by omega] at h5
    exact h5
theorem flatFr_one (xs : List Rf) : ∀ u ∈ flatR xs, u.oneCell' = true := by
  intro u hu
  obtain ⟨x, _, hx⟩ := List.mem_flatMap.1 hu
  exact fr_one x u hx
/-- append of orders to a row of the call's own, in a region that draws its order. -/
theorem step_append_fr {ops : Array Oper} {o : Oper} {a : Act} {w : World} {K : Act → World → Prop} {Q : Exit → Act → World → Prop} {E : Prop} (hgd : o.guard = none) (s x : Operand)
    (ho : o.op = .call { callee := .builtin .append, args := #[s, x], argTypes := #[41, 41] })
    (base : Nat) (v : Value) (n : Nat) (ds : List Rf) (hn : ds.length = n) (hs : a.eval s = v) (hown : w.ownsRow base 47 3 v n (flatR ds))
    (ao : Option Addr) (m c : Nat) (xs : List Rf) (hm : xs.length = m) (hx : a.eval x = .slice ao m c) (hh : HeldFr w ao xs) (hsum : n + m ≤ 100000000) (hbase : base ≤ w.heap.size)
    (h : ∀ bo cp w', w'.ownsRow base 47 3 (.slice bo (n + m) cp) (n + m) (flatR (ds ++ xs)) → Below base w w' → w.grownBy w' v.ownBlock → K (a.put o.dst (.slice bo (n + m) cp)) w') :
    if Region.wanted o (yielded ops a.tmps) = true then Oper.wp Try.prog o a w K Q else E := by
  have hw : Region.wanted o (yielded ops a.tmps) = true := by simp [Region.wanted, hgd]
  rw [if_pos hw]
  obtain ⟨iI, hj, hy0, hy1, hy2⟩ := info_parts Try.infoFr
  cases ao with
  | none =>
    have hx0 : xs = [] := by
      rcases hh with h0 | ⟨b, off, e, _⟩
      · exact h0
      · cases e
    subst hx0
    obtain rfl : 0 = m := hm
    have hr := run_append_noneFr (P := Try.prog) w base 41 o.type 47 iI 3 Try.underlying41 hj v n c _ hown
    rw [List.append_nil] at h
    simp only [Nat.add_zero] at h
    obtain ⟨eo, cap, hv, _, _⟩ := heldFr_of_own hn hown
    unfold Oper.wp execOp
    simp only [ho, resolve, invoke, builtin, Sem.run_bind, Sem.run_pure, Result.andThen_ok, List.map_toArray, List.map_cons, List.map_nil, hs, hx, hr]
    have := h eo cap w (by rw [← hv]; exact hown) (Below.refl _ _) (World.grownBy.refl _ _)
    rw [← hv] at this
    exact this
  | some ad =>
    obtain ⟨v', w', hr, hown', hgrow, _, _⟩ := run_append_own_at (P := Try.prog) w base 41 o.type 47 iI _ 3 40 Try.underlying41 hj hy0 hy1 hy2 rfl (by decide) v n (flatR ds) hown ad m c (flatR xs) (by rw [flatR_len, hm]) hh.news (flatFr_one xs) (by unfold maxLen; omega) (by omega) hbase
    unfold Oper.wp execOp
    simp only [ho, resolve, invoke, builtin, Sem.run_bind, Sem.run_pure, Result.andThen_ok, List.map_toArray, List.map_cons, List.map_nil, hs, hx, hr]
    rw [show flatR ds ++ flatR xs = flatR (ds ++ xs) by simp [flatR]] at hown'
    have hb : Below base w w' := (Below.refl _ _).grown hgrow hbase (fun k hk => (hown.lt k hk).1)
    obtain ⟨bo, cp, rfl, _, _⟩ := heldFr_of_own (by rw [List.length_append, hn, hm]) hown'
    exact h bo cp w' hown' hb hgrow
theorem step_copy_fr {ops : Array Oper} {o : Oper} {a : Act} {w : World} {K : Act → World → Prop} {Q : Exit → Act → World → Prop} {E : Prop} (hgd : o.guard = none) (s x : Operand)
    (ho : o.op = .call { callee := .builtin .append, args := #[s, x], argTypes := #[41, 41] })
    (base : Nat) (g : Nat) (hs : a.eval s = .slice (some ⟨g, 0, none⟩) 0 0) (hown : w.ownsRow base 47 3 (.slice (some ⟨g, 0, none⟩) 0 0) 0 (flatR []))
    (ao : Option Addr) (m c : Nat) (xs : List Rf) (hm : xs.length = m) (hx : a.eval x = .slice ao m c) (hh : HeldFr w ao xs) (hsum : m ≤ 100000000) (hbase : base ≤ w.heap.size)
    (h : ∀ bo cp w', w'.ownsRow base 47 3 (.slice bo m cp) m (flatR xs) → Below base w w' → w.grownBy w' (some g) → K (a.put o.dst (.slice bo m cp)) w') :
    if Region.wanted o (yielded ops a.tmps) = true then Oper.wp Try.prog o a w K Q else E := by
  refine step_append_fr hgd s x ho base _ 0 [] rfl hs hown ao m c xs hm hx hh (by omega) hbase ?_
  intro bo cp w' h1 h2 h3
  rw [Nat.zero_add] at h1 ⊢
  exact h bo cp w' h1 h2 h3
theorem ownFr_made (w : World) (B : Nat) (hB : B ≤ w.heap.size) : (w.alloc (.cells #[] 47)).ownsRow B 47 3 (.slice (some ⟨w.heap.size, 0, none⟩) 0 0) 0 (flatR []) :=
  ⟨rfl, .inr ⟨w.heap.size, 0, #[], rfl, hB, World.alloc_heap_new w _, Nat.le_refl _, Nat.zero_le _, rfl, rfl⟩⟩
theorem ownFr_made2 (w : World) (o : Obj) (B : Nat) (hB : B ≤ w.heap.size) : ((w.alloc o).alloc (.cells #[] 47)).ownsRow B 47 3 (.slice (some ⟨w.heap.size + 1, 0, none⟩) 0 0) 0 (flatR []) := by
  have := ownFr_made (w.alloc o) B (by simp; omega)
  rw [World.size_alloc] at this
  exact this
theorem held_newFr (V : World) (x : Rf) : HeldFr (V.alloc (.cells x.cells.toArray 47)) (some ⟨V.heap.size, 0, none⟩) [x] := .inr ⟨V.heap.size, 0, rfl, by simp, fun j hj c u hu => by
  have hj0 : j = 0 := by simp at hj; exact hj
  subst hj0
  have h1 := (Blk.new V 47 x.cells).cell hu
  simpa using h1⟩
theorem held_grownFr {w w' : World} {b g : Nat} {xs : List Rf} (h : HeldFr w (some ⟨b, 0, none⟩) xs) (hg : w.grownBy w' (some g)) (hne : b ≠ g) : HeldFr w' (some ⟨b, 0, none⟩) xs := by
  rcases h with h0 | ⟨b', off, e, h2, h3⟩
  · exact .inl h0
  · cases e
    refine .inr ⟨b, 0, rfl, Nat.lt_of_lt_of_le h2 hg.size, fun j hj c u hu => ?_⟩
    have h4 := h3 j hj c u hu
    have h5 := hg.block b h2 (by simpa using hne)
    unfold World.cell? at h4 ⊢
    rw [h5]
    exact h4

theorem ownsRow_baseN {w : World} {B B' e size n : Nat} {v : Value} {xs : List Value} (h : w.ownsRow B e size v n xs) (hB : B' ≤ B) : w.ownsRow B' e size v n xs := by
  refine ⟨h.1, ?_⟩
  rcases h.2 with h0 | ⟨g, cap, cur, h1, h2, h3⟩
  · exact .inl h0
  · exact .inr ⟨g, cap, cur, h1, Nat.le_trans hB h2, h3⟩
theorem below_dnX {w W : World} {B : Nat} (h : Below B w W) (q : Nat) : Below B w (W.drewN q) := ⟨h.os, h.tape, h.output, h.size, h.block⟩
/-- A disk of the document's, with no memory in it. -/
structure Xd where
  L : List Rf
  stops : Bool
  calls : Int
def Xd.off (g : Xd) : Bool := g.stops && (g.calls == 0)
def Xd.did (g : Xd) : Xd := if g.stops then { g with calls := g.calls - 1 } else g
/-- The document's disk: its block x, its row behind B. -/
structure XdAt (w : World) (B x : Nat) (size : Int) (g : Xd) (eo : Option Addr) (cap : Nat) : Prop where
  blk : Blk w x 43 [.int .i64 size, .slice eo g.L.length cap, .bool g.stops, .int .i64 g.calls]
  row : w.ownsRow B 47 3 (.slice eo g.L.length cap) g.L.length (flatR g.L)
  few : g.L.length ≤ 64
  room : (rtotal g.L : Int) ≤ size
  big : size ≤ 268435456
  cal : (-9223372036854775808 ≤ g.calls ∧ g.calls ≤ 9223372036854775807) ∧ (g.stops = true → 0 ≤ g.calls)
def XdOk (g : Xd) : Prop := ∀ f ∈ g.L, 0 ≤ f.sure ∧ f.sure ≤ f.bytes.size
/-- The blocks of it. -/
def FootZ (x : Nat) (eo : Option Addr) (n cap : Nat) (i : Nat) : Prop := i = x ∨ (Value.slice eo n cap).ownBlock = some i
section
variable {w w' : World} {B x : Nat} {size : Int} {g : Xd} {eo : Option Addr} {cap : Nat}
theorem XdAt.turned {F : Nat → Prop} (h : XdAt w B x size g eo cap) (ht : Turns F w w') (hF : ∀ i, FootZ x eo g.L.length cap i → ¬ F i) : XdAt w' B x size g eo cap :=
  ⟨ht.blk h.blk (hF x (.inl rfl)), ht.row h.row (fun b hb => hF b (.inr hb)), h.few, h.room, h.big, h.cal⟩
theorem XdAt.below (h : XdAt w B x size g eo cap) (hb : Below w.heap.size w w') : XdAt w' B x size g eo cap := h.turned (F := fun _ => False) (Turns.of_below hb (Nat.le_refl _)) (fun _ _ h => h)
theorem XdAt.held (h : XdAt w B x size g eo cap) : HeldFr w eo g.L ∧ g.L.length ≤ cap := by
  obtain ⟨ao, cp, he, h1, h2⟩ := heldFr_of_own rfl h.row
  cases he
  exact ⟨h2, h1⟩
theorem XdAt.rd (h : XdAt w B x size g eo cap) : RdAt w x (.slice eo g.L.length cap) size g.L g.stops g.calls := ⟨h.blk, ownsRow_baseN h.row (Nat.zero_le _), h.few, h.room, h.big⟩
theorem XdAt.foot_lt (h : XdAt w B x size g eo cap) : ∀ i, FootZ x eo g.L.length cap i → i < w.heap.size := by
  rintro i (rfl | hi)
  · exact h.blk.lt
  · exact (h.row.lt i hi).2
/-- What a call leaves. -/
def XdTo (B : Nat) (w w' : World) (x : Nat) (size : Int) (F : Nat → Prop) (g : Xd) : Prop := ∃ eo' cap', XdAt w' B x size g eo' cap' ∧ Turns F w w' ∧ ∀ i, FootZ x eo' g.L.length cap' i → F i ∨ w.heap.size ≤ i
theorem XdTo.same (h : XdAt w B x size g eo cap) (hb : Below w.heap.size w w') : XdTo B w w' x size (FootZ x eo g.L.length cap) g := ⟨eo, cap, h.below hb, Turns.of_below hb (Nat.le_refl _), fun _ hi => .inl hi⟩
theorem XdTo.trans {w1 w2 : World} {F : Nat → Prop} {g1 g2 : Xd} (h1 : XdTo B w w1 x size F g1) (h2 : ∀ eo1 cap1, XdAt w1 B x size g1 eo1 cap1 → XdTo B w1 w2 x size (FootZ x eo1 g1.L.length cap1) g2) : XdTo B w w2 x size F g2 := by
  obtain ⟨eo1, cap1, ha, ht, hf⟩ := h1
  obtain ⟨eo2, cap2, hb, ht2, hf2⟩ := h2 eo1 cap1 ha
  refine ⟨eo2, cap2, hb, ht.trans ht2 hf, fun i hi => ?_⟩
  rcases hf2 i hi with h | h
  · exact hf i h
  · exact .inr (Nat.le_trans ht.size h)
theorem bytesX_inj {a b : ByteArray} (h : a.toList = b.toList) : a = b := by
  rw [ByteArray.toList_eq, ByteArray.toList_eq] at h
  exact ByteArray.ext (Array.toList_inj.1 h)
/-- Where a name stands. -/
def ridx (L : List Rf) (s : ByteArray) : Nat := L.findIdx (fun f => decide (f.name = s))
def rint (L : List Rf) (s : ByteArray) : Int := if ridx L s < L.length then (ridx L s : Int) else -1
def NoName (L : List Rf) (s : ByteArray) (k : Nat) : Prop := ∀ j (h : j < L.length), j < k → L[j].name ≠ s
theorem ridx_hit {L : List Rf} {s : ByteArray} {k : Nat} (hk : k < L.length) (h : NoName L s k) (he : L[k].name = s) : rint L s = (k : Int) := by
  have : ridx L s = k := by
    unfold ridx
    rw [List.findIdx_eq hk]
    exact ⟨by simpa using he, fun j hj => by simpa using h j (by omega) hj⟩
  unfold rint
  rw [this, if_pos hk]
theorem ridx_miss {L : List Rf} {s : ByteArray} (h : NoName L s L.length) : rint L s = -1 := by
  have : ¬ ridx L s < L.length := by
    intro hlt
    have h1 := List.findIdx_getElem (w := hlt)
    simp only [decide_eq_true_eq] at h1
    exact h _ hlt hlt h1
  unfold rint
  rw [if_neg this]
theorem rint_at {L : List Rf} {s : ByteArray} (h : ¬ rint L s < 0) : ∃ k : Nat, rint L s = (k : Int) ∧ k < L.length ∧ ridx L s = k := by
  unfold rint at h ⊢
  by_cases hk : ridx L s < L.length
  · rw [if_pos hk]
    exact ⟨_, rfl, hk, rfl⟩
  · rw [if_neg hk] at h
    omega
theorem ridx_name {L : List Rf} {s : ByteArray} (h : ridx L s < L.length) : L[ridx L s].name = s := by
  have h1 := List.findIdx_getElem (p := fun f : Rf => decide (f.name = s)) (w := h)
  exact of_decide_eq_true h1
set_option maxRecDepth 100000 in
theorem XdAt.find (h : XdAt w B x size g eo cap) (s : ByteArray) : Calls Try.prog 50 #[.pointer (some ⟨x, 0, none⟩), .string s] w fun e w' => e = .returned (.int .i64 (rint g.L s)) ∧ Below w.heap.size w w' := by
  have H := hid h
  obtain ⟨n, HN⟩ : ∃ n, Hid (g.L.length = n) := ⟨_, hid rfl⟩
  have HF : Hid (n ≤ 64) := by rw [← HN.out]; exact h.few
  have c1 := h.blk.cell (i := 1) rfl
  rw [HN.out] at c1
  clear h
  go_enter Try.func50, Try.ntmps50
  go_wp2
  go_loopw [5] (fun i wr => ∃ k : Nat, k ≤ n ∧ i = .int .i64 k ∧ Hid (NoName g.L s k) ∧ Hid (Below w.heap.size w wr)) (fun i _ => n - (intOf i).toNat)
  case atStart => exact ⟨0, Nat.zero_le _, rfl, fun j _ h => (by omega), Below.refl _ _⟩
  case round =>
    obtain ⟨k, hk, rfl, HR, HBW⟩ := hrel
    have e1 := (H.out.below HBW.out).blk.cell (i := 1) rfl
    rw [HN.out] at e1
    by_cases hlt : k < n
    · have hlt' : (k : Int) < (n : Int) := by omega
      have hk0 : (0 : Int) ≤ (k : Int) := by omega
      have HKX : Hid (k < g.L.length) := by rw [HN.out]; exact hlt
      have HKM : Hid (k + 1 ≤ n) := (by omega : k + 1 ≤ n)
      have hwk : wrap64 ((k : Int) + 1) = (k : Int) + 1 := wrapN (by omega) (by have := HF.out; omega)
      obtain ⟨b, off, hao, _, a0, a1, a2⟩ := (H.out.below HBW.out).held.1.cellsD HKX.out
      obtain ⟨⟨qn, qb, qs⟩, HQ⟩ : ∃ z, Hid (g.L[k]'HKX.out = z) := ⟨_, hid rfl⟩
      rw [HQ.out] at a0
      simp only at a0
      subst hao
      clear a1 a2
      by_cases he : qn = s
      · have HE : Hid (rint g.L s = (k : Int)) := ridx_hit HKX.out HR.out (by rw [HQ.out]; exact he)
        subst he
        have hsb : (qn.toList == qn.toList) = true := by simp
        clear c1 hlt
        go_wp2
        go_ret
        exact ⟨by rw [HE.out]; first | done | rfl, by first | exact HBW.out | exact below_dnX HBW.out _⟩
      · have HGO : Hid (NoName g.L s (k + 1)) := fun j hj hjk => by
          by_cases e : j = k
          · subst e; rw [HQ.out]; exact he
          · exact HR.out j hj (by omega)
        have hne : ¬ qn.toList = s.toList := fun e => he (bytesX_inj e)
        have hsb : (qn.toList == s.toList) = false := beq_eq_false_iff_ne.2 hne
        clear c1 hlt he
        go_wp2
        go_roundw
        case rel => exact ⟨k + 1, HKM.out, by go_num, HGO.out, by first | exact HBW.out | exact below_dnX HBW.out _⟩
        case measure => first | exact measNW HKM.out hwk | exact measN1 HKM.out
    · have hlt' : ¬ (k : Int) < (n : Int) := by omega
      have HE : Hid (rint g.L s = -1) := ridx_miss (fun j hj _ => HR.out j hj (by have := HN.out; omega))
      go_wp2
      go_ret
      exact ⟨by rw [HE.out]; first | done | rfl, HBW.out⟩
theorem XdAt.did (h : XdAt w B x size g eo cap) (hno : g.off = false) : Calls Try.prog 52 #[.pointer (some ⟨x, 0, none⟩)] w fun e w' => e = .returned (.int .i64 0) ∧ XdTo B w w' x size (FootZ x eo g.L.length cap) g.did := by
  have H := hid h
  have HNO := hid hno
  have c2 := h.blk.cell (i := 2) rfl
  have c3 := h.blk.cell (i := 3) rfl
  have f3 := h.blk.frozen 3
  obtain ⟨L, st, ca⟩ := g
  simp only at c2 c3
  cases st with
  | false =>
    clear h hno
    go_enter Try.func52, Try.ntmps52
    go_wp2
    go_ret
    exact ⟨rfl, XdTo.same H.out (Below.refl _ _)⟩
  | true =>
    have hc0 := h.cal.2 rfl
    have hcne : ca ≠ 0 := by
      unfold Xd.off at hno
      simpa using hno
    have hw : wrap64 (ca - 1) = ca - 1 := wrapN (by simp only at hc0; omega) (by have := h.cal.1.2; simp only at this; omega)
    have HC1 : Hid (0 ≤ ca - 1) := by simp only at hc0; exact (by omega : 0 ≤ ca - 1)
    clear h hno hc0 hcne
    go_enter Try.func52, Try.ntmps52
    go_wp2
    go_ret
    refine ⟨rfl, eo, cap, ?_, (Turns.refl _ _).setCell (p := ⟨x, 3, none⟩) (.inl (.inl rfl)) _, fun i hi => .inl hi⟩
    have hb := H.out.blk.set 3 (.int .i64 (ca - 1))
    have ht : Turns (fun i => i = x) w (w.setCell ⟨x, 3, none⟩ (.int .i64 (ca - 1))) := (Turns.refl (fun i => i = x) _).setCell (p := ⟨x, 3, none⟩) (.inl rfl) _
    refine ⟨hb, ht.row H.out.row (fun b hbo e => by subst e; exact H.out.blk.not_row (by decide) H.out.row hbo.symm), H.out.few, H.out.room, H.out.big, ?_⟩
    have h1 := H.out.cal.1.2
    have h2 := HC1.out
    simp only at h1
    exact ⟨⟨by show _ ≤ ca - 1; omega, by show ca - 1 ≤ _; omega⟩, fun _ => h2⟩
end
end Go.Proofs.Ytjfohnkfcfifeaa
