/-
  Pairs appended in a drawn region; the document's set in memory; its Get.
-/
import Derived.Test.YtplecopphddjhaaOrdK
import Derived.Deep.AppendLies
import Derived.Deep.RegionLaw
import Derived.Deep.QuietTactic
import Derived.BigQuiet
namespace Go.Proofs.Ytplecopphddjhaa
open Go.RowKit Go.Maps

def PairV.zero : Value := .agg #[.int .i64 0, .int .i64 0, .string ⟨#[]⟩]
theorem Try.infoPr : (Try.prog.info? 35).map (fun i => (i.zero, i.size, i.bytes)) = some (some PairV.zero, 3, 32) := by kernel_rfl
def flatPp (xs : List PairV) : List Value := xs.flatMap PairV.cells
theorem flatPp_len (xs : List PairV) : (flatPp xs).length = xs.length * 3 := by
  induction xs with
  | nil => rfl
  | cons x r ih => unfold flatPp at ih ⊢; rw [List.flatMap_cons, List.length_append, ih, List.length_cons]; show 3 + _ = _; omega
theorem flatPp_snoc (xs : List PairV) (x : PairV) : flatPp (xs ++ [x]) = flatPp xs ++ x.cells := by simp [flatPp]
theorem pr_one (x : PairV) : ∀ u ∈ x.cells, u.oneCell' = true := by
  intro u hu
  simp [PairV.cells] at hu
  rcases hu with rfl | rfl | rfl <;> rfl
theorem btN {a b c : World} (h : Below a.heap.size a b) (k : Below b.heap.size b c) : Below a.heap.size a c := h.trans (k.mono h.size)
theorem wrapN {x : Int} (h0 : -9223372036854775808 ≤ x) (h1 : x ≤ 9223372036854775807) : wrap64 x = x := by unfold wrap64; omega
theorem measNW {n k : Nat} (h : k + 1 ≤ n) (hw : wrap64 ((k : Int) + 1) = (k : Int) + 1) : n - (intOf (.int .i64 (wrap64 ((k : Int) + 1)))).toNat < n - (intOf (.int .i64 (k : Int))).toNat := by
  rw [hw]
  simp [intOf]
  omega
theorem measN1 {n k : Nat} (h : k + 1 ≤ n) : n - (intOf (.int .i64 ((k : Int) + 1))).toNat < n - (intOf (.int .i64 (k : Int))).toNat := by
  simp [intOf]
  omega
theorem run_append_nonePp {P : Program} (w : World) (base : Nat) (t ty e : TypeId) (i : TypeInfo) (size : Nat) (ht : P.underlying t = some (.slice e)) (hi : P.info? e = some i)
    (v : Value) (n c : Nat) (xs : List Value) (hown : w.ownsRow base e size v n xs) : (Builtin.append_ #[t, t] ty #[v, .slice none 0 c]).run P w = .ok v w := by
  rcases hown.2 with ⟨rfl, rfl⟩ | ⟨g, cap, cur, rfl, _, _, hnc, _⟩
  · simp [Builtin.append_, run_underlying ht, sizeOf, typeInfo, hi, Builtin.lenOf, Builtin.firstCells]
  · simp [Builtin.append_, run_underlying ht, sizeOf, typeInfo, hi, Builtin.lenOf, Builtin.firstCells, hnc, storeCells]


structure ScN (W V : World) : Prop where
  out : Below W.heap.size W V
theorem ScN.start (W : World) : ScN W W := ⟨Below.refl _ _⟩
theorem ScN.go {W V U : World} (h : ScN W V) (hb : Below V.heap.size V U) : ScN W U := ⟨btN h.out hb⟩
theorem ScN.dr {W V : World} (h : ScN W V) : ScN W V.drew := ⟨h.out.drew⟩
theorem ScN.alloc {W V : World} (h : ScN W V) (o : Obj) : ScN W (V.alloc o) := ⟨h.out.alloc h.out.size _⟩
theorem ScN.grown {W V U : World} (h : ScN W V) (hb : Below W.heap.size V U) : ScN W U := ⟨h.out.trans hb⟩
theorem ScN.size {W V : World} (h : ScN W V) : W.heap.size ≤ V.heap.size := h.out.size
theorem flatPr_get : ∀ (xs : List PairV) (j : Nat) (hj : j < xs.length) (c : Nat) (u : Value), xs[j].cells[c]? = some u → (flatPp xs)[j * 3 + c]? = some u
  | [], j, hj, _, _, _ => by cases hj
  | x :: r, 0, _, c, u, h => by
    simp only [List.getElem_cons_zero] at h
    have hc : c < 3 := (List.getElem?_eq_some_iff.1 h).1
    unfold flatPp
    rw [List.flatMap_cons, Nat.zero_mul, Nat.zero_add, List.getElem?_append_left (show c < 3 from hc)]
    exact h
  | x :: r, j + 1, hj, c, u, h => by
    simp only [List.getElem_cons_succ] at h
    have := flatPr_get r j (by simpa using hj) c u h
    unfold flatPp at this ⊢
    rw [List.flatMap_cons, List.getElem?_append_right (show x.cells.length ≤ _ by show 3 ≤ _; omega)]
    rw [show (j + 1) * 3 + c - x.cells.length = j * 3 + c by show _ - 3 = _; omega]
    exact this
/-- The cells of a row of packets. -/
def HeldPp (w : World) (ao : Option Addr) (xs : List PairV) : Prop :=
  xs = [] ∨ ∃ b off, ao = some ⟨b, off, none⟩ ∧ b < w.heap.size ∧ ∀ j (hj : j < xs.length) c u, xs[j].cells[c]? = some u → w.cell? ⟨b, off + j * 3 + c, none⟩ = some u
theorem HeldPp.below {w w' : World} {ao : Option Addr} {xs : List PairV} (h : HeldPp w ao xs) (hb : Below w.heap.size w w') : HeldPp w' ao xs := by
  rcases h with h0 | ⟨b, off, h1, h2, h3⟩
  · exact .inl h0
  · exact .inr ⟨b, off, h1, Nat.lt_of_lt_of_le h2 hb.size, fun j hj c u hu => (hb.cell (p := ⟨b, off + j * 3 + c, none⟩) h2).trans (h3 j hj c u hu)⟩
theorem HeldPp.take {w : World} {ao : Option Addr} {xs : List PairV} (h : HeldPp w ao xs) (k : Nat) : HeldPp w ao (xs.take k) := by
  rcases h with h0 | ⟨b, off, h1, h2, h3⟩
  · left; rw [h0]; simp
  · refine .inr ⟨b, off, h1, h2, fun j hj c u hu => ?_⟩
    rw [List.length_take] at hj
    exact h3 j (by omega) c u (by rw [List.getElem_take] at hu; exact hu)
theorem HeldPp.drop {w : World} {b off : Nat} {xs : List PairV} (h : HeldPp w (some ⟨b, off, none⟩) xs) (k : Nat) : HeldPp w (some ⟨b, off + k * 3, none⟩) (xs.drop k) := by
  rcases h with h0 | ⟨b', off', h1, h2, h3⟩
  · left; rw [h0]; simp
  · cases h1
    refine .inr ⟨b, off + k * 3, rfl, h2, fun j hj c u hu => ?_⟩
    rw [List.length_drop] at hj
    have := h3 (k + j) (by omega) c u (by rw [List.getElem_drop] at hu; exact hu)
    rw [show off + (k + j) * 3 + c = off + k * 3 + j * 3 + c by rw [Nat.add_mul]; omega] at this
    exact this
theorem held_dropPp {w : World} {b off cap : Nat} {xs : List PairV} (h : HeldPp w (some ⟨b, off, none⟩) xs) (k : Nat) (hc : xs.length ≤ cap) : HeldPp w (if cap = k then some ⟨b, off, none⟩ else some ⟨b, off + k * 3, none⟩) (xs.drop k) := by
  split
  · exact .inl (List.drop_eq_nil_of_le (by omega))
  · exact h.drop k
theorem HeldPp.cellsD {w : World} {ao : Option Addr} {xs : List PairV} (h : HeldPp w ao xs) {k : Nat} (hk : k < xs.length) : ∃ b off, ao = some ⟨b, off, none⟩ ∧ b < w.heap.size ∧ w.cell? ⟨b, off + k * 3, none⟩ = some (.int .i64 xs[k].o) ∧ w.cell? ⟨b, off + k * 3 + 1, none⟩ = some (.int .i64 xs[k].s) ∧ w.cell? ⟨b, off + k * 3 + 2, none⟩ = some (.string xs[k].t) := by
  rcases h with h0 | ⟨b, off, h1, h2, h3⟩
  · subst h0
    cases hk
  · exact ⟨b, off, h1, h2, h3 k hk 0 _ rfl, h3 k hk 1 _ rfl, h3 k hk 2 _ rfl⟩
theorem own_formPp {w : World} {B e n : Nat} {v : Value} {xs : List Value} {k : Nat} (h : w.ownsRow B e k v n xs) :
    ∃ eo cap, v = .slice eo n cap ∧ n ≤ cap ∧ (0 < n → ∃ g, eo = some ⟨g, 0, none⟩ ∧ B ≤ g ∧ g < w.heap.size ∧ ∀ j u, xs[j]? = some u → w.cell? ⟨g, j, none⟩ = some u) := by
  rcases h.2 with ⟨rfl, rfl⟩ | ⟨g, cap, cur, rfl, hbg, hg, hnc, _⟩
  · exact ⟨none, 0, rfl, Nat.le_refl _, fun h0 => by omega⟩
  · refine ⟨some ⟨g, 0, none⟩, cap, rfl, hnc, fun _ => ⟨g, rfl, hbg, (Array.getElem?_eq_some_iff.1 hg).1, fun j u hu => ?_⟩⟩
    have := h.cells (g := g) rfl j u hu
    simpa [Addr.add_lit] using this
theorem heldPp_of_own {w : World} {B : Nat} {v : Value} {xs : List PairV} {n : Nat} (hn : xs.length = n) (h : w.ownsRow B 35 3 v n (flatPp xs)) : ∃ ao cap, v = .slice ao n cap ∧ n ≤ cap ∧ HeldPp w ao xs := by
  subst hn
  obtain ⟨eo, cap, rfl, hnc, hc⟩ := own_formPp h
  refine ⟨eo, cap, rfl, hnc, ?_⟩
  by_cases h0 : xs = []
  · exact .inl h0
  · obtain ⟨g, rfl, _, hg, hcell⟩ := hc (List.length_pos_iff.2 h0)
    refine .inr ⟨g, 0, rfl, hg, fun j hj c u hu => ?_⟩
    rw [Nat.zero_add]
    exact hcell _ _ (flatPr_get xs j hj c u hu)
theorem HeldPp.news {w : World} {ad : Addr} {xs : List PairV} (h : HeldPp w (some ad) xs) : ∀ j u, (flatPp xs)[j]? = some u → w.cell? (ad.add j) = some u := by
  intro i u hu
  have hlt := (List.getElem?_eq_some_iff.1 hu).1
  rw [flatPp_len] at hlt
  rcases h with h0 | ⟨b, off, e, _, h3⟩
  · subst h0
    simp at hlt
  · cases e
    have hj : i / 3 < xs.length := by omega
    have hc : xs[i / 3].cells[i % 3]? = some u := by
      have hlen : i % 3 < xs[i / 3].cells.length := by show _ < 3; omega
      have h4 := flatPr_get xs (i / 3) hj (i % 3) _ (List.getElem?_eq_getElem hlen)
      rw [show i / 3 * 3 + i % 3 = i by omega] at h4
      rw [hu] at h4
      rw [List.getElem?_eq_getElem hlen, h4]
    have h5 := h3 (i / 3) hj (i % 3) u hc
    rw [Addr.add_lit]
    rw [show off + i / 3 * 3 + i % 3 = off + i by omega] at h5
    exact h5
theorem flatPr_one (xs : List PairV) : ∀ u ∈ flatPp xs, u.oneCell' = true := by
  intro u hu
  obtain ⟨x, _, hx⟩ := List.mem_flatMap.1 hu
  exact pr_one x u hx
/-- append of orders to a row of the call's own, in a region that draws its order. -/
theorem step_append_pk {ops : Array Oper} {o : Oper} {a : Act} {w : World} {K : Act → World → Prop} {Q : Exit → Act → World → Prop} {E : Prop} (hgd : o.guard = none) (s x : Operand)
    (ho : o.op = .call { callee := .builtin .append, args := #[s, x], argTypes := #[22, 22] })
    (base : Nat) (v : Value) (n : Nat) (ds : List PairV) (hn : ds.length = n) (hs : a.eval s = v) (hown : w.ownsRow base 35 3 v n (flatPp ds))
    (ao : Option Addr) (m c : Nat) (xs : List PairV) (hm : xs.length = m) (hx : a.eval x = .slice ao m c) (hh : HeldPp w ao xs) (hsum : n + m ≤ 100000000) (hbase : base ≤ w.heap.size)
    (h : ∀ bo cp w', w'.ownsRow base 35 3 (.slice bo (n + m) cp) (n + m) (flatPp (ds ++ xs)) → Below base w w' → w.grownBy w' v.ownBlock → K (a.put o.dst (.slice bo (n + m) cp)) w') :
    if Region.wanted o (yielded ops a.tmps) = true then Oper.wp Try.prog o a w K Q else E := by
  have hw : Region.wanted o (yielded ops a.tmps) = true := by simp [Region.wanted, hgd]
  rw [if_pos hw]
  obtain ⟨iI, hj, hy0, hy1, hy2⟩ := info_parts Try.infoPr
  cases ao with
  | none =>
    have hx0 : xs = [] := by
      rcases hh with h0 | ⟨b, off, e, _⟩
      · exact h0
      · cases e
    subst hx0
    obtain rfl : 0 = m := hm
    have hr := run_append_nonePp (P := Try.prog) w base 22 o.type 35 iI 3 Try.underlying22 hj v n c _ hown
    rw [List.append_nil] at h
    simp only [Nat.add_zero] at h
    obtain ⟨eo, cap, hv, _, _⟩ := heldPp_of_own hn hown
    unfold Oper.wp execOp
    simp only [ho, resolve, invoke, builtin, Sem.run_bind, Sem.run_pure, Result.andThen_ok, List.map_toArray, List.map_cons, List.map_nil, hs, hx, hr]
    have := h eo cap w (by rw [← hv]; exact hown) (Below.refl _ _) (World.grownBy.refl _ _)
    rw [← hv] at this
    exact this
  | some ad =>
    obtain ⟨v', w', hr, hown', hgrow, _, _⟩ := run_append_own_at (P := Try.prog) w base 22 o.type 35 iI _ 3 32 Try.underlying22 hj hy0 hy1 hy2 rfl (by decide) v n (flatPp ds) hown ad m c (flatPp xs) (by rw [flatPp_len, hm]) hh.news (flatPr_one xs) (by unfold maxLen; omega) (by omega) hbase
    unfold Oper.wp execOp
    simp only [ho, resolve, invoke, builtin, Sem.run_bind, Sem.run_pure, Result.andThen_ok, List.map_toArray, List.map_cons, List.map_nil, hs, hx, hr]
    rw [show flatPp ds ++ flatPp xs = flatPp (ds ++ xs) by simp [flatPp]] at hown'
    have hb : Below base w w' := (Below.refl _ _).grown hgrow hbase (fun k hk => (hown.lt k hk).1)
    obtain ⟨bo, cp, rfl, _, _⟩ := heldPp_of_own (by rw [List.length_append, hn, hm]) hown'
    exact h bo cp w' hown' hb hgrow
theorem step_copy_pk {ops : Array Oper} {o : Oper} {a : Act} {w : World} {K : Act → World → Prop} {Q : Exit → Act → World → Prop} {E : Prop} (hgd : o.guard = none) (s x : Operand)
    (ho : o.op = .call { callee := .builtin .append, args := #[s, x], argTypes := #[22, 22] })
    (base : Nat) (g : Nat) (hs : a.eval s = .slice (some ⟨g, 0, none⟩) 0 0) (hown : w.ownsRow base 35 3 (.slice (some ⟨g, 0, none⟩) 0 0) 0 (flatPp []))
    (ao : Option Addr) (m c : Nat) (xs : List PairV) (hm : xs.length = m) (hx : a.eval x = .slice ao m c) (hh : HeldPp w ao xs) (hsum : m ≤ 100000000) (hbase : base ≤ w.heap.size)
    (h : ∀ bo cp w', w'.ownsRow base 35 3 (.slice bo m cp) m (flatPp xs) → Below base w w' → w.grownBy w' (some g) → K (a.put o.dst (.slice bo m cp)) w') :
    if Region.wanted o (yielded ops a.tmps) = true then Oper.wp Try.prog o a w K Q else E := by
  refine step_append_pk hgd s x ho base _ 0 [] rfl hs hown ao m c xs hm hx hh (by omega) hbase ?_
  intro bo cp w' h1 h2 h3
  rw [Nat.zero_add] at h1 ⊢
  exact h bo cp w' h1 h2 h3
theorem ownPk_made (w : World) (B : Nat) (hB : B ≤ w.heap.size) : (w.alloc (.cells #[] 35)).ownsRow B 35 3 (.slice (some ⟨w.heap.size, 0, none⟩) 0 0) 0 (flatPp []) :=
  ⟨rfl, .inr ⟨w.heap.size, 0, #[], rfl, hB, World.alloc_heap_new w _, Nat.le_refl _, Nat.zero_le _, rfl, rfl⟩⟩
theorem ownPk_made2 (w : World) (o : Obj) (B : Nat) (hB : B ≤ w.heap.size) : ((w.alloc o).alloc (.cells #[] 35)).ownsRow B 35 3 (.slice (some ⟨w.heap.size + 1, 0, none⟩) 0 0) 0 (flatPp []) := by
  have := ownPk_made (w.alloc o) B (by simp; omega)
  rw [World.size_alloc] at this
  exact this
theorem held_newPp (V : World) (x : PairV) : HeldPp (V.alloc (.cells x.cells.toArray 35)) (some ⟨V.heap.size, 0, none⟩) [x] := .inr ⟨V.heap.size, 0, rfl, by simp, fun j hj c u hu => by
  have hj0 : j = 0 := by simp at hj; exact hj
  subst hj0
  have h1 := (Blk.new V 35 x.cells).cell hu
  simpa using h1⟩
theorem held_grownPp {w w' : World} {b g : Nat} {xs : List PairV} (h : HeldPp w (some ⟨b, 0, none⟩) xs) (hg : w.grownBy w' (some g)) (hne : b ≠ g) : HeldPp w' (some ⟨b, 0, none⟩) xs := by
  rcases h with h0 | ⟨b', off, e, h2, h3⟩
  · exact .inl h0
  · cases e
    refine .inr ⟨b, 0, rfl, Nat.lt_of_lt_of_le h2 hg.size, fun j hj c u hu => ?_⟩
    have h4 := h3 j hj c u hu
    have h5 := hg.block b h2 (by simpa using hne)
    unfold World.cell? at h4 ⊢
    rw [h5]
    exact h4

theorem ownsRow_baseN {w : World} {B B' e size n : Nat} {v : Value} {xs : List Value} (h : w.ownsRow B e size v n xs) (hB : B' ≤ B) : w.ownsRow B' e size v n xs := by
  refine ⟨h.1, ?_⟩
  rcases h.2 with h0 | ⟨g, cap, cur, h1, h2, h3⟩
  · exact .inl h0
  · exact .inr ⟨g, cap, cur, h1, Nat.le_trans hB h2, h3⟩
/-- The document's set: its block x, its row behind B. -/
structure RsAt (w : World) (B x : Nat) (ps : List PairV) (eo : Option Addr) (cap : Nat) : Prop where
  blk : Blk w x 30 [.slice eo ps.length cap]
  row : w.ownsRow B 35 3 (.slice eo ps.length cap) ps.length (flatPp ps)
  few : ps.length ≤ 65536
theorem RsAt.turned {F : Nat → Prop} {w w' : World} {B x : Nat} {ps : List PairV} {eo : Option Addr} {cap : Nat} (h : RsAt w B x ps eo cap) (ht : Turns F w w') (hx : ¬ F x) (hr : ∀ k, (Value.slice eo ps.length cap).ownBlock = some k → ¬ F k) : RsAt w' B x ps eo cap :=
  ⟨ht.blk h.blk hx, ht.row h.row hr, h.few⟩
theorem RsAt.below {w w' : World} {B x : Nat} {ps : List PairV} {eo : Option Addr} {cap : Nat} (h : RsAt w B x ps eo cap) (hb : Below w.heap.size w w') : RsAt w' B x ps eo cap :=
  h.turned (F := fun _ => False) (Turns.of_below hb (Nat.le_refl _)) (fun h => h) (fun _ _ h => h)
theorem RsAt.held {w : World} {B x : Nat} {ps : List PairV} {eo : Option Addr} {cap : Nat} (h : RsAt w B x ps eo cap) : HeldPp w eo ps ∧ ps.length ≤ cap := by
  obtain ⟨ao, cp, he, h1, h2⟩ := heldPp_of_own rfl h.row
  cases he
  exact ⟨h2, h1⟩
/-- What the document's set says of a dot: the first of that dot. -/
def pget (ps : List PairV) (o s : Int) : Option ByteArray := (ps.find? (fun q => q.o == o && q.s == s)).map (·.t)
def NoDot (ps : List PairV) (o s : Int) (k : Nat) : Prop := ∀ j (h : j < ps.length), j < k → ¬ (ps[j].o = o ∧ ps[j].s = s)
theorem pget_hit {ps : List PairV} {o s : Int} {k : Nat} (hk : k < ps.length) (h : NoDot ps o s k) (he : ps[k].o = o ∧ ps[k].s = s) : pget ps o s = some ps[k].t := by
  unfold pget
  have : ps.find? (fun q => q.o == o && q.s == s) = some ps[k] := by
    rw [List.find?_eq_some_iff_getElem]
    exact ⟨by simp [he.1, he.2], k, hk, rfl, fun j hj => by
      have := h j (by omega) hj
      simp only [Bool.not_eq_true', Bool.and_eq_false_iff, beq_eq_false_iff_ne]
      by_cases e : ps[j].o = o
      · exact .inr (fun e2 => this ⟨e, e2⟩)
      · exact .inl e⟩
  rw [this]
  rfl
theorem pget_miss {ps : List PairV} {o s : Int} (h : NoDot ps o s ps.length) : pget ps o s = none := by
  unfold pget
  have : ps.find? (fun q => q.o == o && q.s == s) = none := by
    rw [List.find?_eq_none]
    intro q hq
    obtain ⟨j, hj, rfl⟩ := List.getElem_of_mem hq
    have := h j hj hj
    simp only [Bool.and_eq_true, beq_iff_eq]
    exact this
  rw [this]
  rfl
set_option maxRecDepth 100000 in
theorem RsAt.get {w : World} {B x : Nat} {ps : List PairV} {eo : Option Addr} {cap : Nat} (h : RsAt w B x ps eo cap) (o s : Int) : Calls Try.prog 10 #[.pointer (some ⟨x, 0, none⟩), .agg #[.int .i64 o, .int .i64 s]] w fun e w' => e = .returned (.tuple #[.string ((pget ps o s).getD ⟨#[]⟩), .bool (pget ps o s).isSome]) ∧ Below w.heap.size w w' := by
  have H := hid h
  obtain ⟨n, HN⟩ : ∃ n, Hid (ps.length = n) := ⟨_, hid rfl⟩
  have HF : Hid (n ≤ 65536) := by rw [← HN.out]; exact h.few
  obtain ⟨W1, hW1⟩ : ∃ V, V = w.alloc (.cells #[.int .i64 o, .int .i64 s] 25) := ⟨_, rfl⟩
  have hb1 : Below w.heap.size w W1 := by rw [hW1]; exact (Below.refl _ _).alloc (Nat.le_refl _) _
  have HB1 := hid hb1
  have HBX : Hid (Blk W1 w.heap.size 25 [.int .i64 o, .int .i64 s]) := by rw [hW1]; exact Blk.new _ _ _
  obtain ⟨qd, hqd⟩ : ∃ q, q = w.heap.size := ⟨_, rfl⟩
  rw [← hqd] at HBX
  have HW1 := hid hW1
  have HQD := hid hqd
  clear h hW1 hb1 hqd
  have HROW := hid (H.out.below HB1.out).held.1
  have c1 := (H.out.below HB1.out).blk.cell (i := 0) rfl
  have d0 := HBX.out.cell (i := 0) rfl
  have d1 := HBX.out.cell (i := 1) rfl
  rw [HN.out] at c1
  go_enter Try.func10, Try.ntmps10
  go_wp2
  rw [← HW1.out, ← HQD.out]
  go_loopw [6] (fun i wr => ∃ k : Nat, k ≤ n ∧ i = .int .i64 k ∧ Hid (NoDot ps o s k) ∧ Hid (Below W1.heap.size W1 wr)) (fun i _ => n - (intOf i).toNat)
  case atStart => exact ⟨0, Nat.zero_le _, rfl, fun j _ h => (by omega), Below.refl _ _⟩
  case round =>
    obtain ⟨k, hk, rfl, HR, HBW⟩ := hrel
    have e1 := ((H.out.below HB1.out).below HBW.out).blk.cell (i := 0) rfl
    have f0 := (HBX.out.below HBW.out HBX.out.lt).cell (i := 0) rfl
    have f1 := (HBX.out.below HBW.out HBX.out.lt).cell (i := 1) rfl
    rw [HN.out] at e1
    by_cases hlt : k < n
    · have hlt' : (k : Int) < (n : Int) := by omega
      have HKX : Hid (k < ps.length) := by rw [HN.out]; exact hlt
      have HKM : Hid (k + 1 ≤ n) := (by omega : k + 1 ≤ n)
      have hwk : wrap64 ((k : Int) + 1) = (k : Int) + 1 := wrapN (by omega) (by have := HF.out; omega)
      obtain ⟨b, off, hao, _, a0, a1, a2⟩ := (HROW.out.below HBW.out).cellsD HKX.out
      obtain ⟨⟨qo, qs, qt⟩, HQ⟩ : ∃ z, Hid (ps[k]'HKX.out = z) := ⟨_, hid rfl⟩
      rw [HQ.out] at a0 a1 a2
      subst hao
      by_cases he : qo = o ∧ qs = s
      · have HE : Hid (pget ps o s = some qt) := by
          have := pget_hit HKX.out HR.out (by rw [HQ.out]; exact he)
          rw [HQ.out] at this
          exact this
        obtain ⟨rfl, rfl⟩ := he
        have HBE := hid (btN HB1.out HBW.out)
        clear c1 d0 d1
        go_wp2
        go_quiet (fail)
        go_wp2
        go_ret2
        exact ⟨by rw [HE.out]; rfl, below_dn HBE.out _⟩
      · have HGO : Hid (NoDot ps o s (k + 1)) := fun j hj hjk => by
          by_cases e : j = k
          · subst e; rw [HQ.out]; exact he
          · exact HR.out j hj (by omega)
        have HBE := hid HBW.out
        by_cases he1 : qo = o
        · have he2 : (qs == s) = false := beq_eq_false_iff_ne.2 (fun e => he ⟨he1, e⟩)
          subst he1
          clear he c1 d0 d1
          go_wp2
          go_quiet (fail)
          go_wp2
          go_roundw
          case rel => exact ⟨k + 1, HKM.out, by go_num, HGO.out, below_dn HBE.out _⟩
          case measure => first | exact measNW HKM.out hwk | exact measN1 HKM.out
        · have he2 : (qo == o) = false := beq_eq_false_iff_ne.2 he1
          clear he he1 c1 d0 d1
          go_wp2
          go_quiet (fail)
          go_wp2
          go_roundw
          case rel => exact ⟨k + 1, HKM.out, by go_num, HGO.out, below_dn HBE.out _⟩
          case measure => first | exact measNW HKM.out hwk | exact measN1 HKM.out
    · have hlt' : ¬ (k : Int) < (n : Int) := by omega
      have HE : Hid (pget ps o s = none) := pget_miss (fun j hj _ => HR.out j hj (by have := HN.out; omega))
      have HBE := hid (btN HB1.out HBW.out)
      go_wp2
      go_ret2
      exact ⟨by rw [HE.out]; rfl, HBE.out⟩
end Go.Proofs.Ytplecopphddjhaa
