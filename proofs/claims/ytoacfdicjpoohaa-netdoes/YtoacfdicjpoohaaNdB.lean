/-
  Packets appended in a drawn region; the document's bag in memory; its find, At, To.
-/
import Derived.Test.YtoacfdicjpoohaaNdA
import Derived.Test.YtoacfdicjpoohaaOrdK
import Derived.Deep.AppendLies
import Derived.Deep.RegionLaw
import Derived.Deep.QuietTactic
import Derived.BigQuiet
namespace Go.Proofs.Ytoacfdicjpoohaa
open Go.RowKit Go.Maps

theorem btN {a b c : World} (h : Below a.heap.size a b) (k : Below b.heap.size b c) : Below a.heap.size a c := h.trans (k.mono h.size)
theorem wrapN {x : Int} (h0 : -9223372036854775808 ≤ x) (h1 : x ≤ 9223372036854775807) : wrap64 x = x := by unfold wrap64; omega
theorem measNW {n k : Nat} (h : k + 1 ≤ n) (hw : wrap64 ((k : Int) + 1) = (k : Int) + 1) : n - (intOf (.int .i64 (wrap64 ((k : Int) + 1)))).toNat < n - (intOf (.int .i64 (k : Int))).toNat := by
  rw [hw]
  simp [intOf]
  omega
theorem measN1 {n k : Nat} (h : k + 1 ≤ n) : n - (intOf (.int .i64 ((k : Int) + 1))).toNat < n - (intOf (.int .i64 (k : Int))).toNat := by
  simp [intOf]
  omega
theorem run_append_nonePk {P : Program} (w : World) (base : Nat) (t ty e : TypeId) (i : TypeInfo) (size : Nat) (ht : P.underlying t = some (.slice e)) (hi : P.info? e = some i)
    (v : Value) (n c : Nat) (xs : List Value) (hown : w.ownsRow base e size v n xs) : (Builtin.append_ #[t, t] ty #[v, .slice none 0 c]).run P w = .ok v w := by
  rcases hown.2 with ⟨rfl, rfl⟩ | ⟨g, cap, cur, rfl, _, _, hnc, _⟩
  · simp [Builtin.append_, run_underlying ht, sizeOf, typeInfo, hi, Builtin.lenOf, Builtin.firstCells]
  · simp [Builtin.append_, run_underlying ht, sizeOf, typeInfo, hi, Builtin.lenOf, Builtin.firstCells, hnc, storeCells]


structure ScN (W V : World) : Prop where
  out : Below W.heap.size W V
theorem ScN.start (W : World) : ScN W W := ⟨Below.refl _ _⟩
theorem ScN.go {W V U : World} (h : ScN W V) (hb : Below V.heap.size V U) : ScN W U := ⟨btN h.out hb⟩
theorem ScN.dr {W V : World} (h : ScN W V) : ScN W V.drew := ⟨h.out.drew⟩
theorem ScN.alloc {W V : World} (h : ScN W V) (o : Obj) : ScN W (V.alloc o) := ⟨h.out.alloc h.out.size _⟩
theorem ScN.grown {W V U : World} (h : ScN W V) (hb : Below W.heap.size V U) : ScN W U := ⟨h.out.trans hb⟩
theorem ScN.size {W V : World} (h : ScN W V) : W.heap.size ≤ V.heap.size := h.out.size
theorem flatPk_get : ∀ (xs : List Pk) (j : Nat) (hj : j < xs.length) (c : Nat) (u : Value), xs[j].cells[c]? = some u → (flat xs)[j * 4 + c]? = some u
  | [], j, hj, _, _, _ => by cases hj
  | x :: r, 0, _, c, u, h => by
    simp only [List.getElem_cons_zero] at h
    have hc : c < 4 := (List.getElem?_eq_some_iff.1 h).1
    unfold flat
    rw [List.flatMap_cons, Nat.zero_mul, Nat.zero_add, List.getElem?_append_left (show c < 4 from hc)]
    exact h
  | x :: r, j + 1, hj, c, u, h => by
    simp only [List.getElem_cons_succ] at h
    have := flatPk_get r j (by simpa using hj) c u h
    unfold flat at this ⊢
    rw [List.flatMap_cons, List.getElem?_append_right (show x.cells.length ≤ _ by show 4 ≤ _; omega)]
    rw [show (j + 1) * 4 + c - x.cells.length = j * 4 + c by show _ - 4 = _; omega]
    exact this
/-- The cells of a row of packets. -/
def HeldPk (w : World) (ao : Option Addr) (xs : List Pk) : Prop :=
  xs = [] ∨ ∃ b off, ao = some ⟨b, off, none⟩ ∧ b < w.heap.size ∧ ∀ j (hj : j < xs.length) c u, xs[j].cells[c]? = some u → w.cell? ⟨b, off + j * 4 + c, none⟩ = some u
theorem HeldPk.below {w w' : World} {ao : Option Addr} {xs : List Pk} (h : HeldPk w ao xs) (hb : Below w.heap.size w w') : HeldPk w' ao xs := by
  rcases h with h0 | ⟨b, off, h1, h2, h3⟩
  · exact .inl h0
  · exact .inr ⟨b, off, h1, Nat.lt_of_lt_of_le h2 hb.size, fun j hj c u hu => (hb.cell (p := ⟨b, off + j * 4 + c, none⟩) h2).trans (h3 j hj c u hu)⟩
theorem HeldPk.take {w : World} {ao : Option Addr} {xs : List Pk} (h : HeldPk w ao xs) (k : Nat) : HeldPk w ao (xs.take k) := by
  rcases h with h0 | ⟨b, off, h1, h2, h3⟩
  · left; rw [h0]; simp
  · refine .inr ⟨b, off, h1, h2, fun j hj c u hu => ?_⟩
    rw [List.length_take] at hj
    exact h3 j (by omega) c u (by rw [List.getElem_take] at hu; exact hu)
theorem HeldPk.drop {w : World} {b off : Nat} {xs : List Pk} (h : HeldPk w (some ⟨b, off, none⟩) xs) (k : Nat) : HeldPk w (some ⟨b, off + k * 4, none⟩) (xs.drop k) := by
  rcases h with h0 | ⟨b', off', h1, h2, h3⟩
  · left; rw [h0]; simp
  · cases h1
    refine .inr ⟨b, off + k * 4, rfl, h2, fun j hj c u hu => ?_⟩
    rw [List.length_drop] at hj
    have := h3 (k + j) (by omega) c u (by rw [List.getElem_drop] at hu; exact hu)
    rw [show off + (k + j) * 4 + c = off + k * 4 + j * 4 + c by rw [Nat.add_mul]; omega] at this
    exact this
theorem held_dropPk {w : World} {b off cap : Nat} {xs : List Pk} (h : HeldPk w (some ⟨b, off, none⟩) xs) (k : Nat) (hc : xs.length ≤ cap) : HeldPk w (if cap = k then some ⟨b, off, none⟩ else some ⟨b, off + k * 4, none⟩) (xs.drop k) := by
  split
  · exact .inl (List.drop_eq_nil_of_le (by omega))
  · exact h.drop k
theorem HeldPk.cellsD {w : World} {ao : Option Addr} {xs : List Pk} (h : HeldPk w ao xs) {k : Nat} (hk : k < xs.length) : ∃ b off, ao = some ⟨b, off, none⟩ ∧ b < w.heap.size ∧ w.cell? ⟨b, off + k * 4, none⟩ = some (.int .i64 xs[k].id) ∧ w.cell? ⟨b, off + k * 4 + 1, none⟩ = some (.int .i64 xs[k].frm) ∧ w.cell? ⟨b, off + k * 4 + 2, none⟩ = some (.int .i64 xs[k].dst) ∧ w.cell? ⟨b, off + k * 4 + 3, none⟩ = some (.string xs[k].body) := by
  rcases h with h0 | ⟨b, off, h1, h2, h3⟩
  · subst h0
    cases hk
  · exact ⟨b, off, h1, h2, h3 k hk 0 _ rfl, h3 k hk 1 _ rfl, h3 k hk 2 _ rfl, h3 k hk 3 _ rfl⟩
theorem own_formPk {w : World} {B e n : Nat} {v : Value} {xs : List Value} {k : Nat} (h : w.ownsRow B e k v n xs) :
    ∃ eo cap, v = .slice eo n cap ∧ n ≤ cap ∧ (0 < n → ∃ g, eo = some ⟨g, 0, none⟩ ∧ B ≤ g ∧ g < w.heap.size ∧ ∀ j u, xs[j]? = some u → w.cell? ⟨g, j, none⟩ = some u) := by
  rcases h.2 with ⟨rfl, rfl⟩ | ⟨g, cap, cur, rfl, hbg, hg, hnc, _⟩
  · exact ⟨none, 0, rfl, Nat.le_refl _, fun h0 => by omega⟩
  · refine ⟨some ⟨g, 0, none⟩, cap, rfl, hnc, fun _ => ⟨g, rfl, hbg, (Array.getElem?_eq_some_iff.1 hg).1, fun j u hu => ?_⟩⟩
    have := h.cells (g := g) rfl j u hu
    simpa [Addr.add_lit] using this
theorem heldPk_of_own {w : World} {B : Nat} {v : Value} {xs : List Pk} {n : Nat} (hn : xs.length = n) (h : w.ownsRow B 36 4 v n (flat xs)) : ∃ ao cap, v = .slice ao n cap ∧ n ≤ cap ∧ HeldPk w ao xs := by
  subst hn
  obtain ⟨eo, cap, rfl, hnc, hc⟩ := own_formPk h
  refine ⟨eo, cap, rfl, hnc, ?_⟩
  by_cases h0 : xs = []
  · exact .inl h0
  · obtain ⟨g, rfl, _, hg, hcell⟩ := hc (List.length_pos_iff.2 h0)
    refine .inr ⟨g, 0, rfl, hg, fun j hj c u hu => ?_⟩
    rw [Nat.zero_add]
    exact hcell _ _ (flatPk_get xs j hj c u hu)
theorem HeldPk.news {w : World} {ad : Addr} {xs : List Pk} (h : HeldPk w (some ad) xs) : ∀ j u, (flat xs)[j]? = some u → w.cell? (ad.add j) = some u := by
  intro i u hu
  have hlt := (List.getElem?_eq_some_iff.1 hu).1
  rw [flat_len] at hlt
  rcases h with h0 | ⟨b, off, e, _, h3⟩
  · subst h0
    simp at hlt
  · cases e
    have hj : i / 4 < xs.length := by omega
    have hc : xs[i / 4].cells[i % 4]? = some u := by
      have hlen : i % 4 < xs[i / 4].cells.length := by show _ < 4; omega
      have h4 := flatPk_get xs (i / 4) hj (i % 4) _ (List.getElem?_eq_getElem hlen)
      rw [show i / 4 * 4 + i % 4 = i by omega] at h4
      rw [hu] at h4
      rw [List.getElem?_eq_getElem hlen, h4]
    have h5 := h3 (i / 4) hj (i % 4) u hc
    rw [Addr.add_lit]
    rw [show off + i / 4 * 4 + i % 4 = off + i by omega] at h5
    exact h5
theorem flatPk_one (xs : List Pk) : ∀ u ∈ flat xs, u.oneCell' = true := by
  intro u hu
  obtain ⟨x, _, hx⟩ := List.mem_flatMap.1 hu
  exact pk_one x u hx
/-- append of orders to a row of the call's own, in a region that draws its order. -/
theorem step_append_pk {ops : Array Oper} {o : Oper} {a : Act} {w : World} {K : Act → World → Prop} {Q : Exit → Act → World → Prop} {E : Prop} (hgd : o.guard = none) (s x : Operand)
    (ho : o.op = .call { callee := .builtin .append, args := #[s, x], argTypes := #[49, 49] })
    (base : Nat) (v : Value) (n : Nat) (ds : List Pk) (hn : ds.length = n) (hs : a.eval s = v) (hown : w.ownsRow base 36 4 v n (flat ds))
    (ao : Option Addr) (m c : Nat) (xs : List Pk) (hm : xs.length = m) (hx : a.eval x = .slice ao m c) (hh : HeldPk w ao xs) (hsum : n + m ≤ 100000000) (hbase : base ≤ w.heap.size)
    (h : ∀ bo cp w', w'.ownsRow base 36 4 (.slice bo (n + m) cp) (n + m) (flat (ds ++ xs)) → Below base w w' → w.grownBy w' v.ownBlock → K (a.put o.dst (.slice bo (n + m) cp)) w') :
    if Region.wanted o (yielded ops a.tmps) = true then Oper.wp Try.prog o a w K Q else E := by
  have hw : Region.wanted o (yielded ops a.tmps) = true := by simp [Region.wanted, hgd]
  rw [if_pos hw]
  obtain ⟨iI, hj, hy0, hy1, hy2⟩ := info_parts Try.infoPk
  cases ao with
  | none =>
    have hx0 : xs = [] := by
      rcases hh with h0 | ⟨b, off, e, _⟩
      · exact h0
      · cases e
    subst hx0
    obtain rfl : 0 = m := hm
    have hr := run_append_nonePk (P := Try.prog) w base 49 o.type 36 iI 4 Try.underlying49 hj v n c _ hown
    rw [List.append_nil] at h
    simp only [Nat.add_zero] at h
    obtain ⟨eo, cap, hv, _, _⟩ := heldPk_of_own hn hown
    unfold Oper.wp execOp
    simp only [ho, resolve, invoke, builtin, Sem.run_bind, Sem.run_pure, Result.andThen_ok, List.map_toArray, List.map_cons, List.map_nil, hs, hx, hr]
    have := h eo cap w (by rw [← hv]; exact hown) (Below.refl _ _) (World.grownBy.refl _ _)
    rw [← hv] at this
    exact this
  | some ad =>
    obtain ⟨v', w', hr, hown', hgrow, _, _⟩ := run_append_own_at (P := Try.prog) w base 49 o.type 36 iI _ 4 40 Try.underlying49 hj hy0 hy1 hy2 rfl (by decide) v n (flat ds) hown ad m c (flat xs) (by rw [flat_len, hm]) hh.news (flatPk_one xs) (by unfold maxLen; omega) (by omega) hbase
    unfold Oper.wp execOp
    simp only [ho, resolve, invoke, builtin, Sem.run_bind, Sem.run_pure, Result.andThen_ok, List.map_toArray, List.map_cons, List.map_nil, hs, hx, hr]
    rw [show flat ds ++ flat xs = flat (ds ++ xs) by simp [flat]] at hown'
    have hb : Below base w w' := (Below.refl _ _).grown hgrow hbase (fun k hk => (hown.lt k hk).1)
    obtain ⟨bo, cp, rfl, _, _⟩ := heldPk_of_own (by rw [List.length_append, hn, hm]) hown'
    exact h bo cp w' hown' hb hgrow
theorem step_copy_pk {ops : Array Oper} {o : Oper} {a : Act} {w : World} {K : Act → World → Prop} {Q : Exit → Act → World → Prop} {E : Prop} (hgd : o.guard = none) (s x : Operand)
    (ho : o.op = .call { callee := .builtin .append, args := #[s, x], argTypes := #[49, 49] })
    (base : Nat) (g : Nat) (hs : a.eval s = .slice (some ⟨g, 0, none⟩) 0 0) (hown : w.ownsRow base 36 4 (.slice (some ⟨g, 0, none⟩) 0 0) 0 (flat []))
    (ao : Option Addr) (m c : Nat) (xs : List Pk) (hm : xs.length = m) (hx : a.eval x = .slice ao m c) (hh : HeldPk w ao xs) (hsum : m ≤ 100000000) (hbase : base ≤ w.heap.size)
    (h : ∀ bo cp w', w'.ownsRow base 36 4 (.slice bo m cp) m (flat xs) → Below base w w' → w.grownBy w' (some g) → K (a.put o.dst (.slice bo m cp)) w') :
    if Region.wanted o (yielded ops a.tmps) = true then Oper.wp Try.prog o a w K Q else E := by
  refine step_append_pk hgd s x ho base _ 0 [] rfl hs hown ao m c xs hm hx hh (by omega) hbase ?_
  intro bo cp w' h1 h2 h3
  rw [Nat.zero_add] at h1 ⊢
  exact h bo cp w' h1 h2 h3
theorem ownPk_made (w : World) (B : Nat) (hB : B ≤ w.heap.size) : (w.alloc (.cells #[] 36)).ownsRow B 36 4 (.slice (some ⟨w.heap.size, 0, none⟩) 0 0) 0 (flat []) :=
  ⟨rfl, .inr ⟨w.heap.size, 0, #[], rfl, hB, World.alloc_heap_new w _, Nat.le_refl _, Nat.zero_le _, rfl, rfl⟩⟩
theorem ownPk_made2 (w : World) (o : Obj) (B : Nat) (hB : B ≤ w.heap.size) : ((w.alloc o).alloc (.cells #[] 36)).ownsRow B 36 4 (.slice (some ⟨w.heap.size + 1, 0, none⟩) 0 0) 0 (flat []) := by
  have := ownPk_made (w.alloc o) B (by simp; omega)
  rw [World.size_alloc] at this
  exact this
theorem held_newPk (V : World) (x : Pk) : HeldPk (V.alloc (.cells x.cells.toArray 36)) (some ⟨V.heap.size, 0, none⟩) [x] := .inr ⟨V.heap.size, 0, rfl, by simp, fun j hj c u hu => by
  have hj0 : j = 0 := by simp at hj; exact hj
  subst hj0
  have h1 := (Blk.new V 36 x.cells).cell hu
  simpa using h1⟩
theorem held_grownPk {w w' : World} {b g : Nat} {xs : List Pk} (h : HeldPk w (some ⟨b, 0, none⟩) xs) (hg : w.grownBy w' (some g)) (hne : b ≠ g) : HeldPk w' (some ⟨b, 0, none⟩) xs := by
  rcases h with h0 | ⟨b', off, e, h2, h3⟩
  · exact .inl h0
  · cases e
    refine .inr ⟨b, 0, rfl, Nat.lt_of_lt_of_le h2 hg.size, fun j hj c u hu => ?_⟩
    have h4 := h3 j hj c u hu
    have h5 := hg.block b h2 (by simpa using hne)
    unfold World.cell? at h4 ⊢
    rw [h5]
    exact h4

theorem ownsRow_baseN {w : World} {B B' e size n : Nat} {v : Value} {xs : List Value} (h : w.ownsRow B e size v n xs) (hB : B' ≤ B) : w.ownsRow B' e size v n xs := by
  refine ⟨h.1, ?_⟩
  rcases h.2 with h0 | ⟨g, cap, cur, h1, h2, h3⟩
  · exact .inl h0
  · exact .inr ⟨g, cap, cur, h1, Nat.le_trans hB h2, h3⟩
/-- The document's bag: its block x, its row behind B. -/
structure RnAt (w : World) (B x : Nat) (g : Nt) (eo : Option Addr) (cap : Nat) : Prop where
  blk : Blk w x 51 [.int .i64 g.nodes, .slice eo g.ps.length cap, .int .i64 g.last]
  row : w.ownsRow B 36 4 (.slice eo g.ps.length cap) g.ps.length (flat g.ps)
  few : g.ps.length ≤ 65536
  ok : NtOk g
theorem RnAt.turned {F : Nat → Prop} {w w' : World} {B x : Nat} {g : Nt} {eo : Option Addr} {cap : Nat} (h : RnAt w B x g eo cap) (ht : Turns F w w') (hx : ¬ F x) (hr : ∀ k, (Value.slice eo g.ps.length cap).ownBlock = some k → ¬ F k) : RnAt w' B x g eo cap :=
  ⟨ht.blk h.blk hx, ht.row h.row hr, h.few, h.ok⟩
theorem RnAt.below {w w' : World} {B x : Nat} {g : Nt} {eo : Option Addr} {cap : Nat} (h : RnAt w B x g eo cap) (hb : Below w.heap.size w w') : RnAt w' B x g eo cap :=
  h.turned (F := fun _ => False) (Turns.of_below hb (Nat.le_refl _)) (fun h => h) (fun _ _ h => h)
theorem RnAt.held {w : World} {B x : Nat} {g : Nt} {eo : Option Addr} {cap : Nat} (h : RnAt w B x g eo cap) : HeldPk w eo g.ps ∧ g.ps.length ≤ cap := by
  obtain ⟨ao, cp, he, h1, h2⟩ := heldPk_of_own rfl h.row
  cases he
  exact ⟨h2, h1⟩
/-- Where a packet of that Id stands first. -/
def NoId (ps : List Pk) (x : Int) (k : Nat) : Prop := ∀ j (h : j < ps.length), j < k → ps[j].id ≠ x
def findN (ps : List Pk) (x : Int) : Int := if ps.findIdx (fun q => q.id == x) < ps.length then (ps.findIdx (fun q => q.id == x) : Int) else -1
theorem findN_hit {ps : List Pk} {x : Int} {k : Nat} (hk : k < ps.length) (h : NoId ps x k) (he : ps[k].id = x) : findN ps x = (k : Int) := by
  have : ps.findIdx (fun q => q.id == x) = k := by
    rw [List.findIdx_eq hk]
    exact ⟨by simpa using he, fun j hj => by simpa using h j (by omega) hj⟩
  unfold findN
  rw [this, if_pos hk]
theorem findN_miss {ps : List Pk} {x : Int} (h : NoId ps x ps.length) : findN ps x = -1 := by
  unfold findN
  rw [if_neg]
  intro hl
  have := List.findIdx_getElem (w := hl)
  exact h _ hl hl (by simpa using this)
set_option maxRecDepth 100000 in
theorem RnAt.find {w : World} {B x : Nat} {g : Nt} {eo : Option Addr} {cap : Nat} (h : RnAt w B x g eo cap) (id : Int) : Calls Try.prog 26 #[.pointer (some ⟨x, 0, none⟩), .int .i64 id] w fun e w' => e = .returned (.int .i64 (findN g.ps id)) ∧ w' = w := by
  have c1 := h.blk.cell (i := 1) rfl
  have HH := hid h.held.1
  obtain ⟨n, HN⟩ : ∃ n, Hid (g.ps.length = n) := ⟨_, hid rfl⟩
  have HF : Hid (n ≤ 65536) := by rw [← HN.out]; exact h.few
  rw [HN.out] at c1
  clear h
  go_enter Try.func26, Try.ntmps26
  go_wp2
  go_loop [5] (fun i => ∃ k : Nat, k ≤ n ∧ i = .int .i64 k ∧ Hid (NoId g.ps id k)) (fun i => n - (intOf i).toNat)
  case atStart => exact ⟨0, Nat.zero_le _, rfl, fun j _ h => (by omega)⟩
  case round =>
    obtain ⟨k, hk, rfl, HR⟩ := hrel
    by_cases hlt : k < n
    · have hlt' : (k : Int) < (n : Int) := by omega
      have HKX : Hid (k < g.ps.length) := by rw [HN.out]; exact hlt
      have HKM : Hid (k + 1 ≤ n) := (by omega : k + 1 ≤ n)
      have hwk : wrap64 ((k : Int) + 1) = (k : Int) + 1 := wrapN (by omega) (by have := HF.out; omega)
      obtain ⟨b, off, hao, _, d0, _⟩ := HH.out.cellsD HKX.out
      obtain ⟨sl, HSL⟩ : ∃ z, Hid ((g.ps[k]'HKX.out).id = z) := ⟨_, hid rfl⟩
      rw [HSL.out] at d0
      subst hao
      by_cases he : sl = id
      · have HE : Hid (findN g.ps id = (k : Int)) := findN_hit HKX.out HR.out (by rw [HSL.out]; exact he)
        subst he
        go_wp2
        go_ret
        exact ⟨by rw [HE.out]; first | rfl | simp, rfl⟩
      · have he2 : (sl == id) = false := beq_eq_false_iff_ne.2 he
        have HGO : Hid (NoId g.ps id (k + 1)) := fun j hj hjk => by
          by_cases e : j = k
          · subst e; rw [HSL.out]; exact he
          · exact HR.out j hj (by omega)
        clear he
        go_wp2
        go_round
        case rel => exact ⟨k + 1, HKM.out, by go_num, HGO.out⟩
        case measure => first | exact measNW HKM.out hwk | exact measN1 HKM.out
    · have hlt' : ¬ (k : Int) < (n : Int) := by omega
      have HE : Hid (findN g.ps id = -1) := findN_miss (fun j hj _ => HR.out j hj (by have := HN.out; omega))
      go_wp2
      go_ret
      exact ⟨by rw [HE.out]; first | rfl | simp, rfl⟩
/-- Those for a node. -/
def toN (ps : List Pk) (node : Int) : List Pk := ps.filter (fun q => q.dst == node)
def ToR (w : World) (ys : List Pk) (e : Ending) (w' : World) : Prop := ∃ v, e = .returned v ∧ w'.ownsRow w.heap.size 36 4 v ys.length (flat ys) ∧ Below w.heap.size w w'
theorem toN_in {ps : List Pk} {k : Nat} (hk : k < ps.length) {node : Int} (he : ps[k].dst = node) : toN (ps.take (k + 1)) node = toN (ps.take k) node ++ [ps[k]] := by
  unfold toN
  rw [take_snoc_pk hk, List.filter_append]
  simp [he]
theorem toN_out {ps : List Pk} {k : Nat} (hk : k < ps.length) {node : Int} (he : ps[k].dst ≠ node) : toN (ps.take (k + 1)) node = toN (ps.take k) node := by
  unfold toN
  rw [take_snoc_pk hk, List.filter_append]
  simp [he]
theorem toN_le (ps : List Pk) (k : Nat) (node : Int) : (toN (ps.take k) node).length ≤ ps.length := by
  unfold toN
  have h1 := List.length_filter_le (fun q : Pk => q.dst == node) (ps.take k)
  rw [List.length_take] at h1
  omega
/-- append of one packet to a row of the call's own. -/
theorem wpList_append_pk {ops : Array Oper} {rest : List Oper} {o : Oper} {a : Act} {Q : Exit → Act → World → Prop} (W0 W : World) (x : Pk) (hW : W = W0.alloc (.cells x.cells.toArray 36)) (hgd : o.guard = none) (s xx : Operand)
    (ho : o.op = .call { callee := .builtin .append, args := #[s, xx], argTypes := #[49, 49] }) (B : Nat) (v : Value) (ds : List Pk)
    (hs : a.eval s = v) (hx : a.eval xx = .slice (some ⟨W0.heap.size, 0, none⟩) 1 1) (hown : W0.ownsRow B 36 4 v ds.length (flat ds)) (hB : B ≤ W0.heap.size) (hl : ds.length ≤ 65536)
    (h : ∀ v' w', w'.ownsRow B 36 4 v' (ds ++ [x]).length (flat (ds ++ [x])) → Below B W0 w' → wpList Try.prog ops Q rest (a.put o.dst v') w') : wpList Try.prog ops Q (o :: rest) a W := by
  subst hW
  obtain ⟨iI, hj, hy0, hy1, hy2⟩ := info_parts Try.infoPk
  have hn := Blk.new W0 36 x.cells
  refine wpList_append_own_at _ hgd s xx 49 ho B 36 iI Pk.none 4 40 Try.underlying49 hj hy0 hy1 hy2 rfl (by decide) v ds.length (flat ds) hs (hown.alloc _) ⟨W0.heap.size, 0, none⟩ 1 1 x.cells hx rfl (fun j u hu => ?_) (pk_one x) (by unfold maxLen; omega) (by omega) (by simp; omega) ?_
  · rw [Addr.add_lit, Nat.zero_add]
    exact hn.cell hu
  · intro v' w' hown' hg _ _
    refine h v' w' ?_ (((Below.refl B W0).alloc hB _).grown hg (by simp; omega) (fun k hk => (hown.lt k hk).1))
    rw [List.length_append, flat_snoc]
    exact hown'
set_option maxRecDepth 100000 in
theorem RnAt.to {w : World} {B x : Nat} {g : Nt} {eo : Option Addr} {cap : Nat} (h : RnAt w B x g eo cap) (node : Int) : Calls Try.prog 30 #[.pointer (some ⟨x, 0, none⟩), .int .i64 node] w (ToR w (toN g.ps node)) := by
  have H := hid h
  obtain ⟨n, HN⟩ : ∃ n, Hid (g.ps.length = n) := ⟨_, hid rfl⟩
  have HF : Hid (n ≤ 65536) := by rw [← HN.out]; exact h.few
  obtain ⟨ps, HPS⟩ : ∃ ps, Hid (g.ps = ps) := ⟨_, hid rfl⟩
  rw [HPS.out] at HN ⊢
  clear h
  go_enter Try.func30, Try.ntmps30
  go_wp2
  go_loopw [5, 6] (fun v i wr => ∃ k : Nat, i = .int .i64 k ∧ Hid (k ≤ n) ∧ Hid (wr.ownsRow w.heap.size 36 4 v (toN (ps.take k) node).length (flat (toN (ps.take k) node)) ∧ Below w.heap.size w wr)) (fun _ i _ => n - (intOf i).toNat)
  case atStart => exact ⟨0, rfl, Nat.zero_le _, World.ownsRow_nil _ _ _ _, Below.refl _ _⟩
  case round =>
    obtain ⟨k, rfl, HK, HR⟩ := hrel
    have c1 := (H.out.below HR.out.2).blk.cell (i := 1) rfl
    rw [HPS.out, HN.out] at c1
    have HROW := hid HR.out.1
    have HB := hid HR.out.2
    by_cases hlt : k < n
    · have hlt' : (k : Int) < (n : Int) := by omega
      have HKX : Hid (k < ps.length) := by rw [HN.out]; exact hlt
      have HKM : Hid (k + 1 ≤ n) := (by omega : k + 1 ≤ n)
      have hwk : wrap64 ((k : Int) + 1) = (k : Int) + 1 := wrapN (by omega) (by have := HF.out; omega)
      have hheld := (H.out.below HR.out.2).held.1
      rw [HPS.out] at hheld
      obtain ⟨b, off, hao, _, d0, d1, d2, d3⟩ := hheld.cellsD HKX.out
      have HIN := hid (fun he => toN_in (node := node) HKX.out he)
      have HOUT := hid (fun he => toN_out (node := node) HKX.out he)
      have HLE : Hid ((toN (ps.take k) node).length ≤ 65536) := Nat.le_trans (toN_le ps k node) (by have := HN.out; have := HF.out; omega)
      obtain ⟨q, HQ⟩ : ∃ q, Hid (ps[k]'HKX.out = q) := ⟨_, hid rfl⟩
      rw [HQ.out] at d0 d1 d2 d3 HIN HOUT
      obtain ⟨qi, qf, qd, qb⟩ := q
      simp only at d0 d1 d2 d3 HIN HOUT
      subst hao
      clear hlt HR hheld
      by_cases he : qd = node
      · have HNX := hid (HIN.out he)
        subst he
        clear HIN HOUT
        go_wp2_with (first | (at_builtin; refine wpList_append_pk wr _ ⟨qi, qf, qd, qb⟩ rfl rfl _ _ rfl w.heap.size _ (toN (ps.take k) qd) rfl rfl HROW.out HB.out.size HLE.out ?_; intro v' w5 hown hb5; have HO5 := hid hown; have HB5 := hid (HB.out.trans hb5); clear hown hb5) | fail)
        go_roundw
        case rel => exact ⟨k + 1, by go_num, HKM.out, by rw [HNX.out]; exact ⟨HO5.out, HB5.out⟩⟩
        case measure => first | exact measNW HKM.out hwk | exact measN1 HKM.out
      · have HNX := hid (HOUT.out he)
        have he2 : (qd == node) = false := beq_eq_false_iff_ne.2 he
        clear HIN HOUT he
        go_wp2
        go_roundw
        case rel => exact ⟨k + 1, by go_num, HKM.out, by rw [HNX.out]; exact ⟨HROW.out, HB.out⟩⟩
        case measure => first | exact measNW HKM.out hwk | exact measN1 HKM.out
    · have hlt' : ¬ (k : Int) < (n : Int) := by omega
      have HE : Hid (ps.take k = ps) := List.take_of_length_le (by have := HN.out; omega)
      clear HR
      rw [HE.out] at HROW
      go_wp2
      go_ret
      exact ⟨_, rfl, HROW.out, HB.out⟩
end Go.Proofs.Ytoacfdicjpoohaa
