/-
  api.Dot as a map's key. No function of the program is named here.
-/
import Derived.Test.YtplecopphddjhaaRows
import Derived.Test.YtplecopphddjhaaBlk
import Derived.DeepKeys4
import Derived.ChangeSlices
import Derived.Lib.SmallJoins
import Derived.SizedLaws
import Derived.Laws.ResultCell
namespace Go.Proofs.Ytplecopphddjhaa
open Go.RowKit Go.Maps

theorem Try.laidOutK : laidOutB Try.prog = true := by kernel_rfl
theorem Try.keyedDot : Keyed Try.prog 25 := Keyed.of_law (deep_law_laid Try.laidOutK (m := 3) (by decide) (of_decide_eq_true (by kernel_rfl)) (by kernel_rfl) (by kernel_rfl))
def I64 (x : Int) : Prop := -9223372036854775808 ≤ x ∧ x ≤ 9223372036854775807
theorem wf_of {x : Int} (h : I64 x) : (Lit.int .i64 x).wf = true := by
  unfold I64 at h
  simp [Lit.wf, IntKind.min, IntKind.max, IntKind.signed, IntKind.bits]
  omega
def dotVal (o s : Int) : Value := .agg #[.int .i64 o, .int .i64 s]
theorem types_pos : ∃ k, Try.prog.types.size = k + 1 := by
  have h : 0 < Try.prog.types.size := of_decide_eq_true (by kernel_rfl)
  exact ⟨Try.prog.types.size - 1, by omega⟩
/-- What a dot reads as, as a key. -/
def dk (o s : Int) : Lit := .string (keyBytes [.int .i64 o, .int .i64 s])
theorem key_dot {o s : Int} (ho : I64 o) (hs : I64 s) : keyOf Try.prog 25 (dotVal o s) = some (dk o s) := by
  have h1 : Try.prog.keyType 25 = true := by kernel_rfl
  have h2 : (dotVal o s).formed Try.prog 25 = true := by kernel_rfl
  have h3 : Try.prog.keyLits (Try.prog.types.size + 1) 25 (dotVal o s).cells.toList = some [.int .i64 o, .int .i64 s] := by
    obtain ⟨k, hk⟩ := types_pos
    rw [hk]
    have hi : ∀ x, I64 x → Try.prog.keyLits (k + 1) 3 [.int .i64 x] = some [.int .i64 x] := fun x hx => by
      simp [Program.keyLits, Try.underlying3, wf_of hx]
    have e1 : Try.prog.cellsOf 25 = 2 := by kernel_rfl
    have e2 : Try.prog.cellsOf 3 = 1 := by kernel_rfl
    unfold Program.keyLits
    simp [Try.underlying25, dotVal, Value.cells, e1, e2, hi o ho, hi s hs]
  unfold keyOf
  rw [Try.underlying25]
  show (if _ then _ else _) = _
  rw [if_pos (by rw [h1, h2]; rfl), h3]
  rfl
theorem dk_inj {o s o' s' : Int} (ho : I64 o) (hs : I64 s) (ho' : I64 o') (hs' : I64 s') (h : dk o s = dk o' s') : o = o' ∧ s = s' := by
  have h1 := key_dot ho hs
  have h2 := key_dot ho' hs'
  rw [← h] at h2
  have := Try.keyedDot.inj h1 h2
  simpa [dotVal] using this
set_option maxRecDepth 20000 in
/-- What reads as a dot's key is a dot. -/
theorem dk_inv {key : Value} {kl : Lit} (h : keyOf Try.prog 25 key = some kl) : ∃ o s, key = dotVal o s ∧ kl = dk o s ∧ I64 o ∧ I64 s := by
  obtain ⟨xs, L, rfl, h1, h2⟩ := keyOf_top (by kernel_rfl) h
  obtain ⟨k, hk⟩ := types_pos
  rw [hk] at h1
  have hi : ∀ v l, Try.prog.keyLits (k + 1) 3 [v] = some l → ∃ x, v = .int .i64 x ∧ I64 x ∧ l = [.int .i64 x] := fun v l hv => by
    cases v <;> simp [Program.keyLits, Try.underlying3] at hv
    rename_i q x
    obtain ⟨⟨rfl, hw⟩, rfl⟩ := hv
    refine ⟨x, rfl, ?_, rfl⟩
    simp [Lit.wf, IntKind.min, IntKind.max, IntKind.signed, IntKind.bits] at hw
    unfold I64
    omega
  have e1 : Try.prog.cellsOf 25 = 2 := by kernel_rfl
  have e2 : Try.prog.cellsOf 3 = 1 := by kernel_rfl
  obtain ⟨xs⟩ := xs
  change Try.prog.keyLits (k + 1 + 1) 25 xs = some L at h1
  rcases xs with _ | ⟨a, _ | ⟨b, _ | ⟨c, r⟩⟩⟩
  · simp [Program.keyLits, Try.underlying25, e1] at h1
  · simp [Program.keyLits, Try.underlying25, e1] at h1
  · unfold Program.keyLits at h1
    simp [Try.underlying25, e1, e2] at h1
    cases ha : Try.prog.keyLits (k + 1) 3 [a] with
    | none => simp [ha] at h1
    | some la =>
      cases hb : Try.prog.keyLits (k + 1) 3 [b] with
      | none => simp [ha, hb] at h1
      | some lb =>
        obtain ⟨x, rfl, hx, rfl⟩ := hi a la ha
        obtain ⟨y, rfl, hy, rfl⟩ := hi b lb hb
        simp [ha, hb] at h1
        subst h1
        exact ⟨x, y, rfl, h2, hx, hy⟩
  · simp [Program.keyLits, Try.underlying25, e1] at h1
end Go.Proofs.Ytplecopphddjhaa
/-
  Slices of ints: what they hold ('HeldInt', 'HV'), how an argument of type []int is read, what append([]int{}, x...) and append(out, n) make. No function of the program is named here.
-/
namespace Go.Proofs.Ytplecopphddjhaa
open Go.RowKit Go.ChangeShapes Go.WideShapes Go.Deep Go.Maps

theorem ret_int {k : IntKind} {a b : Int} (h : a = b) : Ending.returned (.int k a) = .returned (.int k b) := by rw [h]
theorem wrapS {x : Int} (h0 : -9223372036854775808 ≤ x) (h1 : x ≤ 9223372036854775807) : wrap64 x = x := by
  unfold wrap64
  omega
/-- A slice of ints holds xs. -/
def HeldInt (w : World) (ao : Option Addr) (xs : List Int) : Prop :=
  (∀ x ∈ xs, -9223372036854775808 ≤ x ∧ x ≤ 9223372036854775807) ∧ (xs = [] ∨ ∃ b off, ao = some ⟨b, off, none⟩ ∧ b < w.heap.size ∧ ∀ j, j < xs.length → w.cell? ⟨b, off + j, none⟩ = some (.int .i64 (xs.getD j 0)))
/-- A vector in memory. -/
structure HV (w : World) (ao : Option Addr) (cap : Nat) (xs : List Int) : Prop where
  held : HeldInt w ao xs
  room : xs.length ≤ cap
  few : xs.length ≤ 17592186044416

theorem plain_addr {w : World} {a : Addr} {v : Value} (h : w.cell? (a.add 0) = some v) : ∃ b off, a = ⟨b, off, none⟩ ∧ b < w.heap.size := by
  obtain ⟨b, off, spot⟩ := a
  have hspot : spot = none := by simpa [Addr.add] using World.cell?_spot h
  subst hspot
  have hlt := World.block_lt_of_cell? w _ h
  exact ⟨b, off, rfl, by simpa [Addr.add] using hlt⟩

theorem open_nums {H : Type} {enc : TypeId × Value → H} {w : World} {base : Nat} {held : Bool} {ao : Option Addr} {len cap : Nat} {d : DataW H} {p : List MemPlace} (h : DataW.Trod enc Try.prog w base (fun _ => true) held 23 (.slice ao len cap) d p) :
    ∃ xs, xs.length = len ∧ (HeldInt w ao xs ∧ len ≤ cap) ∧ (len = 0 ∨ ∃ es sp, d = .slice es sp ∧ es.length = len) := by
  obtain ⟨fuel, hf⟩ := h
  rcases open_ints Try.underlying23 Try.underlying3 (by kernel_rfl) hf with ⟨hcs, _⟩ | ⟨x, l, c, zs, hcs, _, hl, hm, hz, hx, hcell, hwz⟩
  · simp [Value.cells] at hcs
    obtain ⟨rfl, rfl, rfl⟩ := hcs
    exact ⟨[], rfl, ⟨⟨fun s hs => (by cases hs), .inl rfl⟩, Nat.le_refl _⟩, .inl rfl⟩
  · simp [Value.cells] at hcs
    obtain ⟨rfl, rfl, rfl⟩ := hcs
    have hz' : zs.length = cap := by simpa using hz
    refine ⟨zs.take len, by simp; omega, ⟨⟨fun s hs => ?_, ?_⟩, hl⟩, ?_⟩
    · have := hwz s (List.mem_of_mem_take hs)
      simp [Lit.wf, IntKind.min, IntKind.max, IntKind.signed, IntKind.bits] at this
      omega
    · by_cases h0 : len = 0
      · left
        simp [h0]
      · right
        obtain ⟨b, off, rfl, hb⟩ := plain_addr (hcell 0 (by omega))
        refine ⟨b, off, rfl, hb, fun j hj => ?_⟩
        simp at hj
        have := hcell j (by omega)
        rw [Addr.add_lit] at this
        rw [this]
        simp [List.getD, List.getElem?_take_of_lt (show j < len by omega)]
    · simp only [Prod.mk.injEq] at hx
      right
      exact ⟨_, _, hx.1, by simp [lits]; omega⟩

theorem HeldInt.cellAt {w : World} {ao : Option Addr} {xs : List Int} (h : HeldInt w ao xs) {k : Nat} (hk : k < xs.length) : ∃ b off, ao = some ⟨b, off, none⟩ ∧ ∀ j, j < xs.length → w.cell? ⟨b, off + j, none⟩ = some (.int .i64 (xs.getD j 0)) := by
  rcases h.2 with h0 | ⟨b, off, h1, _, h2⟩
  · rw [h0] at hk; cases hk
  · exact ⟨b, off, h1, h2⟩
theorem getD_mem {xs : List Int} {k : Nat} (hk : k < xs.length) : xs.getD k 0 ∈ xs := by
  simp [List.getD, List.getElem?_eq_getElem hk]
theorem HeldInt.rng {w : World} {ao : Option Addr} {xs : List Int} (h : HeldInt w ao xs) (k : Nat) : -9223372036854775808 ≤ xs.getD k 0 ∧ xs.getD k 0 ≤ 9223372036854775807 := by
  by_cases hk : k < xs.length
  · exact h.1 _ (getD_mem hk)
  · simp [List.getD, List.getElem?_eq_none (by omega : xs.length ≤ k)]
def ints (xs : List Int) : List Value := xs.map (Value.int .i64)
theorem ints_len (xs : List Int) : (ints xs).length = xs.length := by simp [ints]
theorem ints_one (xs : List Int) : ∀ u ∈ ints xs, u.oneCell' = true := by
  intro u hu
  obtain ⟨_, _, rfl⟩ := List.mem_map.1 hu
  rfl
theorem ints_set (xs : List Int) (l : List Value) (k : Nat) (v : Int) (hk : k < xs.length) : (ints xs ++ l).set k (.int .i64 v) = ints (xs.set k v) ++ l := by
  rw [List.set_append, if_pos (by rw [ints_len]; exact hk)]
  simp [ints, List.map_set]
theorem ints_get {xs : List Int} {j : Nat} (h : j < xs.length) : (ints xs)[j]? = some (.int .i64 (xs.getD j 0)) := by
  simp [ints, List.getD, List.getElem?_eq_getElem h]
theorem HeldInt.turned {F : Nat → Prop} {w w' : World} {ao : Option Addr} {xs : List Int} (h : HeldInt w ao xs) (ht : Turns F w w') (hF : ∀ b off, ao = some ⟨b, off, none⟩ → xs ≠ [] → ¬ F b) : HeldInt w' ao xs := by
  refine ⟨h.1, ?_⟩
  rcases h.2 with h0 | ⟨b, off, rfl, hb, hc⟩
  · exact .inl h0
  · by_cases h0 : xs = []
    · exact .inl h0
    · refine .inr ⟨b, off, rfl, Nat.lt_of_lt_of_le hb ht.size, fun j hj => ?_⟩
      have := hc j hj
      have hbk := ht.block b hb (hF b off rfl h0)
      simp only [World.cell?] at this ⊢
      rw [hbk]
      exact this
theorem HeldInt.below {w w' : World} {ao : Option Addr} {xs : List Int} (h : HeldInt w ao xs) (hb : Below w.heap.size w w') : HeldInt w' ao xs :=
  h.turned (F := fun _ => False) (Turns.of_below hb (Nat.le_refl _)) (fun _ _ _ _ h => h)
theorem HV.below {w w' : World} {ao : Option Addr} {cap : Nat} {xs : List Int} (h : HV w ao cap xs) (hb : Below w.heap.size w w') : HV w' ao cap xs := ⟨h.held.below hb, h.room, h.few⟩
theorem HV.dn {w : World} {ao : Option Addr} {cap : Nat} {xs : List Int} (h : HV w ao cap xs) (q : Nat) : HV (w.drewN q) ao cap xs := h.below (below_dn (Below.refl _ _) q)
theorem HeldInt.take {w : World} {ao : Option Addr} {xs : List Int} (h : HeldInt w ao xs) (n : Nat) : HeldInt w ao (xs.take n) := by
  refine ⟨fun x hx => h.1 x (List.mem_of_mem_take hx), ?_⟩
  rcases h.2 with rfl | ⟨b, off, h1, h2, hc⟩
  · left; simp
  · right
    refine ⟨b, off, h1, h2, fun j hj => ?_⟩
    simp at hj
    rw [hc j (by omega)]
    simp [List.getD, List.getElem?_take_of_lt (show j < n by omega)]
theorem HeldInt.new (w : World) (xs : List Int) (hx : ∀ x ∈ xs, -9223372036854775808 ≤ x ∧ x ≤ 9223372036854775807) : HeldInt (w.alloc (.cells (ints xs).toArray 3)) (some ⟨w.heap.size, 0, none⟩) xs := by
  refine ⟨hx, .inr ⟨_, 0, rfl, by simp, fun j hj => ?_⟩⟩
  refine (Blk.new w 3 (ints xs)).cell (i := 0 + j) ?_
  simp [ints, List.getD, List.getElem?_eq_getElem hj]
theorem Blk.heldInt {w : World} {b : Nat} {xs : List Int} {rest : List Value} (h : Blk w b 3 (ints xs ++ rest)) (hx : ∀ x ∈ xs, -9223372036854775808 ≤ x ∧ x ≤ 9223372036854775807) : HeldInt w (some ⟨b, 0, none⟩) xs := by
  refine ⟨hx, .inr ⟨b, 0, rfl, h.lt, fun j hj => h.cell ?_⟩⟩
  rw [Nat.zero_add, List.getElem?_append_left (by rw [ints_len]; exact hj), ints_get hj]
theorem HeldInt.news {w : World} {b off : Nat} {xs : List Int} (h : HeldInt w (some ⟨b, off, none⟩) xs) : ∀ j u, (ints xs)[j]? = some u → w.cell? ((⟨b, off, none⟩ : Addr).add j) = some u := by
  intro j u hu
  have hj : j < xs.length := by
    have := (List.getElem?_eq_some_iff.1 hu).1
    simpa [ints] using this
  rcases h.2 with h0 | ⟨b', off', e, _, hc⟩
  · rw [h0] at hj; cases hj
  · cases e
    rw [Addr.add_lit, hc j hj]
    simp [ints, List.getElem?_eq_getElem hj] at hu
    subst hu
    simp [List.getD, List.getElem?_eq_getElem hj]
theorem own_form' {w : World} {B e n : Nat} {v : Value} {xs : List Value} (h : w.ownsRow B e 1 v n xs) :
    ∃ eo cap, v = .slice eo n cap ∧ n ≤ cap ∧ (0 < n → ∃ g, eo = some ⟨g, 0, none⟩ ∧ B ≤ g ∧ g < w.heap.size ∧ ∀ j u, xs[j]? = some u → w.cell? ⟨g, j, none⟩ = some u) := by
  rcases h.2 with ⟨rfl, rfl⟩ | ⟨g, cap, cur, rfl, hbg, hg, hnc, _⟩
  · exact ⟨none, 0, rfl, Nat.le_refl _, fun h0 => by omega⟩
  · refine ⟨some ⟨g, 0, none⟩, cap, rfl, hnc, fun _ => ⟨g, rfl, hbg, (Array.getElem?_eq_some_iff.1 hg).1, fun j u hu => ?_⟩⟩
    have := h.cells (g := g) rfl j u hu
    simpa [Addr.add_lit] using this
theorem own_blk {w : World} {B n : Nat} {v : Value} {xs : List Int} (h : w.ownsRow B 3 1 v n (ints xs)) (hn : 0 < n) : ∃ g cap rest, v = .slice (some ⟨g, 0, none⟩) n cap ∧ Blk w g 3 (ints xs ++ rest) ∧ B ≤ g := by
  rcases h.2 with ⟨_, h0⟩ | ⟨g, cap, cur, rfl, hbg, hg, hnc, hcm, hcs, htake⟩
  · omega
  · refine ⟨g, cap, cur.toList.drop (ints xs).length, rfl, ?_, hbg⟩
    have he : ints xs ++ cur.toList.drop (ints xs).length = cur.toList := by
      have h1 : cur.toList.take (n * 1) = ints xs := htake
      have h2 : (ints xs).length = n * 1 := h.1
      rw [h2, ← h1, List.take_append_drop]
    unfold Blk
    rw [he]
    exact hg
/-- What an owned row of ints holds. -/
theorem hv_of_own {w : World} {B : Nat} {v : Value} {xs : List Int} (h : w.ownsRow B 3 1 v xs.length (ints xs)) (hx : ∀ x ∈ xs, -9223372036854775808 ≤ x ∧ x ≤ 9223372036854775807) (hf : xs.length ≤ 17592186044416) : ∃ ao cap, v = .slice ao xs.length cap ∧ HV w ao cap xs := by
  obtain ⟨eo, cap, rfl, hnc, hc⟩ := own_form' h
  refine ⟨eo, cap, rfl, ⟨hx, ?_⟩, hnc, hf⟩
  by_cases h0 : xs = []
  · exact .inl h0
  · obtain ⟨g, rfl, _, hg, hcell⟩ := hc (List.length_pos_iff.2 h0)
    refine .inr ⟨g, 0, rfl, hg, fun j hj => ?_⟩
    rw [Nat.zero_add]
    exact hcell j _ (ints_get hj)
theorem ownI_made (w : World) (B : Nat) (hB : B ≤ w.heap.size) : (w.alloc (.cells #[] 3)).ownsRow B 3 1 (.slice (some ⟨w.heap.size, 0, none⟩) 0 0) 0 (ints []) :=
  ⟨rfl, .inr ⟨w.heap.size, 0, #[], rfl, hB, World.alloc_heap_new w _, Nat.le_refl _, Nat.zero_le _, rfl, rfl⟩⟩
theorem ownI_nil (w : World) (B : Nat) : w.ownsRow B 3 1 (.slice none 0 0) 0 (ints []) := ⟨rfl, .inl ⟨rfl, rfl⟩⟩
theorem Try.infoInt : (Try.prog.info? 3).map (fun i => (i.zero, i.size, i.bytes)) = some (some (.int .i64 0), 1, 8) := by kernel_rfl

theorem run_append_noneI {P : Program} (w : World) (base : Nat) (t ty e : TypeId) (i : TypeInfo) (size : Nat) (ht : P.underlying t = some (.slice e)) (hi : P.info? e = some i)
    (v : Value) (n c : Nat) (xs : List Value) (hown : w.ownsRow base e size v n xs) : (Builtin.append_ #[t, t] ty #[v, .slice none 0 c]).run P w = .ok v w := by
  rcases hown.2 with ⟨rfl, rfl⟩ | ⟨g, cap, cur, rfl, _, _, hnc, _⟩
  · simp [Builtin.append_, run_underlying ht, sizeOf, typeInfo, hi, Builtin.lenOf, Builtin.firstCells]
  · simp [Builtin.append_, run_underlying ht, sizeOf, typeInfo, hi, Builtin.lenOf, Builtin.firstCells, hnc, storeCells]

/-- append([]int{}, x...): a new row that holds x's numbers. -/
theorem wpList_append_copy {ops : Array Oper} {rest : List Oper} {o : Oper} {a : Act} {Q : Exit → Act → World → Prop} (W : World) (hgd : o.guard = none) (s x : Operand)
    (ho : o.op = .call { callee := .builtin .append, args := #[s, x], argTypes := #[23, 23] })
    (hs : a.eval s = .slice (some ⟨W.heap.size, 0, none⟩) 0 0) (ao : Option Addr) (c : Nat) (xs : List Int) (n : Nat) (hn : xs.length = n) (hx : a.eval x = .slice ao n c) (hh : HeldInt W ao xs) (hl : xs.length ≤ 17592186044416)
    (h : ∀ bo cp w', w'.ownsRow W.heap.size 3 1 (.slice bo n cp) n (ints xs) → HV w' bo cp xs → Below W.heap.size W w' → wpList Try.prog ops Q rest (a.put o.dst (.slice bo n cp)) w') :
    wpList Try.prog ops Q (o :: rest) a (W.alloc (.cells #[] 3)) := by
  subst hn
  obtain ⟨iI, hj, hy0, hy1, hy2⟩ := info_parts Try.infoInt
  have hbel : Below W.heap.size W (W.alloc (.cells #[] 3)) := (Below.refl _ _).alloc (Nat.le_refl _) _
  have fin : ∀ (v' : Value) (w' : World), w'.ownsRow W.heap.size 3 1 v' xs.length (ints xs) → Below W.heap.size W w' → wpList Try.prog ops Q rest (a.put o.dst v') w' := by
    intro v' w' hown hb
    obtain ⟨eo, cap, rfl, hv⟩ := hv_of_own hown hh.1 hl
    exact h eo cap w' hown hv hb
  cases ao with
  | none =>
    have hx0 : xs = [] := by
      rcases hh.2 with h0 | ⟨b, off, e, _⟩
      · exact h0
      · cases e
    subst hx0
    refine wpList_plain hgd fun K hK => ?_
    have hr := run_append_noneI (P := Try.prog) (W.alloc (.cells #[] 3)) W.heap.size 23 o.type 3 iI 1 Try.underlying23 hj _ 0 c _ (ownI_made W W.heap.size (Nat.le_refl _))
    unfold Oper.wp execOp
    simp only [ho, resolve, invoke, builtin, Sem.run_bind, Sem.run_pure, Result.andThen_ok, List.map_toArray, List.map_cons, List.map_nil, hs, hx, List.length_nil, hr]
    exact hK _ _ (fin _ _ (ownI_made W W.heap.size (Nat.le_refl _)) hbel)
  | some ad =>
    have hnews : ∀ j u, (ints xs)[j]? = some u → (W.alloc (.cells #[] 3)).cell? (ad.add j) = some u := by
      intro j u hu
      rcases hh.2 with h0 | ⟨b, off, e, _⟩
      · subst h0
        simp [ints] at hu
      · cases e
        exact (hh.below hbel).news j u hu
    refine wpList_append_own_at _ hgd s x 23 ho W.heap.size 3 iI (.int .i64 0) 1 8 Try.underlying23 hj hy0 hy1 hy2 rfl (by decide) _ 0 (ints []) hs (ownI_made W W.heap.size (Nat.le_refl _)) ad xs.length c (ints xs) hx (by rw [ints_len]; omega) hnews (ints_one xs) (by unfold maxLen; omega) (by omega) (by simp) ?_
    intro v' w' hown hgrow _ _
    refine fin v' w' (by simpa [ints] using hown) (hbel.grown hgrow (by simp) (fun k e => ?_))
    cases e
    exact Nat.le_refl _

theorem own_lt {w : World} {B e size n : Nat} {v : Value} {xs : List Value} (h : w.ownsRow B e size v n xs) : ∀ k, v.ownBlock = some k → B ≤ k := fun k hk => (h.lt k hk).1
/-- append(out, n) of an owned row. -/
theorem wpList_append_one {ops : Array Oper} {rest : List Oper} {o : Oper} {a : Act} {Q : Exit → Act → World → Prop} (W0 W : World) (c : Int) (hW : W = W0.alloc (.cells #[.int .i64 c] 3)) (hgd : o.guard = none) (s x : Operand)
    (ho : o.op = .call { callee := .builtin .append, args := #[s, x], argTypes := #[23, 23] }) (B : Nat) (v : Value) (xs : List Int)
    (hs : a.eval s = v) (hx : a.eval x = .slice (some ⟨W0.heap.size, 0, none⟩) 1 1) (hown : W0.ownsRow B 3 1 v xs.length (ints xs)) (hB : B ≤ W0.heap.size) (hl : xs.length < 17592186044416)
    (h : ∀ v' w', w'.ownsRow B 3 1 v' (xs ++ [c]).length (ints (xs ++ [c])) → Below B W0 w' → wpList Try.prog ops Q rest (a.put o.dst v') w') :
    wpList Try.prog ops Q (o :: rest) a W := by
  subst hW
  obtain ⟨iI, hj, hy0, hy1, hy2⟩ := info_parts Try.infoInt
  have hn := Blk.new W0 3 [.int .i64 c]
  refine wpList_append_own_at _ hgd s x 23 ho B 3 iI (.int .i64 0) 1 8 Try.underlying23 hj hy0 hy1 hy2 rfl (by decide) v xs.length (ints xs) hs (hown.alloc _) ⟨W0.heap.size, 0, none⟩ 1 1 [.int .i64 c] hx rfl (fun j u hu => ?_) (one_int _ _) (by unfold maxLen; omega) (by omega) (by simp; omega) ?_
  · rw [Addr.add_lit, Nat.zero_add]
    exact hn.cell hu
  · intro v' w' hown' hgrow _ _
    refine h v' w' (by simpa [ints] using hown') (((Below.refl _ _).alloc hB _).grown hgrow (by simp; omega) (own_lt hown))
end Go.Proofs.Ytplecopphddjhaa
