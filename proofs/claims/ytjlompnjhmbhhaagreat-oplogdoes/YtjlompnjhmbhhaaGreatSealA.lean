/-
  Slices of ints: what they hold ('HeldInt', 'HV'), how an argument of type []int is read, what append([]int{}, x...) and append(out, n) make. No function of the program is named here.
-/
import Derived.Test.YtjlompnjhmbhhaaGreatRows
import Derived.Test.YtjlompnjhmbhhaaGreatBlk
import Derived.ChangeSlices
import Derived.Lib.SmallJoins
import Derived.SizedLaws
import Derived.Laws.ResultCell
import Derived.WalkKit
import Derived.DeepKeys4
namespace Go.Proofs.YtjlompnjhmbhhaaGreat
open Go.RowKit Go.ChangeShapes Go.WideShapes Go.Deep Go.Maps

theorem ret_int {k : IntKind} {a b : Int} (h : a = b) : Ending.returned (.int k a) = .returned (.int k b) := by rw [h]
theorem wrapS {x : Int} (h0 : -9223372036854775808 ≤ x) (h1 : x ≤ 9223372036854775807) : wrap64 x = x := by
  unfold wrap64
  omega
/-- A slice of ints holds xs. -/
def HeldInt (w : World) (ao : Option Addr) (xs : List Int) : Prop :=
  (∀ x ∈ xs, -9223372036854775808 ≤ x ∧ x ≤ 9223372036854775807) ∧ (xs = [] ∨ ∃ b off, ao = some ⟨b, off, none⟩ ∧ b < w.heap.size ∧ ∀ j, j < xs.length → w.cell? ⟨b, off + j, none⟩ = some (.int .i64 (xs.getD j 0)))
/-- A vector in memory. -/
structure HV (w : World) (ao : Option Addr) (cap : Nat) (xs : List Int) : Prop where
  held : HeldInt w ao xs
  room : xs.length ≤ cap
  few : xs.length ≤ 17592186044416

theorem plain_addr {w : World} {a : Addr} {v : Value} (h : w.cell? (a.add 0) = some v) : ∃ b off, a = ⟨b, off, none⟩ ∧ b < w.heap.size := by
  obtain ⟨b, off, spot⟩ := a
  have hspot : spot = none := by simpa [Addr.add] using World.cell?_spot h
  subst hspot
  have hlt := World.block_lt_of_cell? w _ h
  exact ⟨b, off, rfl, by simpa [Addr.add] using hlt⟩

theorem open_nums {H : Type} {enc : TypeId × Value → H} {w : World} {base : Nat} {held : Bool} {ao : Option Addr} {len cap : Nat} {d : DataW H} {p : List MemPlace} (h : DataW.Trod enc Tryz.prog w base (fun _ => true) held 23 (.slice ao len cap) d p) :
    ∃ xs, xs.length = len ∧ (HeldInt w ao xs ∧ len ≤ cap) ∧ (len = 0 ∨ ∃ es sp, d = .slice es sp ∧ es.length = len) := by
  obtain ⟨fuel, hf⟩ := h
  rcases open_ints Tryz.underlying23 Tryz.underlying3 (by kernel_rfl) hf with ⟨hcs, _⟩ | ⟨x, l, c, zs, hcs, _, hl, hm, hz, hx, hcell, hwz⟩
  · simp [Value.cells] at hcs
    obtain ⟨rfl, rfl, rfl⟩ := hcs
    exact ⟨[], rfl, ⟨⟨fun s hs => (by cases hs), .inl rfl⟩, Nat.le_refl _⟩, .inl rfl⟩
  · simp [Value.cells] at hcs
    obtain ⟨rfl, rfl, rfl⟩ := hcs
    have hz' : zs.length = cap := by simpa using hz
    refine ⟨zs.take len, by simp; omega, ⟨⟨fun s hs => ?_, ?_⟩, hl⟩, ?_⟩
    · have := hwz s (List.mem_of_mem_take hs)
      simp [Lit.wf, IntKind.min, IntKind.max, IntKind.signed, IntKind.bits] at this
      omega
    · by_cases h0 : len = 0
      · left
        simp [h0]
      · right
        obtain ⟨b, off, rfl, hb⟩ := plain_addr (hcell 0 (by omega))
        refine ⟨b, off, rfl, hb, fun j hj => ?_⟩
        simp at hj
        have := hcell j (by omega)
        rw [Addr.add_lit] at this
        rw [this]
        simp [List.getD, List.getElem?_take_of_lt (show j < len by omega)]
    · simp only [Prod.mk.injEq] at hx
      right
      exact ⟨_, _, hx.1, by simp [lits]; omega⟩

theorem HeldInt.cellAt {w : World} {ao : Option Addr} {xs : List Int} (h : HeldInt w ao xs) {k : Nat} (hk : k < xs.length) : ∃ b off, ao = some ⟨b, off, none⟩ ∧ ∀ j, j < xs.length → w.cell? ⟨b, off + j, none⟩ = some (.int .i64 (xs.getD j 0)) := by
  rcases h.2 with h0 | ⟨b, off, h1, _, h2⟩
  · rw [h0] at hk; cases hk
  · exact ⟨b, off, h1, h2⟩
theorem getD_mem {xs : List Int} {k : Nat} (hk : k < xs.length) : xs.getD k 0 ∈ xs := by
  simp [List.getD, List.getElem?_eq_getElem hk]
theorem HeldInt.rng {w : World} {ao : Option Addr} {xs : List Int} (h : HeldInt w ao xs) (k : Nat) : -9223372036854775808 ≤ xs.getD k 0 ∧ xs.getD k 0 ≤ 9223372036854775807 := by
  by_cases hk : k < xs.length
  · exact h.1 _ (getD_mem hk)
  · simp [List.getD, List.getElem?_eq_none (by omega : xs.length ≤ k)]
def ints (xs : List Int) : List Value := xs.map (Value.int .i64)
theorem ints_len (xs : List Int) : (ints xs).length = xs.length := by simp [ints]
theorem ints_one (xs : List Int) : ∀ u ∈ ints xs, u.oneCell' = true := by
  intro u hu
  obtain ⟨_, _, rfl⟩ := List.mem_map.1 hu
  rfl
theorem ints_set (xs : List Int) (l : List Value) (k : Nat) (v : Int) (hk : k < xs.length) : (ints xs ++ l).set k (.int .i64 v) = ints (xs.set k v) ++ l := by
  rw [List.set_append, if_pos (by rw [ints_len]; exact hk)]
  simp [ints, List.map_set]
theorem ints_get {xs : List Int} {j : Nat} (h : j < xs.length) : (ints xs)[j]? = some (.int .i64 (xs.getD j 0)) := by
  simp [ints, List.getD, List.getElem?_eq_getElem h]
theorem HeldInt.turned {F : Nat → Prop} {w w' : World} {ao : Option Addr} {xs : List Int} (h : HeldInt w ao xs) (ht : Turns F w w') (hF : ∀ b off, ao = some ⟨b, off, none⟩ → xs ≠ [] → ¬ F b) : HeldInt w' ao xs := by
  refine ⟨h.1, ?_⟩
  rcases h.2 with h0 | ⟨b, off, rfl, hb, hc⟩
  · exact .inl h0
  · by_cases h0 : xs = []
    · exact .inl h0
    · refine .inr ⟨b, off, rfl, Nat.lt_of_lt_of_le hb ht.size, fun j hj => ?_⟩
      have := hc j hj
      have hbk := ht.block b hb (hF b off rfl h0)
      simp only [World.cell?] at this ⊢
      rw [hbk]
      exact this
theorem HeldInt.below {w w' : World} {ao : Option Addr} {xs : List Int} (h : HeldInt w ao xs) (hb : Below w.heap.size w w') : HeldInt w' ao xs :=
  h.turned (F := fun _ => False) (Turns.of_below hb (Nat.le_refl _)) (fun _ _ _ _ h => h)
theorem HV.below {w w' : World} {ao : Option Addr} {cap : Nat} {xs : List Int} (h : HV w ao cap xs) (hb : Below w.heap.size w w') : HV w' ao cap xs := ⟨h.held.below hb, h.room, h.few⟩
theorem HV.dn {w : World} {ao : Option Addr} {cap : Nat} {xs : List Int} (h : HV w ao cap xs) (q : Nat) : HV (w.drewN q) ao cap xs := h.below (below_dn (Below.refl _ _) q)
theorem HeldInt.take {w : World} {ao : Option Addr} {xs : List Int} (h : HeldInt w ao xs) (n : Nat) : HeldInt w ao (xs.take n) := by
  refine ⟨fun x hx => h.1 x (List.mem_of_mem_take hx), ?_⟩
  rcases h.2 with rfl | ⟨b, off, h1, h2, hc⟩
  · left; simp
  · right
    refine ⟨b, off, h1, h2, fun j hj => ?_⟩
    simp at hj
    rw [hc j (by omega)]
    simp [List.getD, List.getElem?_take_of_lt (show j < n by omega)]
theorem HeldInt.new (w : World) (xs : List Int) (hx : ∀ x ∈ xs, -9223372036854775808 ≤ x ∧ x ≤ 9223372036854775807) : HeldInt (w.alloc (.cells (ints xs).toArray 3)) (some ⟨w.heap.size, 0, none⟩) xs := by
  refine ⟨hx, .inr ⟨_, 0, rfl, by simp, fun j hj => ?_⟩⟩
  refine (Blk.new w 3 (ints xs)).cell (i := 0 + j) ?_
  simp [ints, List.getD, List.getElem?_eq_getElem hj]
theorem Blk.heldInt {w : World} {b : Nat} {xs : List Int} {rest : List Value} (h : Blk w b 3 (ints xs ++ rest)) (hx : ∀ x ∈ xs, -9223372036854775808 ≤ x ∧ x ≤ 9223372036854775807) : HeldInt w (some ⟨b, 0, none⟩) xs := by
  refine ⟨hx, .inr ⟨b, 0, rfl, h.lt, fun j hj => h.cell ?_⟩⟩
  rw [Nat.zero_add, List.getElem?_append_left (by rw [ints_len]; exact hj), ints_get hj]
theorem HeldInt.news {w : World} {b off : Nat} {xs : List Int} (h : HeldInt w (some ⟨b, off, none⟩) xs) : ∀ j u, (ints xs)[j]? = some u → w.cell? ((⟨b, off, none⟩ : Addr).add j) = some u := by
  intro j u hu
  have hj : j < xs.length := by
    have := (List.getElem?_eq_some_iff.1 hu).1
    simpa [ints] using this
  rcases h.2 with h0 | ⟨b', off', e, _, hc⟩
  · rw [h0] at hj; cases hj
  · cases e
    rw [Addr.add_lit, hc j hj]
    simp [ints, List.getElem?_eq_getElem hj] at hu
    subst hu
    simp [List.getD, List.getElem?_eq_getElem hj]
theorem own_form' {w : World} {B e n : Nat} {v : Value} {xs : List Value} (h : w.ownsRow B e 1 v n xs) :
    ∃ eo cap, v = .slice eo n cap ∧ n ≤ cap ∧ (0 < n → ∃ g, eo = some ⟨g, 0, none⟩ ∧ B ≤ g ∧ g < w.heap.size ∧ ∀ j u, xs[j]? = some u → w.cell? ⟨g, j, none⟩ = some u) := by
  rcases h.2 with ⟨rfl, rfl⟩ | ⟨g, cap, cur, rfl, hbg, hg, hnc, _⟩
  · exact ⟨none, 0, rfl, Nat.le_refl _, fun h0 => by omega⟩
  · refine ⟨some ⟨g, 0, none⟩, cap, rfl, hnc, fun _ => ⟨g, rfl, hbg, (Array.getElem?_eq_some_iff.1 hg).1, fun j u hu => ?_⟩⟩
    have := h.cells (g := g) rfl j u hu
    simpa [Addr.add_lit] using this
theorem own_blk {w : World} {B n : Nat} {v : Value} {xs : List Int} (h : w.ownsRow B 3 1 v n (ints xs)) (hn : 0 < n) : ∃ g cap rest, v = .slice (some ⟨g, 0, none⟩) n cap ∧ Blk w g 3 (ints xs ++ rest) ∧ B ≤ g := by
  rcases h.2 with ⟨_, h0⟩ | ⟨g, cap, cur, rfl, hbg, hg, hnc, hcm, hcs, htake⟩
  · omega
  · refine ⟨g, cap, cur.toList.drop (ints xs).length, rfl, ?_, hbg⟩
    have he : ints xs ++ cur.toList.drop (ints xs).length = cur.toList := by
      have h1 : cur.toList.take (n * 1) = ints xs := htake
      have h2 : (ints xs).length = n * 1 := h.1
      rw [h2, ← h1, List.take_append_drop]
    unfold Blk
    rw [he]
    exact hg
/-- What an owned row of ints holds. -/
theorem hv_of_own {w : World} {B : Nat} {v : Value} {xs : List Int} (h : w.ownsRow B 3 1 v xs.length (ints xs)) (hx : ∀ x ∈ xs, -9223372036854775808 ≤ x ∧ x ≤ 9223372036854775807) (hf : xs.length ≤ 17592186044416) : ∃ ao cap, v = .slice ao xs.length cap ∧ HV w ao cap xs := by
  obtain ⟨eo, cap, rfl, hnc, hc⟩ := own_form' h
  refine ⟨eo, cap, rfl, ⟨hx, ?_⟩, hnc, hf⟩
  by_cases h0 : xs = []
  · exact .inl h0
  · obtain ⟨g, rfl, _, hg, hcell⟩ := hc (List.length_pos_iff.2 h0)
    refine .inr ⟨g, 0, rfl, hg, fun j hj => ?_⟩
    rw [Nat.zero_add]
    exact hcell j _ (ints_get hj)
theorem ownI_made (w : World) (B : Nat) (hB : B ≤ w.heap.size) : (w.alloc (.cells #[] 3)).ownsRow B 3 1 (.slice (some ⟨w.heap.size, 0, none⟩) 0 0) 0 (ints []) :=
  ⟨rfl, .inr ⟨w.heap.size, 0, #[], rfl, hB, World.alloc_heap_new w _, Nat.le_refl _, Nat.zero_le _, rfl, rfl⟩⟩
theorem ownI_nil (w : World) (B : Nat) : w.ownsRow B 3 1 (.slice none 0 0) 0 (ints []) := ⟨rfl, .inl ⟨rfl, rfl⟩⟩
theorem Tryz.infoInt : (Tryz.prog.info? 3).map (fun i => (i.zero, i.size, i.bytes)) = some (some (.int .i64 0), 1, 8) := by kernel_rfl

theorem run_append_noneI {P : Program} (w : World) (base : Nat) (t ty e : TypeId) (i : TypeInfo) (size : Nat) (ht : P.underlying t = some (.slice e)) (hi : P.info? e = some i)
    (v : Value) (n c : Nat) (xs : List Value) (hown : w.ownsRow base e size v n xs) : (Builtin.append_ #[t, t] ty #[v, .slice none 0 c]).run P w = .ok v w := by
  rcases hown.2 with ⟨rfl, rfl⟩ | ⟨g, cap, cur, rfl, _, _, hnc, _⟩
  · simp [Builtin.append_, run_underlying ht, sizeOf, typeInfo, hi, Builtin.lenOf, Builtin.firstCells]
  · simp [Builtin.append_, run_underlying ht, sizeOf, typeInfo, hi, Builtin.lenOf, Builtin.firstCells, hnc, storeCells]

/-- append([]int{}, x...): a new row that holds x's numbers. -/
theorem wpList_append_copy {ops : Array Oper} {rest : List Oper} {o : Oper} {a : Act} {Q : Exit → Act → World → Prop} (W : World) (hgd : o.guard = none) (s x : Operand)
    (ho : o.op = .call { callee := .builtin .append, args := #[s, x], argTypes := #[23, 23] })
    (hs : a.eval s = .slice (some ⟨W.heap.size, 0, none⟩) 0 0) (ao : Option Addr) (c : Nat) (xs : List Int) (n : Nat) (hn : xs.length = n) (hx : a.eval x = .slice ao n c) (hh : HeldInt W ao xs) (hl : xs.length ≤ 17592186044416)
    (h : ∀ bo cp w', w'.ownsRow W.heap.size 3 1 (.slice bo n cp) n (ints xs) → HV w' bo cp xs → Below W.heap.size W w' → wpList Tryz.prog ops Q rest (a.put o.dst (.slice bo n cp)) w') :
    wpList Tryz.prog ops Q (o :: rest) a (W.alloc (.cells #[] 3)) := by
  subst hn
  obtain ⟨iI, hj, hy0, hy1, hy2⟩ := info_parts Tryz.infoInt
  have hbel : Below W.heap.size W (W.alloc (.cells #[] 3)) := (Below.refl _ _).alloc (Nat.le_refl _) _
  have fin : ∀ (v' : Value) (w' : World), w'.ownsRow W.heap.size 3 1 v' xs.length (ints xs) → Below W.heap.size W w' → wpList Tryz.prog ops Q rest (a.put o.dst v') w' := by
    intro v' w' hown hb
    obtain ⟨eo, cap, rfl, hv⟩ := hv_of_own hown hh.1 hl
    exact h eo cap w' hown hv hb
  cases ao with
  | none =>
    have hx0 : xs = [] := by
      rcases hh.2 with h0 | ⟨b, off, e, _⟩
      · exact h0
      · cases e
    subst hx0
    refine wpList_plain hgd fun K hK => ?_
    have hr := run_append_noneI (P := Tryz.prog) (W.alloc (.cells #[] 3)) W.heap.size 23 o.type 3 iI 1 Tryz.underlying23 hj _ 0 c _ (ownI_made W W.heap.size (Nat.le_refl _))
    unfold Oper.wp execOp
    simp only [ho, resolve, invoke, builtin, Sem.run_bind, Sem.run_pure, Result.andThen_ok, List.map_toArray, List.map_cons, List.map_nil, hs, hx, List.length_nil, hr]
    exact hK _ _ (fin _ _ (ownI_made W W.heap.size (Nat.le_refl _)) hbel)
  | some ad =>
    have hnews : ∀ j u, (ints xs)[j]? = some u → (W.alloc (.cells #[] 3)).cell? (ad.add j) = some u := by
      intro j u hu
      rcases hh.2 with h0 | ⟨b, off, e, _⟩
      · subst h0
        simp [ints] at hu
      · cases e
        exact (hh.below hbel).news j u hu
    refine wpList_append_own_at _ hgd s x 23 ho W.heap.size 3 iI (.int .i64 0) 1 8 Tryz.underlying23 hj hy0 hy1 hy2 rfl (by decide) _ 0 (ints []) hs (ownI_made W W.heap.size (Nat.le_refl _)) ad xs.length c (ints xs) hx (by rw [ints_len]; omega) hnews (ints_one xs) (by unfold maxLen; omega) (by omega) (by simp) ?_
    intro v' w' hown hgrow _ _
    refine fin v' w' (by simpa [ints] using hown) (hbel.grown hgrow (by simp) (fun k e => ?_))
    cases e
    exact Nat.le_refl _

/-- append(out, n) of an owned row. -/
theorem wpList_append_one {ops : Array Oper} {rest : List Oper} {o : Oper} {a : Act} {Q : Exit → Act → World → Prop} (W0 W : World) (c : Int) (hW : W = W0.alloc (.cells #[.int .i64 c] 3)) (hgd : o.guard = none) (s x : Operand)
    (ho : o.op = .call { callee := .builtin .append, args := #[s, x], argTypes := #[23, 23] }) (B : Nat) (v : Value) (xs : List Int)
    (hs : a.eval s = v) (hx : a.eval x = .slice (some ⟨W0.heap.size, 0, none⟩) 1 1) (hown : W0.ownsRow B 3 1 v xs.length (ints xs)) (hB : B ≤ W0.heap.size) (hl : xs.length < 17592186044416)
    (h : ∀ v' w', w'.ownsRow B 3 1 v' (xs ++ [c]).length (ints (xs ++ [c])) → Below B W0 w' → wpList Tryz.prog ops Q rest (a.put o.dst v') w') :
    wpList Tryz.prog ops Q (o :: rest) a W := by
  subst hW
  obtain ⟨iI, hj, hy0, hy1, hy2⟩ := info_parts Tryz.infoInt
  have hn := Blk.new W0 3 [.int .i64 c]
  refine wpList_append_own_at _ hgd s x 23 ho B 3 iI (.int .i64 0) 1 8 Tryz.underlying23 hj hy0 hy1 hy2 rfl (by decide) v xs.length (ints xs) hs (hown.alloc _) ⟨W0.heap.size, 0, none⟩ 1 1 [.int .i64 c] hx rfl (fun j u hu => ?_) (one_int _ _) (by unfold maxLen; omega) (by omega) (by simp; omega) ?_
  · rw [Addr.add_lit, Nat.zero_add]
    exact hn.cell hu
  · intro v' w' hown' hgrow _ _
    refine h v' w' (by simpa [ints] using hown') (((Below.refl _ _).alloc hB _).grown hgrow (by simp; omega) (own_lt hown))
end Go.Proofs.YtjlompnjhmbhhaaGreat
/-
  Version vectors as lists of numbers: without noughts at the end, the greater and the lesser of two, which one is below. No program is named here.
-/
namespace Go.Proofs.YtjlompnjhmbhhaaGreat

/-- The number of an origin. -/
def ofV (xs : List Int) (k : Int) : Int := if k < 0 ∨ (xs.length : Int) ≤ k then 0 else xs.getD k.toNat 0
theorem getD_far {xs : List Int} {k : Nat} (h : xs.length ≤ k) : xs.getD k 0 = 0 := by
  simp [List.getD, List.getElem?_eq_none h]
theorem ofV_nat (xs : List Int) (k : Nat) : ofV xs (k : Int) = xs.getD k 0 := by
  unfold ofV
  split
  · next h => rw [getD_far (by omega)]
  · simp
/-- Where f's first k numbers end, without noughts. -/
def endF (f : Nat → Int) : Nat → Nat
  | 0 => 0
  | k + 1 => if f k = 0 then endF f k else k + 1
theorem endF_le (f : Nat → Int) : ∀ k, endF f k ≤ k
  | 0 => Nat.le_refl _
  | k + 1 => by
    unfold endF
    split
    · have := endF_le f k; omega
    · exact Nat.le_refl _
theorem endF_zero (f : Nat → Int) : ∀ k i, endF f k ≤ i → i < k → f i = 0
  | 0, _, _, h => by omega
  | k + 1, i, h1, h2 => by
    unfold endF at h1
    split at h1
    · next h =>
      by_cases e : i = k
      · subst e; exact h
      · exact endF_zero f k i h1 (by omega)
    · omega
theorem endF_last (f : Nat → Int) : ∀ k, endF f k = 0 ∨ f (endF f k - 1) ≠ 0
  | 0 => .inl rfl
  | k + 1 => by
    unfold endF
    split
    · exact endF_last f k
    · right; simpa
def endOf (xs : List Int) : Nat := endF (fun i => xs.getD i 0) xs.length
/-- Without the noughts at the end. -/
def plainOf (xs : List Int) : List Int := xs.take (endOf xs)
theorem endOf_le (xs : List Int) : endOf xs ≤ xs.length := endF_le _ _
theorem plain_len (xs : List Int) : (plainOf xs).length = endOf xs := by
  unfold plainOf
  have := endOf_le xs
  simp
  omega
theorem plain_getD (xs : List Int) (i : Nat) : (plainOf xs).getD i 0 = xs.getD i 0 := by
  by_cases h : i < endOf xs
  · simp [plainOf, List.getD, List.getElem?_take_of_lt h]
  · rw [getD_far (by rw [plain_len]; omega)]
    by_cases h2 : i < xs.length
    · exact (endF_zero (fun i => xs.getD i 0) xs.length i (by unfold endOf at h; omega) h2).symm
    · rw [getD_far (by omega)]
theorem endOf_ext {a b : List Int} (h : ∀ i, a.getD i 0 = b.getD i 0) : endOf a = endOf b := by
  have key : ∀ a b : List Int, (∀ i, a.getD i 0 = b.getD i 0) → endOf a ≤ endOf b := by
    intro a b h
    rcases endF_last (fun i => a.getD i 0) a.length with h0 | h0
    · unfold endOf; rw [h0]; exact Nat.zero_le _
    · apply Nat.le_of_not_lt
      intro hlt
      apply h0
      show a.getD (endOf a - 1) 0 = 0
      rw [h]
      by_cases h2 : endOf a - 1 < b.length
      · exact endF_zero (fun i => b.getD i 0) b.length _ (by unfold endOf at hlt ⊢; omega) h2
      · rw [getD_far (by omega)]
  exact Nat.le_antisymm (key a b h) (key b a (fun i => (h i).symm))
theorem plain_ext {a b : List Int} (h : ∀ i, a.getD i 0 = b.getD i 0) : plainOf a = plainOf b := by
  have he := endOf_ext h
  apply List.ext_getElem
  · rw [plain_len, plain_len, he]
  · intro i h1 h2
    have := h i
    have e1 := plain_getD a i
    have e2 := plain_getD b i
    rw [← this, ← e1] at e2
    simpa [List.getD, List.getElem?_eq_getElem h1, List.getElem?_eq_getElem h2] using e2.symm
theorem plain_mem {xs : List Int} {p : Int → Prop} (h : ∀ x ∈ xs, p x) : ∀ x ∈ plainOf xs, p x := fun x hx => h x (List.mem_of_mem_take hx)

/-- Two vectors, place by place. -/
def joinOf (f : Int → Int → Int) (a b : List Int) : List Int := (List.range (max a.length b.length)).map fun i => f (a.getD i 0) (b.getD i 0)
theorem join_len (f : Int → Int → Int) (a b : List Int) : (joinOf f a b).length = max a.length b.length := by simp [joinOf]
theorem join_getD {f : Int → Int → Int} (hf : f 0 0 = 0) (a b : List Int) (i : Nat) : (joinOf f a b).getD i 0 = f (a.getD i 0) (b.getD i 0) := by
  by_cases h : i < max a.length b.length
  · simp [joinOf, List.getD, h]
  · rw [getD_far (by rw [join_len]; omega), getD_far (xs := a) (by omega), getD_far (xs := b) (by omega), hf]
def mergeOf (a b : List Int) : List Int := plainOf (joinOf (fun x y => max x y) a b)
def meetOf (a b : List Int) : List Int := plainOf (joinOf (fun x y => min x y) a b)
theorem merge_getD (a b : List Int) (i : Nat) : (mergeOf a b).getD i 0 = max (a.getD i 0) (b.getD i 0) := by
  unfold mergeOf
  rw [plain_getD, join_getD (by simp)]
theorem meet_getD (a b : List Int) (i : Nat) : (meetOf a b).getD i 0 = min (a.getD i 0) (b.getD i 0) := by
  unfold meetOf
  rw [plain_getD, join_getD (by simp)]
theorem ofV_merge (a b : List Int) (k : Int) : ofV (mergeOf a b) k = max (ofV a k) (ofV b k) := by
  by_cases h : k < 0
  · simp [ofV, h]
  · obtain ⟨n, rfl⟩ := Int.eq_ofNat_of_zero_le (by omega : 0 ≤ k)
    simp only [ofV_nat, merge_getD]
theorem ofV_meet (a b : List Int) (k : Int) : ofV (meetOf a b) k = min (ofV a k) (ofV b k) := by
  by_cases h : k < 0
  · simp [ofV, h]
  · obtain ⟨n, rfl⟩ := Int.eq_ofNat_of_zero_le (by omega : 0 ≤ k)
    simp only [ofV_nat, meet_getD]
/-- Each of a's numbers is at most b's. -/
def BelowV (a b : List Int) : Prop := ∀ i, i < max a.length b.length → a.getD i 0 ≤ b.getD i 0
instance (a b : List Int) : Decidable (BelowV a b) := by unfold BelowV; infer_instance
theorem belowV_iff {a b : List Int} : BelowV a b ↔ ∀ i, a.getD i 0 ≤ b.getD i 0 := by
  constructor
  · intro h i
    by_cases hi : i < max a.length b.length
    · exact h i hi
    · rw [getD_far (xs := a) (by omega), getD_far (xs := b) (by omega)]
      exact Int.le_refl _
  · exact fun h i _ => h i
def cmpOf (a b : List Int) : Int := if BelowV a b then (if BelowV b a then 0 else -1) else (if BelowV b a then 1 else 2)
/-- Has a dot. -/
def HasV (xs : List Int) (o s : Int) : Prop := 1 ≤ s ∧ s ≤ ofV xs o
instance (xs : List Int) (o s : Int) : Decidable (HasV xs o s) := by unfold HasV; infer_instance
/-- May be one. -/
def MayV (xs : List Int) : Prop := xs.length ≤ 7 ∧ ∀ x ∈ xs, 0 ≤ x ∧ x ≤ 2147483647
instance (xs : List Int) : Decidable (MayV xs) := by unfold MayV; infer_instance
theorem eq_iff_getD {a b : List Int} (ha : plainOf a = a) (hb : plainOf b = b) : a = b ↔ ∀ i, a.getD i 0 = b.getD i 0 := by
  constructor
  · rintro rfl i; rfl
  · intro h
    rw [← ha, ← hb]
    exact plain_ext h
theorem plain_plain (a : List Int) : plainOf (plainOf a) = plainOf a := plain_ext (plain_getD a)
theorem plain_merge (a b : List Int) : plainOf (mergeOf a b) = mergeOf a b := plain_plain _
theorem plain_meet (a b : List Int) : plainOf (meetOf a b) = meetOf a b := plain_plain _
end Go.Proofs.YtjlompnjhmbhhaaGreat
/-
  What stands of events, of each dot the first one, how many of an article: as lists. No program is named here.
-/
namespace Go.Proofs.YtjlompnjhmbhhaaGreat

/-- An event. -/
structure Ev where
  o : Int
  s : Int
  deps : List Int
  cart : ByteArray
  epoch : Int
  sku : ByteArray
  qty : Int
  clears : Bool
deriving DecidableEq
def zeroEv : Ev := ⟨0, 0, [], ByteArray.empty, 0, ByteArray.empty, 0, false⟩
/-- e goes by f. -/
def Goes (e f : Ev) : Prop := f.clears = true ∧ f.cart = e.cart ∧ f.sku = e.sku ∧ HasV f.deps e.o e.s ∧ e ≠ f
instance (e f : Ev) : Decidable (Goes e f) := by unfold Goes; infer_instance
/-- Nothing of l lets e go. -/
def Stands (l : List Ev) (e : Ev) : Prop := ∀ f ∈ l, ¬ Goes e f
instance (l : List Ev) (e : Ev) : Decidable (Stands l e) := by unfold Stands; infer_instance
def standOf (l : List Ev) : List Ev := l.filter fun e => decide (Stands l e)

/-- Two clearing events. -/
structure Tw where
  first : Ev
  second : Ev
def zeroTw : Tw := ⟨zeroEv, zeroEv⟩
def twWith (t : Tw) (f : Ev) (o : Int) : Tw :=
  if f.o = o ∧ f = t.first then t else if ofV t.first.deps o < ofV f.deps o then ⟨f, t.first⟩ else if ofV t.second.deps o < ofV f.deps o then ⟨t.first, f⟩ else t
/-- Does f count for that sight? -/
def Counts (c k : ByteArray) (o : Int) (f : Ev) : Prop := f.clears = true ∧ f.cart = c ∧ f.sku = k ∧ 0 < ofV f.deps o
instance (c k : ByteArray) (o : Int) (f : Ev) : Decidable (Counts c k o f) := by unfold Counts; infer_instance
def twOf (c k : ByteArray) (o : Int) (l : List Ev) : Tw := l.foldl (fun t f => if Counts c k o f then twWith t f o else t) zeroTw
theorem twOf_snoc (c k : ByteArray) (o : Int) (l : List Ev) (f : Ev) : twOf c k o (l ++ [f]) = if Counts c k o f then twWith (twOf c k o l) f o else twOf c k o l := by
  simp [twOf, List.foldl_append]
theorem ofV_nil (o : Int) : ofV [] o = 0 := by
  unfold ofV
  split
  · rfl
  · simp

structure TwInv (c k : ByteArray) (o : Int) (l : List Ev) (t : Tw) : Prop where
  memF : t.first = zeroEv ∨ t.first ∈ l ∧ Counts c k o t.first
  memS : t.second = zeroEv ∨ t.second ∈ l ∧ Counts c k o t.second
  top : ∀ f ∈ l, Counts c k o f → ofV f.deps o ≤ ofV t.first.deps o
  sec : t.first.o = o → ∀ f ∈ l, Counts c k o f → f ≠ t.first → ofV f.deps o ≤ ofV t.second.deps o
  dif : t.first.o = o → t.second ≠ t.first ∨ ofV t.second.deps o ≤ 0
theorem twInv_nil (c k : ByteArray) (o : Int) : TwInv c k o [] zeroTw :=
  ⟨.inl rfl, .inl rfl, fun f hf => (by cases hf), fun _ f hf => (by cases hf), fun _ => .inr (by show ofV [] o ≤ 0; rw [ofV_nil]; exact Int.le_refl _)⟩
theorem twInv_skip {c k : ByteArray} {o : Int} {l : List Ev} {t : Tw} (h : TwInv c k o l t) (f : Ev) (hf : ¬ Counts c k o f) : TwInv c k o (l ++ [f]) t := by
  refine ⟨h.memF.imp_right fun x => ⟨List.mem_append_left _ x.1, x.2⟩, h.memS.imp_right fun x => ⟨List.mem_append_left _ x.1, x.2⟩, fun g hg hc => ?_, fun ho g hg hc hne => ?_, h.dif⟩
  · rcases List.mem_append.1 hg with hg | hg
    · exact h.top g hg hc
    · obtain rfl := List.mem_singleton.1 hg
      exact absurd hc hf
  · rcases List.mem_append.1 hg with hg | hg
    · exact h.sec ho g hg hc hne
    · obtain rfl := List.mem_singleton.1 hg
      exact absurd hc hf
theorem twInv_step {c k : ByteArray} {o : Int} {l : List Ev} {t : Tw} (h : TwInv c k o l t) (f : Ev) (hf : Counts c k o f) : TwInv c k o (l ++ [f]) (twWith t f o) := by
  have hmf : f ∈ l ++ [f] := List.mem_append_right _ (List.mem_singleton.2 rfl)
  have hF := h.memF.imp_right fun (x : t.first ∈ l ∧ Counts c k o t.first) => (⟨List.mem_append_left [f] x.1, x.2⟩ : t.first ∈ l ++ [f] ∧ _)
  have hS := h.memS.imp_right fun (x : t.second ∈ l ∧ Counts c k o t.second) => (⟨List.mem_append_left [f] x.1, x.2⟩ : t.second ∈ l ++ [f] ∧ _)
  unfold twWith
  split
  · next h1 =>
    refine ⟨hF, hS, fun g hg hc => ?_, fun ho g hg hc hne => ?_, h.dif⟩
    · rcases List.mem_append.1 hg with hg | hg
      · exact h.top g hg hc
      · obtain rfl := List.mem_singleton.1 hg
        rw [← h1.2]
        exact Int.le_refl _
    · rcases List.mem_append.1 hg with hg | hg
      · exact h.sec ho g hg hc hne
      · obtain rfl := List.mem_singleton.1 hg
        exact absurd h1.2 hne
  · next h1 =>
    split
    · next h2 =>
      refine ⟨.inr ⟨hmf, hf⟩, hF, fun g hg hc => ?_, fun ho g hg hc hne => ?_, fun _ => .inl fun e => ?_⟩
      · rcases List.mem_append.1 hg with hg | hg
        · exact Int.le_trans (h.top g hg hc) (Int.le_of_lt h2)
        · obtain rfl := List.mem_singleton.1 hg
          exact Int.le_refl _
      · rcases List.mem_append.1 hg with hg | hg
        · exact h.top g hg hc
        · obtain rfl := List.mem_singleton.1 hg
          exact absurd rfl hne
      · simp only at e
        rw [e] at h2
        exact absurd h2 (Int.lt_irrefl _)
    · next h2 =>
      split
      · next h3 =>
        refine ⟨hF, .inr ⟨hmf, hf⟩, fun g hg hc => ?_, fun ho g hg hc hne => ?_, fun ho => .inl fun e => ?_⟩
        · rcases List.mem_append.1 hg with hg | hg
          · exact h.top g hg hc
          · obtain rfl := List.mem_singleton.1 hg
            exact Int.not_lt.1 h2
        · rcases List.mem_append.1 hg with hg | hg
          · exact Int.le_trans (h.sec ho g hg hc hne) (Int.le_of_lt h3)
          · obtain rfl := List.mem_singleton.1 hg
            exact Int.le_refl _
        · simp only at e ho
          exact h1 ⟨by rw [e]; exact ho, e⟩
      · next h3 =>
        refine ⟨hF, hS, fun g hg hc => ?_, fun ho g hg hc hne => ?_, h.dif⟩
        · rcases List.mem_append.1 hg with hg | hg
          · exact h.top g hg hc
          · obtain rfl := List.mem_singleton.1 hg
            exact Int.not_lt.1 h2
        · rcases List.mem_append.1 hg with hg | hg
          · exact h.sec ho g hg hc hne
          · obtain rfl := List.mem_singleton.1 hg
            exact Int.not_lt.1 h3
theorem twInv_of (c k : ByteArray) (o : Int) : ∀ (r l : List Ev) (t : Tw), TwInv c k o l t → TwInv c k o (l ++ r) (r.foldl (fun t f => if Counts c k o f then twWith t f o else t) t)
  | [], l, t, h => by simpa using h
  | f :: r, l, t, h => by
    rw [List.foldl_cons, show l ++ f :: r = (l ++ [f]) ++ r by simp]
    refine twInv_of c k o r _ _ ?_
    split
    · next hf => exact twInv_step h f hf
    · next hf => exact twInv_skip h f hf
theorem tw_inv (c k : ByteArray) (o : Int) (l : List Ev) : TwInv c k o l (twOf c k o l) := by
  have := twInv_of c k o l [] zeroTw (twInv_nil c k o)
  rw [List.nil_append] at this
  exact this
theorem goes_zero (e : Ev) : ¬ Goes e zeroEv := fun h => by
  have := h.1
  cases this
/-- An event goes by one of l just where it goes by one of the two. -/
theorem stands_two (l : List Ev) (e : Ev) : Stands l e ↔ ¬ Goes e (twOf e.cart e.sku e.o l).first ∧ ¬ Goes e (twOf e.cart e.sku e.o l).second := by
  have hI := tw_inv e.cart e.sku e.o l
  constructor
  · intro h
    constructor
    · rcases hI.memF with hz | ⟨hm, _⟩
      · rw [hz]; exact goes_zero e
      · exact h _ hm
    · rcases hI.memS with hz | ⟨hm, _⟩
      · rw [hz]; exact goes_zero e
      · exact h _ hm
  · rintro ⟨h1, h2⟩ f hf hg
    obtain ⟨g1, g2, g3, g4, g5⟩ := hg
    have hv : 1 ≤ e.s ∧ e.s ≤ ofV f.deps e.o := g4
    have hc : Counts e.cart e.sku e.o f := ⟨g1, g2, g3, by omega⟩
    have ht := hI.top f hf hc
    have hz0 : ofV zeroEv.deps e.o = 0 := ofV_nil _
    have hF : Counts e.cart e.sku e.o (twOf e.cart e.sku e.o l).first := by
      rcases hI.memF with hz | ⟨_, h⟩
      · rw [hz] at ht
        omega
      · exact h
    by_cases he : e = (twOf e.cart e.sku e.o l).first
    · have ho : (twOf e.cart e.sku e.o l).first.o = e.o := by rw [← he]
      have hs := hI.sec ho f hf hc (fun x => g5 (he.trans x.symm))
      have hS : Counts e.cart e.sku e.o (twOf e.cart e.sku e.o l).second := by
        rcases hI.memS with hz | ⟨_, h⟩
        · rw [hz] at hs
          omega
        · exact h
      have hd : (twOf e.cart e.sku e.o l).second ≠ (twOf e.cart e.sku e.o l).first := by
        rcases hI.dif ho with h | h
        · exact h
        · omega
      exact h2 ⟨hS.1, hS.2.1, hS.2.2.1, ⟨hv.1, by omega⟩, fun x => hd (x.symm.trans he)⟩
    · exact h1 ⟨hF.1, hF.2.1, hF.2.2.1, ⟨hv.1, by omega⟩, he⟩

/-! ### Of each dot the first one -/
def firstsFrom (met : List (Int × Int)) : List Ev → List Ev
  | [] => []
  | e :: r => if (e.o, e.s) ∈ met then firstsFrom met r else e :: firstsFrom ((e.o, e.s) :: met) r
/-- How many of an article events have. -/
def qtyOf (k : ByteArray) : List Ev → Int
  | [] => 0
  | e :: r => (if e.sku = k then e.qty else 0) + qtyOf k r
def ofCart (c : ByteArray) (l : List Ev) : List Ev := l.filter fun e => decide (e.cart = c)
/-- The events that count for a cart. -/
def countOf (c : ByteArray) (l : List Ev) : List Ev := firstsFrom [] (standOf (ofCart c l))
/-- How many of an article a cart has. -/
def linesQ (c : ByteArray) (l : List Ev) (k : ByteArray) : Int := qtyOf k (countOf c l)
theorem qtyOf_append (k : ByteArray) (a b : List Ev) : qtyOf k (a ++ b) = qtyOf k a + qtyOf k b := by
  induction a with
  | nil => simp [qtyOf]
  | cons x r ih => simp only [List.cons_append, qtyOf, ih]; omega
theorem qtyOf_perm {k : ByteArray} {a b : List Ev} (h : a.Perm b) : qtyOf k a = qtyOf k b := by
  induction h with
  | nil => rfl
  | cons x _ ih => simp only [qtyOf, ih]
  | swap x y l => simp only [qtyOf]; omega
  | trans _ _ h1 h2 => exact h1.trans h2
theorem firstsFrom_sub : ∀ (l : List Ev) (met : List (Int × Int)), ∀ e ∈ firstsFrom met l, e ∈ l
  | [], _, e, h => by simp [firstsFrom] at h
  | x :: r, met, e, h => by
    unfold firstsFrom at h
    split at h
    · exact List.mem_cons_of_mem _ (firstsFrom_sub r _ e h)
    · rcases List.mem_cons.1 h with rfl | h
      · exact List.mem_cons_self ..
      · exact List.mem_cons_of_mem _ (firstsFrom_sub r _ e h)
theorem firstsFrom_dots : ∀ (l : List Ev) (met : List (Int × Int)), ((firstsFrom met l).map fun e => (e.o, e.s)).Nodup ∧ ∀ d ∈ (firstsFrom met l).map (fun e => (e.o, e.s)), d ∉ met
  | [], _ => by simp [firstsFrom]
  | x :: r, met => by
    unfold firstsFrom
    split
    · exact firstsFrom_dots r met
    · next hx =>
      obtain ⟨h1, h2⟩ := firstsFrom_dots r ((x.o, x.s) :: met)
      refine ⟨?_, fun d hd => ?_⟩
      · rw [List.map_cons, List.nodup_cons]
        exact ⟨fun hm => h2 _ hm (List.mem_cons_self ..), h1⟩
      · rw [List.map_cons, List.mem_cons] at hd
        rcases hd with rfl | hd
        · exact hx
        · exact fun hm => h2 d hd (List.mem_cons_of_mem _ hm)
theorem firstsFrom_has : ∀ (l : List Ev) (met : List (Int × Int)), ∀ e ∈ l, (e.o, e.s) ∈ met ∨ ∃ f ∈ firstsFrom met l, f.o = e.o ∧ f.s = e.s
  | [], _, e, h => by cases h
  | x :: r, met, e, h => by
    unfold firstsFrom
    split
    · next hx =>
      rcases List.mem_cons.1 h with rfl | h
      · exact .inl hx
      · exact firstsFrom_has r met e h
    · next hx =>
      rcases List.mem_cons.1 h with rfl | h
      · exact .inr ⟨_, List.mem_cons_self .., rfl, rfl⟩
      · rcases firstsFrom_has r ((x.o, x.s) :: met) e h with h1 | ⟨f, hf, h1⟩
        · rcases List.mem_cons.1 h1 with h1 | h1
          · simp only [Prod.mk.injEq] at h1
            exact .inr ⟨x, List.mem_cons_self .., h1.1.symm, h1.2.symm⟩
          · exact .inl h1
        · exact .inr ⟨f, List.mem_cons_of_mem _ hf, h1⟩
/-- Has each dot one event? -/
def OneEach (l : List Ev) : Prop := ∀ e ∈ l, ∀ f ∈ l, e.o = f.o → e.s = f.s → e = f
theorem OneEach.sub {l m : List Ev} (h : OneEach l) (hm : ∀ e ∈ m, e ∈ l) : OneEach m := fun e he f hf => h e (hm e he) f (hm f hf)
theorem firsts_nodup (l : List Ev) (met : List (Int × Int)) : (firstsFrom met l).Nodup := by
  have := (firstsFrom_dots l met).1
  rw [List.nodup_iff_pairwise_ne, List.pairwise_map] at this
  rw [List.nodup_iff_pairwise_ne]
  exact this.imp fun h e => h (by rw [e])
theorem firsts_mem {l : List Ev} (h : OneEach l) (e : Ev) : e ∈ firstsFrom [] l ↔ e ∈ l := by
  refine ⟨firstsFrom_sub l [] e, fun he => ?_⟩
  rcases firstsFrom_has l [] e he with h0 | ⟨f, hf, h1, h2⟩
  · cases h0
  · have := h f (firstsFrom_sub l [] f hf) e he h1 h2
    rw [← this]
    exact hf
theorem ofCart_mem {c : ByteArray} {l : List Ev} {e : Ev} : e ∈ ofCart c l ↔ e ∈ l ∧ e.cart = c := by simp [ofCart]
theorem standOf_mem {l : List Ev} {e : Ev} : e ∈ standOf l ↔ e ∈ l ∧ Stands l e := by simp [standOf]
/-- Whether a cart's event counts: nothing of l lets it go. -/
theorem count_mem {c : ByteArray} {l : List Ev} (h : OneEach l) (e : Ev) : e ∈ countOf c l ↔ e ∈ l ∧ e.cart = c ∧ Stands l e := by
  unfold countOf
  rw [firsts_mem (h.sub fun e he => (ofCart_mem.1 (standOf_mem.1 he).1).1), standOf_mem, ofCart_mem]
  constructor
  · rintro ⟨⟨h1, h2⟩, h3⟩
    exact ⟨h1, h2, fun f hf hg => h3 f (ofCart_mem.2 ⟨hf, hg.2.1.trans h2⟩) hg⟩
  · rintro ⟨h1, h2, h3⟩
    exact ⟨⟨h1, h2⟩, fun f hf hg => h3 f (ofCart_mem.1 hf).1 hg⟩
theorem count_nodup (c : ByteArray) (l : List Ev) : (countOf c l).Nodup := firsts_nodup _ _
theorem perm_of_mem {a b : List Ev} (ha : a.Nodup) (hb : b.Nodup) (h : ∀ e, e ∈ a ↔ e ∈ b) : a.Perm b := (List.perm_ext_iff_of_nodup ha hb).2 h
/-- Lines hang on the set of events alone. -/
theorem linesQ_set {a b : List Ev} (ha : OneEach a) (h : ∀ e, e ∈ a ↔ e ∈ b) (c k : ByteArray) : linesQ c a k = linesQ c b k := by
  have hb : OneEach b := ha.sub fun e he => (h e).2 he
  refine qtyOf_perm (perm_of_mem (count_nodup _ _) (count_nodup _ _) fun e => ?_)
  rw [count_mem ha, count_mem hb, h]
  constructor
  · rintro ⟨h1, h2, h3⟩
    exact ⟨h1, h2, fun f hf => h3 f ((h f).2 hf)⟩
  · rintro ⟨h1, h2, h3⟩
    exact ⟨h1, h2, fun f hf => h3 f ((h f).1 hf)⟩
theorem qtyOf_nonneg {k : ByteArray} : ∀ {l : List Ev}, (∀ e ∈ l, 0 ≤ e.qty) → 0 ≤ qtyOf k l
  | [], _ => Int.le_refl _
  | x :: r, h => by
    have h1 := h x (List.mem_cons_self ..)
    have h2 := qtyOf_nonneg (k := k) (l := r) fun e he => h e (List.mem_cons_of_mem _ he)
    unfold qtyOf
    split <;> omega
theorem qtyOf_le {k : ByteArray} : ∀ {l : List Ev}, (∀ e ∈ l, 0 ≤ e.qty ∧ e.qty ≤ 1000) → qtyOf k l ≤ 1000 * (l.length : Int)
  | [], _ => Int.le_refl _
  | x :: r, h => by
    have h1 := h x (List.mem_cons_self ..)
    have h2 := qtyOf_le (k := k) (l := r) fun e he => h e (List.mem_cons_of_mem _ he)
    unfold qtyOf
    rw [List.length_cons]
    split <;> omega
end Go.Proofs.YtjlompnjhmbhhaaGreat
/-
  api.Dot as a map's key. No function of the program is named here.
-/
namespace Go.Proofs.YtjlompnjhmbhhaaGreat
open Go.RowKit Go.Maps

theorem Tryz.laidOutK : laidOutB Tryz.prog = true := by kernel_rfl
theorem Tryz.keyedDot : Keyed Tryz.prog 25 := Keyed.of_law (deep_law_laid Tryz.laidOutK (m := 3) (by decide) (of_decide_eq_true (by kernel_rfl)) (by kernel_rfl) (by kernel_rfl))
def I64 (x : Int) : Prop := -9223372036854775808 ≤ x ∧ x ≤ 9223372036854775807
theorem wf_of {x : Int} (h : I64 x) : (Lit.int .i64 x).wf = true := by
  unfold I64 at h
  simp [Lit.wf, IntKind.min, IntKind.max, IntKind.signed, IntKind.bits]
  omega
def dotVal (o s : Int) : Value := .agg #[.int .i64 o, .int .i64 s]
theorem types_pos : ∃ k, Tryz.prog.types.size = k + 1 := by
  have h : 0 < Tryz.prog.types.size := of_decide_eq_true (by kernel_rfl)
  exact ⟨Tryz.prog.types.size - 1, by omega⟩
/-- What a dot reads as, as a key. -/
def dk (o s : Int) : Lit := .string (keyBytes [.int .i64 o, .int .i64 s])
theorem key_dot {o s : Int} (ho : I64 o) (hs : I64 s) : keyOf Tryz.prog 25 (dotVal o s) = some (dk o s) := by
  have h1 : Tryz.prog.keyType 25 = true := by kernel_rfl
  have h2 : (dotVal o s).formed Tryz.prog 25 = true := by kernel_rfl
  have h3 : Tryz.prog.keyLits (Tryz.prog.types.size + 1) 25 (dotVal o s).cells.toList = some [.int .i64 o, .int .i64 s] := by
    obtain ⟨k, hk⟩ := types_pos
    rw [hk]
    have hi : ∀ x, I64 x → Tryz.prog.keyLits (k + 1) 3 [.int .i64 x] = some [.int .i64 x] := fun x hx => by
      simp [Program.keyLits, Tryz.underlying3, wf_of hx]
    have e1 : Tryz.prog.cellsOf 25 = 2 := by kernel_rfl
    have e2 : Tryz.prog.cellsOf 3 = 1 := by kernel_rfl
    unfold Program.keyLits
    simp [Tryz.underlying25, dotVal, Value.cells, e1, e2, hi o ho, hi s hs]
  unfold keyOf
  rw [Tryz.underlying25]
  show (if _ then _ else _) = _
  rw [if_pos (by rw [h1, h2]; rfl), h3]
  rfl
theorem dk_inj {o s o' s' : Int} (ho : I64 o) (hs : I64 s) (ho' : I64 o') (hs' : I64 s') (h : dk o s = dk o' s') : o = o' ∧ s = s' := by
  have h1 := key_dot ho hs
  have h2 := key_dot ho' hs'
  rw [← h] at h2
  have := Tryz.keyedDot.inj h1 h2
  simpa [dotVal] using this
set_option maxRecDepth 20000 in
/-- What reads as a dot's key is a dot. -/
theorem dk_inv {key : Value} {kl : Lit} (h : keyOf Tryz.prog 25 key = some kl) : ∃ o s, key = dotVal o s ∧ kl = dk o s ∧ I64 o ∧ I64 s := by
  obtain ⟨xs, L, rfl, h1, h2⟩ := keyOf_top (by kernel_rfl) h
  obtain ⟨k, hk⟩ := types_pos
  rw [hk] at h1
  have hi : ∀ v l, Tryz.prog.keyLits (k + 1) 3 [v] = some l → ∃ x, v = .int .i64 x ∧ I64 x ∧ l = [.int .i64 x] := fun v l hv => by
    cases v <;> simp [Program.keyLits, Tryz.underlying3] at hv
    rename_i q x
    obtain ⟨⟨rfl, hw⟩, rfl⟩ := hv
    refine ⟨x, rfl, ?_, rfl⟩
    simp [Lit.wf, IntKind.min, IntKind.max, IntKind.signed, IntKind.bits] at hw
    unfold I64
    omega
  have e1 : Tryz.prog.cellsOf 25 = 2 := by kernel_rfl
  have e2 : Tryz.prog.cellsOf 3 = 1 := by kernel_rfl
  obtain ⟨xs⟩ := xs
  change Tryz.prog.keyLits (k + 1 + 1) 25 xs = some L at h1
  rcases xs with _ | ⟨a, _ | ⟨b, _ | ⟨c, r⟩⟩⟩
  · simp [Program.keyLits, Tryz.underlying25, e1] at h1
  · simp [Program.keyLits, Tryz.underlying25, e1] at h1
  · unfold Program.keyLits at h1
    simp [Tryz.underlying25, e1, e2] at h1
    cases ha : Tryz.prog.keyLits (k + 1) 3 [a] with
    | none => simp [ha] at h1
    | some la =>
      cases hb : Tryz.prog.keyLits (k + 1) 3 [b] with
      | none => simp [ha, hb] at h1
      | some lb =>
        obtain ⟨x, rfl, hx, rfl⟩ := hi a la ha
        obtain ⟨y, rfl, hy, rfl⟩ := hi b lb hb
        simp [ha, hb] at h1
        subst h1
        exact ⟨x, y, rfl, h2, hx, hy⟩
  · simp [Program.keyLits, Tryz.underlying25, e1] at h1
end Go.Proofs.YtjlompnjhmbhhaaGreat
/-
  Events in memory: what a slice of api.Event holds ('HeldE'), what append makes of one. No function of the program is named here.
-/
namespace Go.Proofs.YtjlompnjhmbhhaaGreat
open Go.RowKit Go.ChangeShapes Go.WideShapes Go.Deep Go.Maps

/-- An event with the place of its vector. -/
structure EvM where
  e : Ev
  ao : Option Addr
  cap : Nat
def zeroEM : EvM := ⟨zeroEv, none, 0⟩
instance : Inhabited EvM := ⟨zeroEM⟩
def EvM.cells (x : EvM) : List Value := [.int .i64 x.e.o, .int .i64 x.e.s, .slice x.ao x.e.deps.length x.cap, .string x.e.cart, .int .i64 x.e.epoch, .string x.e.sku, .int .i64 x.e.qty, .bool x.e.clears]
abbrev EvM.val (x : EvM) : Value := .agg #[.int .i64 x.e.o, .int .i64 x.e.s, .slice x.ao x.e.deps.length x.cap, .string x.e.cart, .int .i64 x.e.epoch, .string x.e.sku, .int .i64 x.e.qty, .bool x.e.clears]
structure EvOk (w : World) (x : EvM) : Prop where
  deps : HV w x.ao x.cap x.e.deps
  io : I64 x.e.o
  is : I64 x.e.s
  ie : I64 x.e.epoch
  iq : I64 x.e.qty
  hc : x.e.cart.size ≤ maxLen
  hs : x.e.sku.size ≤ maxLen
theorem EvOk.below {w w' : World} {x : EvM} (h : EvOk w x) (hb : Below w.heap.size w w') : EvOk w' x := ⟨h.deps.below hb, h.io, h.is, h.ie, h.iq, h.hc, h.hs⟩
theorem hv_none (w : World) (c : Nat) : HV w none c [] := ⟨⟨fun x hx => (by cases hx), .inl rfl⟩, Nat.zero_le _, Nat.zero_le _⟩
theorem EvOk.zero (w : World) : EvOk w zeroEM := ⟨hv_none w 0, by unfold I64; decide, by unfold I64; decide, by unfold I64; decide, by unfold I64; decide, Nat.zero_le _, Nat.zero_le _⟩
def AllOk (w : World) (xs : List EvM) : Prop := ∀ x ∈ xs, EvOk w x
theorem AllOk.below {w w' : World} {xs : List EvM} (h : AllOk w xs) (hb : Below w.heap.size w w') : AllOk w' xs := fun x hx => (h x hx).below hb
/-- A slice of events holds xs. -/
def HeldE (w : World) (ao : Option Addr) (xs : List EvM) : Prop :=
  AllOk w xs ∧ (xs = [] ∨ ∃ b off, ao = some ⟨b, off, none⟩ ∧ b < w.heap.size ∧ ∀ j (hj : j < xs.length) c u, xs[j].cells[c]? = some u → w.cell? ⟨b, off + j * 8 + c, none⟩ = some u)
theorem HeldE.below {w w' : World} {ao : Option Addr} {xs : List EvM} (h : HeldE w ao xs) (hb : Below w.heap.size w w') : HeldE w' ao xs := by
  refine ⟨h.1.below hb, ?_⟩
  rcases h.2 with h0 | ⟨b, off, h1, h2, h3⟩
  · exact .inl h0
  · exact .inr ⟨b, off, h1, Nat.lt_of_lt_of_le h2 hb.size, fun j hj c u hu => (hb.cell (p := ⟨b, off + j * 8 + c, none⟩) h2).trans (h3 j hj c u hu)⟩
theorem HeldE.at {w : World} {ao : Option Addr} {xs : List EvM} (h : HeldE w ao xs) {j : Nat} (hj : j < xs.length) : ∃ b off, ao = some ⟨b, off, none⟩ ∧ b < w.heap.size ∧ w.cell? ⟨b, off + j * 8, none⟩ = some (.int .i64 xs[j].e.o) ∧ w.cell? ⟨b, off + j * 8 + 1, none⟩ = some (.int .i64 xs[j].e.s) ∧
    w.cell? ⟨b, off + j * 8 + 2, none⟩ = some (.slice xs[j].ao xs[j].e.deps.length xs[j].cap) ∧ w.cell? ⟨b, off + j * 8 + 3, none⟩ = some (.string xs[j].e.cart) ∧ w.cell? ⟨b, off + j * 8 + 4, none⟩ = some (.int .i64 xs[j].e.epoch) ∧
    w.cell? ⟨b, off + j * 8 + 5, none⟩ = some (.string xs[j].e.sku) ∧ w.cell? ⟨b, off + j * 8 + 6, none⟩ = some (.int .i64 xs[j].e.qty) ∧ w.cell? ⟨b, off + j * 8 + 7, none⟩ = some (.bool xs[j].e.clears) := by
  rcases h.2 with h0 | ⟨b, off, h1, h2, h3⟩
  · subst h0
    cases hj
  · exact ⟨b, off, h1, h2, h3 j hj 0 _ rfl, h3 j hj 1 _ rfl, h3 j hj 2 _ rfl, h3 j hj 3 _ rfl, h3 j hj 4 _ rfl, h3 j hj 5 _ rfl, h3 j hj 6 _ rfl, h3 j hj 7 _ rfl⟩
def flatE (xs : List EvM) : List Value := xs.flatMap EvM.cells
theorem flatE_snoc (xs : List EvM) (x : EvM) : flatE (xs ++ [x]) = flatE xs ++ x.cells := by simp [flatE]
theorem flatE_len : ∀ xs : List EvM, (flatE xs).length = xs.length * 8
  | [] => rfl
  | x :: r => by
    have := flatE_len r
    unfold flatE at this ⊢
    rw [List.flatMap_cons, List.length_append, this, List.length_cons]
    show 8 + _ = _
    omega
theorem flatE_get : ∀ (xs : List EvM) (j : Nat) (hj : j < xs.length) (c : Nat) (u : Value), xs[j].cells[c]? = some u → (flatE xs)[j * 8 + c]? = some u
  | [], j, hj, _, _, _ => by cases hj
  | x :: r, 0, _, c, u, h => by
    simp only [List.getElem_cons_zero] at h
    have hc : c < 8 := (List.getElem?_eq_some_iff.1 h).1
    unfold flatE
    rw [List.flatMap_cons, Nat.zero_mul, Nat.zero_add, List.getElem?_append_left (show c < 8 from hc)]
    exact h
  | x :: r, j + 1, hj, c, u, h => by
    simp only [List.getElem_cons_succ] at h
    have := flatE_get r j (by simpa using hj) c u h
    unfold flatE at this ⊢
    rw [List.flatMap_cons, List.getElem?_append_right (show x.cells.length ≤ _ by show 8 ≤ _; omega)]
    rw [show (j + 1) * 8 + c - x.cells.length = j * 8 + c by show _ - 8 = _; omega]
    exact this
theorem own_form8 {w : World} {B e n : Nat} {v : Value} {xs : List Value} {k : Nat} (h : w.ownsRow B e k v n xs) :
    ∃ eo cap, v = .slice eo n cap ∧ n ≤ cap ∧ (0 < n → ∃ g, eo = some ⟨g, 0, none⟩ ∧ B ≤ g ∧ g < w.heap.size ∧ ∀ j u, xs[j]? = some u → w.cell? ⟨g, j, none⟩ = some u) := by
  rcases h.2 with ⟨rfl, rfl⟩ | ⟨g, cap, cur, rfl, hbg, hg, hnc, _⟩
  · exact ⟨none, 0, rfl, Nat.le_refl _, fun h0 => by omega⟩
  · refine ⟨some ⟨g, 0, none⟩, cap, rfl, hnc, fun _ => ⟨g, rfl, hbg, (Array.getElem?_eq_some_iff.1 hg).1, fun j u hu => ?_⟩⟩
    have := h.cells (g := g) rfl j u hu
    simpa [Addr.add_lit] using this
/-- What an owned row of events holds. -/
theorem heldE_of_own {w : World} {B : Nat} {v : Value} {xs : List EvM} {n : Nat} (hn : xs.length = n) (h : w.ownsRow B 33 8 v n (flatE xs)) (hx : AllOk w xs) : ∃ ao cap, v = .slice ao n cap ∧ n ≤ cap ∧ HeldE w ao xs := by
  subst hn
  obtain ⟨eo, cap, rfl, hnc, hc⟩ := own_form8 h
  refine ⟨eo, cap, rfl, hnc, hx, ?_⟩
  by_cases h0 : xs = []
  · exact .inl h0
  · obtain ⟨g, rfl, _, hg, hcell⟩ := hc (List.length_pos_iff.2 h0)
    refine .inr ⟨g, 0, rfl, hg, fun j hj c u hu => ?_⟩
    rw [Nat.zero_add]
    exact hcell _ _ (flatE_get xs j hj c u hu)
theorem Tryz.infoEv : (Tryz.prog.info? 33).map (fun i => (i.zero, i.size, i.bytes)) = some (some (.agg #[.int .i64 0, .int .i64 0, .slice none 0 0, .string ⟨#[]⟩, .int .i64 0, .string ⟨#[]⟩, .int .i64 0, .bool false]), 8, 96) := by kernel_rfl
theorem ev_one (x : EvM) : ∀ u ∈ x.cells, u.oneCell' = true := by
  intro u hu
  simp [EvM.cells] at hu
  rcases hu with rfl | rfl | rfl | rfl | rfl | rfl | rfl | rfl <;> rfl
/-- append(out, e). -/
theorem wpList_append_ev {ops : Array Oper} {rest : List Oper} {o : Oper} {a : Act} {Q : Exit → Act → World → Prop} (W0 W : World) (x : EvM) (hW : W = W0.alloc (.cells x.cells.toArray 33)) (hgd : o.guard = none) (s xx : Operand)
    (ho : o.op = .call { callee := .builtin .append, args := #[s, xx], argTypes := #[22, 22] }) (B : Nat) (v : Value) (ds : List EvM) (n : Nat) (hn : ds.length = n)
    (hs : a.eval s = v) (hx : a.eval xx = .slice (some ⟨W0.heap.size, 0, none⟩) 1 1) (hown : W0.ownsRow B 33 8 v n (flatE ds)) (hB : B ≤ W0.heap.size) (hl : n < 1466015503701)
    (h : ∀ v' w', w'.ownsRow B 33 8 v' (n + 1) (flatE (ds ++ [x])) → Below B W0 w' → W.grownBy w' v.ownBlock → wpList Tryz.prog ops Q rest (a.put o.dst v') w') :
    wpList Tryz.prog ops Q (o :: rest) a W := by
  subst hW
  obtain ⟨iI, hj, hy0, hy1, hy2⟩ := info_parts Tryz.infoEv
  have hnb := Blk.new W0 33 x.cells
  refine wpList_append_own_at _ hgd s xx 22 ho B 33 iI _ 8 96 Tryz.underlying22 hj hy0 hy1 hy2 rfl (by decide) v n (flatE ds) hs (hown.alloc _) ⟨W0.heap.size, 0, none⟩ 1 1 x.cells hx rfl (fun j u hu => ?_) (ev_one x) (by unfold maxLen; omega) (by omega) (by simp; omega) ?_
  · rw [Addr.add_lit, Nat.zero_add]
    exact hnb.cell hu
  · intro v' w' hown' hgrow _ _
    refine h v' w' ?_ (((Below.refl _ _).alloc hB _).grown hgrow (by simp; omega) (fun k hk => (hown.lt k hk).1)) hgrow
    rw [flatE_snoc]
    exact hown'
theorem bt' {a b c : World} (h : Below a.heap.size a b) (k : Below b.heap.size b c) : Below a.heap.size a c := h.trans (k.mono h.size)
end Go.Proofs.YtjlompnjhmbhhaaGreat
/-
  Seals in memory: what a slice of api.Seal holds ('HeldSl'), what append makes of one. No function of the program is named here.
-/
namespace Go.Proofs.YtjlompnjhmbhhaaGreat
open Go.RowKit Go.ChangeShapes Go.WideShapes Go.Deep Go.Maps

structure Sl where
  tok : ByteArray
  cart : ByteArray
  ep : Int
  cut : List Int
  deriving DecidableEq
def zeroSl : Sl := ⟨⟨#[]⟩, ⟨#[]⟩, 0, []⟩
/-- A seal with the place of its cut. -/
structure SlM where
  e : Sl
  ao : Option Addr
  cap : Nat
def zeroSM : SlM := ⟨zeroSl, none, 0⟩
instance : Inhabited SlM := ⟨zeroSM⟩
def SlM.cells (x : SlM) : List Value := [.string x.e.tok, .string x.e.cart, .int .i64 x.e.ep, .slice x.ao x.e.cut.length x.cap]
abbrev SlM.val (x : SlM) : Value := .agg #[.string x.e.tok, .string x.e.cart, .int .i64 x.e.ep, .slice x.ao x.e.cut.length x.cap]
structure SlOk (w : World) (x : SlM) : Prop where
  cut : HV w x.ao x.cap x.e.cut
  ie : I64 x.e.ep
  ht : x.e.tok.size ≤ maxLen
  hc : x.e.cart.size ≤ maxLen
theorem SlOk.below {w w' : World} {x : SlM} (h : SlOk w x) (hb : Below w.heap.size w w') : SlOk w' x := ⟨h.cut.below hb, h.ie, h.ht, h.hc⟩
def AllS (w : World) (xs : List SlM) : Prop := ∀ x ∈ xs, SlOk w x
theorem AllS.below {w w' : World} {xs : List SlM} (h : AllS w xs) (hb : Below w.heap.size w w') : AllS w' xs := fun x hx => (h x hx).below hb
/-- A slice of seals holds xs. -/
def HeldSl (w : World) (ao : Option Addr) (xs : List SlM) : Prop :=
  AllS w xs ∧ (xs = [] ∨ ∃ b off, ao = some ⟨b, off, none⟩ ∧ b < w.heap.size ∧ ∀ j (hj : j < xs.length) c u, xs[j].cells[c]? = some u → w.cell? ⟨b, off + j * 4 + c, none⟩ = some u)
theorem HeldSl.below {w w' : World} {ao : Option Addr} {xs : List SlM} (h : HeldSl w ao xs) (hb : Below w.heap.size w w') : HeldSl w' ao xs := by
  refine ⟨h.1.below hb, ?_⟩
  rcases h.2 with h0 | ⟨b, off, h1, h2, h3⟩
  · exact .inl h0
  · exact .inr ⟨b, off, h1, Nat.lt_of_lt_of_le h2 hb.size, fun j hj c u hu => (hb.cell (p := ⟨b, off + j * 4 + c, none⟩) h2).trans (h3 j hj c u hu)⟩
theorem HeldSl.at {w : World} {ao : Option Addr} {xs : List SlM} (h : HeldSl w ao xs) {j : Nat} (hj : j < xs.length) : ∃ b off, ao = some ⟨b, off, none⟩ ∧ b < w.heap.size ∧ w.cell? ⟨b, off + j * 4, none⟩ = some (.string xs[j].e.tok) ∧ w.cell? ⟨b, off + j * 4 + 1, none⟩ = some (.string xs[j].e.cart) ∧
    w.cell? ⟨b, off + j * 4 + 2, none⟩ = some (.int .i64 xs[j].e.ep) ∧ w.cell? ⟨b, off + j * 4 + 3, none⟩ = some (.slice xs[j].ao xs[j].e.cut.length xs[j].cap) := by
  rcases h.2 with h0 | ⟨b, off, h1, h2, h3⟩
  · subst h0
    cases hj
  · exact ⟨b, off, h1, h2, h3 j hj 0 _ rfl, h3 j hj 1 _ rfl, h3 j hj 2 _ rfl, h3 j hj 3 _ rfl⟩
def flatS (xs : List SlM) : List Value := xs.flatMap SlM.cells
theorem flatS_snoc (xs : List SlM) (x : SlM) : flatS (xs ++ [x]) = flatS xs ++ x.cells := by simp [flatS]
theorem flatS_len : ∀ xs : List SlM, (flatS xs).length = xs.length * 4
  | [] => rfl
  | x :: r => by
    have := flatS_len r
    unfold flatS at this ⊢
    rw [List.flatMap_cons, List.length_append, this, List.length_cons]
    show 4 + _ = _
    omega
theorem flatS_get : ∀ (xs : List SlM) (j : Nat) (hj : j < xs.length) (c : Nat) (u : Value), xs[j].cells[c]? = some u → (flatS xs)[j * 4 + c]? = some u
  | [], j, hj, _, _, _ => by cases hj
  | x :: r, 0, _, c, u, h => by
    simp only [List.getElem_cons_zero] at h
    have hc : c < 4 := (List.getElem?_eq_some_iff.1 h).1
    unfold flatS
    rw [List.flatMap_cons, Nat.zero_mul, Nat.zero_add, List.getElem?_append_left (show c < 4 from hc)]
    exact h
  | x :: r, j + 1, hj, c, u, h => by
    simp only [List.getElem_cons_succ] at h
    have := flatS_get r j (by simpa using hj) c u h
    unfold flatS at this ⊢
    rw [List.flatMap_cons, List.getElem?_append_right (show x.cells.length ≤ _ by show 4 ≤ _; omega)]
    rw [show (j + 1) * 4 + c - x.cells.length = j * 4 + c by show _ - 4 = _; omega]
    exact this
theorem sl_one (x : SlM) : ∀ u ∈ x.cells, u.oneCell' = true := by
  intro u hu
  simp [SlM.cells] at hu
  rcases hu with rfl | rfl | rfl | rfl <;> rfl
end Go.Proofs.YtjlompnjhmbhhaaGreat
