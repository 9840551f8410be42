/-
  The document's Between: the first so many dots that b has and a has not.
-/
import Derived.Test.YtjlompnjhmbhhaaGreatVvL
namespace Go.Proofs.YtjlompnjhmbhhaaGreat
open Go.RowKit Go.Maps

def flatD (ds : List (Int × Int)) : List Value := ds.flatMap fun x => [.int .i64 x.1, .int .i64 x.2]
theorem flatD_len : ∀ ds : List (Int × Int), (flatD ds).length = ds.length * 2
  | [] => rfl
  | x :: ds => by
    have := flatD_len ds
    simp [flatD] at *
    omega
theorem flatD_snoc (ds : List (Int × Int)) (x : Int × Int) : flatD (ds ++ [x]) = flatD ds ++ [.int .i64 x.1, .int .i64 x.2] := by simp [flatD]
theorem Tryz.infoDot : (Tryz.prog.info? 25).map (fun i => (i.zero, i.size, i.bytes)) = some (some (.agg #[.int .i64 0, .int .i64 0]), 2, 16) := by kernel_rfl
/-- append(out, d) of an owned row of dots. -/
theorem wpList_append_dot {ops : Array Oper} {rest : List Oper} {o : Oper} {a : Act} {Q : Exit → Act → World → Prop} (W0 W : World) (x : Int × Int) (hW : W = W0.alloc (.cells #[.int .i64 x.1, .int .i64 x.2] 25)) (hgd : o.guard = none) (s xx : Operand)
    (ho : o.op = .call { callee := .builtin .append, args := #[s, xx], argTypes := #[47, 47] }) (B : Nat) (v : Value) (ds : List (Int × Int))
    (hs : a.eval s = v) (hx : a.eval xx = .slice (some ⟨W0.heap.size, 0, none⟩) 1 1) (hown : W0.ownsRow B 25 2 v ds.length (flatD ds)) (hB : B ≤ W0.heap.size) (hl : ds.length ≤ 1000000)
    (h : ∀ v' w', w'.ownsRow B 25 2 v' (ds ++ [x]).length (flatD (ds ++ [x])) → Below B W0 w' → wpList Tryz.prog ops Q rest (a.put o.dst v') w') :
    wpList Tryz.prog ops Q (o :: rest) a W := by
  subst hW
  obtain ⟨iI, hj, hy0, hy1, hy2⟩ := info_parts Tryz.infoDot
  have hn := Blk.new W0 25 [.int .i64 x.1, .int .i64 x.2]
  refine wpList_append_own_at _ hgd s xx 47 ho B 25 iI (.agg #[.int .i64 0, .int .i64 0]) 2 16 Tryz.underlying47 hj hy0 hy1 hy2 rfl (by decide) v ds.length (flatD ds) hs (hown.alloc _) ⟨W0.heap.size, 0, none⟩ 1 1 [.int .i64 x.1, .int .i64 x.2] hx rfl (fun j u hu => ?_) (fun u hu => by simp at hu; rcases hu with rfl | rfl <;> rfl) (by unfold maxLen; omega) (by omega) (by simp; omega) ?_
  · rw [Addr.add_lit, Nat.zero_add]
    exact hn.cell hu
  · intro v' w' hown' hgrow _ _
    refine h v' w' ?_ (((Below.refl _ _).alloc hB _).grown hgrow (by simp; omega) (fun k hk => (hown.lt k hk).1))
    rw [flatD_snoc, List.length_append]
    exact hown'

/-- The dots of the origins below k, and of k the first j. -/
def partD (a b : List Int) (k j : Nat) : List (Int × Int) := (List.range k).flatMap (rowOf a b) ++ (rowOf a b k).take j
theorem partD_zero (a b : List Int) (k : Nat) : partD a b k 0 = (List.range k).flatMap (rowOf a b) := by simp [partD]
theorem partD_step (a b : List Int) (k : Nat) {j : Nat} (h : j < (moreOf a b k).toNat) : partD a b k (j + 1) = partD a b k j ++ [((k : Int), hadOf a k + (j : Int) + 1)] := by
  unfold partD
  rw [List.take_succ_eq_append_getElem (by rw [row_len]; exact h), ← List.append_assoc]
  simp [rowOf]
theorem partD_row (a b : List Int) (k : Nat) {j : Nat} (h : (moreOf a b k).toNat ≤ j) : partD a b k j = partD a b (k + 1) 0 := by
  rw [partD_zero]
  unfold partD
  rw [List.take_of_length_le (by rw [row_len]; exact h), List.range_succ, List.flatMap_append]
  simp
theorem partD_all (a b : List Int) : partD a b b.length 0 = dotsAll a b := by
  rw [partD_zero, dotsAll, rowsFrom, Nat.sub_zero, List.range_eq_range']
theorem partD_pre (a b : List Int) (k j : Nat) : partD a b k j <+: partD a b (k + 1) 0 := by
  rw [partD_zero]
  unfold partD
  rw [List.range_succ, List.flatMap_append]
  refine List.prefix_append_right_inj _ |>.2 ?_
  simp
  exact List.take_prefix _ _
theorem take_full {α : Type} {xs ys : List α} {n : Nat} (h : xs <+: ys) (hn : n ≤ xs.length) : xs.take n = ys.take n := by
  obtain ⟨zs, rfl⟩ := h
  rw [List.take_append_of_le_length hn]
end Go.Proofs.YtjlompnjhmbhhaaGreat
