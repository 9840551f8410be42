/-
  append([]int{}, x...), slices.Clone of ints, Fork.
-/
import Derived.Test.YtmceffndnofgfaaClkO
import Derived.Deep.RegionHeld3
namespace Go.Proofs.Ytmceffndnofgfaa
open Go.RowKit Go.Maps

theorem run_append_noneI {P : Program} (w : World) (base : Nat) (t ty e : TypeId) (i : TypeInfo) (size : Nat) (ht : P.underlying t = some (.slice e)) (hi : P.info? e = some i)
    (v : Value) (n c : Nat) (xs : List Value) (hown : w.ownsRow base e size v n xs) : (Builtin.append_ #[t, t] ty #[v, .slice none 0 c]).run P w = .ok v w := by
  rcases hown.2 with ⟨rfl, rfl⟩ | ⟨g, cap, cur, rfl, _, _, hnc, _⟩
  · simp [Builtin.append_, run_underlying ht, sizeOf, typeInfo, hi, Builtin.lenOf, Builtin.firstCells]
  · simp [Builtin.append_, run_underlying ht, sizeOf, typeInfo, hi, Builtin.lenOf, Builtin.firstCells, hnc, storeCells]

/-- append([]int{}, x...): a new row that holds x's numbers. -/
theorem wpList_append_copy {ops : Array Oper} {rest : List Oper} {o : Oper} {a : Act} {Q : Exit → Act → World → Prop} (W : World) (hgd : o.guard = none) (s x : Operand)
    (ho : o.op = .call { callee := .builtin .append, args := #[s, x], argTypes := #[63, 63] })
    (hs : a.eval s = .slice (some ⟨W.heap.size, 0, none⟩) 0 0) (ao : Option Addr) (c : Nat) (xs : List Int) (hx : a.eval x = .slice ao xs.length c) (hh : HeldInt W ao xs) (hl : xs.length ≤ 17592186044416)
    (h : ∀ bo cp w', w'.ownsRow W.heap.size 3 1 (.slice bo xs.length cp) xs.length (ints xs) → HeldInt w' bo xs → (∀ b off, bo = some ⟨b, off, none⟩ → W.heap.size ≤ b) → Below W.heap.size W w' → wpList Try.prog ops Q rest (a.put o.dst (.slice bo xs.length cp)) w') :
    wpList Try.prog ops Q (o :: rest) a (W.alloc (.cells #[] 3)) := by
  obtain ⟨iI, hj, hy0, hy1, hy2⟩ := info_parts Try.infoInt
  have hbel : Below W.heap.size W (W.alloc (.cells #[] 3)) := (Below.refl _ _).alloc (Nat.le_refl _) _
  have fin : ∀ (v' : Value) (w' : World), w'.ownsRow W.heap.size 3 1 v' xs.length (ints xs) → Below W.heap.size W w' → wpList Try.prog ops Q rest (a.put o.dst v') w' := by
    intro v' w' hown hb
    obtain ⟨eo, cap, rfl, _, hc⟩ := own_form' hown
    refine h eo cap w' hown ⟨hh.1, ?_⟩ (fun b off e => ?_) hb
    · by_cases h0 : xs = []
      · exact .inl h0
      · have hp : 0 < xs.length := List.length_pos_iff.2 h0
        obtain ⟨g, rfl, _, hg, hcell⟩ := hc hp
        refine .inr ⟨g, 0, rfl, hg, fun j hj => ?_⟩
        rw [Nat.zero_add]
        refine hcell j _ ?_
        simp [ints, List.getD, List.getElem?_eq_getElem hj]
    · subst e
      rcases hown.2 with ⟨h1, _⟩ | ⟨g, cap', cur, h1, hbg, _⟩
      · cases h1
      · cases h1
        exact hbg
  cases ao with
  | none =>
    have hx0 : xs = [] := by
      rcases hh.2 with h0 | ⟨b, off, e, _⟩
      · exact h0
      · cases e
    subst hx0
    refine wpList_plain hgd fun K hK => ?_
    have hr := run_append_noneI (P := Try.prog) (W.alloc (.cells #[] 3)) W.heap.size 63 o.type 3 iI 1 Try.underlying63 hj _ 0 c _ (ownI_made W W.heap.size (Nat.le_refl _))
    unfold Oper.wp execOp
    simp only [ho, resolve, invoke, builtin, Sem.run_bind, Sem.run_pure, Result.andThen_ok, List.map_toArray, List.map_cons, List.map_nil, hs, hx, List.length_nil, hr]
    exact hK _ _ (fin _ _ (ownI_made W W.heap.size (Nat.le_refl _)) hbel)
  | some ad =>
    have hnews : ∀ j u, (ints xs)[j]? = some u → (W.alloc (.cells #[] 3)).cell? (ad.add j) = some u := by
      intro j u hu
      rcases hh.2 with h0 | ⟨b, off, e, _⟩
      · subst h0
        simp [ints] at hu
      · cases e
        exact (hh.below hbel).news j u hu
    refine wpList_append_own_at _ hgd s x 63 ho W.heap.size 3 iI (.int .i64 0) 1 8 Try.underlying63 hj hy0 hy1 hy2 rfl (by decide) _ 0 (ints []) hs (ownI_made W W.heap.size (Nat.le_refl _)) ad xs.length c (ints xs) hx (by rw [ints_len]; omega) hnews (ints_one xs) (by unfold maxLen; omega) (by omega) (by simp) ?_
    intro v' w' hown hgrow _ _
    refine fin v' w' (by simpa [ints] using hown) (hbel.grown hgrow (by simp) (fun k e => ?_))
    cases e
    exact Nat.le_refl _

theorem clone_any (w : World) (g cap : Nat) (xs : List Int) (hh : HeldInt w (some ⟨g, 0, none⟩) xs) (hp : 0 < xs.length) (hl : xs.length ≤ 7) :
    Calls Try.prog 39 #[.slice (some ⟨g, 0, none⟩) xs.length cap] w fun e w' => ∃ b cp rest, e = .returned (.slice (some ⟨b, 0, none⟩) xs.length cp) ∧ Blk w' b 3 (ints xs ++ rest) ∧ w.heap.size ≤ b ∧ Below w.heap.size w w' := by
  have he := fun W => eql_ints W g xs.length cap
  go_enter Try.func39, Try.ntmps39
  go_wp2_with (at_builtin; refine wpList_append_copy w rfl _ _ rfl rfl _ _ _ rfl hh (by omega) ?_; intro bo cp w' hown _ _ hb)
  obtain ⟨b, cp', rest, hv, hblk, hbb⟩ := own_blk hown hp
  cases hv
  go_wp2
  go_ret
  exact ⟨_, _, _, rfl, hblk, hbb, hb⟩
theorem ClkAt.held {w : World} {p g cap : Nat} {now : List Int} {time need : Int} (h : ClkAt w p g cap now time need) : HeldInt w (some ⟨g, 0, none⟩) now := by
  refine ⟨fun x hx => by have := h.rng x hx; omega, .inr ⟨g, 0, rfl, h.lt.2, fun j hj => ?_⟩⟩
  rw [Nat.zero_add]
  exact (h.nowCell hj).1
end Go.Proofs.Ytmceffndnofgfaa
