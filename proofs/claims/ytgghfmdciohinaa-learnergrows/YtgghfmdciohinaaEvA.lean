/-
  api.Dot as a map's key. No function of the program is named here.
-/
import Derived.Test.YtgghfmdciohinaaRows
import Derived.Test.YtgghfmdciohinaaBlk
import Derived.DeepKeys4
import Derived.Test.YtgghfmdciohinaaIntsA
import Derived.Test.YtgghfmdciohinaaCartMath
namespace Go.Proofs.Ytgghfmdciohinaa
open Go.RowKit Go.Maps

theorem Try.laidOutK : laidOutB Try.prog = true := by kernel_rfl
theorem Try.keyedDot : Keyed Try.prog 102 := Keyed.of_law (deep_law_laid Try.laidOutK (m := 3) (by decide) (of_decide_eq_true (by kernel_rfl)) (by kernel_rfl) (by kernel_rfl))
def I64 (x : Int) : Prop := -9223372036854775808 ≤ x ∧ x ≤ 9223372036854775807
theorem wf_of {x : Int} (h : I64 x) : (Lit.int .i64 x).wf = true := by
  unfold I64 at h
  simp [Lit.wf, IntKind.min, IntKind.max, IntKind.signed, IntKind.bits]
  omega
def dotVal (o s : Int) : Value := .agg #[.int .i64 o, .int .i64 s]
theorem types_pos : ∃ k, Try.prog.types.size = k + 1 := by
  have h : 0 < Try.prog.types.size := of_decide_eq_true (by kernel_rfl)
  exact ⟨Try.prog.types.size - 1, by omega⟩
/-- What a dot reads as, as a key. -/
def dk (o s : Int) : Lit := .string (keyBytes [.int .i64 o, .int .i64 s])
theorem key_dot {o s : Int} (ho : I64 o) (hs : I64 s) : keyOf Try.prog 102 (dotVal o s) = some (dk o s) := by
  have h1 : Try.prog.keyType 102 = true := by kernel_rfl
  have h2 : (dotVal o s).formed Try.prog 102 = true := by kernel_rfl
  have h3 : Try.prog.keyLits (Try.prog.types.size + 1) 102 (dotVal o s).cells.toList = some [.int .i64 o, .int .i64 s] := by
    obtain ⟨k, hk⟩ := types_pos
    rw [hk]
    have hi : ∀ x, I64 x → Try.prog.keyLits (k + 1) 3 [.int .i64 x] = some [.int .i64 x] := fun x hx => by
      simp [Program.keyLits, Try.underlying3, wf_of hx]
    have e1 : Try.prog.cellsOf 102 = 2 := by kernel_rfl
    have e2 : Try.prog.cellsOf 3 = 1 := by kernel_rfl
    unfold Program.keyLits
    simp [Try.underlying102, dotVal, Value.cells, e1, e2, hi o ho, hi s hs]
  unfold keyOf
  rw [Try.underlying102]
  show (if _ then _ else _) = _
  rw [if_pos (by rw [h1, h2]; rfl), h3]
  rfl
theorem dk_inj {o s o' s' : Int} (ho : I64 o) (hs : I64 s) (ho' : I64 o') (hs' : I64 s') (h : dk o s = dk o' s') : o = o' ∧ s = s' := by
  have h1 := key_dot ho hs
  have h2 := key_dot ho' hs'
  rw [← h] at h2
  have := Try.keyedDot.inj h1 h2
  simpa [dotVal] using this
set_option maxRecDepth 20000 in
/-- What reads as a dot's key is a dot. -/
theorem dk_inv {key : Value} {kl : Lit} (h : keyOf Try.prog 102 key = some kl) : ∃ o s, key = dotVal o s ∧ kl = dk o s ∧ I64 o ∧ I64 s := by
  obtain ⟨xs, L, rfl, h1, h2⟩ := keyOf_top (by kernel_rfl) h
  obtain ⟨k, hk⟩ := types_pos
  rw [hk] at h1
  have hi : ∀ v l, Try.prog.keyLits (k + 1) 3 [v] = some l → ∃ x, v = .int .i64 x ∧ I64 x ∧ l = [.int .i64 x] := fun v l hv => by
    cases v <;> simp [Program.keyLits, Try.underlying3] at hv
    rename_i q x
    obtain ⟨⟨rfl, hw⟩, rfl⟩ := hv
    refine ⟨x, rfl, ?_, rfl⟩
    simp [Lit.wf, IntKind.min, IntKind.max, IntKind.signed, IntKind.bits] at hw
    unfold I64
    omega
  have e1 : Try.prog.cellsOf 102 = 2 := by kernel_rfl
  have e2 : Try.prog.cellsOf 3 = 1 := by kernel_rfl
  obtain ⟨xs⟩ := xs
  change Try.prog.keyLits (k + 1 + 1) 102 xs = some L at h1
  rcases xs with _ | ⟨a, _ | ⟨b, _ | ⟨c, r⟩⟩⟩
  · simp [Program.keyLits, Try.underlying102, e1] at h1
  · simp [Program.keyLits, Try.underlying102, e1] at h1
  · unfold Program.keyLits at h1
    simp [Try.underlying102, e1, e2] at h1
    cases ha : Try.prog.keyLits (k + 1) 3 [a] with
    | none => simp [ha] at h1
    | some la =>
      cases hb : Try.prog.keyLits (k + 1) 3 [b] with
      | none => simp [ha, hb] at h1
      | some lb =>
        obtain ⟨x, rfl, hx, rfl⟩ := hi a la ha
        obtain ⟨y, rfl, hy, rfl⟩ := hi b lb hb
        simp [ha, hb] at h1
        subst h1
        exact ⟨x, y, rfl, h2, hx, hy⟩
  · simp [Program.keyLits, Try.underlying102, e1] at h1
end Go.Proofs.Ytgghfmdciohinaa
/-
  Events in memory: what a slice of api.Event holds ('HeldE'), what append makes of one. No function of the program is named here.
-/
namespace Go.Proofs.Ytgghfmdciohinaa
open Go.RowKit Go.ChangeShapes Go.WideShapes Go.Deep Go.Maps

/-- An event with the place of its vector. -/
structure EvM where
  e : Ev
  ao : Option Addr
  cap : Nat
def zeroEM : EvM := ⟨zeroEv, none, 0⟩
instance : Inhabited EvM := ⟨zeroEM⟩
def EvM.cells (x : EvM) : List Value := [.int .i64 x.e.o, .int .i64 x.e.s, .slice x.ao x.e.deps.length x.cap, .string x.e.cart, .int .i64 x.e.epoch, .string x.e.sku, .int .i64 x.e.qty, .bool x.e.clears]
abbrev EvM.val (x : EvM) : Value := .agg #[.int .i64 x.e.o, .int .i64 x.e.s, .slice x.ao x.e.deps.length x.cap, .string x.e.cart, .int .i64 x.e.epoch, .string x.e.sku, .int .i64 x.e.qty, .bool x.e.clears]
structure EvOk (w : World) (x : EvM) : Prop where
  deps : HV w x.ao x.cap x.e.deps
  io : I64 x.e.o
  is : I64 x.e.s
  ie : I64 x.e.epoch
  iq : I64 x.e.qty
  hc : x.e.cart.size ≤ maxLen
  hs : x.e.sku.size ≤ maxLen
theorem EvOk.below {w w' : World} {x : EvM} (h : EvOk w x) (hb : Below w.heap.size w w') : EvOk w' x := ⟨h.deps.below hb, h.io, h.is, h.ie, h.iq, h.hc, h.hs⟩
theorem hv_none (w : World) (c : Nat) : HV w none c [] := ⟨⟨fun x hx => (by cases hx), .inl rfl⟩, Nat.zero_le _, Nat.zero_le _⟩
theorem EvOk.zero (w : World) : EvOk w zeroEM := ⟨hv_none w 0, by unfold I64; decide, by unfold I64; decide, by unfold I64; decide, by unfold I64; decide, Nat.zero_le _, Nat.zero_le _⟩
def AllOk (w : World) (xs : List EvM) : Prop := ∀ x ∈ xs, EvOk w x
theorem AllOk.below {w w' : World} {xs : List EvM} (h : AllOk w xs) (hb : Below w.heap.size w w') : AllOk w' xs := fun x hx => (h x hx).below hb
/-- A slice of events holds xs. -/
def HeldE (w : World) (ao : Option Addr) (xs : List EvM) : Prop :=
  AllOk w xs ∧ (xs = [] ∨ ∃ b off, ao = some ⟨b, off, none⟩ ∧ b < w.heap.size ∧ ∀ j (hj : j < xs.length) c u, xs[j].cells[c]? = some u → w.cell? ⟨b, off + j * 8 + c, none⟩ = some u)
theorem HeldE.below {w w' : World} {ao : Option Addr} {xs : List EvM} (h : HeldE w ao xs) (hb : Below w.heap.size w w') : HeldE w' ao xs := by
  refine ⟨h.1.below hb, ?_⟩
  rcases h.2 with h0 | ⟨b, off, h1, h2, h3⟩
  · exact .inl h0
  · exact .inr ⟨b, off, h1, Nat.lt_of_lt_of_le h2 hb.size, fun j hj c u hu => (hb.cell (p := ⟨b, off + j * 8 + c, none⟩) h2).trans (h3 j hj c u hu)⟩
theorem HeldE.at {w : World} {ao : Option Addr} {xs : List EvM} (h : HeldE w ao xs) {j : Nat} (hj : j < xs.length) : ∃ b off, ao = some ⟨b, off, none⟩ ∧ b < w.heap.size ∧ w.cell? ⟨b, off + j * 8, none⟩ = some (.int .i64 xs[j].e.o) ∧ w.cell? ⟨b, off + j * 8 + 1, none⟩ = some (.int .i64 xs[j].e.s) ∧
    w.cell? ⟨b, off + j * 8 + 2, none⟩ = some (.slice xs[j].ao xs[j].e.deps.length xs[j].cap) ∧ w.cell? ⟨b, off + j * 8 + 3, none⟩ = some (.string xs[j].e.cart) ∧ w.cell? ⟨b, off + j * 8 + 4, none⟩ = some (.int .i64 xs[j].e.epoch) ∧
    w.cell? ⟨b, off + j * 8 + 5, none⟩ = some (.string xs[j].e.sku) ∧ w.cell? ⟨b, off + j * 8 + 6, none⟩ = some (.int .i64 xs[j].e.qty) ∧ w.cell? ⟨b, off + j * 8 + 7, none⟩ = some (.bool xs[j].e.clears) := by
  rcases h.2 with h0 | ⟨b, off, h1, h2, h3⟩
  · subst h0
    cases hj
  · exact ⟨b, off, h1, h2, h3 j hj 0 _ rfl, h3 j hj 1 _ rfl, h3 j hj 2 _ rfl, h3 j hj 3 _ rfl, h3 j hj 4 _ rfl, h3 j hj 5 _ rfl, h3 j hj 6 _ rfl, h3 j hj 7 _ rfl⟩
def flatE (xs : List EvM) : List Value := xs.flatMap EvM.cells
theorem flatE_snoc (xs : List EvM) (x : EvM) : flatE (xs ++ [x]) = flatE xs ++ x.cells := by simp [flatE]
theorem flatE_len : ∀ xs : List EvM, (flatE xs).length = xs.length * 8
  | [] => rfl
  | x :: r => by
    have := flatE_len r
    unfold flatE at this ⊢
    rw [List.flatMap_cons, List.length_append, this, List.length_cons]
    show 8 + _ = _
    omega
theorem flatE_get : ∀ (xs : List EvM) (j : Nat) (hj : j < xs.length) (c : Nat) (u : Value), xs[j].cells[c]? = some u → (flatE xs)[j * 8 + c]? = some u
  | [], j, hj, _, _, _ => by cases hj
  | x :: r, 0, _, c, u, h => by
    simp only [List.getElem_cons_zero] at h
    have hc : c < 8 := (List.getElem?_eq_some_iff.1 h).1
    unfold flatE
    rw [List.flatMap_cons, Nat.zero_mul, Nat.zero_add, List.getElem?_append_left (show c < 8 from hc)]
    exact h
  | x :: r, j + 1, hj, c, u, h => by
    simp only [List.getElem_cons_succ] at h
    have := flatE_get r j (by simpa using hj) c u h
    unfold flatE at this ⊢
    rw [List.flatMap_cons, List.getElem?_append_right (show x.cells.length ≤ _ by show 8 ≤ _; omega)]
    rw [show (j + 1) * 8 + c - x.cells.length = j * 8 + c by show _ - 8 = _; omega]
    exact this
theorem own_form8 {w : World} {B e n : Nat} {v : Value} {xs : List Value} {k : Nat} (h : w.ownsRow B e k v n xs) :
    ∃ eo cap, v = .slice eo n cap ∧ n ≤ cap ∧ (0 < n → ∃ g, eo = some ⟨g, 0, none⟩ ∧ B ≤ g ∧ g < w.heap.size ∧ ∀ j u, xs[j]? = some u → w.cell? ⟨g, j, none⟩ = some u) := by
  rcases h.2 with ⟨rfl, rfl⟩ | ⟨g, cap, cur, rfl, hbg, hg, hnc, _⟩
  · exact ⟨none, 0, rfl, Nat.le_refl _, fun h0 => by omega⟩
  · refine ⟨some ⟨g, 0, none⟩, cap, rfl, hnc, fun _ => ⟨g, rfl, hbg, (Array.getElem?_eq_some_iff.1 hg).1, fun j u hu => ?_⟩⟩
    have := h.cells (g := g) rfl j u hu
    simpa [Addr.add_lit] using this
/-- What an owned row of events holds. -/
theorem heldE_of_own {w : World} {B : Nat} {v : Value} {xs : List EvM} {n : Nat} (hn : xs.length = n) (h : w.ownsRow B 104 8 v n (flatE xs)) (hx : AllOk w xs) : ∃ ao cap, v = .slice ao n cap ∧ n ≤ cap ∧ HeldE w ao xs := by
  subst hn
  obtain ⟨eo, cap, rfl, hnc, hc⟩ := own_form8 h
  refine ⟨eo, cap, rfl, hnc, hx, ?_⟩
  by_cases h0 : xs = []
  · exact .inl h0
  · obtain ⟨g, rfl, _, hg, hcell⟩ := hc (List.length_pos_iff.2 h0)
    refine .inr ⟨g, 0, rfl, hg, fun j hj c u hu => ?_⟩
    rw [Nat.zero_add]
    exact hcell _ _ (flatE_get xs j hj c u hu)
theorem Try.infoEv : (Try.prog.info? 104).map (fun i => (i.zero, i.size, i.bytes)) = some (some (.agg #[.int .i64 0, .int .i64 0, .slice none 0 0, .string ⟨#[]⟩, .int .i64 0, .string ⟨#[]⟩, .int .i64 0, .bool false]), 8, 96) := by kernel_rfl
theorem ev_one (x : EvM) : ∀ u ∈ x.cells, u.oneCell' = true := by
  intro u hu
  simp [EvM.cells] at hu
  rcases hu with rfl | rfl | rfl | rfl | rfl | rfl | rfl | rfl <;> rfl
/-- append(out, e). -/
theorem wpList_append_ev {ops : Array Oper} {rest : List Oper} {o : Oper} {a : Act} {Q : Exit → Act → World → Prop} (W0 W : World) (x : EvM) (hW : W = W0.alloc (.cells x.cells.toArray 104)) (hgd : o.guard = none) (s xx : Operand)
    (ho : o.op = .call { callee := .builtin .append, args := #[s, xx], argTypes := #[68, 68] }) (B : Nat) (v : Value) (ds : List EvM) (n : Nat) (hn : ds.length = n)
    (hs : a.eval s = v) (hx : a.eval xx = .slice (some ⟨W0.heap.size, 0, none⟩) 1 1) (hown : W0.ownsRow B 104 8 v n (flatE ds)) (hB : B ≤ W0.heap.size) (hl : n < 1466015503701)
    (h : ∀ v' w', w'.ownsRow B 104 8 v' (n + 1) (flatE (ds ++ [x])) → Below B W0 w' → W.grownBy w' v.ownBlock → wpList Try.prog ops Q rest (a.put o.dst v') w') :
    wpList Try.prog ops Q (o :: rest) a W := by
  subst hW
  obtain ⟨iI, hj, hy0, hy1, hy2⟩ := info_parts Try.infoEv
  have hnb := Blk.new W0 104 x.cells
  refine wpList_append_own_at _ hgd s xx 68 ho B 104 iI _ 8 96 Try.underlying68 hj hy0 hy1 hy2 rfl (by decide) v n (flatE ds) hs (hown.alloc _) ⟨W0.heap.size, 0, none⟩ 1 1 x.cells hx rfl (fun j u hu => ?_) (ev_one x) (by unfold maxLen; omega) (by omega) (by simp; omega) ?_
  · rw [Addr.add_lit, Nat.zero_add]
    exact hnb.cell hu
  · intro v' w' hown' hgrow _ _
    refine h v' w' ?_ (((Below.refl _ _).alloc hB _).grown hgrow (by simp; omega) (fun k hk => (hown.lt k hk).1)) hgrow
    rw [flatE_snoc]
    exact hown'
theorem bt' {a b c : World} (h : Below a.heap.size a b) (k : Below b.heap.size b c) : Below a.heap.size a c := h.trans (k.mono h.size)
end Go.Proofs.Ytgghfmdciohinaa
