/-
  api.Dot as a map's key. No function of the program is named here.
-/
import Derived.Test.YtfmnbehopdmahaaGreatRows
import Derived.Test.YtfmnbehopdmahaaGreatTexts
import Derived.DeepKeys4
import Derived.Test.YtfmnbehopdmahaaGreatCartMath
import Derived.Deep.RegionHeld3
import Derived.Deep.RegionWith
import Derived.Deep.QuietTactic
import Derived.BigQuiet
namespace Go.Proofs.YtfmnbehopdmahaaGreat
open Go.RowKit Go.Maps

theorem Tryz.laidOutK : laidOutB Tryz.prog = true := by kernel_rfl
theorem Tryz.keyedDot : Keyed Tryz.prog 95 := Keyed.of_law (deep_law_laid Tryz.laidOutK (m := 3) (by decide) (of_decide_eq_true (by kernel_rfl)) (by kernel_rfl) (by kernel_rfl))
def I64 (x : Int) : Prop := -9223372036854775808 ≤ x ∧ x ≤ 9223372036854775807
theorem wf_of {x : Int} (h : I64 x) : (Lit.int .i64 x).wf = true := by
  unfold I64 at h
  simp [Lit.wf, IntKind.min, IntKind.max, IntKind.signed, IntKind.bits]
  omega
def dotVal (o s : Int) : Value := .agg #[.int .i64 o, .int .i64 s]
theorem types_pos : ∃ k, Tryz.prog.types.size = k + 1 := by
  have h : 0 < Tryz.prog.types.size := of_decide_eq_true (by kernel_rfl)
  exact ⟨Tryz.prog.types.size - 1, by omega⟩
/-- What a dot reads as, as a key. -/
def dk (o s : Int) : Lit := .string (keyBytes [.int .i64 o, .int .i64 s])
theorem key_dot {o s : Int} (ho : I64 o) (hs : I64 s) : keyOf Tryz.prog 95 (dotVal o s) = some (dk o s) := by
  have h1 : Tryz.prog.keyType 95 = true := by kernel_rfl
  have h2 : (dotVal o s).formed Tryz.prog 95 = true := by kernel_rfl
  have h3 : Tryz.prog.keyLits (Tryz.prog.types.size + 1) 95 (dotVal o s).cells.toList = some [.int .i64 o, .int .i64 s] := by
    obtain ⟨k, hk⟩ := types_pos
    rw [hk]
    have hi : ∀ x, I64 x → Tryz.prog.keyLits (k + 1) 3 [.int .i64 x] = some [.int .i64 x] := fun x hx => by
      simp [Program.keyLits, Tryz.underlying3, wf_of hx]
    have e1 : Tryz.prog.cellsOf 95 = 2 := by kernel_rfl
    have e2 : Tryz.prog.cellsOf 3 = 1 := by kernel_rfl
    unfold Program.keyLits
    simp [Tryz.underlying95, dotVal, Value.cells, e1, e2, hi o ho, hi s hs]
  unfold keyOf
  rw [Tryz.underlying95]
  show (if _ then _ else _) = _
  rw [if_pos (by rw [h1, h2]; rfl), h3]
  rfl
theorem dk_inj {o s o' s' : Int} (ho : I64 o) (hs : I64 s) (ho' : I64 o') (hs' : I64 s') (h : dk o s = dk o' s') : o = o' ∧ s = s' := by
  have h1 := key_dot ho hs
  have h2 := key_dot ho' hs'
  rw [← h] at h2
  have := Tryz.keyedDot.inj h1 h2
  simpa [dotVal] using this
set_option maxRecDepth 20000 in
/-- What reads as a dot's key is a dot. -/
theorem dk_inv {key : Value} {kl : Lit} (h : keyOf Tryz.prog 95 key = some kl) : ∃ o s, key = dotVal o s ∧ kl = dk o s ∧ I64 o ∧ I64 s := by
  obtain ⟨xs, L, rfl, h1, h2⟩ := keyOf_top (by kernel_rfl) h
  obtain ⟨k, hk⟩ := types_pos
  rw [hk] at h1
  have hi : ∀ v l, Tryz.prog.keyLits (k + 1) 3 [v] = some l → ∃ x, v = .int .i64 x ∧ I64 x ∧ l = [.int .i64 x] := fun v l hv => by
    cases v <;> simp [Program.keyLits, Tryz.underlying3] at hv
    rename_i q x
    obtain ⟨⟨rfl, hw⟩, rfl⟩ := hv
    refine ⟨x, rfl, ?_, rfl⟩
    simp [Lit.wf, IntKind.min, IntKind.max, IntKind.signed, IntKind.bits] at hw
    unfold I64
    omega
  have e1 : Tryz.prog.cellsOf 95 = 2 := by kernel_rfl
  have e2 : Tryz.prog.cellsOf 3 = 1 := by kernel_rfl
  obtain ⟨xs⟩ := xs
  change Tryz.prog.keyLits (k + 1 + 1) 95 xs = some L at h1
  rcases xs with _ | ⟨a, _ | ⟨b, _ | ⟨c, r⟩⟩⟩
  · simp [Program.keyLits, Tryz.underlying95, e1] at h1
  · simp [Program.keyLits, Tryz.underlying95, e1] at h1
  · unfold Program.keyLits at h1
    simp [Tryz.underlying95, e1, e2] at h1
    cases ha : Tryz.prog.keyLits (k + 1) 3 [a] with
    | none => simp [ha] at h1
    | some la =>
      cases hb : Tryz.prog.keyLits (k + 1) 3 [b] with
      | none => simp [ha, hb] at h1
      | some lb =>
        obtain ⟨x, rfl, hx, rfl⟩ := hi a la ha
        obtain ⟨y, rfl, hy, rfl⟩ := hi b lb hb
        simp [ha, hb] at h1
        subst h1
        exact ⟨x, y, rfl, h2, hx, hy⟩
  · simp [Program.keyLits, Tryz.underlying95, e1] at h1
end Go.Proofs.YtfmnbehopdmahaaGreat
/-
  Events in memory: what a slice of api.Event holds ('HeldE'), what append makes of one. No function of the program is named here.
-/
namespace Go.Proofs.YtfmnbehopdmahaaGreat
open Go.RowKit Go.ChangeShapes Go.WideShapes Go.Deep Go.Maps

/-- An event with the place of its vector. -/
structure EvM where
  e : Ev
  ao : Option Addr
  cap : Nat
def zeroEM : EvM := ⟨zeroEv, none, 0⟩
instance : Inhabited EvM := ⟨zeroEM⟩
def EvM.cells (x : EvM) : List Value := [.int .i64 x.e.o, .int .i64 x.e.s, .slice x.ao x.e.deps.length x.cap, .string x.e.cart, .int .i64 x.e.epoch, .string x.e.sku, .int .i64 x.e.qty, .bool x.e.clears]
abbrev EvM.val (x : EvM) : Value := .agg #[.int .i64 x.e.o, .int .i64 x.e.s, .slice x.ao x.e.deps.length x.cap, .string x.e.cart, .int .i64 x.e.epoch, .string x.e.sku, .int .i64 x.e.qty, .bool x.e.clears]
structure EvOk (w : World) (x : EvM) : Prop where
  deps : HV w x.ao x.cap x.e.deps
  io : I64 x.e.o
  is : I64 x.e.s
  ie : I64 x.e.epoch
  iq : I64 x.e.qty
  hc : x.e.cart.size ≤ maxLen
  hs : x.e.sku.size ≤ maxLen
theorem EvOk.below {w w' : World} {x : EvM} (h : EvOk w x) (hb : Below w.heap.size w w') : EvOk w' x := ⟨h.deps.below hb, h.io, h.is, h.ie, h.iq, h.hc, h.hs⟩
theorem hv_none (w : World) (c : Nat) : HV w none c [] := ⟨⟨fun x hx => (by cases hx), .inl rfl⟩, Nat.zero_le _, Nat.zero_le _⟩
theorem EvOk.zero (w : World) : EvOk w zeroEM := ⟨hv_none w 0, by unfold I64; decide, by unfold I64; decide, by unfold I64; decide, by unfold I64; decide, Nat.zero_le _, Nat.zero_le _⟩
def AllOk (w : World) (xs : List EvM) : Prop := ∀ x ∈ xs, EvOk w x
theorem AllOk.below {w w' : World} {xs : List EvM} (h : AllOk w xs) (hb : Below w.heap.size w w') : AllOk w' xs := fun x hx => (h x hx).below hb
/-- A slice of events holds xs. -/
def HeldE (w : World) (ao : Option Addr) (xs : List EvM) : Prop :=
  AllOk w xs ∧ (xs = [] ∨ ∃ b off, ao = some ⟨b, off, none⟩ ∧ b < w.heap.size ∧ ∀ j (hj : j < xs.length) c u, xs[j].cells[c]? = some u → w.cell? ⟨b, off + j * 8 + c, none⟩ = some u)
theorem HeldE.below {w w' : World} {ao : Option Addr} {xs : List EvM} (h : HeldE w ao xs) (hb : Below w.heap.size w w') : HeldE w' ao xs := by
  refine ⟨h.1.below hb, ?_⟩
  rcases h.2 with h0 | ⟨b, off, h1, h2, h3⟩
  · exact .inl h0
  · exact .inr ⟨b, off, h1, Nat.lt_of_lt_of_le h2 hb.size, fun j hj c u hu => (hb.cell (p := ⟨b, off + j * 8 + c, none⟩) h2).trans (h3 j hj c u hu)⟩
theorem HeldE.at {w : World} {ao : Option Addr} {xs : List EvM} (h : HeldE w ao xs) {j : Nat} (hj : j < xs.length) : ∃ b off, ao = some ⟨b, off, none⟩ ∧ b < w.heap.size ∧ w.cell? ⟨b, off + j * 8, none⟩ = some (.int .i64 xs[j].e.o) ∧ w.cell? ⟨b, off + j * 8 + 1, none⟩ = some (.int .i64 xs[j].e.s) ∧
    w.cell? ⟨b, off + j * 8 + 2, none⟩ = some (.slice xs[j].ao xs[j].e.deps.length xs[j].cap) ∧ w.cell? ⟨b, off + j * 8 + 3, none⟩ = some (.string xs[j].e.cart) ∧ w.cell? ⟨b, off + j * 8 + 4, none⟩ = some (.int .i64 xs[j].e.epoch) ∧
    w.cell? ⟨b, off + j * 8 + 5, none⟩ = some (.string xs[j].e.sku) ∧ w.cell? ⟨b, off + j * 8 + 6, none⟩ = some (.int .i64 xs[j].e.qty) ∧ w.cell? ⟨b, off + j * 8 + 7, none⟩ = some (.bool xs[j].e.clears) := by
  rcases h.2 with h0 | ⟨b, off, h1, h2, h3⟩
  · subst h0
    cases hj
  · exact ⟨b, off, h1, h2, h3 j hj 0 _ rfl, h3 j hj 1 _ rfl, h3 j hj 2 _ rfl, h3 j hj 3 _ rfl, h3 j hj 4 _ rfl, h3 j hj 5 _ rfl, h3 j hj 6 _ rfl, h3 j hj 7 _ rfl⟩
def flatE (xs : List EvM) : List Value := xs.flatMap EvM.cells
theorem flatE_snoc (xs : List EvM) (x : EvM) : flatE (xs ++ [x]) = flatE xs ++ x.cells := by simp [flatE]
theorem flatE_len : ∀ xs : List EvM, (flatE xs).length = xs.length * 8
  | [] => rfl
  | x :: r => by
    have := flatE_len r
    unfold flatE at this ⊢
    rw [List.flatMap_cons, List.length_append, this, List.length_cons]
    show 8 + _ = _
    omega
theorem flatE_get : ∀ (xs : List EvM) (j : Nat) (hj : j < xs.length) (c : Nat) (u : Value), xs[j].cells[c]? = some u → (flatE xs)[j * 8 + c]? = some u
  | [], j, hj, _, _, _ => by cases hj
  | x :: r, 0, _, c, u, h => by
    simp only [List.getElem_cons_zero] at h
    have hc : c < 8 := (List.getElem?_eq_some_iff.1 h).1
    unfold flatE
    rw [List.flatMap_cons, Nat.zero_mul, Nat.zero_add, List.getElem?_append_left (show c < 8 from hc)]
    exact h
  | x :: r, j + 1, hj, c, u, h => by
    simp only [List.getElem_cons_succ] at h
    have := flatE_get r j (by simpa using hj) c u h
    unfold flatE at this ⊢
    rw [List.flatMap_cons, List.getElem?_append_right (show x.cells.length ≤ _ by show 8 ≤ _; omega)]
    rw [show (j + 1) * 8 + c - x.cells.length = j * 8 + c by show _ - 8 = _; omega]
    exact this
theorem own_form8 {w : World} {B e n : Nat} {v : Value} {xs : List Value} {k : Nat} (h : w.ownsRow B e k v n xs) :
    ∃ eo cap, v = .slice eo n cap ∧ n ≤ cap ∧ (0 < n → ∃ g, eo = some ⟨g, 0, none⟩ ∧ B ≤ g ∧ g < w.heap.size ∧ ∀ j u, xs[j]? = some u → w.cell? ⟨g, j, none⟩ = some u) := by
  rcases h.2 with ⟨rfl, rfl⟩ | ⟨g, cap, cur, rfl, hbg, hg, hnc, _⟩
  · exact ⟨none, 0, rfl, Nat.le_refl _, fun h0 => by omega⟩
  · refine ⟨some ⟨g, 0, none⟩, cap, rfl, hnc, fun _ => ⟨g, rfl, hbg, (Array.getElem?_eq_some_iff.1 hg).1, fun j u hu => ?_⟩⟩
    have := h.cells (g := g) rfl j u hu
    simpa [Addr.add_lit] using this
/-- What an owned row of events holds. -/
theorem heldE_of_own {w : World} {B : Nat} {v : Value} {xs : List EvM} {n : Nat} (hn : xs.length = n) (h : w.ownsRow B 97 8 v n (flatE xs)) (hx : AllOk w xs) : ∃ ao cap, v = .slice ao n cap ∧ n ≤ cap ∧ HeldE w ao xs := by
  subst hn
  obtain ⟨eo, cap, rfl, hnc, hc⟩ := own_form8 h
  refine ⟨eo, cap, rfl, hnc, hx, ?_⟩
  by_cases h0 : xs = []
  · exact .inl h0
  · obtain ⟨g, rfl, _, hg, hcell⟩ := hc (List.length_pos_iff.2 h0)
    refine .inr ⟨g, 0, rfl, hg, fun j hj c u hu => ?_⟩
    rw [Nat.zero_add]
    exact hcell _ _ (flatE_get xs j hj c u hu)
theorem Tryz.infoEv : (Tryz.prog.info? 97).map (fun i => (i.zero, i.size, i.bytes)) = some (some (.agg #[.int .i64 0, .int .i64 0, .slice none 0 0, .string ⟨#[]⟩, .int .i64 0, .string ⟨#[]⟩, .int .i64 0, .bool false]), 8, 96) := by kernel_rfl
theorem ev_one (x : EvM) : ∀ u ∈ x.cells, u.oneCell' = true := by
  intro u hu
  simp [EvM.cells] at hu
  rcases hu with rfl | rfl | rfl | rfl | rfl | rfl | rfl | rfl <;> rfl
/-- append(out, e). -/
theorem wpList_append_ev {ops : Array Oper} {rest : List Oper} {o : Oper} {a : Act} {Q : Exit → Act → World → Prop} (W0 W : World) (x : EvM) (hW : W = W0.alloc (.cells x.cells.toArray 97)) (hgd : o.guard = none) (s xx : Operand)
    (ho : o.op = .call { callee := .builtin .append, args := #[s, xx], argTypes := #[41, 41] }) (B : Nat) (v : Value) (ds : List EvM) (n : Nat) (hn : ds.length = n)
    (hs : a.eval s = v) (hx : a.eval xx = .slice (some ⟨W0.heap.size, 0, none⟩) 1 1) (hown : W0.ownsRow B 97 8 v n (flatE ds)) (hB : B ≤ W0.heap.size) (hl : n < 1466015503701)
    (h : ∀ v' w', w'.ownsRow B 97 8 v' (n + 1) (flatE (ds ++ [x])) → Below B W0 w' → W.grownBy w' v.ownBlock → wpList Tryz.prog ops Q rest (a.put o.dst v') w') :
    wpList Tryz.prog ops Q (o :: rest) a W := by
  subst hW
  obtain ⟨iI, hj, hy0, hy1, hy2⟩ := info_parts Tryz.infoEv
  have hnb := Blk.new W0 97 x.cells
  refine wpList_append_own_at _ hgd s xx 41 ho B 97 iI _ 8 96 Tryz.underlying41 hj hy0 hy1 hy2 rfl (by decide) v n (flatE ds) hs (hown.alloc _) ⟨W0.heap.size, 0, none⟩ 1 1 x.cells hx rfl (fun j u hu => ?_) (ev_one x) (by unfold maxLen; omega) (by omega) (by simp; omega) ?_
  · rw [Addr.add_lit, Nat.zero_add]
    exact hnb.cell hu
  · intro v' w' hown' hgrow _ _
    refine h v' w' ?_ (((Below.refl _ _).alloc hB _).grown hgrow (by simp; omega) (fun k hk => (hown.lt k hk).1)) hgrow
    rw [flatE_snoc]
    exact hown'
theorem bt' {a b c : World} (h : Below a.heap.size a b) (k : Below b.heap.size b c) : Below a.heap.size a c := h.trans (k.mono h.size)
end Go.Proofs.YtfmnbehopdmahaaGreat
/-
  A drawn region that only reads and calls what makes memory; append([]int(nil), x...). No function of the program is named here.
-/
namespace Go.Proofs.YtfmnbehopdmahaaGreat
open Go.RowKit Go.Maps

/-- A drawn region that only reads and calls what makes memory beyond W. -/
theorem wp_region_bey {P : Program} {id : Nat} {Q : Exit → Act → World → Prop} {a : Act} {w : World} {l : List Oper} (W : World) (hm : P.follows .mixedOrders = true) (hB : Region.lexB .any l.toArray = true) (hb : Below W.heap.size W w)
    (h : wpQuiet P l.toArray (fun w' => ∃ X : Beyond W, w' = X.now) (fun a' => ∀ w', (∃ X : Beyond W, w' = X.now) → Q .normal a' w') l a) : (Code.region id l.toArray true).wp P Q a w :=
  wp_region_quiet (C := fun w' => ∃ X : Beyond W, w' = X.now) hm hB ⟨⟨_, below_dn hb 1⟩, rfl⟩ (by simpa using h)
theorem bey_call {P : Program} {f : FuncId} {args : Array Value} {W : World} {v : Value} (X : Beyond W) (h : Calls P f args X.now fun e w' => e = .returned v ∧ Below X.now.heap.size X.now w') : Calls P f args X.now (fun e w'' => e = .returned v ∧ ∃ Y : Beyond W, w'' = Y.now) :=
  h.mono fun _ w' hh => ⟨hh.1, ⟨w', bt' X.is hh.2⟩, rfl⟩
theorem bey_same {P : Program} {f : FuncId} {args : Array Value} {W : World} {v : Value} (X : Beyond W) (h : Calls P f args X.now fun e w' => e = .returned v ∧ w' = X.now) : Calls P f args X.now (fun e w'' => e = .returned v ∧ ∃ Y : Beyond W, w'' = Y.now) :=
  h.mono fun _ _ hh => ⟨hh.1, X, hh.2⟩
theorem bey_drew {P : Program} {f : FuncId} {args : Array Value} {W : World} {v : Value} (X : Beyond W) (h : Calls P f args X.now fun e w' => e = .returned v ∧ ∃ q, w' = X.now.drewN q) : Calls P f args X.now (fun e w'' => e = .returned v ∧ ∃ Y : Beyond W, w'' = Y.now) :=
  h.mono fun _ w' hh => ⟨hh.1, ⟨w', by obtain ⟨q, hq⟩ := hh.2; rw [hq]; exact below_dn X.is q⟩, rfl⟩
/-- append([]int(nil), x...): a copy. -/
theorem wpList_append_nilB {ops : Array Oper} {rest : List Oper} {o : Oper} {a : Act} {Q : Exit → Act → World → Prop} (W : World) (hgd : o.guard = none) (s x : Operand)
    (ho : o.op = .call { callee := .builtin .append, args := #[s, x], argTypes := #[23, 23] })
    (hs : a.eval s = .slice none 0 0) (ao : Option Addr) (c : Nat) (xs : List Int) (n : Nat) (hn : xs.length = n) (hx : a.eval x = .slice ao n c) (hh : HeldInt W ao xs) (hl : xs.length ≤ 17592186044416)
    (h : ∀ bo cp w', HV w' bo cp xs → (∀ b off, bo = some ⟨b, off, none⟩ → W.heap.size ≤ b ∧ ∃ cs, Blk w' b 3 cs) → Below W.heap.size W w' → wpList Tryz.prog ops Q rest (a.put o.dst (.slice bo n cp)) w') :
    wpList Tryz.prog ops Q (o :: rest) a W := by
  subst hn
  obtain ⟨iI, hj, hy0, hy1, hy2⟩ := info_parts Tryz.infoInt
  have fin : ∀ (v' : Value) (w' : World), w'.ownsRow W.heap.size 3 1 v' xs.length (ints xs) → Below W.heap.size W w' → wpList Tryz.prog ops Q rest (a.put o.dst v') w' := by
    intro v' w' hown hb
    have hlt := hown.lt
    have hbk : ∀ b, v'.ownBlock = some b → ∃ cs, Blk w' b 3 cs := by
      intro b hb
      rcases hown.2 with ⟨rfl, _⟩ | ⟨g, cap, cur, rfl, _, hg, _⟩
      · simp [Value.ownBlock] at hb
      · simp [Value.ownBlock] at hb
        subst hb
        exact ⟨cur.toList, hg⟩
    obtain ⟨eo, cap, rfl, hv⟩ := hv_of_own hown hh.1 hl
    exact h eo cap w' hv (fun b off e => ⟨(hlt b (by rw [e]; rfl)).1, hbk b (by rw [e]; rfl)⟩) hb
  cases ao with
  | none =>
    have hx0 : xs = [] := by
      rcases hh.2 with h0 | ⟨b, off, e, _⟩
      · exact h0
      · cases e
    subst hx0
    refine wpList_plain hgd fun K hK => ?_
    have hr := run_append_noneI (P := Tryz.prog) W W.heap.size 23 o.type 3 iI 1 Tryz.underlying23 hj _ 0 c _ (ownI_nil W W.heap.size)
    unfold Oper.wp execOp
    simp only [ho, resolve, invoke, builtin, Sem.run_bind, Sem.run_pure, Result.andThen_ok, List.map_toArray, List.map_cons, List.map_nil, hs, hx, List.length_nil, hr]
    exact hK _ _ (fin _ _ (ownI_nil W W.heap.size) (Below.refl _ _))
  | some ad =>
    have hnews : ∀ j u, (ints xs)[j]? = some u → W.cell? (ad.add j) = some u := by
      intro j u hu
      rcases hh.2 with h0 | ⟨b, off, e, _⟩
      · subst h0
        simp [ints] at hu
      · cases e
        exact hh.news j u hu
    refine wpList_append_own_at _ hgd s x 23 ho W.heap.size 3 iI (.int .i64 0) 1 8 Tryz.underlying23 hj hy0 hy1 hy2 rfl (by decide) _ 0 (ints []) hs (ownI_nil W W.heap.size) ad xs.length c (ints xs) hx (by rw [ints_len]; omega) hnews (ints_one xs) (by unfold maxLen; omega) (by omega) (Nat.le_refl _) ?_
    intro v' w' hown hgrow _ _
    exact fin v' w' (by simpa [ints] using hown) ((Below.refl _ _).grown hgrow (Nat.le_refl _) (fun k e => by cases e))
theorem results_cell1B {fn : Func} {p : Tmp} {ty : TypeId} (h : fn.results = #[.cell p ty]) (tmps : Array Value) (P : Program) (w : World) :
    (results fn tmps).run P w = ((asAddr (tmps.getD p undef)).run P w).andThen fun a w₁ => (loadVar ty a).run P w₁ := by
  simp only [results, h]
  simp [Sem.run_bind, Result.andThen]
end Go.Proofs.YtfmnbehopdmahaaGreat
/-
  Entries and votes in memory: what a slice of api.Voted holds ('HeldV'), what append makes of one. No function of the program is named here.
-/
namespace Go.Proofs.YtfmnbehopdmahaaGreat
open Go.RowKit Go.ChangeShapes Go.WideShapes Go.Deep Go.Maps

/-- An entry. -/
structure En where
  noop : Bool
  tok : ByteArray
  cart : ByteArray
  ep : Int
  cut : List Int
  deriving DecidableEq
def noopEn : En := ⟨true, ⟨#[]⟩, ⟨#[]⟩, 0, []⟩
/-- An entry with the place of its cut. -/
structure EnM where
  e : En
  ao : Option Addr
  cap : Nat
abbrev EnM.val (x : EnM) : Value := .agg #[.bool x.e.noop, .string x.e.tok, .string x.e.cart, .int .i64 x.e.ep, .slice x.ao x.e.cut.length x.cap]
def EnM.cells (x : EnM) : List Value := [.bool x.e.noop, .string x.e.tok, .string x.e.cart, .int .i64 x.e.ep, .slice x.ao x.e.cut.length x.cap]
structure EnOk (w : World) (x : EnM) : Prop where
  cut : HV w x.ao x.cap x.e.cut
  ie : I64 x.e.ep
  ht : x.e.tok.size ≤ maxLen
  hc : x.e.cart.size ≤ maxLen
theorem EnOk.below {w w' : World} {x : EnM} (h : EnOk w x) (hb : Below w.heap.size w w') : EnOk w' x := ⟨h.cut.below hb, h.ie, h.ht, h.hc⟩
/-- A vote: slot, ballot, entry, and the place of the entry's cut. -/
structure VoM where
  slot : Int
  bal : Int × Int
  en : EnM
def zeroVM : VoM := ⟨0, (0, 0), ⟨⟨false, ⟨#[]⟩, ⟨#[]⟩, 0, []⟩, none, 0⟩⟩
instance : Inhabited VoM := ⟨zeroVM⟩
def VoM.cells (x : VoM) : List Value := [.int .i64 x.slot, .int .i64 x.bal.1, .int .i64 x.bal.2, .bool x.en.e.noop, .string x.en.e.tok, .string x.en.e.cart, .int .i64 x.en.e.ep, .slice x.en.ao x.en.e.cut.length x.en.cap]
abbrev VoM.val (x : VoM) : Value := .agg #[.int .i64 x.slot, .int .i64 x.bal.1, .int .i64 x.bal.2, .bool x.en.e.noop, .string x.en.e.tok, .string x.en.e.cart, .int .i64 x.en.e.ep, .slice x.en.ao x.en.e.cut.length x.en.cap]
structure VoOk (w : World) (x : VoM) : Prop where
  en : EnOk w x.en
  is : I64 x.slot
  i1 : I64 x.bal.1
  i2 : I64 x.bal.2
theorem VoOk.below {w w' : World} {x : VoM} (h : VoOk w x) (hb : Below w.heap.size w w') : VoOk w' x := ⟨h.en.below hb, h.is, h.i1, h.i2⟩
def AllVo (w : World) (xs : List VoM) : Prop := ∀ x ∈ xs, VoOk w x
theorem AllVo.below {w w' : World} {xs : List VoM} (h : AllVo w xs) (hb : Below w.heap.size w w') : AllVo w' xs := fun x hx => (h x hx).below hb
/-- A slice of votes holds xs. -/
def HeldVo (w : World) (ao : Option Addr) (xs : List VoM) : Prop :=
  AllVo w xs ∧ (xs = [] ∨ ∃ b off, ao = some ⟨b, off, none⟩ ∧ b < w.heap.size ∧ ∀ j (hj : j < xs.length) c u, xs[j].cells[c]? = some u → w.cell? ⟨b, off + j * 8 + c, none⟩ = some u)
theorem HeldVo.below {w w' : World} {ao : Option Addr} {xs : List VoM} (h : HeldVo w ao xs) (hb : Below w.heap.size w w') : HeldVo w' ao xs := by
  refine ⟨h.1.below hb, ?_⟩
  rcases h.2 with h0 | ⟨b, off, h1, h2, h3⟩
  · exact .inl h0
  · exact .inr ⟨b, off, h1, Nat.lt_of_lt_of_le h2 hb.size, fun j hj c u hu => (hb.cell (p := ⟨b, off + j * 8 + c, none⟩) h2).trans (h3 j hj c u hu)⟩
theorem HeldVo.at {w : World} {ao : Option Addr} {xs : List VoM} (h : HeldVo w ao xs) {j : Nat} (hj : j < xs.length) : ∃ b off, ao = some ⟨b, off, none⟩ ∧ b < w.heap.size ∧ ∀ c u, xs[j].cells[c]? = some u → w.cell? ⟨b, off + j * 8 + c, none⟩ = some u := by
  rcases h.2 with h0 | ⟨b, off, h1, h2, h3⟩
  · subst h0
    cases hj
  · exact ⟨b, off, h1, h2, fun c u hu => h3 j hj c u hu⟩
def flatVo (xs : List VoM) : List Value := xs.flatMap VoM.cells
theorem flatVo_snoc (xs : List VoM) (x : VoM) : flatVo (xs ++ [x]) = flatVo xs ++ x.cells := by simp [flatVo]
theorem flatVo_len : ∀ xs : List VoM, (flatVo xs).length = xs.length * 8
  | [] => rfl
  | x :: r => by
    have := flatVo_len r
    unfold flatVo at this ⊢
    rw [List.flatMap_cons, List.length_append, this, List.length_cons]
    show 8 + _ = _
    omega
theorem flatVo_get : ∀ (xs : List VoM) (j : Nat) (hj : j < xs.length) (c : Nat) (u : Value), xs[j].cells[c]? = some u → (flatVo xs)[j * 8 + c]? = some u
  | [], j, hj, _, _, _ => by cases hj
  | x :: r, 0, _, c, u, h => by
    simp only [List.getElem_cons_zero] at h
    have hc : c < 8 := (List.getElem?_eq_some_iff.1 h).1
    unfold flatVo
    rw [List.flatMap_cons, Nat.zero_mul, Nat.zero_add, List.getElem?_append_left (show c < 8 from hc)]
    exact h
  | x :: r, j + 1, hj, c, u, h => by
    simp only [List.getElem_cons_succ] at h
    have := flatVo_get r j (by simpa using hj) c u h
    unfold flatVo at this ⊢
    rw [List.flatMap_cons, List.getElem?_append_right (show x.cells.length ≤ _ by show 8 ≤ _; omega)]
    rw [show (j + 1) * 8 + c - x.cells.length = j * 8 + c by show _ - 8 = _; omega]
    exact this
/-- What an owned row of seals holds. -/
theorem heldVo_of_own {w : World} {B : Nat} {v : Value} {xs : List VoM} {n : Nat} (hn : xs.length = n) (h : w.ownsRow B 73 8 v n (flatVo xs)) (hx : AllVo w xs) : ∃ ao cap, v = .slice ao n cap ∧ n ≤ cap ∧ HeldVo w ao xs := by
  subst hn
  obtain ⟨eo, cap, rfl, hnc, hc⟩ := own_form8 h
  refine ⟨eo, cap, rfl, hnc, hx, ?_⟩
  by_cases h0 : xs = []
  · exact .inl h0
  · obtain ⟨g, rfl, _, hg, hcell⟩ := hc (List.length_pos_iff.2 h0)
    refine .inr ⟨g, 0, rfl, hg, fun j hj c u hu => ?_⟩
    rw [Nat.zero_add]
    exact hcell _ _ (flatVo_get xs j hj c u hu)
theorem Tryz.infoVo : (Tryz.prog.info? 73).map (fun i => (i.zero, i.size, i.bytes)) = some (some (.agg #[.int .i64 0, .int .i64 0, .int .i64 0, .bool false, .string ⟨#[]⟩, .string ⟨#[]⟩, .int .i64 0, .slice none 0 0]), 8, 96) := by kernel_rfl
theorem vo_one (x : VoM) : ∀ u ∈ x.cells, u.oneCell' = true := by
  intro u hu
  simp [VoM.cells] at hu
  rcases hu with rfl | rfl | rfl | rfl | rfl | rfl | rfl | rfl <;> rfl
/-- append(out, e). -/
theorem wpList_append_vo {ops : Array Oper} {rest : List Oper} {o : Oper} {a : Act} {Q : Exit → Act → World → Prop} (W0 W : World) (x : VoM) (hW : W = W0.alloc (.cells x.cells.toArray 73)) (hgd : o.guard = none) (s xx : Operand)
    (ho : o.op = .call { callee := .builtin .append, args := #[s, xx], argTypes := #[40, 40] }) (B : Nat) (v : Value) (ds : List VoM) (n : Nat) (hn : ds.length = n)
    (hs : a.eval s = v) (hx : a.eval xx = .slice (some ⟨W0.heap.size, 0, none⟩) 1 1) (hown : W0.ownsRow B 73 8 v n (flatVo ds)) (hB : B ≤ W0.heap.size) (hl : n < 1466015503701)
    (h : ∀ v' w', w'.ownsRow B 73 8 v' (n + 1) (flatVo (ds ++ [x])) → Below B W0 w' → W.grownBy w' v.ownBlock → wpList Tryz.prog ops Q rest (a.put o.dst v') w') :
    wpList Tryz.prog ops Q (o :: rest) a W := by
  subst hW
  obtain ⟨iI, hj, hy0, hy1, hy2⟩ := info_parts Tryz.infoVo
  have hnb := Blk.new W0 73 x.cells
  refine wpList_append_own_at _ hgd s xx 40 ho B 73 iI _ 8 96 Tryz.underlying40 hj hy0 hy1 hy2 rfl (by decide) v n (flatVo ds) hs (hown.alloc _) ⟨W0.heap.size, 0, none⟩ 1 1 x.cells hx rfl (fun j u hu => ?_) (vo_one x) (by unfold maxLen; omega) (by omega) (by simp; omega) ?_
  · rw [Addr.add_lit, Nat.zero_add]
    exact hnb.cell hu
  · intro v' w' hown' hgrow _ _
    refine h v' w' ?_ (((Below.refl _ _).alloc hB _).grown hgrow (by simp; omega) (fun k hk => (hown.lt k hk).1)) hgrow
    rw [flatVo_snoc]
    exact hown'
/-- A block of five cells stored anew. -/
def st5 (w : World) (p : Nat) (v0 v1 v2 v3 v4 : Value) : World :=
  ((((w.setCell ⟨p, 0, none⟩ v0).setCell ⟨p, 1, none⟩ v1).setCell ⟨p, 2, none⟩ v2).setCell ⟨p, 3, none⟩ v3).setCell ⟨p, 4, none⟩ v4
theorem st5_blk {w : World} {p : Nat} {t : TypeId} {a0 a1 a2 a3 a4 : Value} (h : Blk w p t [a0, a1, a2, a3, a4]) (v0 v1 v2 v3 v4 : Value) : Blk (st5 w p v0 v1 v2 v3 v4) p t [v0, v1, v2, v3, v4] :=
  ((((h.set 0 v0).set 1 v1).set 2 v2).set 3 v3).set 4 v4
theorem st5_turns (w : World) (p : Nat) (v0 v1 v2 v3 v4 : Value) : Turns (fun i => i = p) w (st5 w p v0 v1 v2 v3 v4) :=
  (((((Turns.refl (fun i => i = p) w).setCell (p := ⟨p, 0, none⟩) (.inl rfl) _).setCell (p := ⟨p, 1, none⟩) (.inl rfl) _).setCell (p := ⟨p, 2, none⟩) (.inl rfl) _).setCell (p := ⟨p, 3, none⟩) (.inl rfl) _).setCell (p := ⟨p, 4, none⟩) (.inl rfl) _
/-- An entry told anew: the same, its cut in new memory. -/
def ToldEn (w : World) (x : EnM) (e : Ending) (w' : World) : Prop := ∃ bo cp, e = .returned (EnM.val ⟨x.e, bo, cp⟩) ∧ HV w' bo cp x.e.cut ∧ (∀ b off, bo = some ⟨b, off, none⟩ → w.heap.size ≤ b ∧ ∃ cs, Blk w' b 3 cs) ∧ Below w.heap.size w w'
end Go.Proofs.YtfmnbehopdmahaaGreat
/-
  Package codec: numbers, truths, vectors: whether they may be, their bytes behind an owned row.
-/
namespace Go.Proofs.YtfmnbehopdmahaaGreat
open Go.RowKit Go.Maps

theorem upTo_anyC (w : World) (x m : Int) : Calls Tryz.prog 93 #[.int .i64 x, .int .i64 m] w fun e w' => e = .returned (.bool (decide (0 ≤ x ∧ x ≤ m))) ∧ w' = w := by
  by_cases h0 : 0 ≤ x
  · by_cases h1 : x ≤ m
    · have HD : Hid (decide (0 ≤ x ∧ x ≤ m) = true) := decide_eq_true ⟨h0, h1⟩
      rw [HD.out]
      go_enter Tryz.func93, Tryz.ntmps93
      go_wp2
      go_ret
      exact ⟨by simp, rfl⟩
    · have HD : Hid (decide (0 ≤ x ∧ x ≤ m) = false) := decide_eq_false fun h => h1 h.2
      rw [HD.out]
      go_enter Tryz.func93, Tryz.ntmps93
      go_wp2
      go_ret
      exact ⟨by simp, rfl⟩
  · have HD : Hid (decide (0 ≤ x ∧ x ≤ m) = false) := decide_eq_false fun h => h0 h.1
    rw [HD.out]
    go_enter Tryz.func93, Tryz.ntmps93
    go_wp2
    go_ret
    exact ⟨by simp, rfl⟩
theorem appendNumber_ownC (v : Value) (n : Nat) (bs : List Int) (x : Int) (B : Nat) (w : World) (h0 : 0 ≤ x) (hx : x ≤ 9223372036854775807) (hown : w.ownsRow B 5 1 v n (nums bs)) (hB : B ≤ w.heap.size) (hn : n ≤ 140737488355000) :
    Calls Tryz.prog 101 #[v, .int .i64 x] w fun e w' => ∃ v', e = .returned v' ∧ w'.ownsRow B 5 1 v' (n + (enc x.toNat).length) (nums (bs ++ enc x.toNat)) ∧ Below B w w' := by
  have H := hid (appendUint_own v n bs x B w h0 (by omega) hown hB hn)
  have hwr : IntKind.u64.wrap x = x := by rw [IntKind.wrap_u64]; omega
  clear hown
  go_enter Tryz.func101, Tryz.ntmps101
  go_wp2_with fail
  refine H.out.mono ?_
  rintro e w' ⟨v', rfl, h1, h2⟩
  have H1 := hid h1
  have H2 := hid h2
  clear h1 h2
  go_wp2
  go_ret
  exact ⟨v', rfl, H1.out, H2.out⟩
def InVC (v : List Int) : Prop := ∀ x ∈ v, 0 ≤ x ∧ x ≤ 2147483647
instance (v : List Int) : Decidable (InVC v) := by unfold InVC; infer_instance
def rightVC (v : List Int) : Bool := decide (InVC v) && (decide (v.length ≤ 7) && (decide (v.length = 0) || decide (v.getD (v.length - 1) 0 ≠ 0)))
theorem codecPlain_okC (w : World) (ao : Option Addr) (cap : Nat) (v : List Int) (n : Nat) (hn : v.length = n) (h : HV w ao cap v) :
    Calls Tryz.prog 126 #[.slice ao n cap] w fun e w' => e = .returned (.bool (decide (n = 0) || decide (v.getD (n - 1) 0 ≠ 0))) ∧ w' = w := by
  have HN := hid hn
  have H := hid h
  have hfew := h.few
  rw [hn] at hfew
  clear hn h
  by_cases h0 : n = 0
  · subst h0
    rw [decide_eq_true rfl, Bool.true_or]
    go_enter Tryz.func126, Tryz.ntmps126
    go_wp2
    go_ret
    exact ⟨rfl, rfl⟩
  · have h0' : ¬ (n : Int) = 0 := by omega
    have hb0 : ((n : Int) == 0) = false := by simpa using h0'
    rw [decide_eq_false h0, Bool.false_or]
    obtain ⟨X, HX⟩ : ∃ X, Hid (v.getD (n - 1) 0 = X) := ⟨_, hid rfl⟩
    rw [HX.out]
    have hnx : Hid (n - 1 < v.length) := (by rw [HN.out]; omega : n - 1 < v.length)
    rcases H.out.held.2 with hn0 | ⟨b, off, hao, hb, hc⟩
    · exfalso
      have := hnx.out
      rw [hn0] at this
      cases this
    have gk := hc (n - 1) hnx.out
    subst hao
    clear hc
    rw [HX.out] at gk
    obtain ⟨j, rfl⟩ : ∃ j, n = j + 1 := ⟨n - 1, by omega⟩
    rw [Nat.add_sub_cancel] at gk
    have hsub : IntKind.i64.wrap (((j + 1 : Nat) : Int) - 1) = (j : Int) := by rw [IntKind.wrap_i64]; omega
    have hjlt : (j : Int) < ((j + 1 : Nat) : Int) := by omega
    go_enter Tryz.func126, Tryz.ntmps126
    go_wp2
    go_ret
    exact ⟨by refine ret_bool ?_; by_cases h : X = 0; (subst h; rfl); (simp [h]; try rfl), rfl⟩
theorem mayVec1_anyC (w : World) (x : Int) : Calls Tryz.prog 146 #[.int .i64 x] w fun e w' => e = .returned (.bool (decide (0 ≤ x ∧ x ≤ 2147483647))) ∧ w' = w := by
  have H := hid (upTo_anyC w x 2147483647)
  obtain ⟨r, HR⟩ : ∃ r, Hid (decide (0 ≤ x ∧ x ≤ 2147483647) = r) := ⟨_, hid rfl⟩
  rw [HR.out] at H ⊢
  clear HR
  go_enter Tryz.func146, Tryz.ntmps146
  go_wp2_with fail
  refine H.out.mono ?_
  rintro e w' ⟨rfl, rfl⟩
  go_wp2
  go_ret
  exact ⟨rfl, rfl⟩
set_option maxRecDepth 100000 in
set_option maxHeartbeats 1000000 in
theorem every_anyC (w : World) (ao : Option Addr) (cap : Nat) (v : List Int) (n : Nat) (hn : v.length = n) (h : HV w ao cap v) :
    Calls Tryz.prog 178 #[.slice ao n cap, .func (.func 146) #[] #[]] w fun e w' => e = .returned (.bool (decide (InVC v))) ∧ w' = w := by
  have HN := hid hn
  have H := hid h
  have hfew := h.few
  rw [hn] at hfew
  have HT := hid (fun x => mayVec1_anyC w x)
  clear hn h
  go_enter Tryz.func178, Tryz.ntmps178
  go_wp2
  go_loop [6, 9] (fun _ x => ∃ k : Nat, k ≤ n ∧ x = .int .i64 k ∧ Hid (∀ a, a < k → 0 ≤ v.getD a 0 ∧ v.getD a 0 ≤ 2147483647)) (fun _ x => n - (intOf x).toNat)
  case atStart => exact ⟨0, Nat.zero_le _, rfl, fun a ha => absurd ha (Nat.not_lt_zero _)⟩
  case round =>
    obtain ⟨k, hk, rfl, HA⟩ := hrel
    by_cases hlt : k < n
    · have hlt' : (k : Int) < (n : Int) := by omega
      have hkx : Hid (k < v.length) := (by rw [HN.out]; exact hlt : k < v.length)
      have HKM : Hid (k + 1 ≤ n) := (by omega : k + 1 ≤ n)
      rcases H.out.held.2 with h0 | ⟨b, off, hao, hb, hc⟩
      · exfalso
        have := hkx.out
        rw [h0] at this
        cases this
      have gk := hc k hkx.out
      subst hao
      clear hc
      obtain ⟨X, HX⟩ : ∃ X, Hid (v.getD k 0 = X) := ⟨_, hid rfl⟩
      rw [HX.out] at gk
      go_wp2_with fail
      refine (HT.out X).mono ?_
      rintro e w' ⟨rfl, rfl⟩
      by_cases hr : 0 ≤ X ∧ X ≤ 2147483647
      · rw [decide_eq_true hr]
        have HRR := hid hr
        clear hr
        go_wp2
        go_round
        case rel =>
          refine ⟨k + 1, HKM.out, by go_num, fun a hak => ?_⟩
          by_cases e : a = k
          · subst e
            rw [HX.out]
            exact HRR.out
          · exact HA.out a (by omega)
        case measure => simp [intOf]; have := HKM.out; omega
      · rw [decide_eq_false hr]
        have HV0 : Hid (decide (InVC v) = false) := by
          show _ = _
          rw [decide_eq_false (fun hh => hr (by have := hh _ (List.getElem_mem hkx.out); rw [show v[k]'hkx.out = X by rw [← HX.out]; simp [List.getD, List.getElem?_eq_getElem hkx.out]] at this; exact this))]
        clear hr
        go_wp2
        go_ret
        exact ⟨by rw [HV0.out]; rfl, rfl⟩
    · have hlt' : ¬ (k : Int) < (n : Int) := by omega
      have HIN : Hid (decide (InVC v) = true) := by
        refine decide_eq_true fun x hx => ?_
        obtain ⟨a, ha, rfl⟩ := List.mem_iff_getElem.1 hx
        have := HA.out a (by have := HN.out; omega)
        simp only [List.getD, List.getElem?_eq_getElem ha, Option.getD] at this
        exact this
      go_wp2
      go_ret
      exact ⟨by rw [HIN.out]; rfl, rfl⟩
theorem mayList_anyC (w : World) (ao : Option Addr) (cap : Nat) (v : List Int) (n : Nat) (hn : v.length = n) (h : HV w ao cap v) :
    Calls Tryz.prog 145 #[.slice ao n cap, .int .i64 7, .func (.func 146) #[] #[]] w fun e w' => e = .returned (.bool (decide (n ≤ 7) && decide (InVC v))) ∧ w' = w := by
  have H := hid (every_anyC w ao cap v n hn h)
  clear hn h
  obtain ⟨r, HR⟩ : ∃ r, Hid (decide (InVC v) = r) := ⟨_, hid rfl⟩
  rw [HR.out] at H ⊢
  by_cases h7 : n ≤ 7
  · have h7' : (n : Int) ≤ 7 := by omega
    rw [decide_eq_true h7, Bool.true_and]
    clear h7
    go_enter Tryz.func145, Tryz.ntmps145
    go_wp2_with fail
    refine H.out.mono ?_
    rintro e w' ⟨rfl, rfl⟩
    go_wp2
    go_ret
    exact ⟨rfl, rfl⟩
  · have h7' : ¬ (n : Int) ≤ 7 := by omega
    rw [decide_eq_false h7, Bool.false_and]
    clear h7
    go_enter Tryz.func145, Tryz.ntmps145
    go_wp2
    go_ret
    exact ⟨rfl, rfl⟩
theorem mayVector_anyC (w : World) (ao : Option Addr) (cap : Nat) (v : List Int) (n : Nat) (hn : v.length = n) (h : HV w ao cap v) :
    Calls Tryz.prog 98 #[.slice ao n cap] w fun e w' => e = .returned (.bool (rightVC v)) ∧ w' = w := by
  have HR : Hid (rightVC v = ((decide (n ≤ 7) && decide (InVC v)) && (decide (n = 0) || decide (v.getD (n - 1) 0 ≠ 0)))) := by
    show _ = _
    unfold rightVC
    rw [hn]
    cases decide (InVC v) <;> cases decide (n ≤ 7) <;> rfl
  rw [HR.out]
  have HL := hid (mayList_anyC w ao cap v n hn h)
  have HP := hid (codecPlain_okC w ao cap v n hn h)
  clear hn h
  obtain ⟨r, HRR⟩ : ∃ r, Hid ((decide (n ≤ 7) && decide (InVC v)) = r) := ⟨_, hid rfl⟩
  obtain ⟨q, HQQ⟩ : ∃ r, Hid ((decide (n = 0) || decide (v.getD (n - 1) 0 ≠ 0)) = r) := ⟨_, hid rfl⟩
  rw [HRR.out] at HL ⊢
  rw [HQQ.out] at HP ⊢
  clear HR HRR HQQ
  cases r
  · rw [Bool.false_and]
    go_enter Tryz.func98, Tryz.ntmps98
    go_wp2_with fail
    refine HL.out.mono ?_
    rintro e w' ⟨rfl, rfl⟩
    go_wp2
    go_ret
    exact ⟨rfl, rfl⟩
  · rw [Bool.true_and]
    go_enter Tryz.func98, Tryz.ntmps98
    go_wp2_with fail
    refine HL.out.mono ?_
    rintro e w' ⟨rfl, rfl⟩
    go_wp2_with fail
    refine HP.out.mono ?_
    rintro e w' ⟨rfl, rfl⟩
    go_wp2
    go_ret
    exact ⟨rfl, rfl⟩
/-- The numbers of a vector as bytes. -/
def encNC : List Int → List Int
  | [] => []
  | x :: r => enc x.toNat ++ encNC r
/-- A vector as bytes. -/
def encVC (v : List Int) : List Int := enc v.length ++ encNC v
theorem inV_takeC {v : List Int} (h : InVC v) (k : Nat) : InVC (v.take k) := fun x hx => h x (List.mem_of_mem_take hx)
theorem encN_appendC : ∀ a b : List Int, encNC (a ++ b) = encNC a ++ encNC b
  | [], _ => rfl
  | x :: r, b => by
    show enc x.toNat ++ encNC (r ++ b) = (enc x.toNat ++ encNC r) ++ encNC b
    rw [encN_appendC r b, List.append_assoc]
theorem encN_takeC {v : List Int} {k : Nat} (h : k < v.length) : encNC (v.take (k + 1)) = encNC (v.take k) ++ enc (v.getD k 0).toNat := by
  rw [List.take_succ_eq_append_getElem h, encN_appendC]
  simp [encNC, List.getD, List.getElem?_eq_getElem h]
theorem encN_lenC : ∀ {v : List Int}, InVC v → (encNC v).length ≤ 10 * v.length
  | [], _ => Nat.le_refl _
  | x :: r, h => by
    have h1 := encN_lenC (v := r) fun y hy => h y (List.mem_cons_of_mem _ hy)
    have h2 := h x (List.mem_cons_self ..)
    have h3 := enc_le10 (x := x.toNat) (by omega)
    show (enc x.toNat ++ encNC r).length ≤ _
    rw [List.length_append, List.length_cons]
    omega
set_option maxRecDepth 100000 in
set_option maxHeartbeats 1000000 in
theorem appendListI_anyC (u : Value) (n : Nat) (bs : List Int) (ao : Option Addr) (cap : Nat) (v : List Int) (m : Nat) (hm : v.length = m) (B : Nat) (w : World) (hv : ∀ V, Below B w V → HV V ao cap v) (h7 : m ≤ 7) (hin : InVC v)
    (hown : w.ownsRow B 5 1 u n (nums bs)) (hB : B ≤ w.heap.size) (hn : n ≤ 140737488350000) :
    Calls Tryz.prog 152 #[u, .slice ao m cap, .func (.func 101) #[] #[]] w fun e w' => ∃ v', e = .returned v' ∧ w'.ownsRow B 5 1 v' (n + (encVC v).length) (nums (bs ++ encVC v)) ∧ Below B w w' := by
  have l0 := enc_le10 (x := m) (by omega)
  have HA := hid (appendUint_own u n bs m B w (by omega) (by omega) hown hB (by omega))
  rw [Int.toNat_natCast] at HA
  have hwr : IntKind.u64.wrap (m : Int) = (m : Int) := by rw [IntKind.wrap_u64]; omega
  obtain ⟨c0, HC0⟩ : ∃ c, Hid (n + (enc m).length = c) := ⟨_, hid rfl⟩
  rw [HC0.out] at HA
  have hc0 : c0 ≤ 140737488350010 := by have := HC0.out; omega
  have HM := hid hm
  have HVV := hid hv
  have HIN := hid hin
  clear hm hv hin hown l0
  go_enter Tryz.func152, Tryz.ntmps152
  go_wp2_with fail
  refine HA.out.mono ?_
  rintro e w1 ⟨v1, rfl, hr1, hb1⟩
  have HR1 := hid hr1
  have HB1 := hid hb1
  clear hr1 hb1 HA
  go_wp2
  go_loopw [0, 8, 16] (fun b _ i wr => ∃ k : Nat, k ≤ m ∧ i = .int .i64 k ∧ Hid (wr.ownsRow B 5 1 b (c0 + (encNC (v.take k)).length) (nums (bs ++ enc m ++ encNC (v.take k))) ∧ Below B w wr)) (fun _ _ i _ => m - (intOf i).toNat)
  case atStart => exact ⟨0, Nat.zero_le _, rfl, by rw [List.take_zero]; show World.ownsRow _ _ _ _ _ c0 (nums (bs ++ enc m ++ [])); rw [List.append_nil]; exact HR1.out, HB1.out⟩
  case round =>
    obtain ⟨k, hk, rfl, HR⟩ := hrel
    by_cases hlt : k < m
    · have hlt' : (k : Int) < (m : Int) := by omega
      have hkx : Hid (k < v.length) := (by rw [HM.out]; exact hlt : k < v.length)
      have HKM : Hid (k + 1 ≤ m) := (by omega : k + 1 ≤ m)
      rcases (HVV.out wr HR.out.2).held.2 with h0 | ⟨b, off, hao, hb, hc⟩
      · exfalso
        have := hkx.out
        rw [h0] at this
        cases this
      have gk := hc k hkx.out
      have HX2 := hid (HIN.out _ (getD_mem hkx.out))
      have HTK := hid (encN_takeC hkx.out)
      have HLN : Hid ((encNC (v.take k)).length ≤ 70) := by
        have h1 := encN_lenC (inV_takeC HIN.out k)
        have h2 : (v.take k).length ≤ 7 := by rw [List.length_take]; omega
        show _ ≤ _
        omega
      subst hao
      clear hc
      obtain ⟨X, HX⟩ : ∃ X, Hid (v.getD k 0 = X) := ⟨_, hid rfl⟩
      rw [HX.out] at gk HX2 HTK
      have HAN := hid (appendNumber_ownC u0 (c0 + (encNC (v.take k)).length) (bs ++ enc m ++ encNC (v.take k)) X B wr HX2.out.1 (by have := HX2.out; omega) HR.out.1 (Nat.le_trans hB HR.out.2.size) (by have := HLN.out; omega))
      go_wp2_with fail
      refine HAN.out.mono ?_
      rintro e w2 ⟨v2, rfl, hr2, hb2⟩
      have HR2 := hid hr2
      have HB2 := hid (HR.out.2.trans hb2)
      clear hr2 hb2 HAN
      go_wp2
      go_roundw
      case rel =>
        refine ⟨k + 1, HKM.out, by go_num, ?_, HB2.out⟩
        rw [HTK.out, List.length_append, ← List.append_assoc, ← Nat.add_assoc]
        exact HR2.out
      case measure => simp [intOf]; have := HKM.out; omega
    · have hlt' : ¬ (k : Int) < (m : Int) := by omega
      have hke : Hid (v.take k = v) := by show _ = _; rw [List.take_of_length_le]; have := HM.out; omega
      rw [hke.out] at HR
      have HE : Hid (wr.ownsRow B 5 1 u0 (n + (encVC v).length) (nums (bs ++ encVC v))) := by
        have := HR.out.1
        rw [← HC0.out, List.append_assoc, Nat.add_assoc, ← List.length_append] at this
        show World.ownsRow _ _ _ _ _ _ _
        unfold encVC
        rw [HM.out]
        exact this
      go_wp2
      go_ret
      exact ⟨_, rfl, HE.out, HR.out.2⟩
theorem appendVector_ownC (u : Value) (n : Nat) (bs : List Int) (ao : Option Addr) (cap : Nat) (v : List Int) (m : Nat) (hm : v.length = m) (B : Nat) (w : World) (hv : ∀ V, Below B w V → HV V ao cap v) (h7 : m ≤ 7) (hin : InVC v)
    (hown : w.ownsRow B 5 1 u n (nums bs)) (hB : B ≤ w.heap.size) (hn : n ≤ 140737488350000) :
    Calls Tryz.prog 106 #[u, .slice ao m cap] w fun e w' => ∃ v', e = .returned v' ∧ w'.ownsRow B 5 1 v' (n + (encVC v).length) (nums (bs ++ encVC v)) ∧ Below B w w' := by
  have HL := hid (appendListI_anyC u n bs ao cap v m hm B w hv h7 hin hown hB hn)
  clear hown hv hm
  go_enter Tryz.func106, Tryz.ntmps106
  go_wp2_with fail
  refine HL.out.mono ?_
  rintro e w' ⟨v', rfl, h1, h2⟩
  have H1 := hid h1
  have H2 := hid h2
  clear h1 h2
  go_wp2
  go_ret
  exact ⟨v', rfl, H1.out, H2.out⟩
def encBC (b : Bool) : List Int := [if b then 1 else 0]
theorem appendTruth_ownC (v : Value) (n : Nat) (bs : List Int) (b : Bool) (B : Nat) (w : World) (hown : w.ownsRow B 5 1 v n (nums bs)) (hB : B ≤ w.heap.size) (hn : n ≤ 140737488350000) :
    Calls Tryz.prog 150 #[v, .bool b] w fun e w' => ∃ v', e = .returned v' ∧ w'.ownsRow B 5 1 v' (n + (encBC b).length) (nums (bs ++ encBC b)) ∧ Below B w w' := by
  obtain ⟨i0, hi, hz0, hz1, hz2⟩ := info_parts Tryz.info5
  have HL : Hid (∀ k, v.ownBlock = some k → B ≤ k) := fun k hk => (hown.lt k hk).1
  cases b
  · go_enter Tryz.func150, Tryz.ntmps150
    go_wp2_with (at_builtin; refine wpList_append_own_at _ rfl _ _ 66 rfl B 5 i0 (.int .u8 0) 1 1 Tryz.underlying66 hi hz0 hz1 hz2 rfl (by decide) _ _ _ rfl (hown.alloc _) ⟨w.heap.size, 0, none⟩ 1 1 [.int .u8 0] rfl rfl (cell_one_new _ _ _) (one_int _ _) (by unfold maxLen; omega) (by omega) (by simp; omega) ?_)
    intro v' w1 hown' hgrow _ _
    have HO : Hid (w1.ownsRow B 5 1 v' (n + 1) (nums (bs ++ [0]))) := by rw [nums_append]; exact hown'
    have HB : Hid (Below B w w1) := ((Below.refl _ _).alloc hB _).grown hgrow (by simp; omega) HL.out
    clear hown' hgrow hown
    go_wp2
    go_ret
    exact ⟨v', rfl, HO.out, HB.out⟩
  · go_enter Tryz.func150, Tryz.ntmps150
    go_wp2_with (at_builtin; refine wpList_append_own_at _ rfl _ _ 66 rfl B 5 i0 (.int .u8 0) 1 1 Tryz.underlying66 hi hz0 hz1 hz2 rfl (by decide) _ _ _ rfl (hown.alloc _) ⟨w.heap.size, 0, none⟩ 1 1 [.int .u8 1] rfl rfl (cell_one_new _ _ _) (one_int _ _) (by unfold maxLen; omega) (by omega) (by simp; omega) ?_)
    intro v' w1 hown' hgrow _ _
    have HO : Hid (w1.ownsRow B 5 1 v' (n + 1) (nums (bs ++ [1]))) := by rw [nums_append]; exact hown'
    have HB : Hid (Below B w w1) := ((Below.refl _ _).alloc hB _).grown hgrow (by simp; omega) HL.out
    clear hown' hgrow hown
    go_wp2
    go_ret
    exact ⟨v', rfl, HO.out, HB.out⟩
theorem nameS_sizeC {s : ByteArray} (h : nameS s = true) : s.size ≤ 32 := by
  unfold nameS at h
  simp at h
  omega
end Go.Proofs.YtfmnbehopdmahaaGreat
