/-
  Orders in memory: what a slice of api.Order holds ('HeldOr'), what append makes of one; maps from strings to numbers ('SiMap'); a machine of orders in memory ('SmAt').
-/
import Derived.Test.YtfokmldfnkonpaaSmM
import Derived.Test.YtfokmldfnkonpaaStrKey
import Derived.Test.YtfokmldfnkonpaaCodZ
import Derived.Laws.ResultCell
namespace Go.Proofs.Ytfokmldfnkonpaa
open Go.RowKit Go.ChangeShapes Go.WideShapes Go.Deep Go.Maps

/-- An order with the place of its cut. -/
structure OrM where
  e : Or
  ao : Option Addr
  cap : Nat
def zeroOM : OrM := ⟨zeroOr, none, 0⟩
instance : Inhabited OrM := ⟨zeroOM⟩
abbrev OrM.val (x : OrM) : Value := .agg #[.int .i64 x.e.id, .string x.e.tok, .string x.e.cart, .int .i64 x.e.ep, .slice x.ao x.e.cut.length x.cap]
def OrM.cells (x : OrM) : List Value := [.int .i64 x.e.id, .string x.e.tok, .string x.e.cart, .int .i64 x.e.ep, .slice x.ao x.e.cut.length x.cap]
structure OrOk (w : World) (x : OrM) : Prop where
  cut : HV w x.ao x.cap x.e.cut
  ii : I64 x.e.id
  ie : I64 x.e.ep
  ht : x.e.tok.size ≤ maxLen
  hc : x.e.cart.size ≤ maxLen
theorem OrOk.below {w w' : World} {x : OrM} (h : OrOk w x) (hb : Below w.heap.size w w') : OrOk w' x := ⟨h.cut.below hb, h.ii, h.ie, h.ht, h.hc⟩
/-- No block of numbers is among these. -/
def NoN (w : World) (F : Nat → Prop) : Prop := ∀ i, F i → ∀ cs, ¬ Blk w i 3 cs
theorem noN_none (w : World) : NoN w (fun _ => False) := fun _ h => h.elim
theorem noN_map {w : World} {m n k : Nat} {D : DataW Value} (h : w.ownsMap Try.prog k valR m n D) : NoN w (fun i => i = m) := by
  rintro i rfl cs hc
  exact hc.not_map h rfl
theorem noN_blk {w : World} {p : Nat} {t : TypeId} {cs : List Value} (h : Blk w p t cs) (ht : t ≠ 3) : NoN w (fun i => i = p) := by
  rintro i rfl cs' hc
  have h1 : w.heap[i]? = some (.cells cs.toArray t) := h
  have h2 : w.heap[i]? = some (.cells cs'.toArray 3) := hc
  rw [h1] at h2
  injection h2 with h2
  injection h2 with _ h2
  exact ht h2
theorem noN_row {w : World} {B e sz n : Nat} {v : Value} {xs : List Value} (h : w.ownsRow B e sz v n xs) (ht : e ≠ 3) : NoN w (fun i => v.ownBlock = some i) := fun _ hi _ hc => hc.not_row (fun k => ht k.symm) h hi.symm
theorem NoN.or {w : World} {F G : Nat → Prop} (h : NoN w F) (k : NoN w G) : NoN w (fun i => F i ∨ G i) := fun i hi => hi.elim (h i) (k i)
theorem NoN.mono {w : World} {F G : Nat → Prop} (h : NoN w F) (k : ∀ i, G i → F i) : NoN w G := fun i hi => h i (k i hi)
/-- An order that is kept: its cut lies in a block of numbers. -/
structure OrKeep (w : World) (x : OrM) : Prop where
  ok : OrOk w x
  num : ∀ b off, x.ao = some ⟨b, off, none⟩ → x.e.cut ≠ [] → ∃ cs, Blk w b 3 cs
theorem OrKeep.turned {F : Nat → Prop} {w w' : World} {x : OrM} (h : OrKeep w x) (hF : NoN w F) (ht : Turns F w w') : OrKeep w' x := by
  have ho : ∀ b off, x.ao = some ⟨b, off, none⟩ → x.e.cut ≠ [] → ¬ F b := fun b off e hne hf => by
    obtain ⟨cs, hb⟩ := h.num b off e hne
    exact hF b hf cs hb
  refine ⟨⟨⟨h.ok.cut.held.turned ht ho, h.ok.cut.room, h.ok.cut.few⟩, h.ok.ii, h.ok.ie, h.ok.ht, h.ok.hc⟩, fun b off e hne => ?_⟩
  obtain ⟨cs, hb⟩ := h.num b off e hne
  exact ⟨cs, ht.blk hb (ho b off e hne)⟩
theorem OrKeep.below {w w' : World} {x : OrM} (h : OrKeep w x) (hb : Below w.heap.size w w') : OrKeep w' x := h.turned (noN_none w) (Turns.of_below hb (Nat.le_refl _))
def AllO (w : World) (xs : List OrM) : Prop := ∀ x ∈ xs, OrKeep w x
theorem AllO.turned {F : Nat → Prop} {w w' : World} {xs : List OrM} (h : AllO w xs) (hF : NoN w F) (ht : Turns F w w') : AllO w' xs := fun x hx => (h x hx).turned hF ht
theorem AllO.below {w w' : World} {xs : List OrM} (h : AllO w xs) (hb : Below w.heap.size w w') : AllO w' xs := fun x hx => (h x hx).below hb
/-- A slice of orders holds xs. -/
def HeldOr (w : World) (ao : Option Addr) (xs : List OrM) : Prop :=
  xs = [] ∨ ∃ b off, ao = some ⟨b, off, none⟩ ∧ b < w.heap.size ∧ ∀ j (hj : j < xs.length) c u, xs[j].cells[c]? = some u → w.cell? ⟨b, off + j * 5 + c, none⟩ = some u
theorem HeldOr.below {w w' : World} {ao : Option Addr} {xs : List OrM} (h : HeldOr w ao xs) (hb : Below w.heap.size w w') : HeldOr w' ao xs := by
  rcases h with h0 | ⟨b, off, h1, h2, h3⟩
  · exact .inl h0
  · exact .inr ⟨b, off, h1, Nat.lt_of_lt_of_le h2 hb.size, fun j hj c u hu => (hb.cell (p := ⟨b, off + j * 5 + c, none⟩) h2).trans (h3 j hj c u hu)⟩
theorem HeldOr.at {w : World} {ao : Option Addr} {xs : List OrM} (h : HeldOr w ao xs) {j : Nat} (hj : j < xs.length) : ∃ b off, ao = some ⟨b, off, none⟩ ∧ b < w.heap.size ∧ w.cell? ⟨b, off + j * 5, none⟩ = some (.int .i64 xs[j].e.id) ∧ w.cell? ⟨b, off + j * 5 + 1, none⟩ = some (.string xs[j].e.tok) ∧ w.cell? ⟨b, off + j * 5 + 2, none⟩ = some (.string xs[j].e.cart) ∧
    w.cell? ⟨b, off + j * 5 + 3, none⟩ = some (.int .i64 xs[j].e.ep) ∧ w.cell? ⟨b, off + j * 5 + 4, none⟩ = some (.slice xs[j].ao xs[j].e.cut.length xs[j].cap) := by
  rcases h with h0 | ⟨b, off, h1, h2, h3⟩
  · subst h0
    cases hj
  · exact ⟨b, off, h1, h2, h3 j hj 0 _ rfl, h3 j hj 1 _ rfl, h3 j hj 2 _ rfl, h3 j hj 3 _ rfl, h3 j hj 4 _ rfl⟩
def flatO (xs : List OrM) : List Value := xs.flatMap OrM.cells
theorem flatO_snoc (xs : List OrM) (x : OrM) : flatO (xs ++ [x]) = flatO xs ++ x.cells := by simp [flatO]
theorem flatO_len : ∀ xs : List OrM, (flatO xs).length = xs.length * 5
  | [] => rfl
  | x :: r => by
    have := flatO_len r
    unfold flatO at this ⊢
    rw [List.flatMap_cons, List.length_append, this, List.length_cons]
    show 5 + _ = _
    omega
theorem flatO_get : ∀ (xs : List OrM) (j : Nat) (hj : j < xs.length) (c : Nat) (u : Value), xs[j].cells[c]? = some u → (flatO xs)[j * 5 + c]? = some u
  | [], j, hj, _, _, _ => by cases hj
  | x :: r, 0, _, c, u, h => by
    simp only [List.getElem_cons_zero] at h
    have hc : c < 5 := (List.getElem?_eq_some_iff.1 h).1
    unfold flatO
    rw [List.flatMap_cons, Nat.zero_mul, Nat.zero_add, List.getElem?_append_left (show c < 5 from hc)]
    exact h
  | x :: r, j + 1, hj, c, u, h => by
    simp only [List.getElem_cons_succ] at h
    have := flatO_get r j (by simpa using hj) c u h
    unfold flatO at this ⊢
    rw [List.flatMap_cons, List.getElem?_append_right (show x.cells.length ≤ _ by show 5 ≤ _; omega)]
    rw [show (j + 1) * 5 + c - x.cells.length = j * 5 + c by show _ - 5 = _; omega]
    exact this
/-- What an owned row of orders holds. -/
theorem heldOr_of_own {w : World} {B : Nat} {v : Value} {xs : List OrM} {n : Nat} (hn : xs.length = n) (h : w.ownsRow B 32 5 v n (flatO xs)) : ∃ ao cap, v = .slice ao n cap ∧ n ≤ cap ∧ HeldOr w ao xs := by
  subst hn
  obtain ⟨eo, cap, rfl, hnc, hc⟩ := own_form8 h
  refine ⟨eo, cap, rfl, hnc, ?_⟩
  by_cases h0 : xs = []
  · exact .inl h0
  · obtain ⟨g, rfl, _, hg, hcell⟩ := hc (List.length_pos_iff.2 h0)
    refine .inr ⟨g, 0, rfl, hg, fun j hj c u hu => ?_⟩
    rw [Nat.zero_add]
    exact hcell _ _ (flatO_get xs j hj c u hu)
theorem Try.infoOr : (Try.prog.info? 32).map (fun i => (i.zero, i.size, i.bytes)) = some (some (.agg #[.int .i64 0, .string ⟨#[]⟩, .string ⟨#[]⟩, .int .i64 0, .slice none 0 0]), 5, 72) := by kernel_rfl
theorem or_one (x : OrM) : ∀ u ∈ x.cells, u.oneCell' = true := by
  intro u hu
  simp [OrM.cells] at hu
  rcases hu with rfl | rfl | rfl | rfl | rfl <;> rfl
/-- append(out, e): the element lies in a block of its own at q. -/
theorem wpList_append_or {ops : Array Oper} {rest : List Oper} {o : Oper} {a : Act} {Q : Exit → Act → World → Prop} (W0 W : World) (x : OrM) (hW : W = W0.alloc (.cells x.cells.toArray 32)) (hgd : o.guard = none) (s xx : Operand)
    (ho : o.op = .call { callee := .builtin .append, args := #[s, xx], argTypes := #[26, 26] }) (B : Nat) (v : Value) (ds : List OrM) (n : Nat) (hn : ds.length = n)
    (hs : a.eval s = v) (q : Nat) (hx : a.eval xx = .slice (some ⟨q, 0, none⟩) 1 1) (hq : q = W0.heap.size) (hown : W0.ownsRow B 32 5 v n (flatO ds)) (hB : B ≤ W0.heap.size) (hl : n < 1954687338268)
    (h : ∀ v' w', w'.ownsRow B 32 5 v' (n + 1) (flatO (ds ++ [x])) → Below B W0 w' → W.grownBy w' v.ownBlock → (v'.ownBlock = v.ownBlock ∨ v'.ownBlock = some W.heap.size) → wpList Try.prog ops Q rest (a.put o.dst v') w') :
    wpList Try.prog ops Q (o :: rest) a W := by
  subst hW hq
  obtain ⟨iI, hj, hy0, hy1, hy2⟩ := info_parts Try.infoOr
  have hnb := Blk.new W0 32 x.cells
  refine wpList_append_own_at _ hgd s xx 26 ho B 32 iI _ 5 72 Try.underlying26 hj hy0 hy1 hy2 rfl (by decide) v n (flatO ds) hs (hown.alloc _) ⟨W0.heap.size, 0, none⟩ 1 1 x.cells hx rfl (fun j u hu => ?_) (or_one x) (by unfold maxLen; omega) (by omega) (by simp; omega) ?_
  · rw [Addr.add_lit, Nat.zero_add]
    exact hnb.cell hu
  · intro v' w' hown' hgrow hsame hnew
    refine h v' w' ?_ (((Below.refl _ _).alloc hB _).grown hgrow (by simp; omega) (fun k hk => (hown.lt k hk).1)) hgrow ?_
    · rw [flatO_snoc]
      exact hown'
    · exact hnew

/-- Numbers by strings. -/
structure SiMap (w : World) (m N : Nat) (D : DataW Value) (f : ByteArray → Option Int) : Prop where
  map : w.ownsMap Try.prog 9 valR m N D
  key : ∀ s, s.size ≤ maxLen → look D (key s) = (f s).map (fun i => Value.int .i64 i)
section
variable {w w' : World} {m N : Nat} {D : DataW Value} {f : ByteArray → Option Int}
theorem SiMap.turned {F : Nat → Prop} (h : SiMap w m N D f) (ht : Turns F w w') (hF : ¬ F m) : SiMap w' m N D f := ⟨ht.map h.map hF, h.key⟩
theorem SiMap.below (h : SiMap w m N D f) (hb : Below w.heap.size w w') : SiMap w' m N D f := h.turned (F := fun _ => False) (Turns.of_below hb (Nat.le_refl _)) (fun h => h)
theorem SiMap.new (w : World) : SiMap (w.alloc (.map #[] 0)) w.heap.size 0 (.map []) (fun _ => none) := ⟨World.ownsMap_made w _ _ _, fun s _ => by rw [look_empty]; rfl⟩
theorem Try.zeroIntS (w : World) : (zeroValue 3).run Try.prog w = .ok (.int .i64 0) w := by kernel_rfl
theorem SiMap.lookup (h : SiMap w m N D f) {s : ByteArray} (hs : s.size ≤ maxLen) : (Instr.lookup 58 (.map (some m)) (.string s) false).run Try.prog w = .ok (.int .i64 ((f s).getD 0)) w := by
  have := run_look h.map Try.keyedStr Try.underlying58 (Try.zeroIntS w) (Try.keyStr hs)
  rw [h.key s hs] at this
  rw [this]
  cases f s <;> rfl
theorem SiMap.put (h : SiMap w m N D f) (hN : N < maxLen) {s : ByteArray} (hs : s.size ≤ maxLen) (i : Int) :
    ∃ w', (Instr.mapUpdate 58 (.map (some m)) (.string s) (.int .i64 i)).run Try.prog w = .ok () w' ∧ (∃ D', SiMap w' m (N + 1) D' (fun t => if t = s then some i else f t)) ∧ Turns (fun k => k = m) w w' := by
  obtain ⟨w', hrun, hown, hturn⟩ := h.map.store Try.keyedStr Try.underlying58 hN (Try.keyStr hs) (show valR (.int .i64 i) = some (.held (.int .i64 i), []) from rfl)
  refine ⟨w', hrun, ⟨_, hown, fun t ht => ?_⟩, Turns.of_grown (F := fun k => k = m) hturn.grown (fun k hk => by cases hk; rfl)⟩
  by_cases e : t = s
  · subst e
    rw [look_put_same h.map.isMap (Try.keyedStr.key (Try.keyStr ht)), if_pos rfl]
    rfl
  · rw [look_put_other (fun k => e (key_inj k)), if_neg e]
    exact h.key t ht
theorem SiMap.congr {f' : ByteArray → Option Int} (h : SiMap w m N D f) (he : ∀ s, f s = f' s) : SiMap w m N D f' := ⟨h.map, fun s hs => by rw [h.key s hs, he]⟩
end

/-- A machine in memory: its block p, its row v of orders, its maps mi (of tokens) and me (of carts); all of them behind B. -/
structure SmAt (B : Nat) (w : World) (p mi me : Nat) (v : Value) (g : Sm) : Prop where
  ok : SmOk g
  blk : Blk w p 60 [v, .map (some mi), .map (some me), .int .i64 g.dn]
  row : ∃ xs : List OrM, xs.map (·.e) = g.os ∧ w.ownsRow B 32 5 v g.os.length (flatO xs) ∧ AllO w xs
  ids : ∃ N D, N ≤ g.os.length ∧ SiMap w mi N D (idF g)
  eps : ∃ N D, N ≤ g.os.length ∧ SiMap w me N D (epF g)
  ne : mi ≠ me
  bp : B ≤ p
  bi : B ≤ mi
  be : B ≤ me
def FootM (p mi me : Nat) (v : Value) (i : Nat) : Prop := i = p ∨ i = mi ∨ i = me ∨ v.ownBlock = some i
section
variable {B : Nat} {w w' : World} {p mi me : Nat} {v : Value} {g : Sm}
theorem SmAt.turned {F : Nat → Prop} (h : SmAt B w p mi me v g) (ht : Turns F w w') (hd : ∀ i, FootM p mi me v i → ¬ F i) (hF : NoN w F) : SmAt B w' p mi me v g := by
  obtain ⟨xs, h1, h2, h3⟩ := h.row
  obtain ⟨N, D, h4, h5⟩ := h.ids
  obtain ⟨N', D', h6, h7⟩ := h.eps
  exact ⟨h.ok, ht.blk h.blk (hd p (.inl rfl)), ⟨xs, h1, ht.row h2 (fun k hk => hd k (.inr (.inr (.inr hk)))), h3.turned hF ht⟩, ⟨N, D, h4, h5.turned ht (hd mi (.inr (.inl rfl)))⟩, ⟨N', D', h6, h7.turned ht (hd me (.inr (.inr (.inl rfl))))⟩, h.ne, h.bp, h.bi, h.be⟩
theorem SmAt.below (h : SmAt B w p mi me v g) (hb : Below w.heap.size w w') : SmAt B w' p mi me v g := h.turned (F := fun _ => False) (Turns.of_below hb (Nat.le_refl _)) (fun _ _ h => h) (noN_none w)
theorem SmAt.lt (h : SmAt B w p mi me v g) : ∀ i, FootM p mi me v i → i < w.heap.size := by
  obtain ⟨xs, h1, h2, h3⟩ := h.row
  obtain ⟨N, D, h4, h5⟩ := h.ids
  obtain ⟨N', D', h6, h7⟩ := h.eps
  rintro i (rfl | rfl | rfl | hi)
  · exact h.blk.lt
  · exact h5.map.lt
  · exact h7.map.lt
  · exact ownsRow_lt h2 hi
theorem SmAt.base (h : SmAt B w p mi me v g) : ∀ i, FootM p mi me v i → B ≤ i := by
  obtain ⟨xs, h1, h2, h3⟩ := h.row
  rintro i (rfl | rfl | rfl | hi)
  · exact h.bp
  · exact h.bi
  · exact h.be
  · exact (h2.lt i hi).1
theorem SmAt.noN (h : SmAt B w p mi me v g) : NoN w (FootM p mi me v) := by
  obtain ⟨xs, h1, h2, h3⟩ := h.row
  obtain ⟨N, D, h4, h5⟩ := h.ids
  obtain ⟨N', D', h6, h7⟩ := h.eps
  rintro i (rfl | rfl | rfl | hi)
  · exact noN_blk h.blk (by decide) _ rfl
  · exact noN_map h5.map _ rfl
  · exact noN_map h7.map _ rfl
  · exact noN_row h2 (by decide) _ hi
theorem SmAt.cells (h : SmAt B w p mi me v g) : w.cell? ⟨p, 0, none⟩ = some v ∧ w.cell? ⟨p, 1, none⟩ = some (.map (some mi)) ∧ w.cell? ⟨p, 2, none⟩ = some (.map (some me)) ∧ w.cell? ⟨p, 3, none⟩ = some (.int .i64 g.dn) := ⟨h.blk.cell (i := 0) rfl, h.blk.cell (i := 1) rfl, h.blk.cell (i := 2) rfl, h.blk.cell (i := 3) rfl⟩
end
end Go.Proofs.Ytfokmldfnkonpaa
