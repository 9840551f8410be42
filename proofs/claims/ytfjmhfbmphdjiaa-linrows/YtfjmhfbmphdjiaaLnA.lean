/-
  Sights (api.Seen) in memory: what a slice of them holds ('HeldSn'), what append makes of one, how an argument of type []api.Seen and one of type []string is read. No function of the program is named here.
-/
import Derived.Test.YtfjmhfbmphdjiaaStrKey
import Derived.SliceStrings
namespace Go.Proofs.Ytfjmhfbmphdjiaa
open Go.RowKit Go.ChangeShapes Go.WideShapes Go.Deep Go.Maps

structure Sn where
  co : Bool
  tok : ByteArray
  b : Int
  e : Int
  id : Int
  deriving DecidableEq
def zeroSn : Sn := ⟨false, ⟨#[]⟩, 0, 0, 0⟩
instance : Inhabited Sn := ⟨zeroSn⟩
def Sn.cells (x : Sn) : List Value := [.bool x.co, .string x.tok, .int .i64 x.b, .int .i64 x.e, .int .i64 x.id]
abbrev Sn.val (x : Sn) : Value := .agg #[.bool x.co, .string x.tok, .int .i64 x.b, .int .i64 x.e, .int .i64 x.id]
structure SnOk (x : Sn) : Prop where
  ht : x.tok.size ≤ maxLen
  ib : I64 x.b
  ie : I64 x.e
  ii : I64 x.id
def AllSn (xs : List Sn) : Prop := ∀ x ∈ xs, SnOk x
/-- A slice of sights holds xs. -/
def HeldSn (w : World) (ao : Option Addr) (xs : List Sn) : Prop :=
  AllSn xs ∧ (xs = [] ∨ ∃ b off, ao = some ⟨b, off, none⟩ ∧ b < w.heap.size ∧ ∀ j (hj : j < xs.length) c u, xs[j].cells[c]? = some u → w.cell? ⟨b, off + j * 5 + c, none⟩ = some u)
theorem HeldSn.below {w w' : World} {ao : Option Addr} {xs : List Sn} (h : HeldSn w ao xs) (hb : Below w.heap.size w w') : HeldSn w' ao xs := by
  refine ⟨h.1, ?_⟩
  rcases h.2 with h0 | ⟨b, off, h1, h2, h3⟩
  · exact .inl h0
  · exact .inr ⟨b, off, h1, Nat.lt_of_lt_of_le h2 hb.size, fun j hj c u hu => (hb.cell (p := ⟨b, off + j * 5 + c, none⟩) h2).trans (h3 j hj c u hu)⟩
theorem HeldSn.at {w : World} {ao : Option Addr} {xs : List Sn} (h : HeldSn w ao xs) {j : Nat} (hj : j < xs.length) : ∃ b off, ao = some ⟨b, off, none⟩ ∧ b < w.heap.size ∧ w.cell? ⟨b, off + j * 5, none⟩ = some (.bool xs[j].co) ∧ w.cell? ⟨b, off + j * 5 + 1, none⟩ = some (.string xs[j].tok) ∧
    w.cell? ⟨b, off + j * 5 + 2, none⟩ = some (.int .i64 xs[j].b) ∧ w.cell? ⟨b, off + j * 5 + 3, none⟩ = some (.int .i64 xs[j].e) ∧ w.cell? ⟨b, off + j * 5 + 4, none⟩ = some (.int .i64 xs[j].id) := by
  rcases h.2 with h0 | ⟨b, off, h1, h2, h3⟩
  · subst h0
    cases hj
  · exact ⟨b, off, h1, h2, h3 j hj 0 _ rfl, h3 j hj 1 _ rfl, h3 j hj 2 _ rfl, h3 j hj 3 _ rfl, h3 j hj 4 _ rfl⟩
theorem HeldSn.sub {w : World} {ao : Option Addr} {xs : List Sn} (h : HeldSn w ao xs) (k : Nat) : HeldSn w ao (xs.take k) := by
  refine ⟨fun x hx => h.1 x (List.mem_of_mem_take hx), ?_⟩
  rcases h.2 with h0 | ⟨b, off, h1, h2, h3⟩
  · left; simp [h0]
  · refine .inr ⟨b, off, h1, h2, fun j hj c u hu => h3 j (by simp at hj; omega) c u ?_⟩
    rw [List.getElem_take] at hu
    exact hu
def flatN (xs : List Sn) : List Value := xs.flatMap Sn.cells
theorem flatN_append (a b : List Sn) : flatN (a ++ b) = flatN a ++ flatN b := by simp [flatN]
theorem flatN_snoc (xs : List Sn) (x : Sn) : flatN (xs ++ [x]) = flatN xs ++ x.cells := by simp [flatN]
theorem flatN_len : ∀ xs : List Sn, (flatN xs).length = xs.length * 5
  | [] => rfl
  | x :: r => by
    have := flatN_len r
    unfold flatN at this ⊢
    rw [List.flatMap_cons, List.length_append, this, List.length_cons]
    show 5 + _ = _
    omega
theorem flatN_get : ∀ (xs : List Sn) (j : Nat) (hj : j < xs.length) (c : Nat) (u : Value), xs[j].cells[c]? = some u → (flatN xs)[j * 5 + c]? = some u
  | [], j, hj, _, _, _ => by cases hj
  | x :: r, 0, _, c, u, h => by
    simp only [List.getElem_cons_zero] at h
    have hc : c < 5 := (List.getElem?_eq_some_iff.1 h).1
    unfold flatN
    rw [List.flatMap_cons, Nat.zero_mul, Nat.zero_add, List.getElem?_append_left (show c < 5 from hc)]
    exact h
  | x :: r, j + 1, hj, c, u, h => by
    simp only [List.getElem_cons_succ] at h
    have := flatN_get r j (by simpa using hj) c u h
    unfold flatN at this ⊢
    rw [List.flatMap_cons, List.getElem?_append_right (show x.cells.length ≤ _ by show 5 ≤ _; omega)]
    rw [show (j + 1) * 5 + c - x.cells.length = j * 5 + c by show _ - 5 = _; omega]
    exact this
theorem heldSn_of_own {w : World} {B : Nat} {v : Value} {xs : List Sn} {n : Nat} (hn : xs.length = n) (h : w.ownsRow B 31 5 v n (flatN xs)) (hx : AllSn xs) : ∃ ao cap, v = .slice ao n cap ∧ n ≤ cap ∧ HeldSn w ao xs := by
  subst hn
  obtain ⟨eo, cap, rfl, hnc, hc⟩ := own_form8 h
  refine ⟨eo, cap, rfl, hnc, hx, ?_⟩
  by_cases h0 : xs = []
  · exact .inl h0
  · obtain ⟨g, rfl, _, hg, hcell⟩ := hc (List.length_pos_iff.2 h0)
    refine .inr ⟨g, 0, rfl, hg, fun j hj c u hu => ?_⟩
    rw [Nat.zero_add]
    exact hcell _ _ (flatN_get xs j hj c u hu)
theorem Try.infoSn : (Try.prog.info? 31).map (fun i => (i.zero, i.size, i.bytes)) = some (some (.agg #[.bool false, .string ⟨#[]⟩, .int .i64 0, .int .i64 0, .int .i64 0]), 5, 48) := by kernel_rfl
theorem sn_one (x : Sn) : ∀ u ∈ x.cells, u.oneCell' = true := by
  intro u hu
  simp [Sn.cells] at hu
  rcases hu with rfl | rfl | rfl | rfl | rfl <;> rfl
theorem flatN_one (xs : List Sn) : ∀ u ∈ flatN xs, u.oneCell' = true := by
  intro u hu
  obtain ⟨x, _, hx⟩ := List.mem_flatMap.1 hu
  exact sn_one x u hx
theorem flatN_at {xs : List Sn} {i : Nat} {u : Value} (h : (flatN xs)[i]? = some u) : ∃ j, ∃ hj : j < xs.length, ∃ c, c < 5 ∧ i = j * 5 + c ∧ xs[j].cells[c]? = some u := by
  have hi : i < xs.length * 5 := by rw [← flatN_len]; exact (List.getElem?_eq_some_iff.1 h).1
  have hj : i / 5 < xs.length := by omega
  have hc : i % 5 < (xs[i / 5]).cells.length := by show _ < 5; omega
  refine ⟨i / 5, hj, i % 5, by omega, by omega, ?_⟩
  have h2 := flatN_get xs (i / 5) hj (i % 5) _ (List.getElem?_eq_getElem hc)
  rw [show i / 5 * 5 + i % 5 = i by omega, h] at h2
  rw [List.getElem?_eq_getElem hc, Option.some.inj h2]
theorem HeldSn.news {w : World} {ad : Addr} {xs : List Sn} (h : HeldSn w (some ad) xs) : ∀ j u, (flatN xs)[j]? = some u → w.cell? (ad.add j) = some u := by
  intro i u hu
  obtain ⟨j, hj, c, _, rfl, hc⟩ := flatN_at hu
  rcases h.2 with h0 | ⟨b, off, e, _, h3⟩
  · subst h0
    cases hj
  · cases e
    have := h3 j hj c u hc
    rw [Addr.add_lit, ← Nat.add_assoc]
    exact this
/-- append(out, s), s in a block made just ahead of it. -/
theorem wpList_append_sn {ops : Array Oper} {rest : List Oper} {o : Oper} {a : Act} {Q : Exit → Act → World → Prop} (W0 W : World) (x : Sn) (hW : W = W0.alloc (.cells x.cells.toArray 31)) (hgd : o.guard = none) (s xx : Operand)
    (ho : o.op = .call { callee := .builtin .append, args := #[s, xx], argTypes := #[22, 22] }) (B : Nat) (v : Value) (ds : List Sn) (n : Nat) (hn : ds.length = n)
    (hs : a.eval s = v) (g : Nat) (hx : a.eval xx = .slice (some ⟨g, 0, none⟩) 1 1) (hg : g = W0.heap.size) (hown : W0.ownsRow B 31 5 v n (flatN ds)) (hB : B ≤ W0.heap.size) (hl : n < 2932031007402)
    (h : ∀ v' w', w'.ownsRow B 31 5 v' (n + 1) (flatN (ds ++ [x])) → Below B W0 w' → W.grownBy w' v.ownBlock → wpList Try.prog ops Q rest (a.put o.dst v') w') :
    wpList Try.prog ops Q (o :: rest) a W := by
  subst hW
  subst hg
  obtain ⟨iI, hj, hy0, hy1, hy2⟩ := info_parts Try.infoSn
  have hnb := Blk.new W0 31 x.cells
  refine wpList_append_own_at _ hgd s xx 22 ho B 31 iI _ 5 48 Try.underlying22 hj hy0 hy1 hy2 rfl (by decide) v n (flatN ds) hs (hown.alloc _) ⟨W0.heap.size, 0, none⟩ 1 1 x.cells hx rfl (fun j u hu => ?_) (sn_one x) (by unfold maxLen; omega) (by omega) (by simp; omega) ?_
  · rw [Addr.add_lit, Nat.zero_add]
    exact hnb.cell hu
  · intro v' w' hown' hgrow _ _
    refine h v' w' ?_ (((Below.refl _ _).alloc hB _).grown hgrow (by simp; omega) (fun k hk => (hown.lt k hk).1)) hgrow
    rw [flatN_snoc]
    exact hown'

/-- A slice of strings holds ls. -/
def HeldStr (w : World) (ao : Option Addr) (ls : List ByteArray) : Prop :=
  (∀ s ∈ ls, s.size ≤ maxLen) ∧ (ls = [] ∨ ∃ b off, ao = some ⟨b, off, none⟩ ∧ b < w.heap.size ∧ ∀ j, j < ls.length → w.cell? ⟨b, off + j, none⟩ = some (.string (ls.getD j ByteArray.empty)))
theorem HeldStr.below {w w' : World} {ao : Option Addr} {ls : List ByteArray} (h : HeldStr w ao ls) (hb : Below w.heap.size w w') : HeldStr w' ao ls := by
  refine ⟨h.1, ?_⟩
  rcases h.2 with h0 | ⟨b, off, h1, h2, h3⟩
  · exact .inl h0
  · exact .inr ⟨b, off, h1, Nat.lt_of_lt_of_le h2 hb.size, fun j hj => (hb.cell (p := ⟨b, off + j, none⟩) h2).trans (h3 j hj)⟩
theorem HeldStr.at {w : World} {ao : Option Addr} {ls : List ByteArray} (h : HeldStr w ao ls) {j : Nat} (hj : j < ls.length) : ∃ b off, ao = some ⟨b, off, none⟩ ∧ b < w.heap.size ∧ w.cell? ⟨b, off + j, none⟩ = some (.string (ls.getD j ByteArray.empty)) := by
  rcases h.2 with h0 | ⟨b, off, h1, h2, h3⟩
  · subst h0
    cases hj
  · exact ⟨b, off, h1, h2, h3 j hj⟩
theorem HeldStr.sizeD {w : World} {ao : Option Addr} {ls : List ByteArray} (h : HeldStr w ao ls) {j : Nat} (hj : j < ls.length) : (ls.getD j ByteArray.empty).size ≤ maxLen := by
  simp only [List.getD, List.getElem?_eq_getElem hj, Option.getD]
  exact h.1 _ (List.getElem_mem hj)
theorem open_strs {H : Type} {enc : TypeId × Value → H} {w : World} {base : Nat} {held : Bool} {ao : Option Addr} {len cap : Nat} {d : DataW H} {p : List MemPlace} (h : DataW.Trod enc Try.prog w base (fun _ => true) held 23 (.slice ao len cap) d p) :
    ∃ ls, ls.length = len ∧ HeldStr w ao ls ∧ (len = 0 ∨ ∃ es sp, d = .slice es sp ∧ es.length = len) := by
  obtain ⟨fuel, hf⟩ := h
  rcases open_strings Try.underlying23 Try.underlying9 (by kernel_rfl) hf with ⟨hcs, _⟩ | ⟨x, l, c, zs, hcs, _, hl, hm, hz, hx, hcell, hwz⟩
  · simp [Value.cells] at hcs
    obtain ⟨rfl, rfl, rfl⟩ := hcs
    exact ⟨[], rfl, ⟨fun s hs => (by cases hs), .inl rfl⟩, .inl rfl⟩
  · simp [Value.cells] at hcs
    obtain ⟨rfl, rfl, rfl⟩ := hcs
    have hz' : zs.length = cap := by simpa using hz
    refine ⟨zs.take len, by simp; omega, ⟨fun s hs => hwz s (List.mem_of_mem_take hs), ?_⟩, ?_⟩
    · by_cases h0 : len = 0
      · left
        simp [h0]
      · right
        obtain ⟨b, off, rfl, hb⟩ := plain_addr (hcell 0 (by omega))
        refine ⟨b, off, rfl, hb, fun j hj => ?_⟩
        simp at hj
        have := hcell j (by omega)
        rw [Addr.add_lit] at this
        rw [this]
        simp [List.getD, List.getElem?_take_of_lt (show j < len by omega)]
    · simp only [Prod.mk.injEq] at hx
      right
      exact ⟨_, _, hx.1, by simp [strs]; omega⟩
theorem Try.cellsSn : Try.prog.cellsOf 31 = 5 := by kernel_rfl
theorem arr5S {α : Type} {cs : List α} (h : cs.length = 5) : ∃ c0 c1 c2 c3 c4, cs = [c0, c1, c2, c3, c4] := by
  match cs, h with
  | [c0, c1, c2, c3, c4], _ => exact ⟨c0, c1, c2, c3, c4, rfl⟩
theorem i64_wfS {x : Int} (h : (Lit.int .i64 x).wf = true) : I64 x := by
  simp [Lit.wf, IntKind.min, IntKind.max, IntKind.signed, IntKind.bits] at h
  exact ⟨by omega, by omega⟩
set_option maxRecDepth 100000 in
theorem sn_sized {H : Type} {enc : TypeId × Value → H} {w : World} {base : Nat} {held : Bool} {fuel : Nat} {cs : List Value} {x : DataW H × List MemPlace} (h : DataW.trod enc Try.prog w base (fun _ => true) held fuel 31 cs = some x) :
    ∃ o : Sn, cs = o.cells ∧ SnOk o := by
  obtain ⟨xs, n, _, hxe, hl, hlen, hf⟩ := DataW.trod_struct Try.underlying31 h
  rw [Try.cellsSn] at hl
  obtain ⟨c0, c1, c2, c3, c4, rfl⟩ := arr5S hl
  obtain ⟨y0, y1, y2, y3, y4, rfl⟩ := arr5S hlen
  have g : ∀ (i : Nat) (f : Field), (#[_, _, _, _, _] : Array Field)[i]? = some f → _ := hf
  have h0 := g 0 _ rfl
  have h1 := g 1 _ rfl
  have h2 := g 2 _ rfl
  have h3 := g 3 _ rfl
  have h4 := g 4 _ rfl
  have k3 : Try.prog.cellsOf 3 = 1 := by kernel_rfl
  have k4 : Try.prog.cellsOf 4 = 1 := by kernel_rfl
  have k9 : Try.prog.cellsOf 9 = 1 := by kernel_rfl
  simp [k3, k4, k9] at h0 h1 h2 h3 h4
  obtain ⟨a0, e0, _⟩ := DataW.trod_bool Try.underlying4 h0
  obtain ⟨a1, e1, _, w1⟩ := DataW.trod_string Try.underlying9 h1
  obtain ⟨a2, e2, _, w2⟩ := DataW.trod_int Try.underlying3 h2
  obtain ⟨a3, e3, _, w3⟩ := DataW.trod_int Try.underlying3 h3
  obtain ⟨a4, e4, _, w4⟩ := DataW.trod_int Try.underlying3 h4
  simp at e0 e1 e2 e3 e4
  subst e0 e1 e2 e3 e4
  exact ⟨⟨a0, a1, a2, a3, a4⟩, rfl, ⟨w1, i64_wfS w2, i64_wfS w3, i64_wfS w4⟩⟩
set_option maxRecDepth 100000 in
theorem open_sns {H : Type} {enc : TypeId × Value → H} {w : World} {base : Nat} {held : Bool} {ao : Option Addr} {len cap : Nat} {d : DataW H} {p : List MemPlace} (h : DataW.Trod enc Try.prog w base (fun _ => true) held 22 (.slice ao len cap) d p) :
    ∃ os : List Sn, os.length = len ∧ (HeldSn w ao os ∧ len ≤ cap) ∧ (len = 0 ∨ ∃ es sp, d = .slice es sp ∧ es.length = len) := by
  obtain ⟨fuel, hf⟩ := h
  rcases open_slice Try.underlying22 hf with ⟨hcs, hx⟩ | ⟨a, l, c, m, n, Dd, Pl, hcs, _, hl, hm, hmm, hx, hall⟩
  · simp [Value.cells] at hcs
    obtain ⟨rfl, rfl, rfl⟩ := hcs
    exact ⟨[], rfl, ⟨⟨fun o ho => (by cases ho), .inl rfl⟩, Nat.le_refl _⟩, .inl rfl⟩
  · simp [Value.cells] at hcs
    obtain ⟨rfl, rfl, rfl⟩ := hcs
    rw [Try.cellsSn] at hall
    have hlm : len ≤ m := by rw [hmm]; split <;> omega
    simp only [Prod.mk.injEq] at hx
    obtain ⟨O, hO⟩ := choose_lt (α := Sn) (n := len) (p := fun i o => SnOk o ∧ w.cells? base (a.add (i * 5)) 5 = some o.cells) (fun i hi => by
      obtain ⟨cs', h1, h2⟩ := hall i (by omega)
      obtain ⟨o, rfl, hok⟩ := sn_sized h2
      exact ⟨o, hok, h1⟩)
    refine ⟨(List.range len).map O, by simp, ⟨⟨fun o ho => ?_, ?_⟩, hl⟩, .inr ⟨_, _, hx.1, by simp⟩⟩
    · obtain ⟨i, hi, rfl⟩ := List.mem_map.1 ho
      exact (hO i (List.mem_range.1 hi)).1
    · by_cases h0 : len = 0
      · left
        simp [h0]
      · right
        have hc0 : ∀ i, i < len → ∀ c u, (O i).cells[c]? = some u → w.cell? (a.add (i * 5 + c)) = some u := by
          intro i hi c u hu
          have hc := (World.cells?_some (hO i hi).2).2.2 c (by have := (List.getElem?_eq_some_iff.1 hu).1; simpa [Sn.cells] using this)
          rw [add_add] at hc
          rw [hc, hu]
        obtain ⟨b, off, spot⟩ := a
        have hz := hc0 0 (by omega) 0 _ rfl
        have hspot : spot = none := by simpa [Addr.add] using World.cell?_spot hz
        subst hspot
        have hlt := World.block_lt_of_cell? w _ hz
        refine ⟨b, off, rfl, by simpa [Addr.add] using hlt, fun j hj c u hu => ?_⟩
        have hj' : j < len := by simpa using hj
        have := hc0 j hj' c u (by simpa using hu)
        rwa [Addr.add_lit, ← Nat.add_assoc] at this
end Go.Proofs.Ytfjmhfbmphdjiaa
