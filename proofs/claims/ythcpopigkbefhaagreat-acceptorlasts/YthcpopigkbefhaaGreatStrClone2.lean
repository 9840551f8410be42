/-
  What the texts on learners want of the library: slices.Sort and slices.Equal of ints, maps with numbers as keys; worlds behind another.
-/
import Derived.Test.YthcpopigkbefhaaGreatScLa
import Derived.Shelf.Sort.Plain
import Derived.Sort.OwnSortedInts
import Derived.Shelf.Lay
import Derived.Ground.NamesProg
import Derived.Test.YthcpopigkbefhaaGreatRows
import Derived.Test.YthcpopigkbefhaaGreatTexts
import Derived.Test.YthcpopigkbefhaaGreatBase
import Derived.Lib.BufferWrite
import Derived.Lib.UnsafeStr
import Derived.Laws.MakeOwn
namespace Go.Proofs
open Go.Shelf Go.RowKit Go.Lib Go.Sort
shelf_lay Lays.n189 Nm 189 at Tryz as YthcpopigkbefhaaGreat.sortIntsL
end Go.Proofs
namespace Go.Proofs.YthcpopigkbefhaaGreat
open Go.Shelf Go.RowKit Go.Lib Go.Sort

theorem sortL_row {w : World} {B g cap : Nat} {zs : List Int} (hown : w.ownsRow B 3 1 (.slice (some ⟨g, 0, none⟩) zs.length cap) zs.length (ints zs)) (hl : zs.length ≤ 17592186044416) :
    Calls Tryz.prog 41 #[.slice (some ⟨g, 0, none⟩) zs.length cap] w fun e w' => e = .returned (.tuple #[]) ∧ w'.ownsRow B 3 1 (.slice (some ⟨g, 0, none⟩) zs.length cap) zs.length (ints (zs.mergeSort fun x y => decide (x ≤ y))) ∧ Turns (fun i => i = g) w w' := by
  rcases hown.2 with ⟨h0, _⟩ | ⟨g', cap', cur, he, hB, hg, hn, hm, hsz, htk⟩
  · cases h0
  · cases he
    have hH : Holds (Value.int .i64) w g 0 zs.toArray := holds_of_blockI hg (by rw [Nat.mul_one] at htk; exact htk)
    have hcon := Any.slices_Sort_int sortIntsL g 0 cap zs w hH (Array.getElem?_eq_some_iff.1 hg).1 (by omega)
    change Calls Tryz.prog 41 _ _ _ at hcon
    refine hcon.mono ?_
    rintro e w' ⟨rfl, n, os, rfl⟩
    have hlen : (zs.mergeSort fun x y => decide (x ≤ y)).length = zs.length := List.length_mergeSort _
    exact ⟨rfl, ownsRow_sortedI hlen hB hg hn hm hsz, Turns.of_grown (grownBy_sortedI _) (fun k hk => by cases hk; rfl)⟩

open Go.Maps
set_option maxRecDepth 100000 in
theorem equalL_any (w : World) (ao bo : Option Addr) (ca cb : Nat) (a b : List Int) (m n : Nat) (hm : a.length = m) (hn : b.length = n) (ha : HV w ao ca a) (hb : HV w bo cb b) :
    Calls Tryz.prog 89 #[.slice ao m ca, .slice bo n cb] w fun e w' => e = .returned (.bool (decide (a = b))) ∧ ∃ q, w' = w.drewN q := by
  by_cases hmn : m = n
  · subst hmn
    have HA := hid ha.held
    have HB := hid hb.held
    have hfa := ha.few
    rw [hm] at hfa
    have HM := hid hm
    have HN := hid hn
    clear ha hb hm hn
    go_enter Tryz.func89, Tryz.ntmps89
    go_wp2
    go_loopw [5, 13] (fun _ i wr => ∃ k : Nat, k ≤ m ∧ i = .int .i64 k ∧ Hid ((∃ q, wr = w.drewN q) ∧ ∀ j, j < k → a.getD j 0 = b.getD j 0)) (fun _ i _ => m - (intOf i).toNat)
    case atStart => exact ⟨0, Nat.zero_le _, rfl, ⟨0, rfl⟩, fun j hj => absurd hj (Nat.not_lt_zero _)⟩
    case round =>
      obtain ⟨k, hk, rfl, HR⟩ := hrel
      by_cases hlt : k < m
      · have hlt' : (k : Int) < (m : Int) := by omega
        obtain ⟨q, hq⟩ := HR.out.1
        have hka : k < a.length := by rw [HM.out]; exact hlt
        have hkb : k < b.length := by rw [HN.out]; exact hlt
        obtain ⟨b1, o1, rfl, hc1⟩ := HA.out.cellAt hka
        obtain ⟨b2, o2, rfl, hc2⟩ := HB.out.cellAt hkb
        have c1 : wr.cell? ⟨b1, o1 + k, none⟩ = some (.int .i64 (a.getD k 0)) := by rw [hq]; exact hc1 k hka
        have c2 : wr.cell? ⟨b2, o2 + k, none⟩ = some (.int .i64 (b.getD k 0)) := by rw [hq]; exact hc2 k hkb
        have HKB := hid hkb
        have HKA := hid hka
        have HQ := hid hq
        clear hc1 hc2 hka hkb hq
        obtain ⟨X, HX⟩ : ∃ X, Hid (a.getD k 0 = X) := ⟨_, hid rfl⟩
        obtain ⟨Y, HY⟩ : ∃ Y, Hid (b.getD k 0 = Y) := ⟨_, hid rfl⟩
        rw [HX.out] at c1
        rw [HY.out] at c2
        by_cases hxy : X = Y
        · have hb : (X != Y) = false := by simp [hxy]
          have HXY := hid hxy
          clear hxy
          go_wp2
          go_quiet (fail)
          all_goals
            go_wp2
            go_roundw
            case rel => exact ⟨k + 1, by omega, by go_num, ⟨_, by rw [HQ.out, drewN_add]⟩, eq_stepB HR.out.2 (by rw [HX.out, HY.out, HXY.out])⟩
            case measure => simp [intOf]; omega
        · have hb : (X != Y) = true := by simp [hxy]
          have HXY := hid hxy
          clear hxy
          go_wp2
          go_quiet (fail)
          all_goals
            go_wp2
            go_ret
            refine ⟨?_, _, by rw [HQ.out, drewN_add]⟩
            have : ¬ a = b := fun h => HXY.out (by rw [← HX.out, ← HY.out, h])
            rw [decide_eq_false this]
            rfl
      · have hlt' : ¬ (k : Int) < (m : Int) := by omega
        go_wp2
        go_ret
        refine ⟨?_, HR.out.1⟩
        rw [decide_eq_true (eq_of_getDB (by rw [HM.out, HN.out]) (by rw [HM.out]; exact hlt) HR.out.2)]
        rfl
  · have hne : ((m : Int) != (n : Int)) = true := by simp; omega
    have HE : Hid (decide (a = b) = false) := decide_eq_false (fun h => hmn (by rw [← hm, ← hn, h]))
    clear ha hb hm hn
    rw [HE.out]
    go_enter Tryz.func89, Tryz.ntmps89
    go_wp2
    go_ret
    exact ⟨rfl, 0, rfl⟩
theorem Tryz.keyedIntL : Keyed Tryz.prog 3 := int_keyed Tryz.underlying3
theorem wf64L {x : Int} (h : I64 x) : (Lit.int .i64 x).wf = true := by
  unfold I64 at h
  simp [Lit.wf, IntKind.min, IntKind.max, IntKind.signed, IntKind.bits]
  omega
theorem Tryz.keyIntL {x : Int} (h : I64 x) : keyOf Tryz.prog 3 (.int .i64 x) = some (.int .i64 x) := keyOf_int_mk Tryz.underlying3 (wf64L h)
theorem keyIntL_inv {k : Value} {kl : Lit} (h : keyOf Tryz.prog 3 k = some kl) : ∃ x, k = .int .i64 x ∧ kl = .int .i64 x ∧ I64 x := by
  obtain ⟨x, rfl, rfl, hw⟩ := Maps.keyOf_int_inv Tryz.underlying3 h
  refine ⟨x, rfl, rfl, ?_⟩
  unfold I64
  simp [Lit.wf, IntKind.min, IntKind.max, IntKind.signed, IntKind.bits] at hw
  omega
theorem keyIntL_ne {x y : Int} (h : x ≠ y) : (Lit.int .i64 x) ≠ .int .i64 y := fun e => by cases e; exact h rfl
theorem keyIntL_same (x y : Int) : (Lit.int .i64 x).sameKey (.int .i64 y) = decide (x = y) := by
  by_cases h : x = y
  · subst h
    rw [decide_eq_true rfl]
    exact WideAt.sameKey_self (by simp [WideAt.IsKeyLit])
  · rw [decide_eq_false h]
    exact sameKey_ne (fun e => h (by cases e; rfl))
section
variable (w : World) {ops : Array Oper} {rest : List Oper} {o : Oper} {a : Act} {Q : Exit → Act → World → Prop}
/-- The step of a range over a map with numbers as keys. -/
theorem wpList_next_intL (hg : o.guard = none) (it : Operand) (hop : o.op = Op.next it false) (b r n : Nat) (D : DataW Value) (left : Lit → Bool) (cnt : Nat)
    (hit : a.eval it = .pointer (some ⟨r, 0, none⟩)) (h : w.ranges Tryz.prog 3 valR b r n D left cnt)
    (hDone : cnt = 0 → (∀ kl, left kl = false) → wpList Tryz.prog ops Q rest (a.put o.dst (.tuple #[.bool false])) w)
    (hMore : ∀ (s : Int) (v : Value) (w' : World) (cnt' : Nat), I64 s → look D (.int .i64 s) = some v → left (.int .i64 s) = true → w'.ranges Tryz.prog 3 valR b r n D (fun z => left z && !z.sameKey (.int .i64 s)) cnt' → cnt' < cnt → w.grownBy w' (some r) → w'.heap.size = w.heap.size →
      (Instr.entry (.pointer (some ⟨r, 0, none⟩))).run Tryz.prog w' = .ok (.tuple #[.int .i64 s, v]) w' → wpList Tryz.prog ops Q rest (a.put o.dst (.tuple #[.bool true, .int .i64 s, v])) w') :
    wpList Tryz.prog ops Q (o :: rest) a w := by
  refine wpList_plain hg fun K' hK' => ?_
  unfold Oper.wp
  rcases h.next Tryz.keyedIntL o.type with ⟨h0, hl, hrun⟩ | ⟨k, v, kl, y, w', cnt', hkey, hlk, hv, hat, hrun, hrg, hlt, hgr, hsz, hen⟩
  · simp [execOp, hop, hit, hrun, Result.andThen]
    exact hK' _ _ (hDone h0 hl)
  · obtain ⟨s, rfl, rfl, hs⟩ := keyIntL_inv hkey
    unfold valR at hv
    cases hv
    simp [execOp, hop, hit, hrun, Result.andThen]
    exact hK' _ _ (hMore s v w' cnt' hs (look_at hat) hlk hrg hlt hgr hsz hen)
end
/-- Which keys have come of a map, and what is left. -/
structure CollK (D : DataW Value) (left : Lit → Bool) (ss : List Int) : Prop where
  nodup : ss.Nodup
  come : ∀ s ∈ ss, I64 s ∧ (look D (.int .i64 s)).isSome = true ∧ left (.int .i64 s) = false
  rest : ∀ s, I64 s → (look D (.int .i64 s)).isSome = true → left (.int .i64 s) = false → s ∈ ss
theorem CollK.start {D : DataW Value} (hD : AllHeld D) : CollK D (Maps.has D) [] :=
  ⟨.nil, fun _ h => (by cases h), fun s _ h1 h2 => by rw [has_look hD, h1] at h2; cases h2⟩
theorem CollK.step {D : DataW Value} {left : Lit → Bool} {ss : List Int} (h : CollK D left ss) {s : Int} {v : Value} (hs : I64 s) (hl : left (.int .i64 s) = true) (hv : look D (.int .i64 s) = some v) : CollK D (fun z => left z && !z.sameKey (.int .i64 s)) (ss ++ [s]) := by
  have hn : s ∉ ss := fun hm => by
    have := (h.come s hm).2.2
    rw [hl] at this
    cases this
  refine ⟨?_, ?_, ?_⟩
  · rw [List.nodup_append]
    exact ⟨h.nodup, by simp, fun a ha b hb => by simp at hb; subst hb; rintro rfl; exact hn ha⟩
  · intro s' hm
    rcases List.mem_append.1 hm with hm | hm
    · obtain ⟨h0, h1, h2⟩ := h.come s' hm
      exact ⟨h0, h1, by simp [h2]⟩
    · simp at hm
      subst hm
      exact ⟨hs, by rw [hv]; rfl, by simp [keyIntL_same]⟩
  · intro s' h0 h1 h2
    simp only [keyIntL_same] at h2
    by_cases e : s' = s
    · subst e
      simp
    · simp [e] at h2
      exact List.mem_append.2 (.inl (h.rest s' h0 h1 h2))
theorem CollK.done {D : DataW Value} {left : Lit → Bool} {ss : List Int} (h : CollK D left ss) (hl : ∀ kl, left kl = false) : ∀ s, s ∈ ss ↔ I64 s ∧ (look D (.int .i64 s)).isSome = true :=
  fun s => ⟨fun hm => ⟨(h.come s hm).1, (h.come s hm).2.1⟩, fun hv => h.rest s hv.1 hv.2 (hl _)⟩
/-- An entry that is kept: its cut lies in a block of numbers. -/
structure EnKeep (w : World) (x : EnM) : Prop where
  ok : EnOk w x
  num : ∀ b off, x.ao = some ⟨b, off, none⟩ → x.e.cut ≠ [] → ∃ cs, Blk w b 3 cs
/-- No block of numbers is among these. -/
def NoNum (w : World) (F : Nat → Prop) : Prop := ∀ i, F i → ∀ cs, ¬ Blk w i 3 cs
theorem EnKeep.turned {F : Nat → Prop} {w w' : World} {x : EnM} (h : EnKeep w x) (hF : NoNum w F) (ht : Turns F w w') : EnKeep w' x := by
  have ho : ∀ b off, x.ao = some ⟨b, off, none⟩ → x.e.cut ≠ [] → ¬ F b := fun b off e hne hf => by
    obtain ⟨cs, hb⟩ := h.num b off e hne
    exact hF b hf cs hb
  refine ⟨⟨⟨h.ok.cut.held.turned ht ho, h.ok.cut.room, h.ok.cut.few⟩, h.ok.ie, h.ok.ht, h.ok.hc⟩, fun b off e hne => ?_⟩
  obtain ⟨cs, hb⟩ := h.num b off e hne
  exact ⟨cs, ht.blk hb (ho b off e hne)⟩
theorem noNum_none (w : World) : NoNum w (fun _ => False) := fun _ h => h.elim
theorem EnKeep.below {w w' : World} {x : EnM} (h : EnKeep w x) (hb : Below w.heap.size w w') : EnKeep w' x := h.turned (noNum_none w) (Turns.of_below hb (Nat.le_refl _))
theorem noNum_map {w : World} {m n : Nat} {D : DataW Value} (h : w.ownsMap Tryz.prog 3 valR m n D) : NoNum w (fun i => i = m) := by
  rintro i rfl cs hc
  exact hc.not_map h rfl
theorem noNum_blk {w : World} {p : Nat} {t : TypeId} {cs : List Value} (h : Blk w p t cs) (ht : t ≠ 3) : NoNum w (fun i => i = p) := by
  rintro i rfl cs' hc
  have h1 : w.heap[i]? = some (.cells cs.toArray t) := h
  have h2 : w.heap[i]? = some (.cells cs'.toArray 3) := hc
  rw [h1] at h2
  injection h2 with h2
  injection h2 with _ h2
  exact ht h2
theorem tidyL {w : World} {m n : Nat} {D : DataW Value} (h : w.ownsMap Tryz.prog 3 valR m n D) : Tidy D := by
  obtain ⟨es, e, hp, _⟩ := h.entries Tryz.keyedIntL
  exact ⟨es, e, hp⟩
end Go.Proofs.YthcpopigkbefhaaGreat
/-
  strings.Clone answers the same bytes; nothing that was there is written; condition: at most 2^47 bytes.
-/
namespace Go.Proofs.YthcpopigkbefhaaGreat
open Go.RowKit


set_option maxRecDepth 100000 in
set_option maxHeartbeats 2000000 in
theorem strCloneLite_any (s : ByteArray) (w : World) (hlim : s.size ≤ 140737488355328) :
    Calls Tryz.prog 126 #[.string s] w fun e w' => e = .returned (.string s) ∧ Below w.heap.size w w' := by
  by_cases h0 : s.size = 0
  · obtain rfl : s = ⟨#[]⟩ := ByteArray.ext (Array.eq_empty_of_size_eq_zero h0)
    go_enter Tryz.func126, Tryz.ntmps126
    go_wp2
    go_ret
    exact ⟨rfl, Below.refl _ _⟩
  obtain ⟨i0, hi, hz0, hz1, hz2⟩ := info_parts Tryz.info5
  have hone : (Tryz.prog.info? 5).map (·.size) = some 1 := by rw [hi]; simp [hz1]
  have hcells : Tryz.prog.cellsOf 5 = 1 := by simp [Program.cellsOf, hi, hz1]
  obtain ⟨M, hM⟩ : ∃ M, M = madeCells (Value.int .u8 0).cells ((s.size : Int).toNat * i0.size) := ⟨_, rfl⟩
  have hmk : ∀ W : World, (Instr.makeSlice 56 (.int .i64 (s.size : Int)) (.int .i64 (s.size : Int))).run Tryz.prog W = .ok (.slice (some ⟨W.heap.size, 0, none⟩) s.size s.size) (W.alloc (.cells M 5)) := fun W => by
    have h := run_make (P := Tryz.prog) W 56 5 i0 (.int .u8 0) Tryz.underlying56 hi hz0 .i64 .i64 (s.size : Int) (s.size : Int) (by omega) (by omega) (by rw [hz2]; omega) (by omega)
    rw [← hM] at h
    simpa using h
  have hMs : M.size = s.size := by rw [hM, size_madeCells, hz1]; simp
  clear hM
  have hcp := Lib.run_copy_row_string (P := Tryz.prog) (w.alloc (.cells M 5)) 56 9 3 5 w.heap.size 0 s.size s.size s M 5 Tryz.underlying56 hone (heap_alloc_new w _) (Nat.le_refl _) (by omega)
  obtain ⟨Y, hY⟩ : ∃ Y, Y = (M.toList.take 0 ++ Lib.byteCells s.data.toList ++ M.toList.drop (0 + s.size)).toArray := ⟨_, rfl⟩
  rw [← hY] at hcp
  have hYl : Y.toList = Lib.byteCells s.data.toList := by rw [hY]; simp [List.drop_of_length_le (show M.toList.length ≤ s.size by simp; omega)]
  clear hY
  have hYs : Y.size = s.size := by rw [← Array.length_toList, hYl, Lib.byteCells_length, ← Lib.size_eq]
  have hgY : ((w.alloc (.cells M 5)).setRow w.heap.size Y).heap[w.heap.size]? = some (.cells Y 5 (0, 0)) := setRow_heap _ _ M _ 5 (0, 0) (heap_alloc_new w _)
  have hne : s.data.toList ≠ [] := fun e => h0 (by rw [Lib.size_eq, e]; rfl)
  have hUS := Lib.run_unsafeString_row (P := Tryz.prog) ((w.alloc (.cells M 5)).setRow w.heap.size Y) 187 3 9 5 Tryz.underlying187 hcells w.heap.size Y.size (by unfold World.shape?; rw [hgY]) s.data.toList hne (by rw [← Lib.size_eq]; omega) (by rw [← Lib.size_eq]; omega)
    (fun j x hx => Lib.cells_of_row hgY Y.size j _ (by rw [List.take_of_length_le (by rw [Array.length_toList]; exact Nat.le_refl _), hYl]; simp [Lib.byteCells, hx]))
  rw [← Lib.size_eq] at hUS
  go_enter Tryz.func126, Tryz.ntmps126
  go_wp2
  go_ret
  have hb2 : Below w.heap.size (w.alloc (.cells M 5)) ((w.alloc (.cells M 5)).setRow w.heap.size Y) := ⟨rfl, rfl, rfl, by simp, fun k hk => setRow_other _ _ _ _ (by omega)⟩
  exact ⟨rfl, Lib.below_freeze (((Below.refl _ w).alloc (Nat.le_refl _) _).trans hb2) (p := ⟨w.heap.size, 0, none⟩) (Nat.le_refl _) _⟩

theorem strClone_any (s : ByteArray) (w : World) (hlim : s.size ≤ 140737488355328) : Calls Tryz.prog 90 #[.string s] w fun e w' => e = .returned (.string s) ∧ Below w.heap.size w w' := by
  go_enter Tryz.func90, Tryz.ntmps90
  go_wp2_with fail
  refine (strCloneLite_any s _ hlim).mono ?_
  rintro e w' ⟨rfl, hb⟩
  go_wp2
  go_ret
  exact ⟨rfl, hb⟩
end Go.Proofs.YthcpopigkbefhaaGreat
