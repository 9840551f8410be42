/-
  What the texts on learners want of the library: slices.Sort and slices.Equal of ints, maps with numbers as keys; worlds behind another.
-/
import Derived.Test.YtfmnbehopdmahaaGreatScLa
import Derived.Shelf.Sort.Plain
import Derived.Sort.OwnSortedInts
import Derived.Shelf.Lay
import Derived.Ground.NamesProg
import Derived.Test.YtfmnbehopdmahaaGreatRows
import Derived.Test.YtfmnbehopdmahaaGreatTexts
import Derived.Test.YtfmnbehopdmahaaGreatBase
import Derived.Lib.BufferWrite
import Derived.Lib.UnsafeStr
import Derived.Laws.MakeOwn
namespace Go.Proofs
open Go.Shelf Go.RowKit Go.Lib Go.Sort
shelf_lay Lays.n189 Nm 189 at Tryz as YtfmnbehopdmahaaGreat.sortIntsL
end Go.Proofs
namespace Go.Proofs.YtfmnbehopdmahaaGreat
open Go.Shelf Go.RowKit Go.Lib Go.Sort

theorem sortL_row {w : World} {B g cap : Nat} {zs : List Int} (hown : w.ownsRow B 3 1 (.slice (some ⟨g, 0, none⟩) zs.length cap) zs.length (ints zs)) (hl : zs.length ≤ 17592186044416) :
    Calls Tryz.prog 85 #[.slice (some ⟨g, 0, none⟩) zs.length cap] w fun e w' => e = .returned (.tuple #[]) ∧ w'.ownsRow B 3 1 (.slice (some ⟨g, 0, none⟩) zs.length cap) zs.length (ints (zs.mergeSort fun x y => decide (x ≤ y))) ∧ Turns (fun i => i = g) w w' := by
  rcases hown.2 with ⟨h0, _⟩ | ⟨g', cap', cur, he, hB, hg, hn, hm, hsz, htk⟩
  · cases h0
  · cases he
    have hH : Holds (Value.int .i64) w g 0 zs.toArray := holds_of_blockI hg (by rw [Nat.mul_one] at htk; exact htk)
    have hcon := Any.slices_Sort_int sortIntsL g 0 cap zs w hH (Array.getElem?_eq_some_iff.1 hg).1 (by omega)
    change Calls Tryz.prog 85 _ _ _ at hcon
    refine hcon.mono ?_
    rintro e w' ⟨rfl, n, os, rfl⟩
    have hlen : (zs.mergeSort fun x y => decide (x ≤ y)).length = zs.length := List.length_mergeSort _
    exact ⟨rfl, ownsRow_sortedI hlen hB hg hn hm hsz, Turns.of_grown (grownBy_sortedI _) (fun k hk => by cases hk; rfl)⟩

open Go.Maps
set_option maxRecDepth 100000 in
theorem equalL_any (w : World) (ao bo : Option Addr) (ca cb : Nat) (a b : List Int) (m n : Nat) (hm : a.length = m) (hn : b.length = n) (ha : HV w ao ca a) (hb : HV w bo cb b) :
    Calls Tryz.prog 140 #[.slice ao m ca, .slice bo n cb] w fun e w' => e = .returned (.bool (decide (a = b))) ∧ ∃ q, w' = w.drewN q := by
  by_cases hmn : m = n
  · subst hmn
    have HA := hid ha.held
    have HB := hid hb.held
    have hfa := ha.few
    rw [hm] at hfa
    have HM := hid hm
    have HN := hid hn
    clear ha hb hm hn
    go_enter Tryz.func140, Tryz.ntmps140
    go_wp2
    go_loopw [5, 13] (fun _ i wr => ∃ k : Nat, k ≤ m ∧ i = .int .i64 k ∧ Hid ((∃ q, wr = w.drewN q) ∧ ∀ j, j < k → a.getD j 0 = b.getD j 0)) (fun _ i _ => m - (intOf i).toNat)
    case atStart => exact ⟨0, Nat.zero_le _, rfl, ⟨0, rfl⟩, fun j hj => absurd hj (Nat.not_lt_zero _)⟩
    case round =>
      obtain ⟨k, hk, rfl, HR⟩ := hrel
      by_cases hlt : k < m
      · have hlt' : (k : Int) < (m : Int) := by omega
        obtain ⟨q, hq⟩ := HR.out.1
        have hka : k < a.length := by rw [HM.out]; exact hlt
        have hkb : k < b.length := by rw [HN.out]; exact hlt
        obtain ⟨b1, o1, rfl, hc1⟩ := HA.out.cellAt hka
        obtain ⟨b2, o2, rfl, hc2⟩ := HB.out.cellAt hkb
        have c1 : wr.cell? ⟨b1, o1 + k, none⟩ = some (.int .i64 (a.getD k 0)) := by rw [hq]; exact hc1 k hka
        have c2 : wr.cell? ⟨b2, o2 + k, none⟩ = some (.int .i64 (b.getD k 0)) := by rw [hq]; exact hc2 k hkb
        have HKB := hid hkb
        have HKA := hid hka
        have HQ := hid hq
        clear hc1 hc2 hka hkb hq
        obtain ⟨X, HX⟩ : ∃ X, Hid (a.getD k 0 = X) := ⟨_, hid rfl⟩
        obtain ⟨Y, HY⟩ : ∃ Y, Hid (b.getD k 0 = Y) := ⟨_, hid rfl⟩
        rw [HX.out] at c1
        rw [HY.out] at c2
        by_cases hxy : X = Y
        · have hb : (X != Y) = false := by simp [hxy]
          have HXY := hid hxy
          clear hxy
          go_wp2
          go_quiet (fail)
          all_goals
            go_wp2
            go_roundw
            case rel => exact ⟨k + 1, by omega, by go_num, ⟨_, by rw [HQ.out, drewN_add]⟩, eq_stepB HR.out.2 (by rw [HX.out, HY.out, HXY.out])⟩
            case measure => simp [intOf]; omega
        · have hb : (X != Y) = true := by simp [hxy]
          have HXY := hid hxy
          clear hxy
          go_wp2
          go_quiet (fail)
          all_goals
            go_wp2
            go_ret
            refine ⟨?_, _, by rw [HQ.out, drewN_add]⟩
            have : ¬ a = b := fun h => HXY.out (by rw [← HX.out, ← HY.out, h])
            rw [decide_eq_false this]
            rfl
      · have hlt' : ¬ (k : Int) < (m : Int) := by omega
        go_wp2
        go_ret
        refine ⟨?_, HR.out.1⟩
        rw [decide_eq_true (eq_of_getDB (by rw [HM.out, HN.out]) (by rw [HM.out]; exact hlt) HR.out.2)]
        rfl
  · have hne : ((m : Int) != (n : Int)) = true := by simp; omega
    have HE : Hid (decide (a = b) = false) := decide_eq_false (fun h => hmn (by rw [← hm, ← hn, h]))
    clear ha hb hm hn
    rw [HE.out]
    go_enter Tryz.func140, Tryz.ntmps140
    go_wp2
    go_ret
    exact ⟨rfl, 0, rfl⟩
theorem Tryz.keyedIntL : Keyed Tryz.prog 3 := int_keyed Tryz.underlying3
theorem wf64L {x : Int} (h : I64 x) : (Lit.int .i64 x).wf = true := by
  unfold I64 at h
  simp [Lit.wf, IntKind.min, IntKind.max, IntKind.signed, IntKind.bits]
  omega
theorem Tryz.keyIntL {x : Int} (h : I64 x) : keyOf Tryz.prog 3 (.int .i64 x) = some (.int .i64 x) := keyOf_int_mk Tryz.underlying3 (wf64L h)
theorem keyIntL_inv {k : Value} {kl : Lit} (h : keyOf Tryz.prog 3 k = some kl) : ∃ x, k = .int .i64 x ∧ kl = .int .i64 x ∧ I64 x := by
  obtain ⟨x, rfl, rfl, hw⟩ := Maps.keyOf_int_inv Tryz.underlying3 h
  refine ⟨x, rfl, rfl, ?_⟩
  unfold I64
  simp [Lit.wf, IntKind.min, IntKind.max, IntKind.signed, IntKind.bits] at hw
  omega
theorem keyIntL_ne {x y : Int} (h : x ≠ y) : (Lit.int .i64 x) ≠ .int .i64 y := fun e => by cases e; exact h rfl
theorem keyIntL_same (x y : Int) : (Lit.int .i64 x).sameKey (.int .i64 y) = decide (x = y) := by
  by_cases h : x = y
  · subst h
    rw [decide_eq_true rfl]
    exact WideAt.sameKey_self (by simp [WideAt.IsKeyLit])
  · rw [decide_eq_false h]
    exact sameKey_ne (fun e => h (by cases e; rfl))
section
variable (w : World) {ops : Array Oper} {rest : List Oper} {o : Oper} {a : Act} {Q : Exit → Act → World → Prop}
/-- The step of a range over a map with numbers as keys. -/
theorem wpList_next_intL (hg : o.guard = none) (it : Operand) (hop : o.op = Op.next it false) (b r n : Nat) (D : DataW Value) (left : Lit → Bool) (cnt : Nat)
    (hit : a.eval it = .pointer (some ⟨r, 0, none⟩)) (h : w.ranges Tryz.prog 3 valR b r n D left cnt)
    (hDone : cnt = 0 → (∀ kl, left kl = false) → wpList Tryz.prog ops Q rest (a.put o.dst (.tuple #[.bool false])) w)
    (hMore : ∀ (s : Int) (v : Value) (w' : World) (cnt' : Nat), I64 s → look D (.int .i64 s) = some v → left (.int .i64 s) = true → w'.ranges Tryz.prog 3 valR b r n D (fun z => left z && !z.sameKey (.int .i64 s)) cnt' → cnt' < cnt → w.grownBy w' (some r) → w'.heap.size = w.heap.size →
      (Instr.entry (.pointer (some ⟨r, 0, none⟩))).run Tryz.prog w' = .ok (.tuple #[.int .i64 s, v]) w' → wpList Tryz.prog ops Q rest (a.put o.dst (.tuple #[.bool true, .int .i64 s, v])) w') :
    wpList Tryz.prog ops Q (o :: rest) a w := by
  refine wpList_plain hg fun K' hK' => ?_
  unfold Oper.wp
  rcases h.next Tryz.keyedIntL o.type with ⟨h0, hl, hrun⟩ | ⟨k, v, kl, y, w', cnt', hkey, hlk, hv, hat, hrun, hrg, hlt, hgr, hsz, hen⟩
  · simp [execOp, hop, hit, hrun, Result.andThen]
    exact hK' _ _ (hDone h0 hl)
  · obtain ⟨s, rfl, rfl, hs⟩ := keyIntL_inv hkey
    unfold valR at hv
    cases hv
    simp [execOp, hop, hit, hrun, Result.andThen]
    exact hK' _ _ (hMore s v w' cnt' hs (look_at hat) hlk hrg hlt hgr hsz hen)
end
/-- Which keys have come of a map, and what is left. -/
structure CollK (D : DataW Value) (left : Lit → Bool) (ss : List Int) : Prop where
  nodup : ss.Nodup
  come : ∀ s ∈ ss, I64 s ∧ (look D (.int .i64 s)).isSome = true ∧ left (.int .i64 s) = false
  rest : ∀ s, I64 s → (look D (.int .i64 s)).isSome = true → left (.int .i64 s) = false → s ∈ ss
theorem CollK.start {D : DataW Value} (hD : AllHeld D) : CollK D (Maps.has D) [] :=
  ⟨.nil, fun _ h => (by cases h), fun s _ h1 h2 => by rw [has_look hD, h1] at h2; cases h2⟩
theorem CollK.step {D : DataW Value} {left : Lit → Bool} {ss : List Int} (h : CollK D left ss) {s : Int} {v : Value} (hs : I64 s) (hl : left (.int .i64 s) = true) (hv : look D (.int .i64 s) = some v) : CollK D (fun z => left z && !z.sameKey (.int .i64 s)) (ss ++ [s]) := by
  have hn : s ∉ ss := fun hm => by
    have := (h.come s hm).2.2
    rw [hl] at this
    cases this
  refine ⟨?_, ?_, ?_⟩
  · rw [List.nodup_append]
    exact ⟨h.nodup, by simp, fun a ha b hb => by simp at hb; subst hb; rintro rfl; exact hn ha⟩
  · intro s' hm
    rcases List.mem_append.1 hm with hm | hm
    · obtain ⟨h0, h1, h2⟩ := h.come s' hm
      exact ⟨h0, h1, by simp [h2]⟩
    · simp at hm
      subst hm
      exact ⟨hs, by rw [hv]; rfl, by simp [keyIntL_same]⟩
  · intro s' h0 h1 h2
    simp only [keyIntL_same] at h2
    by_cases e : s' = s
    · subst e
      simp
    · simp [e] at h2
      exact List.mem_append.2 (.inl (h.rest s' h0 h1 h2))
theorem CollK.done {D : DataW Value} {left : Lit → Bool} {ss : List Int} (h : CollK D left ss) (hl : ∀ kl, left kl = false) : ∀ s, s ∈ ss ↔ I64 s ∧ (look D (.int .i64 s)).isSome = true :=
  fun s => ⟨fun hm => ⟨(h.come s hm).1, (h.come s hm).2.1⟩, fun hv => h.rest s hv.1 hv.2 (hl _)⟩
/-- An entry that is kept: its cut lies in a block of numbers. -/
structure EnKeep (w : World) (x : EnM) : Prop where
  ok : EnOk w x
  num : ∀ b off, x.ao = some ⟨b, off, none⟩ → x.e.cut ≠ [] → ∃ cs, Blk w b 3 cs
/-- No block of numbers is among these. -/
def NoNum (w : World) (F : Nat → Prop) : Prop := ∀ i, F i → ∀ cs, ¬ Blk w i 3 cs
theorem EnKeep.turned {F : Nat → Prop} {w w' : World} {x : EnM} (h : EnKeep w x) (hF : NoNum w F) (ht : Turns F w w') : EnKeep w' x := by
  have ho : ∀ b off, x.ao = some ⟨b, off, none⟩ → x.e.cut ≠ [] → ¬ F b := fun b off e hne hf => by
    obtain ⟨cs, hb⟩ := h.num b off e hne
    exact hF b hf cs hb
  refine ⟨⟨⟨h.ok.cut.held.turned ht ho, h.ok.cut.room, h.ok.cut.few⟩, h.ok.ie, h.ok.ht, h.ok.hc⟩, fun b off e hne => ?_⟩
  obtain ⟨cs, hb⟩ := h.num b off e hne
  exact ⟨cs, ht.blk hb (ho b off e hne)⟩
theorem noNum_none (w : World) : NoNum w (fun _ => False) := fun _ h => h.elim
theorem EnKeep.below {w w' : World} {x : EnM} (h : EnKeep w x) (hb : Below w.heap.size w w') : EnKeep w' x := h.turned (noNum_none w) (Turns.of_below hb (Nat.le_refl _))
theorem noNum_map {w : World} {m n : Nat} {D : DataW Value} (h : w.ownsMap Tryz.prog 3 valR m n D) : NoNum w (fun i => i = m) := by
  rintro i rfl cs hc
  exact hc.not_map h rfl
theorem noNum_blk {w : World} {p : Nat} {t : TypeId} {cs : List Value} (h : Blk w p t cs) (ht : t ≠ 3) : NoNum w (fun i => i = p) := by
  rintro i rfl cs' hc
  have h1 : w.heap[i]? = some (.cells cs.toArray t) := h
  have h2 : w.heap[i]? = some (.cells cs'.toArray 3) := hc
  rw [h1] at h2
  injection h2 with h2
  injection h2 with _ h2
  exact ht h2
theorem tidyL {w : World} {m n : Nat} {D : DataW Value} (h : w.ownsMap Tryz.prog 3 valR m n D) : Tidy D := by
  obtain ⟨es, e, hp, _⟩ := h.entries Tryz.keyedIntL
  exact ⟨es, e, hp⟩
end Go.Proofs.YtfmnbehopdmahaaGreat
/-
  strings.Clone answers the same bytes; nothing that was there is written; condition: at most 2^47 bytes.
-/
namespace Go.Proofs.YtfmnbehopdmahaaGreat
open Go.RowKit


set_option maxRecDepth 100000 in
set_option maxHeartbeats 2000000 in
theorem strCloneLite_any (s : ByteArray) (w : World) (hlim : s.size ≤ 140737488355328) :
    Calls Tryz.prog 177 #[.string s] w fun e w' => e = .returned (.string s) ∧ Below w.heap.size w w' := by
  by_cases h0 : s.size = 0
  · obtain rfl : s = ⟨#[]⟩ := ByteArray.ext (Array.eq_empty_of_size_eq_zero h0)
    go_enter Tryz.func177, Tryz.ntmps177
    go_wp2
    go_ret
    exact ⟨rfl, Below.refl _ _⟩
  obtain ⟨i0, hi, hz0, hz1, hz2⟩ := info_parts Tryz.info5
  have hone : (Tryz.prog.info? 5).map (·.size) = some 1 := by rw [hi]; simp [hz1]
  have hcells : Tryz.prog.cellsOf 5 = 1 := by simp [Program.cellsOf, hi, hz1]
  obtain ⟨M, hM⟩ : ∃ M, M = madeCells (Value.int .u8 0).cells ((s.size : Int).toNat * i0.size) := ⟨_, rfl⟩
  have hmk : ∀ W : World, (Instr.makeSlice 66 (.int .i64 (s.size : Int)) (.int .i64 (s.size : Int))).run Tryz.prog W = .ok (.slice (some ⟨W.heap.size, 0, none⟩) s.size s.size) (W.alloc (.cells M 5)) := fun W => by
    have h := run_make (P := Tryz.prog) W 66 5 i0 (.int .u8 0) Tryz.underlying66 hi hz0 .i64 .i64 (s.size : Int) (s.size : Int) (by omega) (by omega) (by rw [hz2]; omega) (by omega)
    rw [← hM] at h
    simpa using h
  have hMs : M.size = s.size := by rw [hM, size_madeCells, hz1]; simp
  clear hM
  have hcp := Lib.run_copy_row_string (P := Tryz.prog) (w.alloc (.cells M 5)) 66 9 3 5 w.heap.size 0 s.size s.size s M 5 Tryz.underlying66 hone (heap_alloc_new w _) (Nat.le_refl _) (by omega)
  obtain ⟨Y, hY⟩ : ∃ Y, Y = (M.toList.take 0 ++ Lib.byteCells s.data.toList ++ M.toList.drop (0 + s.size)).toArray := ⟨_, rfl⟩
  rw [← hY] at hcp
  have hYl : Y.toList = Lib.byteCells s.data.toList := by rw [hY]; simp [List.drop_of_length_le (show M.toList.length ≤ s.size by simp; omega)]
  clear hY
  have hYs : Y.size = s.size := by rw [← Array.length_toList, hYl, Lib.byteCells_length, ← Lib.size_eq]
  have hgY : ((w.alloc (.cells M 5)).setRow w.heap.size Y).heap[w.heap.size]? = some (.cells Y 5 (0, 0)) := setRow_heap _ _ M _ 5 (0, 0) (heap_alloc_new w _)
  have hne : s.data.toList ≠ [] := fun e => h0 (by rw [Lib.size_eq, e]; rfl)
  have hUS := Lib.run_unsafeString_row (P := Tryz.prog) ((w.alloc (.cells M 5)).setRow w.heap.size Y) 225 3 9 5 Tryz.underlying225 hcells w.heap.size Y.size (by unfold World.shape?; rw [hgY]) s.data.toList hne (by rw [← Lib.size_eq]; omega) (by rw [← Lib.size_eq]; omega)
    (fun j x hx => Lib.cells_of_row hgY Y.size j _ (by rw [List.take_of_length_le (by rw [Array.length_toList]; exact Nat.le_refl _), hYl]; simp [Lib.byteCells, hx]))
  rw [← Lib.size_eq] at hUS
  go_enter Tryz.func177, Tryz.ntmps177
  go_wp2
  go_ret
  have hb2 : Below w.heap.size (w.alloc (.cells M 5)) ((w.alloc (.cells M 5)).setRow w.heap.size Y) := ⟨rfl, rfl, rfl, by simp, fun k hk => setRow_other _ _ _ _ (by omega)⟩
  exact ⟨rfl, Lib.below_freeze (((Below.refl _ w).alloc (Nat.le_refl _) _).trans hb2) (p := ⟨w.heap.size, 0, none⟩) (Nat.le_refl _) _⟩

theorem strClone_any (s : ByteArray) (w : World) (hlim : s.size ≤ 140737488355328) : Calls Tryz.prog 141 #[.string s] w fun e w' => e = .returned (.string s) ∧ Below w.heap.size w w' := by
  go_enter Tryz.func141, Tryz.ntmps141
  go_wp2_with fail
  refine (strCloneLite_any s _ hlim).mono ?_
  rintro e w' ⟨rfl, hb⟩
  go_wp2
  go_ret
  exact ⟨rfl, hb⟩
end Go.Proofs.YtfmnbehopdmahaaGreat
/-
  Package acceptor: told, kept.
-/
namespace Go.Proofs.YtfmnbehopdmahaaGreat
open Go.RowKit Go.Maps

set_option maxRecDepth 100000 in
set_option maxHeartbeats 1000000 in
theorem toldAc (w : World) (x : EnM) (hx : EnOk w x) : Calls Tryz.prog 56 #[x.val] w (ToldEn w x) := by
  obtain ⟨⟨np, tk, ct, ep, dp⟩, ao1, cap1⟩ := x
  obtain ⟨XN, HXN⟩ : ∃ m, Hid (dp.length = m) := ⟨_, hid rfl⟩
  simp only [EnM.val]
  rw [HXN.out]
  obtain ⟨W0, hW0⟩ : ∃ W, W = w.alloc (.cells #[.bool np, .string tk, .string ct, .int .i64 ep, .slice ao1 XN cap1] 39) := ⟨_, rfl⟩
  obtain ⟨W, hW⟩ : ∃ W, W = W0.alloc (.cells #[.bool false, .string ⟨#[]⟩, .string ⟨#[]⟩, .int .i64 0, .slice none 0 0] 39) := ⟨_, rfl⟩
  have HB0 : Hid (Below w.heap.size w W0) := by rw [hW0]; exact (Below.refl _ _).alloc (Nat.le_refl _) _
  have hs0 : W0.heap.size = w.heap.size + 1 := by rw [hW0]; simp
  have HB : Hid (Below w.heap.size w W) := by rw [hW]; exact HB0.out.alloc HB0.out.size _
  have HK : Hid (Blk W w.heap.size 39 [.bool np, .string tk, .string ct, .int .i64 ep, .slice ao1 XN cap1]) := by rw [hW, hW0]; exact (Blk.new w _ _).alloc _
  have HR : Hid (Blk W (w.heap.size + 1) 39 [.bool false, .string ⟨#[]⟩, .string ⟨#[]⟩, .int .i64 0, .slice none 0 0]) := by rw [hW, ← hs0]; exact Blk.new W0 _ _
  have HDI := hid (hx.cut.held.below HB.out)
  have HDF : Hid (dp.length ≤ 17592186044416) := hx.cut.few
  have c2 := HK.out.cell (i := 4) rfl
  have HW : Hid (W = (w.alloc (.cells #[.bool np, .string tk, .string ct, .int .i64 ep, .slice ao1 XN cap1] 39)).alloc (.cells #[.bool false, .string ⟨#[]⟩, .string ⟨#[]⟩, .int .i64 0, .slice none 0 0] 39)) := by show _ = _; rw [hW, hW0]
  rw [HW.out] at c2
  clear hW hW0 hx hs0
  go_enter Tryz.func56, Tryz.ntmps56
  go_wp2_with (at_builtin; rw [← HW.out]; refine wpList_append_nilB _ rfl _ _ rfl rfl ao1 cap1 dp XN HXN.out rfl HDI.out HDF.out ?_; intro bo cp w2 hv2 hbo2 hb2; have HV2 := hid hv2; have HBO := hid hbo2; have HB2 := hid hb2; have hk2 := HK.out.below hb2 HK.out.lt; have d2 := hk2.cell (i := 4) rfl; have f2 := hk2.frozen 4; have hk3 := hk2.set 4 (.slice bo XN cp); have t0 := hk3.cell (i := 0) rfl; have t1 := hk3.cell (i := 1) rfl; have t2 := hk3.cell (i := 2) rfl; have t3 := hk3.cell (i := 3) rfl; have t4 := hk3.cell (i := 4) rfl; have hr3 := (HR.out.below hb2 HR.out.lt).other (C := w.heap.size) (by omega) 4 (.slice bo XN cp); have r0 := hr3.cell (i := 0) rfl; have r1 := hr3.cell (i := 1) rfl; have r2 := hr3.cell (i := 2) rfl; have r3 := hr3.cell (i := 3) rfl; have r4 := hr3.cell (i := 4) rfl; have q0 := hr3.frozen 0; have q1 := hr3.frozen 1; have q2 := hr3.frozen 2; have q3 := hr3.frozen 3; have q4 := hr3.frozen 4; clear hv2 hb2 hbo2 c2 hk2 hk3)
  obtain ⟨W3, hW3⟩ : ∃ V, V = st5 (w2.setCell ⟨w.heap.size, 4, none⟩ (.slice bo XN cp)) (w.heap.size + 1) (.bool np) (.string tk) (.string ct) (.int .i64 ep) (.slice bo XN cp) := ⟨_, rfl⟩
  have hk9 : Blk W3 (w.heap.size + 1) 39 [.bool np, .string tk, .string ct, .int .i64 ep, .slice bo XN cp] := by rw [hW3]; exact st5_blk hr3 _ _ _ _ _
  have hT3 : Turns (fun i => i = w.heap.size ∨ i = w.heap.size + 1) w2 W3 := by
    rw [hW3]
    exact (((Turns.refl (fun i => i = w.heap.size) w2).setCell (p := ⟨w.heap.size, 4, none⟩) (.inl rfl) _).mono (fun i hi => .inl hi)).trans (st5_turns _ _ _ _ _ _ _) (fun i hi => .inl (.inr hi))
  have HBF : Hid (Below w.heap.size w W3) := (HB.out.trans (HB2.out.mono HB.out.size)).trans (hT3.below (fun i hi => by omega) (bt' HB.out HB2.out).size)
  have HLW : Hid (w.heap.size + 1 < W.heap.size) := HR.out.lt
  have HV3 : Hid (HV W3 bo cp dp) := ⟨HV2.out.held.turned hT3 (fun b off e _ hF => by have := (HBO.out b off e).1; have := HLW.out; omega), HV2.out.room, HV2.out.few⟩
  have HN3 : Hid (∀ b off, bo = some ⟨b, off, none⟩ → w.heap.size ≤ b ∧ ∃ cs, Blk W3 b 3 cs) := fun b off e => by
    obtain ⟨h1, cs, h2⟩ := HBO.out b off e
    exact ⟨Nat.le_trans HB.out.size h1, cs, hT3.blk h2 (fun hF => by have := HLW.out; omega)⟩
  have k0 := hk9.cell (i := 0) rfl
  have k1 := hk9.cell (i := 1) rfl
  have k2 := hk9.cell (i := 2) rfl
  have k3 := hk9.cell (i := 3) rfl
  have k4 := hk9.cell (i := 4) rfl
  unfold st5 at hW3
  rw [← hW3]
  (try simp only [Exit.inBlock, Exit.then])
  refine bodyPost_ret (v := .agg #[.bool np, .string tk, .string ct, .int .i64 ep, .slice bo XN cp]) ?_ rfl ⟨bo, cp, ?_, HV3.out, HN3.out, HBF.out⟩
  · rw [results_cell1B rfl]
    go_simp
  · simp only [EnM.val]
    rw [HXN.out]

/-- A box of an entry that is stored into what it has. -/
structure BoxL (W : World) (p : Nat) (cs : List Value) (V : World) : Prop where
  turn : Turns (fun i => i = p) W V
  blk : Blk V p 39 cs
theorem BoxL.start {W : World} {p : Nat} {cs : List Value} (h : Blk W p 39 cs) : BoxL W p cs W := ⟨Turns.refl _ _, h⟩
theorem BoxL.dr {W V : World} {p : Nat} {cs : List Value} (h : BoxL W p cs V) : BoxL W p cs V.drew := ⟨h.turn.drew, h.blk.drew⟩
theorem BoxL.go {W V U : World} {p : Nat} {cs : List Value} (h : BoxL W p cs V) (hb : Below V.heap.size V U) : BoxL W p cs U := ⟨h.turn.trans (Turns.of_below (F := fun _ => False) hb (Nat.le_refl _)) (fun _ h => h.elim), h.blk.below hb h.blk.lt⟩
theorem BoxL.set {W V : World} {p : Nat} {cs : List Value} (h : BoxL W p cs V) (i : Nat) (v : Value) (hv : cs.set i v = cs) : BoxL W p cs (V.setCell ⟨p, i, none⟩ v) := ⟨h.turn.setCell (p := ⟨p, i, none⟩) (.inl rfl) v, by have := h.blk.set i v; rw [hv] at this; exact this⟩
/-- An entry kept: the same, its cut in new memory. -/
def KeptEn (w : World) (x : EnM) (e : Ending) (w' : World) : Prop := ∃ bo cp, e = .returned (EnM.val ⟨x.e, bo, cp⟩) ∧ EnKeep w' ⟨x.e, bo, cp⟩ ∧ Below w.heap.size w w'
set_option maxRecDepth 100000 in
set_option maxHeartbeats 1000000 in
theorem keptAc (w : World) (x : EnM) (hx : EnOk w x) (hc : x.e.tok.size ≤ 140737488355328) (hk : x.e.cart.size ≤ 140737488355328) : Calls Tryz.prog 92 #[x.val] w (KeptEn w x) := by
  have HX0 := hid hx
  obtain ⟨⟨np, tk, ct, ep, dp⟩, ao1, cap1⟩ := x
  obtain ⟨XN, HXN⟩ : ∃ m, Hid (dp.length = m) := ⟨_, hid rfl⟩
  obtain ⟨W0, hW0⟩ : ∃ W, W = w.alloc (.cells #[.bool np, .string tk, .string ct, .int .i64 ep, .slice ao1 XN cap1] 39) := ⟨_, rfl⟩
  obtain ⟨W, hW⟩ : ∃ W, W = W0.alloc (.cells #[.bool false, .string ⟨#[]⟩, .string ⟨#[]⟩, .int .i64 0, .slice none 0 0] 39) := ⟨_, rfl⟩
  have HB0 : Hid (Below w.heap.size w W0) := by rw [hW0]; exact (Below.refl _ _).alloc (Nat.le_refl _) _
  have hs0 : W0.heap.size = w.heap.size + 1 := by rw [hW0]; simp
  have HB : Hid (Below w.heap.size w W) := by rw [hW]; exact HB0.out.alloc HB0.out.size _
  have HK : Hid (Blk W w.heap.size 39 [.bool np, .string tk, .string ct, .int .i64 ep, .slice ao1 XN cap1]) := by rw [hW, hW0]; exact (Blk.new w _ _).alloc _
  have HR : Hid (Blk W (w.heap.size + 1) 39 [.bool false, .string ⟨#[]⟩, .string ⟨#[]⟩, .int .i64 0, .slice none 0 0]) := by rw [hW, ← hs0]; exact Blk.new W0 _ _
  have HW : Hid (W = (w.alloc (.cells #[.bool np, .string tk, .string ct, .int .i64 ep, .slice ao1 XN cap1] 39)).alloc (.cells #[.bool false, .string ⟨#[]⟩, .string ⟨#[]⟩, .int .i64 0, .slice none 0 0] 39)) := by show _ = _; rw [hW, hW0]
  obtain ⟨p, hp⟩ : ∃ q, q = w.heap.size := ⟨_, rfl⟩
  have HC1 := hid (fun V (hV : BoxL W p [.bool np, .string tk, .string ct, .int .i64 ep, .slice ao1 XN cap1] V) => (strClone_any tk V hc).mono (fun e w' (hh : _ ∧ _) => And.intro hh.1 (hV.go hh.2)))
  have HC2 := hid (fun V (hV : BoxL W p [.bool np, .string tk, .string ct, .int .i64 ep, .slice ao1 XN cap1] V) => (strClone_any ct V hk).mono (fun e w' (hh : _ ∧ _) => And.intro hh.1 (hV.go hh.2)))
  rw [← hp] at HK
  have HST := hid (BoxL.start HK.out)
  have HSA : Hid (∀ V, BoxL W p [.bool np, .string tk, .string ct, .int .i64 ep, .slice ao1 XN cap1] V → (BoxL W p [.bool np, .string tk, .string ct, .int .i64 ep, .slice ao1 XN cap1] V ∧ V.cell? ⟨p, 0, none⟩ = some (.bool np) ∧ V.cell? ⟨p, 1, none⟩ = some (.string tk) ∧ V.cell? ⟨p, 2, none⟩ = some (.string ct) ∧ V.cell? ⟨p, 3, none⟩ = some (.int .i64 ep) ∧ V.cell? ⟨p, 4, none⟩ = some (.slice ao1 XN cap1) ∧ V.frozen? ⟨p, 1, none⟩ = false ∧ V.frozen? ⟨p, 2, none⟩ = false)) := fun V hV =>
    ⟨hV, hV.blk.cell rfl, hV.blk.cell rfl, hV.blk.cell rfl, hV.blk.cell rfl, hV.blk.cell rfl, hV.blk.frozen 1, hV.blk.frozen 2⟩
  have HPP := hid hp
  simp only [EnM.val]
  rw [HXN.out]
  clear hW hW0 hx hs0 hc hk hp
  go_enter Tryz.func92, Tryz.ntmps92
  go_wp2
  rw [← HW.out, ← HPP.out]
  go_region_held3 (fun V => BoxL W p [.bool np, .string tk, .string ct, .int .i64 ep, .slice ao1 XN cap1] V ∧ V.cell? ⟨p, 0, none⟩ = some (.bool np) ∧ V.cell? ⟨p, 1, none⟩ = some (.string tk) ∧ V.cell? ⟨p, 2, none⟩ = some (.string ct) ∧ V.cell? ⟨p, 3, none⟩ = some (.int .i64 ep) ∧ V.cell? ⟨p, 4, none⟩ = some (.slice ao1 XN cap1) ∧ V.frozen? ⟨p, 1, none⟩ = false ∧ V.frozen? ⟨p, 2, none⟩ = false)
    (first | (refine ⟨?_, ?_, ?_, ?_, ?_, ?_, ?_, ?_⟩ <;> assumption) | (refine HSA.out _ ?_; (repeat (first | assumption | exact HST.out | apply BoxL.dr | refine BoxL.set ?_ 1 _ rfl | refine BoxL.set ?_ 2 _ rfl))))
    (first
      | (go_at_call 141; with_reducible refine (HC1.out _ (by (repeat (first | assumption | exact HST.out | apply BoxL.dr | refine BoxL.set ?_ 1 _ rfl | refine BoxL.set ?_ 2 _ rfl)))).mono ?_; rintro e w5 ⟨rfl, hs5⟩)
      | (go_at_call 141; with_reducible refine (HC2.out _ (by (repeat (first | assumption | exact HST.out | apply BoxL.dr | refine BoxL.set ?_ 1 _ rfl | refine BoxL.set ?_ 2 _ rfl)))).mono ?_; rintro e w6 ⟨rfl, hs6⟩))
  all_goals
    rename_i hHeld
    obtain ⟨hbx, e0, e1, e2, e3, e4, _, _⟩ := hHeld
    have HBX := hid hbx
    have HBV : Hid (Below w.heap.size w _) := HB.out.trans (hbx.turn.below (B := w.heap.size) (fun i hi => by rw [hi, HPP.out]; exact Nat.le_refl _) HB.out.size)
    have HOX := hid (HX0.out.below HBV.out)
    have HTD := hid (toldAc _ ⟨⟨np, tk, ct, ep, dp⟩, ao1, cap1⟩ HOX.out)
    simp only [EnM.val] at HTD
    rw [HXN.out] at HTD
    have HR3 := hid (hbx.turn.blk HR.out (fun e => by have := HPP.out; omega))
    clear hbx
    go_wp2_with fail
    refine HTD.out.mono ?_
    rintro e w7 ⟨bo, cp, rfl, hyv, hyb, hb7⟩
    have hr7 := HR3.out.below hb7 HR3.out.lt
    have HBF0 := hid (bt' HBV.out hb7)
    have HYO := hid hyv
    have HYB := hid hyb
    rw [← HPP.out] at hr7
    have r0 := hr7.cell (i := 0) rfl
    have r1 := hr7.cell (i := 1) rfl
    have r2 := hr7.cell (i := 2) rfl
    have r3 := hr7.cell (i := 3) rfl
    have r4 := hr7.cell (i := 4) rfl
    have q0 := hr7.frozen 0
    have q1 := hr7.frozen 1
    have q2 := hr7.frozen 2
    have q3 := hr7.frozen 3
    have q4 := hr7.frozen 4
    obtain ⟨W3, hW3⟩ : ∃ V, V = st5 w7 (p + 1) (.bool np) (.string tk) (.string ct) (.int .i64 ep) (.slice bo XN cp) := ⟨_, rfl⟩
    have hk9 : Blk W3 (p + 1) 39 [.bool np, .string tk, .string ct, .int .i64 ep, .slice bo XN cp] := by rw [hW3]; exact st5_blk hr7 _ _ _ _ _
    have hT3 : Turns (fun i => i = p + 1) w7 W3 := by rw [hW3]; exact st5_turns _ _ _ _ _ _ _
    have HBF : Hid (Below w.heap.size w W3) := HBF0.out.trans (hT3.below (fun i hi => by rw [hi, HPP.out]; omega) HBF0.out.size)
    have HV3 : Hid (EnKeep W3 ⟨⟨np, tk, ct, ep, dp⟩, bo, cp⟩) := (EnKeep.mk (x := ⟨⟨np, tk, ct, ep, dp⟩, bo, cp⟩) ⟨HYO.out, HX0.out.ie, HX0.out.ht, HX0.out.hc⟩ (fun b off e _ => (HYB.out b off e).2)).turned (noNum_blk hr7 (by decide)) hT3
    have k0 := hk9.cell (i := 0) rfl
    have k1 := hk9.cell (i := 1) rfl
    have k2 := hk9.cell (i := 2) rfl
    have k3 := hk9.cell (i := 3) rfl
    have k4 := hk9.cell (i := 4) rfl
    clear hyv hyb hb7
    simp only [EnM.val]
    rw [HXN.out]
    go_wp2
    unfold st5 at hW3
    rw [← hW3]
    (try simp only [Exit.inBlock, Exit.then])
    refine bodyPost_ret (v := .agg #[.bool np, .string tk, .string ct, .int .i64 ep, .slice bo XN cp]) ?_ rfl ⟨bo, cp, ?_, HV3.out, HBF.out⟩
    · rw [results_cell1B rfl]
      go_simp
    · simp only [EnM.val]
      rw [HXN.out]
end Go.Proofs.YtfmnbehopdmahaaGreat
/-
  Package codec: Msg.
-/
namespace Go.Proofs.YtfmnbehopdmahaaGreat
open Go.RowKit Go.Maps
attribute [local go_sem] Oper.semAt_some

theorem own_sliceC {w : World} {B e n sz : Nat} {v : Value} {xs : List Value} (h : w.ownsRow B e sz v n xs) : ∃ eo cap, v = .slice eo n cap := by
  rcases h.2 with ⟨rfl, rfl⟩ | ⟨g, cap, cur, rfl, _⟩
  · exact ⟨_, _, rfl⟩
  · exact ⟨_, _, rfl⟩
theorem own_monoC {w : World} {base base' : Nat} {e : TypeId} {size : Nat} {v : Value} {n : Nat} {xs : List Value} (h : w.ownsRow base e size v n xs) (hb : base' ≤ base) : w.ownsRow base' e size v n xs := by
  refine ⟨h.1, ?_⟩
  rcases h.2 with h1 | ⟨g, cap, cur, h1, h2, h3⟩
  · exact .inl h1
  · exact .inr ⟨g, cap, cur, h1, Nat.le_trans hb h2, h3⟩
/-- What codec.Msg answers. -/
def MsgP (w : World) (x : MsM) (e : Ending) (w' : World) : Prop :=
  Below w.heap.size w w' ∧ (if RightMs x = true then (if (encMs x).length ≤ 65536 then ∃ v, e = .returned (.tuple #[v, .int .i64 0]) ∧ w'.ownsRow w.heap.size 5 1 v (encMs x).length (nums (encMs x)) else e = .returned (.tuple #[.slice none 0 0, .int .i64 3])) else e = .returned (.tuple #[.slice none 0 0, .int .i64 1]))
set_option maxRecDepth 100000 in
set_option maxHeartbeats 1000000 in
theorem writtenM_any (V : World) (x : MsM) (hx : MsOk V x) : Calls Tryz.prog 59 #[x.val, .func (.func 60) #[] #[], .func (.func 61) #[] #[]] V (MsgP V x) := by
  obtain ⟨W, hW⟩ : ∃ W, W = V.alloc (.cells x.cells.toArray 43) := ⟨_, rfl⟩
  have HB : Hid (Below V.heap.size V W) := by rw [hW]; exact (Below.refl _ _).alloc (Nat.le_refl _) _
  have HK : Hid (Blk W V.heap.size 43 x.cells) := by rw [hW]; exact Blk.new V _ _
  have HM := hid (mayMsg_C W x (hx.below HB.out))
  have HOX := hid hx
  have HW := hid hW
  clear hW hx
  by_cases hr : RightMs x = true
  · rw [hr] at HM
    obtain ⟨L, HL⟩ : ∃ m, Hid ((encMs x).length = m) := ⟨_, hid rfl⟩
    have HA : Hid (∀ U, Below V.heap.size V U → Calls Tryz.prog 61 #[.slice none 0 0, x.val] U fun e w' => ∃ v', e = .returned v' ∧ Hid (w'.ownsRow U.heap.size 5 1 v' L (nums (encMs x))) ∧ Below U.heap.size U w') := fun U hU => by
      refine (appendMsg_T (.slice none 0 0) 0 [] x U.heap.size U (rightMs_iff hr) (fun Z hZ => (HOX.out.below hU).below hZ) (World.ownsRow_nil _ _ _ _) (Nat.le_refl _) (by omega)).mono ?_
      rintro e w' ⟨v', rfl, k1, k2, _⟩
      rw [HL.out, Nat.zero_add, List.nil_append] at k1
      exact ⟨v', rfl, k1, k2⟩
    have HRR := hid hr
    clear hr
    obtain ⟨kd, fr, to, ⟨b1, b2⟩, sl, ⟨⟨np, tk, ct, ep, cut⟩, ao1, cap1⟩, vo, vc, vs, so, sc, seen, eo, ec, evs, ti⟩ := x
    simp only [MsM.val, MsM.cells] at HM HA HW HK ⊢
    by_cases hll : L ≤ 65536
    · have HLL : Hid (L ≤ 65536) := hll
      have hbig : ¬ (65536 : Int) < (L : Int) := by omega
      clear hll
      go_enter Tryz.func59, Tryz.ntmps59
      go_wp2_with fail
      rw [← HW.out]
      obtain ⟨p, hp⟩ : ∃ p, p = V.heap.size := ⟨_, rfl⟩
      rw [← hp] at HK ⊢
      clear hp
      refine HM.out.mono ?_
      rintro e w1 ⟨rfl, hb1⟩
      have HB1 := hid (bt' HB.out hb1)
      have hk := HK.out.below hb1 HK.out.lt
      have c0 := hk.cell (i := 0) rfl
      have c1 := hk.cell (i := 1) rfl
      have c2 := hk.cell (i := 2) rfl
      have c3 := hk.cell (i := 3) rfl
      have c4 := hk.cell (i := 4) rfl
      have c5 := hk.cell (i := 5) rfl
      have c6 := hk.cell (i := 6) rfl
      have c7 := hk.cell (i := 7) rfl
      have c8 := hk.cell (i := 8) rfl
      have c9 := hk.cell (i := 9) rfl
      have c10 := hk.cell (i := 10) rfl
      have c11 := hk.cell (i := 11) rfl
      have c12 := hk.cell (i := 12) rfl
      have c13 := hk.cell (i := 13) rfl
      have c14 := hk.cell (i := 14) rfl
      clear hb1 hk HM
      go_wp2_with fail
      refine (HA.out _ HB1.out).mono ?_
      rintro e w2 ⟨v2, rfl, hr2, hb2⟩
      obtain ⟨o, c, hv⟩ := own_sliceC hr2.out
      have HB2 := hid (bt' HB1.out hb2)
      have HR2 := hid (own_monoC hr2.out HB1.out.size)
      subst hv
      clear hr2 hb2
      go_wp2
      go_ret2
      refine ⟨HB2.out, ?_⟩
      rw [if_pos HRR.out, HL.out, if_pos HLL.out]
      exact ⟨_, rfl, HR2.out⟩
    · have HLL : Hid (¬ L ≤ 65536) := hll
      have hbig : (65536 : Int) < (L : Int) := by omega
      clear hll
      go_enter Tryz.func59, Tryz.ntmps59
      go_wp2_with fail
      rw [← HW.out]
      obtain ⟨p, hp⟩ : ∃ p, p = V.heap.size := ⟨_, rfl⟩
      rw [← hp] at HK ⊢
      clear hp
      refine HM.out.mono ?_
      rintro e w1 ⟨rfl, hb1⟩
      have HB1 := hid (bt' HB.out hb1)
      have hk := HK.out.below hb1 HK.out.lt
      have c0 := hk.cell (i := 0) rfl
      have c1 := hk.cell (i := 1) rfl
      have c2 := hk.cell (i := 2) rfl
      have c3 := hk.cell (i := 3) rfl
      have c4 := hk.cell (i := 4) rfl
      have c5 := hk.cell (i := 5) rfl
      have c6 := hk.cell (i := 6) rfl
      have c7 := hk.cell (i := 7) rfl
      have c8 := hk.cell (i := 8) rfl
      have c9 := hk.cell (i := 9) rfl
      have c10 := hk.cell (i := 10) rfl
      have c11 := hk.cell (i := 11) rfl
      have c12 := hk.cell (i := 12) rfl
      have c13 := hk.cell (i := 13) rfl
      have c14 := hk.cell (i := 14) rfl
      clear hb1 hk HM
      go_wp2_with fail
      refine (HA.out _ HB1.out).mono ?_
      rintro e w2 ⟨v2, rfl, hr2, hb2⟩
      obtain ⟨o, c, hv⟩ := own_sliceC hr2.out
      have HB2 := hid (bt' HB1.out hb2)
      have HR2 := hid (own_monoC hr2.out HB1.out.size)
      subst hv
      clear hr2 hb2
      go_wp2
      go_ret2
      refine ⟨HB2.out, ?_⟩
      rw [if_pos HRR.out, HL.out, if_neg HLL.out]
      rfl
  · rw [Bool.eq_false_iff.2 hr] at HM
    have HRR := hid hr
    clear hr
    obtain ⟨kd, fr, to, ⟨b1, b2⟩, sl, ⟨⟨np, tk, ct, ep, cut⟩, ao1, cap1⟩, vo, vc, vs, so, sc, seen, eo, ec, evs, ti⟩ := x
    simp only [MsM.val, MsM.cells] at HM HW HK ⊢
    go_enter Tryz.func59, Tryz.ntmps59
    go_wp2_with fail
    rw [← HW.out]
    obtain ⟨p, hp⟩ : ∃ p, p = V.heap.size := ⟨_, rfl⟩
    rw [← hp] at HK ⊢
    clear hp
    refine HM.out.mono ?_
    rintro e w1 ⟨rfl, hb1⟩
    have HB1 := hid (bt' HB.out hb1)
    clear hb1 HM
    go_wp2
    go_ret2
    refine ⟨HB1.out, ?_⟩
    rw [if_neg HRR.out]
    rfl
set_option maxRecDepth 100000 in
set_option maxHeartbeats 1000000 in
theorem msg_any (w : World) (x : MsM) (hx : MsOk w x) : Calls Tryz.prog 39 #[x.val] w (MsgP w x) := by
  have H := hid (fun o => writtenM_any (w.alloc o) x (hx.below ((Below.refl _ _).alloc (Nat.le_refl _) o)))
  have HMONO : Hid (∀ o e w', MsgP (w.alloc o) x e w' → (∃ v c, e = .returned (.tuple #[v, .int .i64 c])) ∧ MsgP w x e w') := fun o e w' h => by
    obtain ⟨h1, h2⟩ := h
    have hb : Below w.heap.size w (w.alloc o) := (Below.refl _ _).alloc (Nat.le_refl _) o
    by_cases hr : RightMs x = true
    · rw [if_pos hr] at h2
      by_cases hl : (encMs x).length ≤ 65536
      · rw [if_pos hl] at h2
        obtain ⟨v, rfl, h3⟩ := h2
        exact ⟨⟨_, _, rfl⟩, bt' hb h1, by rw [if_pos hr, if_pos hl]; exact ⟨v, rfl, own_monoC h3 hb.size⟩⟩
      · rw [if_neg hl] at h2
        subst h2
        exact ⟨⟨_, _, rfl⟩, bt' hb h1, by rw [if_pos hr, if_neg hl]⟩
    · rw [if_neg hr] at h2
      subst h2
      exact ⟨⟨_, _, rfl⟩, bt' hb h1, by rw [if_neg hr]⟩
  clear hx
  obtain ⟨kd, fr, to, ⟨b1, b2⟩, sl, ⟨⟨np, tk, ct, ep, cut⟩, ao1, cap1⟩, vo, vc, vs, so, sc, seen, eo, ec, evs, ti⟩ := x
  simp only [MsM.val] at H ⊢
  go_enter Tryz.func39, Tryz.ntmps39
  go_wp2_with fail
  refine (H.out _).mono ?_
  intro e w' h
  obtain ⟨⟨v, c, rfl⟩, h2⟩ := HMONO.out _ _ _ h
  have H2 := hid h2
  clear h h2 HMONO H
  go_wp2
  go_ret2
  exact H2.out
end Go.Proofs.YtfmnbehopdmahaaGreat
