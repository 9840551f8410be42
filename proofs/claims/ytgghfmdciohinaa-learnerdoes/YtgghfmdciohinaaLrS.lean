/-
  The laws' sameVector, SameSeal, SameEntry.
-/
import Derived.Test.YtgghfmdciohinaaVoA
import Derived.Shelf.Sort.Plain
import Derived.Sort.OwnSortedInts
import Derived.Shelf.Lay
import Derived.Ground.NamesProg
namespace Go.Proofs.Ytgghfmdciohinaa
open Go.RowKit Go.Maps

theorem eq_of_getDB {a b : List Int} (hl : a.length = b.length) {k : Nat} (hk : ¬ k < a.length) (h : ∀ j, j < k → a.getD j 0 = b.getD j 0) : a = b := by
  apply List.ext_getElem hl
  intro i h1 h2
  have := h i (by omega)
  simpa [List.getD, List.getElem?_eq_getElem h1, List.getElem?_eq_getElem h2] using this
theorem eq_stepB {a b : List Int} {k : Nat} (h : ∀ j, j < k → a.getD j 0 = b.getD j 0) (h' : a.getD k 0 = b.getD k 0) : ∀ j, j < k + 1 → a.getD j 0 = b.getD j 0 := by
  intro j hj
  by_cases e : j = k
  · subst e; exact h'
  · exact h j (by omega)

set_option maxRecDepth 100000 in
theorem sameVec_B (w : World) (ao bo : Option Addr) (ca cb : Nat) (a b : List Int) (m n : Nat) (hm : a.length = m) (hn : b.length = n) (ha : HV w ao ca a) (hb : HV w bo cb b) :
    Calls Try.prog 41 #[.slice ao m ca, .slice bo n cb] w fun e w' => e = .returned (.bool (decide (a = b))) ∧ ∃ q, w' = w.drewN q := by
  by_cases hmn : m = n
  · subst hmn
    have HA := hid ha.held
    have HB := hid hb.held
    have hfa := ha.few
    rw [hm] at hfa
    have HM := hid hm
    have HN := hid hn
    clear ha hb hm hn
    go_enter Try.func41, Try.ntmps41
    go_wp2
    go_loopw [5] (fun i wr => ∃ k : Nat, k ≤ m ∧ i = .int .i64 k ∧ Hid ((∃ q, wr = w.drewN q) ∧ ∀ j, j < k → a.getD j 0 = b.getD j 0)) (fun i _ => m - (intOf i).toNat)
    case atStart => exact ⟨0, Nat.zero_le _, rfl, ⟨0, rfl⟩, fun j hj => absurd hj (Nat.not_lt_zero _)⟩
    case round =>
      obtain ⟨k, hk, rfl, HR⟩ := hrel
      by_cases hlt : k < m
      · have hlt' : (k : Int) < (m : Int) := by omega
        obtain ⟨q, hq⟩ := HR.out.1
        have hka : k < a.length := by rw [HM.out]; exact hlt
        have hkb : k < b.length := by rw [HN.out]; exact hlt
        obtain ⟨b1, o1, rfl, hc1⟩ := HA.out.cellAt hka
        obtain ⟨b2, o2, rfl, hc2⟩ := HB.out.cellAt hkb
        have c1 : wr.cell? ⟨b1, o1 + k, none⟩ = some (.int .i64 (a.getD k 0)) := by rw [hq]; exact hc1 k hka
        have c2 : wr.cell? ⟨b2, o2 + k, none⟩ = some (.int .i64 (b.getD k 0)) := by rw [hq]; exact hc2 k hkb
        have HKB := hid hkb
        have HKA := hid hka
        have HQ := hid hq
        clear hc1 hc2 hka hkb hq
        obtain ⟨X, HX⟩ : ∃ X, Hid (a.getD k 0 = X) := ⟨_, hid rfl⟩
        obtain ⟨Y, HY⟩ : ∃ Y, Hid (b.getD k 0 = Y) := ⟨_, hid rfl⟩
        rw [HX.out] at c1
        rw [HY.out] at c2
        by_cases hxy : X = Y
        · have hb : (X != Y) = false := by simp [hxy]
          have HXY := hid hxy
          clear hxy
          go_wp2
          go_quiet (fail)
          all_goals
            go_wp2
            go_roundw
            case rel => exact ⟨k + 1, by omega, by go_num, ⟨_, by rw [HQ.out, drewN_add]⟩, eq_stepB HR.out.2 (by rw [HX.out, HY.out, HXY.out])⟩
            case measure => simp [intOf]; omega
        · have hb : (X != Y) = true := by simp [hxy]
          have HXY := hid hxy
          clear hxy
          go_wp2
          go_quiet (fail)
          all_goals
            go_wp2
            go_ret
            refine ⟨?_, _, by rw [HQ.out, drewN_add]⟩
            have : ¬ a = b := fun h => HXY.out (by rw [← HX.out, ← HY.out, h])
            rw [decide_eq_false this]
            rfl
      · have hlt' : ¬ (k : Int) < (m : Int) := by omega
        go_wp2
        go_ret
        refine ⟨?_, HR.out.1⟩
        rw [decide_eq_true (eq_of_getDB (by rw [HM.out, HN.out]) (by rw [HM.out]; exact hlt) HR.out.2)]
        rfl
  · have hne : ((m : Int) != (n : Int)) = true := by simp; omega
    have HE : Hid (decide (a = b) = false) := decide_eq_false (fun h => hmn (by rw [← hm, ← hn, h]))
    clear ha hb hm hn
    rw [HE.out]
    go_enter Try.func41, Try.ntmps41
    go_wp2
    go_ret
    exact ⟨rfl, 0, rfl⟩

set_option maxRecDepth 100000 in
theorem sameSeal_B (w : World) (tk ct : ByteArray) (ep : Int) (ao bo : Option Addr) (ca cb : Nat) (cut : List Int) (n : Nat) (hn : cut.length = n) (ha : HV w ao ca cut) (hb : HV w bo cb cut) :
    Calls Try.prog 33 #[.agg #[.string tk, .string ct, .int .i64 ep, .slice ao n ca], .agg #[.string tk, .string ct, .int .i64 ep, .slice bo n cb]] w fun e w' => e = .returned (.bool true) ∧ Below w.heap.size w w' := by
  obtain ⟨W, hW⟩ : ∃ W, W = (w.alloc (.cells #[.string tk, .string ct, .int .i64 ep, .slice ao n ca] 31)).alloc (.cells #[.string tk, .string ct, .int .i64 ep, .slice bo n cb] 31) := ⟨_, rfl⟩
  have HB : Hid (Below w.heap.size w W) := by rw [hW]; exact ((Below.refl _ _).alloc (Nat.le_refl _) _).alloc (by simp) _
  have HS := hid (sameVec_B W ao bo ca cb cut cut n n hn hn (ha.below HB.out) (hb.below HB.out))
  rw [decide_eq_true rfl] at HS
  have HW := hid hW
  clear ha hb hn hW
  go_enter Try.func33, Try.ntmps33
  go_wp2_with fail
  rw [← HW.out]
  refine HS.out.mono ?_
  rintro e w' ⟨rfl, q, rfl⟩
  go_wp2
  go_ret
  exact ⟨rfl, below_dn HB.out q⟩
set_option maxRecDepth 100000 in
theorem sameEntry_B (w : World) (e0 : En) (ao bo : Option Addr) (ca cb : Nat) (ha : HV w ao ca e0.cut) (hb : HV w bo cb e0.cut) :
    Calls Try.prog 12 #[EnM.val ⟨e0, ao, ca⟩, EnM.val ⟨e0, bo, cb⟩] w fun e w' => e = .returned (.bool true) ∧ Below w.heap.size w w' := by
  obtain ⟨np, tk, ct, ep, cut⟩ := e0
  simp only [EnM.val] at *
  obtain ⟨n, hn⟩ : ∃ n, cut.length = n := ⟨_, rfl⟩
  rw [hn]
  obtain ⟨W, hW⟩ : ∃ W, W = (w.alloc (.cells #[.bool np, .string tk, .string ct, .int .i64 ep, .slice ao n ca] 33)).alloc (.cells #[.bool np, .string tk, .string ct, .int .i64 ep, .slice bo n cb] 33) := ⟨_, rfl⟩
  have HB : Hid (Below w.heap.size w W) := by rw [hW]; exact ((Below.refl _ _).alloc (Nat.le_refl _) _).alloc (by simp) _
  have HS := hid (sameSeal_B W tk ct ep ao bo ca cb cut n hn (ha.below HB.out) (hb.below HB.out))
  have HW := hid hW
  clear ha hb hn hW
  cases np with
  | true =>
    go_enter Try.func12, Try.ntmps12
    go_wp2_with fail
    rw [← HW.out]
    refine HS.out.mono ?_
    rintro e w' ⟨rfl, hb⟩
    have HBF := hid (bt' HB.out hb)
    clear hb
    go_wp2
    go_ret
    exact ⟨rfl, HBF.out⟩
  | false =>
    go_enter Try.func12, Try.ntmps12
    go_wp2_with fail
    rw [← HW.out]
    refine HS.out.mono ?_
    rintro e w' ⟨rfl, hb⟩
    have HBF := hid (bt' HB.out hb)
    clear hb
    go_wp2
    go_ret
    exact ⟨rfl, HBF.out⟩
end Go.Proofs.Ytgghfmdciohinaa
/-
  Worlds behind another.
-/
namespace Go.Proofs.Ytgghfmdciohinaa
open Go.RowKit Go.Maps

/-- V is a world behind W. -/
structure ScL (W V : World) : Prop where
  out : Below W.heap.size W V
theorem ScL.start (W : World) : ScL W W := ⟨Below.refl _ _⟩
theorem ScL.go {W V U : World} (h : ScL W V) (hb : Below V.heap.size V U) : ScL W U := ⟨bt' h.out hb⟩
theorem ScL.dr {W V : World} (h : ScL W V) : ScL W V.drew := ⟨h.out.drew⟩
theorem ScL.alloc {W V : World} (h : ScL W V) (o : Obj) : ScL W (V.alloc o) := ⟨h.out.alloc h.out.size _⟩
end Go.Proofs.Ytgghfmdciohinaa
/-
  What the texts on learners want of the library: slices.Sort and slices.Equal of ints, maps with numbers as keys; worlds behind another.
-/
namespace Go.Proofs
open Go.Shelf Go.RowKit Go.Lib Go.Sort
shelf_lay Lays.n189 Nm 189 at Try as Ytgghfmdciohinaa.sortIntsL
end Go.Proofs
namespace Go.Proofs.Ytgghfmdciohinaa
open Go.Shelf Go.RowKit Go.Lib Go.Sort

theorem sortL_row {w : World} {B g cap : Nat} {zs : List Int} (hown : w.ownsRow B 3 1 (.slice (some ⟨g, 0, none⟩) zs.length cap) zs.length (ints zs)) (hl : zs.length ≤ 17592186044416) :
    Calls Try.prog 35 #[.slice (some ⟨g, 0, none⟩) zs.length cap] w fun e w' => e = .returned (.tuple #[]) ∧ w'.ownsRow B 3 1 (.slice (some ⟨g, 0, none⟩) zs.length cap) zs.length (ints (zs.mergeSort fun x y => decide (x ≤ y))) ∧ Turns (fun i => i = g) w w' := by
  rcases hown.2 with ⟨h0, _⟩ | ⟨g', cap', cur, he, hB, hg, hn, hm, hsz, htk⟩
  · cases h0
  · cases he
    have hH : Holds (Value.int .i64) w g 0 zs.toArray := holds_of_blockI hg (by rw [Nat.mul_one] at htk; exact htk)
    have hcon := Any.slices_Sort_int sortIntsL g 0 cap zs w hH (Array.getElem?_eq_some_iff.1 hg).1 (by omega)
    change Calls Try.prog 35 _ _ _ at hcon
    refine hcon.mono ?_
    rintro e w' ⟨rfl, n, os, rfl⟩
    have hlen : (zs.mergeSort fun x y => decide (x ≤ y)).length = zs.length := List.length_mergeSort _
    exact ⟨rfl, ownsRow_sortedI hlen hB hg hn hm hsz, Turns.of_grown (grownBy_sortedI _) (fun k hk => by cases hk; rfl)⟩

open Go.Maps
set_option maxRecDepth 100000 in
theorem equalL_any (w : World) (ao bo : Option Addr) (ca cb : Nat) (a b : List Int) (m n : Nat) (hm : a.length = m) (hn : b.length = n) (ha : HV w ao ca a) (hb : HV w bo cb b) :
    Calls Try.prog 37 #[.slice ao m ca, .slice bo n cb] w fun e w' => e = .returned (.bool (decide (a = b))) ∧ ∃ q, w' = w.drewN q := by
  by_cases hmn : m = n
  · subst hmn
    have HA := hid ha.held
    have HB := hid hb.held
    have hfa := ha.few
    rw [hm] at hfa
    have HM := hid hm
    have HN := hid hn
    clear ha hb hm hn
    go_enter Try.func37, Try.ntmps37
    go_wp2
    go_loopw [5, 13] (fun _ i wr => ∃ k : Nat, k ≤ m ∧ i = .int .i64 k ∧ Hid ((∃ q, wr = w.drewN q) ∧ ∀ j, j < k → a.getD j 0 = b.getD j 0)) (fun _ i _ => m - (intOf i).toNat)
    case atStart => exact ⟨0, Nat.zero_le _, rfl, ⟨0, rfl⟩, fun j hj => absurd hj (Nat.not_lt_zero _)⟩
    case round =>
      obtain ⟨k, hk, rfl, HR⟩ := hrel
      by_cases hlt : k < m
      · have hlt' : (k : Int) < (m : Int) := by omega
        obtain ⟨q, hq⟩ := HR.out.1
        have hka : k < a.length := by rw [HM.out]; exact hlt
        have hkb : k < b.length := by rw [HN.out]; exact hlt
        obtain ⟨b1, o1, rfl, hc1⟩ := HA.out.cellAt hka
        obtain ⟨b2, o2, rfl, hc2⟩ := HB.out.cellAt hkb
        have c1 : wr.cell? ⟨b1, o1 + k, none⟩ = some (.int .i64 (a.getD k 0)) := by rw [hq]; exact hc1 k hka
        have c2 : wr.cell? ⟨b2, o2 + k, none⟩ = some (.int .i64 (b.getD k 0)) := by rw [hq]; exact hc2 k hkb
        have HKB := hid hkb
        have HKA := hid hka
        have HQ := hid hq
        clear hc1 hc2 hka hkb hq
        obtain ⟨X, HX⟩ : ∃ X, Hid (a.getD k 0 = X) := ⟨_, hid rfl⟩
        obtain ⟨Y, HY⟩ : ∃ Y, Hid (b.getD k 0 = Y) := ⟨_, hid rfl⟩
        rw [HX.out] at c1
        rw [HY.out] at c2
        by_cases hxy : X = Y
        · have hb : (X != Y) = false := by simp [hxy]
          have HXY := hid hxy
          clear hxy
          go_wp2
          go_quiet (fail)
          all_goals
            go_wp2
            go_roundw
            case rel => exact ⟨k + 1, by omega, by go_num, ⟨_, by rw [HQ.out, drewN_add]⟩, eq_stepB HR.out.2 (by rw [HX.out, HY.out, HXY.out])⟩
            case measure => simp [intOf]; omega
        · have hb : (X != Y) = true := by simp [hxy]
          have HXY := hid hxy
          clear hxy
          go_wp2
          go_quiet (fail)
          all_goals
            go_wp2
            go_ret
            refine ⟨?_, _, by rw [HQ.out, drewN_add]⟩
            have : ¬ a = b := fun h => HXY.out (by rw [← HX.out, ← HY.out, h])
            rw [decide_eq_false this]
            rfl
      · have hlt' : ¬ (k : Int) < (m : Int) := by omega
        go_wp2
        go_ret
        refine ⟨?_, HR.out.1⟩
        rw [decide_eq_true (eq_of_getDB (by rw [HM.out, HN.out]) (by rw [HM.out]; exact hlt) HR.out.2)]
        rfl
  · have hne : ((m : Int) != (n : Int)) = true := by simp; omega
    have HE : Hid (decide (a = b) = false) := decide_eq_false (fun h => hmn (by rw [← hm, ← hn, h]))
    clear ha hb hm hn
    rw [HE.out]
    go_enter Try.func37, Try.ntmps37
    go_wp2
    go_ret
    exact ⟨rfl, 0, rfl⟩
theorem Try.keyedIntL : Keyed Try.prog 3 := int_keyed Try.underlying3
theorem wf64L {x : Int} (h : I64 x) : (Lit.int .i64 x).wf = true := by
  unfold I64 at h
  simp [Lit.wf, IntKind.min, IntKind.max, IntKind.signed, IntKind.bits]
  omega
theorem Try.keyIntL {x : Int} (h : I64 x) : keyOf Try.prog 3 (.int .i64 x) = some (.int .i64 x) := keyOf_int_mk Try.underlying3 (wf64L h)
theorem keyIntL_inv {k : Value} {kl : Lit} (h : keyOf Try.prog 3 k = some kl) : ∃ x, k = .int .i64 x ∧ kl = .int .i64 x ∧ I64 x := by
  obtain ⟨x, rfl, rfl, hw⟩ := Maps.keyOf_int_inv Try.underlying3 h
  refine ⟨x, rfl, rfl, ?_⟩
  unfold I64
  simp [Lit.wf, IntKind.min, IntKind.max, IntKind.signed, IntKind.bits] at hw
  omega
theorem keyIntL_ne {x y : Int} (h : x ≠ y) : (Lit.int .i64 x) ≠ .int .i64 y := fun e => by cases e; exact h rfl
theorem keyIntL_same (x y : Int) : (Lit.int .i64 x).sameKey (.int .i64 y) = decide (x = y) := by
  by_cases h : x = y
  · subst h
    rw [decide_eq_true rfl]
    exact WideAt.sameKey_self (by simp [WideAt.IsKeyLit])
  · rw [decide_eq_false h]
    exact sameKey_ne (fun e => h (by cases e; rfl))
section
variable (w : World) {ops : Array Oper} {rest : List Oper} {o : Oper} {a : Act} {Q : Exit → Act → World → Prop}
/-- The step of a range over a map with numbers as keys. -/
theorem wpList_next_intL (hg : o.guard = none) (it : Operand) (hop : o.op = Op.next it false) (b r n : Nat) (D : DataW Value) (left : Lit → Bool) (cnt : Nat)
    (hit : a.eval it = .pointer (some ⟨r, 0, none⟩)) (h : w.ranges Try.prog 3 valR b r n D left cnt)
    (hDone : cnt = 0 → (∀ kl, left kl = false) → wpList Try.prog ops Q rest (a.put o.dst (.tuple #[.bool false])) w)
    (hMore : ∀ (s : Int) (v : Value) (w' : World) (cnt' : Nat), I64 s → look D (.int .i64 s) = some v → left (.int .i64 s) = true → w'.ranges Try.prog 3 valR b r n D (fun z => left z && !z.sameKey (.int .i64 s)) cnt' → cnt' < cnt → w.grownBy w' (some r) → w'.heap.size = w.heap.size →
      (Instr.entry (.pointer (some ⟨r, 0, none⟩))).run Try.prog w' = .ok (.tuple #[.int .i64 s, v]) w' → wpList Try.prog ops Q rest (a.put o.dst (.tuple #[.bool true, .int .i64 s, v])) w') :
    wpList Try.prog ops Q (o :: rest) a w := by
  refine wpList_plain hg fun K' hK' => ?_
  unfold Oper.wp
  rcases h.next Try.keyedIntL o.type with ⟨h0, hl, hrun⟩ | ⟨k, v, kl, y, w', cnt', hkey, hlk, hv, hat, hrun, hrg, hlt, hgr, hsz, hen⟩
  · simp [execOp, hop, hit, hrun, Result.andThen]
    exact hK' _ _ (hDone h0 hl)
  · obtain ⟨s, rfl, rfl, hs⟩ := keyIntL_inv hkey
    unfold valR at hv
    cases hv
    simp [execOp, hop, hit, hrun, Result.andThen]
    exact hK' _ _ (hMore s v w' cnt' hs (look_at hat) hlk hrg hlt hgr hsz hen)
end
/-- Which keys have come of a map, and what is left. -/
structure CollK (D : DataW Value) (left : Lit → Bool) (ss : List Int) : Prop where
  nodup : ss.Nodup
  come : ∀ s ∈ ss, I64 s ∧ (look D (.int .i64 s)).isSome = true ∧ left (.int .i64 s) = false
  rest : ∀ s, I64 s → (look D (.int .i64 s)).isSome = true → left (.int .i64 s) = false → s ∈ ss
theorem CollK.start {D : DataW Value} (hD : AllHeld D) : CollK D (Maps.has D) [] :=
  ⟨.nil, fun _ h => (by cases h), fun s _ h1 h2 => by rw [has_look hD, h1] at h2; cases h2⟩
theorem CollK.step {D : DataW Value} {left : Lit → Bool} {ss : List Int} (h : CollK D left ss) {s : Int} {v : Value} (hs : I64 s) (hl : left (.int .i64 s) = true) (hv : look D (.int .i64 s) = some v) : CollK D (fun z => left z && !z.sameKey (.int .i64 s)) (ss ++ [s]) := by
  have hn : s ∉ ss := fun hm => by
    have := (h.come s hm).2.2
    rw [hl] at this
    cases this
  refine ⟨?_, ?_, ?_⟩
  · rw [List.nodup_append]
    exact ⟨h.nodup, by simp, fun a ha b hb => by simp at hb; subst hb; rintro rfl; exact hn ha⟩
  · intro s' hm
    rcases List.mem_append.1 hm with hm | hm
    · obtain ⟨h0, h1, h2⟩ := h.come s' hm
      exact ⟨h0, h1, by simp [h2]⟩
    · simp at hm
      subst hm
      exact ⟨hs, by rw [hv]; rfl, by simp [keyIntL_same]⟩
  · intro s' h0 h1 h2
    simp only [keyIntL_same] at h2
    by_cases e : s' = s
    · subst e
      simp
    · simp [e] at h2
      exact List.mem_append.2 (.inl (h.rest s' h0 h1 h2))
theorem CollK.done {D : DataW Value} {left : Lit → Bool} {ss : List Int} (h : CollK D left ss) (hl : ∀ kl, left kl = false) : ∀ s, s ∈ ss ↔ I64 s ∧ (look D (.int .i64 s)).isSome = true :=
  fun s => ⟨fun hm => ⟨(h.come s hm).1, (h.come s hm).2.1⟩, fun hv => h.rest s hv.1 hv.2 (hl _)⟩
/-- An entry that is kept: its cut lies in a block of numbers. -/
structure EnKeep (w : World) (x : EnM) : Prop where
  ok : EnOk w x
  num : ∀ b off, x.ao = some ⟨b, off, none⟩ → x.e.cut ≠ [] → ∃ cs, Blk w b 3 cs
/-- No block of numbers is among these. -/
def NoNum (w : World) (F : Nat → Prop) : Prop := ∀ i, F i → ∀ cs, ¬ Blk w i 3 cs
theorem EnKeep.turned {F : Nat → Prop} {w w' : World} {x : EnM} (h : EnKeep w x) (hF : NoNum w F) (ht : Turns F w w') : EnKeep w' x := by
  have ho : ∀ b off, x.ao = some ⟨b, off, none⟩ → x.e.cut ≠ [] → ¬ F b := fun b off e hne hf => by
    obtain ⟨cs, hb⟩ := h.num b off e hne
    exact hF b hf cs hb
  refine ⟨⟨⟨h.ok.cut.held.turned ht ho, h.ok.cut.room, h.ok.cut.few⟩, h.ok.ie, h.ok.ht, h.ok.hc⟩, fun b off e hne => ?_⟩
  obtain ⟨cs, hb⟩ := h.num b off e hne
  exact ⟨cs, ht.blk hb (ho b off e hne)⟩
theorem noNum_none (w : World) : NoNum w (fun _ => False) := fun _ h => h.elim
theorem EnKeep.below {w w' : World} {x : EnM} (h : EnKeep w x) (hb : Below w.heap.size w w') : EnKeep w' x := h.turned (noNum_none w) (Turns.of_below hb (Nat.le_refl _))
theorem noNum_map {w : World} {m n : Nat} {D : DataW Value} (h : w.ownsMap Try.prog 3 valR m n D) : NoNum w (fun i => i = m) := by
  rintro i rfl cs hc
  exact hc.not_map h rfl
theorem noNum_blk {w : World} {p : Nat} {t : TypeId} {cs : List Value} (h : Blk w p t cs) (ht : t ≠ 3) : NoNum w (fun i => i = p) := by
  rintro i rfl cs' hc
  have h1 : w.heap[i]? = some (.cells cs.toArray t) := h
  have h2 : w.heap[i]? = some (.cells cs'.toArray 3) := hc
  rw [h1] at h2
  injection h2 with h2
  injection h2 with _ h2
  exact ht h2
theorem tidyL {w : World} {m n : Nat} {D : DataW Value} (h : w.ownsMap Try.prog 3 valR m n D) : Tidy D := by
  obtain ⟨es, e, hp, _⟩ := h.entries Try.keyedIntL
  exact ⟨es, e, hp⟩
end Go.Proofs.Ytgghfmdciohinaa
