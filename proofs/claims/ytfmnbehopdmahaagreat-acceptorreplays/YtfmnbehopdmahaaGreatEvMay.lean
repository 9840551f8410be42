/-
  Package cart: slices.Equal of ints, same, goesBy; the law's sameVector, SameEvent.
-/
import Derived.Test.YtfmnbehopdmahaaGreatCodA
import Derived.Test.YtfmnbehopdmahaaGreatVvE
import Derived.Sort.MapsRangeIn
import Derived.Test.YtfmnbehopdmahaaGreatTexts
import Derived.Test.YtfmnbehopdmahaaGreatCartMath
import Derived.Test.YtfmnbehopdmahaaGreatSealA
import Derived.Test.YtfmnbehopdmahaaGreatVvD
namespace Go.Proofs.YtfmnbehopdmahaaGreat
open Go.RowKit Go.Maps

set_option maxRecDepth 100000 in
theorem equalI_any (w : World) (ao bo : Option Addr) (ca cb : Nat) (a b : List Int) (m n : Nat) (hm : a.length = m) (hn : b.length = n) (ha : HV w ao ca a) (hb : HV w bo cb b) :
    Calls Tryz.prog 140 #[.slice ao m ca, .slice bo n cb] w fun e w' => e = .returned (.bool (decide (a = b))) ∧ ∃ q, w' = w.drewN q := by
  by_cases hmn : m = n
  · subst hmn
    have HA := hid ha.held
    have HB := hid hb.held
    have hfa := ha.few
    rw [hm] at hfa
    have HM := hid hm
    have HN := hid hn
    clear ha hb hm hn
    go_enter Tryz.func140, Tryz.ntmps140
    go_wp2
    go_loopw [5, 13] (fun _ i wr => ∃ k : Nat, k ≤ m ∧ i = .int .i64 k ∧ Hid ((∃ q, wr = w.drewN q) ∧ ∀ j, j < k → a.getD j 0 = b.getD j 0)) (fun _ i _ => m - (intOf i).toNat)
    case atStart => exact ⟨0, Nat.zero_le _, rfl, ⟨0, rfl⟩, fun j hj => absurd hj (Nat.not_lt_zero _)⟩
    case round =>
      obtain ⟨k, hk, rfl, HR⟩ := hrel
      by_cases hlt : k < m
      · have hlt' : (k : Int) < (m : Int) := by omega
        obtain ⟨q, hq⟩ := HR.out.1
        have hka : k < a.length := by rw [HM.out]; exact hlt
        have hkb : k < b.length := by rw [HN.out]; exact hlt
        obtain ⟨b1, o1, rfl, hc1⟩ := HA.out.cellAt hka
        obtain ⟨b2, o2, rfl, hc2⟩ := HB.out.cellAt hkb
        have c1 : wr.cell? ⟨b1, o1 + k, none⟩ = some (.int .i64 (a.getD k 0)) := by rw [hq]; exact hc1 k hka
        have c2 : wr.cell? ⟨b2, o2 + k, none⟩ = some (.int .i64 (b.getD k 0)) := by rw [hq]; exact hc2 k hkb
        have HKB := hid hkb
        have HKA := hid hka
        have HQ := hid hq
        clear hc1 hc2 hka hkb hq
        obtain ⟨X, HX⟩ : ∃ X, Hid (a.getD k 0 = X) := ⟨_, hid rfl⟩
        obtain ⟨Y, HY⟩ : ∃ Y, Hid (b.getD k 0 = Y) := ⟨_, hid rfl⟩
        rw [HX.out] at c1
        rw [HY.out] at c2
        by_cases hxy : X = Y
        · have hb : (X != Y) = false := by simp [hxy]
          have HXY := hid hxy
          clear hxy
          go_wp2
          go_quiet (fail)
          all_goals
            go_wp2
            go_roundw
            case rel => exact ⟨k + 1, by omega, by go_num, ⟨_, by rw [HQ.out, drewN_add]⟩, eq_step HR.out.2 (by rw [HX.out, HY.out, HXY.out])⟩
            case measure => simp [intOf]; omega
        · have hb : (X != Y) = true := by simp [hxy]
          have HXY := hid hxy
          clear hxy
          go_wp2
          go_quiet (fail)
          all_goals
            go_wp2
            go_ret
            refine ⟨?_, _, by rw [HQ.out, drewN_add]⟩
            have : ¬ a = b := fun h => HXY.out (by rw [← HX.out, ← HY.out, h])
            rw [decide_eq_false this]
            rfl
      · have hlt' : ¬ (k : Int) < (m : Int) := by omega
        go_wp2
        go_ret
        refine ⟨?_, HR.out.1⟩
        rw [decide_eq_true (eq_of_getD (by rw [HM.out, HN.out]) (by rw [HM.out]; exact hlt) HR.out.2)]
        rfl
  · have hne : ((m : Int) != (n : Int)) = true := by simp; omega
    have HE : Hid (decide (a = b) = false) := decide_eq_false (fun h => hmn (by rw [← hm, ← hn, h]))
    clear ha hb hm hn
    rw [HE.out]
    go_enter Tryz.func140, Tryz.ntmps140
    go_wp2
    go_ret
    exact ⟨rfl, 0, rfl⟩
set_option maxRecDepth 100000 in
theorem sameVec_any (w : World) (ao bo : Option Addr) (ca cb : Nat) (a b : List Int) (m n : Nat) (hm : a.length = m) (hn : b.length = n) (ha : HV w ao ca a) (hb : HV w bo cb b) :
    Calls Tryz.prog 27 #[.slice ao m ca, .slice bo n cb] w fun e w' => e = .returned (.bool (decide (a = b))) ∧ ∃ q, w' = w.drewN q := by
  by_cases hmn : m = n
  · subst hmn
    have HA := hid ha.held
    have HB := hid hb.held
    have hfa := ha.few
    rw [hm] at hfa
    have HM := hid hm
    have HN := hid hn
    clear ha hb hm hn
    go_enter Tryz.func27, Tryz.ntmps27
    go_wp2
    go_loopw [5] (fun i wr => ∃ k : Nat, k ≤ m ∧ i = .int .i64 k ∧ Hid ((∃ q, wr = w.drewN q) ∧ ∀ j, j < k → a.getD j 0 = b.getD j 0)) (fun i _ => m - (intOf i).toNat)
    case atStart => exact ⟨0, Nat.zero_le _, rfl, ⟨0, rfl⟩, fun j hj => absurd hj (Nat.not_lt_zero _)⟩
    case round =>
      obtain ⟨k, hk, rfl, HR⟩ := hrel
      by_cases hlt : k < m
      · have hlt' : (k : Int) < (m : Int) := by omega
        obtain ⟨q, hq⟩ := HR.out.1
        have hka : k < a.length := by rw [HM.out]; exact hlt
        have hkb : k < b.length := by rw [HN.out]; exact hlt
        obtain ⟨b1, o1, rfl, hc1⟩ := HA.out.cellAt hka
        obtain ⟨b2, o2, rfl, hc2⟩ := HB.out.cellAt hkb
        have c1 : wr.cell? ⟨b1, o1 + k, none⟩ = some (.int .i64 (a.getD k 0)) := by rw [hq]; exact hc1 k hka
        have c2 : wr.cell? ⟨b2, o2 + k, none⟩ = some (.int .i64 (b.getD k 0)) := by rw [hq]; exact hc2 k hkb
        have HKB := hid hkb
        have HKA := hid hka
        have HQ := hid hq
        clear hc1 hc2 hka hkb hq
        obtain ⟨X, HX⟩ : ∃ X, Hid (a.getD k 0 = X) := ⟨_, hid rfl⟩
        obtain ⟨Y, HY⟩ : ∃ Y, Hid (b.getD k 0 = Y) := ⟨_, hid rfl⟩
        rw [HX.out] at c1
        rw [HY.out] at c2
        by_cases hxy : X = Y
        · have hb : (X != Y) = false := by simp [hxy]
          have HXY := hid hxy
          clear hxy
          go_wp2
          go_quiet (fail)
          all_goals
            go_wp2
            go_roundw
            case rel => exact ⟨k + 1, by omega, by go_num, ⟨_, by rw [HQ.out, drewN_add]⟩, eq_step HR.out.2 (by rw [HX.out, HY.out, HXY.out])⟩
            case measure => simp [intOf]; omega
        · have hb : (X != Y) = true := by simp [hxy]
          have HXY := hid hxy
          clear hxy
          go_wp2
          go_quiet (fail)
          all_goals
            go_wp2
            go_ret
            refine ⟨?_, _, by rw [HQ.out, drewN_add]⟩
            have : ¬ a = b := fun h => HXY.out (by rw [← HX.out, ← HY.out, h])
            rw [decide_eq_false this]
            rfl
      · have hlt' : ¬ (k : Int) < (m : Int) := by omega
        go_wp2
        go_ret
        refine ⟨?_, HR.out.1⟩
        rw [decide_eq_true (eq_of_getD (by rw [HM.out, HN.out]) (by rw [HM.out]; exact hlt) HR.out.2)]
        rfl
  · have hne : ((m : Int) != (n : Int)) = true := by simp; omega
    have HE : Hid (decide (a = b) = false) := decide_eq_false (fun h => hmn (by rw [← hm, ← hn, h]))
    clear ha hb hm hn
    rw [HE.out]
    go_enter Tryz.func27, Tryz.ntmps27
    go_wp2
    go_ret
    exact ⟨rfl, 0, rfl⟩

theorem bt {w w0 w1 : World} (h : Below w.heap.size w w0) (hb : Below w0.heap.size w0 w1) : Below w.heap.size w w1 := h.trans (hb.mono h.size)
theorem bytes_inj {a b : ByteArray} (h : a.toList = b.toList) : a = b := by
  rw [ByteArray.toList_eq, ByteArray.toList_eq] at h
  exact ByteArray.ext (Array.toList_inj.1 h)
theorem ev_two (w : World) (x y : EvM) : Below w.heap.size w ((w.alloc (.cells x.cells.toArray 97)).alloc (.cells y.cells.toArray 97)) := ((Below.refl _ _).alloc (Nat.le_refl _) _).alloc (by simp) _
theorem ev_blk1 (w : World) (x y : EvM) : Blk ((w.alloc (.cells x.cells.toArray 97)).alloc (.cells y.cells.toArray 97)) w.heap.size 97 x.cells := (Blk.new w _ _).alloc _
theorem ev_blk2 (w : World) (x y : EvM) : Blk ((w.alloc (.cells x.cells.toArray 97)).alloc (.cells y.cells.toArray 97)) (w.heap.size + 1) 97 y.cells := by
  have := Blk.new (w.alloc (.cells x.cells.toArray 97)) 97 y.cells
  rw [World.size_alloc] at this
  exact this
end Go.Proofs.YtfmnbehopdmahaaGreat
/-
  Maps with strings as keys and ints as elements: what lies in them, ranging over them. No function of the program is named here.
-/
namespace Go.Proofs.YtfmnbehopdmahaaGreat
open Go.RowKit Go.Maps

def key (s : ByteArray) : Lit := .string s.data.toList
theorem key_inj {s t : ByteArray} (h : key s = key t) : s = t := by
  unfold key at h
  simp at h
  exact ByteArray.ext h
theorem Tryz.keyedStr : Keyed Tryz.prog 9 := string_keyed Tryz.underlying9
theorem Tryz.keyStr {s : ByteArray} (h : s.size ≤ maxLen) : keyOf Tryz.prog 9 (.string s) = some (key s) := by
  have hk := Tryz.underlying9
  simp [keyOf, hk, mapKey, h, key]
theorem keyStr_inv {k : Value} {kl : Lit} (h : keyOf Tryz.prog 9 k = some kl) : ∃ s, k = .string s ∧ kl = key s ∧ s.size ≤ maxLen := by
  have hk := Tryz.underlying9
  obtain ⟨s, rfl⟩ := Maps.keyOf_string_inv hk h
  simp [keyOf, hk, mapKey] at h
  exact ⟨s, rfl, h.2.symm, h.1⟩
theorem key_same (s t : ByteArray) : (key s).sameKey (key t) = decide (s = t) := by
  by_cases h : s = t
  · subst h
    rw [decide_eq_true rfl]
    exact WideAt.sameKey_self (by simp [key, WideAt.IsKeyLit])
  · rw [decide_eq_false h]
    exact sameKey_ne (fun e => h (key_inj e))
theorem row_not_iter {w : World} {base size k n r bm cnt : Nat} {e : TypeId} {u : Value} {xs : List Value} (hr : w.ownsRow base e size u k xs) {P : Program} {kt : TypeId} {D : DataW Value} {left : Lit → Bool} (hm : w.ranges P kt valR bm r n D left cnt) : some r ≠ u.ownBlock ∧ some bm ≠ u.ownBlock := by
  refine ⟨?_, row_not_map hr hm.owns⟩
  obtain ⟨es, clock, since, seen, c0, _, _, _, _, hb, _⟩ := hm
  rcases hr.2 with ⟨rfl, _⟩ | ⟨g, cap, cur, rfl, _, hg, _⟩
  · simp [Value.ownBlock]
  · intro he
    have e1 : r = g := by simpa [Value.ownBlock] using he
    subst e1
    rw [hb] at hg
    cases hg
theorem own_slice' {w : World} {B e n sz : Nat} {v : Value} {xs : List Value} (h : w.ownsRow B e sz v n xs) : ∃ eo cap, v = .slice eo n cap := by
  rcases h.2 with ⟨rfl, rfl⟩ | ⟨g, cap, cur, rfl, _⟩
  · exact ⟨_, _, rfl⟩
  · exact ⟨_, _, rfl⟩

section
variable {P : Program} (w : World) {ops : Array Oper} {rest : List Oper} {o : Oper} {a : Act} {Q : Exit → Act → World → Prop}
/-- The step of a range over a map with strings as keys. -/
theorem wpList_next_str (hg : o.guard = none) (it : Operand) (hop : o.op = Op.next it false) (b r n : Nat) (D : DataW Value) (left : Lit → Bool) (cnt : Nat)
    (hit : a.eval it = .pointer (some ⟨r, 0, none⟩)) (h : w.ranges Tryz.prog 9 valR b r n D left cnt)
    (hDone : cnt = 0 → (∀ kl, left kl = false) → wpList Tryz.prog ops Q rest (a.put o.dst (.tuple #[.bool false])) w)
    (hMore : ∀ (s : ByteArray) (v : Value) (w' : World) (cnt' : Nat), s.size ≤ maxLen → look D (key s) = some v → left (key s) = true → w'.ranges Tryz.prog 9 valR b r n D (fun z => left z && !z.sameKey (key s)) cnt' → cnt' < cnt → w.grownBy w' (some r) → w'.heap.size = w.heap.size →
      (Instr.entry (.pointer (some ⟨r, 0, none⟩))).run Tryz.prog w' = .ok (.tuple #[.string s, v]) w' → wpList Tryz.prog ops Q rest (a.put o.dst (.tuple #[.bool true, .string s, v])) w') :
    wpList Tryz.prog ops Q (o :: rest) a w := by
  refine wpList_plain hg fun K' hK' => ?_
  unfold Oper.wp
  rcases h.next Tryz.keyedStr o.type with ⟨h0, hl, hrun⟩ | ⟨k, v, kl, y, w', cnt', hkey, hlk, hv, hat, hrun, hrg, hlt, hgr, hsz, hen⟩
  · simp [execOp, hop, hit, hrun, Result.andThen]
    exact hK' _ _ (hDone h0 hl)
  · obtain ⟨s, rfl, rfl, hs⟩ := keyStr_inv hkey
    unfold valR at hv
    cases hv
    simp [execOp, hop, hit, hrun, Result.andThen]
    exact hK' _ _ (hMore s v w' cnt' hs (look_at hat) hlk hrg hlt hgr hsz hen)
end

/-- What has come of a map, and what is left. -/
structure CollS (D : DataW Value) (left : Lit → Bool) (ss : List (ByteArray × Int)) : Prop where
  nodup : (ss.map (·.1)).Nodup
  come : ∀ s q, (s, q) ∈ ss → s.size ≤ maxLen ∧ look D (key s) = some (.int .i64 q) ∧ left (key s) = false
  rest : ∀ s q, s.size ≤ maxLen → look D (key s) = some (.int .i64 q) → left (key s) = false → (s, q) ∈ ss
theorem CollS.start {D : DataW Value} (hD : AllHeld D) : CollS D (Maps.has D) [] :=
  ⟨.nil, fun _ _ h => (by cases h), fun s q _ h1 h2 => by rw [has_look hD, h1] at h2; cases h2⟩
theorem CollS.step {D : DataW Value} {left : Lit → Bool} {ss : List (ByteArray × Int)} (h : CollS D left ss) {s : ByteArray} {q : Int} (hs : s.size ≤ maxLen) (hl : left (key s) = true) (hv : look D (key s) = some (.int .i64 q)) : CollS D (fun z => left z && !z.sameKey (key s)) (ss ++ [(s, q)]) := by
  have hn : s ∉ ss.map (·.1) := fun hm => by
    obtain ⟨⟨s', q'⟩, hm', rfl⟩ := List.mem_map.1 hm
    have := (h.come s' q' hm').2.2
    rw [hl] at this
    cases this
  refine ⟨?_, ?_, ?_⟩
  · rw [List.map_append, List.nodup_append]
    exact ⟨h.nodup, by simp, fun a ha b hb => by simp at hb; subst hb; rintro rfl; exact hn ha⟩
  · intro s' q' hm
    rcases List.mem_append.1 hm with hm | hm
    · obtain ⟨h0, h1, h2⟩ := h.come s' q' hm
      exact ⟨h0, h1, by simp [h2]⟩
    · simp at hm
      obtain ⟨rfl, rfl⟩ := hm
      exact ⟨hs, hv, by simp [key_same]⟩
  · intro s' q' h0 h1 h2
    simp only [key_same] at h2
    by_cases e : s' = s
    · subst e
      rw [hv] at h1
      cases h1
      simp
    · simp [e] at h2
      exact List.mem_append.2 (.inl (h.rest s' q' h0 h1 h2))
theorem CollS.done {D : DataW Value} {left : Lit → Bool} {ss : List (ByteArray × Int)} (h : CollS D left ss) (hl : ∀ kl, left kl = false) : ∀ s q, (s, q) ∈ ss ↔ s.size ≤ maxLen ∧ look D (key s) = some (.int .i64 q) :=
  fun s q => ⟨fun hm => ⟨(h.come s q hm).1, (h.come s q hm).2.1⟩, fun hv => h.rest s q hv.1 hv.2 (hl _)⟩
theorem size_le {w : World} {P : Program} {k : TypeId} {b n : Nat} {D : DataW Value} (h : w.ownsMap P k valR b n D) : Maps.size D ≤ n := by
  obtain ⟨es, clock, _, _, hs, rfl⟩ := h
  have e1 : Maps.size (DataW.map ((es.toList.map (Go.WideElems.rg P k valR)).foldr DataW.insert [])) = es.size := by simp [Maps.size, length_sorted]
  omega
end Go.Proofs.YtfmnbehopdmahaaGreat
/-
  codec.Seal of a seal without a cut.
-/
namespace Go.Proofs.YtfmnbehopdmahaaGreat
open Go.RowKit Go.Maps

theorem upTo_any (w : World) (x m : Int) : Calls Tryz.prog 93 #[.int .i64 x, .int .i64 m] w fun e w' => e = .returned (.bool (decide (0 ≤ x ∧ x ≤ m))) ∧ w' = w := by
  by_cases h0 : 0 ≤ x
  · by_cases h1 : x ≤ m
    · have HD : Hid (decide (0 ≤ x ∧ x ≤ m) = true) := decide_eq_true ⟨h0, h1⟩
      rw [HD.out]
      go_enter Tryz.func93, Tryz.ntmps93
      go_wp2
      go_ret
      exact ⟨by simp, rfl⟩
    · have HD : Hid (decide (0 ≤ x ∧ x ≤ m) = false) := decide_eq_false fun h => h1 h.2
      rw [HD.out]
      go_enter Tryz.func93, Tryz.ntmps93
      go_wp2
      go_ret
      exact ⟨by simp, rfl⟩
  · have HD : Hid (decide (0 ≤ x ∧ x ≤ m) = false) := decide_eq_false fun h => h0 h.1
    rw [HD.out]
    go_enter Tryz.func93, Tryz.ntmps93
    go_wp2
    go_ret
    exact ⟨by simp, rfl⟩
theorem every_nil (w : World) (f : Value) : Calls Tryz.prog 178 #[.slice none 0 0, f] w fun e w' => e = .returned (.bool true) ∧ w' = w := by
  go_enter Tryz.func178, Tryz.ntmps178
  go_wp2
  refine wp_loop_rounds 1 ?_
  rw [rounds_succ]
  go_wp2
  go_ret
  exact ⟨rfl, rfl⟩
theorem mayList_nil (w : World) (f : Value) : Calls Tryz.prog 145 #[.slice none 0 0, .int .i64 7, f] w fun e w' => e = .returned (.bool true) ∧ w' = w := by
  have H := hid (every_nil w f)
  go_enter Tryz.func145, Tryz.ntmps145
  go_wp2_with fail
  refine H.out.mono ?_
  rintro e w' ⟨rfl, rfl⟩
  go_wp2
  go_ret
  exact ⟨rfl, rfl⟩
theorem plain_nil (w : World) : Calls Tryz.prog 126 #[.slice none 0 0] w fun e w' => e = .returned (.bool true) ∧ w' = w := by
  go_enter Tryz.func126, Tryz.ntmps126
  go_wp2
  go_ret
  exact ⟨rfl, rfl⟩
theorem mayVector_nil (w : World) : Calls Tryz.prog 98 #[.slice none 0 0] w fun e w' => e = .returned (.bool true) ∧ w' = w := by
  have H := hid (fun f => mayList_nil w f)
  have H2 := hid (plain_nil w)
  go_enter Tryz.func98, Tryz.ntmps98
  go_wp2_with fail
  refine (H.out _).mono ?_
  rintro e w' ⟨rfl, rfl⟩
  go_wp2_with fail
  refine H2.out.mono ?_
  rintro e w' ⟨rfl, rfl⟩
  go_wp2
  go_ret
  exact ⟨rfl, rfl⟩
theorem nameS_size {s : ByteArray} (h : nameS s = true) : s.size ≤ 32 := by
  unfold nameS at h
  simp at h
  omega
theorem maySeal0_any (w : World) (tok cart : ByteArray) (h1 : nameS tok = true) (h2 : nameS cart = true) (ep : Int) (h3 : 0 ≤ ep ∧ ep ≤ 2147483647) :
    Calls Tryz.prog 143 #[.agg #[.string tok, .string cart, .int .i64 ep, .slice none 0 0]] w fun e w' => e = .returned (.bool true) ∧ Below w.heap.size w w' := by
  have hz1 := nameS_size h1
  have hz2 := nameS_size h2
  have HN1 := hid (fun V => codecName_any tok V (by unfold maxLen; omega))
  have HN2 := hid (fun V => codecName_any cart V (by unfold maxLen; omega))
  rw [h1] at HN1
  rw [h2] at HN2
  have HU := hid (fun V => upTo_any V ep 2147483647)
  rw [decide_eq_true h3] at HU
  have HM := hid mayVector_nil
  have HB : Hid (Below w.heap.size w (w.alloc (.cells #[.string tok, .string cart, .int .i64 ep, .slice none 0 0] 37))) := (Below.refl _ _).alloc (Nat.le_refl _) _
  have hk := Blk.new w 37 [.string tok, .string cart, .int .i64 ep, .slice none 0 0]
  have c0 := hk.cell (i := 0) rfl
  have c1 := hk.cell (i := 1) rfl
  have c2 := hk.cell (i := 2) rfl
  have c3 := hk.cell (i := 3) rfl
  clear hk h1 h2 h3 hz1 hz2
  go_enter Tryz.func143, Tryz.ntmps143
  go_wp2_with fail
  refine (HN1.out _).mono ?_
  rintro e w' ⟨rfl, rfl⟩
  go_wp2_with fail
  refine (HN2.out _).mono ?_
  rintro e w' ⟨rfl, rfl⟩
  go_wp2_with fail
  refine (HU.out _).mono ?_
  rintro e w' ⟨rfl, rfl⟩
  go_wp2_with fail
  refine (HM.out _).mono ?_
  rintro e w' ⟨rfl, rfl⟩
  go_wp2
  go_ret
  exact ⟨rfl, HB.out⟩
theorem appendNumber_own (v : Value) (n : Nat) (bs : List Int) (x : Int) (B : Nat) (w : World) (h0 : 0 ≤ x) (hx : x ≤ 9223372036854775807) (hown : w.ownsRow B 5 1 v n (nums bs)) (hB : B ≤ w.heap.size) (hn : n ≤ 140737488355000) :
    Calls Tryz.prog 101 #[v, .int .i64 x] w fun e w' => ∃ v', e = .returned v' ∧ w'.ownsRow B 5 1 v' (n + (enc x.toNat).length) (nums (bs ++ enc x.toNat)) ∧ Below B w w' := by
  have H := hid (appendUint_own v n bs x B w h0 (by omega) hown hB hn)
  have hwr : IntKind.u64.wrap x = x := by rw [IntKind.wrap_u64]; omega
  clear hown
  go_enter Tryz.func101, Tryz.ntmps101
  go_wp2_with fail
  refine H.out.mono ?_
  rintro e w' ⟨v', rfl, h1, h2⟩
  have H1 := hid h1
  have H2 := hid h2
  clear h1 h2
  go_wp2
  go_ret
  exact ⟨v', rfl, H1.out, H2.out⟩
theorem appendVector_nil (v : Value) (n : Nat) (bs : List Int) (B : Nat) (w : World) (hown : w.ownsRow B 5 1 v n (nums bs)) (hB : B ≤ w.heap.size) (hn : n ≤ 140737488355000) :
    Calls Tryz.prog 106 #[v, .slice none 0 0] w fun e w' => ∃ v', e = .returned v' ∧ w'.ownsRow B 5 1 v' (n + (enc 0).length) (nums (bs ++ enc 0)) ∧ Below B w w' := by
  have HL : Hid (∀ f, Calls Tryz.prog 152 #[v, .slice none 0 0, f] w fun e w' => ∃ v', e = .returned v' ∧ w'.ownsRow B 5 1 v' (n + (enc 0).length) (nums (bs ++ enc 0)) ∧ Below B w w') := fun f => by
    have H := hid (appendUint_own v n bs 0 B w (Int.le_refl _) (by omega) hown hB hn)
    go_enter Tryz.func152, Tryz.ntmps152
    go_wp2_with fail
    refine H.out.mono ?_
    rintro e w' ⟨v', rfl, h1, h2⟩
    have H1 := hid h1
    have H2 := hid h2
    clear h1 h2
    go_wp2
    refine wp_loop_rounds 1 ?_
    rw [rounds_succ]
    go_wp2
    go_ret
    exact ⟨v', rfl, H1.out, H2.out⟩
  clear hown
  go_enter Tryz.func106, Tryz.ntmps106
  go_wp2_with fail
  refine (HL.out _).mono ?_
  rintro e w' ⟨v', rfl, h1, h2⟩
  have H1 := hid h1
  have H2 := hid h2
  clear h1 h2
  go_wp2
  go_ret
  exact ⟨v', rfl, H1.out, H2.out⟩
theorem appendSeal0_any (w : World) (tok cart : ByteArray) (h1 : tok.size ≤ 32) (h2 : cart.size ≤ 32) (ep : Int) (h3 : 0 ≤ ep ∧ ep ≤ 2147483647) :
    Calls Tryz.prog 151 #[.slice none 0 0, .agg #[.string tok, .string cart, .int .i64 ep, .slice none 0 0]] w fun e w' => (∃ o n c, e = .returned (.slice o n c) ∧ n ≤ 200) ∧ Below w.heap.size w w' := by
  obtain ⟨W, hW⟩ : ∃ W, W = w.alloc (.cells #[.string tok, .string cart, .int .i64 ep, .slice none 0 0] 37) := ⟨_, rfl⟩
  have HB : Hid (Below w.heap.size w W) := by rw [hW]; exact (Below.refl _ _).alloc (Nat.le_refl _) _
  have HK : Hid (Blk W w.heap.size 37 [.string tok, .string cart, .int .i64 ep, .slice none 0 0]) := by rw [hW]; exact Blk.new w _ _
  have l1 := encText_len tok
  have l2 := encText_len cart
  have m1 := enc_le10 (x := tok.size) (by omega)
  have m2 := enc_le10 (x := cart.size) (by omega)
  have m3 := enc_le10 (x := ep.toNat) (by omega)
  have m4 := enc_le10 (x := 0) (by omega)
  have HT1 := hid (appendText_own (.slice none 0 0) 0 [] tok W.heap.size W (World.ownsRow_nil _ _ _ _) (Nat.le_refl _) (by omega))
  obtain ⟨a1, ha1⟩ : ∃ a, a = (encText tok).length := ⟨_, rfl⟩
  obtain ⟨a2, ha2⟩ : ∃ a, a = (encText cart).length := ⟨_, rfl⟩
  obtain ⟨a3, ha3⟩ : ∃ a, a = (enc ep.toNat).length := ⟨_, rfl⟩
  obtain ⟨a4, ha4⟩ : ∃ a, a = (enc 0).length := ⟨_, rfl⟩
  have hs : a1 + a2 + a3 + a4 ≤ 104 := by omega
  rw [← ha1] at HT1
  have HT2 := hid (fun v bs V (hr : V.ownsRow W.heap.size 5 1 v (0 + a1) (nums bs)) (hV : W.heap.size ≤ V.heap.size) => appendText_own v (0 + a1) bs cart W.heap.size V hr hV (by omega))
  rw [← ha2] at HT2
  have HT3 := hid (fun v bs V (hr : V.ownsRow W.heap.size 5 1 v (0 + a1 + a2) (nums bs)) (hV : W.heap.size ≤ V.heap.size) => appendNumber_own v (0 + a1 + a2) bs ep W.heap.size V h3.1 (by omega) hr hV (by omega))
  rw [← ha3] at HT3
  have HT4 := hid (fun v bs V (hr : V.ownsRow W.heap.size 5 1 v (0 + a1 + a2 + a3) (nums bs)) (hV : W.heap.size ≤ V.heap.size) => appendVector_nil v (0 + a1 + a2 + a3) bs W.heap.size V hr hV (by omega))
  rw [← ha4] at HT4
  have c0 := HK.out.cell (i := 0) rfl
  have HW := hid hW
  clear hW l1 l2 m1 m2 m3 m4 ha1 ha2 ha3 ha4 h3
  rw [HW.out] at c0
  go_enter Tryz.func151, Tryz.ntmps151
  go_wp2_with fail
  rw [← HW.out]
  obtain ⟨p, hp⟩ : ∃ p, p = w.heap.size := ⟨_, rfl⟩
  rw [← hp] at HK ⊢
  have HPP := hid hp
  clear hp c0
  refine HT1.out.mono ?_
  rintro e w1 ⟨v1, rfl, hr1, hb1⟩
  have HR1 := hid hr1
  have HB1 := hid hb1
  have c1 := (HK.out.below hb1 HK.out.lt).cell (i := 1) rfl
  clear hr1 hb1 HT1
  go_wp2_with fail
  refine (HT2.out _ _ _ HR1.out HB1.out.size).mono ?_
  rintro e w2 ⟨v2, rfl, hr2, hb2⟩
  have HR2 := hid hr2
  have HB2 := hid (HB1.out.trans hb2)
  have c2 := (HK.out.below HB2.out HK.out.lt).cell (i := 2) rfl
  clear hr2 hb2 HT2
  go_wp2_with fail
  refine (HT3.out _ _ _ HR2.out HB2.out.size).mono ?_
  rintro e w3 ⟨v3, rfl, hr3, hb3⟩
  have HR3 := hid hr3
  have HB3 := hid (HB2.out.trans hb3)
  have c3 := (HK.out.below HB3.out HK.out.lt).cell (i := 3) rfl
  clear hr3 hb3 HT3
  go_wp2_with fail
  refine (HT4.out _ _ _ HR3.out HB3.out.size).mono ?_
  rintro e w4 ⟨v4, rfl, hr4, hb4⟩
  obtain ⟨o, c, hv⟩ := own_slice' hr4
  have HB4 := hid (HB3.out.trans hb4)
  subst hv
  clear hr4 hb4 HT4
  go_wp2
  go_ret
  exact ⟨⟨_, _, _, rfl, by omega⟩, bt HB.out HB4.out⟩
end Go.Proofs.YtfmnbehopdmahaaGreat
/-
  Package cut: sealsOf, Epoch; to which seal an event belongs.
-/
namespace Go.Proofs.YtfmnbehopdmahaaGreat
open Go.RowKit Go.Maps

/-- Does e belong to s? -/
def Bel (e : Ev) (s : Sl) : Prop := s.cart = e.cart ∧ e.epoch ≤ s.ep ∧ HasV s.cut e.o e.s
instance (e : Ev) (s : Sl) : Decidable (Bel e s) := by unfold Bel; infer_instance
def ownOf (name : ByteArray) (xs : List SlM) : List SlM := xs.filter fun x => decide (x.e.cart = name)
/-- A new row of seals. -/
def MadeS (w : World) (ys : List SlM) (e : Ending) (w' : World) : Prop :=
  ∃ v, e = .returned v ∧ w'.ownsRow w.heap.size 37 4 v ys.length (flatS ys) ∧ Below w.heap.size w w'
theorem own_take {name : ByteArray} {xs : List SlM} {k : Nat} (hk : k < xs.length) : ownOf name (xs.take (k + 1)) = ownOf name (xs.take k) ++ (if xs[k].e.cart = name then [xs[k]] else []) := by
  unfold ownOf
  rw [List.take_succ_eq_append_getElem hk, List.filter_append]
  by_cases h : xs[k].e.cart = name
  · rw [if_pos h]
    simp [h]
  · rw [if_neg h]
    simp [h]
theorem ownOf_len (name : ByteArray) (xs : List SlM) : (ownOf name xs).length ≤ xs.length := List.length_filter_le _ _
theorem ownOf_sub {name : ByteArray} {xs : List SlM} : ∀ x ∈ ownOf name xs, x ∈ xs := fun _ hx => (List.mem_filter.1 hx).1
end Go.Proofs.YtfmnbehopdmahaaGreat
/-
  The document's RightSeal and Epoch.
-/
namespace Go.Proofs.YtfmnbehopdmahaaGreat
open Go.RowKit Go.Maps

theorem rto_any (w : World) (x m : Int) : Calls Tryz.prog 62 #[.int .i64 x, .int .i64 m] w fun e w' => e = .returned (.bool (decide (0 ≤ x ∧ x ≤ m))) ∧ w' = w := by
  by_cases h0 : 0 ≤ x
  · by_cases h1 : x ≤ m
    · have HD : Hid (decide (0 ≤ x ∧ x ≤ m) = true) := decide_eq_true ⟨h0, h1⟩
      rw [HD.out]
      go_enter Tryz.func62, Tryz.ntmps62
      go_wp2
      go_ret
      exact ⟨by simp, rfl⟩
    · have HD : Hid (decide (0 ≤ x ∧ x ≤ m) = false) := decide_eq_false fun h => h1 h.2
      rw [HD.out]
      go_enter Tryz.func62, Tryz.ntmps62
      go_wp2
      go_ret
      exact ⟨by simp, rfl⟩
  · have HD : Hid (decide (0 ≤ x ∧ x ≤ m) = false) := decide_eq_false fun h => h0 h.1
    rw [HD.out]
    go_enter Tryz.func62, Tryz.ntmps62
    go_wp2
    go_ret
    exact ⟨by simp, rfl⟩
def InV (v : List Int) : Prop := ∀ x ∈ v, 0 ≤ x ∧ x ≤ 2147483647
instance (v : List Int) : Decidable (InV v) := by unfold InV; infer_instance
def rightV (v : List Int) : Bool := decide (InV v) && (decide (v.length ≤ 7) && (decide (v.length = 0) || decide (v.getD (v.length - 1) 0 ≠ 0)))
set_option maxRecDepth 100000 in
set_option maxHeartbeats 1000000 in
theorem rvector_any (w : World) (ao : Option Addr) (cap : Nat) (v : List Int) (n : Nat) (hn : v.length = n) (h : HV w ao cap v) :
    Calls Tryz.prog 65 #[.slice ao n cap] w fun e w' => e = .returned (.bool (rightV v)) ∧ w' = w := by
  have HN := hid hn
  have H := hid h
  have hfew := h.few
  rw [hn] at hfew
  have HT := hid (fun x => rto_any w x 2147483647)
  clear hn h
  go_enter Tryz.func65, Tryz.ntmps65
  go_wp2
  go_loop [3] (fun x => ∃ k : Nat, k ≤ n ∧ x = .int .i64 k ∧ Hid (∀ a, a < k → 0 ≤ v.getD a 0 ∧ v.getD a 0 ≤ 2147483647)) (fun x => n - (intOf x).toNat)
  case atStart => exact ⟨0, Nat.zero_le _, rfl, fun a ha => absurd ha (Nat.not_lt_zero _)⟩
  case round =>
    obtain ⟨k, hk, rfl, HA⟩ := hrel
    by_cases hlt : k < n
    · have hlt' : (k : Int) < (n : Int) := by omega
      have hkx : Hid (k < v.length) := (by rw [HN.out]; exact hlt : k < v.length)
      have HKM : Hid (k + 1 ≤ n) := (by omega : k + 1 ≤ n)
      rcases H.out.held.2 with h0 | ⟨b, off, hao, hb, hc⟩
      · exfalso
        have := hkx.out
        rw [h0] at this
        cases this
      have gk := hc k hkx.out
      subst hao
      clear hc
      obtain ⟨X, HX⟩ : ∃ X, Hid (v.getD k 0 = X) := ⟨_, hid rfl⟩
      rw [HX.out] at gk
      go_wp2_with fail
      refine (HT.out X).mono ?_
      rintro e w' ⟨rfl, rfl⟩
      by_cases hr : 0 ≤ X ∧ X ≤ 2147483647
      · rw [decide_eq_true hr]
        have HRR := hid hr
        clear hr
        go_wp2
        go_round
        case rel =>
          refine ⟨k + 1, HKM.out, by go_num, fun a hak => ?_⟩
          by_cases e : a = k
          · subst e
            rw [HX.out]
            exact HRR.out
          · exact HA.out a (by omega)
        case measure => simp [intOf]; have := HKM.out; omega
      · rw [decide_eq_false hr]
        have HV0 : Hid (rightV v = false) := by
          show _ = _
          unfold rightV
          rw [decide_eq_false (fun hh => hr (by have := hh _ (List.getElem_mem hkx.out); rw [show v[k]'hkx.out = X by rw [← HX.out]; simp [List.getD, List.getElem?_eq_getElem hkx.out]] at this; exact this)), Bool.false_and]
        clear hr
        go_wp2
        go_ret
        exact ⟨by rw [HV0.out]; rfl, rfl⟩
    · have hlt' : ¬ (k : Int) < (n : Int) := by omega
      have HIN : Hid (rightV v = (decide (n ≤ 7) && (decide (n = 0) || decide (v.getD (n - 1) 0 ≠ 0)))) := by
        have h1 : InV v := fun x hx => by
          obtain ⟨a, ha, rfl⟩ := List.mem_iff_getElem.1 hx
          have := HA.out a (by have := HN.out; omega)
          simp only [List.getD, List.getElem?_eq_getElem ha, Option.getD] at this
          exact this
        show _ = _
        unfold rightV
        rw [decide_eq_true h1, Bool.true_and, HN.out]
      by_cases h7 : n ≤ 7
      rotate_left 1
      · have h7' : ¬ (n : Int) ≤ 7 := by omega
        have HF : Hid (rightV v = false) := by show _ = _; rw [HIN.out, decide_eq_false h7, Bool.false_and]
        go_wp2
        go_ret
        exact ⟨by rw [HF.out]; rfl, rfl⟩
      have h7' : (n : Int) ≤ 7 := by omega
      by_cases h0 : n = 0
      · have HF : Hid (rightV v = true) := by show _ = _; rw [HIN.out, decide_eq_true h7, decide_eq_true h0]; rfl
        subst h0
        go_wp2
        go_ret
        exact ⟨by rw [HF.out]; rfl, rfl⟩
      · have h0' : ¬ (n : Int) = 0 := by omega
        have hb0 : ((n : Int) == 0) = false := by simpa using h0'
        obtain ⟨X, HX⟩ : ∃ X, Hid (v.getD (n - 1) 0 = X) := ⟨_, hid rfl⟩
        have HF : Hid (rightV v = decide (X ≠ 0)) := by show _ = _; rw [HIN.out, HX.out, decide_eq_true h7, decide_eq_false h0, Bool.true_and, Bool.false_or]
        have hnx : Hid (n - 1 < v.length) := (by rw [HN.out]; omega : n - 1 < v.length)
        rcases H.out.held.2 with hn0 | ⟨b, off, hao, hb, hc⟩
        · exfalso
          have := hnx.out
          rw [hn0] at this
          cases this
        have gk := hc (n - 1) hnx.out
        subst hao
        clear hc HIN
        rw [HX.out] at gk
        obtain ⟨j, rfl⟩ : ∃ j, n = j + 1 := ⟨n - 1, by omega⟩
        rw [Nat.add_sub_cancel] at gk
        have hsub : IntKind.i64.wrap (((j + 1 : Nat) : Int) - 1) = (j : Int) := by rw [IntKind.wrap_i64]; omega
        have hjlt : (j : Int) < ((j + 1 : Nat) : Int) := by omega
        go_wp2
        go_ret
        exact ⟨by rw [HF.out]; refine ret_bool ?_; by_cases h : X = 0; (subst h; rfl); (simp [h]; try rfl), rfl⟩
def RightSl (s : Sl) : Bool := nameS s.tok && (nameS s.cart && (decide (0 ≤ s.ep ∧ s.ep ≤ 2147483647) && rightV s.cut))
set_option maxRecDepth 100000 in
set_option maxHeartbeats 1000000 in
theorem rseal_any (w : World) (x : SlM) (hx : SlOk w x) :
    Calls Tryz.prog 109 #[x.val] w fun e w' => e = .returned (.bool (RightSl x.e)) ∧ Below w.heap.size w w' := by
  obtain ⟨⟨tok, cart, ep, cut⟩, ao1, cap1⟩ := x
  obtain ⟨XN, HXN⟩ : ∃ m, Hid (cut.length = m) := ⟨_, hid rfl⟩
  simp only [SlM.val]
  rw [HXN.out]
  have HB : Hid (Below w.heap.size w (w.alloc (.cells #[.string tok, .string cart, .int .i64 ep, .slice ao1 XN cap1] 37))) := (Below.refl _ _).alloc (Nat.le_refl _) _
  have hk := Blk.new w 37 [.string tok, .string cart, .int .i64 ep, .slice ao1 XN cap1]
  have c0 := hk.cell (i := 0) rfl
  have c1 := hk.cell (i := 1) rfl
  have c2 := hk.cell (i := 2) rfl
  have c3 := hk.cell (i := 3) rfl
  have HN1 := hid (fun V => refName_any tok V hx.ht)
  have HN2 := hid (fun V => refName_any cart V hx.hc)
  have HT := hid (fun V => rto_any V ep 2147483647)
  have HV' := hid (rvector_any (w.alloc (.cells #[.string tok, .string cart, .int .i64 ep, .slice ao1 XN cap1] 37)) ao1 cap1 cut XN HXN.out (hx.cut.below HB.out))
  have HR : Hid (RightSl ⟨tok, cart, ep, cut⟩ = (nameS tok && (nameS cart && (decide (0 ≤ ep ∧ ep ≤ 2147483647) && rightV cut)))) := rfl
  rw [HR.out]
  obtain ⟨b1, HB1⟩ : ∃ b, Hid (nameS tok = b) := ⟨_, hid rfl⟩
  obtain ⟨b2, HB2⟩ : ∃ b, Hid (nameS cart = b) := ⟨_, hid rfl⟩
  obtain ⟨b3, HB3⟩ : ∃ b, Hid (decide (0 ≤ ep ∧ ep ≤ 2147483647) = b) := ⟨_, hid rfl⟩
  obtain ⟨b4, HB4⟩ : ∃ b, Hid (rightV cut = b) := ⟨_, hid rfl⟩
  rw [HB1.out] at HN1 ⊢
  rw [HB2.out] at HN2 ⊢
  rw [HB3.out] at HT ⊢
  rw [HB4.out] at HV' ⊢
  clear hk hx HB1 HB2 HB3 HB4 HR
  cases b1
  · go_enter Tryz.func109, Tryz.ntmps109
    go_wp2_with fail
    refine (HN1.out _).mono ?_
    rintro e w' ⟨rfl, rfl⟩
    go_wp2
    go_ret
    exact ⟨rfl, HB.out⟩
  cases b2
  · go_enter Tryz.func109, Tryz.ntmps109
    go_wp2_with fail
    refine (HN1.out _).mono ?_
    rintro e w' ⟨rfl, rfl⟩
    go_wp2_with fail
    refine (HN2.out _).mono ?_
    rintro e w' ⟨rfl, rfl⟩
    go_wp2
    go_ret
    exact ⟨rfl, HB.out⟩
  cases b3
  · go_enter Tryz.func109, Tryz.ntmps109
    go_wp2_with fail
    refine (HN1.out _).mono ?_
    rintro e w' ⟨rfl, rfl⟩
    go_wp2_with fail
    refine (HN2.out _).mono ?_
    rintro e w' ⟨rfl, rfl⟩
    go_wp2_with fail
    refine (HT.out _).mono ?_
    rintro e w' ⟨rfl, rfl⟩
    go_wp2
    go_ret
    exact ⟨rfl, HB.out⟩
  go_enter Tryz.func109, Tryz.ntmps109
  go_wp2_with fail
  refine (HN1.out _).mono ?_
  rintro e w' ⟨rfl, rfl⟩
  go_wp2_with fail
  refine (HN2.out _).mono ?_
  rintro e w' ⟨rfl, rfl⟩
  go_wp2_with fail
  refine (HT.out _).mono ?_
  rintro e w' ⟨rfl, rfl⟩
  go_wp2_with fail
  refine HV'.out.mono ?_
  rintro e w' ⟨rfl, rfl⟩
  go_wp2
  go_ret
  exact ⟨rfl, HB.out⟩
end Go.Proofs.YtfmnbehopdmahaaGreat
/-
  Vectors that may be: codec.every, mayList, plain, mayVector tell 'rightV' of any vector; codec.appendList and appendVector write one behind an owned row.
-/
namespace Go.Proofs.YtfmnbehopdmahaaGreat
open Go.RowKit Go.Maps

theorem own_mono {w : World} {base base' : Nat} {e : TypeId} {size : Nat} {v : Value} {n : Nat} {xs : List Value} (h : w.ownsRow base e size v n xs) (hb : base' ≤ base) : w.ownsRow base' e size v n xs := by
  refine ⟨h.1, ?_⟩
  rcases h.2 with h1 | ⟨g, cap, cur, h1, h2, h3⟩
  · exact .inl h1
  · exact .inr ⟨g, cap, cur, h1, Nat.le_trans hb h2, h3⟩
theorem mayVec1_any (w : World) (x : Int) : Calls Tryz.prog 146 #[.int .i64 x] w fun e w' => e = .returned (.bool (decide (0 ≤ x ∧ x ≤ 2147483647))) ∧ w' = w := by
  have H := hid (upTo_any w x 2147483647)
  obtain ⟨r, HR⟩ : ∃ r, Hid (decide (0 ≤ x ∧ x ≤ 2147483647) = r) := ⟨_, hid rfl⟩
  rw [HR.out] at H ⊢
  clear HR
  go_enter Tryz.func146, Tryz.ntmps146
  go_wp2_with fail
  refine H.out.mono ?_
  rintro e w' ⟨rfl, rfl⟩
  go_wp2
  go_ret
  exact ⟨rfl, rfl⟩
set_option maxRecDepth 100000 in
set_option maxHeartbeats 1000000 in
theorem every_any (w : World) (ao : Option Addr) (cap : Nat) (v : List Int) (n : Nat) (hn : v.length = n) (h : HV w ao cap v) :
    Calls Tryz.prog 178 #[.slice ao n cap, .func (.func 146) #[] #[]] w fun e w' => e = .returned (.bool (decide (InV v))) ∧ w' = w := by
  have HN := hid hn
  have H := hid h
  have hfew := h.few
  rw [hn] at hfew
  have HT := hid (fun x => mayVec1_any w x)
  clear hn h
  go_enter Tryz.func178, Tryz.ntmps178
  go_wp2
  go_loop [6, 9] (fun _ x => ∃ k : Nat, k ≤ n ∧ x = .int .i64 k ∧ Hid (∀ a, a < k → 0 ≤ v.getD a 0 ∧ v.getD a 0 ≤ 2147483647)) (fun _ x => n - (intOf x).toNat)
  case atStart => exact ⟨0, Nat.zero_le _, rfl, fun a ha => absurd ha (Nat.not_lt_zero _)⟩
  case round =>
    obtain ⟨k, hk, rfl, HA⟩ := hrel
    by_cases hlt : k < n
    · have hlt' : (k : Int) < (n : Int) := by omega
      have hkx : Hid (k < v.length) := (by rw [HN.out]; exact hlt : k < v.length)
      have HKM : Hid (k + 1 ≤ n) := (by omega : k + 1 ≤ n)
      rcases H.out.held.2 with h0 | ⟨b, off, hao, hb, hc⟩
      · exfalso
        have := hkx.out
        rw [h0] at this
        cases this
      have gk := hc k hkx.out
      subst hao
      clear hc
      obtain ⟨X, HX⟩ : ∃ X, Hid (v.getD k 0 = X) := ⟨_, hid rfl⟩
      rw [HX.out] at gk
      go_wp2_with fail
      refine (HT.out X).mono ?_
      rintro e w' ⟨rfl, rfl⟩
      by_cases hr : 0 ≤ X ∧ X ≤ 2147483647
      · rw [decide_eq_true hr]
        have HRR := hid hr
        clear hr
        go_wp2
        go_round
        case rel =>
          refine ⟨k + 1, HKM.out, by go_num, fun a hak => ?_⟩
          by_cases e : a = k
          · subst e
            rw [HX.out]
            exact HRR.out
          · exact HA.out a (by omega)
        case measure => simp [intOf]; have := HKM.out; omega
      · rw [decide_eq_false hr]
        have HV0 : Hid (decide (InV v) = false) := by
          show _ = _
          rw [decide_eq_false (fun hh => hr (by have := hh _ (List.getElem_mem hkx.out); rw [show v[k]'hkx.out = X by rw [← HX.out]; simp [List.getD, List.getElem?_eq_getElem hkx.out]] at this; exact this))]
        clear hr
        go_wp2
        go_ret
        exact ⟨by rw [HV0.out]; rfl, rfl⟩
    · have hlt' : ¬ (k : Int) < (n : Int) := by omega
      have HIN : Hid (decide (InV v) = true) := by
        refine decide_eq_true fun x hx => ?_
        obtain ⟨a, ha, rfl⟩ := List.mem_iff_getElem.1 hx
        have := HA.out a (by have := HN.out; omega)
        simp only [List.getD, List.getElem?_eq_getElem ha, Option.getD] at this
        exact this
      go_wp2
      go_ret
      exact ⟨by rw [HIN.out]; rfl, rfl⟩
theorem mayList_any (w : World) (ao : Option Addr) (cap : Nat) (v : List Int) (n : Nat) (hn : v.length = n) (h : HV w ao cap v) :
    Calls Tryz.prog 145 #[.slice ao n cap, .int .i64 7, .func (.func 146) #[] #[]] w fun e w' => e = .returned (.bool (decide (n ≤ 7) && decide (InV v))) ∧ w' = w := by
  have H := hid (every_any w ao cap v n hn h)
  clear hn h
  obtain ⟨r, HR⟩ : ∃ r, Hid (decide (InV v) = r) := ⟨_, hid rfl⟩
  rw [HR.out] at H ⊢
  by_cases h7 : n ≤ 7
  · have h7' : (n : Int) ≤ 7 := by omega
    rw [decide_eq_true h7, Bool.true_and]
    clear h7
    go_enter Tryz.func145, Tryz.ntmps145
    go_wp2_with fail
    refine H.out.mono ?_
    rintro e w' ⟨rfl, rfl⟩
    go_wp2
    go_ret
    exact ⟨rfl, rfl⟩
  · have h7' : ¬ (n : Int) ≤ 7 := by omega
    rw [decide_eq_false h7, Bool.false_and]
    clear h7
    go_enter Tryz.func145, Tryz.ntmps145
    go_wp2
    go_ret
    exact ⟨rfl, rfl⟩
theorem codecPlain_ok (w : World) (ao : Option Addr) (cap : Nat) (v : List Int) (n : Nat) (hn : v.length = n) (h : HV w ao cap v) :
    Calls Tryz.prog 126 #[.slice ao n cap] w fun e w' => e = .returned (.bool (decide (n = 0) || decide (v.getD (n - 1) 0 ≠ 0))) ∧ w' = w := by
  have HN := hid hn
  have H := hid h
  have hfew := h.few
  rw [hn] at hfew
  clear hn h
  by_cases h0 : n = 0
  · subst h0
    rw [decide_eq_true rfl, Bool.true_or]
    go_enter Tryz.func126, Tryz.ntmps126
    go_wp2
    go_ret
    exact ⟨rfl, rfl⟩
  · have h0' : ¬ (n : Int) = 0 := by omega
    have hb0 : ((n : Int) == 0) = false := by simpa using h0'
    rw [decide_eq_false h0, Bool.false_or]
    obtain ⟨X, HX⟩ : ∃ X, Hid (v.getD (n - 1) 0 = X) := ⟨_, hid rfl⟩
    rw [HX.out]
    have hnx : Hid (n - 1 < v.length) := (by rw [HN.out]; omega : n - 1 < v.length)
    rcases H.out.held.2 with hn0 | ⟨b, off, hao, hb, hc⟩
    · exfalso
      have := hnx.out
      rw [hn0] at this
      cases this
    have gk := hc (n - 1) hnx.out
    subst hao
    clear hc
    rw [HX.out] at gk
    obtain ⟨j, rfl⟩ : ∃ j, n = j + 1 := ⟨n - 1, by omega⟩
    rw [Nat.add_sub_cancel] at gk
    have hsub : IntKind.i64.wrap (((j + 1 : Nat) : Int) - 1) = (j : Int) := by rw [IntKind.wrap_i64]; omega
    have hjlt : (j : Int) < ((j + 1 : Nat) : Int) := by omega
    go_enter Tryz.func126, Tryz.ntmps126
    go_wp2
    go_ret
    exact ⟨by refine ret_bool ?_; by_cases h : X = 0; (subst h; rfl); (simp [h]; try rfl), rfl⟩
theorem mayVector_any (w : World) (ao : Option Addr) (cap : Nat) (v : List Int) (n : Nat) (hn : v.length = n) (h : HV w ao cap v) :
    Calls Tryz.prog 98 #[.slice ao n cap] w fun e w' => e = .returned (.bool (rightV v)) ∧ w' = w := by
  have HR : Hid (rightV v = ((decide (n ≤ 7) && decide (InV v)) && (decide (n = 0) || decide (v.getD (n - 1) 0 ≠ 0)))) := by
    show _ = _
    unfold rightV
    rw [hn]
    cases decide (InV v) <;> cases decide (n ≤ 7) <;> rfl
  rw [HR.out]
  have HL := hid (mayList_any w ao cap v n hn h)
  have HP := hid (codecPlain_ok w ao cap v n hn h)
  clear hn h
  obtain ⟨r, HRR⟩ : ∃ r, Hid ((decide (n ≤ 7) && decide (InV v)) = r) := ⟨_, hid rfl⟩
  obtain ⟨q, HQQ⟩ : ∃ r, Hid ((decide (n = 0) || decide (v.getD (n - 1) 0 ≠ 0)) = r) := ⟨_, hid rfl⟩
  rw [HRR.out] at HL ⊢
  rw [HQQ.out] at HP ⊢
  clear HR HRR HQQ
  cases r
  · rw [Bool.false_and]
    go_enter Tryz.func98, Tryz.ntmps98
    go_wp2_with fail
    refine HL.out.mono ?_
    rintro e w' ⟨rfl, rfl⟩
    go_wp2
    go_ret
    exact ⟨rfl, rfl⟩
  · rw [Bool.true_and]
    go_enter Tryz.func98, Tryz.ntmps98
    go_wp2_with fail
    refine HL.out.mono ?_
    rintro e w' ⟨rfl, rfl⟩
    go_wp2_with fail
    refine HP.out.mono ?_
    rintro e w' ⟨rfl, rfl⟩
    go_wp2
    go_ret
    exact ⟨rfl, rfl⟩
/-- The numbers of a vector as bytes. -/
def encN : List Int → List Int
  | [] => []
  | x :: r => enc x.toNat ++ encN r
theorem encN_append : ∀ a b : List Int, encN (a ++ b) = encN a ++ encN b
  | [], _ => rfl
  | x :: r, b => by
    show enc x.toNat ++ encN (r ++ b) = (enc x.toNat ++ encN r) ++ encN b
    rw [encN_append r b, List.append_assoc]
theorem encN_take {v : List Int} {k : Nat} (h : k < v.length) : encN (v.take (k + 1)) = encN (v.take k) ++ enc (v.getD k 0).toNat := by
  rw [List.take_succ_eq_append_getElem h, encN_append]
  simp [encN, List.getD, List.getElem?_eq_getElem h]
theorem encN_len : ∀ {v : List Int}, InV v → (encN v).length ≤ 10 * v.length
  | [], _ => Nat.le_refl _
  | x :: r, h => by
    have h1 := encN_len (v := r) fun y hy => h y (List.mem_cons_of_mem _ hy)
    have h2 := h x (List.mem_cons_self ..)
    have h3 := enc_le10 (x := x.toNat) (by omega)
    show (enc x.toNat ++ encN r).length ≤ _
    rw [List.length_append, List.length_cons]
    omega
/-- A vector as bytes. -/
def encV (v : List Int) : List Int := enc v.length ++ encN v
theorem encV_len {v : List Int} (h : InV v) (h7 : v.length ≤ 7) : (encV v).length ≤ 80 := by
  have h1 := encN_len h
  have h3 := enc_le10 (x := v.length) (by omega)
  unfold encV
  rw [List.length_append]
  omega
theorem inV_take {v : List Int} (h : InV v) (k : Nat) : InV (v.take k) := fun x hx => h x (List.mem_of_mem_take hx)
set_option maxRecDepth 100000 in
set_option maxHeartbeats 1000000 in
theorem appendListI_any (u : Value) (n : Nat) (bs : List Int) (ao : Option Addr) (cap : Nat) (v : List Int) (m : Nat) (hm : v.length = m) (B : Nat) (w : World) (hv : ∀ V, Below B w V → HV V ao cap v) (h7 : m ≤ 7) (hin : InV v)
    (hown : w.ownsRow B 5 1 u n (nums bs)) (hB : B ≤ w.heap.size) (hn : n ≤ 140737488350000) :
    Calls Tryz.prog 152 #[u, .slice ao m cap, .func (.func 101) #[] #[]] w fun e w' => ∃ v', e = .returned v' ∧ w'.ownsRow B 5 1 v' (n + (encV v).length) (nums (bs ++ encV v)) ∧ Below B w w' := by
  have l0 := enc_le10 (x := m) (by omega)
  have HA := hid (appendUint_own u n bs m B w (by omega) (by omega) hown hB (by omega))
  rw [Int.toNat_natCast] at HA
  have hwr : IntKind.u64.wrap (m : Int) = (m : Int) := by rw [IntKind.wrap_u64]; omega
  obtain ⟨c0, HC0⟩ : ∃ c, Hid (n + (enc m).length = c) := ⟨_, hid rfl⟩
  rw [HC0.out] at HA
  have hc0 : c0 ≤ 140737488350010 := by have := HC0.out; omega
  have HM := hid hm
  have HVV := hid hv
  have HIN := hid hin
  clear hm hv hin hown l0
  go_enter Tryz.func152, Tryz.ntmps152
  go_wp2_with fail
  refine HA.out.mono ?_
  rintro e w1 ⟨v1, rfl, hr1, hb1⟩
  have HR1 := hid hr1
  have HB1 := hid hb1
  clear hr1 hb1 HA
  go_wp2
  go_loopw [0, 8, 16] (fun b _ i wr => ∃ k : Nat, k ≤ m ∧ i = .int .i64 k ∧ Hid (wr.ownsRow B 5 1 b (c0 + (encN (v.take k)).length) (nums (bs ++ enc m ++ encN (v.take k))) ∧ Below B w wr)) (fun _ _ i _ => m - (intOf i).toNat)
  case atStart => exact ⟨0, Nat.zero_le _, rfl, by rw [List.take_zero]; show World.ownsRow _ _ _ _ _ c0 (nums (bs ++ enc m ++ [])); rw [List.append_nil]; exact HR1.out, HB1.out⟩
  case round =>
    obtain ⟨k, hk, rfl, HR⟩ := hrel
    by_cases hlt : k < m
    · have hlt' : (k : Int) < (m : Int) := by omega
      have hkx : Hid (k < v.length) := (by rw [HM.out]; exact hlt : k < v.length)
      have HKM : Hid (k + 1 ≤ m) := (by omega : k + 1 ≤ m)
      rcases (HVV.out wr HR.out.2).held.2 with h0 | ⟨b, off, hao, hb, hc⟩
      · exfalso
        have := hkx.out
        rw [h0] at this
        cases this
      have gk := hc k hkx.out
      have HX2 := hid (HIN.out _ (getD_mem hkx.out))
      have HTK := hid (encN_take hkx.out)
      have HLN : Hid ((encN (v.take k)).length ≤ 70) := by
        have h1 := encN_len (inV_take HIN.out k)
        have h2 : (v.take k).length ≤ 7 := by rw [List.length_take]; omega
        show _ ≤ _
        omega
      subst hao
      clear hc
      obtain ⟨X, HX⟩ : ∃ X, Hid (v.getD k 0 = X) := ⟨_, hid rfl⟩
      rw [HX.out] at gk HX2 HTK
      have HAN := hid (appendNumber_own u0 (c0 + (encN (v.take k)).length) (bs ++ enc m ++ encN (v.take k)) X B wr HX2.out.1 (by have := HX2.out; omega) HR.out.1 (Nat.le_trans hB HR.out.2.size) (by have := HLN.out; omega))
      go_wp2_with fail
      refine HAN.out.mono ?_
      rintro e w2 ⟨v2, rfl, hr2, hb2⟩
      have HR2 := hid hr2
      have HB2 := hid (HR.out.2.trans hb2)
      clear hr2 hb2 HAN
      go_wp2
      go_roundw
      case rel =>
        refine ⟨k + 1, HKM.out, by go_num, ?_, HB2.out⟩
        rw [HTK.out, List.length_append, ← List.append_assoc, ← Nat.add_assoc]
        exact HR2.out
      case measure => simp [intOf]; have := HKM.out; omega
    · have hlt' : ¬ (k : Int) < (m : Int) := by omega
      have hke : Hid (v.take k = v) := by show _ = _; rw [List.take_of_length_le]; have := HM.out; omega
      rw [hke.out] at HR
      have HE : Hid (wr.ownsRow B 5 1 u0 (n + (encV v).length) (nums (bs ++ encV v))) := by
        have := HR.out.1
        rw [← HC0.out, List.append_assoc, Nat.add_assoc, ← List.length_append] at this
        show World.ownsRow _ _ _ _ _ _ _
        unfold encV
        rw [HM.out]
        exact this
      go_wp2
      go_ret
      exact ⟨_, rfl, HE.out, HR.out.2⟩
theorem appendVector_own (u : Value) (n : Nat) (bs : List Int) (ao : Option Addr) (cap : Nat) (v : List Int) (m : Nat) (hm : v.length = m) (B : Nat) (w : World) (hv : ∀ V, Below B w V → HV V ao cap v) (h7 : m ≤ 7) (hin : InV v)
    (hown : w.ownsRow B 5 1 u n (nums bs)) (hB : B ≤ w.heap.size) (hn : n ≤ 140737488350000) :
    Calls Tryz.prog 106 #[u, .slice ao m cap] w fun e w' => ∃ v', e = .returned v' ∧ w'.ownsRow B 5 1 v' (n + (encV v).length) (nums (bs ++ encV v)) ∧ Below B w w' := by
  have HL := hid (appendListI_any u n bs ao cap v m hm B w hv h7 hin hown hB hn)
  clear hown hv hm
  go_enter Tryz.func106, Tryz.ntmps106
  go_wp2_with fail
  refine HL.out.mono ?_
  rintro e w' ⟨v', rfl, h1, h2⟩
  have H1 := hid h1
  have H2 := hid h2
  clear h1 h2
  go_wp2
  go_ret
  exact ⟨v', rfl, H1.out, H2.out⟩
end Go.Proofs.YtfmnbehopdmahaaGreat
/-
  codec.Event of any event: whether it may be, and its bytes.
-/
namespace Go.Proofs.YtfmnbehopdmahaaGreat
open Go.RowKit Go.Maps

/-- May e be written? -/
def RightEv (e : Ev) : Bool := decide (0 ≤ e.o ∧ e.o ≤ 6) && (decide (0 ≤ e.s ∧ e.s ≤ 2147483647) && (rightV e.deps && (nameS e.cart && (decide (0 ≤ e.epoch ∧ e.epoch ≤ 2147483647) && (nameS e.sku && decide (0 ≤ e.qty ∧ e.qty ≤ 1000))))))
def encB (b : Bool) : List Int := [if b then 1 else 0]
/-- An event as bytes. -/
def encEv (e : Ev) : List Int := enc e.o.toNat ++ enc e.s.toNat ++ encV e.deps ++ encText e.cart ++ enc e.epoch.toNat ++ encText e.sku ++ enc e.qty.toNat ++ encB e.clears
structure EvFacts (e : Ev) : Prop where
  o : 0 ≤ e.o ∧ e.o ≤ 6
  s : 0 ≤ e.s ∧ e.s ≤ 2147483647
  deps : InV e.deps
  few : e.deps.length ≤ 7
  cart : nameS e.cart = true
  epoch : 0 ≤ e.epoch ∧ e.epoch ≤ 2147483647
  sku : nameS e.sku = true
  qty : 0 ≤ e.qty ∧ e.qty ≤ 1000
theorem rightEv_iff {e : Ev} (h : RightEv e = true) : EvFacts e := by
  unfold RightEv at h
  simp only [Bool.and_eq_true, decide_eq_true_eq] at h
  obtain ⟨h1, h2, h3, h4, h5, h6, h7⟩ := h
  unfold rightV at h3
  simp only [Bool.and_eq_true, decide_eq_true_eq] at h3
  exact ⟨h1, h2, h3.1, h3.2.1, h4, h5, h6, h7⟩
theorem encEv_len {e : Ev} (h : RightEv e = true) : (encEv e).length ≤ 300 := by
  have f := rightEv_iff h
  have z1 := nameS_size f.cart
  have z2 := nameS_size f.sku
  have l1 := encText_len e.cart
  have l2 := encText_len e.sku
  have m1 := enc_le10 (x := e.cart.size) (by omega)
  have m2 := enc_le10 (x := e.sku.size) (by omega)
  have m3 := enc_le10 (x := e.o.toNat) (by have := f.o; omega)
  have m4 := enc_le10 (x := e.s.toNat) (by have := f.s; omega)
  have m5 := enc_le10 (x := e.epoch.toNat) (by have := f.epoch; omega)
  have m6 := enc_le10 (x := e.qty.toNat) (by have := f.qty; omega)
  have m7 := encV_len f.deps f.few
  unfold encEv encB
  simp only [List.length_append, List.length_cons, List.length_nil]
  omega
theorem appendTruth_own (v : Value) (n : Nat) (bs : List Int) (b : Bool) (B : Nat) (w : World) (hown : w.ownsRow B 5 1 v n (nums bs)) (hB : B ≤ w.heap.size) (hn : n ≤ 140737488350000) :
    Calls Tryz.prog 150 #[v, .bool b] w fun e w' => ∃ v', e = .returned v' ∧ w'.ownsRow B 5 1 v' (n + (encB b).length) (nums (bs ++ encB b)) ∧ Below B w w' := by
  obtain ⟨i0, hi, hz0, hz1, hz2⟩ := info_parts Tryz.info5
  have HL : Hid (∀ k, v.ownBlock = some k → B ≤ k) := fun k hk => (hown.lt k hk).1
  cases b
  · go_enter Tryz.func150, Tryz.ntmps150
    go_wp2_with (at_builtin; refine wpList_append_own_at _ rfl _ _ 66 rfl B 5 i0 (.int .u8 0) 1 1 Tryz.underlying66 hi hz0 hz1 hz2 rfl (by decide) _ _ _ rfl (hown.alloc _) ⟨w.heap.size, 0, none⟩ 1 1 [.int .u8 0] rfl rfl (cell_one_new _ _ _) (one_int _ _) (by unfold maxLen; omega) (by omega) (by simp; omega) ?_)
    intro v' w1 hown' hgrow _ _
    have HO : Hid (w1.ownsRow B 5 1 v' (n + 1) (nums (bs ++ [0]))) := by rw [nums_append]; exact hown'
    have HB : Hid (Below B w w1) := ((Below.refl _ _).alloc hB _).grown hgrow (by simp; omega) HL.out
    clear hown' hgrow hown
    go_wp2
    go_ret
    exact ⟨v', rfl, HO.out, HB.out⟩
  · go_enter Tryz.func150, Tryz.ntmps150
    go_wp2_with (at_builtin; refine wpList_append_own_at _ rfl _ _ 66 rfl B 5 i0 (.int .u8 0) 1 1 Tryz.underlying66 hi hz0 hz1 hz2 rfl (by decide) _ _ _ rfl (hown.alloc _) ⟨w.heap.size, 0, none⟩ 1 1 [.int .u8 1] rfl rfl (cell_one_new _ _ _) (one_int _ _) (by unfold maxLen; omega) (by omega) (by simp; omega) ?_)
    intro v' w1 hown' hgrow _ _
    have HO : Hid (w1.ownsRow B 5 1 v' (n + 1) (nums (bs ++ [1]))) := by rw [nums_append]; exact hown'
    have HB : Hid (Below B w w1) := ((Below.refl _ _).alloc hB _).grown hgrow (by simp; omega) HL.out
    clear hown' hgrow hown
    go_wp2
    go_ret
    exact ⟨v', rfl, HO.out, HB.out⟩
set_option maxRecDepth 100000 in
set_option maxHeartbeats 1000000 in
theorem mayEvent_any (w : World) (x : EvM) (hx : EvOk w x) :
    Calls Tryz.prog 100 #[x.val] w fun e w' => e = .returned (.bool (RightEv x.e)) ∧ Below w.heap.size w w' := by
  obtain ⟨⟨o, s, dp, ct, ep, sk, qt, cl⟩, ao1, cap1⟩ := x
  obtain ⟨XN, HXN⟩ : ∃ m, Hid (dp.length = m) := ⟨_, hid rfl⟩
  simp only [EvM.val]
  rw [HXN.out]
  have HB : Hid (Below w.heap.size w (w.alloc (.cells #[.int .i64 o, .int .i64 s, .slice ao1 XN cap1, .string ct, .int .i64 ep, .string sk, .int .i64 qt, .bool cl] 97))) := (Below.refl _ _).alloc (Nat.le_refl _) _
  have hk := Blk.new w 97 [.int .i64 o, .int .i64 s, .slice ao1 XN cap1, .string ct, .int .i64 ep, .string sk, .int .i64 qt, .bool cl]
  have c0 := hk.cell (i := 0) rfl
  have c1 := hk.cell (i := 1) rfl
  have c2 := hk.cell (i := 2) rfl
  have c3 := hk.cell (i := 3) rfl
  have c4 := hk.cell (i := 4) rfl
  have c5 := hk.cell (i := 5) rfl
  have c6 := hk.cell (i := 6) rfl
  have HC1 := hid (fun V => upTo_any V o 6)
  have HC2 := hid (fun V => upTo_any V s 2147483647)
  have HC3 := hid (mayVector_any (w.alloc (.cells #[.int .i64 o, .int .i64 s, .slice ao1 XN cap1, .string ct, .int .i64 ep, .string sk, .int .i64 qt, .bool cl] 97)) ao1 cap1 dp XN HXN.out (hx.deps.below HB.out))
  have HC4 := hid (fun V => codecName_any ct V hx.hc)
  have HC5 := hid (fun V => upTo_any V ep 2147483647)
  have HC6 := hid (fun V => codecName_any sk V hx.hs)
  have HC7 := hid (fun V => upTo_any V qt 1000)
  have HR : Hid (RightEv ⟨o, s, dp, ct, ep, sk, qt, cl⟩ = (decide (0 ≤ o ∧ o ≤ 6) && (decide (0 ≤ s ∧ s ≤ 2147483647) && (rightV dp && (nameS ct && (decide (0 ≤ ep ∧ ep ≤ 2147483647) && (nameS sk && decide (0 ≤ qt ∧ qt ≤ 1000)))))))) := rfl
  rw [HR.out]
  obtain ⟨b1, HB1⟩ : ∃ b, Hid (decide (0 ≤ o ∧ o ≤ 6) = b) := ⟨_, hid rfl⟩
  obtain ⟨b2, HB2⟩ : ∃ b, Hid (decide (0 ≤ s ∧ s ≤ 2147483647) = b) := ⟨_, hid rfl⟩
  obtain ⟨b3, HB3⟩ : ∃ b, Hid (rightV dp = b) := ⟨_, hid rfl⟩
  obtain ⟨b4, HB4⟩ : ∃ b, Hid (nameS ct = b) := ⟨_, hid rfl⟩
  obtain ⟨b5, HB5⟩ : ∃ b, Hid (decide (0 ≤ ep ∧ ep ≤ 2147483647) = b) := ⟨_, hid rfl⟩
  obtain ⟨b6, HB6⟩ : ∃ b, Hid (nameS sk = b) := ⟨_, hid rfl⟩
  obtain ⟨b7, HB7⟩ : ∃ b, Hid (decide (0 ≤ qt ∧ qt ≤ 1000) = b) := ⟨_, hid rfl⟩
  rw [HB1.out] at HC1 ⊢
  rw [HB2.out] at HC2 ⊢
  rw [HB3.out] at HC3 ⊢
  rw [HB4.out] at HC4 ⊢
  rw [HB5.out] at HC5 ⊢
  rw [HB6.out] at HC6 ⊢
  rw [HB7.out] at HC7 ⊢
  clear hk hx HB1 HB2 HB3 HB4 HB5 HB6 HB7 HR
  cases b1
  · go_enter Tryz.func100, Tryz.ntmps100
    go_wp2_with fail
    refine (HC1.out _).mono ?_
    rintro e w' ⟨rfl, rfl⟩
    go_wp2
    go_ret
    exact ⟨rfl, HB.out⟩
  cases b2
  · go_enter Tryz.func100, Tryz.ntmps100
    go_wp2_with fail
    refine (HC1.out _).mono ?_
    rintro e w' ⟨rfl, rfl⟩
    go_wp2_with fail
    refine (HC2.out _).mono ?_
    rintro e w' ⟨rfl, rfl⟩
    go_wp2
    go_ret
    exact ⟨rfl, HB.out⟩
  cases b3
  · go_enter Tryz.func100, Tryz.ntmps100
    go_wp2_with fail
    refine (HC1.out _).mono ?_
    rintro e w' ⟨rfl, rfl⟩
    go_wp2_with fail
    refine (HC2.out _).mono ?_
    rintro e w' ⟨rfl, rfl⟩
    go_wp2_with fail
    refine HC3.out.mono ?_
    rintro e w' ⟨rfl, rfl⟩
    go_wp2
    go_ret
    exact ⟨rfl, HB.out⟩
  cases b4
  · go_enter Tryz.func100, Tryz.ntmps100
    go_wp2_with fail
    refine (HC1.out _).mono ?_
    rintro e w' ⟨rfl, rfl⟩
    go_wp2_with fail
    refine (HC2.out _).mono ?_
    rintro e w' ⟨rfl, rfl⟩
    go_wp2_with fail
    refine HC3.out.mono ?_
    rintro e w' ⟨rfl, rfl⟩
    go_wp2_with fail
    refine (HC4.out _).mono ?_
    rintro e w' ⟨rfl, rfl⟩
    go_wp2
    go_ret
    exact ⟨rfl, HB.out⟩
  cases b5
  · go_enter Tryz.func100, Tryz.ntmps100
    go_wp2_with fail
    refine (HC1.out _).mono ?_
    rintro e w' ⟨rfl, rfl⟩
    go_wp2_with fail
    refine (HC2.out _).mono ?_
    rintro e w' ⟨rfl, rfl⟩
    go_wp2_with fail
    refine HC3.out.mono ?_
    rintro e w' ⟨rfl, rfl⟩
    go_wp2_with fail
    refine (HC4.out _).mono ?_
    rintro e w' ⟨rfl, rfl⟩
    go_wp2_with fail
    refine (HC5.out _).mono ?_
    rintro e w' ⟨rfl, rfl⟩
    go_wp2
    go_ret
    exact ⟨rfl, HB.out⟩
  cases b6
  · go_enter Tryz.func100, Tryz.ntmps100
    go_wp2_with fail
    refine (HC1.out _).mono ?_
    rintro e w' ⟨rfl, rfl⟩
    go_wp2_with fail
    refine (HC2.out _).mono ?_
    rintro e w' ⟨rfl, rfl⟩
    go_wp2_with fail
    refine HC3.out.mono ?_
    rintro e w' ⟨rfl, rfl⟩
    go_wp2_with fail
    refine (HC4.out _).mono ?_
    rintro e w' ⟨rfl, rfl⟩
    go_wp2_with fail
    refine (HC5.out _).mono ?_
    rintro e w' ⟨rfl, rfl⟩
    go_wp2_with fail
    refine (HC6.out _).mono ?_
    rintro e w' ⟨rfl, rfl⟩
    go_wp2
    go_ret
    exact ⟨rfl, HB.out⟩
  go_enter Tryz.func100, Tryz.ntmps100
  go_wp2_with fail
  refine (HC1.out _).mono ?_
  rintro e w' ⟨rfl, rfl⟩
  go_wp2_with fail
  refine (HC2.out _).mono ?_
  rintro e w' ⟨rfl, rfl⟩
  go_wp2_with fail
  refine HC3.out.mono ?_
  rintro e w' ⟨rfl, rfl⟩
  go_wp2_with fail
  refine (HC4.out _).mono ?_
  rintro e w' ⟨rfl, rfl⟩
  go_wp2_with fail
  refine (HC5.out _).mono ?_
  rintro e w' ⟨rfl, rfl⟩
  go_wp2_with fail
  refine (HC6.out _).mono ?_
  rintro e w' ⟨rfl, rfl⟩
  go_wp2_with fail
  refine (HC7.out _).mono ?_
  rintro e w' ⟨rfl, rfl⟩
  go_wp2
  go_ret
  exact ⟨rfl, HB.out⟩
set_option maxRecDepth 100000 in
set_option maxHeartbeats 1000000 in
theorem appendEvent_any (w : World) (x : EvM) (hx : EvOk w x) (hr : RightEv x.e = true) :
    Calls Tryz.prog 108 #[.slice none 0 0, x.val] w fun e w' => ∃ v', e = .returned v' ∧ w'.ownsRow w.heap.size 5 1 v' (encEv x.e).length (nums (encEv x.e)) ∧ Below w.heap.size w w' := by
  obtain ⟨⟨o, s, dp, ct, ep, sk, qt, cl⟩, ao1, cap1⟩ := x
  have hlen := encEv_len hr
  obtain ⟨f1, f2, f3, f4, f5, f6, f7, f8⟩ := rightEv_iff hr
  dsimp only at f1 f2 f3 f4 f5 f6 f7 f8 hlen
  have z1 := nameS_size f5
  have z2 := nameS_size f7
  obtain ⟨XN, HXN⟩ : ∃ m, Hid (dp.length = m) := ⟨_, hid rfl⟩
  simp only [EvM.val]
  rw [HXN.out] at f4 ⊢
  obtain ⟨W, hW⟩ : ∃ W, W = w.alloc (.cells #[.int .i64 o, .int .i64 s, .slice ao1 XN cap1, .string ct, .int .i64 ep, .string sk, .int .i64 qt, .bool cl] 97) := ⟨_, rfl⟩
  have HB : Hid (Below w.heap.size w W) := by rw [hW]; exact (Below.refl _ _).alloc (Nat.le_refl _) _
  have HK : Hid (Blk W w.heap.size 97 [.int .i64 o, .int .i64 s, .slice ao1 XN cap1, .string ct, .int .i64 ep, .string sk, .int .i64 qt, .bool cl]) := by rw [hW]; exact Blk.new w _ _
  have HE : Hid (encEv ⟨o, s, dp, ct, ep, sk, qt, cl⟩ = enc o.toNat ++ enc s.toNat ++ encV dp ++ encText ct ++ enc ep.toNat ++ encText sk ++ enc qt.toNat ++ encB cl) := rfl
  have HCV := hid (hx.deps.below HB.out)
  obtain ⟨a1, ha1⟩ : ∃ a, a = (enc o.toNat).length := ⟨_, rfl⟩
  obtain ⟨a2, ha2⟩ : ∃ a, a = (enc s.toNat).length := ⟨_, rfl⟩
  obtain ⟨a3, ha3⟩ : ∃ a, a = (encV dp).length := ⟨_, rfl⟩
  obtain ⟨a4, ha4⟩ : ∃ a, a = (encText ct).length := ⟨_, rfl⟩
  obtain ⟨a5, ha5⟩ : ∃ a, a = (enc ep.toNat).length := ⟨_, rfl⟩
  obtain ⟨a6, ha6⟩ : ∃ a, a = (encText sk).length := ⟨_, rfl⟩
  obtain ⟨a7, ha7⟩ : ∃ a, a = (enc qt.toNat).length := ⟨_, rfl⟩
  obtain ⟨a8, ha8⟩ : ∃ a, a = (encB cl).length := ⟨_, rfl⟩
  have hs : 0 + a1 + a2 + a3 + a4 + a5 + a6 + a7 + a8 ≤ 300 := by
    have h := hlen
    rw [HE.out] at h
    simp only [List.length_append] at h
    omega
  have HLE : Hid ((encEv ⟨o, s, dp, ct, ep, sk, qt, cl⟩).length = 0 + a1 + a2 + a3 + a4 + a5 + a6 + a7 + a8) := by
    rw [HE.out]
    simp only [List.length_append]
    show _ = _
    omega
  rw [HLE.out, HE.out]
  have HT1 := hid (fun v bs V (hr : V.ownsRow W.heap.size 5 1 v (0) (nums bs)) (hV : Below W.heap.size W V) => appendNumber_own v (0) bs o W.heap.size V f1.1 (by omega) hr hV.size (by omega))
  rw [← ha1] at HT1
  have HT2 := hid (fun v bs V (hr : V.ownsRow W.heap.size 5 1 v (0 + a1) (nums bs)) (hV : Below W.heap.size W V) => appendNumber_own v (0 + a1) bs s W.heap.size V f2.1 (by omega) hr hV.size (by omega))
  rw [← ha2] at HT2
  have HT3 := hid (fun v bs V (hr : V.ownsRow W.heap.size 5 1 v (0 + a1 + a2) (nums bs)) (hV : Below W.heap.size W V) => appendVector_own v (0 + a1 + a2) bs ao1 cap1 dp XN HXN.out W.heap.size V (fun U hU => HCV.out.below (hV.trans hU)) f4 f3 hr hV.size (by omega))
  rw [← ha3] at HT3
  have HT4 := hid (fun v bs V (hr : V.ownsRow W.heap.size 5 1 v (0 + a1 + a2 + a3) (nums bs)) (hV : Below W.heap.size W V) => appendText_own v (0 + a1 + a2 + a3) bs ct W.heap.size V hr hV.size (by omega))
  rw [← ha4] at HT4
  have HT5 := hid (fun v bs V (hr : V.ownsRow W.heap.size 5 1 v (0 + a1 + a2 + a3 + a4) (nums bs)) (hV : Below W.heap.size W V) => appendNumber_own v (0 + a1 + a2 + a3 + a4) bs ep W.heap.size V f6.1 (by omega) hr hV.size (by omega))
  rw [← ha5] at HT5
  have HT6 := hid (fun v bs V (hr : V.ownsRow W.heap.size 5 1 v (0 + a1 + a2 + a3 + a4 + a5) (nums bs)) (hV : Below W.heap.size W V) => appendText_own v (0 + a1 + a2 + a3 + a4 + a5) bs sk W.heap.size V hr hV.size (by omega))
  rw [← ha6] at HT6
  have HT7 := hid (fun v bs V (hr : V.ownsRow W.heap.size 5 1 v (0 + a1 + a2 + a3 + a4 + a5 + a6) (nums bs)) (hV : Below W.heap.size W V) => appendNumber_own v (0 + a1 + a2 + a3 + a4 + a5 + a6) bs qt W.heap.size V f8.1 (by omega) hr hV.size (by omega))
  rw [← ha7] at HT7
  have HT8 := hid (fun v bs V (hr : V.ownsRow W.heap.size 5 1 v (0 + a1 + a2 + a3 + a4 + a5 + a6 + a7) (nums bs)) (hV : Below W.heap.size W V) => appendTruth_own v (0 + a1 + a2 + a3 + a4 + a5 + a6 + a7) bs cl W.heap.size V hr hV.size (by omega))
  rw [← ha8] at HT8
  have c0 := HK.out.cell (i := 0) rfl
  have HW := hid hW
  clear hW f1 f2 f3 f4 f5 f6 f7 f8 z1 z2 hlen hx hr HE HLE ha1 ha2 ha3 ha4 ha5 ha6 ha7 ha8
  rw [HW.out] at c0
  go_enter Tryz.func108, Tryz.ntmps108
  go_wp2_with fail
  rw [← HW.out]
  obtain ⟨p, hp⟩ : ∃ p, p = w.heap.size := ⟨_, rfl⟩
  rw [← hp] at HK ⊢
  clear hp c0
  refine (HT1.out _ [] _ (World.ownsRow_nil _ _ _ _) (Below.refl _ _)).mono ?_
  rintro e w1 ⟨v1, rfl, hr1, hb1⟩
  have HR1 := hid hr1
  have HB1 := hid hb1
  have c1 := (HK.out.below hb1 HK.out.lt).cell (i := 1) rfl
  clear hr1 hb1 HT1
  go_wp2_with fail
  refine (HT2.out _ _ _ HR1.out HB1.out).mono ?_
  rintro e w2 ⟨v2, rfl, hr2, hb2⟩
  have HR2 := hid hr2
  have HB2 := hid (HB1.out.trans hb2)
  have c2 := (HK.out.below HB2.out HK.out.lt).cell (i := 2) rfl
  clear hr2 hb2 HT2
  go_wp2_with fail
  refine (HT3.out _ _ _ HR2.out HB2.out).mono ?_
  rintro e w3 ⟨v3, rfl, hr3, hb3⟩
  have HR3 := hid hr3
  have HB3 := hid (HB2.out.trans hb3)
  have c3 := (HK.out.below HB3.out HK.out.lt).cell (i := 3) rfl
  clear hr3 hb3 HT3
  go_wp2_with fail
  refine (HT4.out _ _ _ HR3.out HB3.out).mono ?_
  rintro e w4 ⟨v4, rfl, hr4, hb4⟩
  have HR4 := hid hr4
  have HB4 := hid (HB3.out.trans hb4)
  have c4 := (HK.out.below HB4.out HK.out.lt).cell (i := 4) rfl
  clear hr4 hb4 HT4
  go_wp2_with fail
  refine (HT5.out _ _ _ HR4.out HB4.out).mono ?_
  rintro e w5 ⟨v5, rfl, hr5, hb5⟩
  have HR5 := hid hr5
  have HB5 := hid (HB4.out.trans hb5)
  have c5 := (HK.out.below HB5.out HK.out.lt).cell (i := 5) rfl
  clear hr5 hb5 HT5
  go_wp2_with fail
  refine (HT6.out _ _ _ HR5.out HB5.out).mono ?_
  rintro e w6 ⟨v6, rfl, hr6, hb6⟩
  have HR6 := hid hr6
  have HB6 := hid (HB5.out.trans hb6)
  have c6 := (HK.out.below HB6.out HK.out.lt).cell (i := 6) rfl
  clear hr6 hb6 HT6
  go_wp2_with fail
  refine (HT7.out _ _ _ HR6.out HB6.out).mono ?_
  rintro e w7 ⟨v7, rfl, hr7, hb7⟩
  have HR7 := hid hr7
  have HB7 := hid (HB6.out.trans hb7)
  have c7 := (HK.out.below HB7.out HK.out.lt).cell (i := 7) rfl
  clear hr7 hb7 HT7
  go_wp2_with fail
  refine (HT8.out _ _ _ HR7.out HB7.out).mono ?_
  rintro e w8 ⟨v8, rfl, hr8, hb8⟩
  have HR8 := hid hr8
  have HB8 := hid (HB7.out.trans hb8)
  clear hr8 hb8 HT8
  have HRF : Hid (w8.ownsRow w.heap.size 5 1 v8 (0 + a1 + a2 + a3 + a4 + a5 + a6 + a7 + a8) (nums (enc o.toNat ++ enc s.toNat ++ encV dp ++ encText ct ++ enc ep.toNat ++ encText sk ++ enc qt.toNat ++ encB cl))) := by
    have := own_mono HR8.out HB.out.size
    rw [List.nil_append] at this
    exact this
  have HBF := hid (bt HB.out HB8.out)
  go_wp2
  go_ret
  exact ⟨v8, rfl, HRF.out, HBF.out⟩
/-- What codec.Event answers. -/
def EventP (w : World) (x : Ev) (e : Ending) (w' : World) : Prop :=
  (if RightEv x = true then ∃ v, e = .returned (.tuple #[v, .int .i64 0]) ∧ w'.ownsRow w.heap.size 5 1 v (encEv x).length (nums (encEv x)) else e = .returned (.tuple #[.slice none 0 0, .int .i64 1])) ∧ Below w.heap.size w w'
end Go.Proofs.YtfmnbehopdmahaaGreat
