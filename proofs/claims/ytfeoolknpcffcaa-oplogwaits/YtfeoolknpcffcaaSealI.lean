/-
  Maps with strings as keys and ints as elements: what lies in them, ranging over them. No function of the program is named here.
-/
import Derived.Test.YtfeoolknpcffcaaCartA
import Derived.Sort.MapsRangeIn
import Derived.Test.YtfeoolknpcffcaaNames
import Derived.Test.YtfeoolknpcffcaaVvD
namespace Go.Proofs.Ytfeoolknpcffcaa
open Go.RowKit Go.Maps

def key (s : ByteArray) : Lit := .string s.data.toList
theorem key_inj {s t : ByteArray} (h : key s = key t) : s = t := by
  unfold key at h
  simp at h
  exact ByteArray.ext h
theorem Try.keyedStr : Keyed Try.prog 9 := string_keyed Try.underlying9
theorem Try.keyStr {s : ByteArray} (h : s.size ≤ maxLen) : keyOf Try.prog 9 (.string s) = some (key s) := by
  have hk := Try.underlying9
  simp [keyOf, hk, mapKey, h, key]
theorem keyStr_inv {k : Value} {kl : Lit} (h : keyOf Try.prog 9 k = some kl) : ∃ s, k = .string s ∧ kl = key s ∧ s.size ≤ maxLen := by
  have hk := Try.underlying9
  obtain ⟨s, rfl⟩ := Maps.keyOf_string_inv hk h
  simp [keyOf, hk, mapKey] at h
  exact ⟨s, rfl, h.2.symm, h.1⟩
theorem key_same (s t : ByteArray) : (key s).sameKey (key t) = decide (s = t) := by
  by_cases h : s = t
  · subst h
    rw [decide_eq_true rfl]
    exact WideAt.sameKey_self (by simp [key, WideAt.IsKeyLit])
  · rw [decide_eq_false h]
    exact sameKey_ne (fun e => h (key_inj e))
theorem row_not_iter {w : World} {base size k n r bm cnt : Nat} {e : TypeId} {u : Value} {xs : List Value} (hr : w.ownsRow base e size u k xs) {P : Program} {kt : TypeId} {D : DataW Value} {left : Lit → Bool} (hm : w.ranges P kt valR bm r n D left cnt) : some r ≠ u.ownBlock ∧ some bm ≠ u.ownBlock := by
  refine ⟨?_, row_not_map hr hm.owns⟩
  obtain ⟨es, clock, since, seen, c0, _, _, _, _, hb, _⟩ := hm
  rcases hr.2 with ⟨rfl, _⟩ | ⟨g, cap, cur, rfl, _, hg, _⟩
  · simp [Value.ownBlock]
  · intro he
    have e1 : r = g := by simpa [Value.ownBlock] using he
    subst e1
    rw [hb] at hg
    cases hg
theorem own_slice' {w : World} {B e n sz : Nat} {v : Value} {xs : List Value} (h : w.ownsRow B e sz v n xs) : ∃ eo cap, v = .slice eo n cap := by
  rcases h.2 with ⟨rfl, rfl⟩ | ⟨g, cap, cur, rfl, _⟩
  · exact ⟨_, _, rfl⟩
  · exact ⟨_, _, rfl⟩

section
variable {P : Program} (w : World) {ops : Array Oper} {rest : List Oper} {o : Oper} {a : Act} {Q : Exit → Act → World → Prop}
/-- The step of a range over a map with strings as keys. -/
theorem wpList_next_str (hg : o.guard = none) (it : Operand) (hop : o.op = Op.next it false) (b r n : Nat) (D : DataW Value) (left : Lit → Bool) (cnt : Nat)
    (hit : a.eval it = .pointer (some ⟨r, 0, none⟩)) (h : w.ranges Try.prog 9 valR b r n D left cnt)
    (hDone : cnt = 0 → (∀ kl, left kl = false) → wpList Try.prog ops Q rest (a.put o.dst (.tuple #[.bool false])) w)
    (hMore : ∀ (s : ByteArray) (v : Value) (w' : World) (cnt' : Nat), s.size ≤ maxLen → look D (key s) = some v → left (key s) = true → w'.ranges Try.prog 9 valR b r n D (fun z => left z && !z.sameKey (key s)) cnt' → cnt' < cnt → w.grownBy w' (some r) → w'.heap.size = w.heap.size →
      (Instr.entry (.pointer (some ⟨r, 0, none⟩))).run Try.prog w' = .ok (.tuple #[.string s, v]) w' → wpList Try.prog ops Q rest (a.put o.dst (.tuple #[.bool true, .string s, v])) w') :
    wpList Try.prog ops Q (o :: rest) a w := by
  refine wpList_plain hg fun K' hK' => ?_
  unfold Oper.wp
  rcases h.next Try.keyedStr o.type with ⟨h0, hl, hrun⟩ | ⟨k, v, kl, y, w', cnt', hkey, hlk, hv, hat, hrun, hrg, hlt, hgr, hsz, hen⟩
  · simp [execOp, hop, hit, hrun, Result.andThen]
    exact hK' _ _ (hDone h0 hl)
  · obtain ⟨s, rfl, rfl, hs⟩ := keyStr_inv hkey
    unfold valR at hv
    cases hv
    simp [execOp, hop, hit, hrun, Result.andThen]
    exact hK' _ _ (hMore s v w' cnt' hs (look_at hat) hlk hrg hlt hgr hsz hen)
end

/-- What has come of a map, and what is left. -/
structure CollS (D : DataW Value) (left : Lit → Bool) (ss : List (ByteArray × Int)) : Prop where
  nodup : (ss.map (·.1)).Nodup
  come : ∀ s q, (s, q) ∈ ss → s.size ≤ maxLen ∧ look D (key s) = some (.int .i64 q) ∧ left (key s) = false
  rest : ∀ s q, s.size ≤ maxLen → look D (key s) = some (.int .i64 q) → left (key s) = false → (s, q) ∈ ss
theorem CollS.start {D : DataW Value} (hD : AllHeld D) : CollS D (Maps.has D) [] :=
  ⟨.nil, fun _ _ h => (by cases h), fun s q _ h1 h2 => by rw [has_look hD, h1] at h2; cases h2⟩
theorem CollS.step {D : DataW Value} {left : Lit → Bool} {ss : List (ByteArray × Int)} (h : CollS D left ss) {s : ByteArray} {q : Int} (hs : s.size ≤ maxLen) (hl : left (key s) = true) (hv : look D (key s) = some (.int .i64 q)) : CollS D (fun z => left z && !z.sameKey (key s)) (ss ++ [(s, q)]) := by
  have hn : s ∉ ss.map (·.1) := fun hm => by
    obtain ⟨⟨s', q'⟩, hm', rfl⟩ := List.mem_map.1 hm
    have := (h.come s' q' hm').2.2
    rw [hl] at this
    cases this
  refine ⟨?_, ?_, ?_⟩
  · rw [List.map_append, List.nodup_append]
    exact ⟨h.nodup, by simp, fun a ha b hb => by simp at hb; subst hb; rintro rfl; exact hn ha⟩
  · intro s' q' hm
    rcases List.mem_append.1 hm with hm | hm
    · obtain ⟨h0, h1, h2⟩ := h.come s' q' hm
      exact ⟨h0, h1, by simp [h2]⟩
    · simp at hm
      obtain ⟨rfl, rfl⟩ := hm
      exact ⟨hs, hv, by simp [key_same]⟩
  · intro s' q' h0 h1 h2
    simp only [key_same] at h2
    by_cases e : s' = s
    · subst e
      rw [hv] at h1
      cases h1
      simp
    · simp [e] at h2
      exact List.mem_append.2 (.inl (h.rest s' q' h0 h1 h2))
theorem CollS.done {D : DataW Value} {left : Lit → Bool} {ss : List (ByteArray × Int)} (h : CollS D left ss) (hl : ∀ kl, left kl = false) : ∀ s q, (s, q) ∈ ss ↔ s.size ≤ maxLen ∧ look D (key s) = some (.int .i64 q) :=
  fun s q => ⟨fun hm => ⟨(h.come s q hm).1, (h.come s q hm).2.1⟩, fun hv => h.rest s q hv.1 hv.2 (hl _)⟩
theorem size_le {w : World} {P : Program} {k : TypeId} {b n : Nat} {D : DataW Value} (h : w.ownsMap P k valR b n D) : Maps.size D ≤ n := by
  obtain ⟨es, clock, _, _, hs, rfl⟩ := h
  have e1 : Maps.size (DataW.map ((es.toList.map (Go.WideElems.rg P k valR)).foldr DataW.insert [])) = es.size := by simp [Maps.size, length_sorted]
  omega
end Go.Proofs.Ytfeoolknpcffcaa
/-
  codec.Seal of a seal without a cut.
-/
namespace Go.Proofs.Ytfeoolknpcffcaa
open Go.RowKit Go.Maps

theorem upTo_any (w : World) (x m : Int) : Calls Try.prog 66 #[.int .i64 x, .int .i64 m] w fun e w' => e = .returned (.bool (decide (0 ≤ x ∧ x ≤ m))) ∧ w' = w := by
  by_cases h0 : 0 ≤ x
  · by_cases h1 : x ≤ m
    · have HD : Hid (decide (0 ≤ x ∧ x ≤ m) = true) := decide_eq_true ⟨h0, h1⟩
      rw [HD.out]
      go_enter Try.func66, Try.ntmps66
      go_wp2
      go_ret
      exact ⟨by simp, rfl⟩
    · have HD : Hid (decide (0 ≤ x ∧ x ≤ m) = false) := decide_eq_false fun h => h1 h.2
      rw [HD.out]
      go_enter Try.func66, Try.ntmps66
      go_wp2
      go_ret
      exact ⟨by simp, rfl⟩
  · have HD : Hid (decide (0 ≤ x ∧ x ≤ m) = false) := decide_eq_false fun h => h0 h.1
    rw [HD.out]
    go_enter Try.func66, Try.ntmps66
    go_wp2
    go_ret
    exact ⟨by simp, rfl⟩
theorem every_nil (w : World) (f : Value) : Calls Try.prog 94 #[.slice none 0 0, f] w fun e w' => e = .returned (.bool true) ∧ w' = w := by
  go_enter Try.func94, Try.ntmps94
  go_wp2
  refine wp_loop_rounds 1 ?_
  rw [rounds_succ]
  go_wp2
  go_ret
  exact ⟨rfl, rfl⟩
theorem mayList_nil (w : World) (f : Value) : Calls Try.prog 83 #[.slice none 0 0, .int .i64 7, f] w fun e w' => e = .returned (.bool true) ∧ w' = w := by
  have H := hid (every_nil w f)
  go_enter Try.func83, Try.ntmps83
  go_wp2_with fail
  refine H.out.mono ?_
  rintro e w' ⟨rfl, rfl⟩
  go_wp2
  go_ret
  exact ⟨rfl, rfl⟩
theorem plain_nil (w : World) : Calls Try.prog 85 #[.slice none 0 0] w fun e w' => e = .returned (.bool true) ∧ w' = w := by
  go_enter Try.func85, Try.ntmps85
  go_wp2
  go_ret
  exact ⟨rfl, rfl⟩
theorem mayVector_nil (w : World) : Calls Try.prog 67 #[.slice none 0 0] w fun e w' => e = .returned (.bool true) ∧ w' = w := by
  have H := hid (fun f => mayList_nil w f)
  have H2 := hid (plain_nil w)
  go_enter Try.func67, Try.ntmps67
  go_wp2_with fail
  refine (H.out _).mono ?_
  rintro e w' ⟨rfl, rfl⟩
  go_wp2_with fail
  refine H2.out.mono ?_
  rintro e w' ⟨rfl, rfl⟩
  go_wp2
  go_ret
  exact ⟨rfl, rfl⟩
theorem nameS_size {s : ByteArray} (h : nameS s = true) : s.size ≤ 32 := by
  unfold nameS at h
  simp at h
  omega
theorem appendNumber_own (v : Value) (n : Nat) (bs : List Int) (x : Int) (B : Nat) (w : World) (h0 : 0 ≤ x) (hx : x ≤ 9223372036854775807) (hown : w.ownsRow B 5 1 v n (nums bs)) (hB : B ≤ w.heap.size) (hn : n ≤ 140737488355000) :
    Calls Try.prog 69 #[v, .int .i64 x] w fun e w' => ∃ v', e = .returned v' ∧ w'.ownsRow B 5 1 v' (n + (enc x.toNat).length) (nums (bs ++ enc x.toNat)) ∧ Below B w w' := by
  have H := hid (appendUint_own v n bs x B w h0 (by omega) hown hB hn)
  have hwr : IntKind.u64.wrap x = x := by rw [IntKind.wrap_u64]; omega
  clear hown
  go_enter Try.func69, Try.ntmps69
  go_wp2_with fail
  refine H.out.mono ?_
  rintro e w' ⟨v', rfl, h1, h2⟩
  have H1 := hid h1
  have H2 := hid h2
  clear h1 h2
  go_wp2
  go_ret
  exact ⟨v', rfl, H1.out, H2.out⟩
theorem appendVector_nil (v : Value) (n : Nat) (bs : List Int) (B : Nat) (w : World) (hown : w.ownsRow B 5 1 v n (nums bs)) (hB : B ≤ w.heap.size) (hn : n ≤ 140737488355000) :
    Calls Try.prog 70 #[v, .slice none 0 0] w fun e w' => ∃ v', e = .returned v' ∧ w'.ownsRow B 5 1 v' (n + (enc 0).length) (nums (bs ++ enc 0)) ∧ Below B w w' := by
  have HL : Hid (∀ f, Calls Try.prog 88 #[v, .slice none 0 0, f] w fun e w' => ∃ v', e = .returned v' ∧ w'.ownsRow B 5 1 v' (n + (enc 0).length) (nums (bs ++ enc 0)) ∧ Below B w w') := fun f => by
    have H := hid (appendUint_own v n bs 0 B w (Int.le_refl _) (by omega) hown hB hn)
    go_enter Try.func88, Try.ntmps88
    go_wp2_with fail
    refine H.out.mono ?_
    rintro e w' ⟨v', rfl, h1, h2⟩
    have H1 := hid h1
    have H2 := hid h2
    clear h1 h2
    go_wp2
    refine wp_loop_rounds 1 ?_
    rw [rounds_succ]
    go_wp2
    go_ret
    exact ⟨v', rfl, H1.out, H2.out⟩
  clear hown
  go_enter Try.func70, Try.ntmps70
  go_wp2_with fail
  refine (HL.out _).mono ?_
  rintro e w' ⟨v', rfl, h1, h2⟩
  have H1 := hid h1
  have H2 := hid h2
  clear h1 h2
  go_wp2
  go_ret
  exact ⟨v', rfl, H1.out, H2.out⟩
end Go.Proofs.Ytfeoolknpcffcaa
/-
  Package cut: sealsOf, Epoch; to which seal an event belongs.
-/
namespace Go.Proofs.Ytfeoolknpcffcaa
open Go.RowKit Go.Maps

/-- Does e belong to s? -/
def Bel (e : Ev) (s : Sl) : Prop := s.cart = e.cart ∧ e.epoch ≤ s.ep ∧ HasV s.cut e.o e.s
instance (e : Ev) (s : Sl) : Decidable (Bel e s) := by unfold Bel; infer_instance
def ownOf (name : ByteArray) (xs : List SlM) : List SlM := xs.filter fun x => decide (x.e.cart = name)
theorem own_take {name : ByteArray} {xs : List SlM} {k : Nat} (hk : k < xs.length) : ownOf name (xs.take (k + 1)) = ownOf name (xs.take k) ++ (if xs[k].e.cart = name then [xs[k]] else []) := by
  unfold ownOf
  rw [List.take_succ_eq_append_getElem hk, List.filter_append]
  by_cases h : xs[k].e.cart = name
  · rw [if_pos h]
    simp [h]
  · rw [if_neg h]
    simp [h]
theorem ownOf_len (name : ByteArray) (xs : List SlM) : (ownOf name xs).length ≤ xs.length := List.length_filter_le _ _
theorem ownOf_sub {name : ByteArray} {xs : List SlM} : ∀ x ∈ ownOf name xs, x ∈ xs := fun _ hx => (List.mem_filter.1 hx).1
end Go.Proofs.Ytfeoolknpcffcaa
/-
  The document's RightSeal and Epoch.
-/
namespace Go.Proofs.Ytfeoolknpcffcaa
open Go.RowKit Go.Maps

def InV (v : List Int) : Prop := ∀ x ∈ v, 0 ≤ x ∧ x ≤ 2147483647
instance (v : List Int) : Decidable (InV v) := by unfold InV; infer_instance
def rightV (v : List Int) : Bool := decide (InV v) && (decide (v.length ≤ 7) && (decide (v.length = 0) || decide (v.getD (v.length - 1) 0 ≠ 0)))
def RightSl (s : Sl) : Bool := nameS s.tok && (nameS s.cart && (decide (0 ≤ s.ep ∧ s.ep ≤ 2147483647) && rightV s.cut))
end Go.Proofs.Ytfeoolknpcffcaa
