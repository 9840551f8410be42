/-
  Maps with strings as keys and ints as elements: what lies in them, ranging over them. No function of the program is named here.
-/
import Derived.Test.YtfjmhfbmphdjiaaEvA
import Derived.Sort.MapsRangeIn
namespace Go.Proofs.Ytfjmhfbmphdjiaa
open Go.RowKit Go.Maps

def key (s : ByteArray) : Lit := .string s.data.toList
theorem key_inj {s t : ByteArray} (h : key s = key t) : s = t := by
  unfold key at h
  simp at h
  exact ByteArray.ext h
theorem Try.keyedStr : Keyed Try.prog 9 := string_keyed Try.underlying9
theorem Try.keyStr {s : ByteArray} (h : s.size ≤ maxLen) : keyOf Try.prog 9 (.string s) = some (key s) := by
  have hk := Try.underlying9
  simp [keyOf, hk, mapKey, h, key]
theorem keyStr_inv {k : Value} {kl : Lit} (h : keyOf Try.prog 9 k = some kl) : ∃ s, k = .string s ∧ kl = key s ∧ s.size ≤ maxLen := by
  have hk := Try.underlying9
  obtain ⟨s, rfl⟩ := Maps.keyOf_string_inv hk h
  simp [keyOf, hk, mapKey] at h
  exact ⟨s, rfl, h.2.symm, h.1⟩
theorem key_same (s t : ByteArray) : (key s).sameKey (key t) = decide (s = t) := by
  by_cases h : s = t
  · subst h
    rw [decide_eq_true rfl]
    exact WideAt.sameKey_self (by simp [key, WideAt.IsKeyLit])
  · rw [decide_eq_false h]
    exact sameKey_ne (fun e => h (key_inj e))
theorem row_not_iter {w : World} {base size k n r bm cnt : Nat} {e : TypeId} {u : Value} {xs : List Value} (hr : w.ownsRow base e size u k xs) {P : Program} {kt : TypeId} {D : DataW Value} {left : Lit → Bool} (hm : w.ranges P kt valR bm r n D left cnt) : some r ≠ u.ownBlock ∧ some bm ≠ u.ownBlock := by
  refine ⟨?_, row_not_map hr hm.owns⟩
  obtain ⟨es, clock, since, seen, c0, _, _, _, _, hb, _⟩ := hm
  rcases hr.2 with ⟨rfl, _⟩ | ⟨g, cap, cur, rfl, _, hg, _⟩
  · simp [Value.ownBlock]
  · intro he
    have e1 : r = g := by simpa [Value.ownBlock] using he
    subst e1
    rw [hb] at hg
    cases hg
theorem own_slice' {w : World} {B e n sz : Nat} {v : Value} {xs : List Value} (h : w.ownsRow B e sz v n xs) : ∃ eo cap, v = .slice eo n cap := by
  rcases h.2 with ⟨rfl, rfl⟩ | ⟨g, cap, cur, rfl, _⟩
  · exact ⟨_, _, rfl⟩
  · exact ⟨_, _, rfl⟩

section
variable {P : Program} (w : World) {ops : Array Oper} {rest : List Oper} {o : Oper} {a : Act} {Q : Exit → Act → World → Prop}
/-- The step of a range over a map with strings as keys. -/
theorem wpList_next_str (hg : o.guard = none) (it : Operand) (hop : o.op = Op.next it false) (b r n : Nat) (D : DataW Value) (left : Lit → Bool) (cnt : Nat)
    (hit : a.eval it = .pointer (some ⟨r, 0, none⟩)) (h : w.ranges Try.prog 9 valR b r n D left cnt)
    (hDone : cnt = 0 → (∀ kl, left kl = false) → wpList Try.prog ops Q rest (a.put o.dst (.tuple #[.bool false])) w)
    (hMore : ∀ (s : ByteArray) (v : Value) (w' : World) (cnt' : Nat), s.size ≤ maxLen → look D (key s) = some v → left (key s) = true → w'.ranges Try.prog 9 valR b r n D (fun z => left z && !z.sameKey (key s)) cnt' → cnt' < cnt → w.grownBy w' (some r) → w'.heap.size = w.heap.size →
      (Instr.entry (.pointer (some ⟨r, 0, none⟩))).run Try.prog w' = .ok (.tuple #[.string s, v]) w' → wpList Try.prog ops Q rest (a.put o.dst (.tuple #[.bool true, .string s, v])) w') :
    wpList Try.prog ops Q (o :: rest) a w := by
  refine wpList_plain hg fun K' hK' => ?_
  unfold Oper.wp
  rcases h.next Try.keyedStr o.type with ⟨h0, hl, hrun⟩ | ⟨k, v, kl, y, w', cnt', hkey, hlk, hv, hat, hrun, hrg, hlt, hgr, hsz, hen⟩
  · simp [execOp, hop, hit, hrun, Result.andThen]
    exact hK' _ _ (hDone h0 hl)
  · obtain ⟨s, rfl, rfl, hs⟩ := keyStr_inv hkey
    unfold valR at hv
    cases hv
    simp [execOp, hop, hit, hrun, Result.andThen]
    exact hK' _ _ (hMore s v w' cnt' hs (look_at hat) hlk hrg hlt hgr hsz hen)
end

/-- What has come of a map, and what is left. -/
structure CollS (D : DataW Value) (left : Lit → Bool) (ss : List (ByteArray × Int)) : Prop where
  nodup : (ss.map (·.1)).Nodup
  come : ∀ s q, (s, q) ∈ ss → s.size ≤ maxLen ∧ look D (key s) = some (.int .i64 q) ∧ left (key s) = false
  rest : ∀ s q, s.size ≤ maxLen → look D (key s) = some (.int .i64 q) → left (key s) = false → (s, q) ∈ ss
theorem CollS.start {D : DataW Value} (hD : AllHeld D) : CollS D (Maps.has D) [] :=
  ⟨.nil, fun _ _ h => (by cases h), fun s q _ h1 h2 => by rw [has_look hD, h1] at h2; cases h2⟩
theorem CollS.step {D : DataW Value} {left : Lit → Bool} {ss : List (ByteArray × Int)} (h : CollS D left ss) {s : ByteArray} {q : Int} (hs : s.size ≤ maxLen) (hl : left (key s) = true) (hv : look D (key s) = some (.int .i64 q)) : CollS D (fun z => left z && !z.sameKey (key s)) (ss ++ [(s, q)]) := by
  have hn : s ∉ ss.map (·.1) := fun hm => by
    obtain ⟨⟨s', q'⟩, hm', rfl⟩ := List.mem_map.1 hm
    have := (h.come s' q' hm').2.2
    rw [hl] at this
    cases this
  refine ⟨?_, ?_, ?_⟩
  · rw [List.map_append, List.nodup_append]
    exact ⟨h.nodup, by simp, fun a ha b hb => by simp at hb; subst hb; rintro rfl; exact hn ha⟩
  · intro s' q' hm
    rcases List.mem_append.1 hm with hm | hm
    · obtain ⟨h0, h1, h2⟩ := h.come s' q' hm
      exact ⟨h0, h1, by simp [h2]⟩
    · simp at hm
      obtain ⟨rfl, rfl⟩ := hm
      exact ⟨hs, hv, by simp [key_same]⟩
  · intro s' q' h0 h1 h2
    simp only [key_same] at h2
    by_cases e : s' = s
    · subst e
      rw [hv] at h1
      cases h1
      simp
    · simp [e] at h2
      exact List.mem_append.2 (.inl (h.rest s' q' h0 h1 h2))
theorem CollS.done {D : DataW Value} {left : Lit → Bool} {ss : List (ByteArray × Int)} (h : CollS D left ss) (hl : ∀ kl, left kl = false) : ∀ s q, (s, q) ∈ ss ↔ s.size ≤ maxLen ∧ look D (key s) = some (.int .i64 q) :=
  fun s q => ⟨fun hm => ⟨(h.come s q hm).1, (h.come s q hm).2.1⟩, fun hv => h.rest s q hv.1 hv.2 (hl _)⟩
theorem size_le {w : World} {P : Program} {k : TypeId} {b n : Nat} {D : DataW Value} (h : w.ownsMap P k valR b n D) : Maps.size D ≤ n := by
  obtain ⟨es, clock, _, _, hs, rfl⟩ := h
  have e1 : Maps.size (DataW.map ((es.toList.map (Go.WideElems.rg P k valR)).foldr DataW.insert [])) = es.size := by simp [Maps.size, length_sorted]
  omega
end Go.Proofs.Ytfjmhfbmphdjiaa
