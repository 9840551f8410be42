/-
  Package cart: slices.Equal of ints, same, goesBy; the law's sameVector, SameEvent.
-/
import Derived.Test.YtmpkbdhihdboiaaVoA
import Derived.Test.YtmpkbdhihdboiaaVvE
import Derived.Sort.MapsRangeIn
import Derived.Test.YtmpkbdhihdboiaaNames
import Derived.Test.YtmpkbdhihdboiaaSealA
namespace Go.Proofs.Ytmpkbdhihdboiaa
open Go.RowKit Go.Maps

theorem bt {w w0 w1 : World} (h : Below w.heap.size w w0) (hb : Below w0.heap.size w0 w1) : Below w.heap.size w w1 := h.trans (hb.mono h.size)
theorem bytes_inj {a b : ByteArray} (h : a.toList = b.toList) : a = b := by
  rw [ByteArray.toList_eq, ByteArray.toList_eq] at h
  exact ByteArray.ext (Array.toList_inj.1 h)
theorem ev_two (w : World) (x y : EvM) : Below w.heap.size w ((w.alloc (.cells x.cells.toArray 36)).alloc (.cells y.cells.toArray 36)) := ((Below.refl _ _).alloc (Nat.le_refl _) _).alloc (by simp) _
theorem ev_blk1 (w : World) (x y : EvM) : Blk ((w.alloc (.cells x.cells.toArray 36)).alloc (.cells y.cells.toArray 36)) w.heap.size 36 x.cells := (Blk.new w _ _).alloc _
theorem ev_blk2 (w : World) (x y : EvM) : Blk ((w.alloc (.cells x.cells.toArray 36)).alloc (.cells y.cells.toArray 36)) (w.heap.size + 1) 36 y.cells := by
  have := Blk.new (w.alloc (.cells x.cells.toArray 36)) 36 y.cells
  rw [World.size_alloc] at this
  exact this
end Go.Proofs.Ytmpkbdhihdboiaa
/-
  Maps with strings as keys and ints as elements: what lies in them, ranging over them. No function of the program is named here.
-/
namespace Go.Proofs.Ytmpkbdhihdboiaa
open Go.RowKit Go.Maps

def key (s : ByteArray) : Lit := .string s.data.toList
theorem key_inj {s t : ByteArray} (h : key s = key t) : s = t := by
  unfold key at h
  simp at h
  exact ByteArray.ext h
theorem Try.keyedStr : Keyed Try.prog 9 := string_keyed Try.underlying9
theorem Try.keyStr {s : ByteArray} (h : s.size ≤ maxLen) : keyOf Try.prog 9 (.string s) = some (key s) := by
  have hk := Try.underlying9
  simp [keyOf, hk, mapKey, h, key]
theorem keyStr_inv {k : Value} {kl : Lit} (h : keyOf Try.prog 9 k = some kl) : ∃ s, k = .string s ∧ kl = key s ∧ s.size ≤ maxLen := by
  have hk := Try.underlying9
  obtain ⟨s, rfl⟩ := Maps.keyOf_string_inv hk h
  simp [keyOf, hk, mapKey] at h
  exact ⟨s, rfl, h.2.symm, h.1⟩
theorem key_same (s t : ByteArray) : (key s).sameKey (key t) = decide (s = t) := by
  by_cases h : s = t
  · subst h
    rw [decide_eq_true rfl]
    exact WideAt.sameKey_self (by simp [key, WideAt.IsKeyLit])
  · rw [decide_eq_false h]
    exact sameKey_ne (fun e => h (key_inj e))
theorem row_not_iter {w : World} {base size k n r bm cnt : Nat} {e : TypeId} {u : Value} {xs : List Value} (hr : w.ownsRow base e size u k xs) {P : Program} {kt : TypeId} {D : DataW Value} {left : Lit → Bool} (hm : w.ranges P kt valR bm r n D left cnt) : some r ≠ u.ownBlock ∧ some bm ≠ u.ownBlock := by
  refine ⟨?_, row_not_map hr hm.owns⟩
  obtain ⟨es, clock, since, seen, c0, _, _, _, _, hb, _⟩ := hm
  rcases hr.2 with ⟨rfl, _⟩ | ⟨g, cap, cur, rfl, _, hg, _⟩
  · simp [Value.ownBlock]
  · intro he
    have e1 : r = g := by simpa [Value.ownBlock] using he
    subst e1
    rw [hb] at hg
    cases hg
theorem own_slice' {w : World} {B e n sz : Nat} {v : Value} {xs : List Value} (h : w.ownsRow B e sz v n xs) : ∃ eo cap, v = .slice eo n cap := by
  rcases h.2 with ⟨rfl, rfl⟩ | ⟨g, cap, cur, rfl, _⟩
  · exact ⟨_, _, rfl⟩
  · exact ⟨_, _, rfl⟩

section
variable {P : Program} (w : World) {ops : Array Oper} {rest : List Oper} {o : Oper} {a : Act} {Q : Exit → Act → World → Prop}
/-- The step of a range over a map with strings as keys. -/
theorem wpList_next_str (hg : o.guard = none) (it : Operand) (hop : o.op = Op.next it false) (b r n : Nat) (D : DataW Value) (left : Lit → Bool) (cnt : Nat)
    (hit : a.eval it = .pointer (some ⟨r, 0, none⟩)) (h : w.ranges Try.prog 9 valR b r n D left cnt)
    (hDone : cnt = 0 → (∀ kl, left kl = false) → wpList Try.prog ops Q rest (a.put o.dst (.tuple #[.bool false])) w)
    (hMore : ∀ (s : ByteArray) (v : Value) (w' : World) (cnt' : Nat), s.size ≤ maxLen → look D (key s) = some v → left (key s) = true → w'.ranges Try.prog 9 valR b r n D (fun z => left z && !z.sameKey (key s)) cnt' → cnt' < cnt → w.grownBy w' (some r) → w'.heap.size = w.heap.size →
      (Instr.entry (.pointer (some ⟨r, 0, none⟩))).run Try.prog w' = .ok (.tuple #[.string s, v]) w' → wpList Try.prog ops Q rest (a.put o.dst (.tuple #[.bool true, .string s, v])) w') :
    wpList Try.prog ops Q (o :: rest) a w := by
  refine wpList_plain hg fun K' hK' => ?_
  unfold Oper.wp
  rcases h.next Try.keyedStr o.type with ⟨h0, hl, hrun⟩ | ⟨k, v, kl, y, w', cnt', hkey, hlk, hv, hat, hrun, hrg, hlt, hgr, hsz, hen⟩
  · simp [execOp, hop, hit, hrun, Result.andThen]
    exact hK' _ _ (hDone h0 hl)
  · obtain ⟨s, rfl, rfl, hs⟩ := keyStr_inv hkey
    unfold valR at hv
    cases hv
    simp [execOp, hop, hit, hrun, Result.andThen]
    exact hK' _ _ (hMore s v w' cnt' hs (look_at hat) hlk hrg hlt hgr hsz hen)
end

/-- What has come of a map, and what is left. -/
structure CollS (D : DataW Value) (left : Lit → Bool) (ss : List (ByteArray × Int)) : Prop where
  nodup : (ss.map (·.1)).Nodup
  come : ∀ s q, (s, q) ∈ ss → s.size ≤ maxLen ∧ look D (key s) = some (.int .i64 q) ∧ left (key s) = false
  rest : ∀ s q, s.size ≤ maxLen → look D (key s) = some (.int .i64 q) → left (key s) = false → (s, q) ∈ ss
theorem CollS.start {D : DataW Value} (hD : AllHeld D) : CollS D (Maps.has D) [] :=
  ⟨.nil, fun _ _ h => (by cases h), fun s q _ h1 h2 => by rw [has_look hD, h1] at h2; cases h2⟩
theorem CollS.step {D : DataW Value} {left : Lit → Bool} {ss : List (ByteArray × Int)} (h : CollS D left ss) {s : ByteArray} {q : Int} (hs : s.size ≤ maxLen) (hl : left (key s) = true) (hv : look D (key s) = some (.int .i64 q)) : CollS D (fun z => left z && !z.sameKey (key s)) (ss ++ [(s, q)]) := by
  have hn : s ∉ ss.map (·.1) := fun hm => by
    obtain ⟨⟨s', q'⟩, hm', rfl⟩ := List.mem_map.1 hm
    have := (h.come s' q' hm').2.2
    rw [hl] at this
    cases this
  refine ⟨?_, ?_, ?_⟩
  · rw [List.map_append, List.nodup_append]
    exact ⟨h.nodup, by simp, fun a ha b hb => by simp at hb; subst hb; rintro rfl; exact hn ha⟩
  · intro s' q' hm
    rcases List.mem_append.1 hm with hm | hm
    · obtain ⟨h0, h1, h2⟩ := h.come s' q' hm
      exact ⟨h0, h1, by simp [h2]⟩
    · simp at hm
      obtain ⟨rfl, rfl⟩ := hm
      exact ⟨hs, hv, by simp [key_same]⟩
  · intro s' q' h0 h1 h2
    simp only [key_same] at h2
    by_cases e : s' = s
    · subst e
      rw [hv] at h1
      cases h1
      simp
    · simp [e] at h2
      exact List.mem_append.2 (.inl (h.rest s' q' h0 h1 h2))
theorem CollS.done {D : DataW Value} {left : Lit → Bool} {ss : List (ByteArray × Int)} (h : CollS D left ss) (hl : ∀ kl, left kl = false) : ∀ s q, (s, q) ∈ ss ↔ s.size ≤ maxLen ∧ look D (key s) = some (.int .i64 q) :=
  fun s q => ⟨fun hm => ⟨(h.come s q hm).1, (h.come s q hm).2.1⟩, fun hv => h.rest s q hv.1 hv.2 (hl _)⟩
theorem size_le {w : World} {P : Program} {k : TypeId} {b n : Nat} {D : DataW Value} (h : w.ownsMap P k valR b n D) : Maps.size D ≤ n := by
  obtain ⟨es, clock, _, _, hs, rfl⟩ := h
  have e1 : Maps.size (DataW.map ((es.toList.map (Go.WideElems.rg P k valR)).foldr DataW.insert [])) = es.size := by simp [Maps.size, length_sorted]
  omega
end Go.Proofs.Ytmpkbdhihdboiaa
/-
  codec.Seal of a seal without a cut.
-/
namespace Go.Proofs.Ytmpkbdhihdboiaa
open Go.RowKit Go.Maps

theorem upTo_any (w : World) (x m : Int) : Calls Try.prog 37 #[.int .i64 x, .int .i64 m] w fun e w' => e = .returned (.bool (decide (0 ≤ x ∧ x ≤ m))) ∧ w' = w := by
  by_cases h0 : 0 ≤ x
  · by_cases h1 : x ≤ m
    · have HD : Hid (decide (0 ≤ x ∧ x ≤ m) = true) := decide_eq_true ⟨h0, h1⟩
      rw [HD.out]
      go_enter Try.func37, Try.ntmps37
      go_wp2
      go_ret
      exact ⟨by simp, rfl⟩
    · have HD : Hid (decide (0 ≤ x ∧ x ≤ m) = false) := decide_eq_false fun h => h1 h.2
      rw [HD.out]
      go_enter Try.func37, Try.ntmps37
      go_wp2
      go_ret
      exact ⟨by simp, rfl⟩
  · have HD : Hid (decide (0 ≤ x ∧ x ≤ m) = false) := decide_eq_false fun h => h0 h.1
    rw [HD.out]
    go_enter Try.func37, Try.ntmps37
    go_wp2
    go_ret
    exact ⟨by simp, rfl⟩
theorem every_nil (w : World) (f : Value) : Calls Try.prog 92 #[.slice none 0 0, f] w fun e w' => e = .returned (.bool true) ∧ w' = w := by
  go_enter Try.func92, Try.ntmps92
  go_wp2
  refine wp_loop_rounds 1 ?_
  rw [rounds_succ]
  go_wp2
  go_ret
  exact ⟨rfl, rfl⟩
theorem mayList_nil (w : World) (f : Value) : Calls Try.prog 70 #[.slice none 0 0, .int .i64 7, f] w fun e w' => e = .returned (.bool true) ∧ w' = w := by
  have H := hid (every_nil w f)
  go_enter Try.func70, Try.ntmps70
  go_wp2_with fail
  refine H.out.mono ?_
  rintro e w' ⟨rfl, rfl⟩
  go_wp2
  go_ret
  exact ⟨rfl, rfl⟩
theorem plain_nil (w : World) : Calls Try.prog 72 #[.slice none 0 0] w fun e w' => e = .returned (.bool true) ∧ w' = w := by
  go_enter Try.func72, Try.ntmps72
  go_wp2
  go_ret
  exact ⟨rfl, rfl⟩
theorem mayVector_nil (w : World) : Calls Try.prog 42 #[.slice none 0 0] w fun e w' => e = .returned (.bool true) ∧ w' = w := by
  have H := hid (fun f => mayList_nil w f)
  have H2 := hid (plain_nil w)
  go_enter Try.func42, Try.ntmps42
  go_wp2_with fail
  refine (H.out _).mono ?_
  rintro e w' ⟨rfl, rfl⟩
  go_wp2_with fail
  refine H2.out.mono ?_
  rintro e w' ⟨rfl, rfl⟩
  go_wp2
  go_ret
  exact ⟨rfl, rfl⟩
theorem nameS_size {s : ByteArray} (h : nameS s = true) : s.size ≤ 32 := by
  unfold nameS at h
  simp at h
  omega
theorem maySeal0_any (w : World) (tok cart : ByteArray) (h1 : nameS tok = true) (h2 : nameS cart = true) (ep : Int) (h3 : 0 ≤ ep ∧ ep ≤ 2147483647) :
    Calls Try.prog 21 #[.agg #[.string tok, .string cart, .int .i64 ep, .slice none 0 0]] w fun e w' => e = .returned (.bool true) ∧ Below w.heap.size w w' := by
  have hz1 := nameS_size h1
  have hz2 := nameS_size h2
  have HN1 := hid (fun V => codecName_any tok V (by unfold maxLen; omega))
  have HN2 := hid (fun V => codecName_any cart V (by unfold maxLen; omega))
  rw [h1] at HN1
  rw [h2] at HN2
  have HU := hid (fun V => upTo_any V ep 2147483647)
  rw [decide_eq_true h3] at HU
  have HM := hid mayVector_nil
  have HB : Hid (Below w.heap.size w (w.alloc (.cells #[.string tok, .string cart, .int .i64 ep, .slice none 0 0] 26))) := (Below.refl _ _).alloc (Nat.le_refl _) _
  have hk := Blk.new w 26 [.string tok, .string cart, .int .i64 ep, .slice none 0 0]
  have c0 := hk.cell (i := 0) rfl
  have c1 := hk.cell (i := 1) rfl
  have c2 := hk.cell (i := 2) rfl
  have c3 := hk.cell (i := 3) rfl
  clear hk h1 h2 h3 hz1 hz2
  go_enter Try.func21, Try.ntmps21
  go_wp2_with fail
  refine (HN1.out _).mono ?_
  rintro e w' ⟨rfl, rfl⟩
  go_wp2_with fail
  refine (HN2.out _).mono ?_
  rintro e w' ⟨rfl, rfl⟩
  go_wp2_with fail
  refine (HU.out _).mono ?_
  rintro e w' ⟨rfl, rfl⟩
  go_wp2_with fail
  refine (HM.out _).mono ?_
  rintro e w' ⟨rfl, rfl⟩
  go_wp2
  go_ret
  exact ⟨rfl, HB.out⟩
theorem appendNumber_own (v : Value) (n : Nat) (bs : List Int) (x : Int) (B : Nat) (w : World) (h0 : 0 ≤ x) (hx : x ≤ 9223372036854775807) (hown : w.ownsRow B 5 1 v n (nums bs)) (hB : B ≤ w.heap.size) (hn : n ≤ 140737488355000) :
    Calls Try.prog 44 #[v, .int .i64 x] w fun e w' => ∃ v', e = .returned v' ∧ w'.ownsRow B 5 1 v' (n + (enc x.toNat).length) (nums (bs ++ enc x.toNat)) ∧ Below B w w' := by
  have H := hid (appendUint_own v n bs x B w h0 (by omega) hown hB hn)
  have hwr : IntKind.u64.wrap x = x := by rw [IntKind.wrap_u64]; omega
  clear hown
  go_enter Try.func44, Try.ntmps44
  go_wp2_with fail
  refine H.out.mono ?_
  rintro e w' ⟨v', rfl, h1, h2⟩
  have H1 := hid h1
  have H2 := hid h2
  clear h1 h2
  go_wp2
  go_ret
  exact ⟨v', rfl, H1.out, H2.out⟩
theorem appendVector_nil (v : Value) (n : Nat) (bs : List Int) (B : Nat) (w : World) (hown : w.ownsRow B 5 1 v n (nums bs)) (hB : B ≤ w.heap.size) (hn : n ≤ 140737488355000) :
    Calls Try.prog 49 #[v, .slice none 0 0] w fun e w' => ∃ v', e = .returned v' ∧ w'.ownsRow B 5 1 v' (n + (enc 0).length) (nums (bs ++ enc 0)) ∧ Below B w w' := by
  have HL : Hid (∀ f, Calls Try.prog 75 #[v, .slice none 0 0, f] w fun e w' => ∃ v', e = .returned v' ∧ w'.ownsRow B 5 1 v' (n + (enc 0).length) (nums (bs ++ enc 0)) ∧ Below B w w') := fun f => by
    have H := hid (appendUint_own v n bs 0 B w (Int.le_refl _) (by omega) hown hB hn)
    go_enter Try.func75, Try.ntmps75
    go_wp2_with fail
    refine H.out.mono ?_
    rintro e w' ⟨v', rfl, h1, h2⟩
    have H1 := hid h1
    have H2 := hid h2
    clear h1 h2
    go_wp2
    refine wp_loop_rounds 1 ?_
    rw [rounds_succ]
    go_wp2
    go_ret
    exact ⟨v', rfl, H1.out, H2.out⟩
  clear hown
  go_enter Try.func49, Try.ntmps49
  go_wp2_with fail
  refine (HL.out _).mono ?_
  rintro e w' ⟨v', rfl, h1, h2⟩
  have H1 := hid h1
  have H2 := hid h2
  clear h1 h2
  go_wp2
  go_ret
  exact ⟨v', rfl, H1.out, H2.out⟩
theorem appendSeal0_any (w : World) (tok cart : ByteArray) (h1 : tok.size ≤ 32) (h2 : cart.size ≤ 32) (ep : Int) (h3 : 0 ≤ ep ∧ ep ≤ 2147483647) :
    Calls Try.prog 22 #[.slice none 0 0, .agg #[.string tok, .string cart, .int .i64 ep, .slice none 0 0]] w fun e w' => (∃ o n c, e = .returned (.slice o n c) ∧ n ≤ 200) ∧ Below w.heap.size w w' := by
  obtain ⟨W, hW⟩ : ∃ W, W = w.alloc (.cells #[.string tok, .string cart, .int .i64 ep, .slice none 0 0] 26) := ⟨_, rfl⟩
  have HB : Hid (Below w.heap.size w W) := by rw [hW]; exact (Below.refl _ _).alloc (Nat.le_refl _) _
  have HK : Hid (Blk W w.heap.size 26 [.string tok, .string cart, .int .i64 ep, .slice none 0 0]) := by rw [hW]; exact Blk.new w _ _
  have l1 := encText_len tok
  have l2 := encText_len cart
  have m1 := enc_le10 (x := tok.size) (by omega)
  have m2 := enc_le10 (x := cart.size) (by omega)
  have m3 := enc_le10 (x := ep.toNat) (by omega)
  have m4 := enc_le10 (x := 0) (by omega)
  have HT1 := hid (appendText_own (.slice none 0 0) 0 [] tok W.heap.size W (World.ownsRow_nil _ _ _ _) (Nat.le_refl _) (by omega))
  obtain ⟨a1, ha1⟩ : ∃ a, a = (encText tok).length := ⟨_, rfl⟩
  obtain ⟨a2, ha2⟩ : ∃ a, a = (encText cart).length := ⟨_, rfl⟩
  obtain ⟨a3, ha3⟩ : ∃ a, a = (enc ep.toNat).length := ⟨_, rfl⟩
  obtain ⟨a4, ha4⟩ : ∃ a, a = (enc 0).length := ⟨_, rfl⟩
  have hs : a1 + a2 + a3 + a4 ≤ 104 := by omega
  rw [← ha1] at HT1
  have HT2 := hid (fun v bs V (hr : V.ownsRow W.heap.size 5 1 v (0 + a1) (nums bs)) (hV : W.heap.size ≤ V.heap.size) => appendText_own v (0 + a1) bs cart W.heap.size V hr hV (by omega))
  rw [← ha2] at HT2
  have HT3 := hid (fun v bs V (hr : V.ownsRow W.heap.size 5 1 v (0 + a1 + a2) (nums bs)) (hV : W.heap.size ≤ V.heap.size) => appendNumber_own v (0 + a1 + a2) bs ep W.heap.size V h3.1 (by omega) hr hV (by omega))
  rw [← ha3] at HT3
  have HT4 := hid (fun v bs V (hr : V.ownsRow W.heap.size 5 1 v (0 + a1 + a2 + a3) (nums bs)) (hV : W.heap.size ≤ V.heap.size) => appendVector_nil v (0 + a1 + a2 + a3) bs W.heap.size V hr hV (by omega))
  rw [← ha4] at HT4
  have c0 := HK.out.cell (i := 0) rfl
  have HW := hid hW
  clear hW l1 l2 m1 m2 m3 m4 ha1 ha2 ha3 ha4 h3
  rw [HW.out] at c0
  go_enter Try.func22, Try.ntmps22
  go_wp2_with fail
  rw [← HW.out]
  obtain ⟨p, hp⟩ : ∃ p, p = w.heap.size := ⟨_, rfl⟩
  rw [← hp] at HK ⊢
  have HPP := hid hp
  clear hp c0
  refine HT1.out.mono ?_
  rintro e w1 ⟨v1, rfl, hr1, hb1⟩
  have HR1 := hid hr1
  have HB1 := hid hb1
  have c1 := (HK.out.below hb1 HK.out.lt).cell (i := 1) rfl
  clear hr1 hb1 HT1
  go_wp2_with fail
  refine (HT2.out _ _ _ HR1.out HB1.out.size).mono ?_
  rintro e w2 ⟨v2, rfl, hr2, hb2⟩
  have HR2 := hid hr2
  have HB2 := hid (HB1.out.trans hb2)
  have c2 := (HK.out.below HB2.out HK.out.lt).cell (i := 2) rfl
  clear hr2 hb2 HT2
  go_wp2_with fail
  refine (HT3.out _ _ _ HR2.out HB2.out.size).mono ?_
  rintro e w3 ⟨v3, rfl, hr3, hb3⟩
  have HR3 := hid hr3
  have HB3 := hid (HB2.out.trans hb3)
  have c3 := (HK.out.below HB3.out HK.out.lt).cell (i := 3) rfl
  clear hr3 hb3 HT3
  go_wp2_with fail
  refine (HT4.out _ _ _ HR3.out HB3.out.size).mono ?_
  rintro e w4 ⟨v4, rfl, hr4, hb4⟩
  obtain ⟨o, c, hv⟩ := own_slice' hr4
  have HB4 := hid (HB3.out.trans hb4)
  subst hv
  clear hr4 hb4 HT4
  go_wp2
  go_ret
  exact ⟨⟨_, _, _, rfl, by omega⟩, bt HB.out HB4.out⟩
theorem seal0_any (w : World) (tok cart : ByteArray) (h1 : nameS tok = true) (h2 : nameS cart = true) (ep : Int) (h3 : 0 ≤ ep ∧ ep ≤ 2147483647) :
    Calls Try.prog 6 #[.agg #[.string tok, .string cart, .int .i64 ep, .slice none 0 0]] w fun e w' => (∃ v, e = .returned (.tuple #[v, .int .i64 0])) ∧ Below w.heap.size w w' := by
  have HWR : Hid (∀ V, Calls Try.prog 20 #[.agg #[.string tok, .string cart, .int .i64 ep, .slice none 0 0], .func (.func 21) #[] #[], .func (.func 22) #[] #[]] V fun e w' => (∃ v, e = .returned (.tuple #[v, .int .i64 0])) ∧ Below V.heap.size V w') := fun V => by
    obtain ⟨W, hW⟩ : ∃ W, W = V.alloc (.cells #[.string tok, .string cart, .int .i64 ep, .slice none 0 0] 26) := ⟨_, rfl⟩
    have HB : Hid (Below V.heap.size V W) := by rw [hW]; exact (Below.refl _ _).alloc (Nat.le_refl _) _
    have HK : Hid (Blk W V.heap.size 26 [.string tok, .string cart, .int .i64 ep, .slice none 0 0]) := by rw [hW]; exact Blk.new V _ _
    have HM := hid (maySeal0_any W tok cart h1 h2 ep h3)
    have HA := hid (fun U => appendSeal0_any U tok cart (nameS_size h1) (nameS_size h2) ep h3)
    have HW := hid hW
    clear hW h1 h2 h3
    go_enter Try.func20, Try.ntmps20
    go_wp2_with fail
    rw [← HW.out]
    obtain ⟨p, hp⟩ : ∃ p, p = V.heap.size := ⟨_, rfl⟩
    rw [← hp] at HK ⊢
    clear hp
    refine HM.out.mono ?_
    rintro e w1 ⟨rfl, hb1⟩
    have HB1 := hid (bt HB.out hb1)
    have hk := HK.out.below hb1 HK.out.lt
    have c0 := hk.cell (i := 0) rfl
    have c1 := hk.cell (i := 1) rfl
    have c2 := hk.cell (i := 2) rfl
    have c3 := hk.cell (i := 3) rfl
    clear hb1 hk HM
    go_wp2_with fail
    refine (HA.out _).mono ?_
    rintro e w2 ⟨⟨o, n, c, rfl, hn⟩, hb2⟩
    have HB2 := hid (bt HB1.out hb2)
    have hn' : ¬ (65536 : Int) < (n : Int) := by omega
    clear hb2
    go_wp2
    go_ret2
    exact ⟨⟨_, rfl⟩, HB2.out⟩
  obtain ⟨W, hW⟩ : ∃ W, W = w.alloc (.cells #[.string tok, .string cart, .int .i64 ep, .slice none 0 0] 26) := ⟨_, rfl⟩
  have HB : Hid (Below w.heap.size w W) := by rw [hW]; exact (Below.refl _ _).alloc (Nat.le_refl _) _
  have HW := hid hW
  clear hW h1 h2 h3
  go_enter Try.func6, Try.ntmps6
  go_wp2_with fail
  rw [← HW.out]
  refine (HWR.out _).mono ?_
  rintro e w1 ⟨⟨v, rfl⟩, hb⟩
  have HB1 := hid (bt HB.out hb)
  clear hb
  go_wp2
  go_ret2
  exact ⟨⟨_, rfl⟩, HB1.out⟩
end Go.Proofs.Ytmpkbdhihdboiaa
