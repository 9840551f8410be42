/-
  What 'append(v, x...)' makes of an owned row v of strings and a slice x that holds strings; a slice of bytes is left alone by what grows elsewhere. Over any program.
-/
import Derived.Test.YtmokelmeihmeiabDoorFStrs
import Derived.Maps.AppendAt
namespace Go.Proofs.YtmokelmeihmeiabDoor
open Go.RowKit

def texts (ls : List ByteArray) : List Value := ls.map Value.string
theorem texts_len (ls : List ByteArray) : (texts ls).length = ls.length := by simp [texts]
theorem texts_append (a b : List ByteArray) : texts (a ++ b) = texts a ++ texts b := by simp [texts]
theorem texts_one (ls : List ByteArray) : ∀ u ∈ texts ls, u.oneCell' = true := by
  intro u hu
  obtain ⟨_, _, rfl⟩ := List.mem_map.1 hu
  rfl

theorem HeldS.news {w : World} {ao : Option Addr} {len cap : Nat} {ls : List ByteArray} (h : HeldS w ao len cap ls) : ∀ ad, ao = some ad → ∀ j u, (texts ls)[j]? = some u → w.cell? (ad.add j) = some u := by
  intro ad ha j u hu
  have hj : j < ls.length := by
    have := (List.getElem?_eq_some_iff.1 hu).1
    simpa [texts] using this
  rw [h.cell ad ha j (by rw [← h.hlen]; exact hj)]
  simp [texts, List.getElem?_eq_getElem hj] at hu
  subst hu
  simp [List.getD, List.getElem?_eq_getElem hj]

theorem run_append_empty {P : Program} (w : World) (base : Nat) (t ty e : TypeId) (i : TypeInfo) (size : Nat) (ht : P.underlying t = some (.slice e)) (hi : P.info? e = some i)
    (v : Value) (n c : Nat) (xs : List Value) (hown : w.ownsRow base e size v n xs) : (Builtin.append_ #[t, t] ty #[v, .slice none 0 c]).run P w = .ok v w := by
  rcases hown.2 with ⟨rfl, rfl⟩ | ⟨g, cap, cur, rfl, _, _, hnc, _⟩
  · simp [Builtin.append_, run_underlying ht, sizeOf, typeInfo, hi, Builtin.lenOf, Builtin.firstCells]
  · simp [Builtin.append_, run_underlying ht, sizeOf, typeInfo, hi, Builtin.lenOf, Builtin.firstCells, hnc, storeCells]

theorem wpList_want {P : Program} {ops : Array Oper} {rest : List Oper} {o : Oper} {a : Act} {w : World} {Q : Exit → Act → World → Prop} (hg : Region.wanted o (yielded ops a.tmps) = true)
    (h : ∀ K : Act → World → Prop, (∀ a w, wpList P ops Q rest a w → K a w) → o.wp P a w K Q) : wpList P ops Q (o :: rest) a w :=
  wpList_step fun K hK => by rw [if_pos hg]; exact h K hK

theorem wpList_append_texts {P : Program} (w : World) {ops : Array Oper} {rest : List Oper} {o : Oper} {a : Act} {Q : Exit → Act → World → Prop} (hgd : Region.wanted o (yielded ops a.tmps) = true) (s x : Operand) (t : TypeId)
    (ho : o.op = .call { callee := .builtin .append, args := #[s, x], argTypes := #[t, t] })
    (base : Nat) (e : TypeId) (i : TypeInfo) (ht : P.underlying t = some (.slice e)) (hi : P.info? e = some i) (hz : i.zero = some (.string ⟨#[]⟩)) (hsize : i.size = 1) (hby : i.bytes = 16)
    (v : Value) (n : Nat) (bs : List ByteArray) (hs : a.eval s = v) (hown : w.ownsRow base e 1 v n (texts bs))
    (ao : Option Addr) (m c : Nat) (cs : List ByteArray) (hx : a.eval x = .slice ao m c) (hh : HeldS w ao m c cs) (hsum : n + m ≤ 1000000000000) (hbase : base ≤ w.heap.size)
    (h : ∀ bo cp w', w'.ownsRow base e 1 (.slice bo (n + m) cp) (n + m) (texts (bs ++ cs)) → HeldS w' bo (n + m) cp (bs ++ cs) → Below base w w' → wpList P ops Q rest (a.put o.dst (.slice bo (n + m) cp)) w') :
    wpList P ops Q (o :: rest) a w := by
  cases ao with
  | none =>
    have hm : m = 0 := by
      rcases Nat.eq_zero_or_pos m with h0 | h0
      · exact h0
      · obtain ⟨ad, had⟩ := hh.hsome h0; cases had
    subst hm
    have hcs : cs = [] := List.eq_nil_of_length_eq_zero hh.hlen
    subst hcs
    obtain ⟨bo, cp, rfl, hhv⟩ := heldS_of_own hown
    refine wpList_want hgd fun K hK => ?_
    have hr := run_append_empty (P := P) w base t o.type e i 1 ht hi _ n c _ hown
    unfold Oper.wp execOp
    simp only [ho, resolve, invoke, builtin, Sem.run_bind, Sem.run_pure, Result.andThen_ok, List.map_toArray, List.map_cons, List.map_nil, hs, hx, hr]
    refine hK _ _ ?_
    have := h bo cp w (by simpa using hown) (by simpa using hhv) (Below.refl _ _)
    simpa using this
  | some ad =>
    refine wpList_want hgd fun K hK => ?_
    obtain ⟨v', w', hr, hown', hgrow, _, _⟩ := run_append_own_at (P := P) w base t o.type e i (.string ⟨#[]⟩) 1 16 ht hi hz hsize hby rfl (by decide) v n (texts bs) hown ad m c (texts cs) (by rw [texts_len, hh.hlen]; omega) (hh.news ad rfl) (texts_one cs) (by unfold maxLen; omega) (by omega) hbase
    unfold Oper.wp execOp
    simp only [ho, resolve, invoke, builtin, Sem.run_bind, Sem.run_pure, Result.andThen_ok, List.map_toArray, List.map_cons, List.map_nil, hs, hx, hr]
    rw [← texts_append] at hown'
    obtain ⟨bo, cp, rfl, hhv⟩ := heldS_of_own hown'
    exact hK _ _ (h bo cp w' hown' hhv ((Below.refl _ _).grown hgrow hbase (own_lt hown)))

theorem ownS_made (w : World) (B : Nat) (hB : B ≤ w.heap.size) : (w.alloc (.cells #[] 9)).ownsRow B 9 1 (.slice (some ⟨w.heap.size, 0, none⟩) 0 0) 0 (texts []) :=
  World.ownsRow_made w #[] 0 hB (Nat.zero_le _) rfl

theorem Held.grown {w w' : World} {ao : Option Addr} {len cap : Nat} {bs : List Int} {g : Option Nat} (h : Held w ao len cap bs) (hg : w.grownBy w' g) (hne : ∀ ad, ao = some ad → some ad.block ≠ g) : Held w' ao len cap bs := by
  refine ⟨h.hlen, h.hcap, h.hmax, h.nil, h.byte, fun ad ha j hj => ?_, fun ad ha hp => Nat.lt_of_lt_of_le (h.old ad ha hp) hg.size⟩
  have hb : (ad.add j).block = ad.block := by unfold Addr.add; split <;> rfl
  exact hg.cell (h.cell ad ha j hj) (by rw [hb]; exact hne ad ha)

theorem scan_plain (ao : Option Addr) (len cap : Nat) (bs : List Int) (w : World) (ht : Tab w) (h : Held w ao len cap bs) (hsmall : len ≤ 1000000000) :
    Calls Tryd.prog 11 #[.slice ao len cap] w fun e w' => ∃ mo n mc, e = .returned (.tuple #[.slice mo n mc, .int .i64 (endP bs)]) ∧ HeldS w' mo n mc (pays bs) ∧ Below w.heap.size w w' := by
  have hl := h.hlen
  have hs := scan_any ao len cap bs w ht h hsmall (by have := scanAll_len bs; omega)
  rw [endOf_eq bs (by omega), end_pays, scan_pays] at hs
  exact hs.mono fun _ _ ⟨mo, mc, he, hh, hb⟩ => ⟨mo, _, mc, he, hh, hb⟩

theorem framesOf_snoc {ls : List ByteArray} {k : Nat} (h : k < ls.length) : framesOf (ls.take (k + 1)) = framesOf (ls.take k) ++ frameOf (strNums (ls.getD k ByteArray.empty)) := by
  rw [List.take_succ_eq_append_getElem h, framesOf_append]
  simp [framesOf, List.getD, List.getElem?_eq_getElem h]

theorem HeldS.item {w wr : World} {lo : Option Addr} {m mc : Nat} {ls : List ByteArray} {b0 off0 k : Nat} (h : HeldS w lo m mc ls) (hb : Below w.heap.size w wr) (hk : k < m) (hlo : lo = some ⟨b0, off0, none⟩) :
    wr.cell? ⟨b0, off0 + k, none⟩ = some (.string (ls.getD k ByteArray.empty)) := by
  obtain ⟨b, off, e, hlt, hcell⟩ := h.at (by omega : 0 < m)
  rw [hlo] at e
  obtain ⟨rfl, rfl, _⟩ := Addr.mk.inj (Option.some.inj e)
  rw [hb.cell (by simpa using hlt)]
  exact hcell k hk

theorem take_small {ls : List ByteArray} {k : Nat} (hk : k < ls.length) (h : ∀ s ∈ ls.take k, s.size ≤ 65536) (hc : (ls.getD k ByteArray.empty).size ≤ 65536) : ∀ s ∈ ls.take (k + 1), s.size ≤ 65536 := by
  intro s hs
  rw [List.take_succ_eq_append_getElem hk] at hs
  rcases List.mem_append.1 hs with h' | h'
  · exact h s h'
  · have : s = ls[k] := by simpa using h'
    subst this
    simpa [List.getD, List.getElem?_eq_getElem hk] using hc

end Go.Proofs.YtmokelmeihmeiabDoor
