/-
  Package dots: the iterator of All and Upto: it yields the items in order, till it is told to stop; in a fence.
-/
import Derived.Test.YtplecopphddjhaaDotsQ
namespace Go.Proofs.Ytplecopphddjhaa
open Go.RowKit Go.Shelf Go.Maps
attribute [local go_sem] Oper.semAt_some

/-- All cells stay but those of block b. -/
def Kx (b : Nat) (A B : World) : Prop := A.heap.size ≤ B.heap.size ∧ ∀ (k : Nat) (o : Obj), A.heap[k]? = some o → o.isCells = true → k ≠ b → B.heap[k]? = some o
theorem Kx.refl (b : Nat) (A : World) : Kx b A A := ⟨Nat.le_refl _, fun _ _ h _ _ => h⟩
theorem Kx.trans {b : Nat} {A B C : World} (h : Kx b A B) (k : Kx b B C) : Kx b A C := ⟨Nat.le_trans h.1 k.1, fun j o h1 h2 h3 => k.2 j o (h.2 j o h1 h2 h3) h2 h3⟩
theorem Kx.below {b : Nat} {A B : World} (h : Below A.heap.size A B) : Kx b A B := ⟨h.size, fun k _ h1 _ _ => (h.block k (Array.getElem?_eq_some_iff.1 h1).1).trans h1⟩
theorem Kx.alloc (b : Nat) (A : World) (o : Obj) : Kx b A (A.alloc o) := Kx.below ((Below.refl _ _).alloc (Nat.le_refl _) o)
theorem Kx.set (b : Nat) (A : World) (u : Value) : Kx b A (A.setCell ⟨b, 0, none⟩ u) := ⟨by simp, fun k _ h1 _ h3 => (Below.heap_setCell _ _ _ _ (fun e => h3 e)).trans h1⟩
theorem Kx.put {b : Nat} (W : World) (l : Nat) (o o' : Obj) (h : W.heap[l]? = some o) (hc : o.isCells = false) : Kx b W (W.putObj l o') := ⟨(grownBy_putObj' W l o').size, fun k o2 h1 h2 _ => by
  refine ((grownBy_putObj' W l o').block k (Array.getElem?_eq_some_iff.1 h1).1 (fun e => ?_)).trans h1
  have e := Option.some.inj e
  subst e
  rw [h] at h1
  cases h1
  rw [hc] at h2
  cases h2⟩
theorem Kx.row {b : Nat} {A B : World} (h : Kx b A B) {C e size n : Nat} {v : Value} {xs : List Value} (hr : A.ownsRow C e size v n xs) (hb : v.ownBlock ≠ some b) : B.ownsRow C e size v n xs := by
  obtain ⟨h1, h2⟩ := hr
  refine ⟨h1, ?_⟩
  rcases h2 with h2 | ⟨g, cap, cur, rfl, h3, h4, h5⟩
  · exact .inl h2
  · exact .inr ⟨g, cap, cur, rfl, h3, h.2 g _ h4 rfl (fun e => hb (by rw [← e]; rfl)), h5⟩
theorem flatI_at : ∀ (ds : List It) (i : Nat) (hi : i < ds.length), (flatI ds)[i * 3]? = some (.int .i64 ds[i].1.1) ∧ (flatI ds)[i * 3 + 1]? = some (.int .i64 ds[i].1.2) ∧ (flatI ds)[i * 3 + 2]? = some (.string ds[i].2)
  | [], _, hi => by simp at hi
  | x :: r, 0, _ => by simp [flatI, itCells]
  | x :: r, k + 1, hi => by
    have := flatI_at r k (by simpa using hi)
    simp only [flatI, List.flatMap_cons, itCells] at this ⊢
    rw [show (k + 1) * 3 = k * 3 + 3 by omega, show k * 3 + 3 + 1 = k * 3 + 1 + 3 by omega, show k * 3 + 3 + 2 = k * 3 + 2 + 3 by omega]
    simpa using this
theorem items_cells {w : World} {B n cap : Nat} {eo : Option Addr} {ds : List It} (h : w.ownsRow B 77 3 (.slice eo n cap) ds.length (flatI ds)) (hpos : 0 < ds.length) :
    ∃ g, eo = some ⟨g, 0, none⟩ ∧ B ≤ g ∧ g < w.heap.size ∧ ∀ i (hi : i < ds.length), w.cell? ⟨g, i * 3, none⟩ = some (.int .i64 ds[i].1.1) ∧ w.cell? ⟨g, i * 3 + 1, none⟩ = some (.int .i64 ds[i].1.2) ∧ w.cell? ⟨g, i * 3 + 2, none⟩ = some (.string ds[i].2) := by
  rcases h.2 with ⟨_, h0⟩ | ⟨g, c, cur, e, hbg, hg, _⟩
  · omega
  · cases e
    refine ⟨g, rfl, hbg, (Array.getElem?_eq_some_iff.1 hg).1, fun i hi => ?_⟩
    obtain ⟨k0, k1, k2⟩ := flatI_at ds i hi
    have h1 := h.cells (g := g) rfl (i * 3) _ k0
    have h2 := h.cells (g := g) rfl (i * 3 + 1) _ k1
    have h3 := h.cells (g := g) rfl (i * 3 + 2) _ k2
    rw [Addr.add_lit, Nat.zero_add] at h1 h2 h3
    exact ⟨h1, h2, h3⟩
section
variable {p m N : Nat} {rs : Nat → Value} {R : Nat → List Value} {D : DataW Value} {S : Int → Int → Option Value}
set_option maxRecDepth 100000 in
set_option maxHeartbeats 2000000 in
theorem those_seq (n : Nat) (hn : 1 ≤ n) (q0 q1 b : Nat) (V : World) (hb : b < V.heap.size) (hP : DotsPre V p rs R m D S N) {fv : Value} {f : Int → Int → Bool} (hw : Want V fv f) (h0 : Boxed V q0 26 (.pointer (some ⟨p, 0, none⟩))) (h1 : Boxed V q1 53 fv) :
    SeqStopsK Fence.wide n Try.prog 46 #[.pointer (some ⟨q0, 0, none⟩), .pointer (some ⟨q1, 0, none⟩)] (fun x : It => #[dotV x.1, .string x.2]) (Kx b) (fun ys => ItsOf S f ys ∧ ((∀ o s, f o s = true) → ys.length = N)) (fun pre => ∃ its, ItsOf S f its ∧ pre <+: its) N V := by
  intro l J Jx W hW hJ hJx hY hj
  have hb0 : Boxed W q0 26 (.pointer (some ⟨p, 0, none⟩)) := (hW.block _ h0.lt).trans h0
  have hb1 : Boxed W q1 53 fv := (hW.block _ h1.lt).trans h1
  have hc0 := hb0.cell
  have hc1 := hb1.cell
  have HJ := hid hJ
  have HY := hid hY
  have HPW := hid (hP.below hW)
  have HWW := hid (hw.below hW)
  have HBW : Hid (b < W.heap.size) := Nat.lt_of_lt_of_le hb hW.size
  clear hW hJx hY hb0 hb1 h0 h1 hJ hP hw hb
  change CallsIn Fence.wide n Try.prog 46 #[.func (.yield l) #[] #[], .pointer (some ⟨q0, 0, none⟩), .pointer (some ⟨q1, 0, none⟩)] W _
  refine callsIn_of_wp Try.func46 rfl trivial ?_ rfl
  simp only [Try.ntmps46, List.size_toArray, List.length_cons, List.length_nil, Nat.reduceAdd, Nat.reduceSub, Array.replicate_succ, Array.replicate_zero, List.push_toArray, List.append_toArray, List.nil_append, List.cons_append]
  gi_wp2_with fail
  refine ⟨trivial, (callsIn_wide.2 (items_any HPW.out HWW.out)).mono ?_⟩
  rintro e w2 ⟨eo, cap, its, rfl, hits, ⟨hle, hall⟩, hrow, hb⟩
  have HJ2 := hid (HJ.out [] W w2 none hj ⟨hb.os, hb.tape, hb.output, hb.size, fun k hk _ => hb.block k hk⟩ (fun r e => by cases e))
  have HITS := hid hits
  have HALL := hid hall
  have HROW := hid hrow
  have HLE := hid hle
  have hN := HPW.out.few
  obtain ⟨L, HL⟩ : ∃ L, Hid (its.length = L) := ⟨_, hid rfl⟩
  rw [HL.out] at hle ⊢
  have HLN : Hid (L ≤ 65536) := Nat.le_trans hle hN
  clear hits hall hrow hb hle hN hc0 hc1 hj
  gi_wp2
  have hL6 := HLN.out
  gi_loopw [5, 10] (fun _ i wr => ∃ k : Nat, k ≤ L ∧ i = .int .i64 k ∧ Hid (J (its.take k) wr ∧ Kx b w2 wr)) (fun _ i _ => L - (intOf i).toNat)
  case atStart => exact ⟨0, Nat.zero_le _, rfl, by rw [List.take_zero]; exact HJ2.out, Kx.refl _ _⟩
  case round =>
    obtain ⟨k, hk, rfl, HR⟩ := hrel
    by_cases hlt : k < L
    · have hlt' : (k : Int) < (L : Int) := by omega
      have hki : k < its.length := by rw [HL.out]; exact hlt
      obtain ⟨g, rfl, hg1, hg2, hcd⟩ := items_cells HROW.out (by omega)
      have hrow := HR.out.2.row HROW.out (by have := HBW.out; simp [Value.ownBlock]; omega)
      obtain ⟨g', e', _, _, hcd'⟩ := items_cells hrow (by omega)
      cases e'
      obtain ⟨d0, d1, d2⟩ := hcd' k hki
      obtain ⟨⟨⟨x1, x2⟩, xt⟩, HX⟩ : ∃ x, Hid (its[k] = x) := ⟨_, hid rfl⟩
      rw [HX.out] at d0 d1 d2
      have HTK : Hid (its.take (k + 1) = its.take k ++ [((x1, x2), xt)]) := by
        show _ = _
        rw [List.take_succ_eq_append_getElem hki, HX.out]
      have hJa : J (its.take k) (wr.alloc (.cells #[.int .i64 x1, .int .i64 x2, .string xt] 77)) := HJ.out _ wr _ none HR.out.1 (World.grownBy_alloc wr _ none) (fun r e => by cases e)
      obtain ⟨fn, tmps, assign, body, hy, hRR⟩ := HY.out (its.take k) ((x1, x2), xt) (wr.alloc (.cells #[.int .i64 x1, .int .i64 x2, .string xt] 77)) hJa (by rw [List.length_take]; have := HLE.out; omega)
      have HRR := hid hRR
      have HKA : Hid (Kx b w2 (wr.alloc (.cells #[.int .i64 x1, .int .i64 x2, .string xt] 77))) := HR.out.2.trans (Kx.alloc _ _ _)
      clear hRR hJa hcd hcd' hrow HX hki hg1 hg2
      dsimp only [dotV] at hy
      gi_wp2
      refine HRR.out.mono ?_
      rintro e W3 (⟨rfl, hJ3, hk3⟩ | ⟨rfl, hJx3⟩)
      · have HJ3 := hid hJ3
        have HK3 := hid (HKA.out.trans hk3)
        clear hJ3 hk3 HRR hy d0 d1 d2
        gi_wp2
        go_roundw
        case rel => exact ⟨k + 1, by omega, by go_num, by rw [HTK.out]; exact HJ3.out, HK3.out⟩
        case measure => simp [intOf]; omega
      · have HJ3 := hid hJx3
        clear hJx3 HRR hy d0 d1 d2
        gi_wp2
        refine bodyPost_ret (results_none rfl _ _ _) rfl ?_
        exact ⟨⟨_, rfl⟩, .inr ⟨_, ⟨its, HITS.out, by rw [← HTK.out]; exact List.take_prefix _ _⟩, HJ3.out⟩⟩
    · have hlt' : ¬ (k : Int) < (L : Int) := by omega
      have HE : Hid (its.take k = its) := List.take_of_length_le (by rw [HL.out]; omega)
      gi_wp2
      refine bodyPost_end (results_none rfl _ _ _) rfl ?_
      exact ⟨⟨_, rfl⟩, .inl ⟨its, ⟨HITS.out, HALL.out⟩, by have := HR.out.1; rw [HE.out] at this; exact this⟩⟩
end
end Go.Proofs.Ytplecopphddjhaa
