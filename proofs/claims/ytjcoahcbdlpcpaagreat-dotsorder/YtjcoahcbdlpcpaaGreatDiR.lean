/-
  Of sets of ints, what DotsR tells of sets of strings (tools/mkint.py writes this text out of that one).
-/
import Derived.Test.YtjcoahcbdlpcpaaGreatDotsR
import Derived.Test.YtjcoahcbdlpcpaaGreatDiQ
namespace Go.Proofs.YtjcoahcbdlpcpaaGreat.In
open Go.RowKit Go.Shelf Go.Maps
attribute [local go_sem] Oper.semAt_some

theorem flatI_at : ∀ (ds : List It) (i : Nat) (hi : i < ds.length), (flatI ds)[i * 3]? = some (.int .i64 ds[i].1.1) ∧ (flatI ds)[i * 3 + 1]? = some (.int .i64 ds[i].1.2) ∧ (flatI ds)[i * 3 + 2]? = some (.int .i64 ds[i].2)
  | [], _, hi => by simp at hi
  | x :: r, 0, _ => by simp [flatI, itCells]
  | x :: r, k + 1, hi => by
    have := flatI_at r k (by simpa using hi)
    simp only [flatI, List.flatMap_cons, itCells] at this ⊢
    rw [show (k + 1) * 3 = k * 3 + 3 by omega, show k * 3 + 3 + 1 = k * 3 + 1 + 3 by omega, show k * 3 + 3 + 2 = k * 3 + 2 + 3 by omega]
    simpa using this
theorem items_cells {w : World} {B n cap : Nat} {eo : Option Addr} {ds : List It} (h : w.ownsRow B 79 3 (.slice eo n cap) ds.length (flatI ds)) (hpos : 0 < ds.length) :
    ∃ g, eo = some ⟨g, 0, none⟩ ∧ B ≤ g ∧ g < w.heap.size ∧ ∀ i (hi : i < ds.length), w.cell? ⟨g, i * 3, none⟩ = some (.int .i64 ds[i].1.1) ∧ w.cell? ⟨g, i * 3 + 1, none⟩ = some (.int .i64 ds[i].1.2) ∧ w.cell? ⟨g, i * 3 + 2, none⟩ = some (.int .i64 ds[i].2) := by
  rcases h.2 with ⟨_, h0⟩ | ⟨g, c, cur, e, hbg, hg, _⟩
  · omega
  · cases e
    refine ⟨g, rfl, hbg, (Array.getElem?_eq_some_iff.1 hg).1, fun i hi => ?_⟩
    obtain ⟨k0, k1, k2⟩ := flatI_at ds i hi
    have h1 := h.cells (g := g) rfl (i * 3) _ k0
    have h2 := h.cells (g := g) rfl (i * 3 + 1) _ k1
    have h3 := h.cells (g := g) rfl (i * 3 + 2) _ k2
    rw [Addr.add_lit, Nat.zero_add] at h1 h2 h3
    exact ⟨h1, h2, h3⟩
section
variable {p m N : Nat} {rs : Nat → Value} {R : Nat → List Value} {D : DataW Value} {S : Int → Int → Option Value}
set_option maxRecDepth 100000 in
set_option maxHeartbeats 2000000 in
theorem those_seq (n : Nat) (hn : 1 ≤ n) (q0 q1 b : Nat) (V : World) (hb : b < V.heap.size) (hP : DotsPre V p rs R m D S N) {fv : Value} {f : Int → Int → Bool} (hw : Want V fv f) (h0 : Boxed V q0 23 (.pointer (some ⟨p, 0, none⟩))) (h1 : Boxed V q1 61 fv) :
    SeqStopsK Fence.wide n Tryz.prog 41 #[.pointer (some ⟨q0, 0, none⟩), .pointer (some ⟨q1, 0, none⟩)] (fun x : It => #[dotV x.1, .int .i64 x.2]) (Kx b) (fun ys => ItsOf S f ys ∧ ((∀ o s, f o s = true) → ys.length = N)) (fun pre => ∃ its, ItsOf S f its ∧ pre <+: its) N V := by
  intro l J Jx W hW hJ hJx hY hj
  have hb0 : Boxed W q0 23 (.pointer (some ⟨p, 0, none⟩)) := (hW.block _ h0.lt).trans h0
  have hb1 : Boxed W q1 61 fv := (hW.block _ h1.lt).trans h1
  have hc0 := hb0.cell
  have hc1 := hb1.cell
  have HJ := hid hJ
  have HY := hid hY
  have HPW := hid (hP.below hW)
  have HWW := hid (hw.below hW)
  have HBW : Hid (b < W.heap.size) := Nat.lt_of_lt_of_le hb hW.size
  clear hW hJx hY hb0 hb1 h0 h1 hJ hP hw hb
  change CallsIn Fence.wide n Tryz.prog 41 #[.func (.yield l) #[] #[], .pointer (some ⟨q0, 0, none⟩), .pointer (some ⟨q1, 0, none⟩)] W _
  refine callsIn_of_wp Tryz.func41 rfl trivial ?_ rfl
  simp only [Tryz.ntmps41, List.size_toArray, List.length_cons, List.length_nil, Nat.reduceAdd, Nat.reduceSub, Array.replicate_succ, Array.replicate_zero, List.push_toArray, List.append_toArray, List.nil_append, List.cons_append]
  gi_wp2_with fail
  refine ⟨trivial, (callsIn_wide.2 (items_any HPW.out HWW.out)).mono ?_⟩
  rintro e w2 ⟨eo, cap, its, rfl, hits, ⟨hle, hall⟩, hrow, hb⟩
  have HJ2 := hid (HJ.out [] W w2 none hj ⟨hb.os, hb.tape, hb.output, hb.size, fun k hk _ => hb.block k hk⟩ (fun r e => by cases e))
  have HITS := hid hits
  have HALL := hid hall
  have HROW := hid hrow
  have HLE := hid hle
  have hN := HPW.out.few
  obtain ⟨L, HL⟩ : ∃ L, Hid (its.length = L) := ⟨_, hid rfl⟩
  rw [HL.out] at hle ⊢
  have HLN : Hid (L ≤ 65536) := Nat.le_trans hle hN
  clear hits hall hrow hb hle hN hc0 hc1 hj
  gi_wp2
  have hL6 := HLN.out
  gi_loopw [5, 10] (fun _ i wr => ∃ k : Nat, k ≤ L ∧ i = .int .i64 k ∧ Hid (J (its.take k) wr ∧ Kx b w2 wr)) (fun _ i _ => L - (intOf i).toNat)
  case atStart => exact ⟨0, Nat.zero_le _, rfl, by rw [List.take_zero]; exact HJ2.out, Kx.refl _ _⟩
  case round =>
    obtain ⟨k, hk, rfl, HR⟩ := hrel
    by_cases hlt : k < L
    · have hlt' : (k : Int) < (L : Int) := by omega
      have hki : k < its.length := by rw [HL.out]; exact hlt
      obtain ⟨g, rfl, hg1, hg2, hcd⟩ := items_cells HROW.out (by omega)
      have hrow := HR.out.2.row HROW.out (by have := HBW.out; simp [Value.ownBlock]; omega)
      obtain ⟨g', e', _, _, hcd'⟩ := items_cells hrow (by omega)
      cases e'
      obtain ⟨d0, d1, d2⟩ := hcd' k hki
      obtain ⟨⟨⟨x1, x2⟩, xt⟩, HX⟩ : ∃ x, Hid (its[k] = x) := ⟨_, hid rfl⟩
      rw [HX.out] at d0 d1 d2
      have HTK : Hid (its.take (k + 1) = its.take k ++ [((x1, x2), xt)]) := by
        show _ = _
        rw [List.take_succ_eq_append_getElem hki, HX.out]
      have hJa : J (its.take k) (wr.alloc (.cells #[.int .i64 x1, .int .i64 x2, .int .i64 xt] 79)) := HJ.out _ wr _ none HR.out.1 (World.grownBy_alloc wr _ none) (fun r e => by cases e)
      obtain ⟨fn, tmps, assign, body, hy, hRR⟩ := HY.out (its.take k) ((x1, x2), xt) (wr.alloc (.cells #[.int .i64 x1, .int .i64 x2, .int .i64 xt] 79)) hJa (by rw [List.length_take]; have := HLE.out; omega)
      have HRR := hid hRR
      have HKA : Hid (Kx b w2 (wr.alloc (.cells #[.int .i64 x1, .int .i64 x2, .int .i64 xt] 79))) := HR.out.2.trans (Kx.alloc _ _ _)
      clear hRR hJa hcd hcd' hrow HX hki hg1 hg2
      dsimp only [dotV] at hy
      gi_wp2
      refine HRR.out.mono ?_
      rintro e W3 (⟨rfl, hJ3, hk3⟩ | ⟨rfl, hJx3⟩)
      · have HJ3 := hid hJ3
        have HK3 := hid (HKA.out.trans hk3)
        clear hJ3 hk3 HRR hy d0 d1 d2
        gi_wp2
        go_roundw
        case rel => exact ⟨k + 1, by omega, by go_num, by rw [HTK.out]; exact HJ3.out, HK3.out⟩
        case measure => simp [intOf]; omega
      · have HJ3 := hid hJx3
        clear hJx3 HRR hy d0 d1 d2
        gi_wp2
        refine bodyPost_ret (results_none rfl _ _ _) rfl ?_
        exact ⟨⟨_, rfl⟩, .inr ⟨_, ⟨its, HITS.out, by rw [← HTK.out]; exact List.take_prefix _ _⟩, HJ3.out⟩⟩
    · have hlt' : ¬ (k : Int) < (L : Int) := by omega
      have HE : Hid (its.take k = its) := List.take_of_length_le (by rw [HL.out]; omega)
      gi_wp2
      refine bodyPost_end (results_none rfl _ _ _) rfl ?_
      exact ⟨⟨_, rfl⟩, .inl ⟨its, ⟨HITS.out, HALL.out⟩, by have := HR.out.1; rw [HE.out] at this; exact this⟩⟩
end
end Go.Proofs.YtjcoahcbdlpcpaaGreat.In
