/-
  Of sets of ints, what DotsF tells of sets of strings (tools/mkint.py writes this text out of that one).
-/
import Derived.Test.YtjcoahcbdlpcpaaGreatRowSort
import Derived.Test.YtjcoahcbdlpcpaaGreatDiE
import Derived.Test.YtjcoahcbdlpcpaaGreatDotsI
import Derived.Test.YtjcoahcbdlpcpaaGreatDotsH
import Derived.Sort.MapsRangeIn
import Derived.RangeFuncSeq
namespace Go.Proofs.YtjcoahcbdlpcpaaGreat.In
open Go.RowKit Go.Maps

theorem vector_nil (w : World) : Calls Tryz.prog 10 #[.pointer none] w fun e w' => e = .returned (.slice none 0 0) ∧ w' = w := by
  go_enter Tryz.func10, Tryz.ntmps10
  go_wp2_with fail
  refine (closedD_nil _).mono ?_
  rintro e w' ⟨rfl, rfl⟩
  go_wp2
  go_ret
  exact ⟨rfl, rfl⟩
section
variable {w : World} {p m N : Nat} {rs : Nat → Value} {R : Nat → List Value} {D : DataW Value} {S : Int → Int → Option Value}
set_option maxRecDepth 100000 in
theorem vector_any (h : DotsPre w p rs R m D S N) : Calls Tryz.prog 10 #[.pointer (some ⟨p, 0, none⟩)] w (AnsV w (plainOf (lensOf R))) := by
  have hc7 := h.blk.cell (i := 7) rfl
  have hc0 := h.blk.cell (i := 0) rfl
  have hc1 := h.blk.cell (i := 1) rfl
  have hc2 := h.blk.cell (i := 2) rfl
  have hc3 := h.blk.cell (i := 3) rfl
  have hc4 := h.blk.cell (i := 4) rfl
  have hc5 := h.blk.cell (i := 5) rfl
  have hc6 := h.blk.cell (i := 6) rfl
  obtain ⟨a, c, hf⟩ := h.forms
  rw [hf 0 (by decide)] at hc0
  rw [hf 1 (by decide)] at hc1
  rw [hf 2 (by decide)] at hc2
  rw [hf 3 (by decide)] at hc3
  rw [hf 4 (by decide)] at hc4
  rw [hf 5 (by decide)] at hc5
  rw [hf 6 (by decide)] at hc6
  have HLN : Hid (∀ i, i < 7 → (R i).length ≤ 65536) := fun i hi => h.len hi
  have hpl := h.blk.lt
  clear hf h
  have x0 := fun W => idx0 W (.slice (a 0) (R 0).length (c 0)) (.slice (a 1) (R 1).length (c 1)) (.slice (a 2) (R 2).length (c 2)) (.slice (a 3) (R 3).length (c 3)) (.slice (a 4) (R 4).length (c 4)) (.slice (a 5) (R 5).length (c 5)) (.slice (a 6) (R 6).length (c 6))
  have x1 := fun W => idx1 W (.slice (a 0) (R 0).length (c 0)) (.slice (a 1) (R 1).length (c 1)) (.slice (a 2) (R 2).length (c 2)) (.slice (a 3) (R 3).length (c 3)) (.slice (a 4) (R 4).length (c 4)) (.slice (a 5) (R 5).length (c 5)) (.slice (a 6) (R 6).length (c 6))
  have x2 := fun W => idx2 W (.slice (a 0) (R 0).length (c 0)) (.slice (a 1) (R 1).length (c 1)) (.slice (a 2) (R 2).length (c 2)) (.slice (a 3) (R 3).length (c 3)) (.slice (a 4) (R 4).length (c 4)) (.slice (a 5) (R 5).length (c 5)) (.slice (a 6) (R 6).length (c 6))
  have x3 := fun W => idx3 W (.slice (a 0) (R 0).length (c 0)) (.slice (a 1) (R 1).length (c 1)) (.slice (a 2) (R 2).length (c 2)) (.slice (a 3) (R 3).length (c 3)) (.slice (a 4) (R 4).length (c 4)) (.slice (a 5) (R 5).length (c 5)) (.slice (a 6) (R 6).length (c 6))
  have x4 := fun W => idx4 W (.slice (a 0) (R 0).length (c 0)) (.slice (a 1) (R 1).length (c 1)) (.slice (a 2) (R 2).length (c 2)) (.slice (a 3) (R 3).length (c 3)) (.slice (a 4) (R 4).length (c 4)) (.slice (a 5) (R 5).length (c 5)) (.slice (a 6) (R 6).length (c 6))
  have x5 := fun W => idx5 W (.slice (a 0) (R 0).length (c 0)) (.slice (a 1) (R 1).length (c 1)) (.slice (a 2) (R 2).length (c 2)) (.slice (a 3) (R 3).length (c 3)) (.slice (a 4) (R 4).length (c 4)) (.slice (a 5) (R 5).length (c 5)) (.slice (a 6) (R 6).length (c 6))
  have x6 := fun W => idx6 W (.slice (a 0) (R 0).length (c 0)) (.slice (a 1) (R 1).length (c 1)) (.slice (a 2) (R 2).length (c 2)) (.slice (a 3) (R 3).length (c 3)) (.slice (a 4) (R 4).length (c 4)) (.slice (a 5) (R 5).length (c 5)) (.slice (a 6) (R 6).length (c 6))
  have hmk : ∀ W, (Instr.makeSlice 38 (.int .i64 7) (.int .i64 7)).run Tryz.prog W = .ok (.slice (some ⟨W.heap.size, 0, none⟩) 7 7) (W.alloc (.cells #[.int .i64 0, .int .i64 0, .int .i64 0, .int .i64 0, .int .i64 0, .int .i64 0, .int .i64 0] 3)) := fun W => by
    have h := run_make_row' (P := Tryz.prog) 38 3 (.int .i64 0) 8 Tryz.underlying38 Tryz.infoInt rfl .i64 .i64 7 (by decide) (by decide) W
    rw [show madeCells #[.int .i64 0] 7 = #[.int .i64 0, .int .i64 0, .int .i64 0, .int .i64 0, .int .i64 0, .int .i64 0, .int .i64 0] by kernel_rfl] at h
    exact h
  go_enter Tryz.func10, Tryz.ntmps10
  go_wp2_with fail
  refine (closedD_no w p m hc7).mono ?_
  rintro e w' ⟨rfl, rfl⟩
  go_wp2
  refine wp_loop_rounds 8 ?_
  rw [rounds_succ]
  go_wp2
  rw [rounds_succ]
  go_wp2
  rw [rounds_succ]
  go_wp2
  rw [rounds_succ]
  go_wp2
  rw [rounds_succ]
  go_wp2
  rw [rounds_succ]
  go_wp2
  rw [rounds_succ]
  go_wp2
  rw [rounds_succ]
  go_wp2_with fail
  have HB : Hid (Below w'.heap.size w' (w'.alloc (.cells (ints (lensOf R)).toArray 3))) := (Below.refl _ _).alloc (Nat.le_refl _) _
  have hh := HeldInt.new w' (lensOf R) (fun x hx => by
    have h0 := HLN.out 0 (by decide)
    have h1 := HLN.out 1 (by decide)
    have h2 := HLN.out 2 (by decide)
    have h3 := HLN.out 3 (by decide)
    have h4 := HLN.out 4 (by decide)
    have h5 := HLN.out 5 (by decide)
    have h6 := HLN.out 6 (by decide)
    simp [lensOf] at hx
    omega)
  have HPL := hid (plain_any (w'.alloc (.cells (ints (lensOf R)).toArray 3)) (some ⟨w'.heap.size, 0, none⟩) 7 (lensOf R) 7 rfl ⟨hh, Nat.le_refl _, by simp [lensOf]⟩)
  refine HPL.out.mono ?_
  rintro e w5 ⟨bo, cp, rfl, hv, hb5⟩
  have HV5 := hid hv
  have HB5 := hid (bt HB.out hb5)
  clear hv hb5
  go_wp2
  go_ret
  exact ⟨bo, cp, rfl, HV5.out, HB5.out⟩
end
end Go.Proofs.YtjcoahcbdlpcpaaGreat.In
/-
  Of sets of ints, what DotsI tells of sets of strings (tools/mkint.py writes this text out of that one).
-/
namespace Go.Proofs.YtjcoahcbdlpcpaaGreat.In
open Go.RowKit Go.Shelf Go.Maps
attribute [local go_sem] Oper.semAt_some

set_option maxRecDepth 100000 in
set_option maxHeartbeats 1000000 in
theorem keysD_seq (n : Nat) (hn : 1 ≤ n) (Bm b nn : Nat) (D0 : DataW Value) (V : World) (hm : V.cell? ⟨Bm, 0, none⟩ = some (.map (some b))) (hown : V.ownsMap Tryz.prog 31 valR b nn D0) :
    SeqStopsK Fence.wide n Tryz.prog 47 #[.pointer (some ⟨Bm, 0, none⟩)] (fun x : Int × Int => #[dotV x]) KeepsWalks (fun ss => KeysOf' D0 ss ∧ ss.length ≤ Maps.size D0) (fun _ => True) (Maps.size D0) V := by
  intro l J Jx W hW hJ hJx hY h0
  have hm' : W.cell? ⟨Bm, 0, none⟩ = some (.map (some b)) := (hW.cell (World.block_lt_of_cell? V _ hm)).trans hm
  have hown' : W.ownsMap Tryz.prog 31 valR b nn D0 := (Turns.of_below (F := fun _ => False) hW (Nat.le_refl _)).map hown (fun h => h)
  have HAH := hid (allHeld_of hown)
  have HJ := hid hJ
  have HY := hid hY
  clear hm hown hW hJ hJx hY
  change CallsIn Fence.wide n Tryz.prog 47 #[.func (.yield l) #[] #[], .pointer (some ⟨Bm, 0, none⟩)] W _
  refine callsIn_of_wp Tryz.func47 rfl trivial ?_ rfl
  simp only [Tryz.ntmps47, List.size_toArray, List.length_cons, List.length_nil, Nat.reduceAdd, Nat.reduceSub, Array.replicate_succ, Array.replicate_zero, List.push_toArray, List.append_toArray, List.nil_append, List.cons_append]
  gi_wp2_with (first
    | (gi_at_range; refine wpListIn_range_own _ rfl _ 46 rfl 31 3 Tryz.keyedDot Tryz.underlying46 _ b nn _ rfl hown' ?_; intro w0 hrg0 hg0 hs0)
    | gi_in)
  gi_loopw [3] (fun _ wr => Hid (∃ (left : Lit → Bool) (cnt : Nat) (ss : List (Int × Int)), wr.ranges Tryz.prog 31 valR b W.heap.size nn D0 left cnt ∧ CollD D0 left ss ∧ J ss wr ∧ ss.length + cnt ≤ Maps.size D0 ∧ W.heap.size ≤ wr.heap.size))
    (fun _ wr => wr.rangeLeft b W.heap.size)
  case atStart =>
    exact ⟨_, _, [], hrg0, CollD.start D0, HJ.out [] W w0 none h0 hg0 (fun r e => by cases e), by simp, hg0.size⟩
  case round =>
    obtain ⟨left, cnt, ss, hrg, hC, hJs, hcnt, hsz⟩ := hrel.out
    clear hrel
    gi_wp2_with (first
      | (gi_at_next; refine wpListIn_next_ranges _ rfl _ rfl 31 Tryz.keyedDot valR (fun x : Int × Int => dotV x) (fun v : Value => v) (fun key kl hk => by obtain ⟨o, s, hx, _⟩ := dk_inv hk; exact ⟨(o, s), hx⟩) (fun v y _ => ⟨v, rfl⟩) b W.heap.size nn _ _ _ rfl hrg ?_ ?_)
      | gi_in)
    · intro hc0 hl0
      gi_wp2
      refine bodyPost_end (results_none rfl _ _ _) rfl ?_
      exact ⟨⟨_, rfl⟩, .inl ⟨ss, ⟨hC.done HAH.out hl0, by omega⟩, hJs⟩⟩
    · intro o s v kl yd yp w2 cnt2 hkey hlk hv hat hrg2 hlt hg2 hs2 hen
      obtain ⟨o', s', he, rfl, ho, hs⟩ := dk_inv hkey
      have hee : o = o' ∧ s = s' := by simpa [dotV, dotVal] using he
      obtain ⟨rfl, rfl⟩ := hee
      have hyd : yd = .held v := by
        unfold valR at hv
        cases hv
        rfl
      subst hyd
      have HH : Hid (Maps.has D0 (dk o s) = true) := by
        show _ = _
        rw [has_look HAH.out, look_at hat]
        rfl
      have hJ2 : J ss w2 := HJ.out ss wr w2 (some W.heap.size) hJs hg2 (fun r e => by cases e; exact ⟨Nat.le_refl _, hrg.iter_walk⟩)
      have hJ3 : J ss (w2.alloc (.cells #[.int .i64 o, .int .i64 s] 31)) := HJ.out ss w2 _ none hJ2 (World.grownBy_alloc w2 _ none) (fun r e => by cases e)
      obtain ⟨fn, tmps, assign, body, hy, hR⟩ := HY.out ss (o, s) _ hJ3 (by omega)
      have HR := hid hR
      have HRG := hid (hrg2.alloc (.cells #[.int .i64 o, .int .i64 s] 31))
      have HC2 := hid (hC.step ho hs hlk HH.out)
      have HCN : Hid ((ss ++ [(o, s)]).length + cnt2 ≤ Maps.size D0) := (by simp; omega : (ss ++ [(o, s)]).length + cnt2 ≤ Maps.size D0)
      have HLT : Hid (∀ w9 : World, w9.ranges Tryz.prog 31 valR b W.heap.size nn D0 (fun z => left z && !z.sameKey (dk o s)) cnt2 → w9.rangeLeft b W.heap.size < wr.rangeLeft b W.heap.size) := fun w9 h9 => by rw [h9.left_eq, hrg.left_eq]; exact hlt
      have HSZ : Hid (W.heap.size ≤ w2.heap.size) := Nat.le_trans hsz hg2.size
      clear hR hs2 hJ2 hJ3 hrg2 hat hlk hkey hv hg2 hcnt hlt
      dsimp only [dotV] at hy hen ⊢
      gi_wp2
      refine HR.out.mono ?_
      rintro e W3 (⟨rfl, hJ4, hk4⟩ | ⟨rfl, hJx4⟩)
      · have HJ4 := hid hJ4
        have HRG4 := hid (HRG.out.of_walks hk4)
        have HS4 : Hid (W.heap.size ≤ W3.heap.size) := Nat.le_trans (Nat.le_trans HSZ.out (by simp)) hk4.size
        clear hJ4 hk4 HR hy
        gi_wp2
        go_roundw
        case rel => exact ⟨_, cnt2, ss ++ [(o, s)], HRG4.out, HC2.out, HJ4.out, HCN.out, HS4.out⟩
        case measure => exact HLT.out _ HRG4.out
      · have HJ4 := hid hJx4
        clear hJx4 HR hy
        gi_wp2
        refine bodyPost_ret (results_none rfl _ _ _) rfl ?_
        exact ⟨⟨_, rfl⟩, .inr ⟨_, trivial, HJ4.out⟩⟩
end Go.Proofs.YtjcoahcbdlpcpaaGreat.In
