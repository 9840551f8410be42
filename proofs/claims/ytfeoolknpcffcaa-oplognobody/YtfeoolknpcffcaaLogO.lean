/-
  Package oplog: the calls of a nil log; a range over an iterator that yields nothing.
-/
import Derived.Test.YtfeoolknpcffcaaLogM
namespace Go.Proofs.Ytfeoolknpcffcaa
open Go.RowKit Go.Shelf Go.Maps
attribute [local go_sem] Oper.semAt_some

/-- What yields nothing. -/
def noEncs : Empty → Array Value := fun x => nomatch x
/-- A range over an iterator that yields nothing. -/
theorem wpIn_rangeFunc_no {F : Fence} {n : Nat} {P : Program} {g : Operand} {ps : Array Tmp} {assign body : Code} {Q : Exit → Act → World → Prop} {a : Act} {w : World}
    (hro : F.round = none) (h1 : 1 ≤ n) {gf : Nat} {lb : Array Value} (hg : a.eval g = .func (.func gf) #[] lb) (hFg : F.fn gf) (eg : ∀ args w, (callFunc gf args).run P w = .ok (.enter gf args) w)
    {Sp : List Empty → Prop} (hseq : SeqStopsK F (n - 1) P gf lb noEncs KeepsWalks (fun ys => ys = []) Sp 0 w)
    (hafter : ∀ (D : Nat) (W : World), w.heap.size ≤ D → Below w.heap.size w W → W.heap[D]? = some (.deferred (some [])) → Q .normal { a with defers := { target := .collected D, args := #[] } :: a.defers } W) :
    (Code.rangeFunc g ps assign body).wpIn F n P Q a w :=
  wpIn_rangeFunc_ownG hro h1 hg hFg eg hseq (fun h k => walksK_t h k) (fun W l o o' hl ho hc hw => walksK_b (w := w) W l o o' hl ho hc hw) (Below.refl _ _) (fun x => nomatch x) (fun _ W => Below w.heap.size w W) (fun _ _ _ => False)
    (ownFrom_below (Nat.le_refl _) (Nat.le_refl _)) (fun _ _ _ _ _ h _ _ => h) (Below.refl _ _) (fun x => nomatch x) (fun _ x => nomatch x) (fun _ _ x => nomatch x) (fun D _ W hD _ hI hd => hafter D W hD hI hd) (fun _ _ _ _ _ _ h _ => h.elim)

theorem forkL_nil (w : World) : Calls Try.prog 23 #[.pointer none] w fun e w' => e = .returned (.pointer none) ∧ w' = w := by
  go_enter Try.func23, Try.ntmps23
  go_wp2_with fail
  refine (closedL_nil _).mono ?_
  rintro e w' ⟨rfl, rfl⟩
  go_wp2
  go_ret
  exact ⟨rfl, rfl⟩
theorem since_any (w : World) (q : Option Addr) (vo : Option Addr) (vl vc : Nat) : Calls Try.prog 34 #[.pointer q, .slice vo vl vc] w fun e w' => e = .returned (.func (.func 48) #[] #[.pointer (some ⟨w.heap.size, 0, none⟩), .pointer (some ⟨w.heap.size + 1, 0, none⟩)]) ∧ w' = (w.alloc (.cells #[.pointer q] 23)).alloc (.cells #[.slice vo vl vc] 26) := by
  go_enter Try.func34, Try.ntmps34
  go_wp2
  go_ret
  exact ⟨rfl, rfl⟩
theorem since_boxes (w : World) (q : Option Addr) (v : Value) {W : World} (hW : W = (w.alloc (.cells #[.pointer q] 23)).alloc (.cells #[v] 26)) : Boxed W w.heap.size 23 (.pointer q) ∧ Below w.heap.size w W := by
  subst hW
  exact ⟨(Boxed.new w 23 (.pointer q)).alloc _, ((Below.refl _ w).alloc (Nat.le_refl _) _).alloc (by simp) _⟩
set_option maxRecDepth 100000 in
theorem since_nil_seq (n : Nat) (hn : 1 ≤ n) (q0 q1 : Nat) (V : World) (h0 : Boxed V q0 23 (.pointer none)) :
    SeqStopsK Fence.wide n Try.prog 48 #[.pointer (some ⟨q0, 0, none⟩), .pointer (some ⟨q1, 0, none⟩)] noEncs KeepsWalks (fun ys => ys = []) (fun _ => True) 0 V := by
  intro l J Jx W hW hJ hJx hY hj
  have hb0 : Boxed W q0 23 (.pointer none) := (hW.block _ h0.lt).trans h0
  have hb0' := hb0.alloc (.cells #[.func (.yield l) #[] #[]] 53)
  have hc0 := hb0'.cell
  have HB : Hid (Below W.heap.size W (W.alloc (.cells #[.func (.yield l) #[] #[]] 53))) := (Below.refl _ _).alloc (Nat.le_refl _) _
  have HJ := hid hJ
  clear hW hJx hY hb0 hb0' h0 hJ
  change CallsIn Fence.wide n Try.prog 48 #[.func (.yield l) #[] #[], .pointer (some ⟨q0, 0, none⟩), .pointer (some ⟨q1, 0, none⟩)] W _
  refine callsIn_of_wp Try.func48 rfl trivial ?_ rfl
  simp only [Try.ntmps48, List.size_toArray, List.length_cons, List.length_nil, Nat.reduceAdd, Nat.reduceSub, Array.replicate_succ, Array.replicate_zero, List.push_toArray, List.append_toArray, List.nil_append, List.cons_append]
  gi_wp2_with fail
  refine ⟨trivial, (callsIn_wide.2 (closedL_nil _)).mono ?_⟩
  rintro e w2 ⟨rfl, rfl⟩
  have HJ2 := hid (HJ.out [] W _ none hj ⟨HB.out.os, HB.out.tape, HB.out.output, HB.out.size, fun k hk _ => HB.out.block k hk⟩ (fun r e => by cases e))
  gi_wp2
  refine bodyPost_ret (results_none rfl _ _ _) rfl ?_
  exact ⟨⟨_, rfl⟩, .inl ⟨[], rfl, HJ2.out⟩⟩
theorem getL_nil (w : World) (o s : Int) : Calls Try.prog 22 #[.pointer none, .agg #[.int .i64 o, .int .i64 s]] w fun e w' => e = .returned (.tuple #[zeroV, .bool false]) ∧ Below w.heap.size w w' := by
  obtain ⟨W, hW⟩ : ∃ W, W = (w.alloc (.cells #[.int .i64 o, .int .i64 s] 31)).alloc (.cells #[.int .i64 0, .int .i64 0, .slice none 0 0, .string ⟨#[]⟩, .int .i64 0, .string ⟨#[]⟩, .int .i64 0, .bool false] 33) := ⟨_, rfl⟩
  have HB : Hid (Below w.heap.size w W) := by rw [hW]; exact ((Below.refl _ _).alloc (Nat.le_refl _) _).alloc (by simp) _
  have HK : Hid (Blk W (w.heap.size + 1) 33 [.int .i64 0, .int .i64 0, .slice none 0 0, .string ⟨#[]⟩, .int .i64 0, .string ⟨#[]⟩, .int .i64 0, .bool false]) := by
    have := Blk.new (w.alloc (.cells #[.int .i64 o, .int .i64 s] 31)) 33 [.int .i64 0, .int .i64 0, .slice none 0 0, .string ⟨#[]⟩, .int .i64 0, .string ⟨#[]⟩, .int .i64 0, .bool false]
    rw [World.size_alloc] at this
    rw [hW]
    exact this
  have HW := hid hW
  obtain ⟨r, hr⟩ : ∃ r, r = w.heap.size + 1 := ⟨_, rfl⟩
  have HRR := hid hr
  rw [← hr] at HK
  have k0 := HK.out.cell (i := 0) rfl
  have k1 := HK.out.cell (i := 1) rfl
  have k2 := HK.out.cell (i := 2) rfl
  have k3 := HK.out.cell (i := 3) rfl
  have k4 := HK.out.cell (i := 4) rfl
  have k5 := HK.out.cell (i := 5) rfl
  have k6 := HK.out.cell (i := 6) rfl
  have k7 := HK.out.cell (i := 7) rfl
  have f0 := HK.out.frozen 0
  have f1 := HK.out.frozen 1
  have f2 := HK.out.frozen 2
  have f3 := HK.out.frozen 3
  have f4 := HK.out.frozen 4
  have f5 := HK.out.frozen 5
  have f6 := HK.out.frozen 6
  have f7 := HK.out.frozen 7
  clear hW hr
  obtain ⟨W3, hW3⟩ : ∃ V, V = st8 W r (.int .i64 0) (.int .i64 0) (.slice none 0 0) (.string ⟨#[]⟩) (.int .i64 0) (.string ⟨#[]⟩) (.int .i64 0) (.bool false) := ⟨_, rfl⟩
  have hk9 : Blk W3 r 33 [.int .i64 0, .int .i64 0, .slice none 0 0, .string ⟨#[]⟩, .int .i64 0, .string ⟨#[]⟩, .int .i64 0, .bool false] := by rw [hW3]; exact st8_blk HK.out _ _ _ _ _ _ _ _
  have HBF : Hid (Below w.heap.size w W3) := by rw [hW3]; exact HB.out.trans ((st8_turns _ _ _ _ _ _ _ _ _ _).below (fun i hi => by rw [hi, HRR.out]; exact Nat.le_succ _) HB.out.size)
  have q0 := hk9.cell (i := 0) rfl
  have q1 := hk9.cell (i := 1) rfl
  have q2 := hk9.cell (i := 2) rfl
  have q3 := hk9.cell (i := 3) rfl
  have q4 := hk9.cell (i := 4) rfl
  have q5 := hk9.cell (i := 5) rfl
  have q6 := hk9.cell (i := 6) rfl
  have q7 := hk9.cell (i := 7) rfl
  unfold st8 at hW3
  clear hk9
  go_enter Try.func22, Try.ntmps22
  go_wp2_with fail
  rw [← HW.out, ← HRR.out]
  refine (closedL_nil _).mono ?_
  rintro e w' ⟨rfl, rfl⟩
  go_wp2
  rw [← hW3]
  (try simp only [Exit.inBlock, Exit.then])
  refine bodyPost_ret (v := .tuple #[zeroV, .bool false]) ?_ rfl ⟨rfl, HBF.out⟩
  rw [results_cell_tmp rfl]
  unfold zeroV
  go_simp
set_option maxRecDepth 100000 in
theorem after_nil (w : World) (vo : Option Addr) (vl vc : Nat) (m : Int) : Calls Try.prog 21 #[.pointer none, .slice vo vl vc, .int .i64 m] w fun e w' => e = .returned (.slice none 0 0) ∧ Below w.heap.size w w' := by
  refine (callsIn_wide (n := 5)).1 ?_
  obtain ⟨W0, hW0⟩ : ∃ W0, W0 = (w.alloc (.cells #[.int .i64 m] 3)).alloc (.cells #[.slice none 0 0] 22) := ⟨_, rfl⟩
  have HA : Hid (Below w.heap.size w W0) := by rw [hW0]; exact ((Below.refl _ w).alloc (Nat.le_refl _) _).alloc (by simp) _
  have HR : Hid (Boxed W0 (w.heap.size + 1) 22 (.slice none 0 0)) := by
    have := Boxed.new (w.alloc (.cells #[.int .i64 m] 3)) 22 (.slice none 0 0)
    rw [World.size_alloc] at this
    rw [hW0]
    exact this
  refine callsIn_of_wp_marks Try.func21 rfl trivial ?_ rfl
  simp only [Try.ntmps21, List.size_toArray, List.length_cons, List.length_nil, Nat.reduceAdd, Nat.reduceSub, Array.replicate_succ, Array.replicate_zero, List.push_toArray, List.append_toArray, List.nil_append, List.cons_append]
  gi_wp2_with fail
  rw [← hW0]
  clear hW0
  refine ⟨trivial, (callsIn_wide.2 (since_any W0 none vo vl vc)).mono ?_⟩
  rintro e w1 ⟨rfl, hw1⟩
  obtain ⟨hx, hb⟩ := since_boxes _ _ _ hw1
  have HA1 := hid (bt HA.out hb)
  have HR1 : Hid (Boxed w1 (w.heap.size + 1) 22 (.slice none 0 0)) := (hb.block _ HR.out.lt).trans HR.out
  have hseq := since_nil_seq 4 (by omega) W0.heap.size (W0.heap.size + 1) w1 hx
  clear hw1 hb hx HA HR
  gi_wp2
  refine wpIn_rangeFunc_no rfl (by omega) (gf := 48) (lb := #[.pointer (some ⟨W0.heap.size, 0, none⟩), .pointer (some ⟨W0.heap.size + 1, 0, none⟩)]) rfl trivial (enters_of Try.func48 (by kernel_rfl) rfl) hseq ?_
  intro D0 w4 hD0 hb hDef
  have HA4 := hid (bt HA1.out hb)
  have HR4 : Hid (Boxed w4 (w.heap.size + 1) 22 (.slice none 0 0)) := (hb.block _ HR1.out.lt).trans HR1.out
  have HDef := hid hDef
  have HDR : Hid (w.heap.size + 1 < D0) := (by have := HR1.out.lt; omega : w.heap.size + 1 < D0)
  have hcb := HR4.out.cell
  clear hb hDef hseq HA1 HR1
  gi_wp2
  refine ⟨by simp, .inl ⟨_, _, rfl, run_takeDeferred HDef.out, ?_⟩⟩
  exact ⟨_, results_tmp rfl _ _ _, rfl, HA4.out.trans (belowK_b (w := w) (Nat.le_refl _) _ D0 _ _ (by have := HDR.out; omega) HDef.out rfl rfl)⟩
end Go.Proofs.Ytfeoolknpcffcaa
