/-
  Package dots: the calls of a nil set.
-/
import Derived.Test.YtkjpaiaepodhbaaDotsL
namespace Go.Proofs.Ytkjpaiaepodhbaa
open Go.RowKit Go.Shelf Go.Maps
attribute [local go_sem] Oper.semAt_some

theorem items_nil (w : World) (g : Fn) (cb : Array Value) : Calls Try.prog 66 #[.pointer none, .func g #[] cb] w fun e w' => e = .returned (.slice none 0 0) ∧ Below w.heap.size w w' := by
  have HB : Hid (Below w.heap.size w (w.alloc (.cells #[.func g #[] cb] 65))) := (Below.refl _ _).alloc (Nat.le_refl _) _
  go_enter Try.func66, Try.ntmps66
  go_wp2_with fail
  refine (closedD_nil _).mono ?_
  rintro e w' ⟨rfl, rfl⟩
  go_wp2
  go_ret
  exact ⟨rfl, HB.out⟩
theorem missing_nil (w : World) (v : Value) : Calls Try.prog 16 #[.pointer none, v] w fun e w' => e = .returned (.slice none 0 0) ∧ Below w.heap.size w w' := by
  have HB : Hid (Below w.heap.size w (w.alloc (.cells #[.pointer none] 26))) := (Below.refl _ _).alloc (Nat.le_refl _) _
  go_enter Try.func16, Try.ntmps16
  go_wp2_with fail
  refine (closedD_nil _).mono ?_
  rintro e w' ⟨rfl, rfl⟩
  go_wp2
  go_ret
  exact ⟨rfl, HB.out⟩
theorem fork_nil (w : World) : Calls Try.prog 12 #[.pointer none] w fun e w' => e = .returned (.pointer none) ∧ w' = w := by
  go_enter Try.func12, Try.ntmps12
  go_wp2_with fail
  refine (closedD_nil _).mono ?_
  rintro e w' ⟨rfl, rfl⟩
  go_wp2
  go_ret
  exact ⟨rfl, rfl⟩
set_option maxRecDepth 100000 in
theorem those_nil_seq (n : Nat) (hn : 1 ≤ n) (q0 q1 : Nat) (g : Fn) (cb : Array Value) (V : World) (h0 : Boxed V q0 26 (.pointer none)) (h1 : Boxed V q1 65 (.func g #[] cb)) :
    SeqStopsK Fence.wide n Try.prog 65 #[.pointer (some ⟨q0, 0, none⟩), .pointer (some ⟨q1, 0, none⟩)] (fun x : (Int × Int) × Value => #[dotV x.1, x.2]) KeepsWalks (fun ys => ys = []) (fun _ => True) 0 V := by
  intro l J Jx W hW hJ hJx hY hj
  have hb0 : Boxed W q0 26 (.pointer none) := (hW.block _ h0.lt).trans h0
  have hb1 : Boxed W q1 65 (.func g #[] cb) := (hW.block _ h1.lt).trans h1
  have hc0 := hb0.cell
  have hc1 := hb1.cell
  have HJ := hid hJ
  clear hW hJx hY hb0 hb1 h0 h1 hJ
  change CallsIn Fence.wide n Try.prog 65 #[.func (.yield l) #[] #[], .pointer (some ⟨q0, 0, none⟩), .pointer (some ⟨q1, 0, none⟩)] W _
  refine callsIn_of_wp Try.func65 rfl trivial ?_ rfl
  simp only [Try.ntmps65, List.size_toArray, List.length_cons, List.length_nil, Nat.reduceAdd, Nat.reduceSub, Array.replicate_succ, Array.replicate_zero, List.push_toArray, List.append_toArray, List.nil_append, List.cons_append]
  gi_wp2_with fail
  refine ⟨trivial, (callsIn_wide.2 (items_nil W g cb)).mono ?_⟩
  rintro e w2 ⟨rfl, hb⟩
  have HJ2 := hid (HJ.out [] W w2 none hj ⟨hb.os, hb.tape, hb.output, hb.size, fun k hk _ => hb.block k hk⟩ (fun r e => by cases e))
  clear hb
  gi_wp2
  refine wpIn_loop_rounds 1 ?_
  rw [roundsIn_succ]
  gi_wp2
  refine bodyPost_end (results_none rfl _ _ _) rfl ?_
  exact ⟨⟨_, rfl⟩, .inl ⟨[], rfl, HJ2.out⟩⟩
end Go.Proofs.Ytkjpaiaepodhbaa
