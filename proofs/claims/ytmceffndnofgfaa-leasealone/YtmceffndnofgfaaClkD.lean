/-
  Package clock: Clocks in memory ('ClkAt'): closed, New, Now, Time, Keeps.
-/
import Derived.Test.YtmceffndnofgfaaClkC
import Derived.Deep.OwnRows
import Derived.Laws.OwnMore
import Derived.Maps.AppendAt
namespace Go.Proofs.Ytmceffndnofgfaa
open Go.RowKit Go.Maps

def ints (xs : List Int) : List Value := xs.map (Value.int .i64)
theorem ints_len (xs : List Int) : (ints xs).length = xs.length := by simp [ints]
/-- Clocks in memory: its block p, the block g of what each clock says. -/
structure ClkAt (w : World) (p g cap : Nat) (now : List Int) (time need : Int) : Prop where
  blk : Blk w p 84 [.slice (some ⟨g, 0, none⟩) now.length cap, .int .i64 time, .int .i64 need]
  row : ∃ rest, Blk w g 3 (ints now ++ rest)
  ne : p ≠ g
  rng : ∀ x ∈ now, 0 ≤ x ∧ x ≤ 1152921504606846976
  tim : 0 ≤ time ∧ time ≤ 1152921504606846976
  few : 1 ≤ now.length ∧ now.length ≤ 7
  ned : 0 ≤ need ∧ need ≤ 1000
def CFoot (p g : Nat) (i : Nat) : Prop := i = p ∨ i = g
section
variable {w w' : World} {p g cap : Nat} {now : List Int} {time need : Int}
theorem ClkAt.turned {F : Nat → Prop} (h : ClkAt w p g cap now time need) (ht : Turns F w w') (hF : ∀ i, CFoot p g i → ¬ F i) : ClkAt w' p g cap now time need :=
  ⟨ht.blk h.blk (hF p (.inl rfl)), h.row.imp fun _ hr => ht.blk hr (hF g (.inr rfl)), h.ne, h.rng, h.tim, h.few, h.ned⟩
theorem ClkAt.below {B : Nat} (h : ClkAt w p g cap now time need) (hb : Below B w w') (hB : w.heap.size ≤ B) : ClkAt w' p g cap now time need :=
  h.turned (F := fun _ => False) (Turns.of_below hb hB) (fun _ _ h => h)
theorem ClkAt.drewN (h : ClkAt w p g cap now time need) (q : Nat) : ClkAt (w.drewN q) p g cap now time need := ⟨h.blk, h.row, h.ne, h.rng, h.tim, h.few, h.ned⟩
theorem ClkAt.lt (h : ClkAt w p g cap now time need) : p < w.heap.size ∧ g < w.heap.size := ⟨h.blk.lt, h.row.elim fun _ hr => hr.lt⟩
theorem ClkAt.nowCell (h : ClkAt w p g cap now time need) {k : Nat} (hk : k < now.length) : w.cell? ⟨g, k, none⟩ = some (.int .i64 (now.getD k 0)) ∧ w.frozen? ⟨g, k, none⟩ = false := by
  obtain ⟨rest, hr⟩ := h.row
  refine ⟨hr.cell ?_, hr.frozen k⟩
  rw [List.getElem?_append_left (by rw [ints_len]; exact hk)]
  simp [ints, List.getD, List.getElem?_eq_getElem hk]
end

theorem closed_nil (w : World) : Calls Try.prog 44 #[.pointer none] w fun e w' => e = .returned (.bool true) ∧ w' = w := by
  go_enter Try.func44, Try.ntmps44
  go_wp2
  go_ret
  exact ⟨rfl, rfl⟩
theorem eql_ints (W : World) (g n c : Nat) : (binOp .eql 63 (.slice (some ⟨g, 0, none⟩) n c) (.slice none 0 0)).run Try.prog W = .ok (.bool false) W := by kernel_rfl
theorem ClkAt.closed {w : World} {p g cap : Nat} {now : List Int} {time need : Int} (h : ClkAt w p g cap now time need) : Calls Try.prog 44 #[.pointer (some ⟨p, 0, none⟩)] w fun e w' => e = .returned (.bool false) ∧ w' = w := by
  have hc := h.blk.cell (i := 0) rfl
  have he := fun W => eql_ints W g now.length cap
  clear h
  go_enter Try.func44, Try.ntmps44
  go_wp2
  go_ret
  exact ⟨rfl, rfl⟩
theorem Try.infoInt : (Try.prog.info? 3).map (fun i => (i.zero, i.size, i.bytes)) = some (some (.int .i64 0), 1, 8) := by kernel_rfl
theorem new_bad (w : World) (x : Int) (h : ¬ (1 ≤ x ∧ x ≤ 7)) : Calls Try.prog 26 #[.int .i64 x] w fun e w' => e = .returned (.tuple #[.pointer none, .int .i64 1]) ∧ w' = w := by
  have HW := hid (within_int w x 1 7)
  rw [decide_eq_false h] at HW
  clear h
  go_enter Try.func26, Try.ntmps26
  go_wp2_with fail
  refine HW.out.mono ?_
  rintro e w' ⟨rfl, rfl⟩
  go_wp2
  go_ret2
  exact ⟨rfl, rfl⟩
theorem new_good (w : World) (n : Nat) (h : 1 ≤ n ∧ n ≤ 7) : Calls Try.prog 26 #[.int .i64 (n : Int)] w fun e w' => e = .returned (.tuple #[.pointer (some ⟨w.heap.size + 1, 0, none⟩), .int .i64 0]) ∧ ClkAt w' (w.heap.size + 1) w.heap.size n (List.replicate n 0) 0 0 ∧ Below w.heap.size w w' := by
  have HW := hid (within_int w (n : Int) 1 7)
  rw [decide_eq_true ⟨by omega, by omega⟩] at HW
  have hmk := run_make_row' (P := Try.prog) 63 3 (.int .i64 0) 8 Try.underlying63 Try.infoInt rfl .i64 .i64 n (by omega) (by omega)
  have HH := hid h
  clear h
  go_enter Try.func26, Try.ntmps26
  go_wp2_with fail
  refine HW.out.mono ?_
  rintro e w' ⟨rfl, rfl⟩
  go_wp2
  go_ret2
  have hcs : (madeCells #[.int .i64 0] n) = (ints (List.replicate n 0)).toArray := by
    apply Array.ext'
    rw [toList_madeCells_one]
    simp [ints]
  refine ⟨rfl, ⟨?_, ⟨[], ?_⟩, by omega, ?_, ⟨Int.le_refl _, by decide⟩, by simpa using HH.out, ⟨Int.le_refl _, by decide⟩⟩, ((Below.refl _ _).alloc (Nat.le_refl _) _).alloc (by simp) _⟩
  · have := Blk.new (w'.alloc (.cells (madeCells #[.int .i64 0] n) 3)) 84 [.slice (some ⟨w'.heap.size, 0, none⟩) n n, .int .i64 0, .int .i64 0]
    rw [World.size_alloc] at this
    simpa using this
  · rw [hcs, List.append_nil]
    exact (Blk.new w' 3 (ints (List.replicate n 0))).alloc _
  · intro x hx
    have := List.eq_of_mem_replicate hx
    omega

theorem now_nil (w : World) (k : Int) : Calls Try.prog 29 #[.pointer none, .int .i64 k] w fun e w' => e = .returned (.int .i64 0) ∧ w' = w := by
  go_enter Try.func29, Try.ntmps29
  go_wp2_with fail
  refine (closed_nil _).mono ?_
  rintro e w' ⟨rfl, rfl⟩
  go_wp2
  go_ret
  exact ⟨rfl, rfl⟩
theorem tick_nil (w : World) (t : Int) (v : Value) : Calls Try.prog 28 #[.pointer none, .int .i64 t, v] w fun e w' => e = .returned (.int .i64 6) ∧ w' = w := by
  go_enter Try.func28, Try.ntmps28
  go_wp2_with fail
  refine (closed_nil _).mono ?_
  rintro e w' ⟨rfl, rfl⟩
  go_wp2
  go_ret
  exact ⟨rfl, rfl⟩
section
variable {w : World} {p g cap : Nat} {now : List Int} {time need : Int}
/-- What a node's clock says; 0 of none. -/
def nowOf (now : List Int) (k : Int) : Int := if 0 ≤ k ∧ k < now.length then now.getD k.toNat 0 else 0
theorem now_any (h : ClkAt w p g cap now time need) (k : Int) : Calls Try.prog 29 #[.pointer (some ⟨p, 0, none⟩), .int .i64 k] w fun e w' => e = .returned (.int .i64 (nowOf now k)) ∧ w' = w := by
  have c0 := h.blk.cell (i := 0) rfl
  have HC := hid h.closed
  have hw : wrap64 ((now.length : Int) - 1) = (now.length : Int) - 1 := by have := h.few; exact wrapS (by omega) (by omega)
  have HR := hid (within_int w k 0 ((now.length : Int) - 1))
  unfold nowOf
  by_cases hk : 0 ≤ k ∧ k < now.length
  · rw [if_pos hk]
    obtain ⟨j, rfl⟩ : ∃ j : Nat, k = (j : Int) := ⟨k.toNat, by omega⟩
    rw [decide_eq_true ⟨hk.1, by omega⟩] at HR
    have hj : j < now.length := by omega
    have hc := (h.nowCell hj).1
    obtain ⟨X, hX⟩ : ∃ X, X = now.getD j 0 := ⟨_, rfl⟩
    rw [← hX] at hc
    rw [Int.toNat_natCast, ← hX]
    have hji : (j : Int) < (now.length : Int) := by omega
    clear hX h hk
    generalize now.length = n at *
    go_enter Try.func29, Try.ntmps29
    go_wp2_with fail
    refine HC.out.mono ?_
    rintro e w' ⟨rfl, rfl⟩
    go_wp2_with fail
    refine HR.out.mono ?_
    rintro e w' ⟨rfl, rfl⟩
    go_wp2
    go_ret
    exact ⟨rfl, rfl⟩
  · rw [if_neg hk]
    rw [decide_eq_false (fun h => hk ⟨h.1, by omega⟩)] at HR
    clear h hk
    generalize now.length = n at *
    go_enter Try.func29, Try.ntmps29
    go_wp2_with fail
    refine HC.out.mono ?_
    rintro e w' ⟨rfl, rfl⟩
    go_wp2_with fail
    refine HR.out.mono ?_
    rintro e w' ⟨rfl, rfl⟩
    go_wp2
    go_ret
    exact ⟨rfl, rfl⟩
end
end Go.Proofs.Ytmceffndnofgfaa
