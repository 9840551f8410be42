/-
  Package dots: Vector.
-/
import Derived.Test.YtkjpaiaepodhbaaDotsE
namespace Go.Proofs.Ytkjpaiaepodhbaa
open Go.RowKit Go.Maps

def lensOf (R : Nat → List Value) : List Int := [((R 0).length : Int), ((R 1).length : Int), ((R 2).length : Int), ((R 3).length : Int), ((R 4).length : Int), ((R 5).length : Int), ((R 6).length : Int)]
theorem vector_nil (w : World) : Calls Try.prog 17 #[.pointer none] w fun e w' => e = .returned (.slice none 0 0) ∧ w' = w := by
  go_enter Try.func17, Try.ntmps17
  go_wp2_with fail
  refine (closedD_nil _).mono ?_
  rintro e w' ⟨rfl, rfl⟩
  go_wp2
  go_ret
  exact ⟨rfl, rfl⟩
section
variable {w : World} {p m N : Nat} {rs : Nat → Value} {R : Nat → List Value} {D : DataW Value} {S : Int → Int → Option Value}
set_option maxRecDepth 100000 in
theorem vector_any (h : DotsPre w p rs R m D S N) : Calls Try.prog 17 #[.pointer (some ⟨p, 0, none⟩)] w (AnsV w (plainOf (lensOf R))) := by
  have hc7 := h.blk.cell (i := 7) rfl
  have hc0 := h.blk.cell (i := 0) rfl
  have hc1 := h.blk.cell (i := 1) rfl
  have hc2 := h.blk.cell (i := 2) rfl
  have hc3 := h.blk.cell (i := 3) rfl
  have hc4 := h.blk.cell (i := 4) rfl
  have hc5 := h.blk.cell (i := 5) rfl
  have hc6 := h.blk.cell (i := 6) rfl
  obtain ⟨a, c, hf⟩ := h.forms
  rw [hf 0 (by decide)] at hc0
  rw [hf 1 (by decide)] at hc1
  rw [hf 2 (by decide)] at hc2
  rw [hf 3 (by decide)] at hc3
  rw [hf 4 (by decide)] at hc4
  rw [hf 5 (by decide)] at hc5
  rw [hf 6 (by decide)] at hc6
  have HLN : Hid (∀ i, i < 7 → (R i).length ≤ 65536) := fun i hi => h.len hi
  have hpl := h.blk.lt
  clear hf h
  have x0 := fun W => idx0 W (.slice (a 0) (R 0).length (c 0)) (.slice (a 1) (R 1).length (c 1)) (.slice (a 2) (R 2).length (c 2)) (.slice (a 3) (R 3).length (c 3)) (.slice (a 4) (R 4).length (c 4)) (.slice (a 5) (R 5).length (c 5)) (.slice (a 6) (R 6).length (c 6))
  have x1 := fun W => idx1 W (.slice (a 0) (R 0).length (c 0)) (.slice (a 1) (R 1).length (c 1)) (.slice (a 2) (R 2).length (c 2)) (.slice (a 3) (R 3).length (c 3)) (.slice (a 4) (R 4).length (c 4)) (.slice (a 5) (R 5).length (c 5)) (.slice (a 6) (R 6).length (c 6))
  have x2 := fun W => idx2 W (.slice (a 0) (R 0).length (c 0)) (.slice (a 1) (R 1).length (c 1)) (.slice (a 2) (R 2).length (c 2)) (.slice (a 3) (R 3).length (c 3)) (.slice (a 4) (R 4).length (c 4)) (.slice (a 5) (R 5).length (c 5)) (.slice (a 6) (R 6).length (c 6))
  have x3 := fun W => idx3 W (.slice (a 0) (R 0).length (c 0)) (.slice (a 1) (R 1).length (c 1)) (.slice (a 2) (R 2).length (c 2)) (.slice (a 3) (R 3).length (c 3)) (.slice (a 4) (R 4).length (c 4)) (.slice (a 5) (R 5).length (c 5)) (.slice (a 6) (R 6).length (c 6))
  have x4 := fun W => idx4 W (.slice (a 0) (R 0).length (c 0)) (.slice (a 1) (R 1).length (c 1)) (.slice (a 2) (R 2).length (c 2)) (.slice (a 3) (R 3).length (c 3)) (.slice (a 4) (R 4).length (c 4)) (.slice (a 5) (R 5).length (c 5)) (.slice (a 6) (R 6).length (c 6))
  have x5 := fun W => idx5 W (.slice (a 0) (R 0).length (c 0)) (.slice (a 1) (R 1).length (c 1)) (.slice (a 2) (R 2).length (c 2)) (.slice (a 3) (R 3).length (c 3)) (.slice (a 4) (R 4).length (c 4)) (.slice (a 5) (R 5).length (c 5)) (.slice (a 6) (R 6).length (c 6))
  have x6 := fun W => idx6 W (.slice (a 0) (R 0).length (c 0)) (.slice (a 1) (R 1).length (c 1)) (.slice (a 2) (R 2).length (c 2)) (.slice (a 3) (R 3).length (c 3)) (.slice (a 4) (R 4).length (c 4)) (.slice (a 5) (R 5).length (c 5)) (.slice (a 6) (R 6).length (c 6))
  have hmk : ∀ W, (Instr.makeSlice 23 (.int .i64 7) (.int .i64 7)).run Try.prog W = .ok (.slice (some ⟨W.heap.size, 0, none⟩) 7 7) (W.alloc (.cells #[.int .i64 0, .int .i64 0, .int .i64 0, .int .i64 0, .int .i64 0, .int .i64 0, .int .i64 0] 3)) := fun W => by
    have h := run_make_row' (P := Try.prog) 23 3 (.int .i64 0) 8 Try.underlying23 Try.infoInt rfl .i64 .i64 7 (by decide) (by decide) W
    rw [show madeCells #[.int .i64 0] 7 = #[.int .i64 0, .int .i64 0, .int .i64 0, .int .i64 0, .int .i64 0, .int .i64 0, .int .i64 0] by kernel_rfl] at h
    exact h
  go_enter Try.func17, Try.ntmps17
  go_wp2_with fail
  refine (closedD_no w p m hc7).mono ?_
  rintro e w' ⟨rfl, rfl⟩
  go_wp2
  refine wp_loop_rounds 8 ?_
  rw [rounds_succ]
  go_wp2
  rw [rounds_succ]
  go_wp2
  rw [rounds_succ]
  go_wp2
  rw [rounds_succ]
  go_wp2
  rw [rounds_succ]
  go_wp2
  rw [rounds_succ]
  go_wp2
  rw [rounds_succ]
  go_wp2
  rw [rounds_succ]
  go_wp2_with fail
  have HB : Hid (Below w'.heap.size w' (w'.alloc (.cells (ints (lensOf R)).toArray 3))) := (Below.refl _ _).alloc (Nat.le_refl _) _
  have hh := HeldInt.new w' (lensOf R) (fun x hx => by
    have h0 := HLN.out 0 (by decide)
    have h1 := HLN.out 1 (by decide)
    have h2 := HLN.out 2 (by decide)
    have h3 := HLN.out 3 (by decide)
    have h4 := HLN.out 4 (by decide)
    have h5 := HLN.out 5 (by decide)
    have h6 := HLN.out 6 (by decide)
    simp [lensOf] at hx
    omega)
  have HPL := hid (plain_any (w'.alloc (.cells (ints (lensOf R)).toArray 3)) (some ⟨w'.heap.size, 0, none⟩) 7 (lensOf R) 7 rfl ⟨hh, Nat.le_refl _, by simp [lensOf]⟩)
  refine HPL.out.mono ?_
  rintro e w5 ⟨bo, cp, rfl, hv, hb5⟩
  have HV5 := hid hv
  have HB5 := hid (bt HB.out hb5)
  clear hv hb5
  go_wp2
  go_ret
  exact ⟨bo, cp, rfl, HV5.out, HB5.out⟩
end
end Go.Proofs.Ytkjpaiaepodhbaa
