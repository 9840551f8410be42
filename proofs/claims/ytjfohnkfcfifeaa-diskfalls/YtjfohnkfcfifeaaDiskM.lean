/-
  Package disk: cut; Crash, where what is kept may be.
-/
import Derived.Test.YtjfohnkfcfifeaaDiskL
namespace Go.Proofs.Ytjfohnkfcfifeaa
open Go.RowKit Go.Maps

/-- A file of which the first n bytes are left, all sure. -/
def Fl.cutTo (f : Fl) (n : Nat) (v : Value) : Fl := { f with v := v, bytes := f.bytes.take n, sure := n }
theorem nums_take (bs : List Int) (n : Nat) : nums (bs.take n) = (nums bs).take n := by simp [nums]
theorem row_cut {w : World} {B e n : Nat} {ao : Option Addr} {len cap : Nat} {bs : List Int} (h : w.ownsRow B e 1 (.slice ao len cap) len (nums bs)) (hl : bs.length = len) (hn : n ≤ len) : w.ownsRow B e 1 (.slice ao n cap) n (nums (bs.take n)) := by
  rcases h.2 with ⟨he, h0⟩ | ⟨g, cap', cur, he, hB, hg, hc, hm, hs, ht⟩
  · cases he
    obtain rfl : n = 0 := by omega
    exact World.ownsRow_nil _ _ _ _
  · cases he
    refine ⟨?_, .inr ⟨g, cap, cur, rfl, hB, hg, by omega, hm, hs, ?_⟩⟩
    · rw [nums_len]
      simp
      omega
    · rw [nums_take, ← ht, List.take_take]
      congr 1
      omega

section
variable {w : World} {p bm : Nat} {size calls : Int} {fs : List Fl} {D : DataW Value}
theorem cut_any {f : Fl} (hf : FlAt w f) (n : Nat) (hn : n ≤ f.bytes.length) : Calls Try.prog 43 #[.pointer (some ⟨f.ptr, 0, none⟩), .int .i64 n] w fun e w' => e = .returned (.tuple #[]) ∧ ∃ v, FlAt w' (f.cutTo n v) ∧ v.ownBlock = f.v.ownBlock ∧ Turns (fun i => i = f.ptr) w w' := by
  obtain ⟨i0, hi, hz0, hz1, hz2⟩ := info_parts Try.info5
  have hcells : Try.prog.cellsOf 5 = 1 := by simp [Program.cellsOf, hi, hz1]
  obtain ⟨ao, cap, hv, hh⟩ := flAt_held hf
  have c0 := hf.blk.cell (i := 0) rfl
  have c1 := hf.blk.cell (i := 1) rfl
  have f0 := hf.blk.frozen 0
  have f1 := hf.blk.frozen 1
  rw [hv] at c0
  have hsz1 : ∀ w, (Go.sizeOf 5).run Try.prog w = .ok 1 w := fun w => by kernel_rfl
  have hcut := fun W => run_cut_h (P := Try.prog) W 31 5 Try.underlying31 hsz1 ao f.bytes.length cap n (n : Int) rfl (by have := hh.hcap; omega)
  have HF := hid hf
  have HV := hid hv
  clear hf hv hsz1
  go_enter Try.func43, Try.ntmps43
  go_wp2
  go_end0
  have hpr : some f.ptr ≠ (Value.slice ao n cap).ownBlock := by
    have := HF.out.blk.not_row (by decide) HF.out.row
    rw [HV.out] at this
    cases ao <;> exact this
  have hrow : w.ownsRow 0 5 1 (.slice ao n cap) n (nums (f.bytes.take n)) := row_cut (by rw [← HV.out]; exact HF.out.row) rfl hn
  refine ⟨rfl, .slice ao n cap, ⟨(HF.out.blk.set 0 _).set 1 _, ?_, HF.out.byte.take n, ?_⟩, ?_, Turns.setCell (F := fun i => i = f.ptr) (Turns.setCell (F := fun i => i = f.ptr) (Turns.refl _ w) (p := ⟨f.ptr, 0, none⟩) (.inl rfl) _) (p := ⟨f.ptr, 1, none⟩) (.inl rfl) _⟩
  · have h1 := hrow.kept (grownBy_setIn w f.ptr 0 (.slice ao n cap)) (.inr hpr.symm)
    have h2 := h1.kept (grownBy_setIn _ f.ptr 1 (.int .i64 n)) (.inr hpr.symm)
    simpa [Fl.cutTo, Nat.min_eq_left hn] using h2
  · simp [Fl.cutTo]
    omega
  · rw [HV.out]
    cases ao <;> rfl
end
end Go.Proofs.Ytjfohnkfcfifeaa
