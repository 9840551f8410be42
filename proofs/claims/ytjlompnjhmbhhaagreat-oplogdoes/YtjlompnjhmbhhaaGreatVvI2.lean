/-
  Package vv: With answers new memory.
-/
import Derived.Test.YtjlompnjhmbhhaaGreatVvI
namespace Go.Proofs.YtjlompnjhmbhhaaGreat
open Go.RowKit Go.Maps

/-- What With answers, and where it lies. -/
def AnsN (w : World) (xs : List Int) (e : Ending) (w' : World) : Prop := ∃ cp, e = .returned (.tuple #[.slice (some ⟨w.heap.size, 0, none⟩) xs.length cp, .int .i64 0]) ∧ HV w' (some ⟨w.heap.size, 0, none⟩) cp xs ∧ (∃ cs, Blk w' w.heap.size 3 cs) ∧ Below w.heap.size w w'
set_option maxRecDepth 100000 in
theorem with_new (w : World) (ao : Option Addr) (ca : Nat) (v : List Int) (m : Nat) (hm : v.length = m) (h : HV w ao ca v) (k : Nat) (hk : k ≤ 6) (n : Int) (hn : 0 ≤ n ∧ n ≤ 2147483647) :
    Calls Tryz.prog 70 #[.slice ao m ca, .int .i64 (k : Int), .int .i64 n] w (AnsN w (plainOf (withOf v k n))) := by
  obtain ⟨L, hL⟩ : ∃ L, L = max m (k + 1) := ⟨_, rfl⟩
  have hfew := h.few
  rw [hm] at hfew
  have hLs : L ≤ 17592186044416 := by omega
  have hmk := run_make_row' (P := Tryz.prog) 23 3 (.int .i64 0) 8 Tryz.underlying23 Tryz.infoInt rfl .i64 .i64 L (by omega) (by omega)
  have hmax : (if (m : Int) < (k : Int) + 1 then (k : Int) + 1 else (m : Int)) = (L : Int) := by split <;> omega
  have HX : Hid (Blk (w.alloc (.cells (madeCells #[.int .i64 0] L) 3)) w.heap.size 3 (ints (List.replicate L 0))) := by
    rw [made_ints]
    exact Blk.new w 3 (ints (List.replicate L 0))
  have HB0 : Hid (Below w.heap.size w (w.alloc (.cells (madeCells #[.int .i64 0] L) 3))) := (Below.refl _ _).alloc (Nat.le_refl _) _
  have H := hid h
  have HM := hid hm
  have HL := hid hL
  obtain ⟨hn0, hn1⟩ := hn
  have hk7 : (k : Int) < 7 := by omega
  have hk0 : ¬ (k : Int) < 0 := by omega
  have hkL : k < L := by omega
  have HKK := hid hk
  have HN := hid (And.intro hn0 hn1)
  have e1 : decide ((7 : Int) ≤ (k : Int)) = false := by simp; omega
  have e2 : decide (n < 0) = false := by simp; omega
  have e3 : decide (2147483647 < n) = false := by simp; omega
  have HWL : Hid ((withOf v k n).length = L) := by show _ = _; rw [with_len, HM.out, hL]
  have HSB : Hid (v ++ List.replicate (L - m) 0 = v ++ List.replicate (k + 1 - v.length) 0) := by show _ = _; rw [HM.out, hL, with_sub]
  obtain ⟨W', hcp, hg', hT⟩ := run_copyI (w.alloc (.cells (madeCells #[.int .i64 0] L) 3)) w.heap.size L m ca ao v HM.out (by omega) HX.out (H.out.below HB0.out).held 3
  have hlen : k < (v ++ List.replicate (L - m) 0).length := by rw [HSB.out]; simp; omega
  have hcell := hg'.cell (ints_get hlen)
  have hfr := hg'.frozen k
  generalize (v ++ List.replicate (L - m) 0).getD k 0 = Z at hcell
  have HBF : Hid (Below w.heap.size w (W'.setCell ⟨w.heap.size, k, none⟩ (.int .i64 n))) :=
    (HB0.out.trans (hT.below (B := w.heap.size) (fun i hi => by omega) (by simp))).trans (((Turns.refl (fun i => i = w.heap.size) W').setCell (p := ⟨w.heap.size, k, none⟩) (.inl rfl) _).below (fun i hi => by omega) (by have := hT.size; simp at this; omega))
  have HVW : Hid (HV (W'.setCell ⟨w.heap.size, k, none⟩ (.int .i64 n)) (some ⟨w.heap.size, 0, none⟩) L (withOf v k n)) := by
    have h1 := hg'.set k (.int .i64 n)
    have h2 := ints_set (v ++ List.replicate (L - m) 0) [] k n hlen
    rw [List.append_nil, List.append_nil] at h2
    rw [h2, HSB.out, ← List.append_nil (ints _)] at h1
    refine ⟨h1.heldInt (fun x hx => ?_), by rw [HWL.out]; exact Nat.le_refl _, by rw [HWL.out]; exact hLs⟩
    rcases List.mem_or_eq_of_mem_set hx with hx | rfl
    · rcases List.mem_append.1 hx with hx | hx
      · exact H.out.held.1 x hx
      · have := List.eq_of_mem_replicate hx
        omega
    · have := HN.out
      omega
  have HTY : Hid (∃ cs, Blk (W'.setCell ⟨w.heap.size, k, none⟩ (.int .i64 n)) w.heap.size 3 cs) := ⟨_, hg'.set k (.int .i64 n)⟩
  have HCU := hid (cut_any _ _ L (withOf v k n) L HWL.out HVW.out)
  obtain ⟨z, HZ⟩ : ∃ z, Hid ((plainOf (withOf v k n)).length = z) := ⟨_, hid rfl⟩
  rw [HZ.out] at HCU
  clear h hm hL hfew hk hg' hT hlen
  go_enter Tryz.func70, Tryz.ntmps70
  go_wp2_with fail
  refine HCU.out.mono ?_
  rintro e w2 ⟨⟨rfl, hv⟩, rfl⟩
  have HV' := hid hv
  clear hv HCU
  go_wp2
  go_ret2
  exact ⟨z, by rw [HZ.out]; rfl, HV'.out, HTY.out, HBF.out⟩
end Go.Proofs.YtjlompnjhmbhhaaGreat
