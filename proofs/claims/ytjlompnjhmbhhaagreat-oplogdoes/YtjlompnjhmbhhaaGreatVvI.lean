/-
  Package vv: With; the document's With.
-/
import Derived.Test.YtjlompnjhmbhhaaGreatVvH
import Derived.Laws.CopyRow
import Derived.Laws.IdiomCopy
namespace Go.Proofs.YtjlompnjhmbhhaaGreat
open Go.RowKit Go.Maps

/-- A vector with n as the origin's number. -/
def withOf (v : List Int) (k : Nat) (n : Int) : List Int := ((v ++ List.replicate (k + 1 - v.length) 0).set k n)
theorem with_len (v : List Int) (k : Nat) (n : Int) : (withOf v k n).length = max v.length (k + 1) := by
  simp [withOf]
  omega
theorem with_getD (v : List Int) (k : Nat) (n : Int) (i : Nat) : (withOf v k n).getD i 0 = if i = k then n else v.getD i 0 := by
  unfold withOf
  by_cases h : i = k
  · subst h
    have hl : i < (v ++ List.replicate (i + 1 - v.length) 0).length := by simp; omega
    rw [if_pos rfl]
    simp only [List.getD, List.getElem?_set, if_pos hl]
    simp
  · have h' : ¬ k = i := fun e => h e.symm
    simp only [List.getD, List.getElem?_set, if_neg h', if_neg h]
    by_cases h2 : i < v.length
    · rw [List.getElem?_append_left h2]
    · rw [List.getElem?_append_right (by omega), List.getElem?_eq_none (l := v) (by omega), List.getElem?_replicate]
      split <;> rfl
def WithOk (o n : Int) : Prop := 0 ≤ o ∧ o ≤ 6 ∧ 0 ≤ n ∧ n ≤ 2147483647
instance (o n : Int) : Decidable (WithOk o n) := by unfold WithOk; infer_instance
/-- What With answers. -/
def AnsW (w : World) (xs : List Int) (e : Ending) (w' : World) : Prop := ∃ bo cp, e = .returned (.tuple #[.slice bo xs.length cp, .int .i64 0]) ∧ HV w' bo cp xs ∧ Below w.heap.size w w'

theorem with_bad (w : World) (v : Value) (o n : Int) (h : ¬ WithOk o n) : Calls Tryz.prog 70 #[v, .int .i64 o, .int .i64 n] w fun e w' => e = .returned (.tuple #[.slice none 0 0, .int .i64 1]) ∧ w' = w := by
  unfold WithOk at h
  by_cases h0 : o < 0
  · clear h
    go_enter Tryz.func70, Tryz.ntmps70
    go_wp2
    go_ret2
    exact ⟨rfl, rfl⟩
  · by_cases h1 : 7 ≤ o
    · clear h
      go_enter Tryz.func70, Tryz.ntmps70
      go_wp2
      go_ret2
      exact ⟨rfl, rfl⟩
    · by_cases h2 : n < 0
      · clear h
        go_enter Tryz.func70, Tryz.ntmps70
        go_wp2
        go_ret2
        exact ⟨rfl, rfl⟩
      · have h3 : 2147483647 < n := by omega
        clear h
        go_enter Tryz.func70, Tryz.ntmps70
        go_wp2
        go_ret2
        exact ⟨rfl, rfl⟩
/-- copy(w, v): the new block's beginning is v's numbers. -/
theorem run_copyI (W : World) (g L m ca : Nat) (ao : Option Addr) (v : List Int) (hm : v.length = m) (hL : m ≤ L) (hg : Blk W g 3 (ints (List.replicate L 0))) (hh : HeldInt W ao v) (ty : TypeId) :
    ∃ W', (Builtin.copy_ #[23, 23] ty #[.slice (some ⟨g, 0, none⟩) L L, .slice ao m ca]).run Tryz.prog W = .ok (goInt m) W' ∧ Blk W' g 3 (ints (v ++ List.replicate (L - m) 0)) ∧ Turns (fun i => i = g) W W' := by
  obtain ⟨iI, hj, hy0, hy1, hy2⟩ := info_parts Tryz.infoInt
  have hs1 : (Tryz.prog.info? 3).map (·.size) = some 1 := by rw [hj]; simp [hy1]
  by_cases h0 : m = 0
  · subst h0
    have hv : v = [] := List.eq_nil_of_length_eq_zero hm
    subst hv
    refine ⟨W, run_copy_none W _ _ ty 3 _ ao L L 0 ca Tryz.underlying23 hs1 (by simp), by simpa using hg, Turns.refl _ _⟩
  · have hne : v ≠ [] := fun e => h0 (by rw [← hm, e]; rfl)
    rcases hh.2 with h1 | ⟨b, off, rfl, hb, hc⟩
    · exact absurd h1 hne
    · have hrun := run_copy_row (P := Tryz.prog) W 23 23 ty 3 g 0 L L ⟨b, off, none⟩ m ca (ints (List.replicate L 0)).toArray 3 (ints v) Tryz.underlying23 hs1 hg (by rw [ints_len, hm]; exact (Nat.min_eq_left hL).symm) hh.news (by simp [ints_len, hm]; omega) (ints_one v)
      rw [ints_len, hm] at hrun
      refine ⟨_, hrun, ?_, ?_⟩
      · have e : ((ints (List.replicate L 0)).toArray.toList.take 0 ++ ints v ++ (ints (List.replicate L 0)).toArray.toList.drop (0 + m)) = ints (v ++ List.replicate (L - m) 0) := by
          simp [ints, List.drop_replicate]
        rw [e]
        exact setRow_heap W g _ _ _ _ hg
      · exact ⟨rfl, rfl, rfl, by simp, fun k _ hn => setRow_other W g k _ hn⟩
def lenV : Value → Nat
  | .slice _ n _ => n
  | _ => 0
theorem with_n {m j k N : Nat} (hj : j = k + 1 - m) (h : ¬ m + j ≤ k) (hN : N = m + j) : max m (k + 1) = N := by omega
theorem with_sub {m k : Nat} : max m (k + 1) - m = k + 1 - m := by omega
set_option maxRecDepth 100000 in
theorem with_good (w : World) (ao : Option Addr) (ca : Nat) (v : List Int) (m : Nat) (hm : v.length = m) (h : HV w ao ca v) (k : Nat) (hk : k ≤ 6) (n : Int) (hn : 0 ≤ n ∧ n ≤ 2147483647) :
    Calls Tryz.prog 70 #[.slice ao m ca, .int .i64 (k : Int), .int .i64 n] w (AnsW w (plainOf (withOf v k n))) := by
  obtain ⟨L, hL⟩ : ∃ L, L = max m (k + 1) := ⟨_, rfl⟩
  have hfew := h.few
  rw [hm] at hfew
  have hLs : L ≤ 17592186044416 := by omega
  have hmk := run_make_row' (P := Tryz.prog) 23 3 (.int .i64 0) 8 Tryz.underlying23 Tryz.infoInt rfl .i64 .i64 L (by omega) (by omega)
  have hmax : (if (m : Int) < (k : Int) + 1 then (k : Int) + 1 else (m : Int)) = (L : Int) := by split <;> omega
  have HX : Hid (Blk (w.alloc (.cells (madeCells #[.int .i64 0] L) 3)) w.heap.size 3 (ints (List.replicate L 0))) := by
    rw [made_ints]
    exact Blk.new w 3 (ints (List.replicate L 0))
  have HB0 : Hid (Below w.heap.size w (w.alloc (.cells (madeCells #[.int .i64 0] L) 3))) := (Below.refl _ _).alloc (Nat.le_refl _) _
  have H := hid h
  have HM := hid hm
  have HL := hid hL
  obtain ⟨hn0, hn1⟩ := hn
  have hk7 : (k : Int) < 7 := by omega
  have hk0 : ¬ (k : Int) < 0 := by omega
  have hkL : k < L := by omega
  have HKK := hid hk
  have HN := hid (And.intro hn0 hn1)
  have e1 : decide ((7 : Int) ≤ (k : Int)) = false := by simp; omega
  have e2 : decide (n < 0) = false := by simp; omega
  have e3 : decide (2147483647 < n) = false := by simp; omega
  have HWL : Hid ((withOf v k n).length = L) := by show _ = _; rw [with_len, HM.out, hL]
  have HSB : Hid (v ++ List.replicate (L - m) 0 = v ++ List.replicate (k + 1 - v.length) 0) := by show _ = _; rw [HM.out, hL, with_sub]
  obtain ⟨W', hcp, hg', hT⟩ := run_copyI (w.alloc (.cells (madeCells #[.int .i64 0] L) 3)) w.heap.size L m ca ao v HM.out (by omega) HX.out (H.out.below HB0.out).held 3
  have hlen : k < (v ++ List.replicate (L - m) 0).length := by rw [HSB.out]; simp; omega
  have hcell := hg'.cell (ints_get hlen)
  have hfr := hg'.frozen k
  generalize (v ++ List.replicate (L - m) 0).getD k 0 = Z at hcell
  have HBF : Hid (Below w.heap.size w (W'.setCell ⟨w.heap.size, k, none⟩ (.int .i64 n))) :=
    (HB0.out.trans (hT.below (B := w.heap.size) (fun i hi => by omega) (by simp))).trans (((Turns.refl (fun i => i = w.heap.size) W').setCell (p := ⟨w.heap.size, k, none⟩) (.inl rfl) _).below (fun i hi => by omega) (by have := hT.size; simp at this; omega))
  have HVW : Hid (HV (W'.setCell ⟨w.heap.size, k, none⟩ (.int .i64 n)) (some ⟨w.heap.size, 0, none⟩) L (withOf v k n)) := by
    have h1 := hg'.set k (.int .i64 n)
    have h2 := ints_set (v ++ List.replicate (L - m) 0) [] k n hlen
    rw [List.append_nil, List.append_nil] at h2
    rw [h2, HSB.out, ← List.append_nil (ints _)] at h1
    refine ⟨h1.heldInt (fun x hx => ?_), by rw [HWL.out]; exact Nat.le_refl _, by rw [HWL.out]; exact hLs⟩
    rcases List.mem_or_eq_of_mem_set hx with hx | rfl
    · rcases List.mem_append.1 hx with hx | hx
      · exact H.out.held.1 x hx
      · have := List.eq_of_mem_replicate hx
        omega
    · have := HN.out
      omega
  have HCU := hid (cut_any _ _ L (withOf v k n) L HWL.out HVW.out)
  obtain ⟨z, HZ⟩ : ∃ z, Hid ((plainOf (withOf v k n)).length = z) := ⟨_, hid rfl⟩
  rw [HZ.out] at HCU
  clear h hm hL hfew hk hg' hT hlen
  go_enter Tryz.func70, Tryz.ntmps70
  go_wp2_with fail
  refine HCU.out.mono ?_
  rintro e w2 ⟨⟨rfl, hv⟩, rfl⟩
  have HV' := hid hv
  clear hv HCU
  go_wp2
  go_ret2
  exact ⟨_, z, by rw [HZ.out]; rfl, HV'.out, HBF.out⟩

end Go.Proofs.YtjlompnjhmbhhaaGreat
