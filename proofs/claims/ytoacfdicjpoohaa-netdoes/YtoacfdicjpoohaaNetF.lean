/-
  Package net: At answers the Id of the packet at a place, counted round and round.
-/
import Derived.Test.YtoacfdicjpoohaaNetSum
namespace Go.Proofs.Ytoacfdicjpoohaa
open Go.RowKit Go.Maps

theorem tmod_parts (x : Int) (n : Nat) (hn : 0 < n) : -(n : Int) < x.tmod n ∧ x.tmod n < n ∧ (x.tmod n < 0 → x.tmod n + n = x % n) ∧ (0 ≤ x.tmod n → x.tmod n = x % n) := by
  have h := Int.tmod_eq_emod (a := x) (b := (n : Int))
  have h0 := Int.emod_nonneg x (show (n : Int) ≠ 0 by omega)
  have h1 := Int.emod_lt_of_pos x (show (0 : Int) < n by omega)
  rw [Int.natAbs_natCast] at h
  split at h
  · omega
  · rename_i hc
    have h2 : x % n ≠ 0 := fun e => hc (.inr (Int.dvd_of_emod_eq_zero e))
    omega

section
variable {w : World} {p bm : Nat} {v : Value} {nodes last : Int} {ps : List Pk} {D : DataW Value}

theorem at_empty (h : NetAt w p bm v nodes last ps D) (x : Int) (h0 : ps.length = 0) :
    Calls Try.prog 13 #[.pointer (some ⟨p, 0, none⟩), .int .i64 x] w fun e w' => e = .returned (.tuple #[.int .i64 0, .bool false]) ∧ w' = w := by
  have hl := len_any h
  rw [h0] at hl
  have HL := hid hl
  clear hl h
  go_enter Try.func13, Try.ntmps13
  go_wp2_with fail
  refine HL.out.mono ?_
  rintro e w' ⟨rfl, rfl⟩
  go_wp2
  go_ret2
  exact ⟨rfl, rfl⟩

set_option maxRecDepth 100000 in
theorem at_any (h : NetAt w p bm v nodes last ps D) (x : Int) (k : Nat) (hk : k < ps.length) (hkx : (k : Int) = x % ps.length) :
    Calls Try.prog 13 #[.pointer (some ⟨p, 0, none⟩), .int .i64 x] w fun e w' => e = .returned (.tuple #[.int .i64 ps[k].id, .bool true]) ∧ w' = w := by
  obtain ⟨g, cap, rfl⟩ : ∃ g cap, v = .slice (some ⟨g, 0, none⟩) ps.length cap := by
    rcases h.row.2 with ⟨_, h0⟩ | ⟨g, cap, _, e, _⟩
    · omega
    · exact ⟨g, cap, e⟩
  have HL := hid (len_any h)
  have hc3 := h.blk.cell (i := 3) rfl
  have hcell : w.cell? ⟨g, k, none⟩ = some (.int .i64 ps[k].id) := by
    have hr := h.row
    rw [map_ids] at hr
    have := intsAt_row hr k (by simpa using hk)
    rwa [getD_ids hk] at this
  obtain ⟨t1, t2, t3, t4⟩ := tmod_parts x ps.length (by omega)
  have hfew := h.few
  have hl0 : 0 < ps.length := by omega
  have hne : ((ps.length : Int) == 0) = false := by simp only [beq_eq_false_iff_ne]; omega
  generalize ps[k].id = y at *
  clear h
  by_cases hneg : x.tmod ps.length < 0
  · have e : x.tmod ps.length + ps.length = k := by rw [t3 hneg, hkx]
    have hcell' : w.cell? ⟨g, (x.tmod ps.length + ps.length).toNat, none⟩ = some (.int .i64 y) := by rw [e]; exact hcell
    have h2 : 0 ≤ x.tmod ps.length + ps.length := by omega
    have h3 : x.tmod ps.length + ps.length < ps.length := by omega
    clear t3 t4 hkx e hcell
    go_enter Try.func13, Try.ntmps13
    go_wp2_with fail
    refine HL.out.mono ?_
    rintro e w' ⟨rfl, rfl⟩
    go_wp2
    go_ret2
    exact ⟨rfl, rfl⟩
  · have e : x.tmod ps.length = k := by rw [t4 (by omega), hkx]
    have hcell' : w.cell? ⟨g, (x.tmod ps.length).toNat, none⟩ = some (.int .i64 y) := by rw [e]; exact hcell
    have h2 : 0 ≤ x.tmod ps.length := by omega
    clear t3 t4 hkx e hcell
    go_enter Try.func13, Try.ntmps13
    go_wp2_with fail
    refine HL.out.mono ?_
    rintro e w' ⟨rfl, rfl⟩
    go_wp2
    go_ret2
    exact ⟨rfl, rfl⟩
end
end Go.Proofs.Ytoacfdicjpoohaa
