/-
  Package vv: Of, cut, Plain; the document's Of, Plain.
-/
import Derived.Test.YtjlompnjhmbhhaaGreatSealA
namespace Go.Proofs.YtjlompnjhmbhhaaGreat
open Go.RowKit Go.Maps

theorem Tryz.sizeI : ∀ w : World, (Go.sizeOf 3).run Tryz.prog w = .ok 1 w := by
  intro w
  obtain ⟨i, hi, _, hs, _⟩ := info_parts Tryz.infoInt
  simp [Go.sizeOf, typeInfo, hi, hs]

theorem of_any (w : World) (ao : Option Addr) (cap : Nat) (xs : List Int) (n : Nat) (hn : xs.length = n) (k : Int) (h : HeldInt w ao xs) :
    Calls Tryz.prog 28 #[.slice ao n cap, .int .i64 k] w fun e w' => e = .returned (.int .i64 (ofV xs k)) ∧ w' = w := by
  by_cases h0 : k < 0
  · clear h
    go_enter Tryz.func28, Tryz.ntmps28
    go_wp2
    go_ret
    exact ⟨ret_int (by simp [ofV, h0]), rfl⟩
  · by_cases h1 : (n : Int) ≤ k
    · clear h
      go_enter Tryz.func28, Tryz.ntmps28
      go_wp2
      go_ret
      exact ⟨ret_int (by rw [← hn] at h1; simp [ofV, h1]), rfl⟩
    · obtain ⟨j, rfl⟩ := Int.eq_ofNat_of_zero_le (by omega : 0 ≤ k)
      have hj : j < xs.length := by omega
      obtain ⟨b, off, rfl, hc⟩ := h.cellAt hj
      have hcell := hc j hj
      have HE := hid (ofV_nat xs j)
      clear hc h
      obtain ⟨X, hX⟩ : ∃ X, X = xs.getD j 0 := ⟨_, rfl⟩
      rw [← hX] at hcell HE
      clear hX
      have hlt : (j : Int) < (n : Int) := by omega
      clear hj hn
      go_enter Tryz.func28, Tryz.ntmps28
      go_wp2
      go_ret
      exact ⟨ret_int HE.out.symm, rfl⟩
theorem rof_any (w : World) (ao : Option Addr) (cap : Nat) (xs : List Int) (n : Nat) (hn : xs.length = n) (k : Int) (h : HeldInt w ao xs) :
    Calls Tryz.prog 30 #[.slice ao n cap, .int .i64 k] w fun e w' => e = .returned (.int .i64 (ofV xs k)) ∧ w' = w := by
  by_cases h0 : k < 0
  · clear h
    go_enter Tryz.func30, Tryz.ntmps30
    go_wp2
    go_ret
    exact ⟨ret_int (by simp [ofV, h0]), rfl⟩
  · by_cases h1 : (n : Int) ≤ k
    · clear h
      go_enter Tryz.func30, Tryz.ntmps30
      go_wp2
      go_ret
      exact ⟨ret_int (by rw [← hn] at h1; simp [ofV, h1]), rfl⟩
    · obtain ⟨j, rfl⟩ := Int.eq_ofNat_of_zero_le (by omega : 0 ≤ k)
      have hj : j < xs.length := by omega
      obtain ⟨b, off, rfl, hc⟩ := h.cellAt hj
      have hcell := hc j hj
      have HE := hid (ofV_nat xs j)
      clear hc h
      obtain ⟨X, hX⟩ : ∃ X, X = xs.getD j 0 := ⟨_, rfl⟩
      rw [← hX] at hcell HE
      clear hX
      have hlt : (j : Int) < (n : Int) := by omega
      clear hj hn
      go_enter Tryz.func30, Tryz.ntmps30
      go_wp2
      go_ret
      exact ⟨ret_int HE.out.symm, rfl⟩

theorem addr0 (p : Addr) : p.add 0 = p := by
  obtain ⟨b, o, s⟩ := p
  cases s <;> simp [Addr.add]
theorem run_cut_hm {P : Program} (W : World) (t e : TypeId) (ht : P.underlying t = some (.slice e)) (hz : ∀ w, (Go.sizeOf e).run P w = .ok 1 w) (a : Option Addr) (len cap n : Nat) (hh : n ≤ cap) :
    (Instr.slice t (.slice a len cap) none (some (.int .i64 (n : Int))) (some (.int .i64 (n : Int)))).run P W = .ok (.slice a n n) W := by
  have ht' : P.underlying t = some (.slice (P.elem t)) := by simp [Program.elem, ht]
  have he : P.elem t = e := by simp [Program.elem, ht]
  rw [run_slice_hm W t _ _ _ ht' .i64 .i64 _ _ (by omega) (by omega) (by omega), he, hz]
  cases a <;> simp [Result.andThen, sliced, addr0]

set_option maxRecDepth 100000 in
theorem cut_any (w : World) (ao : Option Addr) (cap : Nat) (xs : List Int) (n : Nat) (hn : xs.length = n) (h : HV w ao cap xs) :
    Calls Tryz.prog 68 #[.slice ao n cap] w fun e w' => (e = .returned (.slice ao (plainOf xs).length (plainOf xs).length) ∧ HV w ao (plainOf xs).length (plainOf xs)) ∧ w' = w := by
  have HR : Hid (HV w ao (plainOf xs).length (plainOf xs)) := ⟨h.held.take _, Nat.le_refl _, by have := h.few; have := endOf_le xs; rw [plain_len]; omega⟩
  have HS := hid (fun m (hm : m ≤ cap) => run_cut_hm (P := Tryz.prog) w 23 3 Tryz.underlying23 Tryz.sizeI ao n cap m hm)
  have hroom := h.room
  have hfew := h.few
  rw [hn] at hroom hfew
  have H := hid h.held
  have HN := hid hn
  clear h hn
  go_enter Tryz.func68, Tryz.ntmps68
  go_wp2
  go_loop [3] (fun i => ∃ k : Nat, k ≤ n ∧ i = .int .i64 k ∧ Hid (endF (fun i => xs.getD i 0) k = endOf xs)) (fun i => (intOf i).toNat)
  case atStart => exact ⟨n, Nat.le_refl _, rfl, by show _ = _; rw [endOf, HN.out]⟩
  case round =>
    obtain ⟨k, hk, rfl, HE⟩ := hrel
    by_cases h0 : 0 < k
    · obtain ⟨j, hkj⟩ : ∃ j, k = j + 1 := ⟨k - 1, by omega⟩
      have hj : Hid (j < xs.length) := (by have := HN.out; omega : j < xs.length)
      obtain ⟨b, off, rfl, hc⟩ := H.out.cellAt hj.out
      have hcell := hc j hj.out
      rw [show off + j = off + (k - 1) by omega] at hcell
      clear hc
      have hp : (0 : Int) < (k : Int) := by omega
      have HKJ := hid hkj
      clear hkj
      by_cases hz : xs.getD j 0 = 0
      · have HE' : Hid (endF (fun i => xs.getD i 0) j = endOf xs) := by
          have := HE.out
          rw [HKJ.out, endF, if_pos hz] at this
          exact this
        rw [hz] at hcell
        clear hz HE
        go_wp2
        go_round
        case rel => exact ⟨j, by have := HKJ.out; omega, by have := HKJ.out; simp; omega, HE'⟩
        case measure => have := HKJ.out; simp [intOf]; omega
      · have HE' : Hid (k = endOf xs) := by
          have := HE.out
          rw [HKJ.out, endF, if_neg hz] at this
          rw [HKJ.out]
          exact this
        have hs := HS.out k (by omega)
        obtain ⟨X, hX⟩ : ∃ X, X = xs.getD j 0 := ⟨_, rfl⟩
        rw [← hX] at hcell hz
        have hz' : (X == 0) = false := by simp [hz]
        clear hz HE hX
        go_wp2
        go_ret
        refine ⟨⟨?_, HR.out⟩, rfl⟩
        rw [plain_len, ← HE'.out]
        rfl
    · obtain rfl : k = 0 := by omega
      have hs : Sem.run Tryz.prog (Instr.slice 23 (.slice ao n cap) none (some (.int .i64 0)) (some (.int .i64 0))) w = .ok (.slice ao 0 0) w := HS.out 0 (by omega)
      go_wp2
      go_ret
      refine ⟨⟨?_, HR.out⟩, rfl⟩
      have : endOf xs = 0 := HE.out.symm
      rw [plain_len, this]
      rfl
end Go.Proofs.YtjlompnjhmbhhaaGreat
