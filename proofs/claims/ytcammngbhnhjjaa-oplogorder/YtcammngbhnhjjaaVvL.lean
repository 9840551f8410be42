/-
  Count, the document's Count, of a vector that may be.
-/
import Derived.Test.YtcammngbhnhjjaaVvK
namespace Go.Proofs.Ytcammngbhnhjjaa
open Go.RowKit Go.Maps

def cntV (xs : List Int) : Int := (xs.map fun x => max x 0).sum
theorem cnt_snoc (xs : List Int) (x : Int) : cntV (xs ++ [x]) = cntV xs + max x 0 := by simp [cntV]
theorem cnt_take {xs : List Int} {j : Nat} (h : j < xs.length) : cntV (xs.take (j + 1)) = cntV (xs.take j) + max (xs.getD j 0) 0 := by
  rw [List.take_succ_eq_append_getElem h, cnt_snoc]
  simp [List.getD, List.getElem?_eq_getElem h]
theorem cnt_rngV : ∀ {xs : List Int}, (∀ x ∈ xs, 0 ≤ x ∧ x ≤ 2147483647) → 0 ≤ cntV xs ∧ cntV xs ≤ 2147483647 * (xs.length : Int)
  | [], _ => by simp [cntV]
  | x :: xs, h => by
    have h1 := h x (by simp)
    have h2 := cnt_rngV (xs := xs) (fun y hy => h y (by simp [hy]))
    simp [cntV] at *
    omega
theorem cnt_may {xs : List Int} (h : MayV xs) (j : Nat) : 0 ≤ cntV (xs.take j) ∧ cntV (xs.take j) ≤ 15032385529 := by
  have h1 := cnt_rngV (xs := xs.take j) (fun x hx => h.2 x (List.mem_of_mem_take hx))
  have h2 : (xs.take j).length ≤ 7 := by have := h.1; simp; omega
  omega
theorem wrap_cntv {c x : Int} (h : 0 ≤ c ∧ c ≤ 15032385529) (hx : 0 ≤ x ∧ x ≤ 2147483647) : wrap64 (c + x) = c + x := wrapS (by omega) (by omega)

set_option maxRecDepth 100000 in
theorem count_any (w : World) (ao : Option Addr) (ca : Nat) (v : List Int) (m : Nat) (hm : v.length = m) (h : HV w ao ca v) (hmay : MayV v) :
    Calls Try.prog 16 #[.slice ao m ca] w fun e w' => e = .returned (.int .i64 (cntV v)) ∧ w' = w := by
  have H := hid h.held
  have HM := hid hm
  have HY := hid hmay
  have hfew := h.few
  rw [hm] at hfew
  clear h hm hmay
  go_enter Try.func16, Try.ntmps16
  go_wp2
  go_loop [3, 5, 8] (fun c _ i => ∃ k : Nat, k ≤ m ∧ i = .int .i64 k ∧ c = .int .i64 (cntV (v.take k))) (fun _ _ i => m - (intOf i).toNat)
  case atStart => exact ⟨0, Nat.zero_le _, rfl, rfl⟩
  case round =>
    obtain ⟨k, hk, rfl, rfl⟩ := hrel
    by_cases hlt : k < m
    · have hlt' : (k : Int) < (m : Int) := by omega
      have hkx : Hid (k < v.length) := (HM.out ▸ hlt : k < v.length)
      obtain ⟨b, off, rfl, hc⟩ := H.out.cellAt hkx.out
      have hcell := hc k hkx.out
      clear hc
      have HXR := hid (HY.out.2 _ (getD_mem hkx.out))
      have HS := hid (cnt_take hkx.out)
      obtain ⟨X, hX⟩ : ∃ X, v.getD k 0 = X := ⟨_, rfl⟩
      rw [hX] at hcell HXR HS
      have HMX : Hid (max X 0 = X) := (by have := HXR.out; omega : max X 0 = X)
      rw [HMX.out] at HS
      have HD := hid (dotsOf_any w X)
      rw [HMX.out] at HD
      have hw := wrap_cntv (cnt_may HY.out k) HXR.out
      obtain ⟨T, HT⟩ : ∃ T, Hid (cntV (v.take k) = T) := ⟨_, hid rfl⟩
      rw [HT.out] at hw HS ⊢
      clear hX
      go_wp2_with fail
      refine HD.out.mono ?_
      rintro e w' ⟨rfl, rfl⟩
      go_wp2
      go_round
      case rel => exact ⟨k + 1, by omega, by go_num, by rw [HS.out, hw]⟩
      case measure => simp [intOf]; omega
    · have hlt' : ¬ (k : Int) < (m : Int) := by omega
      go_wp2
      go_ret
      refine ⟨ret_int ?_, rfl⟩
      rw [List.take_of_length_le (by rw [HM.out]; omega)]
end Go.Proofs.Ytcammngbhnhjjaa
