/-
  Tokens: two of them are unlike, and each may be a name.
-/
import Derived.Test.YtppllbdoihfcbaaDoorRoG
namespace Go.Proofs.YtppllbdoihfcbaaDoor
open Go.RowKit Go.Maps

theorem dec_byte : ∀ (u : Nat) (b : UInt8), b ∈ Lib.decDigits u → 48 ≤ b.toNat ∧ b.toNat ≤ 57 := by
  intro u
  induction u using Nat.strongRecOn with
  | ind u ih =>
    intro b hb
    by_cases h : u < 10
    · rw [Lib.decDigits_one h, List.mem_singleton] at hb
      subst hb
      rw [UInt8.toNat_ofNat']
      omega
    · rw [dec_big h, List.mem_append, List.mem_singleton] at hb
      rcases hb with hb | rfl
      · exact ih (u / 10) (by omega) b hb
      · rw [UInt8.toNat_ofNat']
        omega
/-- What digits say. -/
def valD (l : List UInt8) : Nat := l.foldl (fun a b => 10 * a + (b.toNat - 48)) 0
theorem valD_dec : ∀ u : Nat, valD (Lib.decDigits u) = u := by
  intro u
  induction u using Nat.strongRecOn with
  | ind u ih =>
    by_cases h : u < 10
    · rw [Lib.decDigits_one h]
      unfold valD
      simp only [List.foldl_cons, List.foldl_nil]
      rw [UInt8.toNat_ofNat']
      omega
    · rw [dec_big h]
      have h1 := ih (u / 10) (by omega)
      unfold valD at h1 ⊢
      rw [List.foldl_append, h1]
      simp only [List.foldl_cons, List.foldl_nil]
      rw [UInt8.toNat_ofNat']
      omega
theorem dec_inj {u v : Nat} (h : Lib.decDigits u = Lib.decDigits v) : u = v := by rw [← valD_dec u, h, valD_dec]
theorem nD_le : ∀ (m u : Nat), u < 10 ^ (m + 1) → Lib.nDigits u ≤ m + 1
  | 0, u, h => by rw [Lib.nDigits_small (by simpa using h)]; omega
  | m + 1, u, h => by
    by_cases h1 : u < 10
    · rw [Lib.nDigits_small h1]; omega
    · rw [Lib.nDigits_big h1]
      have := nD_le m (u / 10) (by rw [Nat.pow_succ] at h; omega)
      omega
/-- A token's bytes. -/
def tokL (c k : Nat) : List UInt8 := 99 :: (Lib.decDigits c ++ 45 :: Lib.decDigits k)
theorem tokR_list (c k : Nat) : tokR (c : Int) (k : Int) = ⟨(tokL c k).toArray⟩ := by
  unfold tokR digS
  rw [Lib.itoa_nonneg, Lib.itoa_nonneg]
  apply ByteArray.ext
  simp [tokL]
theorem sep_inj {a b x y : List UInt8} (ha : ∀ c ∈ a, c ≠ 45) (hb : ∀ c ∈ b, c ≠ 45) (h : a ++ 45 :: x = b ++ 45 :: y) : a = b ∧ x = y := by
  induction a generalizing b with
  | nil =>
    cases b with
    | nil => exact ⟨rfl, by simpa using h⟩
    | cons d b =>
      simp only [List.nil_append, List.cons_append, List.cons.injEq] at h
      exact absurd h.1.symm (hb d (by simp))
  | cons c a ih =>
    cases b with
    | nil =>
      simp only [List.nil_append, List.cons_append, List.cons.injEq] at h
      exact absurd h.1 (ha c (by simp))
    | cons d b =>
      simp only [List.cons_append, List.cons.injEq] at h
      obtain ⟨h1, h2⟩ := ih (fun e he => ha e (by simp [he])) (fun e he => hb e (by simp [he])) h.2
      exact ⟨by rw [h.1, h1], h2⟩
theorem dec_no45 (u : Nat) : ∀ c ∈ Lib.decDigits u, c ≠ 45 := fun c hc e => by
  have := dec_byte u c hc
  rw [e] at this
  exact absurd this.1 (by decide)
theorem tokL_inj {c k c' k' : Nat} (h : tokL c k = tokL c' k') : c = c' ∧ k = k' := by
  unfold tokL at h
  have h1 := (List.cons.inj h).2
  obtain ⟨h2, h3⟩ := sep_inj (dec_no45 c) (dec_no45 c') h1
  exact ⟨dec_inj h2, dec_inj h3⟩
theorem tokR_inj {c k c' k' : Nat} (h : tokR (c : Int) (k : Int) = tokR (c' : Int) (k' : Int)) : c = c' ∧ k = k' := by
  rw [tokR_list, tokR_list] at h
  refine tokL_inj ?_
  have := congrArg (fun b => b.data.toList) h
  simpa using this
theorem tokR_size (c k : Nat) (hc : c ≤ 2147483647) (hk : k < 100) : (tokR (c : Int) (k : Int)).size ≤ 32 ∧ 1 ≤ (tokR (c : Int) (k : Int)).size := by
  rw [tokR_list]
  have h1 := nD_le 9 c (by omega)
  have h2 := nD_le 1 k (by omega)
  have e : (ByteArray.mk (tokL c k).toArray).size = 1 + (Lib.nDigits c + (Lib.nDigits k + 1)) := by
    show (tokL c k).toArray.size = _
    simp [tokL, Lib.decDigits_length]
    omega
  rw [e]
  omega
theorem nameB_dig {x : Nat} (h : 48 ≤ x ∧ x ≤ 57) : nameB (x : Int) = true := by
  unfold nameB
  rw [decide_eq_true (p := (48 : Int) ≤ (x : Int)) (by omega), decide_eq_true (p := (x : Int) ≤ 57) (by omega)]
  simp
theorem tokR_name (c k : Nat) (hc : c ≤ 2147483647) (hk : k < 100) : nameS (tokR (c : Int) (k : Int)) = true := by
  have hs := tokR_size c k hc hk
  unfold nameS
  rw [decide_eq_true hs.2, decide_eq_true hs.1, tokR_list]
  simp only [Bool.true_and, strNums, List.all_map, tokL, List.all_cons, List.all_append, Function.comp, Bool.and_eq_true, List.all_eq_true]
  refine ⟨by decide, fun b hb => nameB_dig (dec_byte c b hb), by decide, fun b hb => nameB_dig (dec_byte k b hb)⟩
/-- The tokens that RouterTokens gathers. -/
def gath (a b : Nat) : Nat → List ByteArray
  | 0 => []
  | i + 1 => gath a b i ++ (tokR (a : Int) (i : Int) :: if a = b then [] else [tokR (b : Int) (i : Int)])
theorem gath_mem {a b : Nat} : ∀ {i : Nat} {x : ByteArray}, x ∈ gath a b i → ∃ c k, x = tokR ((c : Nat) : Int) ((k : Nat) : Int) ∧ k < i ∧ (c = a ∨ c = b)
  | 0, x, h => by cases h
  | i + 1, x, h => by
    unfold gath at h
    rcases List.mem_append.1 h with h | h
    · obtain ⟨c, k, h1, h2, h3⟩ := gath_mem h
      exact ⟨c, k, h1, by omega, h3⟩
    · rcases List.mem_cons.1 h with h | h
      · exact ⟨a, i, h, by omega, .inl rfl⟩
      · split at h
        · cases h
        · exact ⟨b, i, by simpa using h, by omega, .inr rfl⟩
theorem gath_nodup (a b : Nat) : ∀ i, (gath a b i).Nodup
  | 0 => List.nodup_nil
  | i + 1 => by
    unfold gath
    rw [List.nodup_append]
    refine ⟨gath_nodup a b i, ?_, fun x hx y hy e => ?_⟩
    · split
      · simp
      · rename_i h
        refine List.nodup_cons.2 ⟨fun hm => ?_, by simp⟩
        exact h (tokR_inj (by simpa using hm)).1
    · subst e
      obtain ⟨c, k, h1, h2, _⟩ := gath_mem hx
      have : ∃ c', x = tokR ((c' : Nat) : Int) (i : Int) := by
        rcases List.mem_cons.1 hy with h | h
        · exact ⟨a, h⟩
        · split at h
          · cases h
          · exact ⟨b, by simpa using h⟩
      obtain ⟨c', h3⟩ := this
      rw [h1] at h3
      have := (tokR_inj h3).2
      omega
theorem gath_len (a b : Nat) : ∀ i, (gath a b i).length ≤ 2 * i
  | 0 => Nat.le_refl _
  | i + 1 => by
    unfold gath
    have := gath_len a b i
    rw [List.length_append, List.length_cons]
    split <;> simp <;> omega
end Go.Proofs.YtppllbdoihfcbaaDoor
