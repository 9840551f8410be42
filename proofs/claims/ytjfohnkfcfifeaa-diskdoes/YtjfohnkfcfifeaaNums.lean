/-
  Plain mathematics of the numbers' bytes (no program): the one form 'enc' of a number, the reader 'dec' over any bytes, and that they fit. Proved for all natural numbers and lists; nothing of the Go text is named here.
-/
import Derived.WalkKit
namespace Go.Proofs.Ytjfohnkfcfifeaa
def encF : Nat → Nat → List Int
  | 0, x => [(x : Int)]
  | n + 1, x => if x < 128 then [(x : Int)] else ((x % 128 + 128 : Nat) : Int) :: encF n (x / 128)
def enc (x : Nat) : List Int := encF x x

theorem encF_same : ∀ n m x, x ≤ n → x ≤ m → encF n x = encF m x
  | 0, 0, _, _, _ => rfl
  | 0, m + 1, x, h, _ => by
    have : x = 0 := by omega
    subst this
    simp [encF]
  | n + 1, 0, x, _, h => by
    have : x = 0 := by omega
    subst this
    simp [encF]
  | n + 1, m + 1, x, h1, h2 => by
    simp only [encF]
    split
    · rfl
    · rw [encF_same n m (x / 128) (by omega) (by omega)]

theorem enc_lt {x : Nat} (h : x < 128) : enc x = [(x : Int)] := by
  unfold enc
  cases x with
  | zero => rfl
  | succ n => simp only [encF]; rw [if_pos h]

theorem enc_ge {x : Nat} (h : 128 ≤ x) : enc x = ((x % 128 + 128 : Nat) : Int) :: enc (x / 128) := by
  unfold enc
  cases x with
  | zero => omega
  | succ n =>
    simp only [encF]
    rw [if_neg (by omega), encF_same n ((n + 1) / 128) _ (by omega) (by omega)]

theorem pow128 (k : Nat) : 128 ^ (k + 1) = 128 * 128 ^ k := by rw [Nat.pow_succ, Nat.mul_comm]

theorem pow_pos128 (k : Nat) : 0 < 128 ^ k := Nat.pow_pos (by decide)

theorem enc_len : ∀ (k x : Nat), x < 128 ^ (k + 1) → (enc x).length ≤ k + 1
  | 0, x, h => by rw [enc_lt (by simpa using h)]; simp
  | k + 1, x, h => by
    by_cases hx : x < 128
    · rw [enc_lt hx]; simp
    · rw [enc_ge (by omega)]
      have : x / 128 < 128 ^ (k + 1) := by rw [pow128] at h; omega
      have := enc_len k _ this
      simp only [List.length_cons]
      omega

theorem enc_pos (x : Nat) : 1 ≤ (enc x).length := by
  by_cases hx : x < 128
  · rw [enc_lt hx]; simp
  · rw [enc_ge (by omega)]; simp

theorem enc_le10 {x : Nat} (h : x < 18446744073709551616) : (enc x).length ≤ 10 := enc_len 9 x (Nat.lt_of_lt_of_le h (by decide))

theorem enc_byteF : ∀ (n x : Nat), x ≤ n → ∀ c ∈ encF n x, 0 ≤ c ∧ c ≤ 255
  | 0, x, h, c, hc => by
    simp only [encF, List.mem_singleton] at hc
    omega
  | n + 1, x, h, c, hc => by
    simp only [encF] at hc
    split at hc
    · simp only [List.mem_singleton] at hc; omega
    · simp only [List.mem_cons] at hc
      rcases hc with rfl | hc
      · omega
      · exact enc_byteF n (x / 128) (by omega) c hc
theorem enc_byte (x : Nat) : ∀ c ∈ enc x, 0 ≤ c ∧ c ≤ 255 := enc_byteF x x (Nat.le_refl _)

/-- May c be the last group, at the place k? -/
def rightB (c : Int) (k : Nat) : Bool := !(decide (0 < k) && c == 0) && (decide (k < 9) || decide (c ≤ 1))

/-- The number with which bytes begin: X is what k groups have told so far. -/
def dec : Nat → Nat → List Int → Nat × Nat × Int
  | _, _, [] => (0, 0, 10)
  | X, k, c :: r => if k = 10 then (0, 0, 10) else if c < 128 then (if rightB c k = true then (X + c.toNat * 128 ^ k, k + 1, 0) else (0, 0, 10)) else dec (X + (c.toNat - 128) * 128 ^ k) (k + 1) r

theorem pow_le9 {k : Nat} (h : 128 ^ k < 18446744073709551616) : k ≤ 9 := by
  rcases Nat.lt_or_ge 9 k with h9 | h9
  · have : 128 ^ 10 ≤ 128 ^ k := Nat.pow_le_pow_right (by decide) h9
    have : (128 : Nat) ^ 10 = 1180591620717411303424 := by decide
    omega
  · exact h9

theorem dec_encF : ∀ (n y X k : Nat) (r : List Int), y ≤ n → k ≤ 9 → X + y * 128 ^ k < 18446744073709551616 → (y ≠ 0 ∨ k = 0) →
    dec X k (encF n y ++ r) = (X + y * 128 ^ k, k + (encF n y).length, 0)
  | 0, y, X, k, r, hn, hk, hb, h0 => by
    have : y = 0 := by omega
    subst this
    have hk0 : k = 0 := by omega
    subst hk0
    simp [encF, dec, rightB]
  | n + 1, y, X, k, r, hn, hk, hb, h0 => by
    simp only [encF]
    by_cases hy : y < 128
    · rw [if_pos hy]
      have hright : rightB (y : Int) k = true := by
        unfold rightB
        have h9 : k < 9 ∨ (y : Int) ≤ 1 := by
          by_cases hk9 : k < 9
          · exact .inl hk9
          · have : k = 9 := by omega
            subst this
            have : (128 : Nat) ^ 9 = 9223372036854775808 := by decide
            rw [this] at hb
            right
            omega
        have h1 : (decide (0 < k) && (y : Int) == 0) = false := by
          rcases h0 with h0 | h0
          · have : ((y : Int) == 0) = false := beq_eq_false_iff_ne.2 (by omega)
            simp [this]
          · simp [h0]
        rw [h1]
        rcases h9 with h9 | h9 <;> simp [h9]
      have hc : ((y : Int) < 128) := by omega
      simp only [List.cons_append, List.nil_append, dec]
      rw [if_neg (by omega), if_pos hc, if_pos hright]
      simp
    · rw [if_neg hy]
      have hp := pow_pos128 k
      have hge : 128 * 128 ^ k ≤ y * 128 ^ k := Nat.mul_le_mul_right _ (by omega)
      have hk1 : k + 1 ≤ 9 := pow_le9 (k := k + 1) (by rw [pow128]; omega)
      have e1 : y = 128 * (y / 128) + y % 128 := by omega
      have e2 : y * 128 ^ k = (y % 128) * 128 ^ k + (y / 128) * 128 ^ (k + 1) := by
        rw [pow128, ← Nat.mul_assoc, ← Nat.add_mul]
        congr 1
        omega
      have hc : ¬ (((y % 128 + 128 : Nat) : Int) < 128) := by omega
      simp only [List.cons_append, dec]
      rw [if_neg (by omega), if_neg hc]
      have e3 : (((y % 128 + 128 : Nat) : Int)).toNat - 128 = y % 128 := by omega
      rw [e3, dec_encF n (y / 128) (X + y % 128 * 128 ^ k) (k + 1) r (by omega) hk1 (by omega) (by omega)]
      simp only [List.length_cons]
      rw [e2]
      refine Prod.ext (by simp only; omega) (Prod.ext (by simp only; omega) rfl)

theorem dec_enc {x : Nat} (h : x < 18446744073709551616) (r : List Int) : dec 0 0 (enc x ++ r) = (x, (enc x).length, 0) := by
  have := dec_encF x x 0 0 r (Nat.le_refl _) (by omega) (by simpa using h) (.inr rfl)
  simpa [enc] using this

/-- k groups of X, each with its highest bit. -/
def contB : Nat → Nat → List Int
  | 0, _ => []
  | k + 1, X => ((X % 128 + 128 : Nat) : Int) :: contB k (X / 128)

theorem contB_len : ∀ k X, (contB k X).length = k
  | 0, _ => rfl
  | k + 1, X => by simp [contB, contB_len k]

theorem contB_snoc : ∀ (k X d : Nat), X < 128 ^ k → d < 128 → contB (k + 1) (X + d * 128 ^ k) = contB k X ++ [((d + 128 : Nat) : Int)]
  | 0, X, d, hX, hd => by
    have : X = 0 := by simpa using hX
    subst this
    simp [contB]
    omega
  | k + 1, X, d, hX, hd => by
    show (((X + d * 128 ^ (k + 1)) % 128 + 128 : Nat) : Int) :: contB (k + 1) ((X + d * 128 ^ (k + 1)) / 128) = (((X % 128 + 128 : Nat) : Int) :: contB k (X / 128)) ++ [((d + 128 : Nat) : Int)]
    rw [pow128] at hX ⊢
    have e1 : (X + d * (128 * 128 ^ k)) % 128 = X % 128 := by
      rw [Nat.mul_left_comm]
      omega
    have e2 : (X + d * (128 * 128 ^ k)) / 128 = X / 128 + d * 128 ^ k := by
      rw [Nat.mul_left_comm]
      omega
    rw [e1, e2, contB_snoc k (X / 128) d (by omega) hd]
    rfl

theorem enc_last : ∀ (k X c : Nat), X < 128 ^ k → c < 128 → (0 < c ∨ k = 0) → enc (X + c * 128 ^ k) = contB k X ++ [(c : Int)]
  | 0, X, c, hX, hc, _ => by
    have : X = 0 := by simpa using hX
    subst this
    rw [enc_lt (by simpa using hc)]
    simp [contB]
  | k + 1, X, c, hX, hc, h0 => by
    have hc0 : 0 < c := by omega
    have hp := pow_pos128 k
    have hge : 128 ^ k ≤ c * 128 ^ k := by
      have := Nat.mul_le_mul_right (128 ^ k) hc0
      simpa using this
    rw [contB]
    rw [pow128] at hX ⊢
    have em : c * (128 * 128 ^ k) = 128 * (c * 128 ^ k) := Nat.mul_left_comm _ _ _
    rw [em]
    rw [enc_ge (by omega)]
    have e1 : (X + 128 * (c * 128 ^ k)) % 128 = X % 128 := by omega
    have e2 : (X + 128 * (c * 128 ^ k)) / 128 = X / 128 + c * 128 ^ k := by omega
    rw [e1, e2, enc_last k (X / 128) c (by omega) hc (.inl hc0)]
    rfl

/-- Uint(x) of what ten groups at most have told is those groups just where the last one may be. -/
theorem enc_iff {k X c : Nat} (hk : k ≤ 9) (hX : X < 128 ^ k) (hc : c < 128) : enc ((X + c * 128 ^ k) % 18446744073709551616) = contB k X ++ [(c : Int)] ↔ rightB (c : Int) k = true := by
  have hp9 : (128 : Nat) ^ 9 = 9223372036854775808 := by decide
  by_cases hc0 : 0 < c ∨ k = 0
  · by_cases hsmall : k < 9 ∨ c ≤ 1
    · have hlt : X + c * 128 ^ k < 18446744073709551616 := by
        rcases hsmall with h | h
        · have h8 : (128 : Nat) ^ (k + 1) ≤ 128 ^ 9 := Nat.pow_le_pow_right (by decide) h
          rw [pow128] at h8
          have : c * 128 ^ k ≤ 127 * 128 ^ k := Nat.mul_le_mul_right _ (by omega)
          omega
        · have h8 : (128 : Nat) ^ k ≤ 128 ^ 9 := Nat.pow_le_pow_right (by decide) hk
          have : c * 128 ^ k ≤ 1 * 128 ^ k := Nat.mul_le_mul_right _ h
          omega
      rw [Nat.mod_eq_of_lt hlt]
      refine ⟨fun _ => ?_, fun _ => enc_last k X c hX hc hc0⟩
      unfold rightB
      have h1 : (decide (0 < k) && (c : Int) == 0) = false := by
        rcases hc0 with h | h
        · have : ((c : Int) == 0) = false := beq_eq_false_iff_ne.2 (by omega)
          simp [this]
        · simp [h]
      rw [h1]
      rcases hsmall with h | h
      · simp [h]
      · have : (c : Int) ≤ 1 := by omega
        simp [this]
    · have hk9 : k = 9 := by omega
      subst hk9
      have hright : rightB (c : Int) 9 = false := by
        unfold rightB
        have : ¬ (c : Int) ≤ 1 := by omega
        simp [this]
      rw [hright]
      refine ⟨fun h => ?_, fun h => by cases h⟩
      exfalso
      have hb : c % 2 = 0 ∨ c % 2 = 1 := by omega
      rcases hb with hb | hb
      · have e : (X + c * 128 ^ 9) % 18446744073709551616 = X := by rw [hp9] at hX ⊢; omega
        rw [e] at h
        have hl := congrArg List.length h
        have := enc_len 8 X (by rw [hp9] at hX; exact Nat.lt_of_lt_of_le hX (by decide))
        simp [contB_len] at hl
        omega
      · have e : (X + c * 128 ^ 9) % 18446744073709551616 = X + 1 * 128 ^ 9 := by rw [hp9] at hX ⊢; omega
        rw [e, enc_last 9 X 1 hX (by decide) (.inl (by decide))] at h
        have := List.append_cancel_left h
        simp at this
        omega
  · have hc' : c = 0 := by omega
    subst hc'
    have hk0 : 0 < k := by omega
    have hright : rightB ((0 : Nat) : Int) k = false := by simp [rightB, hk0]
    rw [hright]
    refine ⟨fun h => ?_, fun h => by cases h⟩
    exfalso
    have hlt : X < 18446744073709551616 := Nat.lt_of_lt_of_le hX (Nat.le_trans (Nat.pow_le_pow_right (by decide) hk) (by decide))
    rw [Nat.zero_mul, Nat.add_zero, Nat.mod_eq_of_lt hlt] at h
    have hl := congrArg List.length h
    obtain ⟨j, rfl⟩ : ∃ j, k = j + 1 := ⟨k - 1, by omega⟩
    have := enc_len j X hX
    simp [contB_len] at hl
    omega

/-- What was read is written just so. -/
theorem dec_right : ∀ (r : List Int) (X k : Nat) (pre : List Int) (x n : Nat), k ≤ 10 → X < 128 ^ k → pre = contB k X → (∀ c ∈ r, 0 ≤ c ∧ c ≤ 255) → dec X k r = (x, n, 0) →
    enc x = (pre ++ r).take n ∧ x < 18446744073709551616 ∧ n ≤ (pre ++ r).length ∧ k + 1 ≤ n
  | [], X, k, pre, x, n, hk, hX, hpre, hr, h => by simp [dec] at h
  | c :: r, X, k, pre, x, n, hk, hX, hpre, hr, h => by
    have hcb := hr c (by simp)
    simp only [dec] at h
    by_cases h10 : k = 10
    · rw [if_pos h10] at h; simp at h
    · rw [if_neg h10] at h
      obtain ⟨d, rfl⟩ : ∃ d : Nat, c = (d : Int) := ⟨c.toNat, by omega⟩
      by_cases hc : (d : Int) < 128
      · rw [if_pos hc] at h
        by_cases hright : rightB (d : Int) k = true
        · rw [if_pos hright] at h
          simp only [Prod.mk.injEq, Int.toNat_natCast, and_true] at h
          obtain ⟨rfl, rfl⟩ := h
          have hlen := contB_len k X
          have hiff := (enc_iff (k := k) (X := X) (c := d) (by omega) hX (by omega)).2 hright
          have hlt : X + d * 128 ^ k < 18446744073709551616 := by
            have hp9 : (128 : Nat) ^ 9 = 9223372036854775808 := by decide
            have h9 : k < 9 ∨ d ≤ 1 := by
              simp only [rightB, Bool.and_eq_true, Bool.or_eq_true, decide_eq_true_eq] at hright
              omega
            rcases h9 with h | h
            · have h8 : (128 : Nat) ^ (k + 1) ≤ 128 ^ 9 := Nat.pow_le_pow_right (by decide) h
              rw [pow128] at h8
              have : d * 128 ^ k ≤ 127 * 128 ^ k := Nat.mul_le_mul_right _ (by omega)
              omega
            · have h8 : (128 : Nat) ^ k ≤ 128 ^ 9 := Nat.pow_le_pow_right (by decide) (by omega)
              have : d * 128 ^ k ≤ 1 * 128 ^ k := Nat.mul_le_mul_right _ h
              omega
          rw [Nat.mod_eq_of_lt hlt] at hiff
          refine ⟨?_, hlt, by simp [hpre, hlen], Nat.le_refl _⟩
          rw [hiff, hpre, List.take_append, hlen, Nat.add_sub_cancel_left, List.take_of_length_le (by omega)]
          simp
        · rw [if_neg hright] at h; simp at h
      · rw [if_neg hc] at h
        simp only [Int.toNat_natCast] at h
        have hd : d - 128 < 128 := by omega
        have hX' : X + (d - 128) * 128 ^ k < 128 ^ (k + 1) := by
          have : (d - 128) * 128 ^ k ≤ 127 * 128 ^ k := Nat.mul_le_mul_right _ (by omega)
          rw [pow128]
          omega
        have hpre' : pre ++ [(d : Int)] = contB (k + 1) (X + (d - 128) * 128 ^ k) := by
          rw [contB_snoc k X (d - 128) hX hd, hpre]
          have : d - 128 + 128 = d := by omega
          rw [this]
        have := dec_right r _ (k + 1) _ x n (by omega) hX' hpre' (fun c hc => hr c (by simp [hc])) h
        rw [List.append_assoc, List.singleton_append] at this
        exact ⟨this.1, this.2.1, this.2.2.1, by omega⟩

theorem dec_back {bs : List Int} {x n : Nat} (hb : ∀ c ∈ bs, 0 ≤ c ∧ c ≤ 255) (h : dec 0 0 bs = (x, n, 0)) : enc x = bs.take n ∧ x < 18446744073709551616 ∧ n ≤ bs.length ∧ 1 ≤ n := by
  have := dec_right bs 0 0 [] x n (by omega) (by simp) rfl hb h
  simpa using this

/-- Either nothing was read, or all is well. -/
theorem dec_cases : ∀ (r : List Int) (X k : Nat), dec X k r = (0, 0, 10) ∨ ∃ x n, dec X k r = (x, n, 0)
  | [], X, k => .inl rfl
  | c :: r, X, k => by
    simp only [dec]
    split
    · exact .inl rfl
    · split
      · split
        · exact .inr ⟨_, _, rfl⟩
        · exact .inl rfl
      · exact dec_cases r _ _
end Go.Proofs.Ytjfohnkfcfifeaa
