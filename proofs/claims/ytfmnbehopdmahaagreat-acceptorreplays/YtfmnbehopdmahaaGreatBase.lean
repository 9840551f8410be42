/-
  Plain mathematics of the numbers' bytes (no program): the one form 'enc' of a number, the reader 'dec' over any bytes, and that they fit. Proved for all natural numbers and lists; nothing of the Go text is named here.
-/
import Derived.WalkKit
import Derived.WalkSpells
import Derived.Maps.AppendAt
import Derived.Lib.AppendStr
import Derived.Deep.Draws
namespace Go.Proofs.YtfmnbehopdmahaaGreat
def encF : Nat → Nat → List Int
  | 0, x => [(x : Int)]
  | n + 1, x => if x < 128 then [(x : Int)] else ((x % 128 + 128 : Nat) : Int) :: encF n (x / 128)
def enc (x : Nat) : List Int := encF x x

theorem encF_same : ∀ n m x, x ≤ n → x ≤ m → encF n x = encF m x
  | 0, 0, _, _, _ => rfl
  | 0, m + 1, x, h, _ => by
    have : x = 0 := by omega
    subst this
    simp [encF]
  | n + 1, 0, x, _, h => by
    have : x = 0 := by omega
    subst this
    simp [encF]
  | n + 1, m + 1, x, h1, h2 => by
    simp only [encF]
    split
    · rfl
    · rw [encF_same n m (x / 128) (by omega) (by omega)]

theorem enc_lt {x : Nat} (h : x < 128) : enc x = [(x : Int)] := by
  unfold enc
  cases x with
  | zero => rfl
  | succ n => simp only [encF]; rw [if_pos h]

theorem enc_ge {x : Nat} (h : 128 ≤ x) : enc x = ((x % 128 + 128 : Nat) : Int) :: enc (x / 128) := by
  unfold enc
  cases x with
  | zero => omega
  | succ n =>
    simp only [encF]
    rw [if_neg (by omega), encF_same n ((n + 1) / 128) _ (by omega) (by omega)]

theorem pow128 (k : Nat) : 128 ^ (k + 1) = 128 * 128 ^ k := by rw [Nat.pow_succ, Nat.mul_comm]

theorem pow_pos128 (k : Nat) : 0 < 128 ^ k := Nat.pow_pos (by decide)

theorem enc_len : ∀ (k x : Nat), x < 128 ^ (k + 1) → (enc x).length ≤ k + 1
  | 0, x, h => by rw [enc_lt (by simpa using h)]; simp
  | k + 1, x, h => by
    by_cases hx : x < 128
    · rw [enc_lt hx]; simp
    · rw [enc_ge (by omega)]
      have : x / 128 < 128 ^ (k + 1) := by rw [pow128] at h; omega
      have := enc_len k _ this
      simp only [List.length_cons]
      omega

theorem enc_pos (x : Nat) : 1 ≤ (enc x).length := by
  by_cases hx : x < 128
  · rw [enc_lt hx]; simp
  · rw [enc_ge (by omega)]; simp

theorem enc_le10 {x : Nat} (h : x < 18446744073709551616) : (enc x).length ≤ 10 := enc_len 9 x (Nat.lt_of_lt_of_le h (by decide))

theorem enc_byteF : ∀ (n x : Nat), x ≤ n → ∀ c ∈ encF n x, 0 ≤ c ∧ c ≤ 255
  | 0, x, h, c, hc => by
    simp only [encF, List.mem_singleton] at hc
    omega
  | n + 1, x, h, c, hc => by
    simp only [encF] at hc
    split at hc
    · simp only [List.mem_singleton] at hc; omega
    · simp only [List.mem_cons] at hc
      rcases hc with rfl | hc
      · omega
      · exact enc_byteF n (x / 128) (by omega) c hc
theorem enc_byte (x : Nat) : ∀ c ∈ enc x, 0 ≤ c ∧ c ≤ 255 := enc_byteF x x (Nat.le_refl _)

/-- May c be the last group, at the place k? -/
def rightB (c : Int) (k : Nat) : Bool := !(decide (0 < k) && c == 0) && (decide (k < 9) || decide (c ≤ 1))

/-- The number with which bytes begin: X is what k groups have told so far. -/
def dec : Nat → Nat → List Int → Nat × Nat × Int
  | _, _, [] => (0, 0, 10)
  | X, k, c :: r => if k = 10 then (0, 0, 10) else if c < 128 then (if rightB c k = true then (X + c.toNat * 128 ^ k, k + 1, 0) else (0, 0, 10)) else dec (X + (c.toNat - 128) * 128 ^ k) (k + 1) r

theorem pow_le9 {k : Nat} (h : 128 ^ k < 18446744073709551616) : k ≤ 9 := by
  rcases Nat.lt_or_ge 9 k with h9 | h9
  · have : 128 ^ 10 ≤ 128 ^ k := Nat.pow_le_pow_right (by decide) h9
    have : (128 : Nat) ^ 10 = 1180591620717411303424 := by decide
    omega
  · exact h9

theorem dec_encF : ∀ (n y X k : Nat) (r : List Int), y ≤ n → k ≤ 9 → X + y * 128 ^ k < 18446744073709551616 → (y ≠ 0 ∨ k = 0) →
    dec X k (encF n y ++ r) = (X + y * 128 ^ k, k + (encF n y).length, 0)
  | 0, y, X, k, r, hn, hk, hb, h0 => by
    have : y = 0 := by omega
    subst this
    have hk0 : k = 0 := by omega
    subst hk0
    simp [encF, dec, rightB]
  | n + 1, y, X, k, r, hn, hk, hb, h0 => by
    simp only [encF]
    by_cases hy : y < 128
    · rw [if_pos hy]
      have hright : rightB (y : Int) k = true := by
        unfold rightB
        have h9 : k < 9 ∨ (y : Int) ≤ 1 := by
          by_cases hk9 : k < 9
          · exact .inl hk9
          · have : k = 9 := by omega
            subst this
            have : (128 : Nat) ^ 9 = 9223372036854775808 := by decide
            rw [this] at hb
            right
            omega
        have h1 : (decide (0 < k) && (y : Int) == 0) = false := by
          rcases h0 with h0 | h0
          · have : ((y : Int) == 0) = false := beq_eq_false_iff_ne.2 (by omega)
            simp [this]
          · simp [h0]
        rw [h1]
        rcases h9 with h9 | h9 <;> simp [h9]
      have hc : ((y : Int) < 128) := by omega
      simp only [List.cons_append, List.nil_append, dec]
      rw [if_neg (by omega), if_pos hc, if_pos hright]
      simp
    · rw [if_neg hy]
      have hp := pow_pos128 k
      have hge : 128 * 128 ^ k ≤ y * 128 ^ k := Nat.mul_le_mul_right _ (by omega)
      have hk1 : k + 1 ≤ 9 := pow_le9 (k := k + 1) (by rw [pow128]; omega)
      have e1 : y = 128 * (y / 128) + y % 128 := by omega
      have e2 : y * 128 ^ k = (y % 128) * 128 ^ k + (y / 128) * 128 ^ (k + 1) := by
        rw [pow128, ← Nat.mul_assoc, ← Nat.add_mul]
        congr 1
        omega
      have hc : ¬ (((y % 128 + 128 : Nat) : Int) < 128) := by omega
      simp only [List.cons_append, dec]
      rw [if_neg (by omega), if_neg hc]
      have e3 : (((y % 128 + 128 : Nat) : Int)).toNat - 128 = y % 128 := by omega
      rw [e3, dec_encF n (y / 128) (X + y % 128 * 128 ^ k) (k + 1) r (by omega) hk1 (by omega) (by omega)]
      simp only [List.length_cons]
      rw [e2]
      refine Prod.ext (by simp only; omega) (Prod.ext (by simp only; omega) rfl)

theorem dec_enc {x : Nat} (h : x < 18446744073709551616) (r : List Int) : dec 0 0 (enc x ++ r) = (x, (enc x).length, 0) := by
  have := dec_encF x x 0 0 r (Nat.le_refl _) (by omega) (by simpa using h) (.inr rfl)
  simpa [enc] using this

/-- k groups of X, each with its highest bit. -/
def contB : Nat → Nat → List Int
  | 0, _ => []
  | k + 1, X => ((X % 128 + 128 : Nat) : Int) :: contB k (X / 128)

theorem contB_len : ∀ k X, (contB k X).length = k
  | 0, _ => rfl
  | k + 1, X => by simp [contB, contB_len k]

theorem contB_snoc : ∀ (k X d : Nat), X < 128 ^ k → d < 128 → contB (k + 1) (X + d * 128 ^ k) = contB k X ++ [((d + 128 : Nat) : Int)]
  | 0, X, d, hX, hd => by
    have : X = 0 := by simpa using hX
    subst this
    simp [contB]
    omega
  | k + 1, X, d, hX, hd => by
    show (((X + d * 128 ^ (k + 1)) % 128 + 128 : Nat) : Int) :: contB (k + 1) ((X + d * 128 ^ (k + 1)) / 128) = (((X % 128 + 128 : Nat) : Int) :: contB k (X / 128)) ++ [((d + 128 : Nat) : Int)]
    rw [pow128] at hX ⊢
    have e1 : (X + d * (128 * 128 ^ k)) % 128 = X % 128 := by
      rw [Nat.mul_left_comm]
      omega
    have e2 : (X + d * (128 * 128 ^ k)) / 128 = X / 128 + d * 128 ^ k := by
      rw [Nat.mul_left_comm]
      omega
    rw [e1, e2, contB_snoc k (X / 128) d (by omega) hd]
    rfl

theorem enc_last : ∀ (k X c : Nat), X < 128 ^ k → c < 128 → (0 < c ∨ k = 0) → enc (X + c * 128 ^ k) = contB k X ++ [(c : Int)]
  | 0, X, c, hX, hc, _ => by
    have : X = 0 := by simpa using hX
    subst this
    rw [enc_lt (by simpa using hc)]
    simp [contB]
  | k + 1, X, c, hX, hc, h0 => by
    have hc0 : 0 < c := by omega
    have hp := pow_pos128 k
    have hge : 128 ^ k ≤ c * 128 ^ k := by
      have := Nat.mul_le_mul_right (128 ^ k) hc0
      simpa using this
    rw [contB]
    rw [pow128] at hX ⊢
    have em : c * (128 * 128 ^ k) = 128 * (c * 128 ^ k) := Nat.mul_left_comm _ _ _
    rw [em]
    rw [enc_ge (by omega)]
    have e1 : (X + 128 * (c * 128 ^ k)) % 128 = X % 128 := by omega
    have e2 : (X + 128 * (c * 128 ^ k)) / 128 = X / 128 + c * 128 ^ k := by omega
    rw [e1, e2, enc_last k (X / 128) c (by omega) hc (.inl hc0)]
    rfl

/-- Uint(x) of what ten groups at most have told is those groups just where the last one may be. -/
theorem enc_iff {k X c : Nat} (hk : k ≤ 9) (hX : X < 128 ^ k) (hc : c < 128) : enc ((X + c * 128 ^ k) % 18446744073709551616) = contB k X ++ [(c : Int)] ↔ rightB (c : Int) k = true := by
  have hp9 : (128 : Nat) ^ 9 = 9223372036854775808 := by decide
  by_cases hc0 : 0 < c ∨ k = 0
  · by_cases hsmall : k < 9 ∨ c ≤ 1
    · have hlt : X + c * 128 ^ k < 18446744073709551616 := by
        rcases hsmall with h | h
        · have h8 : (128 : Nat) ^ (k + 1) ≤ 128 ^ 9 := Nat.pow_le_pow_right (by decide) h
          rw [pow128] at h8
          have : c * 128 ^ k ≤ 127 * 128 ^ k := Nat.mul_le_mul_right _ (by omega)
          omega
        · have h8 : (128 : Nat) ^ k ≤ 128 ^ 9 := Nat.pow_le_pow_right (by decide) hk
          have : c * 128 ^ k ≤ 1 * 128 ^ k := Nat.mul_le_mul_right _ h
          omega
      rw [Nat.mod_eq_of_lt hlt]
      refine ⟨fun _ => ?_, fun _ => enc_last k X c hX hc hc0⟩
      unfold rightB
      have h1 : (decide (0 < k) && (c : Int) == 0) = false := by
        rcases hc0 with h | h
        · have : ((c : Int) == 0) = false := beq_eq_false_iff_ne.2 (by omega)
          simp [this]
        · simp [h]
      rw [h1]
      rcases hsmall with h | h
      · simp [h]
      · have : (c : Int) ≤ 1 := by omega
        simp [this]
    · have hk9 : k = 9 := by omega
      subst hk9
      have hright : rightB (c : Int) 9 = false := by
        unfold rightB
        have : ¬ (c : Int) ≤ 1 := by omega
        simp [this]
      rw [hright]
      refine ⟨fun h => ?_, fun h => by cases h⟩
      exfalso
      have hb : c % 2 = 0 ∨ c % 2 = 1 := by omega
      rcases hb with hb | hb
      · have e : (X + c * 128 ^ 9) % 18446744073709551616 = X := by rw [hp9] at hX ⊢; omega
        rw [e] at h
        have hl := congrArg List.length h
        have := enc_len 8 X (by rw [hp9] at hX; exact Nat.lt_of_lt_of_le hX (by decide))
        simp [contB_len] at hl
        omega
      · have e : (X + c * 128 ^ 9) % 18446744073709551616 = X + 1 * 128 ^ 9 := by rw [hp9] at hX ⊢; omega
        rw [e, enc_last 9 X 1 hX (by decide) (.inl (by decide))] at h
        have := List.append_cancel_left h
        simp at this
        omega
  · have hc' : c = 0 := by omega
    subst hc'
    have hk0 : 0 < k := by omega
    have hright : rightB ((0 : Nat) : Int) k = false := by simp [rightB, hk0]
    rw [hright]
    refine ⟨fun h => ?_, fun h => by cases h⟩
    exfalso
    have hlt : X < 18446744073709551616 := Nat.lt_of_lt_of_le hX (Nat.le_trans (Nat.pow_le_pow_right (by decide) hk) (by decide))
    rw [Nat.zero_mul, Nat.add_zero, Nat.mod_eq_of_lt hlt] at h
    have hl := congrArg List.length h
    obtain ⟨j, rfl⟩ : ∃ j, k = j + 1 := ⟨k - 1, by omega⟩
    have := enc_len j X hX
    simp [contB_len] at hl
    omega

/-- What was read is written just so. -/
theorem dec_right : ∀ (r : List Int) (X k : Nat) (pre : List Int) (x n : Nat), k ≤ 10 → X < 128 ^ k → pre = contB k X → (∀ c ∈ r, 0 ≤ c ∧ c ≤ 255) → dec X k r = (x, n, 0) →
    enc x = (pre ++ r).take n ∧ x < 18446744073709551616 ∧ n ≤ (pre ++ r).length ∧ k + 1 ≤ n
  | [], X, k, pre, x, n, hk, hX, hpre, hr, h => by simp [dec] at h
  | c :: r, X, k, pre, x, n, hk, hX, hpre, hr, h => by
    have hcb := hr c (by simp)
    simp only [dec] at h
    by_cases h10 : k = 10
    · rw [if_pos h10] at h; simp at h
    · rw [if_neg h10] at h
      obtain ⟨d, rfl⟩ : ∃ d : Nat, c = (d : Int) := ⟨c.toNat, by omega⟩
      by_cases hc : (d : Int) < 128
      · rw [if_pos hc] at h
        by_cases hright : rightB (d : Int) k = true
        · rw [if_pos hright] at h
          simp only [Prod.mk.injEq, Int.toNat_natCast, and_true] at h
          obtain ⟨rfl, rfl⟩ := h
          have hlen := contB_len k X
          have hiff := (enc_iff (k := k) (X := X) (c := d) (by omega) hX (by omega)).2 hright
          have hlt : X + d * 128 ^ k < 18446744073709551616 := by
            have hp9 : (128 : Nat) ^ 9 = 9223372036854775808 := by decide
            have h9 : k < 9 ∨ d ≤ 1 := by
              simp only [rightB, Bool.and_eq_true, Bool.or_eq_true, decide_eq_true_eq] at hright
              omega
            rcases h9 with h | h
            · have h8 : (128 : Nat) ^ (k + 1) ≤ 128 ^ 9 := Nat.pow_le_pow_right (by decide) h
              rw [pow128] at h8
              have : d * 128 ^ k ≤ 127 * 128 ^ k := Nat.mul_le_mul_right _ (by omega)
              omega
            · have h8 : (128 : Nat) ^ k ≤ 128 ^ 9 := Nat.pow_le_pow_right (by decide) (by omega)
              have : d * 128 ^ k ≤ 1 * 128 ^ k := Nat.mul_le_mul_right _ h
              omega
          rw [Nat.mod_eq_of_lt hlt] at hiff
          refine ⟨?_, hlt, by simp [hpre, hlen], Nat.le_refl _⟩
          rw [hiff, hpre, List.take_append, hlen, Nat.add_sub_cancel_left, List.take_of_length_le (by omega)]
          simp
        · rw [if_neg hright] at h; simp at h
      · rw [if_neg hc] at h
        simp only [Int.toNat_natCast] at h
        have hd : d - 128 < 128 := by omega
        have hX' : X + (d - 128) * 128 ^ k < 128 ^ (k + 1) := by
          have : (d - 128) * 128 ^ k ≤ 127 * 128 ^ k := Nat.mul_le_mul_right _ (by omega)
          rw [pow128]
          omega
        have hpre' : pre ++ [(d : Int)] = contB (k + 1) (X + (d - 128) * 128 ^ k) := by
          rw [contB_snoc k X (d - 128) hX hd, hpre]
          have : d - 128 + 128 = d := by omega
          rw [this]
        have := dec_right r _ (k + 1) _ x n (by omega) hX' hpre' (fun c hc => hr c (by simp [hc])) h
        rw [List.append_assoc, List.singleton_append] at this
        exact ⟨this.1, this.2.1, this.2.2.1, by omega⟩

theorem dec_back {bs : List Int} {x n : Nat} (hb : ∀ c ∈ bs, 0 ≤ c ∧ c ≤ 255) (h : dec 0 0 bs = (x, n, 0)) : enc x = bs.take n ∧ x < 18446744073709551616 ∧ n ≤ bs.length ∧ 1 ≤ n := by
  have := dec_right bs 0 0 [] x n (by omega) (by simp) rfl hb h
  simpa using this

/-- Either nothing was read, or all is well. -/
theorem dec_cases : ∀ (r : List Int) (X k : Nat), dec X k r = (0, 0, 10) ∨ ∃ x n, dec X k r = (x, n, 0)
  | [], X, k => .inl rfl
  | c :: r, X, k => by
    simp only [dec]
    split
    · exact .inl rfl
    · split
      · split
        · exact .inr ⟨_, _, rfl⟩
        · exact .inl rfl
      · exact dec_cases r _ _
end Go.Proofs.YtfmnbehopdmahaaGreat
/-
  Words and small laws on worlds for the walks of this seat: what a slice of bytes holds ('Held'), what a call that appends leaves ('Grew'), and the bit operations of the Go text as plain arithmetic. No function of the program is named here.
-/
namespace Go.Proofs.YtfmnbehopdmahaaGreat
open Go.RowKit

theorem hid {p : Prop} (h : p) : Hid p := h
/-- The cells of bytes. -/
def nums (bs : List Int) : List Value := bs.map (Value.int .u8)
theorem nums_len (bs : List Int) : (nums bs).length = bs.length := by simp [nums]
theorem nums_append (a b : List Int) : nums (a ++ b) = nums a ++ nums b := by simp [nums]
theorem nums_one (bs : List Int) : ∀ u ∈ nums bs, u.oneCell' = true := by
  intro u hu
  obtain ⟨_, _, rfl⟩ := List.mem_map.1 hu
  rfl
theorem one_int (k : IntKind) (c : Int) : ∀ u ∈ [Value.int k c], u.oneCell' = true := by
  intro u hu
  simp at hu
  subst hu
  rfl
/-- Numbers that are bytes. -/
def AllB (bs : List Int) : Prop := ∀ c ∈ bs, 0 ≤ c ∧ c ≤ 255
theorem AllB.append {a b : List Int} (ha : AllB a) (hb : AllB b) : AllB (a ++ b) := by
  intro c hc
  rcases List.mem_append.1 hc with h | h
  · exact ha c h
  · exact hb c h
theorem AllB.take {a : List Int} (ha : AllB a) (n : Nat) : AllB (a.take n) := fun c hc => ha c (List.mem_of_mem_take hc)
theorem AllB.drop {a : List Int} (ha : AllB a) (n : Nat) : AllB (a.drop n) := fun c hc => ha c (List.mem_of_mem_drop hc)
theorem AllB.getD {a : List Int} (ha : AllB a) (j : Nat) : 0 ≤ a[j]?.getD 0 ∧ a[j]?.getD 0 ≤ 255 := by
  by_cases h : j < a.length
  · rw [List.getElem?_eq_getElem h]
    exact ha _ (List.getElem_mem h)
  · rw [List.getElem?_eq_none (by omega)]
    simp

/-- A slice of bytes, at whatever address, holds 'bs'. -/
structure Held (w : World) (ao : Option Addr) (len cap : Nat) (bs : List Int) : Prop where
  hlen : bs.length = len
  hcap : len ≤ cap
  hmax : cap ≤ maxLen
  nil : ao = none → cap = 0
  byte : AllB bs
  cell : ∀ ad, ao = some ad → ∀ j, j < len → w.cell? (ad.add j) = some (.int .u8 (bs.getD j 0))
  old : ∀ ad, ao = some ad → 0 < len → ad.block < w.heap.size

/-- A slice that is not empty lies at a plain address. -/
theorem Held.at {w : World} {ao : Option Addr} {len cap : Nat} {bs : List Int} (h : Held w ao len cap bs) (hp : 0 < len) :
    ∃ b off, ao = some ⟨b, off, none⟩ ∧ b < w.heap.size ∧ ∀ j, j < len → w.cell? ⟨b, off + j, none⟩ = some (.int .u8 (bs.getD j 0)) := by
  cases ao with
  | none => have := h.nil rfl; have := h.hcap; omega
  | some ad =>
    obtain ⟨b, off, spot⟩ := ad
    have hc := h.cell _ rfl 0 hp
    have hspot : spot = none := by simpa [Addr.add] using World.cell?_spot hc
    subst hspot
    refine ⟨b, off, rfl, h.old _ rfl hp, fun j hj => ?_⟩
    have := h.cell _ rfl j hj
    rwa [Addr.add_lit] at this

theorem Held.below {w w' : World} {ao : Option Addr} {len cap : Nat} {bs : List Int} {B : Nat} (h : Held w ao len cap bs) (hb : Below B w w') (hB : w.heap.size ≤ B) : Held w' ao len cap bs := by
  refine ⟨h.hlen, h.hcap, h.hmax, h.nil, h.byte, fun ad ha j hj => ?_, fun ad ha hp => Nat.lt_of_lt_of_le (h.old ad ha hp) hb.size⟩
  have hlt : (ad.add j).block < w.heap.size := World.block_lt_of_cell? w _ (h.cell ad ha j hj)
  rw [hb.cell (p := ad.add j) (by omega)]
  exact h.cell ad ha j hj

theorem Held.news {w : World} {ao : Option Addr} {len cap : Nat} {bs : List Int} (h : Held w ao len cap bs) : ∀ ad, ao = some ad → ∀ j u, (nums bs)[j]? = some u → w.cell? (ad.add j) = some u := by
  intro ad ha j u hu
  have hj : j < bs.length := by
    have := (List.getElem?_eq_some_iff.1 hu).1
    simpa [nums] using this
  rw [h.cell ad ha j (by rw [← h.hlen]; exact hj)]
  simp [nums, List.getElem?_eq_getElem hj] at hu
  subst hu
  simp [List.getD, List.getElem?_eq_getElem hj]

theorem Held.take {w : World} {ao : Option Addr} {len cap n : Nat} {bs : List Int} (h : Held w ao len cap bs) (hn : n ≤ len) : Held w ao n cap (bs.take n) := by
  have hl := h.hlen
  refine ⟨by simp; omega, Nat.le_trans hn h.hcap, h.hmax, h.nil, h.byte.take n, fun ad ha j hj => ?_, fun ad ha hp => h.old ad ha (by omega)⟩
  rw [h.cell ad ha j (by omega)]
  simp [List.getD, List.getElem?_take_of_lt hj]

theorem Held.drawn {w : World} {ao : Option Addr} {len cap : Nat} {bs : List Int} (h : Held w ao len cap bs) (q : Nat) : Held (w.drewN q) ao len cap bs := by
  refine ⟨h.hlen, h.hcap, h.hmax, h.nil, h.byte, fun ad ha j hj => ?_, fun ad ha hp => ?_⟩
  · have := h.cell ad ha j hj
    simpa using this
  · have := h.old ad ha hp
    simpa using this

theorem Held.drew {w : World} {ao : Option Addr} {len cap : Nat} {bs : List Int} (h : Held w ao len cap bs) : Held w.drew ao len cap bs :=
  ⟨h.hlen, h.hcap, h.hmax, h.nil, h.byte, fun ad ha j hj => h.cell ad ha j hj, fun ad ha hp => h.old ad ha hp⟩
theorem drewN_add (w : World) (p q : Nat) : (w.drewN p).drewN q = w.drewN (p + q) := by simp [World.drewN, Nat.add_assoc]
theorem below_dn {B : Nat} {a w : World} (h : Below B a w) (q : Nat) : Below B a (w.drewN q) := ⟨h.os, h.tape, h.output, h.size, h.block⟩
theorem below_from_drew {B : Nat} {a w : World} (h : Below B a.drew w) : Below B a w := ⟨h.os, h.tape, h.output, h.size, h.block⟩

/-- What an owned row holds, read as a slice. -/
theorem held_of_own {w : World} {B e : Nat} {v : Value} {n : Nat} {bs : List Int} (hown : w.ownsRow B e 1 v n (nums bs)) (hb : AllB bs) : ∃ ao cap, v = .slice ao n cap ∧ Held w ao n cap bs := by
  have hn : bs.length = n := by have := hown.1; simpa [nums] using this
  rcases hown.2 with ⟨rfl, rfl⟩ | ⟨g, cap, cur, rfl, hbg, hg, hnc, hcm, hcs, htake⟩
  · exact ⟨none, 0, rfl, hn, Nat.le_refl _, Nat.zero_le _, fun _ => rfl, hb, fun ad h => (by cases h), fun ad h => (by cases h)⟩
  · refine ⟨some ⟨g, 0, none⟩, cap, rfl, hn, hnc, hcm, fun h => (by cases h), hb, fun ad h j hj => ?_, fun ad h _ => ?_⟩
    · obtain rfl := Option.some.inj h
      refine hown.cells (g := g) rfl j _ ?_
      have hj' : j < bs.length := by omega
      simp [nums, List.getD, List.getElem?_eq_getElem hj']
    · obtain rfl := Option.some.inj h
      exact (Array.getElem?_eq_some_iff.1 hg).1

theorem ownsRow_below {w w' : World} {B e size B' : Nat} {v : Value} {n : Nat} {xs : List Value} (h : w.ownsRow B e size v n xs) (hb : Below B' w w') (hB : w.heap.size ≤ B') : w'.ownsRow B e size v n xs := by
  refine ⟨h.1, ?_⟩
  rcases h.2 with hn | ⟨g, cap, cur, rfl, hbg, hg, rest⟩
  · exact .inl hn
  · refine .inr ⟨g, cap, cur, rfl, hbg, ?_, rest⟩
    rw [hb.block g (Nat.lt_of_lt_of_le (Array.getElem?_eq_some_iff.1 hg).1 hB)]
    exact hg

theorem ownsRow_base {w : World} {B B' e size : Nat} {v : Value} {n : Nat} {xs : List Value} (h : w.ownsRow B e size v n xs) (hB : B' ≤ B) : w.ownsRow B' e size v n xs := by
  refine ⟨h.1, ?_⟩
  rcases h.2 with hn | ⟨g, cap, cur, rfl, hbg, rest⟩
  · exact .inl hn
  · exact .inr ⟨g, cap, cur, rfl, Nat.le_trans hB hbg, rest⟩

/-- What appending to v leaves: v's own row may have turned, new blocks may lie behind; what comes out lies in v's row or in a new one. -/
def Grew (w w' : World) (v v' : Value) : Prop := w.grownBy w' v.ownBlock ∧ (v'.ownBlock = v.ownBlock ∨ ∃ k, v'.ownBlock = some k ∧ w.heap.size ≤ k)
theorem Grew.refl (w : World) (v : Value) : Grew w w v v := ⟨World.grownBy.refl _ _, .inl rfl⟩
theorem Grew.trans {a b c : World} {u v x : Value} (h : Grew a b u v) (k : Grew b c v x) : Grew a c u x := by
  refine ⟨⟨k.1.os.trans h.1.os, k.1.tape.trans h.1.tape, k.1.output.trans h.1.output, Nat.le_trans h.1.size k.1.size, fun i hi hne => ?_⟩, ?_⟩
  · rw [k.1.block i (Nat.lt_of_lt_of_le hi h.1.size) ?_, h.1.block i hi hne]
    rcases h.2 with e | ⟨g, e, hg⟩
    · rw [e]; exact hne
    · rw [e]; intro he; cases he; omega
  · rcases k.2 with e | ⟨g, e, hg⟩
    · rw [e]; exact h.2
    · exact .inr ⟨g, e, Nat.le_trans h.1.size hg⟩
theorem Grew.alloc (w : World) (o : Obj) (v : Value) : Grew w (w.alloc o) v v := ⟨World.grownBy_alloc _ _ _, .inl rfl⟩
theorem Grew.of {w w' : World} {v v' : Value} (h : w.grownBy w' v.ownBlock) (hb : v'.ownBlock = v.ownBlock ∨ v'.ownBlock = some w.heap.size) : Grew w w' v v' :=
  ⟨h, by rcases hb with e | e; exact .inl e; exact .inr ⟨_, e, Nat.le_refl _⟩⟩
theorem Grew.below {a w w' : World} {v v' : Value} {B : Nat} (h : Grew w w' v v') (hb : Below B a w) (hB : B ≤ w.heap.size) (hv : ∀ k, v.ownBlock = some k → B ≤ k) : Below B a w' :=
  hb.grown h.1 hB hv

/-- The bytes of a string. -/
def strNums (s : ByteArray) : List Int := s.data.toList.map fun c => (c.toNat : Int)
theorem strNums_len (s : ByteArray) : (strNums s).length = s.size := by simp [strNums]
theorem strNums_byte (s : ByteArray) : AllB (strNums s) := by
  intro c hc
  obtain ⟨d, _, rfl⟩ := List.mem_map.1 hc
  have := d.toNat_lt
  omega
theorem strNums_cells (s : ByteArray) : nums (strNums s) = Lib.strCells s := by simp [nums, strNums, Lib.strCells]

/-! ### The bit operations of the Go text -/
theorem and127 {y : Nat} (h : y < 18446744073709551616) : bits .and .u64 (y : Int) 127 = (y : Int) % 128 := by
  have := u64_and_nat y 127 h (by decide)
  rw [show ((127 : Nat) : Int) = 127 from rfl] at this
  rw [this, show (127 : Nat) = 2 ^ 7 - 1 from rfl, Nat.and_two_pow_sub_one_eq_mod]
  simp
theorem or128 {c : Int} (h0 : 0 ≤ c) (h1 : c < 128) : bits .or .u8 c 128 = c + 128 := by
  have := u8_or c 128 h0 (by omega) (by decide) (by decide)
  rw [this, show (128 : Int).toNat = 128 from rfl, Nat.or_comm, nat_join 7 128 c.toNat (by decide) (by omega)]
  omega
theorem and127b {c : Int} (h0 : 0 ≤ c) (h1 : c ≤ 255) : bits .and .u8 c 127 = c % 128 := bits_mask .u8 8 (by decide) wraps_u8 7 (by decide) c h0 (by omega)
theorem and128b {c : Int} (h0 : 0 ≤ c) (h1 : c ≤ 255) : bits .and .u8 c 128 = c / 128 * 128 := by
  have := u8_and c 128 h0 (by omega) (by decide) (by decide)
  rw [this, show (128 : Int).toNat = 2 ^ 7 from rfl, nat_bit 7]
  omega

theorem pow_dvd {k : Nat} (hk : k ≤ 9) : 128 ^ k ∣ 18446744073709551616 := by
  have e : (18446744073709551616 : Nat) = 2 ^ 64 := by decide
  have e2 : (128 : Nat) ^ k = 2 ^ (7 * k) := by rw [Nat.pow_mul]
  rw [e, e2]
  exact Nat.pow_dvd_pow 2 (by omega)

theorem add_mod_high {X a P M : Nat} (hX : X < P) (hP : P ∣ M) (ha : P ∣ a) (hM : 0 < M) : (X + a) % M = X + a % M := by
  have h1 : P ∣ a % M := (Nat.dvd_mod_iff hP).2 ha
  have hlt : a % M < M := Nat.mod_lt _ hM
  obtain ⟨q, hq⟩ := h1
  obtain ⟨m, hm⟩ := hP
  have hqm : q < m := by
    rw [hq, hm] at hlt
    exact Nat.lt_of_mul_lt_mul_left hlt
  have : X + a % M < M := by
    rw [hq, hm]
    have : P * (q + 1) ≤ P * m := Nat.mul_le_mul_left _ hqm
    rw [Nat.mul_add, Nat.mul_one] at this
    omega
  rw [Nat.add_mod, Nat.mod_eq_of_lt (a := X) (by omega), Nat.mod_eq_of_lt this]

/-- A group more: 'x |= d << (7 * k)'. -/
theorem or_shl {X k : Nat} {d : Int} (hX : X < 128 ^ k) (hk : k ≤ 9) (h0 : 0 ≤ d) : bits .or .u64 (X : Int) (IntKind.u64.wrap (d * 2 ^ (7 * k))) = (((X + d.toNat * 128 ^ k) % 18446744073709551616 : Nat) : Int) := by
  obtain ⟨d, rfl⟩ := Int.eq_ofNat_of_zero_le h0
  have e2 : (128 : Nat) ^ k = 2 ^ (7 * k) := by rw [Nat.pow_mul]
  have hd := pow_dvd hk
  have hlt : 128 ^ k ≤ 18446744073709551616 := Nat.le_of_dvd (by decide) hd
  have e3 : IntKind.u64.wrap ((d : Int) * 2 ^ (7 * k)) = ((d * 128 ^ k % 18446744073709551616 : Nat) : Int) := by
    rw [IntKind.wrap_u64, e2]
    simp
  rw [e3, u64_or_nat X _ (by omega) (Nat.mod_lt _ (by decide)), Int.toNat_natCast, add_mod_high hX hd (Nat.dvd_mul_left _ _) (by decide)]
  rw [Nat.or_comm, nat_join (7 * k) _ X ?_ (by rw [← e2]; exact hX), Nat.add_comm]
  rw [← e2]
  exact Nat.mod_eq_zero_of_dvd ((Nat.dvd_mod_iff hd).2 (Nat.dvd_mul_left _ _))

theorem small_sum {X k d : Nat} (hX : X < 128 ^ k) (hk : k ≤ 9) (hd : d < 128) (hs : k < 9 ∨ d ≤ 1) : X + d * 128 ^ k < 18446744073709551616 := by
  have hp9 : (128 : Nat) ^ 9 = 9223372036854775808 := by decide
  rcases hs with h | h
  · have h8 : (128 : Nat) ^ (k + 1) ≤ 128 ^ 9 := Nat.pow_le_pow_right (by decide) h
    rw [pow128] at h8
    have : d * 128 ^ k ≤ 127 * 128 ^ k := Nat.mul_le_mul_right _ (by omega)
    omega
  · have h8 : (128 : Nat) ^ k ≤ 128 ^ 9 := Nat.pow_le_pow_right (by decide) hk
    have : d * 128 ^ k ≤ 1 * 128 ^ k := Nat.mul_le_mul_right _ h
    omega

theorem next_sum {X k d : Nat} (hX : X < 128 ^ k) (hd : d < 128) : X + d * 128 ^ k < 128 ^ (k + 1) := by
  have : d * 128 ^ k ≤ 127 * 128 ^ k := Nat.mul_le_mul_right _ (by omega)
  rw [pow128]
  omega

theorem rightB_small {c : Int} {k : Nat} (h : rightB c k = true) : k < 9 ∨ c ≤ 1 := by
  simp only [rightB, Bool.and_eq_true, Bool.or_eq_true, decide_eq_true_eq] at h
  exact h.2

theorem ret_bool {a b : Bool} (h : a = b) : Ending.returned (.bool a) = .returned (.bool b) := by rw [h]
theorem ret3 {k1 k2 k3 : IntKind} {a b c a' b' c' : Int} (h1 : a = a') (h2 : b = b') (h3 : c = c') : Ending.returned (.tuple #[.int k1 a, .int k2 b, .int k3 c]) = .returned (.tuple #[.int k1 a', .int k2 b', .int k3 c']) := by rw [h1, h2, h3]

theorem drop_step {bs : List Int} {k : Nat} (hk : k < bs.length) : bs.drop k = bs[k]?.getD 0 :: bs.drop (k + 1) := by
  rw [List.drop_eq_getElem_cons hk, List.getElem?_eq_getElem hk]
  rfl

/-- One step of 'dec' at a place of the list: the last group. -/
theorem dec_last {bs : List Int} {X k : Nat} {c : Int} (hk : k < bs.length) (h10 : k < 10) (hc : c = bs[k]?.getD 0) (h : c < 128) : dec X k (bs.drop k) = if rightB c k = true then (X + c.toNat * 128 ^ k, k + 1, 0) else (0, 0, 10) := by
  rw [drop_step hk, ← hc]
  simp only [dec]
  rw [if_neg (by omega), if_pos h]
theorem dec_more {bs : List Int} {X k : Nat} {c : Int} (hk : k < bs.length) (h10 : k < 10) (hc : c = bs[k]?.getD 0) (h : ¬ c < 128) : dec X k (bs.drop k) = dec (X + (c.toNat - 128) * 128 ^ k) (k + 1) (bs.drop (k + 1)) := by
  rw [drop_step hk, ← hc]
  simp only [dec]
  rw [if_neg (by omega), if_neg h]
theorem dec_ten (X : Nat) (r : List Int) : dec X 10 r = (0, 0, 10) := by
  cases r <;> simp [dec]
theorem dec_end {bs : List Int} {X k : Nat} (hk : bs.length ≤ k) : dec X k (bs.drop k) = (0, 0, 10) := by
  rw [List.drop_eq_nil_of_le hk]
  rfl

/-- 's[:h]' of a slice of one-cell elements. -/
theorem run_cut_h {P : Program} (W : World) (t e : TypeId) (ht : P.underlying t = some (.slice e)) (hz : ∀ w, (Go.sizeOf e).run P w = .ok 1 w) (a : Option Addr) (len cap n : Nat) (h : Int) (hn : h = (n : Int)) (hh : n ≤ cap) :
    (Instr.slice t (.slice a len cap) none (some (.int .i64 h)) none).run P W = .ok (.slice a n cap) W := by
  subst hn
  have ht' : P.underlying t = some (.slice (P.elem t)) := by simp [Program.elem, ht]
  have he : P.elem t = e := by simp [Program.elem, ht]
  rw [run_slice_h W t _ _ _ ht' .i64 _ (by omega) (by omega), he, hz]
  have hadd : ∀ p : Addr, p.add 0 = p := by
    intro p
    obtain ⟨b, o, s⟩ := p
    cases s <;> simp [Addr.add]
  cases a <;> simp [Result.andThen, sliced, hadd]

/-- 'string(b)' of a slice that holds bs. -/
theorem run_convert_held {P : Program} {w : World} {ao : Option Addr} {len cap : Nat} {bs : List Int} (h : Held w ao len cap bs) (src e dst : TypeId) (hs : P.underlying src = some (.slice e)) (he : P.underlying e = some (.int .u8)) (hd : P.underlying dst = some .string) :
    (convert src dst (.slice ao len cap)).run P w = .ok (.string (strOfNums bs)) w := by
  by_cases hp : 0 < len
  · obtain ⟨b, off, rfl, _, hc⟩ := h.at hp
    exact run_convert_bytes_arg w src e hs he b off len cap bs h.hlen hc dst hd
  · obtain rfl : len = 0 := by omega
    have : bs = [] := List.eq_nil_of_length_eq_zero h.hlen
    subst this
    cases ao with
    | none => exact run_convert_bytes_nil w src e hs he 0 cap dst hd
    | some ad =>
      rw [run_convert_bytes_string w src dst e _ 0 cap hs he hd, run_bytesToString w _ 0 cap [] (by simp [loadCells, loadCellsFrom])]
      rfl
end Go.Proofs.YtfmnbehopdmahaaGreat
