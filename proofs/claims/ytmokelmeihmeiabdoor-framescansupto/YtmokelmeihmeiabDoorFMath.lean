/-
  Plain mathematics of the check sum (no program): the sum bit by bit ('step1'), byte by byte ('crcL'), and that four steps are one look into a table of sixteen remainders. Proved for all natural numbers.
-/
import Derived.Test.YtmokelmeihmeiabDoorBase
namespace Go.Proofs.YtmokelmeihmeiabDoor

/-- One bit: the polynomial is taken in where the lowest bit goes out. -/
def step1 (x : Nat) : Nat := (x / 2) ^^^ ((x % 2) * 2197175160)
def step4 (x : Nat) : Nat := step1 (step1 (step1 (step1 x)))
/-- One byte. -/
def crcB (s c : Nat) : Nat := step4 (step4 (s ^^^ c))
def crcL (s : Nat) (bs : List Int) : Nat := bs.foldl (fun s c => crcB s c.toNat) s
/-- The check sum. -/
def crc (bs : List Int) : Nat := crcL 4294967295 bs ^^^ 4294967295

theorem crcL_append (s : Nat) (a b : List Int) : crcL s (a ++ b) = crcL (crcL s a) b := by simp [crcL, List.foldl_append]
theorem crcL_snoc (s : Nat) (a : List Int) (c : Int) : crcL s (a ++ [c]) = crcB (crcL s a) c.toNat := by simp [crcL, List.foldl_append]

theorem div2_xor (a b : Nat) : (a ^^^ b) / 2 = (a / 2) ^^^ (b / 2) := by
  apply Nat.eq_of_testBit_eq
  intro i
  simp [Nat.testBit_div_two]

theorem xor_mod2 (a b : Nat) : (a ^^^ b) % 2 = (a + b) % 2 := by
  have h := Nat.testBit_xor a b 0
  simp only [Nat.testBit_zero] at h
  have hx : (a ^^^ b) % 2 = 0 ∨ (a ^^^ b) % 2 = 1 := by omega
  have ha : a % 2 = 0 ∨ a % 2 = 1 := by omega
  have hb : b % 2 = 0 ∨ b % 2 = 1 := by omega
  rcases ha with ha | ha <;> rcases hb with hb | hb <;> rcases hx with hx | hx <;> rw [ha, hb, hx] at h <;> first | omega | (simp at h)

theorem step1_xor (a b : Nat) : step1 (a ^^^ b) = step1 a ^^^ step1 b := by
  unfold step1
  rw [div2_xor, xor_mod2]
  have ha : a % 2 = 0 ∨ a % 2 = 1 := by omega
  have hb : b % 2 = 0 ∨ b % 2 = 1 := by omega
  rcases ha with ha | ha <;> rcases hb with hb | hb
  · rw [show (a + b) % 2 = 0 by omega, ha, hb]; simp
  · rw [show (a + b) % 2 = 1 by omega, ha, hb]
    simp [Nat.xor_assoc]
  · rw [show (a + b) % 2 = 1 by omega, ha, hb]
    simp only [Nat.one_mul, Nat.zero_mul, Nat.xor_zero]
    rw [Nat.xor_assoc, Nat.xor_assoc, Nat.xor_comm (b / 2)]
  · rw [show (a + b) % 2 = 0 by omega, ha, hb]
    simp only [Nat.one_mul, Nat.zero_mul, Nat.xor_zero]
    rw [Nat.xor_assoc, Nat.xor_comm 2197175160, Nat.xor_assoc, Nat.xor_self, Nat.xor_zero]

theorem step4_xor (a b : Nat) : step4 (a ^^^ b) = step4 a ^^^ step4 b := by
  unfold step4
  rw [step1_xor, step1_xor, step1_xor, step1_xor]

theorem step1_even (x : Nat) : step1 (2 * x) = x := by
  unfold step1
  rw [show 2 * x / 2 = x by omega, show 2 * x % 2 = 0 by omega]
  simp

theorem step4_high (q : Nat) : step4 (16 * q) = q := by
  unfold step4
  rw [show 16 * q = 2 * (8 * q) by omega, step1_even, show 8 * q = 2 * (4 * q) by omega, step1_even, show 4 * q = 2 * (2 * q) by omega, step1_even, step1_even]

theorem xor_low (q r : Nat) (hr : r < 16) : 16 * q + r = (16 * q) ^^^ r := by
  apply Nat.eq_of_testBit_eq
  intro i
  have h1 := Nat.testBit_two_pow_mul_add (i := 4) (b := r) q hr i
  have h2 := Nat.testBit_two_pow_mul_add (i := 4) (b := 0) q (by decide) i
  simp only [Nat.reducePow, Nat.add_zero] at h1 h2
  rw [h1, Nat.testBit_xor, h2]
  by_cases hi : i < 4
  · simp [hi]
  · have : r.testBit i = false := Nat.testBit_lt_two_pow (Nat.lt_of_lt_of_le hr (show 2 ^ 4 ≤ 2 ^ i from Nat.pow_le_pow_right (by decide) (by omega)))
    simp [hi, this]

/-- The remainders of the sixteen values of four bits. -/
def tabL : List Nat := [0, 274646895, 549293790, 820201905, 1098587580, 1361435347, 1640403810, 1905808397, 2197175160, 2460548119, 2722870694, 2987750089, 3280807620, 3553878443, 3811616794, 4084100981]
def tab (i : Nat) : Nat := tabL.getD i 0
theorem tab_step : ∀ r, r < 16 → step4 r = tab r := by decide
theorem tab_lt : ∀ r, r < 16 → tab r < 4294967296 := by decide

/-- Four bits at a time. -/
theorem step4_tab (x : Nat) : step4 x = tab (x % 16) ^^^ (x / 16) := by
  have h : x = (16 * (x / 16)) ^^^ (x % 16) := by
    rw [← xor_low _ _ (by omega)]
    omega
  conv => lhs; rw [h]
  rw [step4_xor, step4_high, tab_step _ (by omega), Nat.xor_comm]

theorem xor_lt32 {a b : Nat} (ha : a < 4294967296) (hb : b < 4294967296) : a ^^^ b < 4294967296 := Nat.xor_lt_two_pow (n := 32) ha hb
theorem step4_lt {x : Nat} (h : x < 4294967296) : step4 x < 4294967296 := by
  rw [step4_tab]
  exact xor_lt32 (tab_lt _ (by omega)) (by omega)
theorem crcB_lt {s c : Nat} (hs : s < 4294967296) (hc : c < 256) : crcB s c < 4294967296 := step4_lt (step4_lt (xor_lt32 hs (by omega)))
theorem crcL_lt : ∀ (bs : List Int) (s : Nat), s < 4294967296 → AllB bs → crcL s bs < 4294967296
  | [], s, hs, _ => hs
  | c :: r, s, hs, hb => by
    have hc := hb c (by simp)
    exact crcL_lt r _ (crcB_lt hs (by omega)) (fun d hd => hb d (by simp [hd]))
theorem crc_lt {bs : List Int} (hb : AllB bs) : crc bs < 4294967296 := xor_lt32 (crcL_lt bs _ (by decide) hb) (by decide)

theorem not32 {x : Nat} (h : x < 4294967296) : x ^^^ 4294967295 = 4294967295 - x := by
  have h1 := congrArg BitVec.toNat (BitVec.xor_allOnes (x := BitVec.ofNat 32 x))
  rw [BitVec.toNat_not, BitVec.toNat_xor] at h1
  simp only [BitVec.toNat_ofNat, BitVec.toNat_allOnes] at h1
  rw [Nat.mod_eq_of_lt (show x < 2 ^ 32 from h)] at h1
  exact h1
def stepN : Nat → Nat → Nat
  | 0, x => x
  | n + 1, x => step1 (stepN n x)
theorem stepN_lt : ∀ n x, x < 4294967296 → stepN n x < 4294967296
  | 0, _, h => h
  | n + 1, x, h => by
    have := stepN_lt n x h
    show (stepN n x / 2) ^^^ (stepN n x % 2 * 2197175160) < _
    refine xor_lt32 (by omega) ?_
    have h2 : stepN n x % 2 = 0 ∨ stepN n x % 2 = 1 := by omega
    rcases h2 with h2 | h2 <;> rw [h2] <;> decide
theorem stepN_8 (x : Nat) : stepN 8 x = step4 (step4 x) := rfl

/-- A number's four bytes, the highest first. -/
def be4 (x : Nat) : List Int := [(x : Int) / 16777216, (x : Int) / 65536 % 256, (x : Int) / 256 % 256, (x : Int) % 256]
theorem be4_byte {x : Nat} (h : x < 4294967296) : AllB (be4 x) := by
  intro c hc
  simp only [be4, List.mem_cons, List.not_mem_nil, or_false] at hc
  rcases hc with rfl | rfl | rfl | rfl <;> omega
/-- A payload's frame. -/
def frameOf (p : List Int) : List Int := be4 p.length ++ be4 (crc (be4 p.length ++ p)) ++ p
theorem be4_len (x : Nat) : (be4 x).length = 4 := rfl
theorem frameOf_len (p : List Int) : (frameOf p).length = 8 + p.length := by simp [frameOf, be4_len]; omega
theorem frameOf_byte {p : List Int} (h : AllB p) (hl : p.length < 4294967296) : AllB (frameOf p) :=
  ((be4_byte hl).append (be4_byte (crc_lt ((be4_byte hl).append h)))).append h
end Go.Proofs.YtmokelmeihmeiabDoor
