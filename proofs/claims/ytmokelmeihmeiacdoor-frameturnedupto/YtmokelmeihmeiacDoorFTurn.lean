/-
  A frame of which one byte behind its first 4 is another one is no frame. Over lists of numbers alone.
-/
import Derived.Test.YtmokelmeihmeiacDoorFJoin
namespace Go.Proofs.YtmokelmeihmeiacDoor
open Go.RowKit

theorem xor_self_of_eq {a b : Nat} (h : a ^^^ b = 0) : a = b := by
  have := congrArg (· ^^^ b) h
  simpa [Nat.xor_assoc] using this
theorem step1_zero {x : Nat} (h : x < 4294967296) (h0 : step1 x = 0) : x = 0 := by
  unfold step1 at h0
  have e := xor_self_of_eq h0
  rcases Nat.mod_two_eq_zero_or_one x with h2 | h2
  · rw [h2] at e; omega
  · rw [h2] at e; omega
theorem step4_zero {x : Nat} (h : x < 4294967296) (h0 : step4 x = 0) : x = 0 := by
  have lt1 : ∀ {y : Nat}, y < 4294967296 → step1 y < 4294967296 := by
    intro y hy
    unfold step1
    refine xor_lt32 (by omega) ?_
    rcases Nat.mod_two_eq_zero_or_one y with h2 | h2 <;> rw [h2] <;> decide
  unfold step4 at h0
  exact step1_zero h (step1_zero (lt1 h) (step1_zero (lt1 (lt1 h)) (step1_zero (lt1 (lt1 (lt1 h))) h0)))
theorem step4_inj {x y : Nat} (hx : x < 4294967296) (hy : y < 4294967296) (h : step4 x = step4 y) : x = y := by
  apply xor_self_of_eq
  refine step4_zero (xor_lt32 hx hy) ?_
  rw [step4_xor, h, Nat.xor_self]
theorem xor_right_inj {a b c : Nat} (h : a ^^^ c = b ^^^ c) : a = b := by
  have := congrArg (· ^^^ c) h
  simpa [Nat.xor_assoc] using this
theorem xor_left_inj {a b c : Nat} (h : c ^^^ a = c ^^^ b) : a = b := by
  rw [Nat.xor_comm c a, Nat.xor_comm c b] at h
  exact xor_right_inj h
theorem crcB_inj_left {s t c : Nat} (hs : s < 4294967296) (ht : t < 4294967296) (hc : c < 256) (h : crcB s c = crcB t c) : s = t := by
  unfold crcB at h
  have h1 := xor_lt32 hs (by omega : c < 4294967296)
  have h2 := xor_lt32 ht (by omega : c < 4294967296)
  exact xor_right_inj (step4_inj h1 h2 (step4_inj (step4_lt h1) (step4_lt h2) h))
theorem crcB_inj_right {s c d : Nat} (hs : s < 4294967296) (hc : c < 256) (hd : d < 256) (h : crcB s c = crcB s d) : c = d := by
  unfold crcB at h
  have h1 := xor_lt32 hs (by omega : c < 4294967296)
  have h2 := xor_lt32 hs (by omega : d < 4294967296)
  exact xor_left_inj (step4_inj h1 h2 (step4_inj (step4_lt h1) (step4_lt h2) h))
theorem crcL_inj : ∀ (bs : List Int) (s t : Nat), s < 4294967296 → t < 4294967296 → AllB bs → crcL s bs = crcL t bs → s = t
  | [], _, _, _, _, _, h => h
  | c :: bs, s, t, hs, ht, hb, h => by
    have hc := hb c (by simp)
    have hcn : c.toNat < 256 := by omega
    have := crcL_inj bs (crcB s c.toNat) (crcB t c.toNat) (crcB_lt hs hcn) (crcB_lt ht hcn) (fun x hx => hb x (by simp [hx])) h
    exact crcB_inj_left hs ht hcn this
/-- Another byte makes another sum. -/
theorem crc_turned {a b : List Int} {c d : Int} (ha : AllB a) (hb : AllB b) (hc : 0 ≤ c ∧ c ≤ 255) (hd : 0 ≤ d ∧ d ≤ 255) (hne : c ≠ d) : crc (a ++ c :: b) ≠ crc (a ++ d :: b) := by
  intro h
  unfold crc at h
  have h1 := xor_right_inj h
  rw [crcL_append, crcL_append] at h1
  have hs := crcL_lt a 4294967295 (by decide) ha
  have h2 : crcB (crcL 4294967295 a) c.toNat = crcB (crcL 4294967295 a) d.toNat := crcL_inj b _ _ (crcB_lt hs (by omega)) (crcB_lt hs (by omega)) hb h1
  have := crcB_inj_right hs (by omega) (by omega) h2
  omega

theorem rd4_inj {a b : List Int} (ha : AllB a) (hb : AllB b) (hla : 4 ≤ a.length) (hlb : 4 ≤ b.length) (h : rd4 a = rd4 b) : a.take 4 = b.take 4 := by
  rw [← be4_rd4 ha hla, ← be4_rd4 hb hlb, h]

theorem set_mid {α : Type} (a b : List α) (c d : α) : (a ++ c :: b).set a.length d = a ++ d :: b := by simp

/-- A frame of which one byte behind its first 4 is another one. -/
theorem fst_turned {p r : List Int} (hb : AllB p) (hl : p.length ≤ 65536) {i : Nat} (h4 : 4 ≤ i) (hi : i < 8 + p.length) {d : Int} (hd : 0 ≤ d ∧ d ≤ 255) (hne : (frameOf p).getD i 0 ≠ d) : fstOf ((frameOf p).set i d ++ r) = none := by
  have hcl : crc (be4 p.length ++ p) < 4294967296 := crc_lt ((be4_byte (by omega)).append hb)
  obtain ⟨S, hS⟩ : ∃ S, S = be4 (crc (be4 p.length ++ p)) := ⟨_, rfl⟩
  have hSb : AllB S := by rw [hS]; exact be4_byte hcl
  have hSl : S.length = 4 := by rw [hS]; rfl
  have hF : frameOf p = be4 p.length ++ (S ++ p) := by unfold frameOf; rw [hS, List.append_assoc]
  -- the first word stays
  have hset : (frameOf p).set i d = be4 p.length ++ ((S ++ p).set (i - 4) d) := by
    rw [hF, List.set_append_right _ _ (by rw [be4_len]; exact h4), be4_len]
  have hlen : ((frameOf p).set i d ++ r).length = 8 + p.length + r.length := by simp [frameOf_len]
  have hr : rd4 ((frameOf p).set i d ++ r) = p.length := by
    rw [hset, List.append_assoc]; exact rd4_be (by omega) _
  have htake : ((frameOf p).set i d ++ r).take 4 = be4 p.length := by
    rw [hset, List.append_assoc, List.take_append_of_le_length (by rw [be4_len]; exact Nat.le_refl _), List.take_of_length_le (by rw [be4_len]; exact Nat.le_refl _)]
  have hdrop : ((frameOf p).set i d ++ r).drop 4 = (S ++ p).set (i - 4) d ++ r := by
    rw [hset, List.append_assoc]; simp [be4]
  have hpay : (((frameOf p).set i d ++ r).take (8 + p.length)).drop 8 = ((S ++ p).set (i - 4) d).drop 4 := by
    rw [List.take_append_of_le_length (by simp [frameOf_len]), List.take_of_length_le (by simp [frameOf_len]), hset]
    simp [be4]
  unfold fstOf
  rw [hr, htake, hdrop, hpay]
  rw [if_neg (by rw [hlen]; omega), if_neg]
  intro h
  have hSp : AllB (S ++ p) := hSb.append hb
  have hgd : (frameOf p).getD i 0 = (S ++ p).getD (i - 4) 0 := by
    rw [hF]; simp [List.getD, List.getElem?_append_right (by rw [be4_len]; exact h4 : (be4 p.length).length ≤ i), be4_len]
  rw [hgd] at hne
  by_cases h8 : i < 8
  · -- in the sum
    have e1 : (S ++ p).set (i - 4) d = S.set (i - 4) d ++ p := by rw [List.set_append_left _ _ (by omega)]
    rw [e1, List.drop_append_of_le_length (by simp [hSl]), List.drop_of_length_le (by simp [hSl]), List.nil_append] at h
    have hX : AllB (S.set (i - 4) d) := by
      intro c hc
      rcases List.mem_or_eq_of_mem_set hc with h' | h'
      · exact hSb c h'
      · subst h'; exact hd
    have h2 : rd4 (S.set (i - 4) d ++ p ++ r) = rd4 (S.set (i - 4) d) := by
      unfold rd4
      have hg : ∀ j, j < 4 → (S.set (i - 4) d ++ p ++ r).getD j 0 = (S.set (i - 4) d).getD j 0 := by
        intro j hj
        rw [List.append_assoc]
        simp [List.getD, List.getElem?_append_left (show j < (S.set (i - 4) d).length by simp [hSl]; exact hj)]
      rw [hg 0 (by omega), hg 1 (by omega), hg 2 (by omega), hg 3 (by omega)]
    rw [h2] at h
    have h3 : rd4 S = crc (be4 p.length ++ p) := by
      have := rd4_be hcl []
      rw [List.append_nil, ← hS] at this
      exact this
    rw [← h3] at h
    have h4' := rd4_inj hX hSb (by simp [hSl]) (by omega) h
    rw [List.take_of_length_le (by simp [hSl]), List.take_of_length_le (by omega)] at h4'
    apply hne
    have : (S ++ p).getD (i - 4) 0 = S.getD (i - 4) 0 := by simp [List.getD, List.getElem?_append_left (show i - 4 < S.length by omega)]
    rw [this, ← h4']
    simp [List.getD, hSl, show i - 4 < 4 by omega]
  · -- in the payload
    have e1 : (S ++ p).set (i - 4) d = S ++ p.set (i - 8) d := by rw [List.set_append_right _ _ (by omega), hSl, show i - 4 - 4 = i - 8 by omega]
    rw [e1, List.drop_append_of_le_length (by omega), List.drop_of_length_le (by omega), List.nil_append, List.append_assoc, hS, rd4_be hcl] at h
    have hi8 : i - 8 < p.length := by omega
    have hp : p = p.take (i - 8) ++ p.getD (i - 8) 0 :: p.drop (i - 8 + 1) := by
      conv => lhs; rw [← List.take_append_drop (i - 8) p, List.drop_eq_getElem_cons hi8]
      simp [List.getD, List.getElem?_eq_getElem hi8]
    have hps : p.set (i - 8) d = p.take (i - 8) ++ d :: p.drop (i - 8 + 1) := by
      conv => lhs; rw [List.set_eq_take_append_cons_drop]
      rw [if_pos hi8]
    rw [hps] at h
    have h' : be4 p.length ++ p = be4 p.length ++ p.take (i - 8) ++ p.getD (i - 8) 0 :: p.drop (i - 8 + 1) := by
      rw [List.append_assoc]; exact congrArg _ hp
    have h2 := (congrArg crc h').symm.trans h
    rw [← List.append_assoc] at h2
    refine crc_turned ((be4_byte (by omega)).append (hb.take _)) (hb.drop _) ?_ hd ?_ h2
    · have := hb.getD (i - 8); simpa [List.getD] using this
    · have : (S ++ p).getD (i - 4) 0 = p.getD (i - 8) 0 := by
        simp [List.getD, List.getElem?_append_right (show S.length ≤ i - 4 by omega), hSl, show i - 4 - 4 = i - 8 by omega]
      rw [← this]; exact hne
end Go.Proofs.YtmokelmeihmeiacDoor
