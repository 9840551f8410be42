/-
  Plain mathematics of the frames of bytes: how many there are at most, where they end ('endN'), and the frames of nothing but one empty payload.
-/
import Derived.Test.YtmokelmeihmeiabDoorFScanB
namespace Go.Proofs.YtmokelmeihmeiabDoor
open Go.RowKit

/-- Where the frames end. -/
def endFrom : Nat → Nat → List Int → Nat
  | 0, k, _ => k
  | f + 1, k, bs => match fstOf (bs.drop k) with
    | none => k
    | some p => endFrom f (k + 8 + p.length) bs
def endN (bs : List Int) : Nat := endFrom bs.length 0 bs

theorem fst_room {bs p : List Int} {k : Nat} (h : fstOf (bs.drop k) = some p) : k + 8 + p.length ≤ bs.length := by
  have := fst_some h
  simp only [List.length_drop] at this
  omega

theorem scanFrom_len : ∀ (f k : Nat) (bs : List Int), k ≤ bs.length → (scanFrom f k bs).length + k ≤ bs.length
  | 0, k, bs, h => by simpa [scanFrom] using h
  | f + 1, k, bs, h => by
    unfold scanFrom
    cases hf : fstOf (bs.drop k) with
    | none => simpa using h
    | some p =>
      have := fst_room hf
      have := scanFrom_len f (k + 8 + p.length) bs this
      simp only [List.length_cons]
      omega
theorem scanAll_len (bs : List Int) : (scanAll bs).length ≤ bs.length := by
  have := scanFrom_len bs.length 0 bs (Nat.zero_le _)
  simpa [scanAll] using this

theorem endFrom_le : ∀ (f k : Nat) (bs : List Int), k ≤ bs.length → endFrom f k bs ≤ bs.length
  | 0, k, bs, h => by simpa [endFrom] using h
  | f + 1, k, bs, h => by
    unfold endFrom
    cases hf : fstOf (bs.drop k) with
    | none => simpa using h
    | some p => exact endFrom_le f (k + 8 + p.length) bs (fst_room hf)
theorem endN_le (bs : List Int) : endN bs ≤ bs.length := endFrom_le _ _ _ (Nat.zero_le _)

theorem strOf_size (p : List Int) : (strOfNums p).size = p.length := by
  simp [strOfNums, ByteArray.size]

theorem w64_in (n : Int) (h : -9223372036854775808 ≤ n ∧ n ≤ 9223372036854775807) : wrap64 n = n := by unfold wrap64; omega

theorem getLast?_cons_some {α : Type} (x : α) {l : List α} {y : α} (h : l.getLast? = some y) : (x :: l).getLast? = some y := by
  cases l with
  | nil => simp at h
  | cons z r => simpa [List.getLast?_cons_cons] using h

theorem last_from : ∀ (f k : Nat) (bs : List Int), bs.length ≤ 1000000000000 → k ≤ bs.length →
    (∃ x, (scanFrom f k bs).getLast? = some x ∧ wrap64 (wrap64 (x.1 + 8) + x.2.size) = (endFrom f k bs : Int)) ∨ (scanFrom f k bs = [] ∧ endFrom f k bs = k)
  | 0, k, bs, _, _ => .inr ⟨rfl, rfl⟩
  | f + 1, k, bs, hs, h => by
    cases hf : fstOf (bs.drop k) with
    | none => exact .inr ⟨by simp [scanFrom, hf], by simp [endFrom, hf]⟩
    | some p =>
      have hr := fst_room hf
      have e1 : scanFrom (f + 1) k bs = ((k : Int), strOfNums p) :: scanFrom f (k + 8 + p.length) bs := by simp [scanFrom, hf]
      have e2 : endFrom (f + 1) k bs = endFrom f (k + 8 + p.length) bs := by simp [endFrom, hf]
      rw [e1, e2]
      rcases last_from f (k + 8 + p.length) bs hs hr with ⟨x, hx, hw⟩ | ⟨hn, he⟩
      · exact .inl ⟨x, getLast?_cons_some _ hx, hw⟩
      · refine .inl ⟨_, by rw [hn]; rfl, ?_⟩
        rw [he]
        show wrap64 (wrap64 ((k : Int) + 8) + ((strOfNums p).size : Int)) = _
        rw [strOf_size, w64_in ((k : Int) + 8) (by omega), w64_in _ (by omega)]
        omega

/-- What the program tells as the frames' end is the plain number. -/
theorem endOf_eq (bs : List Int) (h : bs.length ≤ 1000000000000) : endOf (scanAll bs) = (endN bs : Int) := by
  unfold endOf scanAll endN
  rcases last_from bs.length 0 bs h (Nat.zero_le _) with ⟨x, hx, hw⟩ | ⟨hn, he⟩
  · rw [hx]; exact hw
  · rw [hn, he]; rfl

theorem lives_scan : scanAll (frameOf []) = [((0 : Int), strOfNums [])] ∧ endN (frameOf []) = 8 := by decide +kernel
theorem lives_crc : crc (strNums "123456789".toUTF8) = 3808858755 := by decide +kernel
end Go.Proofs.YtmokelmeihmeiabDoor
