/-
  The writers of texts: codec.appendText, codec.Text and pannierref01.Text write how many bytes a text has, and these, behind what was there; conditions: the lengths stay below 2^47.
-/
import Derived.Test.YtfokmldfnkonpaaPuts
namespace Go.Proofs.Ytfokmldfnkonpaa
open Go.RowKit

/-- A text's bytes: how many, and these. -/
def encText (s : ByteArray) : List Int := enc s.size ++ strNums s
theorem encText_len (s : ByteArray) : (encText s).length = (enc s.size).length + s.size := by simp [encText, strNums_len]
theorem encText_byte (s : ByteArray) : AllB (encText s) := AllB.append (enc_byte _) (strNums_byte s)

theorem appendText_own (v : Value) (n : Nat) (bs : List Int) (s : ByteArray) (B : Nat) (w : World) (hown : w.ownsRow B 5 1 v n (nums bs)) (hB : B ≤ w.heap.size) (hn : n + s.size ≤ 140737488355000) :
    Calls Try.prog 56 #[v, .string s] w fun e w' => ∃ v', e = .returned v' ∧ w'.ownsRow B 5 1 v' (n + (encText s).length) (nums (bs ++ encText s)) ∧ Below B w w' := by
  obtain ⟨i0, hi, hz0, hz1, hz2⟩ := info_parts Try.info5
  have h10 := enc_le10 (x := s.size) (by omega)
  have HO : Hid (w.ownsRow B 5 1 v n (nums bs)) := hown
  clear hown
  go_enter Try.func56, Try.ntmps56
  go_wp2_with fail
  refine (appendUint_own v n bs s.size B w (by omega) (by omega) HO.out hB (by omega)).mono ?_
  rintro e w1 ⟨v1, rfl, hown1, hb1⟩
  rw [Int.toNat_natCast] at hown1
  have hs1 : w.heap.size ≤ w1.heap.size := hb1.size
  have HB : Hid (Below B w w1) := hb1
  have HL : Hid (∀ k, v1.ownBlock = some k → B ≤ k) := own_lt hown1
  clear hb1
  go_wp2_with (at_builtin; refine Lib.wpList_append_own_string _ rfl _ _ 68 9 rfl B 5 i0 Try.underlying68 Try.underlying9 hi hz0 hz1 hz2 _ _ _ rfl hown1 s rfl (by unfold maxLen; omega) (by omega) (by omega) ?_)
  intro v' w2 hown' hgrow _
  have HB2 : Hid (Below B w w2) := HB.out.grown hgrow (by omega) HL.out
  have HO2 : Hid (w2.ownsRow B 5 1 v' (n + (encText s).length) (nums (bs ++ encText s))) := by
    rw [encText_len, encText, ← List.append_assoc, nums_append, strNums_cells, ← Nat.add_assoc]
    exact hown'
  clear hown' hgrow hown1
  go_wp2
  go_ret
  exact ⟨v', rfl, HO2.out, HB2.out⟩

end Go.Proofs.Ytfokmldfnkonpaa
