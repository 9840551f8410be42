/-
  cart.sight as a map's key. No function of the program is named here.
-/
import Derived.Test.YtkgfpnmifgifpaaDotKey
namespace Go.Proofs.Ytkgfpnmifgifpaa
open Go.RowKit Go.Maps

theorem Try.keyedSight : Keyed Try.prog 92 := Keyed.of_law (deep_law_laid Try.laidOutK (m := 3) (by decide) (of_decide_eq_true (by kernel_rfl)) (by kernel_rfl) (by kernel_rfl))
def sightVal (c k : ByteArray) (o : Int) : Value := .agg #[.string c, .string k, .int .i64 o]
/-- What a sight reads as, as a key. -/
def sk (c k : ByteArray) (o : Int) : Lit := .string (keyBytes [.string c.data.toList, .string k.data.toList, .int .i64 o])
theorem key_sight {c k : ByteArray} {o : Int} (hc : c.size ≤ maxLen) (hk : k.size ≤ maxLen) (ho : I64 o) : keyOf Try.prog 92 (sightVal c k o) = some (sk c k o) := by
  have h1 : Try.prog.keyType 92 = true := by kernel_rfl
  have h2 : (sightVal c k o).formed Try.prog 92 = true := by kernel_rfl
  have h3 : Try.prog.keyLits (Try.prog.types.size + 1) 92 (sightVal c k o).cells.toList = some [.string c.data.toList, .string k.data.toList, .int .i64 o] := by
    obtain ⟨n, hn⟩ := types_pos
    rw [hn]
    have hi : Try.prog.keyLits (n + 1) 3 [.int .i64 o] = some [.int .i64 o] := by
      simp [Program.keyLits, Try.underlying3, wf_of ho]
    have hs : ∀ s : ByteArray, s.size ≤ maxLen → Try.prog.keyLits (n + 1) 9 [.string s] = some [.string s.data.toList] := fun s hs => by
      simp [Program.keyLits, Try.underlying9, hs]
    have e1 : Try.prog.cellsOf 92 = 3 := by kernel_rfl
    have e2 : Try.prog.cellsOf 3 = 1 := by kernel_rfl
    have e3 : Try.prog.cellsOf 9 = 1 := by kernel_rfl
    unfold Program.keyLits
    simp [Try.underlying92, sightVal, Value.cells, e1, e2, e3, hi, hs c hc, hs k hk]
  unfold keyOf
  rw [Try.underlying92]
  show (if _ then _ else _) = _
  rw [if_pos (by rw [h1, h2]; rfl), h3]
  rfl
theorem sk_inj {c k c' k' : ByteArray} {o o' : Int} (hc : c.size ≤ maxLen) (hk : k.size ≤ maxLen) (ho : I64 o) (hc' : c'.size ≤ maxLen) (hk' : k'.size ≤ maxLen) (ho' : I64 o') (h : sk c k o = sk c' k' o') : c = c' ∧ k = k' ∧ o = o' := by
  have h1 := key_sight hc hk ho
  have h2 := key_sight hc' hk' ho'
  rw [← h] at h2
  have := Try.keyedSight.inj h1 h2
  simpa [sightVal] using this
end Go.Proofs.Ytkgfpnmifgifpaa
