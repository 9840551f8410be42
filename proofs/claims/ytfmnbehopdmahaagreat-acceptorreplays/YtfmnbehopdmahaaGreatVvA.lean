/-
  Package vv: Of, cut, Plain; the document's Of, Plain.
-/
import Derived.Test.YtfmnbehopdmahaaGreatTexts
import Derived.Test.YtfmnbehopdmahaaGreatCartMath
namespace Go.Proofs.YtfmnbehopdmahaaGreat
open Go.RowKit Go.Maps

theorem Tryz.sizeI : ∀ w : World, (Go.sizeOf 3).run Tryz.prog w = .ok 1 w := by
  intro w
  obtain ⟨i, hi, _, hs, _⟩ := info_parts Tryz.infoInt
  simp [Go.sizeOf, typeInfo, hi, hs]

theorem addr0 (p : Addr) : p.add 0 = p := by
  obtain ⟨b, o, s⟩ := p
  cases s <;> simp [Addr.add]
theorem run_cut_hm {P : Program} (W : World) (t e : TypeId) (ht : P.underlying t = some (.slice e)) (hz : ∀ w, (Go.sizeOf e).run P w = .ok 1 w) (a : Option Addr) (len cap n : Nat) (hh : n ≤ cap) :
    (Instr.slice t (.slice a len cap) none (some (.int .i64 (n : Int))) (some (.int .i64 (n : Int)))).run P W = .ok (.slice a n n) W := by
  have ht' : P.underlying t = some (.slice (P.elem t)) := by simp [Program.elem, ht]
  have he : P.elem t = e := by simp [Program.elem, ht]
  rw [run_slice_hm W t _ _ _ ht' .i64 .i64 _ _ (by omega) (by omega) (by omega), he, hz]
  cases a <;> simp [Result.andThen, sliced, addr0]

end Go.Proofs.YtfmnbehopdmahaaGreat
