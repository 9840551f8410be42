/-
  Package vv: Between and Dots answer an iterator over copies of what they are handed.
-/
import Derived.Test.YtgghfmdciohinaaVvF
import Derived.Deep.RegionHeld3
import Derived.Deep.RegionWith
namespace Go.Proofs.Ytgghfmdciohinaa
open Go.RowKit Go.Maps

/-- An iterator over the dots that b has and a has not: its two boxes. -/
structure ItAt (w : World) (p q : Nat) (a b : List Int) (ao bo : Option Addr) (ca cb : Nat) : Prop where
  bp : Blk w p 29 [.slice ao a.length ca]
  bq : Blk w q 29 [.slice bo b.length cb]
  ha : HV w ao ca a
  hb : HV w bo cb b

theorem HeldInt.apart {w : World} {p : Nat} {t : TypeId} {co : Option Addr} {l c : Nat} {xo : Option Addr} {xs : List Int} (h : HeldInt w xo xs) (hb : Blk w p t [.slice co l c]) {b off : Nat} (he : xo = some ⟨b, off, none⟩) (hne : xs ≠ []) : b ≠ p := by
  rintro rfl
  rcases h.2 with h0 | ⟨b', off', e, _, hc⟩
  · exact hne h0
  · rw [he] at e
    cases e
    have h1 := hc 0 (List.length_pos_iff.2 hne)
    have h' : w.heap[b]? = some (.cells [Value.slice co l c].toArray t (0, 0)) := hb
    simp only [World.cell?, h'] at h1
    cases off with
    | zero => simp at h1
    | succ o => simp at h1

end Go.Proofs.Ytgghfmdciohinaa
