/-
  The document's disk: put and drop, what they make.
-/
import Derived.Test.YtjfohnkfcfifeaaRxB
namespace Go.Proofs.Ytjfohnkfcfifeaa
open Go.RowKit Go.Maps

/-- Does a name stand ahead of another? -/
def lessB (a b : ByteArray) : Bool := Op.bytesLess a.toList b.toList
def rpos (L : List Rf) (s : ByteArray) : Nat := L.findIdx (fun f => !lessB f.name s)
def AheadF (L : List Rf) (s : ByteArray) (k : Nat) : Prop := ∀ j (h : j < L.length), j < k → lessB L[j].name s = true
theorem rpos_le (L : List Rf) (s : ByteArray) : rpos L s ≤ L.length := List.findIdx_le_length
theorem rpos_at {L : List Rf} {s : ByteArray} {k : Nat} (hk : k < L.length) (h : AheadF L s k) (hn : lessB L[k].name s = false) : k = rpos L s := by
  symm
  unfold rpos
  rw [List.findIdx_eq hk]
  exact ⟨by simpa using hn, fun j hj => by simpa using h j (by omega) hj⟩
theorem rpos_end {L : List Rf} {s : ByteArray} (h : AheadF L s L.length) : L.length = rpos L s := by
  have h1 := rpos_le L s
  by_cases h2 : rpos L s < L.length
  · have h3 := List.findIdx_getElem (p := fun f : Rf => !lessB f.name s) (w := h2)
    have h4 := h _ h2 h2
    simp only [Bool.not_eq_true'] at h3
    rw [show L[rpos L s].name = L[List.findIdx (fun f : Rf => !lessB f.name s) L].name from rfl, h3] at h4
    cases h4
  · omega
def insF (L : List Rf) (k : Nat) (f : Rf) : List Rf := L.take k ++ [f] ++ L.drop k
theorem insF_len {L : List Rf} {k : Nat} (hk : k ≤ L.length) (f : Rf) : (insF L k f).length = L.length + 1 := by
  unfold insF
  simp
  omega
theorem rtotal_app : ∀ (a b : List Rf), rtotal (a ++ b) = rtotal a + rtotal b
  | [], b => by simp [rtotal]
  | x :: r, b => by
    rw [List.cons_append, rtotal, rtotal, rtotal_app r b]
    omega
theorem rtotal_ins (L : List Rf) (k : Nat) (f : Rf) : rtotal (insF L k f) = rtotal L + f.bytes.size := by
  unfold insF
  rw [rtotal_app, rtotal_app]
  have h : rtotal (L.take k ++ L.drop k) = rtotal L := by rw [List.take_append_drop]
  rw [rtotal_app] at h
  simp only [rtotal]
  omega
def putX (g : Xd) (f : Rf) : Xd := { g with L := insF g.L (rpos g.L f.name) f }
def dropL (L : List Rf) (k : Nat) : List Rf := L.take k ++ L.drop (k + 1)
def dropX (g : Xd) (k : Nat) : Xd := { g with L := dropL g.L k }
theorem dropL_len {L : List Rf} {k : Nat} (hk : k < L.length) : (dropL L k).length + 1 = L.length := by
  unfold dropL
  simp
  omega
theorem rtotal_drop {L : List Rf} {k : Nat} (hk : k < L.length) : rtotal (dropL L k) + L[k].bytes.size = rtotal L := by
  unfold dropL
  rw [rtotal_app]
  have h : rtotal (L.take (k + 1) ++ L.drop (k + 1)) = rtotal L := by rw [List.take_append_drop]
  rw [rtotal_app, rtotal_take hk] at h
  omega
/-- A row of its own in the place of the old one. -/
theorem xd_new {B : Nat} {w w4 w5 W : World} {x r : Nat} {size : Int} {g : Xd} {eo bo : Option Addr} {cap cp : Nat} (h : XdAt w B x size g eo cap) (hB : B ≤ w.heap.size) (L' : List Rf) (hr : r = L'.length) (hl : L'.length ≤ 64) (hroom : (rtotal L' : Int) ≤ size)
    (hb4 : Below w.heap.size w w4) (hs5 : ScN w4 w5) (hown : w5.ownsRow w4.heap.size 47 3 (.slice bo r cp) r (flatR L')) (hW : W = w5.setCell ⟨x, 1, none⟩ (.slice bo r cp)) : XdTo B w W x size (FootZ x eo g.L.length cap) { g with L := L' } := by
  subst hr
  have hb5 : Blk w5 x 43 [.int .i64 size, .slice eo g.L.length cap, .bool g.stops, .int .i64 g.calls] := h.blk.below (btN hb4 hs5.out) h.blk.lt
  have t1 : Turns (fun i => i = x) w5 W := by rw [hW]; exact (Turns.refl (fun i => i = x) w5).setCell (p := ⟨x, 1, none⟩) (.inl rfl) _
  refine ⟨bo, cp, ⟨?_, ?_, hl, hroom, h.big, h.cal⟩, (Turns.of_below (F := FootZ x eo g.L.length cap) (btN hb4 hs5.out) (Nat.le_refl _)).trans t1 (fun i hi => .inl (.inl hi)), ?_⟩
  · rw [hW]
    exact hb5.set 1 _
  · refine t1.row (ownsRow_baseN hown (Nat.le_trans hB hb4.size)) (fun k hk e => ?_)
    have h1 := (hown.lt k hk).1
    have h2 := hb4.size
    have h3 := h.blk.lt
    omega
  · rintro i (hi | hi)
    · exact .inl (.inl hi)
    · exact .inr (Nat.le_trans hb4.size (hown.lt i hi).1)
end Go.Proofs.Ytjfohnkfcfifeaa
