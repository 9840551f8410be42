/-
  The document's disk: Remove, Read.
-/
import Derived.Test.YtjfohnkfcfifeaaRxC4
import Derived.Test.YtjfohnkfcfifeaaRxC
import Derived.BigRegion
namespace Go.Proofs.Ytjfohnkfcfifeaa
open Go.RowKit Go.Maps
set_option linter.unusedSimpArgs false
section
variable {w : World} {B x : Nat} {size : Int} {g : Xd} {cap : Nat}
def remC (g : Xd) (s : ByteArray) : Int := if g.off then 31 else if rint g.L s < 0 then 4 else 0
def remX (g : Xd) (s : ByteArray) : Xd := if remC g s = 0 then (dropX g (ridx g.L s)).did else g
def readV (g : Xd) (s : ByteArray) : ByteArray := if rint g.L s < 0 then ⟨#[]⟩ else (fileAt g s).bytes
def readC (g : Xd) (s : ByteArray) : Int := if rint g.L s < 0 then 4 else 0
set_option maxRecDepth 1000000 in
set_option maxHeartbeats 4000000 in
theorem XdAt.remove {eo : Option Addr} (h : XdAt w B x size g eo cap) (hB : B ≤ w.heap.size) (s : ByteArray) : Calls Try.prog 31 #[.pointer (some ⟨x, 0, none⟩), .string s] w fun e w' => e = .returned (.int .i64 (remC g s)) ∧ XdTo B w w' x size (FootZ x eo g.L.length cap) (remX g s) := by
  have HBB := hid hB
  clear hB
  have H := hid h
  have HOFF := hid (roffX h)
  have HFIND := hid (h.find s)
  clear h
  by_cases hoff : g.off = true
  · have HC : Hid (remC g s = 31 ∧ remX g s = g) := by
      have h1 : remC g s = 31 := by unfold remC; rw [if_pos hoff]
      exact ⟨h1, by unfold remX; rw [h1]; rfl⟩
    rw [hoff] at HOFF
    clear hoff
    go_enter Try.func31, Try.ntmps31
    go_wp2_with fail
    refine HOFF.out.mono ?_
    rintro e w1 ⟨rfl, rfl⟩
    go_wp2
    go_ret
    exact ⟨by rw [HC.out.1]; first | done | rfl, by rw [HC.out.2]; exact XdTo.same H.out (Below.refl _ _)⟩
  have hoff : g.off = false := by simpa using hoff
  have HOF := hid hoff
  rw [hoff] at HOFF
  clear hoff
  go_enter Try.func31, Try.ntmps31
  go_wp2_with fail
  refine HOFF.out.mono ?_
  rintro e w1 ⟨rfl, rfl⟩
  go_wp2_with fail
  refine HFIND.out.mono ?_
  rintro e w2 ⟨rfl, hb2⟩
  have HB2 := hid hb2
  clear hb2 HOFF HFIND
  by_cases hneg : rint g.L s < 0
  · have HC : Hid (remC g s = 4 ∧ remX g s = g) := by
      have h1 : remC g s = 4 := by unfold remC; rw [HOF.out, if_neg (by decide), if_pos hneg]
      exact ⟨h1, by unfold remX; rw [h1]; rfl⟩
    go_wp2
    go_ret
    exact ⟨by rw [HC.out.1]; first | done | rfl, by rw [HC.out.2]; exact XdTo.same H.out HB2.out⟩
  have HC : Hid (remC g s = 0) := by show _ = _; unfold remC; rw [HOF.out, if_neg (by decide), if_neg hneg]
  obtain ⟨k, hk1, hk2, hk3⟩ := rint_at hneg
  rw [hk1]
  have HX : Hid (remX g s = (dropX g k).did) := by show _ = _; unfold remX; rw [if_pos HC.out, hk3]
  have hkneg : ¬ (k : Int) < 0 := by omega
  have H2 := hid (H.out.below HB2.out)
  have HDR := hid (H2.out.drop (Nat.le_trans HBB.out HB2.out.size) k hk2)
  clear hneg hk1 hk2 hk3
  go_wp2_with fail
  refine HDR.out.mono ?_
  rintro e w3 ⟨rfl, h3⟩
  have HT := hid h3
  obtain ⟨eo3, cap3, h3a, _⟩ := h3
  have HD := hid (h3a.did (show (dropX g k).off = false from HOF.out))
  have H3 := hid h3a
  clear h3a HDR
  go_wp2_with fail
  refine HD.out.mono ?_
  rintro e w5 ⟨rfl, h5⟩
  have HF := hid (XdTo.trans (g1 := dropX g k) (g2 := (dropX g k).did) HT.out (fun eo1 cap1 h1 => by
    have h4 := blk_eqX h1.blk H3.out.blk
    simp only [List.cons.injEq, Value.slice.injEq] at h4
    obtain ⟨_, ⟨e1, _, e2⟩, _⟩ := h4
    subst e1 e2
    exact h5))
  clear h5 HD
  go_wp2
  go_ret
  refine ⟨by rw [HC.out]; first | done | rfl, ?_⟩
  rw [HX.out]
  exact XdTo.ahead HB2.out HF.out
set_option maxRecDepth 100000 in
theorem XdAt.read {eo : Option Addr} (h : XdAt w B x size g eo cap) (s : ByteArray) : Calls Try.prog 32 #[.pointer (some ⟨x, 0, none⟩), .string s] w fun e w' => e = .returned (.tuple #[.string (readV g s), .int .i64 (readC g s)]) ∧ Below w.heap.size w w' := by
  have H := hid h
  have HFIND := hid (h.find s)
  clear h
  go_enter Try.func32, Try.ntmps32
  go_wp2_with fail
  refine HFIND.out.mono ?_
  rintro e w2 ⟨rfl, hb2⟩
  have HB2 := hid hb2
  clear hb2 HFIND
  by_cases hneg : rint g.L s < 0
  · have HC : Hid (readC g s = 4 ∧ readV g s = ⟨#[]⟩) := ⟨by unfold readC; rw [if_pos hneg], by unfold readV; rw [if_pos hneg]⟩
    go_wp2
    go_ret2
    exact ⟨by rw [HC.out.1, HC.out.2]; first | done | rfl, HB2.out⟩
  have HC : Hid (readC g s = 0 ∧ readV g s = (fileAt g s).bytes) := ⟨by unfold readC; rw [if_neg hneg], by unfold readV; rw [if_neg hneg]⟩
  obtain ⟨k, hk1, hk2, hk3⟩ := rint_at hneg
  rw [hk1]
  have HK2 := hid hk2
  have HK3 := hid hk3
  obtain ⟨n, HN⟩ : ∃ n, Hid (g.L.length = n) := ⟨_, hid rfl⟩
  have hkn : (k : Int) < (n : Int) := by have := HN.out; omega
  have hk0 : (0 : Int) ≤ (k : Int) := by omega
  have hkneg : ¬ (k : Int) < 0 := by omega
  have H2 := hid (H.out.below HB2.out)
  obtain ⟨b, heo⟩ := H2.out.zero (by omega)
  subst heo
  have c1 := H2.out.blk.cell (i := 1) rfl
  rw [HN.out] at c1
  obtain ⟨b', off, hao, _, a0, a1, a2⟩ := H2.out.held.1.cellsD HK2.out
  cases hao
  obtain ⟨⟨qn, qb, qs⟩, HQ⟩ : ∃ z, Hid (g.L[k]'HK2.out = z) := ⟨_, hid rfl⟩
  rw [HQ.out] at a0 a1 a2
  simp only [Nat.zero_add] at a0 a1 a2
  have HFA : Hid (fileAt g s = ⟨qn, qb, qs⟩) := by
    show _ = _
    rw [fileAt_eq (by rw [HK3.out]; exact HK2.out)]
    simp only [HK3.out]
    exact HQ.out
  clear a0 a2 hneg hk1 hk2 hk3
  go_wp2
  go_ret2
  exact ⟨by rw [HC.out.1, HC.out.2, HFA.out]; first | done | rfl, HB2.out⟩
end
end Go.Proofs.Ytjfohnkfcfifeaa
