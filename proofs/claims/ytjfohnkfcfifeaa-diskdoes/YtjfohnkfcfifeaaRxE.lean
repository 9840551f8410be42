/-
  The document's disk: Cut.
-/
import Derived.Test.YtjfohnkfcfifeaaRxC
import Derived.BigRegion
namespace Go.Proofs.Ytjfohnkfcfifeaa
open Go.RowKit Go.Maps
set_option linter.unusedSimpArgs false
section
variable {w : World} {B x : Nat} {size : Int} {g : Xd} {cap : Nat}
def cutC (g : Xd) (s : ByteArray) (n : Int) : Int := if g.off then 31 else if rint g.L s < 0 then 4 else if n < 0 ∨ ((fileAt g s).bytes.size : Int) < n then 1 else 0
def cutX (g : Xd) (s : ByteArray) (n : Int) : Xd := if cutC g s n = 0 then (g.setL (ridx g.L s) { fileAt g s with bytes := (fileAt g s).bytes.extract 0 n.toNat, sure := n }).did else g
set_option maxRecDepth 1000000 in
set_option maxHeartbeats 4000000 in
theorem XdAt.cut {eo : Option Addr} (h : XdAt w B x size g eo cap) (s : ByteArray) (m : Int) : Calls Try.prog 28 #[.pointer (some ⟨x, 0, none⟩), .string s, .int .i64 m] w fun e w' => e = .returned (.int .i64 (cutC g s m)) ∧ XdTo B w w' x size (FootZ x eo g.L.length cap) (cutX g s m) := by
  have H := hid h
  have HOFF := hid (roffX h)
  have HFIND := hid (h.find s)
  clear h
  by_cases hoff : g.off = true
  · have HC : Hid (cutC g s m = 31 ∧ cutX g s m = g) := by
      have h1 : cutC g s m = 31 := by unfold cutC; rw [if_pos hoff]
      exact ⟨h1, by unfold cutX; rw [h1]; rfl⟩
    rw [hoff] at HOFF
    clear hoff
    go_enter Try.func28, Try.ntmps28
    go_wp2_with fail
    refine HOFF.out.mono ?_
    rintro e w1 ⟨rfl, rfl⟩
    go_wp2
    go_ret
    exact ⟨by rw [HC.out.1]; first | done | rfl, by rw [HC.out.2]; exact XdTo.same H.out (Below.refl _ _)⟩
  have hoff : g.off = false := by simpa using hoff
  have HOF := hid hoff
  rw [hoff] at HOFF
  clear hoff
  go_enter Try.func28, Try.ntmps28
  go_wp2_with fail
  refine HOFF.out.mono ?_
  rintro e w1 ⟨rfl, rfl⟩
  go_wp2_with fail
  refine HFIND.out.mono ?_
  rintro e w2 ⟨rfl, hb2⟩
  have HB2 := hid hb2
  clear hb2 HOFF HFIND
  by_cases hneg : rint g.L s < 0
  · have HC : Hid (cutC g s m = 4 ∧ cutX g s m = g) := by
      have h1 : cutC g s m = 4 := by unfold cutC; rw [HOF.out, if_neg (by decide), if_pos hneg]
      exact ⟨h1, by unfold cutX; rw [h1]; rfl⟩
    go_wp2
    go_ret
    exact ⟨by rw [HC.out.1]; first | done | rfl, by rw [HC.out.2]; exact XdTo.same H.out HB2.out⟩
  obtain ⟨k, hk1, hk2, hk3⟩ := rint_at hneg
  rw [hk1]
  have HK2 := hid hk2
  have HK3 := hid hk3
  obtain ⟨n, HN⟩ : ∃ n, Hid (g.L.length = n) := ⟨_, hid rfl⟩
  have hkn : (k : Int) < (n : Int) := by have := HN.out; omega
  have hk0 : (0 : Int) ≤ (k : Int) := by omega
  have hkneg : ¬ (k : Int) < 0 := by omega
  have H2 := hid (H.out.below HB2.out)
  obtain ⟨b, heo⟩ := H2.out.zero (by omega)
  subst heo
  have c1 := H2.out.blk.cell (i := 1) rfl
  rw [HN.out] at c1
  obtain ⟨b', off, hao, _, a0, a1, a2⟩ := H2.out.held.1.cellsD HK2.out
  cases hao
  obtain ⟨⟨qn, qb, qs⟩, HQ⟩ : ∃ z, Hid (g.L[k]'HK2.out = z) := ⟨_, hid rfl⟩
  rw [HQ.out] at a0 a1 a2
  simp only [Nat.zero_add] at a0 a1 a2
  have HFA : Hid (fileAt g s = ⟨qn, qb, qs⟩) := by
    show _ = _
    rw [fileAt_eq (by rw [HK3.out]; exact HK2.out)]
    simp only [HK3.out]
    exact HQ.out
  have HCC : Hid (cutC g s m = if m < 0 ∨ (qb.size : Int) < m then 1 else 0) := by show _ = _; unfold cutC; rw [HOF.out, if_neg (by decide), if_neg hneg, HFA.out]
  by_cases hm0 : m < 0
  · have HC : Hid (cutC g s m = 1 ∧ cutX g s m = g) := by
      have h1 : cutC g s m = 1 := by rw [HCC.out, if_pos (.inl hm0)]
      exact ⟨h1, by unfold cutX; rw [h1]; rfl⟩
    have hd0 : decide (m < 0) = true := decide_eq_true hm0
    clear a0 a2 hneg hk1 hk2 hk3
    go_wp2
    try go_quiet (fail)
    try go_wp2
    go_ret
    exact ⟨by rw [HC.out.1]; first | done | rfl, by rw [HC.out.2]; first | exact XdTo.same H.out HB2.out | exact XdTo.same H.out (below_dnX HB2.out _)⟩
  have hd0 : decide (m < 0) = false := decide_eq_false hm0
  by_cases hm1 : (qb.size : Int) < m
  · have HC : Hid (cutC g s m = 1 ∧ cutX g s m = g) := by
      have h1 : cutC g s m = 1 := by rw [HCC.out, if_pos (.inr hm1)]
      exact ⟨h1, by unfold cutX; rw [h1]; rfl⟩
    have hd1 : decide ((qb.size : Int) < m) = true := decide_eq_true hm1
    clear a0 a2 hneg hk1 hk2 hk3
    go_wp2
    try go_quiet (fail)
    try go_wp2
    go_ret
    exact ⟨by rw [HC.out.1]; first | done | rfl, by rw [HC.out.2]; first | exact XdTo.same H.out HB2.out | exact XdTo.same H.out (below_dnX HB2.out _)⟩
  have hd1 : decide ((qb.size : Int) < m) = false := decide_eq_false hm1
  have HC : Hid (cutC g s m = 0) := by show _ = _; rw [HCC.out, if_neg (by omega)]
  obtain ⟨m0, hm⟩ : ∃ m0 : Nat, m = (m0 : Int) := ⟨m.toNat, by omega⟩
  subst hm
  have HM : Hid (m0 ≤ qb.size) := (by omega : m0 ≤ qb.size)
  have hml : (m0 : Int) ≤ (qb.size : Int) := by omega
  have hm00 : (0 : Int) ≤ (m0 : Int) := by omega
  have HX : Hid (cutX g s (m0 : Int) = ((g.setL k ⟨qn, qb.extract 0 m0, qs⟩).setL k ⟨qn, qb.extract 0 m0, (m0 : Int)⟩).did) := by
    show _ = _
    unfold cutX
    rw [if_pos HC.out, HK3.out, HFA.out]
    unfold Xd.setL
    simp
  have f1 := row_frozenX H2.out.row (k * 3 + 1)
  have HSZ : Hid ((qb.extract 0 m0).size = m0) := by show _ = _; rw [ByteArray.size_extract]; have := HM.out; omega
  have HST : Hid (∀ U W, Below w2.heap.size w2 U → W = U.setCell ⟨b, k * 3 + 1, none⟩ (.string (qb.extract 0 m0)) → XdAt W B x size (g.setL k ⟨qn, qb.extract 0 m0, qs⟩) (some ⟨b, 0, none⟩) cap ∧ Turns (fun i => i = b) U W) := fun U W hU hW => by
    refine (H2.out.below hU).store HK2.out 1 (by decide) _ _ (by rw [HQ.out]; rfl) ?_ hW
    have h1 := rtotal_set g.L k HK2.out ⟨qn, qb.extract 0 m0, qs⟩
    rw [HQ.out] at h1
    simp only at h1
    have h2 := H.out.room
    have h3 := HSZ.out
    have h4 := HM.out
    omega
  clear a0 a2 hneg hk1 hk2 hk3 hm0 hm1 HCC
  go_wp2
  try go_quiet (fail)
  try go_wp2
  go_region
  obtain ⟨hs1, hs2⟩ := HST.out w2 _ (Below.refl _ _) rfl
  obtain ⟨W3, hW3⟩ : ∃ V, V = (w2.setCell ⟨b, k * 3 + 1, none⟩ (.string (qb.extract 0 m0))).drew := ⟨_, rfl⟩
  have H3 : Hid (XdAt W3 B x size (g.setL k ⟨qn, qb.extract 0 m0, qs⟩) (some ⟨b, 0, none⟩) cap) := by rw [hW3]; exact hs1.below (Below.refl _ _).drew
  have HT3 : Hid (Turns (fun i => i = b) w2 W3) := by rw [hW3]; exact hs2.drew
  rw [← hW3]
  clear hs1 hs2 hW3 c1 a1 f1
  have HL3 : Hid ((g.setL k ⟨qn, qb.extract 0 m0, qs⟩).L.length = n) := by show _ = _; rw [← HN.out]; exact List.length_set
  have c3 := H3.out.blk.cell (i := 1) rfl
  rw [HL3.out] at c3
  have HK3L : Hid (k < (g.setL k ⟨qn, qb.extract 0 m0, qs⟩).L.length) := by rw [HL3.out, ← HN.out]; exact HK2.out
  have HQ3 : Hid ((g.setL k ⟨qn, qb.extract 0 m0, qs⟩).L[k]'HK3L.out = ⟨qn, qb.extract 0 m0, qs⟩) := by show _ = _; unfold Xd.setL; simp
  obtain ⟨b', off, hao, _, _, _, d2⟩ := H3.out.held.1.cellsD HK3L.out
  cases hao
  rw [HQ3.out] at d2
  simp only [Nat.zero_add] at d2
  have f2 := row_frozenX H3.out.row (k * 3 + 2)
  obtain ⟨hs1, hs2⟩ := H3.out.store (W := W3.setCell ⟨b, k * 3 + 2, none⟩ (.int .i64 (m0 : Int))) HK3L.out 2 (by decide) (.int .i64 (m0 : Int)) ⟨qn, qb.extract 0 m0, (m0 : Int)⟩ (by rw [HQ3.out]; rfl) (by
    have h1 := rtotal_set (g.setL k ⟨qn, qb.extract 0 m0, qs⟩).L k HK3L.out ⟨qn, qb.extract 0 m0, (m0 : Int)⟩
    rw [HQ3.out] at h1
    simp only at h1
    have h2 := H3.out.room
    omega) rfl
  have HS1 := hid hs1
  have HS2 := hid hs2
  obtain ⟨W4, hW4⟩ : ∃ V, V = W3.setCell ⟨b, k * 3 + 2, none⟩ (.int .i64 (m0 : Int)) := ⟨_, rfl⟩
  have HD := hid (HS1.out.did (show ((g.setL k ⟨qn, qb.extract 0 m0, qs⟩).setL k ⟨qn, qb.extract 0 m0, (m0 : Int)⟩).off = false from HOF.out))
  rw [← hW4] at HS1 HS2 HD
  have HW4 := hid hW4
  clear hs1 hs2 hW4
  go_wp2_with fail
  rw [← HW4.out]
  clear c3 d2 f2
  refine HD.out.mono ?_
  rintro e w5 ⟨rfl, h5⟩
  have HF := hid (XdTo.cell H.out HB2.out HS1.out (HT3.out.trans HS2.out (fun i hi => .inl hi)) (List.length_set.trans List.length_set) h5)
  clear h5 HD
  go_wp2
  go_ret
  exact ⟨by rw [HC.out]; first | done | rfl, by rw [HX.out]; exact HF.out⟩
end
end Go.Proofs.Ytjfohnkfcfifeaa
