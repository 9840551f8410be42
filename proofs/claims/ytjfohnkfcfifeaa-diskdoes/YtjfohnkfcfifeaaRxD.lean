/-
  The document's disk: put, all together.
-/
import Derived.Test.YtjfohnkfcfifeaaRxC1
import Derived.Test.YtjfohnkfcfifeaaRxC2
import Derived.Test.YtjfohnkfcfifeaaRxC3
import Derived.Test.YtjfohnkfcfifeaaRxC
import Derived.Test.YtjfohnkfcfifeaaNames
import Derived.BigRegion
namespace Go.Proofs.Ytjfohnkfcfifeaa
open Go.RowKit Go.Maps
set_option linter.unusedSimpArgs false
set_option maxRecDepth 1000000 in
set_option maxHeartbeats 40000000 in
theorem XdAt.put {w : World} {B x : Nat} {size : Int} {g : Xd} {eo : Option Addr} {cap : Nat} (h : XdAt w B x size g eo cap) (hB : B ≤ w.heap.size) (fn fb : ByteArray) (fs : Int) (hl : g.L.length < 64) (hroom : (rtotal g.L : Int) + fb.size ≤ size) : Calls Try.prog 51 #[.pointer (some ⟨x, 0, none⟩), .agg #[.string fn, .string fb, .int .i64 fs]] w fun e w' => e = .returned (.tuple #[]) ∧ XdTo B w w' x size (FootZ x eo g.L.length cap) (putX g ⟨fn, fb, fs⟩) := by
  by_cases hpos : rpos g.L fn < g.L.length
  · exact h.putMid hB fn fb fs hl hroom hpos
  · have hpos : rpos g.L fn = g.L.length := by have := rpos_le g.L fn; omega
    cases heo : eo with
    | none => subst heo; exact XdAt.putNone h hB fn fb fs hl hroom rfl hpos
    | some ad =>
      subst heo
      rcases h.row.2 with ⟨he, _⟩ | ⟨g', c', cur, he, _⟩
      · cases he
      · cases he
        exact XdAt.putEnd h hB fn fb fs hl hroom rfl hpos
end Go.Proofs.Ytjfohnkfcfifeaa
/-
  The document's disk: Append.
-/
namespace Go.Proofs.Ytjfohnkfcfifeaa
open Go.RowKit Go.Maps
set_option linter.unusedSimpArgs false
section
variable {w : World} {B x : Nat} {size : Int} {g : Xd} {cap : Nat}
def appC (g : Xd) (size : Int) (s : ByteArray) (len : Nat) : Int := if nameS s = false then 30 else if g.off then 31 else if size - (rtotal g.L : Int) < len ∨ (rint g.L s < 0 ∧ 64 ≤ g.L.length) then 2 else 0
def appX (g : Xd) (size : Int) (s : ByteArray) (str : ByteArray) : Xd := if appC g size s str.size = 0 then (if rint g.L s < 0 then (putX g ⟨s, str, 0⟩).did else (g.setL (ridx g.L s) { fileAt g s with bytes := (fileAt g s).bytes ++ str }).did) else g
theorem strOf_lenX (p : List Int) : (strOfNums p).size = p.length := strOfNums_size p
set_option maxRecDepth 1000000 in
set_option maxHeartbeats 4000000 in
theorem XdAt.append {eo : Option Addr} (h : XdAt w B x size g eo cap) (hB : B ≤ w.heap.size) (s : ByteArray) (hs : s.size ≤ maxLen) (ao : Option Addr) (len cp : Nat) (bs : List Int) (hH : Held w ao len cp bs) : Calls Try.prog 25 #[.pointer (some ⟨x, 0, none⟩), .string s, .slice ao len cp] w fun e w' => e = .returned (.int .i64 (appC g size s len)) ∧ XdTo B w w' x size (FootZ x eo g.L.length cap) (appX g size s (strOfNums bs)) := by
  have HBB := hid hB
  have HH := hid hH
  have HNM := hid (refName_any s w hs)
  obtain ⟨str, HSTR⟩ : ∃ str, Hid (strOfNums bs = str) := ⟨_, hid rfl⟩
  have HSZ : Hid (str.size = len) := by rw [← HSTR.out]; show _ = _; rw [strOf_lenX]; exact hH.hlen
  have HAX : Hid (appX g size s (strOfNums bs) = appX g size s str) := by show _ = _; rw [HSTR.out]
  clear hB hH
  cases hn : nameS s with
  | false =>
    have H := hid h
    have HC : Hid (appC g size s len = 30 ∧ appX g size s str = g) := by
      have h1 : ∀ l, appC g size s l = 30 := fun l => by unfold appC; rw [if_pos hn]
      exact ⟨h1 _, by unfold appX; rw [h1]; rfl⟩
    rw [hn] at HNM
    clear hn h
    go_enter Try.func25, Try.ntmps25
    go_wp2_with fail
    refine HNM.out.mono ?_
    rintro e w' ⟨rfl, rfl⟩
    go_wp2
    go_ret
    exact ⟨by rw [HC.out.1]; first | done | rfl, by rw [HAX.out, HC.out.2]; exact XdTo.same H.out (Below.refl _ _)⟩
  | true =>
  rw [hn] at HNM
  have HNT := hid hn
  clear hn
  have H := hid h
  have HOFF := hid (roffX h)
  have HFIND := hid (h.find s)
  clear h
  by_cases hoff : g.off = true
  · have HC : Hid (appC g size s len = 31 ∧ appX g size s str = g) := by
      have h1 : ∀ l, appC g size s l = 31 := fun l => by unfold appC; rw [HNT.out, if_neg (by decide), if_pos hoff]
      exact ⟨h1 _, by unfold appX; rw [h1]; rfl⟩
    rw [hoff] at HOFF
    clear hoff
    go_enter Try.func25, Try.ntmps25
    go_wp2_with fail
    refine HNM.out.mono ?_
    rintro e w' ⟨rfl, rfl⟩
    go_wp2_with fail
    refine HOFF.out.mono ?_
    rintro e w1 ⟨rfl, rfl⟩
    go_wp2
    go_ret
    exact ⟨by rw [HC.out.1]; first | done | rfl, by rw [HAX.out, HC.out.2]; exact XdTo.same H.out (Below.refl _ _)⟩
  have hoff : g.off = false := by simpa using hoff
  have HOF := hid hoff
  rw [hoff] at HOFF
  clear hoff
  obtain ⟨n, HN⟩ : ∃ n, Hid (g.L.length = n) := ⟨_, hid rfl⟩
  have HCC : Hid (appC g size s len = if size - (rtotal g.L : Int) < len ∨ (rint g.L s < 0 ∧ 64 ≤ n) then 2 else 0) := by show _ = _; unfold appC; rw [HNT.out, if_neg (by decide), HOF.out, if_neg (by decide), HN.out]
  obtain ⟨LF, HLF⟩ : ∃ LF, Hid (size - (rtotal g.L : Int) = LF) := ⟨_, hid rfl⟩
  rw [HLF.out] at HCC
  obtain ⟨fi, HFI⟩ : ∃ fi, Hid (rint g.L s = fi) := ⟨_, hid rfl⟩
  rw [HFI.out] at HCC HFIND
  go_enter Try.func25, Try.ntmps25
  go_wp2_with fail
  refine HNM.out.mono ?_
  rintro e w' ⟨rfl, rfl⟩
  go_wp2_with fail
  refine HOFF.out.mono ?_
  rintro e w1 ⟨rfl, rfl⟩
  go_wp2_with fail
  refine HFIND.out.mono ?_
  rintro e w2 ⟨rfl, hb2⟩
  have HB2 := hid hb2
  have H2 := hid (H.out.below hb2)
  have HH2 := hid (HH.out.below hb2 (Nat.le_refl _))
  have HLE := hid (rleft_any H2.out.rd)
  rw [HLF.out] at HLE
  clear hb2 HOFF HFIND HNM
  have c1 := H2.out.blk.cell (i := 1) rfl
  rw [HN.out] at c1
  by_cases hfull : LF < (len : Int)
  · have HC : Hid (appC g size s len = 2 ∧ appX g size s str = g) := by
      have h1 : appC g size s len = 2 := by rw [HCC.out, if_pos (.inl hfull)]
      exact ⟨h1, by unfold appX; rw [HSZ.out, h1]; rfl⟩
    have hd1 : decide (LF < (len : Int)) = true := decide_eq_true hfull
    go_wp2_with fail
    refine HLE.out.mono ?_
    rintro e w3 ⟨rfl, rfl⟩
    clear hfull
    go_wp2
    go_ret
    exact ⟨by rw [HC.out.1]; first | done | rfl, by rw [HAX.out, HC.out.2]; exact XdTo.same H.out HB2.out⟩
  have hd1 : decide (LF < (len : Int)) = false := decide_eq_false hfull
  by_cases hneg : fi < 0
  · by_cases hmany : 64 ≤ n
    · have HC : Hid (appC g size s len = 2 ∧ appX g size s str = g) := by
        have h1 : appC g size s len = 2 := by rw [HCC.out, if_pos (.inr ⟨hneg, hmany⟩)]
        exact ⟨h1, by unfold appX; rw [HSZ.out, h1]; rfl⟩
      have hm2 : (64 : Int) ≤ (n : Int) := by omega
      go_wp2_with fail
      refine HLE.out.mono ?_
      rintro e w3 ⟨rfl, rfl⟩
      clear hfull hmany
      go_wp2
      go_ret
      exact ⟨by rw [HC.out.1]; first | done | rfl, by rw [HAX.out, HC.out.2]; exact XdTo.same H.out HB2.out⟩
    · have HC : Hid (appC g size s len = 0) := by show _ = _; rw [HCC.out, if_neg (by omega)]
      have HX : Hid (appX g size s str = (putX g ⟨s, str, 0⟩).did) := by show _ = _; unfold appX; rw [HSZ.out, if_pos HC.out, HFI.out, if_pos hneg]
      have hm2 : ¬ (64 : Int) ≤ (n : Int) := by omega
      have hcv := run_convert_held (P := Try.prog) HH2.out 31 5 9 Try.underlying31 Try.underlying5 Try.underlying9
      rw [HSTR.out] at hcv
      have HPT := hid (H2.out.put (Nat.le_trans HBB.out HB2.out.size) s str 0 (by rw [HN.out]; omega) (by have h1 := HLF.out; have h2 := HSZ.out; omega))
      go_wp2_with fail
      refine HLE.out.mono ?_
      rintro e w3 ⟨rfl, rfl⟩
      clear hfull hmany
      go_wp2_with fail
      refine HPT.out.mono ?_
      rintro e w4 ⟨rfl, h3⟩
      have HT := hid h3
      obtain ⟨eo3, cap3, h3a, _⟩ := h3
      have HD := hid (h3a.did (show (putX g ⟨s, str, 0⟩).off = false from HOF.out))
      have H3 := hid h3a
      clear h3a HPT hcv
      go_wp2_with fail
      refine HD.out.mono ?_
      rintro e w5 ⟨rfl, h5⟩
      have HF := hid (XdTo.trans (g1 := putX g ⟨s, str, 0⟩) (g2 := (putX g ⟨s, str, 0⟩).did) HT.out (fun eo1 cap1 h1 => by
        have h4 := blk_eqX h1.blk H3.out.blk
        simp only [List.cons.injEq, Value.slice.injEq] at h4
        obtain ⟨_, ⟨e1, _, e2⟩, _⟩ := h4
        subst e1 e2
        exact h5))
      clear h5 HD
      go_wp2
      go_ret
      refine ⟨by rw [HC.out]; first | done | rfl, ?_⟩
      rw [HAX.out, HX.out]
      exact XdTo.ahead HB2.out HF.out
  · have HC : Hid (appC g size s len = 0) := by show _ = _; rw [HCC.out, if_neg (by omega)]
    have hneg2 : ¬ rint g.L s < 0 := by rw [HFI.out]; exact hneg
    obtain ⟨k, hk1, hk2, hk3⟩ := rint_at hneg2
    have hfk : fi = (k : Int) := by rw [← HFI.out]; exact hk1
    subst hfk
    have HK2 := hid hk2
    have HK3 := hid hk3
    have hkn : (k : Int) < (n : Int) := by have := HN.out; omega
    have hk0 : (0 : Int) ≤ (k : Int) := by omega
    have hkneg : ¬ (k : Int) < 0 := by omega
    obtain ⟨b, heo⟩ := H2.out.zero (by omega)
    subst heo
    obtain ⟨b', off, hao, _, a0, a1, a2⟩ := H2.out.held.1.cellsD HK2.out
    cases hao
    obtain ⟨⟨qn, qb, qs⟩, HQ⟩ : ∃ z, Hid (g.L[k]'HK2.out = z) := ⟨_, hid rfl⟩
    rw [HQ.out] at a1
    simp only [Nat.zero_add] at a1
    have HFA : Hid (fileAt g s = ⟨qn, qb, qs⟩) := by
      show _ = _
      rw [fileAt_eq (by rw [HK3.out]; exact HK2.out)]
      simp only [HK3.out]
      exact HQ.out
    have HX : Hid (appX g size s str = (g.setL k ⟨qn, qb ++ str, qs⟩).did) := by show _ = _; unfold appX; rw [HSZ.out, if_pos HC.out, if_neg hneg2, HK3.out, HFA.out]
    have f1 := row_frozenX H2.out.row (k * 3 + 1)
    have HST : Hid (∀ U W, Below w2.heap.size w2 U → W = U.setCell ⟨b, k * 3 + 1, none⟩ (.string (qb ++ str)) → XdAt W B x size (g.setL k ⟨qn, qb ++ str, qs⟩) (some ⟨b, 0, none⟩) cap ∧ Turns (fun i => i = b) U W) := fun U W hU hW => by
      refine (H2.out.below hU).store HK2.out 1 (by decide) _ _ (by rw [HQ.out]; rfl) ?_ hW
      have h1 := rtotal_set g.L k HK2.out ⟨qn, qb ++ str, qs⟩
      rw [HQ.out] at h1
      simp only [ByteArray.size_append] at h1
      have h2 := HLF.out
      have h3 := HSZ.out
      omega
    have hcv : (convert 31 9 (.slice ao len cp)).run Try.prog w2.drew = .ok (.string str) w2.drew := by
      rw [← HSTR.out]
      exact run_convert_held (P := Try.prog) (HH2.out.below (Below.refl _ _).drew (Nat.le_refl _)) 31 5 9 Try.underlying31 Try.underlying5 Try.underlying9
    have hbig : ¬ 9223372036854775807 < qb.size + str.size := by
      have h1 := rtotal_set g.L k HK2.out ⟨qn, qb ++ str, qs⟩
      rw [HQ.out] at h1
      simp only [ByteArray.size_append] at h1
      have h2 := H.out.room
      have h3 := HSZ.out
      have h4 := H.out.big
      have h5 := HLF.out
      have h6 : qb.size ≤ rtotal g.L := by
        have := rtotal_set g.L k HK2.out ⟨qn, ⟨#[]⟩, qs⟩
        rw [HQ.out] at this
        have h7 : (⟨#[]⟩ : ByteArray).size = 0 := rfl
        simp only [h7] at this
        omega
      omega
    clear a0 a2 hneg2 hk1 hk2 hk3
    go_wp2_with fail
    refine HLE.out.mono ?_
    rintro e w3 ⟨rfl, rfl⟩
    clear hfull hneg HLE HCC
    go_wp2
    go_region
    obtain ⟨hs1, hs2⟩ := HST.out w3 _ (Below.refl _ _) rfl
    obtain ⟨W3, hW3⟩ : ∃ V, V = (w3.setCell ⟨b, k * 3 + 1, none⟩ (.string (qb ++ str))).drew := ⟨_, rfl⟩
    have H3 : Hid (XdAt W3 B x size (g.setL k ⟨qn, qb ++ str, qs⟩) (some ⟨b, 0, none⟩) cap) := by rw [hW3]; exact hs1.below (Below.refl _ _).drew
    have HT3 : Hid (Turns (fun i => i = b) w3 W3) := by rw [hW3]; exact hs2.drew
    rw [← hW3]
    have HD := hid (H3.out.did (show (g.setL k ⟨qn, qb ++ str, qs⟩).off = false from HOF.out))
    clear hs1 hs2 hW3 c1 a1 f1 hcv hbig
    go_wp2_with fail
    refine HD.out.mono ?_
    rintro e w5 ⟨rfl, h5⟩
    have HF := hid (XdTo.cell H.out HB2.out H3.out HT3.out List.length_set h5)
    clear h5 HD
    go_wp2
    go_ret
    exact ⟨by rw [HC.out]; first | done | rfl, by rw [HAX.out, HX.out]; exact HF.out⟩
end
end Go.Proofs.Ytjfohnkfcfifeaa
