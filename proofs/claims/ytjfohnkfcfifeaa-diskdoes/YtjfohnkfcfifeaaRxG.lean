/-
  The document's disk: Rename.
-/
import Derived.Test.YtjfohnkfcfifeaaRxD
import Derived.Test.YtjfohnkfcfifeaaRxC4
import Derived.Test.YtjfohnkfcfifeaaNames
import Derived.BigRegion
namespace Go.Proofs.Ytjfohnkfcfifeaa
open Go.RowKit Go.Maps
set_option linter.unusedSimpArgs false
section
variable {w : World} {B x : Nat} {size : Int} {g : Xd} {cap : Nat}
def renC (g : Xd) (s t : ByteArray) : Int := if nameS t = false then 30 else if g.off then 31 else if rint g.L s < 0 then 4 else 0
/-- Without the file of a name, if there is one. -/
def lessX (g : Xd) (t : ByteArray) : Xd := if rint g.L t < 0 then g else dropX g (ridx g.L t)
def renX (g : Xd) (s t : ByteArray) : Xd := if renC g s t = 0 then (putX (lessX (dropX g (ridx g.L s)) t) { fileAt g s with name := t }).did else g
theorem lessX_len (g : Xd) (t : ByteArray) : (lessX g t).L.length ≤ g.L.length := by
  unfold lessX
  by_cases h : rint g.L t < 0
  · rw [if_pos h]; exact Nat.le_refl _
  · rw [if_neg h]
    obtain ⟨k, _, h2, h3⟩ := rint_at h
    have := dropL_len h2
    show (dropL g.L (ridx g.L t)).length ≤ _
    rw [h3]
    omega
theorem lessX_tot (g : Xd) (t : ByteArray) : rtotal (lessX g t).L ≤ rtotal g.L := by
  unfold lessX
  by_cases h : rint g.L t < 0
  · rw [if_pos h]; exact Nat.le_refl _
  · rw [if_neg h]
    obtain ⟨k, _, h2, h3⟩ := rint_at h
    have := rtotal_drop h2
    show rtotal (dropL g.L (ridx g.L t)) ≤ _
    rw [h3]
    omega
theorem XdTo.box {F : Nat → Prop} {w0 w1 W : World} {g1 : Xd} {fb : Nat} {eo1 : Option Addr} {cap1 : Nat} (h : XdTo B w0 w1 x size F g1) (h1 : XdAt w1 B x size g1 eo1 cap1) (hn : ¬ FootZ x eo1 g1.L.length cap1 fb) (hfb : w0.heap.size ≤ fb) (ht : Turns (fun i => i = fb) w1 W) : XdTo B w0 W x size F g1 := by
  obtain ⟨eo2, cap2, h3, h4, h5⟩ := h
  have h6 := blk_eqX h3.blk h1.blk
  simp only [List.cons.injEq, Value.slice.injEq] at h6
  obtain ⟨_, ⟨e1, _, e2⟩, _⟩ := h6
  subst e1 e2
  exact ⟨_, _, h3.turned ht (fun i hi e => by subst e; exact hn hi), h4.trans ht (fun i hi => .inr (by rw [hi]; exact hfb)), h5⟩
theorem lessX_off (g : Xd) (t : ByteArray) (f : Rf) : (putX (lessX g t) f).off = g.off := by
  unfold putX lessX
  split <;> rfl
theorem XdTo.at {F : Nat → Prop} {w0 w1 w2 : World} {g1 g2 : Xd} {eo1 : Option Addr} {cap1 : Nat} (h : XdTo B w0 w1 x size F g1) (h1 : XdAt w1 B x size g1 eo1 cap1) (h2 : XdTo B w1 w2 x size (FootZ x eo1 g1.L.length cap1) g2) : XdTo B w0 w2 x size F g2 := h.trans (fun eo2 cap2 h3 => by
  have h4 := blk_eqX h3.blk h1.blk
  simp only [List.cons.injEq, Value.slice.injEq] at h4
  obtain ⟨_, ⟨e1, _, e2⟩, _⟩ := h4
  subst e1 e2
  exact h2)
set_option maxRecDepth 1000000 in
set_option maxHeartbeats 4000000 in
theorem XdAt.rename {eo : Option Addr} (h : XdAt w B x size g eo cap) (hB : B ≤ w.heap.size) (s t : ByteArray) (ht : t.size ≤ maxLen) : Calls Try.prog 30 #[.pointer (some ⟨x, 0, none⟩), .string s, .string t] w fun e w' => e = .returned (.int .i64 (renC g s t)) ∧ XdTo B w w' x size (FootZ x eo g.L.length cap) (renX g s t) := by
  have HBB := hid hB
  have HNM := hid (refName_any t w ht)
  clear hB
  cases hn : nameS t with
  | false =>
    have H := hid h
    have HC : Hid (renC g s t = 30 ∧ renX g s t = g) := by
      have h1 : renC g s t = 30 := by unfold renC; rw [if_pos hn]
      exact ⟨h1, by unfold renX; rw [h1]; rfl⟩
    rw [hn] at HNM
    clear hn h
    go_enter Try.func30, Try.ntmps30
    go_wp2_with fail
    refine HNM.out.mono ?_
    rintro e w' ⟨rfl, rfl⟩
    go_wp2
    go_ret
    exact ⟨by rw [HC.out.1]; first | done | rfl, by rw [HC.out.2]; exact XdTo.same H.out (Below.refl _ _)⟩
  | true =>
  rw [hn] at HNM
  have HNT := hid hn
  clear hn
  have H := hid h
  have HOFF := hid (roffX h)
  have HFIND := hid (h.find s)
  clear h
  by_cases hoff : g.off = true
  · have HC : Hid (renC g s t = 31 ∧ renX g s t = g) := by
      have h1 : renC g s t = 31 := by unfold renC; rw [HNT.out, if_neg (by decide), if_pos hoff]
      exact ⟨h1, by unfold renX; rw [h1]; rfl⟩
    rw [hoff] at HOFF
    clear hoff
    go_enter Try.func30, Try.ntmps30
    go_wp2_with fail
    refine HNM.out.mono ?_
    rintro e w' ⟨rfl, rfl⟩
    go_wp2_with fail
    refine HOFF.out.mono ?_
    rintro e w1 ⟨rfl, rfl⟩
    go_wp2
    go_ret
    exact ⟨by rw [HC.out.1]; first | done | rfl, by rw [HC.out.2]; exact XdTo.same H.out (Below.refl _ _)⟩
  have hoff : g.off = false := by simpa using hoff
  have HOF := hid hoff
  rw [hoff] at HOFF
  clear hoff
  go_enter Try.func30, Try.ntmps30
  go_wp2_with fail
  refine HNM.out.mono ?_
  rintro e w' ⟨rfl, rfl⟩
  go_wp2_with fail
  refine HOFF.out.mono ?_
  rintro e w1 ⟨rfl, rfl⟩
  go_wp2_with fail
  refine HFIND.out.mono ?_
  rintro e w2 ⟨rfl, hb2⟩
  have HB2 := hid hb2
  clear hb2 HOFF HFIND HNM
  by_cases hneg : rint g.L s < 0
  · have HC : Hid (renC g s t = 4 ∧ renX g s t = g) := by
      have h1 : renC g s t = 4 := by unfold renC; rw [HNT.out, if_neg (by decide), HOF.out, if_neg (by decide), if_pos hneg]
      exact ⟨h1, by unfold renX; rw [h1]; rfl⟩
    go_wp2
    go_ret
    exact ⟨by rw [HC.out.1]; first | done | rfl, by rw [HC.out.2]; exact XdTo.same H.out HB2.out⟩
  have HC : Hid (renC g s t = 0) := by show _ = _; unfold renC; rw [HNT.out, if_neg (by decide), HOF.out, if_neg (by decide), if_neg hneg]
  obtain ⟨k, hk1, hk2, hk3⟩ := rint_at hneg
  rw [hk1]
  have HK2 := hid hk2
  have HK3 := hid hk3
  obtain ⟨n, HN⟩ : ∃ n, Hid (g.L.length = n) := ⟨_, hid rfl⟩
  have hkn : (k : Int) < (n : Int) := by have := HN.out; omega
  have hk0 : (0 : Int) ≤ (k : Int) := by omega
  have hkneg : ¬ (k : Int) < 0 := by omega
  have H2 := hid (H.out.below HB2.out)
  obtain ⟨b, heo⟩ := H2.out.zero (by omega)
  subst heo
  have c1 := H2.out.blk.cell (i := 1) rfl
  rw [HN.out] at c1
  obtain ⟨b', off, hao, _, a0, a1, a2⟩ := H2.out.held.1.cellsD HK2.out
  cases hao
  obtain ⟨⟨qn, qb, qs⟩, HQ⟩ : ∃ z, Hid (g.L[k]'HK2.out = z) := ⟨_, hid rfl⟩
  rw [HQ.out] at a0 a1 a2
  simp only [Nat.zero_add] at a0 a1 a2
  have HFA : Hid (fileAt g s = ⟨qn, qb, qs⟩) := by
    show _ = _
    rw [fileAt_eq (by rw [HK3.out]; exact HK2.out)]
    simp only [HK3.out]
    exact HQ.out
  have HX : Hid (renX g s t = (putX (lessX (dropX g k) t) ⟨t, qb, qs⟩).did) := by show _ = _; unfold renX; rw [if_pos HC.out, HK3.out, HFA.out]
  have HBT : Hid (B ≤ w2.heap.size) := Nat.le_trans HBB.out HB2.out.size
  -- the file's own box
  obtain ⟨W3, hW3⟩ : ∃ V, V = w2.alloc (.cells #[.string qn, .string qb, .int .i64 qs] 47) := ⟨_, rfl⟩
  obtain ⟨fb, hfb⟩ : ∃ q, q = w2.heap.size := ⟨_, rfl⟩
  have hb3 : Below w2.heap.size w2 W3 := by rw [hW3]; exact (Below.refl _ _).alloc (Nat.le_refl _) _
  have HFB : Hid (Blk W3 fb 47 [.string qn, .string qb, .int .i64 qs]) := by rw [hW3, hfb]; exact Blk.new _ _ _
  have H3 := hid (H2.out.below hb3)
  have HB3 := hid (btN HB2.out hb3)
  have HNF : Hid (¬ FootZ x (some ⟨b, 0, none⟩) g.L.length cap fb) := fun hf => by
    have := H2.out.foot_lt fb hf
    omega
  have HDR := hid (H3.out.drop (Nat.le_trans HBB.out HB3.out.size) k HK2.out)
  have HW3 := hid hW3
  have HFBE := hid hfb
  have HRM : Hid (rtotal (dropX g k).L + qb.size = rtotal g.L ∧ (dropX g k).L.length + 1 = n) := by
    have h1 := rtotal_drop HK2.out
    have h2 := dropL_len HK2.out
    rw [HQ.out] at h1
    rw [HN.out] at h2
    exact ⟨h1, h2⟩
  have HN64 : Hid (n ≤ 64) := by rw [← HN.out]; exact H.out.few
  have HROOM := hid H.out.room
  clear hb3 hW3 hfb hneg hk1 hk2 hk3
  go_wp2_with fail
  rw [← HW3.out, ← HFBE.out]
  clear c1 a0 a1 a2
  refine HDR.out.mono ?_
  rintro e w4 ⟨rfl, h4⟩
  have HT4 := hid h4
  obtain ⟨eo4, cap4, h4a, h4t, h4f⟩ := h4
  have H4 := hid h4a
  have HFB4 : Hid (Blk w4 fb 47 [.string qn, .string qb, .int .i64 qs]) := h4t.blk HFB.out HNF.out
  have HNF4 : Hid (¬ FootZ x eo4 (dropX g k).L.length cap4 fb) := fun hf => by
    rcases h4f fb hf with h | h
    · exact HNF.out h
    · have := HFB.out.lt
      omega
  have HB4 : Hid (B ≤ w4.heap.size) := Nat.le_trans HBT.out (Nat.le_trans (by have := HFBE.out; have h9 := HFB.out.lt; omega : w2.heap.size ≤ W3.heap.size) h4t.size)
  have HFD := hid (h4a.find t)
  clear h4a h4t h4f HDR
  go_wp2_with fail
  refine HFD.out.mono ?_
  rintro e w5 ⟨rfl, hb5⟩
  have H5 := hid (H4.out.below hb5)
  have HFB5 := hid (HFB4.out.below hb5 HFB4.out.lt)
  have HT5 : Hid (XdTo B W3 w5 x size (FootZ x (some ⟨b, 0, none⟩) g.L.length cap) (dropX g k)) := HT4.out.at H4.out (XdTo.same H4.out hb5)
  have HB5 : Hid (B ≤ w5.heap.size) := Nat.le_trans HB4.out hb5.size
  clear hb5 HFD
  have HTW : Hid (XdTo B w2 w5 x size (FootZ x (some ⟨b, 0, none⟩) g.L.length cap) (dropX g k)) := XdTo.ahead (by rw [HW3.out]; exact (Below.refl _ _).alloc (Nat.le_refl _) _) HT5.out
  have HFBS : Hid (w2.heap.size ≤ fb) := by rw [HFBE.out]; exact Nat.le_refl _
  by_cases hk2 : rint (dropX g k).L t < 0
  · have hle : lessX (dropX g k) t = dropX g k := by unfold lessX; rw [if_pos hk2]
    have H6 : Hid (XdAt w5 B x size (lessX (dropX g k) t) eo4 cap4) := by rw [hle]; exact H5.out
    have HT6 : Hid (XdTo B w2 w5 x size (FootZ x (some ⟨b, 0, none⟩) g.L.length cap) (lessX (dropX g k) t)) := by rw [hle]; exact HTW.out
    have HFB6 := hid HFB5.out
    have HNF6 : Hid (¬ FootZ x eo4 (lessX (dropX g k) t).L.length cap4 fb) := by rw [hle]; exact HNF4.out
    have hB6 := HB5.out
    have hkn2 : decide (0 ≤ rint (dropX g k).L t) = false := decide_eq_false (by omega)
    have hkn3 : ¬ 0 ≤ rint (dropX g k).L t := by omega
    obtain ⟨ri, HRI⟩ : ∃ ri, Hid (rint (dropX g k).L t = ri) := ⟨_, hid rfl⟩
    rw [HRI.out] at hk2 hkn2 hkn3 ⊢
    obtain ⟨w6, hw6⟩ : ∃ V, V = w5 := ⟨_, rfl⟩
    rw [← hw6] at H6 HT6 HFB6 hB6 ⊢
    clear hle hw6
    have HB6 : Hid (B ≤ w6.heap.size) := hB6
    have c0 := HFB6.out.cell (i := 0) rfl
    have c1 := HFB6.out.cell (i := 1) rfl
    have c2 := HFB6.out.cell (i := 2) rfl
    have f0 := HFB6.out.frozen 0
    obtain ⟨W7, hW7⟩ : ∃ V, V = w6.setCell ⟨fb, 0, none⟩ (.string t) := ⟨_, rfl⟩
    have ht7 : Turns (fun i => i = fb) w6 W7 := by rw [hW7]; exact (Turns.refl (fun i => i = fb) _).setCell (p := ⟨fb, 0, none⟩) (.inl rfl) _
    have HFB7 : Hid (Blk W7 fb 47 [.string t, .string qb, .int .i64 qs]) := by rw [hW7]; exact HFB6.out.set 0 (.string t)
    have H7 := hid (H6.out.turned ht7 (fun i hi e => by subst e; exact HNF6.out hi))
    have HT7 := hid (HT6.out.box H6.out HNF6.out HFBS.out ht7)
    have e0 := HFB7.out.cell (i := 0) rfl
    have e1 := HFB7.out.cell (i := 1) rfl
    have e2 := HFB7.out.cell (i := 2) rfl
    have HPT := hid (H7.out.put (Nat.le_trans HB6.out ht7.size) t qb qs (by have h1 := lessX_len (dropX g k) t; have h2 := HRM.out.2; have h3 := HN64.out; omega) (by have h1 := lessX_tot (dropX g k) t; have h2 := HRM.out.1; have h3 := HROOM.out; omega))
    have HW7 := hid hW7
    rw [hW7] at e0 e1 e2
    clear ht7 hW7
    go_wp2_with fail
    rw [← HW7.out]
    clear c0 c1 c2 f0 e0 e1 e2
    refine HPT.out.mono ?_
    rintro e w8 ⟨rfl, h8⟩
    have HT8 := hid (HT7.out.at H7.out h8)
    obtain ⟨eo8, cap8, h8a, _⟩ := h8
    have H8 := hid h8a
    have HD := hid (h8a.did (show (putX (lessX (dropX g k) t) ⟨t, qb, qs⟩).off = false from (lessX_off (dropX g k) t _).trans HOF.out))
    clear h8a HPT
    go_wp2_with fail
    refine HD.out.mono ?_
    rintro e w9 ⟨rfl, h9⟩
    have HF := hid (HT8.out.at H8.out h9)
    clear h9 HD
    go_wp2
    go_ret
    refine ⟨by rw [HC.out]; first | done | rfl, ?_⟩
    rw [HX.out]
    exact XdTo.ahead HB2.out HF.out
  · obtain ⟨k6, hk61, hk62, hk63⟩ := rint_at hk2
    have hle : lessX (dropX g k) t = dropX (dropX g k) k6 := by unfold lessX; rw [if_neg hk2, hk63]
    have HDR2 := hid (H5.out.drop HB5.out k6 hk62)
    have hkn3 : (0 : Int) ≤ (k6 : Int) := by omega
    rw [hk61]
    clear hk2 hk61 hk62 hk63
    go_wp2_with fail
    refine HDR2.out.mono ?_
    rintro e w6 ⟨rfl, h6⟩
    have HT6 : Hid (XdTo B w2 w6 x size (FootZ x (some ⟨b, 0, none⟩) g.L.length cap) (lessX (dropX g k) t)) := by rw [hle]; exact HTW.out.at H5.out h6
    obtain ⟨eo6, cap6, h6a, h6t, h6f⟩ := h6
    have H6 : Hid (XdAt w6 B x size (lessX (dropX g k) t) eo6 cap6) := by rw [hle]; exact h6a
    have HFB6 : Hid (Blk w6 fb 47 [.string qn, .string qb, .int .i64 qs]) := h6t.blk HFB5.out HNF4.out
    have HNF6 : Hid (¬ FootZ x eo6 (lessX (dropX g k) t).L.length cap6 fb) := fun hf => by
      rw [hle] at hf
      rcases h6f fb hf with h | h
      · exact HNF4.out h
      · have := HFB5.out.lt
        omega
    have hB6 := Nat.le_trans HB5.out h6t.size
    clear h6a h6t h6f hle HDR2
    have HB6 : Hid (B ≤ w6.heap.size) := hB6
    have c0 := HFB6.out.cell (i := 0) rfl
    have c1 := HFB6.out.cell (i := 1) rfl
    have c2 := HFB6.out.cell (i := 2) rfl
    have f0 := HFB6.out.frozen 0
    obtain ⟨W7, hW7⟩ : ∃ V, V = w6.setCell ⟨fb, 0, none⟩ (.string t) := ⟨_, rfl⟩
    have ht7 : Turns (fun i => i = fb) w6 W7 := by rw [hW7]; exact (Turns.refl (fun i => i = fb) _).setCell (p := ⟨fb, 0, none⟩) (.inl rfl) _
    have HFB7 : Hid (Blk W7 fb 47 [.string t, .string qb, .int .i64 qs]) := by rw [hW7]; exact HFB6.out.set 0 (.string t)
    have H7 := hid (H6.out.turned ht7 (fun i hi e => by subst e; exact HNF6.out hi))
    have HT7 := hid (HT6.out.box H6.out HNF6.out HFBS.out ht7)
    have e0 := HFB7.out.cell (i := 0) rfl
    have e1 := HFB7.out.cell (i := 1) rfl
    have e2 := HFB7.out.cell (i := 2) rfl
    have HPT := hid (H7.out.put (Nat.le_trans HB6.out ht7.size) t qb qs (by have h1 := lessX_len (dropX g k) t; have h2 := HRM.out.2; have h3 := HN64.out; omega) (by have h1 := lessX_tot (dropX g k) t; have h2 := HRM.out.1; have h3 := HROOM.out; omega))
    have HW7 := hid hW7
    rw [hW7] at e0 e1 e2
    clear ht7 hW7
    go_wp2_with fail
    rw [← HW7.out]
    clear c0 c1 c2 f0 e0 e1 e2
    refine HPT.out.mono ?_
    rintro e w8 ⟨rfl, h8⟩
    have HT8 := hid (HT7.out.at H7.out h8)
    obtain ⟨eo8, cap8, h8a, _⟩ := h8
    have H8 := hid h8a
    have HD := hid (h8a.did (show (putX (lessX (dropX g k) t) ⟨t, qb, qs⟩).off = false from (lessX_off (dropX g k) t _).trans HOF.out))
    clear h8a HPT
    go_wp2_with fail
    refine HD.out.mono ?_
    rintro e w9 ⟨rfl, h9⟩
    have HF := hid (HT8.out.at H8.out h9)
    clear h9 HD
    go_wp2
    go_ret
    refine ⟨by rw [HC.out]; first | done | rfl, ?_⟩
    rw [HX.out]
    exact XdTo.ahead HB2.out HF.out
end
end Go.Proofs.Ytjfohnkfcfifeaa
