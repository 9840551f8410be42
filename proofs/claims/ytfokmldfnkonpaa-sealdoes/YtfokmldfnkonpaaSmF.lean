/-
  What must come of every machine of orders: the laws' lives; SameOrder of equal orders.
-/
import Derived.Test.YtfokmldfnkonpaaSmE
import Derived.Test.YtfokmldfnkonpaaVvE
namespace Go.Proofs.Ytfokmldfnkonpaa
open Go.RowKit Go.Maps

set_option maxRecDepth 100000 in
set_option maxHeartbeats 1000000 in
theorem one_any (w : World) (t c : ByteArray) (ep : Int) : Calls Try.prog 15 #[.string t, .string c, .int .i64 ep] w fun e w' => e = .returned (.agg #[.bool false, .string t, .string c, .int .i64 ep, .slice none 0 0]) ∧ Below w.heap.size w w' := by
  obtain ⟨W, hW⟩ : ∃ W, W = w.alloc (.cells #[.bool false, .string t, .string c, .int .i64 ep, .slice none 0 0] 39) := ⟨_, rfl⟩
  have HB : Hid (Below w.heap.size w W) := by rw [hW]; exact (Below.refl _ _).alloc (Nat.le_refl _) _
  have hk : Blk W w.heap.size 39 [.bool false, .string t, .string c, .int .i64 ep, .slice none 0 0] := by rw [hW]; exact Blk.new w _ _
  have k0 := hk.cell (i := 0) rfl
  have k1 := hk.cell (i := 1) rfl
  have k2 := hk.cell (i := 2) rfl
  have k3 := hk.cell (i := 3) rfl
  have k4 := hk.cell (i := 4) rfl
  have HW := hid hW
  clear hW hk
  go_enter Try.func15, Try.ntmps15
  go_wp2
  rw [← HW.out]
  (try simp only [Exit.inBlock, Exit.then])
  refine bodyPost_ret (v := .agg #[.bool false, .string t, .string c, .int .i64 ep, .slice none 0 0]) ?_ rfl ⟨rfl, HB.out⟩
  rw [results_cell1B rfl]
  go_simp
/-- A block that is none of a machine's. -/
def OffM (p mi me : Nat) (v : Value) (q : Nat) : Prop := ¬ FootM p mi me v q
theorem SmAt.off {B : Nat} {w : World} {p mi me : Nat} {v : Value} {g : Sm} (h : SmAt B w p mi me v g) {q : Nat} (hq : w.heap.size ≤ q) : OffM p mi me v q := fun hf => by have := h.lt q hf; omega
theorem OffM.step {w : World} {p mi me : Nat} {v v' : Value} {q : Nat} (h : OffM p mi me v q) (hq : q < w.heap.size) (ho : v'.ownBlock = v.ownBlock ∨ ∃ k, v'.ownBlock = some k ∧ w.heap.size ≤ k) : OffM p mi me v' q := fun hf => by
  rcases hf with e | e | e | e
  · exact h (.inl e)
  · exact h (.inr (.inl e))
  · exact h (.inr (.inr (.inl e)))
  · rcases ho with h3 | ⟨k, h3, h4⟩
    · rw [h3] at e
      exact h (.inr (.inr (.inr e)))
    · rw [h3] at e
      have e1 : k = q := by simpa using e
      omega
def en1 : En := ⟨false, ⟨#[116]⟩, ⟨#[99]⟩, 0, []⟩
def en2 : En := ⟨false, ⟨#[117]⟩, ⟨#[99]⟩, 0, []⟩
def en3 : En := ⟨false, ⟨#[116]⟩, ⟨#[100]⟩, 7, []⟩
def en4 : En := ⟨false, ⟨#[117]⟩, ⟨#[99]⟩, 1, []⟩
theorem r_en1 : RightEn en1 = true := by decide
theorem r_en2 : RightEn en2 = true := by decide
theorem r_en3 : RightEn en3 = true := by decide
theorem r_en4 : RightEn en4 = true := by decide
def or1 : Or := ⟨1, ⟨#[116]⟩, ⟨#[99]⟩, 0, []⟩
def or2 : Or := ⟨2, ⟨#[117]⟩, ⟨#[99]⟩, 1, []⟩
theorem wy1 : wayO noSm en1 = 5 := way5 r_en1 rfl (by decide) (by decide) (by decide)
theorem sm1 : doS noSm en1 = ⟨[or1], 1⟩ := by rw [doS_way5 wy1]; rfl
theorem wy2 : wayO ⟨[or1], 1⟩ en2 = 3 := way3 r_en2 rfl (by decide) (by decide)
theorem sm2 : doS ⟨[or1], 1⟩ en2 = ⟨[or1], 2⟩ := doS_way wy2 (by decide) (by decide)
theorem wy3 : wayO ⟨[or1], 2⟩ en3 = 2 := way2 (o := or1) r_en3 rfl (by decide)
theorem sm3 : doS ⟨[or1], 2⟩ en3 = ⟨[or1], 3⟩ := doS_way wy3 (by decide) (by decide)
theorem wy4 : wayO ⟨[or1], 3⟩ en4 = 5 := way5 r_en4 rfl (by decide) (by decide) (by decide)
theorem sm4 : doS ⟨[or1], 3⟩ en4 = ⟨[or1, or2], 4⟩ := by rw [doS_way5 wy4]; rfl
theorem dr1 : doR noSm en1 = or1 := by unfold doR; rw [wy1]; rfl
theorem dr2 : doR ⟨[or1], 1⟩ en2 = zeroOr := by unfold doR; rw [wy2]; rfl
theorem dr3 : doR ⟨[or1], 2⟩ en3 = or1 := by unfold doR; rw [wy3]; decide
theorem dr4 : doR ⟨[or1], 3⟩ en4 = or2 := by unfold doR; rw [wy4]; rfl
theorem enOk_c (w : World) (e : En) (h : e.cut = []) (hi : I64 e.ep) (ht : e.tok.size ≤ maxLen) (hc : e.cart.size ≤ maxLen) : EnOk w ⟨e, none, 0⟩ := ⟨by show HV w none 0 e.cut; rw [h]; exact hv_nilS w, hi, ht, hc⟩
theorem en_do {B : Nat} {w : World} {p mi me : Nat} {v : Value} {g : Sm} (h : SmAt B w p mi me v g) (hB : B ≤ w.heap.size) (hdn : g.dn ≤ 4611686018427387904) (np : Bool) (t c : ByteArray) (ep : Int) (hi : I64 ep) (ht : t.size ≤ maxLen) (hc : c.size ≤ maxLen) {o : Or} {n : Nat} {b : Bool} {k : Int} {g' : Sm} (hr : doR g ⟨np, t, c, ep, []⟩ = o) (hw : wayO g ⟨np, t, c, ep, []⟩ = n) (hb : decide (n = 5) = b) (hk : codeO n = k) (hg : doS g ⟨np, t, c, ep, []⟩ = g') (ho : o.cut = []) :
    Calls Try.prog 10 #[.pointer (some ⟨p, 0, none⟩), .agg #[.bool np, .string t, .string c, .int .i64 ep, .slice none 0 0]] w fun e w' => ∃ bo cp v', e = .returned (.tuple #[.agg #[.int .i64 o.id, .string o.tok, .string o.cart, .int .i64 o.ep, .slice bo 0 cp], .bool b, .int .i64 k]) ∧ SmAt B w' p mi me v' g' ∧ Turns (FootM p mi me v) w w' ∧ (v'.ownBlock = v.ownBlock ∨ ∃ k, v'.ownBlock = some k ∧ w.heap.size ≤ k) ∧ Below B w w' := by
  refine (h.do hB hdn ⟨⟨np, t, c, ep, []⟩, none, 0⟩ (enOk_c w _ rfl hi ht hc) (fun b off e => by cases e)).mono ?_
  rintro e w' ⟨bo, cp, v', he, _, _, hs, htn, hov⟩
  refine ⟨bo, cp, v', ?_, by rw [← hg]; exact hs, htn, hov, htn.below (fun i hi => h.base i hi) hB⟩
  rw [he, hr, hw, hk, hb]
  simp only [OrM.val, ho, List.length_nil]
set_option maxRecDepth 100000 in
set_option maxHeartbeats 1000000 in
theorem livesSm (w : World) : Calls Try.prog 9 #[] w fun e w' => e = .returned (.bool true) ∧ Below w.heap.size w w' := by
  have HNEW := hid (newSm w)
  have HO1 := hid (fun V t c e => one_any V t c e)
  have HD1 := hid (fun V p mi me v (h : SmAt w.heap.size V p mi me v noSm) (hB : w.heap.size ≤ V.heap.size) => en_do h hB (by decide) false ⟨#[116]⟩ ⟨#[99]⟩ 0 (by unfold I64; decide) (by decide) (by decide) (b := true) (k := 0) dr1 wy1 (by decide) rfl sm1 rfl)
  have HD2 := hid (fun V p mi me v (h : SmAt w.heap.size V p mi me v ⟨[or1], 1⟩) (hB : w.heap.size ≤ V.heap.size) => en_do h hB (by decide) false ⟨#[117]⟩ ⟨#[99]⟩ 0 (by unfold I64; decide) (by decide) (by decide) (b := false) (k := 190) dr2 wy2 (by decide) rfl sm2 rfl)
  have HD3 := hid (fun V p mi me v (h : SmAt w.heap.size V p mi me v ⟨[or1], 2⟩) (hB : w.heap.size ≤ V.heap.size) => en_do h hB (by decide) false ⟨#[116]⟩ ⟨#[100]⟩ 7 (by unfold I64; decide) (by decide) (by decide) (b := false) (k := 0) dr3 wy3 (by decide) rfl sm3 rfl)
  have HD4 := hid (fun V p mi me v (h : SmAt w.heap.size V p mi me v ⟨[or1], 3⟩) (hB : w.heap.size ≤ V.heap.size) => en_do h hB (by decide) false ⟨#[117]⟩ ⟨#[99]⟩ 1 (by unfold I64; decide) (by decide) (by decide) (b := true) (k := 0) dr4 wy4 (by decide) rfl sm4 rfl)
  have HG1 : Hid (Sm.os ⟨[or1, or2], 4⟩ = [or1, or2] ∧ cntO ⟨#[99]⟩ [or1, or2] = 2) := ⟨rfl, by decide⟩
  have HDN := hid (fun V p mi me v (h : SmAt w.heap.size V p mi me v ⟨[or1, or2], 4⟩) => h.done)
  have HEP : Hid (∀ V p mi me v, SmAt w.heap.size V p mi me v ⟨[or1, or2], 4⟩ → Calls Try.prog 20 #[.pointer (some ⟨p, 0, none⟩), .string ⟨#[99]⟩] V fun e w' => e = .returned (.int .i64 2) ∧ w' = V) := fun V p mi me v h => by
    have h1 := h.epoch ⟨#[99]⟩ (by decide)
    rw [HG1.out.2] at h1
    exact h1
  generalize hg1 : (⟨[or1], 1⟩ : Sm) = G1 at HD1 HD2
  generalize hg2 : (⟨[or1], 2⟩ : Sm) = G2 at HD2 HD3
  generalize hg3 : (⟨[or1], 3⟩ : Sm) = G3 at HD3 HD4
  generalize hg4 : (⟨[or1, or2], 4⟩ : Sm) = G4 at HD4 HDN HEP
  have HG4 : Hid (G4.dn = 4) := by rw [← hg4]; exact rfl
  simp only [HG4.out] at HDN
  clear hg1 hg2 hg3 hg4 HG1
  simp only [or1, or2, zeroOr] at HD1 HD2 HD3 HD4
  go_enter Try.func9, Try.ntmps9
  go_wp2_with fail
  refine HNEW.out.mono ?_
  rintro e w0 ⟨p, mi, me, rfl, hat, hb1⟩
  obtain ⟨v0, hv0⟩ : ∃ v0, v0 = Value.slice none 0 0 := ⟨_, rfl⟩
  rw [← hv0] at hat
  have HS0 := hid hat
  have HB0 := hid hb1
  clear hat hb1 HNEW hv0
  go_wp2_with fail
  refine (HO1.out _ _ _ _).mono ?_
  rintro e y1 ⟨rfl, hby⟩
  have HSY1 := hid (HS0.out.below hby)
  have HBY1 := hid (bt' HB0.out hby)
  clear hby
  go_wp2_with fail
  refine (HD1.out _ _ _ _ _ HSY1.out HBY1.out.size).mono ?_
  rintro e z1 ⟨bo1, cp1, v1, rfl, hs, ht, ho, hb⟩
  obtain ⟨X1, hX1⟩ : ∃ V, V = z1.alloc (.cells #[.int .i64 1, .string ⟨#[116]⟩, .string ⟨#[99]⟩, .int .i64 0, .slice bo1 0 cp1] 32) := ⟨_, rfl⟩
  have hbx : Below z1.heap.size z1 X1 := by rw [hX1]; exact (Below.refl _ _).alloc (Nat.le_refl _) _
  have HS1 := hid (hs.below hbx)
  have HB1 := hid (bt' (HBY1.out.trans hb) hbx)
  obtain ⟨a1, ha1⟩ : ∃ k, k = z1.heap.size := ⟨_, rfl⟩
  have HA1 := hid ha1
  have HK1_2' : Hid (Blk X1 a1 32 [.int .i64 1, .string ⟨#[116]⟩, .string ⟨#[99]⟩, .int .i64 0, .slice bo1 0 cp1]) := by rw [hX1, ha1]; exact Blk.new _ _ _
  have HF1_2 : Hid (OffM p mi me v1 a1) := hs.off (by omega)
  have HX1 := hid hX1
  clear hs ht ho hb hbx hX1 ha1
  go_wp2_with fail
  rw [← HX1.out, ← HA1.out]
  refine (HO1.out _ _ _ _).mono ?_
  rintro e y2 ⟨rfl, hby⟩
  have HSY2 := hid (HS1.out.below hby)
  have HBY2 := hid (bt' HB1.out hby)
  have HK1_2 := hid (HK1_2'.out.below hby HK1_2'.out.lt)
  clear hby
  go_wp2_with fail
  refine (HD2.out _ _ _ _ _ HSY2.out HBY2.out.size).mono ?_
  rintro e z2 ⟨bo2, cp2, v2, rfl, hs, ht, ho, hb⟩
  obtain ⟨X2, hX2⟩ : ∃ V, V = z2.alloc (.cells #[.int .i64 0, .string ⟨#[]⟩, .string ⟨#[]⟩, .int .i64 0, .slice bo2 0 cp2] 32) := ⟨_, rfl⟩
  have hbx : Below z2.heap.size z2 X2 := by rw [hX2]; exact (Below.refl _ _).alloc (Nat.le_refl _) _
  have HS2 := hid (hs.below hbx)
  have HB2 := hid (bt' (HBY2.out.trans hb) hbx)
  obtain ⟨a2, ha2⟩ : ∃ k, k = z2.heap.size := ⟨_, rfl⟩
  have HA2 := hid ha2
  have HK2_3' : Hid (Blk X2 a2 32 [.int .i64 0, .string ⟨#[]⟩, .string ⟨#[]⟩, .int .i64 0, .slice bo2 0 cp2]) := by rw [hX2, ha2]; exact Blk.new _ _ _
  have HF2_3 : Hid (OffM p mi me v2 a2) := hs.off (by omega)
  have HK1_3' := hid ((ht.blk HK1_2.out HF1_2.out).below hbx (ht.blk HK1_2.out HF1_2.out).lt)
  have HF1_3 : Hid (OffM p mi me v2 a1) := HF1_2.out.step HK1_2.out.lt ho
  have HX2 := hid hX2
  clear hs ht ho hb hbx hX2 ha2
  go_wp2_with fail
  rw [← HX2.out, ← HA2.out]
  refine (HO1.out _ _ _ _).mono ?_
  rintro e y3 ⟨rfl, hby⟩
  have HSY3 := hid (HS2.out.below hby)
  have HBY3 := hid (bt' HB2.out hby)
  have HK1_3 := hid (HK1_3'.out.below hby HK1_3'.out.lt)
  have HK2_3 := hid (HK2_3'.out.below hby HK2_3'.out.lt)
  clear hby
  go_wp2_with fail
  refine (HD3.out _ _ _ _ _ HSY3.out HBY3.out.size).mono ?_
  rintro e z3 ⟨bo3, cp3, v3, rfl, hs, ht, ho, hb⟩
  obtain ⟨X3, hX3⟩ : ∃ V, V = z3.alloc (.cells #[.int .i64 1, .string ⟨#[116]⟩, .string ⟨#[99]⟩, .int .i64 0, .slice bo3 0 cp3] 32) := ⟨_, rfl⟩
  have hbx : Below z3.heap.size z3 X3 := by rw [hX3]; exact (Below.refl _ _).alloc (Nat.le_refl _) _
  have HS3 := hid (hs.below hbx)
  have HB3 := hid (bt' (HBY3.out.trans hb) hbx)
  obtain ⟨a3, ha3⟩ : ∃ k, k = z3.heap.size := ⟨_, rfl⟩
  have HA3 := hid ha3
  have HK3_4' : Hid (Blk X3 a3 32 [.int .i64 1, .string ⟨#[116]⟩, .string ⟨#[99]⟩, .int .i64 0, .slice bo3 0 cp3]) := by rw [hX3, ha3]; exact Blk.new _ _ _
  have HF3_4 : Hid (OffM p mi me v3 a3) := hs.off (by omega)
  have HK1_4' := hid ((ht.blk HK1_3.out HF1_3.out).below hbx (ht.blk HK1_3.out HF1_3.out).lt)
  have HF1_4 : Hid (OffM p mi me v3 a1) := HF1_3.out.step HK1_3.out.lt ho
  have HK2_4' := hid ((ht.blk HK2_3.out HF2_3.out).below hbx (ht.blk HK2_3.out HF2_3.out).lt)
  have HF2_4 : Hid (OffM p mi me v3 a2) := HF2_3.out.step HK2_3.out.lt ho
  have HX3 := hid hX3
  clear hs ht ho hb hbx hX3 ha3
  go_wp2_with fail
  rw [← HX3.out, ← HA3.out]
  refine (HO1.out _ _ _ _).mono ?_
  rintro e y4 ⟨rfl, hby⟩
  have HSY4 := hid (HS3.out.below hby)
  have HBY4 := hid (bt' HB3.out hby)
  have HK1_4 := hid (HK1_4'.out.below hby HK1_4'.out.lt)
  have HK2_4 := hid (HK2_4'.out.below hby HK2_4'.out.lt)
  have HK3_4 := hid (HK3_4'.out.below hby HK3_4'.out.lt)
  clear hby
  go_wp2_with fail
  refine (HD4.out _ _ _ _ _ HSY4.out HBY4.out.size).mono ?_
  rintro e z4 ⟨bo4, cp4, v4, rfl, hs, ht, ho, hb⟩
  obtain ⟨X4, hX4⟩ : ∃ V, V = z4.alloc (.cells #[.int .i64 2, .string ⟨#[117]⟩, .string ⟨#[99]⟩, .int .i64 1, .slice bo4 0 cp4] 32) := ⟨_, rfl⟩
  have hbx : Below z4.heap.size z4 X4 := by rw [hX4]; exact (Below.refl _ _).alloc (Nat.le_refl _) _
  have HS4 := hid (hs.below hbx)
  have HB4 := hid (bt' (HBY4.out.trans hb) hbx)
  obtain ⟨a4, ha4⟩ : ∃ k, k = z4.heap.size := ⟨_, rfl⟩
  have HA4 := hid ha4
  have HK4_5' : Hid (Blk X4 a4 32 [.int .i64 2, .string ⟨#[117]⟩, .string ⟨#[99]⟩, .int .i64 1, .slice bo4 0 cp4]) := by rw [hX4, ha4]; exact Blk.new _ _ _
  have HF4_5 : Hid (OffM p mi me v4 a4) := hs.off (by omega)
  have HK1_5' := hid ((ht.blk HK1_4.out HF1_4.out).below hbx (ht.blk HK1_4.out HF1_4.out).lt)
  have HF1_5 : Hid (OffM p mi me v4 a1) := HF1_4.out.step HK1_4.out.lt ho
  have HK2_5' := hid ((ht.blk HK2_4.out HF2_4.out).below hbx (ht.blk HK2_4.out HF2_4.out).lt)
  have HF2_5 : Hid (OffM p mi me v4 a2) := HF2_4.out.step HK2_4.out.lt ho
  have HK3_5' := hid ((ht.blk HK3_4.out HF3_4.out).below hbx (ht.blk HK3_4.out HF3_4.out).lt)
  have HF3_5 : Hid (OffM p mi me v4 a3) := HF3_4.out.step HK3_4.out.lt ho
  have HX4 := hid hX4
  clear hs ht ho hb hbx hX4 ha4
  have c1 := HK1_5'.out.cell (i := 0) rfl
  have c3 := HK3_5'.out.cell (i := 0) rfl
  have c4 := HK4_5'.out.cell (i := 0) rfl
  rw [HX4.out] at c1 c3 c4
  go_wp2_with fail
  rw [← HX4.out, ← HA4.out]
  refine (HDN.out _ _ _ _ _ HS4.out).mono ?_
  rintro e x1 ⟨rfl, rfl⟩
  go_wp2_with fail
  refine (HEP.out _ _ _ _ _ HS4.out).mono ?_
  rintro e x2 ⟨rfl, rfl⟩
  go_wp2
  go_ret
  exact ⟨rfl, HB4.out⟩
end Go.Proofs.Ytfokmldfnkonpaa
