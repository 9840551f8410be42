/-
  The document's writers (pannierref01): a ballot, a vector, a seal, an event.
-/
import Derived.Test.YtfmnbehopdmahaaGreatRfV
namespace Go.Proofs.YtfmnbehopdmahaaGreat
open Go.RowKit Go.Maps
attribute [local go_sem] Oper.semAt_some

set_option maxRecDepth 100000 in
set_option maxHeartbeats 2000000 in
theorem rballotW (w : World) (r nd : Int) (h1 : 0 ≤ r ∧ r ≤ 2147483647) (h2 : 0 ≤ nd ∧ nd ≤ 6) :
    Calls Tryz.prog 68 #[.agg #[.int .i64 r, .int .i64 nd]] w (WrP (enc r.toNat ++ enc nd.toNat) w) := by
  obtain ⟨W, hW⟩ : ∃ W, W = w.alloc (.cells #[.int .i64 r, .int .i64 nd] 35) := ⟨_, rfl⟩
  have HB : Hid (Below w.heap.size w W) := by rw [hW]; exact (Below.refl _ _).alloc (Nat.le_refl _) _
  have HK : Hid (Blk W w.heap.size 35 [.int .i64 r, .int .i64 nd]) := by rw [hW]; exact Blk.new w _ _
  obtain ⟨B, HBW⟩ : ∃ B, Hid (B = W.heap.size) := ⟨_, hid rfl⟩
  have HBL : Hid (B ≤ W.heap.size) := by rw [HBW.out]; exact Nat.le_refl _
  have HFB : Hid (w.heap.size ≤ B) := by rw [HBW.out]; exact HB.out.size
  obtain ⟨b1, HE1⟩ : ∃ b, Hid (enc (r).toNat = b ∧ b.length ≤ 10) := ⟨_, hid ⟨rfl, enc_le10 (by omega)⟩⟩
  have HC1 : Hid (∀ V, Below B W V → Calls Tryz.prog 67 #[.int .u64 r] V (EncP B W V b1)) := fun V hV => by
    refine enc_step ?_ (by rw [← HE1.out.1]; exact enc_byte _) (by rw [← HE1.out.1]; exact enc_pos _) hV HBL.out
    rw [← HE1.out.1]
    exact refUint_any r V (by omega) (by omega)
  obtain ⟨b2, HE2⟩ : ∃ b, Hid (enc (nd).toNat = b ∧ b.length ≤ 10) := ⟨_, hid ⟨rfl, enc_le10 (by omega)⟩⟩
  have HC2 : Hid (∀ V, Below B W V → Calls Tryz.prog 67 #[.int .u64 nd] V (EncP B W V b2)) := fun V hV => by
    refine enc_step ?_ (by rw [← HE2.out.1]; exact enc_byte _) (by rw [← HE2.out.1]; exact enc_pos _) hV HBL.out
    rw [← HE2.out.1]
    exact refUint_any nd V (by omega) (by omega)
  have hwr1 : IntKind.u64.wrap r = r := by rw [IntKind.wrap_u64]; omega
  have hwr2 : IntKind.u64.wrap nd = nd := by rw [IntKind.wrap_u64]; omega
  have HEN : Hid (enc r.toNat ++ enc nd.toNat = b1 ++ b2) := by show _ = _; rw [HE1.out.1, HE2.out.1]
  rw [HEN.out]
  have HSZ : Hid (b1.length ≤ 10 ∧ b2.length ≤ 10) := ⟨HE1.out.2, HE2.out.2⟩
  have HSA : Hid (∀ V, Below B W V → (Below B W V ∧ V.cell? ⟨w.heap.size, 0, none⟩ = some (.int .i64 r) ∧ V.cell? ⟨w.heap.size, 1, none⟩ = some (.int .i64 nd))) := fun V hV => by
    have hk := HK.out.below hV (by rw [HBW.out]; exact HK.out.lt)
    exact ⟨hV, hk.cell rfl, hk.cell rfl⟩
  have HW := hid hW
  clear hW HBW HE1 HE2 HEN h1 h2
  go_enter Tryz.func68, Tryz.ntmps68
  go_wp2_with fail
  rw [← HW.out]
  obtain ⟨p, hp⟩ : ∃ p, p = w.heap.size := ⟨_, rfl⟩
  rw [← hp] at HSA ⊢
  clear hp HW HK
  obtain ⟨-, q0, q1⟩ := HSA.out _ (Below.refl _ _)
  go_region_held3 (fun V => Below B W V ∧ V.cell? ⟨p, 0, none⟩ = some (.int .i64 r) ∧ V.cell? ⟨p, 1, none⟩ = some (.int .i64 nd)) (first | assumption | (refine HSA.out _ ?_; first | assumption | exact (Below.refl _ _) | exact below_dr1 (Below.refl _ _))) (first
    | (go_at_call 67; (with_reducible refine (HC1.out _ ?_).mono ?_); (first | assumption | exact (Below.refl _ _) | exact below_dr1 (Below.refl _ _)); rintro e w1 ⟨v1, g1, rfl, r1H, s1, k1⟩)
    | (go_at_call 67; (with_reducible refine (HC2.out _ ?_).mono ?_); (first | assumption | exact s1 | exact below_dr1 s1); rintro e w2 ⟨v2, g2, rfl, r2H, s2, k2⟩)
    | (refine step_append_rw _ (by rfl) _ _ (by rfl) B W g1 g2 v1 v2 b1 b2 (by rfl) (by rfl) (k2.out _ _ _ r1H.out).1 r2H.out (by have := HSZ.out; (try simp only [List.length_append]); omega) s2 HBL.out ?_; rintro x3 w3 ⟨x3g, x3H, s3, k3⟩)
    | fail)
  clear q0 q1
  have HF : Hid (Below w.heap.size w w3) := HB.out.trans (s3.mono HFB.out)
  have HO : Hid (w3.ownsRow w.heap.size 5 1 x3 (b1 ++ b2).length (nums (b1 ++ b2))) := ownsRow_base x3H.out.own HFB.out
  clear s1 s2 s3 HSA HC1 HC2
  go_wp2
  go_ret
  exact ⟨_, rfl, HO.out, HF.out⟩

set_option maxRecDepth 100000 in
set_option maxHeartbeats 2000000 in
theorem rsealW (w : World) (tk ct : ByteArray) (ep : Int) (ao : Option Addr) (cap : Nat) (cut : List Int) (np : Bool) (hf : SeF ⟨np, tk, ct, ep, cut⟩) (hv : HV w ao cap cut) :
    Calls Tryz.prog 111 #[.agg #[.string tk, .string ct, .int .i64 ep, .slice ao cut.length cap]] w (WrP (encText tk ++ encText ct ++ enc ep.toNat ++ encVC cut) w) := by
  obtain ⟨f1, f2, f3, f4, f5⟩ := hf
  dsimp only at f1 f2 f3 f4 f5
  obtain ⟨XN, HXN⟩ : ∃ m, Hid (cut.length = m) := ⟨_, hid rfl⟩
  rw [HXN.out] at f4 ⊢
  obtain ⟨W, hW⟩ : ∃ W, W = w.alloc (.cells #[.string tk, .string ct, .int .i64 ep, .slice ao XN cap] 37) := ⟨_, rfl⟩
  have HB : Hid (Below w.heap.size w W) := by rw [hW]; exact (Below.refl _ _).alloc (Nat.le_refl _) _
  have HK : Hid (Blk W w.heap.size 37 [.string tk, .string ct, .int .i64 ep, .slice ao XN cap]) := by rw [hW]; exact Blk.new w _ _
  obtain ⟨B, HBW⟩ : ∃ B, Hid (B = W.heap.size) := ⟨_, hid rfl⟩
  have HBL : Hid (B ≤ W.heap.size) := by rw [HBW.out]; exact Nat.le_refl _
  have HFB : Hid (w.heap.size ≤ B) := by rw [HBW.out]; exact HB.out.size
  obtain ⟨b1, HE1⟩ : ∃ b, Hid (encText tk = b ∧ b.length ≤ 42) := ⟨_, hid ⟨rfl, text_len f1⟩⟩
  have HC1 : Hid (∀ V, Below B W V → Calls Tryz.prog 112 #[.string tk] V (EncP B W V b1)) := fun V hV => by
    refine enc_step ?_ (by rw [← HE1.out.1]; exact encText_byP _) (by rw [← HE1.out.1]; exact by unfold encText; rw [List.length_append]; have := enc_pos tk.size; omega) hV HBL.out
    rw [← HE1.out.1]
    exact refText_any tk V (by omega)
  obtain ⟨b2, HE2⟩ : ∃ b, Hid (encText ct = b ∧ b.length ≤ 42) := ⟨_, hid ⟨rfl, text_len f2⟩⟩
  have HC2 : Hid (∀ V, Below B W V → Calls Tryz.prog 112 #[.string ct] V (EncP B W V b2)) := fun V hV => by
    refine enc_step ?_ (by rw [← HE2.out.1]; exact encText_byP _) (by rw [← HE2.out.1]; exact by unfold encText; rw [List.length_append]; have := enc_pos ct.size; omega) hV HBL.out
    rw [← HE2.out.1]
    exact refText_any ct V (by omega)
  obtain ⟨b3, HE3⟩ : ∃ b, Hid (enc (ep).toNat = b ∧ b.length ≤ 10) := ⟨_, hid ⟨rfl, enc_le10 (by omega)⟩⟩
  have HC3 : Hid (∀ V, Below B W V → Calls Tryz.prog 67 #[.int .u64 ep] V (EncP B W V b3)) := fun V hV => by
    refine enc_step ?_ (by rw [← HE3.out.1]; exact enc_byte _) (by rw [← HE3.out.1]; exact enc_pos _) hV HBL.out
    rw [← HE3.out.1]
    exact refUint_any ep V (by omega) (by omega)
  obtain ⟨b4, HE4⟩ : ∃ b, Hid (encVC cut = b ∧ b.length ≤ 80) := ⟨_, hid ⟨rfl, vec_len (by rw [HXN.out]; exact f4) f5⟩⟩
  have HC4 : Hid (∀ V, Below B W V → Calls Tryz.prog 70 #[.slice ao XN cap] V (EncP B W V b4)) := fun V hV => by
    refine enc_step ?_ (by rw [← HE4.out.1]; exact encVC_byP _) (by rw [← HE4.out.1]; exact by unfold encVC; rw [List.length_append]; have := enc_pos (cut).length; omega) hV HBL.out
    rw [← HE4.out.1]
    exact rvectorW V ao cap cut XN HXN.out ((hv.below HB.out).below (by have h := hV; rw [HBW.out] at h; exact h)) f4 f5
  have hwr3 : IntKind.u64.wrap ep = ep := by rw [IntKind.wrap_u64]; omega
  have HEN : Hid (encText tk ++ encText ct ++ enc ep.toNat ++ encVC cut = b1 ++ b2 ++ b3 ++ b4) := by show _ = _; rw [HE1.out.1, HE2.out.1, HE3.out.1, HE4.out.1]
  rw [HEN.out]
  have HSZ : Hid (b1.length ≤ 42 ∧ b2.length ≤ 42 ∧ b3.length ≤ 10 ∧ b4.length ≤ 80) := ⟨HE1.out.2, HE2.out.2, HE3.out.2, HE4.out.2⟩
  have HSA : Hid (∀ V, Below B W V → (Below B W V ∧ V.cell? ⟨w.heap.size, 0, none⟩ = some (.string tk) ∧ V.cell? ⟨w.heap.size, 1, none⟩ = some (.string ct) ∧ V.cell? ⟨w.heap.size, 2, none⟩ = some (.int .i64 ep) ∧ V.cell? ⟨w.heap.size, 3, none⟩ = some (.slice ao XN cap))) := fun V hV => by
    have hk := HK.out.below hV (by rw [HBW.out]; exact HK.out.lt)
    exact ⟨hV, hk.cell rfl, hk.cell rfl, hk.cell rfl, hk.cell rfl⟩
  have HW := hid hW
  clear hW HBW HE1 HE2 HE3 HE4 HEN f1 f2 f3 f4 f5 hv
  go_enter Tryz.func111, Tryz.ntmps111
  go_wp2_with fail
  rw [← HW.out]
  obtain ⟨p, hp⟩ : ∃ p, p = w.heap.size := ⟨_, rfl⟩
  rw [← hp] at HSA ⊢
  clear hp HW HK
  obtain ⟨-, q0, q1, q2, q3⟩ := HSA.out _ (Below.refl _ _)
  go_region_held3 (fun V => Below B W V ∧ V.cell? ⟨p, 0, none⟩ = some (.string tk) ∧ V.cell? ⟨p, 1, none⟩ = some (.string ct) ∧ V.cell? ⟨p, 2, none⟩ = some (.int .i64 ep) ∧ V.cell? ⟨p, 3, none⟩ = some (.slice ao XN cap)) (first | assumption | (refine HSA.out _ ?_; first | assumption | exact (Below.refl _ _) | exact below_dr1 (Below.refl _ _))) (first
    | (go_at_call 112; (with_reducible refine (HC1.out _ ?_).mono ?_); (first | assumption | exact (Below.refl _ _) | exact below_dr1 (Below.refl _ _)); rintro e w1 ⟨v1, g1, rfl, r1H, s1, k1⟩)
    | (go_at_call 112; (with_reducible refine (HC2.out _ ?_).mono ?_); (first | assumption | exact s1 | exact below_dr1 s1); rintro e w2 ⟨v2, g2, rfl, r2H, s2, k2⟩)
    | (refine step_append_rw _ (by rfl) _ _ (by rfl) B W g1 g2 v1 v2 b1 b2 (by rfl) (by rfl) (k2.out _ _ _ r1H.out).1 r2H.out (by have := HSZ.out; (try simp only [List.length_append]); omega) s2 HBL.out ?_; rintro x3 w3 ⟨x3g, x3H, s3, k3⟩)
    | fail)
  clear q0 q1 q2 q3
  go_wp2_with fail
  obtain ⟨-, q0, q1, q2, q3⟩ := HSA.out _ s3
  go_region_held3 (fun V => Below B W V ∧ V.cell? ⟨p, 0, none⟩ = some (.string tk) ∧ V.cell? ⟨p, 1, none⟩ = some (.string ct) ∧ V.cell? ⟨p, 2, none⟩ = some (.int .i64 ep) ∧ V.cell? ⟨p, 3, none⟩ = some (.slice ao XN cap)) (first | assumption | (refine HSA.out _ ?_; first | assumption | exact s3 | exact below_dr1 s3)) (first
    | (go_at_call 67; (with_reducible refine (HC3.out _ ?_).mono ?_); (first | assumption | exact s3 | exact below_dr1 s3); rintro e w4 ⟨v3, g3, rfl, r3H, s4, k4⟩)
    | (refine step_append_rw _ (by rfl) _ _ (by rfl) B W x3g g3 x3 v3 (b1 ++ b2) b3 (by rfl) (by rfl) (k4.out _ _ _ (Rw.dr x3H.out)).1 r3H.out (by have := HSZ.out; (try simp only [List.length_append]); omega) s4 HBL.out ?_; rintro x5 w5 ⟨x5g, x5H, s5, k5⟩)
    | (go_at_call 70; (with_reducible refine (HC4.out _ ?_).mono ?_); (first | assumption | exact s5 | exact below_dr1 s5); rintro e w6 ⟨v4, g4, rfl, r4H, s6, k6⟩)
    | (refine step_append_rw _ (by rfl) _ _ (by rfl) B W x5g g4 x5 v4 ((b1 ++ b2) ++ b3) b4 (by rfl) (by rfl) (k6.out _ _ _ x5H.out).1 r4H.out (by have := HSZ.out; (try simp only [List.length_append]); omega) s6 HBL.out ?_; rintro x7 w7 ⟨x7g, x7H, s7, k7⟩)
    | fail)
  clear q0 q1 q2 q3
  have HF : Hid (Below w.heap.size w w7) := HB.out.trans (s7.mono HFB.out)
  have HO : Hid (w7.ownsRow w.heap.size 5 1 x7 (b1 ++ b2 ++ b3 ++ b4).length (nums (b1 ++ b2 ++ b3 ++ b4))) := ownsRow_base x7H.out.own HFB.out
  clear s1 s2 s3 s4 s5 s6 s7 HSA HC1 HC2 HC3 HC4
  go_wp2
  go_ret
  exact ⟨_, rfl, HO.out, HF.out⟩

theorem rtruth_true (w : World) : Calls Tryz.prog 113 #[.bool true] w fun e w' => e = .returned (.int .u8 1) ∧ w' = w := by
  go_enter Tryz.func113, Tryz.ntmps113
  go_wp2
  go_ret
  exact ⟨rfl, rfl⟩
set_option maxRecDepth 100000 in
set_option maxHeartbeats 2000000 in
theorem revent_true (w : World) (o s : Int) (ao : Option Addr) (cap : Nat) (dp : List Int) (ct : ByteArray) (ep : Int) (sk : ByteArray) (q : Int) (hf : EvF ⟨o, s, dp, ct, ep, sk, q, true⟩) (hv : HV w ao cap dp) :
    Calls Tryz.prog 71 #[.agg #[.int .i64 o, .int .i64 s, .slice ao dp.length cap, .string ct, .int .i64 ep, .string sk, .int .i64 q, .bool true]] w (WrP (enc o.toNat ++ enc s.toNat ++ encVC dp ++ encText ct ++ enc ep.toNat ++ encText sk ++ enc q.toNat ++ [1]) w) := by
  obtain ⟨f1, f2, f3, f4, f5, f6, f7, f8⟩ := hf
  dsimp only at f1 f2 f3 f4 f5 f6 f7 f8
  obtain ⟨XN, HXN⟩ : ∃ m, Hid (dp.length = m) := ⟨_, hid rfl⟩
  rw [HXN.out] at f3 ⊢
  have HCT : Hid (∀ V, Calls Tryz.prog 113 #[.bool true] V fun e w' => e = .returned (.int .u8 1) ∧ w' = V) := fun V => rtruth_true V
  obtain ⟨W, hW⟩ : ∃ W, W = w.alloc (.cells #[.int .i64 o, .int .i64 s, .slice ao XN cap, .string ct, .int .i64 ep, .string sk, .int .i64 q, .bool true] 97) := ⟨_, rfl⟩
  have HB : Hid (Below w.heap.size w W) := by rw [hW]; exact (Below.refl _ _).alloc (Nat.le_refl _) _
  have HK : Hid (Blk W w.heap.size 97 [.int .i64 o, .int .i64 s, .slice ao XN cap, .string ct, .int .i64 ep, .string sk, .int .i64 q, .bool true]) := by rw [hW]; exact Blk.new w _ _
  obtain ⟨B, HBW⟩ : ∃ B, Hid (B = W.heap.size) := ⟨_, hid rfl⟩
  have HBL : Hid (B ≤ W.heap.size) := by rw [HBW.out]; exact Nat.le_refl _
  have HFB : Hid (w.heap.size ≤ B) := by rw [HBW.out]; exact HB.out.size
  obtain ⟨b1, HE1⟩ : ∃ b, Hid (enc (o).toNat = b ∧ b.length ≤ 10) := ⟨_, hid ⟨rfl, enc_le10 (by omega)⟩⟩
  have HC1 : Hid (∀ V, Below B W V → Calls Tryz.prog 67 #[.int .u64 o] V (EncP B W V b1)) := fun V hV => by
    refine enc_step ?_ (by rw [← HE1.out.1]; exact enc_byte _) (by rw [← HE1.out.1]; exact enc_pos _) hV HBL.out
    rw [← HE1.out.1]
    exact refUint_any o V (by omega) (by omega)
  obtain ⟨b2, HE2⟩ : ∃ b, Hid (enc (s).toNat = b ∧ b.length ≤ 10) := ⟨_, hid ⟨rfl, enc_le10 (by omega)⟩⟩
  have HC2 : Hid (∀ V, Below B W V → Calls Tryz.prog 67 #[.int .u64 s] V (EncP B W V b2)) := fun V hV => by
    refine enc_step ?_ (by rw [← HE2.out.1]; exact enc_byte _) (by rw [← HE2.out.1]; exact enc_pos _) hV HBL.out
    rw [← HE2.out.1]
    exact refUint_any s V (by omega) (by omega)
  obtain ⟨b3, HE3⟩ : ∃ b, Hid (encVC dp = b ∧ b.length ≤ 80) := ⟨_, hid ⟨rfl, vec_len (by rw [HXN.out]; exact f3) f4⟩⟩
  have HC3 : Hid (∀ V, Below B W V → Calls Tryz.prog 70 #[.slice ao XN cap] V (EncP B W V b3)) := fun V hV => by
    refine enc_step ?_ (by rw [← HE3.out.1]; exact encVC_byP _) (by rw [← HE3.out.1]; exact by unfold encVC; rw [List.length_append]; have := enc_pos (dp).length; omega) hV HBL.out
    rw [← HE3.out.1]
    exact rvectorW V ao cap dp XN HXN.out ((hv.below HB.out).below (by have h := hV; rw [HBW.out] at h; exact h)) f3 f4
  obtain ⟨b4, HE4⟩ : ∃ b, Hid (encText ct = b ∧ b.length ≤ 42) := ⟨_, hid ⟨rfl, text_len f5⟩⟩
  have HC4 : Hid (∀ V, Below B W V → Calls Tryz.prog 112 #[.string ct] V (EncP B W V b4)) := fun V hV => by
    refine enc_step ?_ (by rw [← HE4.out.1]; exact encText_byP _) (by rw [← HE4.out.1]; exact by unfold encText; rw [List.length_append]; have := enc_pos ct.size; omega) hV HBL.out
    rw [← HE4.out.1]
    exact refText_any ct V (by omega)
  obtain ⟨b5, HE5⟩ : ∃ b, Hid (enc (ep).toNat = b ∧ b.length ≤ 10) := ⟨_, hid ⟨rfl, enc_le10 (by omega)⟩⟩
  have HC5 : Hid (∀ V, Below B W V → Calls Tryz.prog 67 #[.int .u64 ep] V (EncP B W V b5)) := fun V hV => by
    refine enc_step ?_ (by rw [← HE5.out.1]; exact enc_byte _) (by rw [← HE5.out.1]; exact enc_pos _) hV HBL.out
    rw [← HE5.out.1]
    exact refUint_any ep V (by omega) (by omega)
  obtain ⟨b6, HE6⟩ : ∃ b, Hid (encText sk = b ∧ b.length ≤ 42) := ⟨_, hid ⟨rfl, text_len f7⟩⟩
  have HC6 : Hid (∀ V, Below B W V → Calls Tryz.prog 112 #[.string sk] V (EncP B W V b6)) := fun V hV => by
    refine enc_step ?_ (by rw [← HE6.out.1]; exact encText_byP _) (by rw [← HE6.out.1]; exact by unfold encText; rw [List.length_append]; have := enc_pos sk.size; omega) hV HBL.out
    rw [← HE6.out.1]
    exact refText_any sk V (by omega)
  obtain ⟨b7, HE7⟩ : ∃ b, Hid (enc (q).toNat = b ∧ b.length ≤ 10) := ⟨_, hid ⟨rfl, enc_le10 (by omega)⟩⟩
  have HC7 : Hid (∀ V, Below B W V → Calls Tryz.prog 67 #[.int .u64 q] V (EncP B W V b7)) := fun V hV => by
    refine enc_step ?_ (by rw [← HE7.out.1]; exact enc_byte _) (by rw [← HE7.out.1]; exact enc_pos _) hV HBL.out
    rw [← HE7.out.1]
    exact refUint_any q V (by omega) (by omega)
  have hwr1 : IntKind.u64.wrap o = o := by rw [IntKind.wrap_u64]; omega
  have hwr2 : IntKind.u64.wrap s = s := by rw [IntKind.wrap_u64]; omega
  have hwr5 : IntKind.u64.wrap ep = ep := by rw [IntKind.wrap_u64]; omega
  have hwr7 : IntKind.u64.wrap q = q := by rw [IntKind.wrap_u64]; omega
  have HEN : Hid (enc o.toNat ++ enc s.toNat ++ encVC dp ++ encText ct ++ enc ep.toNat ++ encText sk ++ enc q.toNat ++ [1] = b1 ++ b2 ++ b3 ++ b4 ++ b5 ++ b6 ++ b7 ++ [1]) := by show _ = _; rw [HE1.out.1, HE2.out.1, HE3.out.1, HE4.out.1, HE5.out.1, HE6.out.1, HE7.out.1]
  rw [HEN.out]
  have HSZ : Hid (b1.length ≤ 10 ∧ b2.length ≤ 10 ∧ b3.length ≤ 80 ∧ b4.length ≤ 42 ∧ b5.length ≤ 10 ∧ b6.length ≤ 42 ∧ b7.length ≤ 10) := ⟨HE1.out.2, HE2.out.2, HE3.out.2, HE4.out.2, HE5.out.2, HE6.out.2, HE7.out.2⟩
  have HSA : Hid (∀ V, Below B W V → (Below B W V ∧ V.cell? ⟨w.heap.size, 0, none⟩ = some (.int .i64 o) ∧ V.cell? ⟨w.heap.size, 1, none⟩ = some (.int .i64 s) ∧ V.cell? ⟨w.heap.size, 2, none⟩ = some (.slice ao XN cap) ∧ V.cell? ⟨w.heap.size, 3, none⟩ = some (.string ct) ∧ V.cell? ⟨w.heap.size, 4, none⟩ = some (.int .i64 ep) ∧ V.cell? ⟨w.heap.size, 5, none⟩ = some (.string sk) ∧ V.cell? ⟨w.heap.size, 6, none⟩ = some (.int .i64 q) ∧ V.cell? ⟨w.heap.size, 7, none⟩ = some (.bool true))) := fun V hV => by
    have hk := HK.out.below hV (by rw [HBW.out]; exact HK.out.lt)
    exact ⟨hV, hk.cell rfl, hk.cell rfl, hk.cell rfl, hk.cell rfl, hk.cell rfl, hk.cell rfl, hk.cell rfl, hk.cell rfl⟩
  have HW := hid hW
  clear hW HBW HE1 HE2 HE3 HE4 HE5 HE6 HE7 HEN f1 f2 f3 f4 f5 f6 f7 f8 hv
  go_enter Tryz.func71, Tryz.ntmps71
  go_wp2_with fail
  rw [← HW.out]
  obtain ⟨p, hp⟩ : ∃ p, p = w.heap.size := ⟨_, rfl⟩
  rw [← hp] at HSA ⊢
  clear hp HW HK
  obtain ⟨-, q0, q1, q2, q3, q4, q5, q6, q7⟩ := HSA.out _ (Below.refl _ _)
  go_region_held3 (fun V => Below B W V ∧ V.cell? ⟨p, 0, none⟩ = some (.int .i64 o) ∧ V.cell? ⟨p, 1, none⟩ = some (.int .i64 s) ∧ V.cell? ⟨p, 2, none⟩ = some (.slice ao XN cap) ∧ V.cell? ⟨p, 3, none⟩ = some (.string ct) ∧ V.cell? ⟨p, 4, none⟩ = some (.int .i64 ep) ∧ V.cell? ⟨p, 5, none⟩ = some (.string sk) ∧ V.cell? ⟨p, 6, none⟩ = some (.int .i64 q) ∧ V.cell? ⟨p, 7, none⟩ = some (.bool true)) (first | assumption | (refine HSA.out _ ?_; first | assumption | exact (Below.refl _ _) | exact below_dr1 (Below.refl _ _))) (first
    | (go_at_call 67; (with_reducible refine (HC1.out _ ?_).mono ?_); (first | assumption | exact (Below.refl _ _) | exact below_dr1 (Below.refl _ _)); rintro e w1 ⟨v1, g1, rfl, r1H, s1, k1⟩)
    | (go_at_call 67; (with_reducible refine (HC2.out _ ?_).mono ?_); (first | assumption | exact s1 | exact below_dr1 s1); rintro e w2 ⟨v2, g2, rfl, r2H, s2, k2⟩)
    | (refine step_append_rw _ (by rfl) _ _ (by rfl) B W g1 g2 v1 v2 b1 b2 (by rfl) (by rfl) (k2.out _ _ _ r1H.out).1 r2H.out (by have := HSZ.out; (try simp only [List.length_append]); omega) s2 HBL.out ?_; rintro x3 w3 ⟨x3g, x3H, s3, k3⟩)
    | fail)
  clear q0 q1 q2 q3 q4 q5 q6 q7
  go_wp2_with fail
  obtain ⟨-, q0, q1, q2, q3, q4, q5, q6, q7⟩ := HSA.out _ s3
  go_region_held3 (fun V => Below B W V ∧ V.cell? ⟨p, 0, none⟩ = some (.int .i64 o) ∧ V.cell? ⟨p, 1, none⟩ = some (.int .i64 s) ∧ V.cell? ⟨p, 2, none⟩ = some (.slice ao XN cap) ∧ V.cell? ⟨p, 3, none⟩ = some (.string ct) ∧ V.cell? ⟨p, 4, none⟩ = some (.int .i64 ep) ∧ V.cell? ⟨p, 5, none⟩ = some (.string sk) ∧ V.cell? ⟨p, 6, none⟩ = some (.int .i64 q) ∧ V.cell? ⟨p, 7, none⟩ = some (.bool true)) (first | assumption | (refine HSA.out _ ?_; first | assumption | exact s3 | exact below_dr1 s3)) (first
    | (go_at_call 70; (with_reducible refine (HC3.out _ ?_).mono ?_); (first | assumption | exact s3 | exact below_dr1 s3); rintro e w4 ⟨v3, g3, rfl, r3H, s4, k4⟩)
    | (refine step_append_rw _ (by rfl) _ _ (by rfl) B W x3g g3 x3 v3 (b1 ++ b2) b3 (by rfl) (by rfl) (k4.out _ _ _ (Rw.dr x3H.out)).1 r3H.out (by have := HSZ.out; (try simp only [List.length_append]); omega) s4 HBL.out ?_; rintro x5 w5 ⟨x5g, x5H, s5, k5⟩)
    | (go_at_call 112; (with_reducible refine (HC4.out _ ?_).mono ?_); (first | assumption | exact s5 | exact below_dr1 s5); rintro e w6 ⟨v4, g4, rfl, r4H, s6, k6⟩)
    | (refine step_append_rw _ (by rfl) _ _ (by rfl) B W x5g g4 x5 v4 ((b1 ++ b2) ++ b3) b4 (by rfl) (by rfl) (k6.out _ _ _ x5H.out).1 r4H.out (by have := HSZ.out; (try simp only [List.length_append]); omega) s6 HBL.out ?_; rintro x7 w7 ⟨x7g, x7H, s7, k7⟩)
    | fail)
  clear q0 q1 q2 q3 q4 q5 q6 q7
  go_wp2_with fail
  obtain ⟨-, q0, q1, q2, q3, q4, q5, q6, q7⟩ := HSA.out _ s7
  go_region_held3 (fun V => Below B W V ∧ V.cell? ⟨p, 0, none⟩ = some (.int .i64 o) ∧ V.cell? ⟨p, 1, none⟩ = some (.int .i64 s) ∧ V.cell? ⟨p, 2, none⟩ = some (.slice ao XN cap) ∧ V.cell? ⟨p, 3, none⟩ = some (.string ct) ∧ V.cell? ⟨p, 4, none⟩ = some (.int .i64 ep) ∧ V.cell? ⟨p, 5, none⟩ = some (.string sk) ∧ V.cell? ⟨p, 6, none⟩ = some (.int .i64 q) ∧ V.cell? ⟨p, 7, none⟩ = some (.bool true)) (first | assumption | (refine HSA.out _ ?_; first | assumption | exact s7 | exact below_dr1 s7)) (first
    | (go_at_call 67; (with_reducible refine (HC5.out _ ?_).mono ?_); (first | assumption | exact s7 | exact below_dr1 s7); rintro e w8 ⟨v5, g5, rfl, r5H, s8, k8⟩)
    | (refine step_append_rw _ (by rfl) _ _ (by rfl) B W x7g g5 x7 v5 (((b1 ++ b2) ++ b3) ++ b4) b5 (by rfl) (by rfl) (k8.out _ _ _ (Rw.dr x7H.out)).1 r5H.out (by have := HSZ.out; (try simp only [List.length_append]); omega) s8 HBL.out ?_; rintro x9 w9 ⟨x9g, x9H, s9, k9⟩)
    | (go_at_call 112; (with_reducible refine (HC6.out _ ?_).mono ?_); (first | assumption | exact s9 | exact below_dr1 s9); rintro e w10 ⟨v6, g6, rfl, r6H, s10, k10⟩)
    | (refine step_append_rw _ (by rfl) _ _ (by rfl) B W x9g g6 x9 v6 ((((b1 ++ b2) ++ b3) ++ b4) ++ b5) b6 (by rfl) (by rfl) (k10.out _ _ _ x9H.out).1 r6H.out (by have := HSZ.out; (try simp only [List.length_append]); omega) s10 HBL.out ?_; rintro x11 w11 ⟨x11g, x11H, s11, k11⟩)
    | fail)
  clear q0 q1 q2 q3 q4 q5 q6 q7
  go_wp2_with fail
  obtain ⟨-, q0, q1, q2, q3, q4, q5, q6, q7⟩ := HSA.out _ s11
  go_region_held3 (fun V => Below B W V ∧ V.cell? ⟨p, 0, none⟩ = some (.int .i64 o) ∧ V.cell? ⟨p, 1, none⟩ = some (.int .i64 s) ∧ V.cell? ⟨p, 2, none⟩ = some (.slice ao XN cap) ∧ V.cell? ⟨p, 3, none⟩ = some (.string ct) ∧ V.cell? ⟨p, 4, none⟩ = some (.int .i64 ep) ∧ V.cell? ⟨p, 5, none⟩ = some (.string sk) ∧ V.cell? ⟨p, 6, none⟩ = some (.int .i64 q) ∧ V.cell? ⟨p, 7, none⟩ = some (.bool true)) (first | assumption | (refine HSA.out _ ?_; first | assumption | exact s11 | exact below_dr1 s11 | exact s13.alloc (Nat.le_trans HBL.out s13.size) _)) (first
    | (go_at_call 67; (with_reducible refine (HC7.out _ ?_).mono ?_); (first | assumption | exact s11 | exact below_dr1 s11); rintro e w12 ⟨v7, g7, rfl, r7H, s12, k12⟩)
    | (refine step_append_rw _ (by rfl) _ _ (by rfl) B W x11g g7 x11 v7 (((((b1 ++ b2) ++ b3) ++ b4) ++ b5) ++ b6) b7 (by rfl) (by rfl) (k12.out _ _ _ (Rw.dr x11H.out)).1 r7H.out (by have := HSZ.out; (try simp only [List.length_append]); omega) s12 HBL.out ?_; rintro x13 w13 ⟨x13g, x13H, s13, k13⟩)
    | (go_at_call 113; (with_reducible refine (HCT.out _).mono ?_); rintro e wt ⟨rfl, hwt⟩; rw [hwt])
    | (refine step_append_rw _ (by rfl) _ _ (by rfl) B W x13g w13.heap.size x13 (.slice (some ⟨w13.heap.size, 0, none⟩) 1 1) ((((((b1 ++ b2) ++ b3) ++ b4) ++ b5) ++ b6) ++ b7) [1] (by rfl) (by rfl) (Rw.alloc x13H.out _) (Rw.one _ 1 (by decide) (Nat.le_trans HBL.out s13.size)) (by have := HSZ.out; simp only [List.length_append, List.length_cons, List.length_nil]; omega) (s13.alloc (Nat.le_trans HBL.out s13.size) _) HBL.out ?_; rintro x14 w14 ⟨x14g, x14H, s14, k14⟩)
    | fail)
  clear q0 q1 q2 q3 q4 q5 q6 q7
  have HF : Hid (Below w.heap.size w w14) := HB.out.trans (s14.mono HFB.out)
  have HO : Hid (w14.ownsRow w.heap.size 5 1 x14 (b1 ++ b2 ++ b3 ++ b4 ++ b5 ++ b6 ++ b7 ++ [1]).length (nums (b1 ++ b2 ++ b3 ++ b4 ++ b5 ++ b6 ++ b7 ++ [1]))) := ownsRow_base x14H.out.own HFB.out
  clear s1 s2 s3 s4 s5 s6 s7 s8 s9 s10 s11 s12 s13 s14 HSA HC1 HC2 HC3 HC4 HC5 HC6 HC7
  go_wp2
  go_ret
  exact ⟨_, rfl, HO.out, HF.out⟩

theorem rtruth_false (w : World) : Calls Tryz.prog 113 #[.bool false] w fun e w' => e = .returned (.int .u8 0) ∧ w' = w := by
  go_enter Tryz.func113, Tryz.ntmps113
  go_wp2
  go_ret
  exact ⟨rfl, rfl⟩
set_option maxRecDepth 100000 in
set_option maxHeartbeats 2000000 in
theorem revent_false (w : World) (o s : Int) (ao : Option Addr) (cap : Nat) (dp : List Int) (ct : ByteArray) (ep : Int) (sk : ByteArray) (q : Int) (hf : EvF ⟨o, s, dp, ct, ep, sk, q, false⟩) (hv : HV w ao cap dp) :
    Calls Tryz.prog 71 #[.agg #[.int .i64 o, .int .i64 s, .slice ao dp.length cap, .string ct, .int .i64 ep, .string sk, .int .i64 q, .bool false]] w (WrP (enc o.toNat ++ enc s.toNat ++ encVC dp ++ encText ct ++ enc ep.toNat ++ encText sk ++ enc q.toNat ++ [0]) w) := by
  obtain ⟨f1, f2, f3, f4, f5, f6, f7, f8⟩ := hf
  dsimp only at f1 f2 f3 f4 f5 f6 f7 f8
  obtain ⟨XN, HXN⟩ : ∃ m, Hid (dp.length = m) := ⟨_, hid rfl⟩
  rw [HXN.out] at f3 ⊢
  have HCT : Hid (∀ V, Calls Tryz.prog 113 #[.bool false] V fun e w' => e = .returned (.int .u8 0) ∧ w' = V) := fun V => rtruth_false V
  obtain ⟨W, hW⟩ : ∃ W, W = w.alloc (.cells #[.int .i64 o, .int .i64 s, .slice ao XN cap, .string ct, .int .i64 ep, .string sk, .int .i64 q, .bool false] 97) := ⟨_, rfl⟩
  have HB : Hid (Below w.heap.size w W) := by rw [hW]; exact (Below.refl _ _).alloc (Nat.le_refl _) _
  have HK : Hid (Blk W w.heap.size 97 [.int .i64 o, .int .i64 s, .slice ao XN cap, .string ct, .int .i64 ep, .string sk, .int .i64 q, .bool false]) := by rw [hW]; exact Blk.new w _ _
  obtain ⟨B, HBW⟩ : ∃ B, Hid (B = W.heap.size) := ⟨_, hid rfl⟩
  have HBL : Hid (B ≤ W.heap.size) := by rw [HBW.out]; exact Nat.le_refl _
  have HFB : Hid (w.heap.size ≤ B) := by rw [HBW.out]; exact HB.out.size
  obtain ⟨b1, HE1⟩ : ∃ b, Hid (enc (o).toNat = b ∧ b.length ≤ 10) := ⟨_, hid ⟨rfl, enc_le10 (by omega)⟩⟩
  have HC1 : Hid (∀ V, Below B W V → Calls Tryz.prog 67 #[.int .u64 o] V (EncP B W V b1)) := fun V hV => by
    refine enc_step ?_ (by rw [← HE1.out.1]; exact enc_byte _) (by rw [← HE1.out.1]; exact enc_pos _) hV HBL.out
    rw [← HE1.out.1]
    exact refUint_any o V (by omega) (by omega)
  obtain ⟨b2, HE2⟩ : ∃ b, Hid (enc (s).toNat = b ∧ b.length ≤ 10) := ⟨_, hid ⟨rfl, enc_le10 (by omega)⟩⟩
  have HC2 : Hid (∀ V, Below B W V → Calls Tryz.prog 67 #[.int .u64 s] V (EncP B W V b2)) := fun V hV => by
    refine enc_step ?_ (by rw [← HE2.out.1]; exact enc_byte _) (by rw [← HE2.out.1]; exact enc_pos _) hV HBL.out
    rw [← HE2.out.1]
    exact refUint_any s V (by omega) (by omega)
  obtain ⟨b3, HE3⟩ : ∃ b, Hid (encVC dp = b ∧ b.length ≤ 80) := ⟨_, hid ⟨rfl, vec_len (by rw [HXN.out]; exact f3) f4⟩⟩
  have HC3 : Hid (∀ V, Below B W V → Calls Tryz.prog 70 #[.slice ao XN cap] V (EncP B W V b3)) := fun V hV => by
    refine enc_step ?_ (by rw [← HE3.out.1]; exact encVC_byP _) (by rw [← HE3.out.1]; exact by unfold encVC; rw [List.length_append]; have := enc_pos (dp).length; omega) hV HBL.out
    rw [← HE3.out.1]
    exact rvectorW V ao cap dp XN HXN.out ((hv.below HB.out).below (by have h := hV; rw [HBW.out] at h; exact h)) f3 f4
  obtain ⟨b4, HE4⟩ : ∃ b, Hid (encText ct = b ∧ b.length ≤ 42) := ⟨_, hid ⟨rfl, text_len f5⟩⟩
  have HC4 : Hid (∀ V, Below B W V → Calls Tryz.prog 112 #[.string ct] V (EncP B W V b4)) := fun V hV => by
    refine enc_step ?_ (by rw [← HE4.out.1]; exact encText_byP _) (by rw [← HE4.out.1]; exact by unfold encText; rw [List.length_append]; have := enc_pos ct.size; omega) hV HBL.out
    rw [← HE4.out.1]
    exact refText_any ct V (by omega)
  obtain ⟨b5, HE5⟩ : ∃ b, Hid (enc (ep).toNat = b ∧ b.length ≤ 10) := ⟨_, hid ⟨rfl, enc_le10 (by omega)⟩⟩
  have HC5 : Hid (∀ V, Below B W V → Calls Tryz.prog 67 #[.int .u64 ep] V (EncP B W V b5)) := fun V hV => by
    refine enc_step ?_ (by rw [← HE5.out.1]; exact enc_byte _) (by rw [← HE5.out.1]; exact enc_pos _) hV HBL.out
    rw [← HE5.out.1]
    exact refUint_any ep V (by omega) (by omega)
  obtain ⟨b6, HE6⟩ : ∃ b, Hid (encText sk = b ∧ b.length ≤ 42) := ⟨_, hid ⟨rfl, text_len f7⟩⟩
  have HC6 : Hid (∀ V, Below B W V → Calls Tryz.prog 112 #[.string sk] V (EncP B W V b6)) := fun V hV => by
    refine enc_step ?_ (by rw [← HE6.out.1]; exact encText_byP _) (by rw [← HE6.out.1]; exact by unfold encText; rw [List.length_append]; have := enc_pos sk.size; omega) hV HBL.out
    rw [← HE6.out.1]
    exact refText_any sk V (by omega)
  obtain ⟨b7, HE7⟩ : ∃ b, Hid (enc (q).toNat = b ∧ b.length ≤ 10) := ⟨_, hid ⟨rfl, enc_le10 (by omega)⟩⟩
  have HC7 : Hid (∀ V, Below B W V → Calls Tryz.prog 67 #[.int .u64 q] V (EncP B W V b7)) := fun V hV => by
    refine enc_step ?_ (by rw [← HE7.out.1]; exact enc_byte _) (by rw [← HE7.out.1]; exact enc_pos _) hV HBL.out
    rw [← HE7.out.1]
    exact refUint_any q V (by omega) (by omega)
  have hwr1 : IntKind.u64.wrap o = o := by rw [IntKind.wrap_u64]; omega
  have hwr2 : IntKind.u64.wrap s = s := by rw [IntKind.wrap_u64]; omega
  have hwr5 : IntKind.u64.wrap ep = ep := by rw [IntKind.wrap_u64]; omega
  have hwr7 : IntKind.u64.wrap q = q := by rw [IntKind.wrap_u64]; omega
  have HEN : Hid (enc o.toNat ++ enc s.toNat ++ encVC dp ++ encText ct ++ enc ep.toNat ++ encText sk ++ enc q.toNat ++ [0] = b1 ++ b2 ++ b3 ++ b4 ++ b5 ++ b6 ++ b7 ++ [0]) := by show _ = _; rw [HE1.out.1, HE2.out.1, HE3.out.1, HE4.out.1, HE5.out.1, HE6.out.1, HE7.out.1]
  rw [HEN.out]
  have HSZ : Hid (b1.length ≤ 10 ∧ b2.length ≤ 10 ∧ b3.length ≤ 80 ∧ b4.length ≤ 42 ∧ b5.length ≤ 10 ∧ b6.length ≤ 42 ∧ b7.length ≤ 10) := ⟨HE1.out.2, HE2.out.2, HE3.out.2, HE4.out.2, HE5.out.2, HE6.out.2, HE7.out.2⟩
  have HSA : Hid (∀ V, Below B W V → (Below B W V ∧ V.cell? ⟨w.heap.size, 0, none⟩ = some (.int .i64 o) ∧ V.cell? ⟨w.heap.size, 1, none⟩ = some (.int .i64 s) ∧ V.cell? ⟨w.heap.size, 2, none⟩ = some (.slice ao XN cap) ∧ V.cell? ⟨w.heap.size, 3, none⟩ = some (.string ct) ∧ V.cell? ⟨w.heap.size, 4, none⟩ = some (.int .i64 ep) ∧ V.cell? ⟨w.heap.size, 5, none⟩ = some (.string sk) ∧ V.cell? ⟨w.heap.size, 6, none⟩ = some (.int .i64 q) ∧ V.cell? ⟨w.heap.size, 7, none⟩ = some (.bool false))) := fun V hV => by
    have hk := HK.out.below hV (by rw [HBW.out]; exact HK.out.lt)
    exact ⟨hV, hk.cell rfl, hk.cell rfl, hk.cell rfl, hk.cell rfl, hk.cell rfl, hk.cell rfl, hk.cell rfl, hk.cell rfl⟩
  have HW := hid hW
  clear hW HBW HE1 HE2 HE3 HE4 HE5 HE6 HE7 HEN f1 f2 f3 f4 f5 f6 f7 f8 hv
  go_enter Tryz.func71, Tryz.ntmps71
  go_wp2_with fail
  rw [← HW.out]
  obtain ⟨p, hp⟩ : ∃ p, p = w.heap.size := ⟨_, rfl⟩
  rw [← hp] at HSA ⊢
  clear hp HW HK
  obtain ⟨-, q0, q1, q2, q3, q4, q5, q6, q7⟩ := HSA.out _ (Below.refl _ _)
  go_region_held3 (fun V => Below B W V ∧ V.cell? ⟨p, 0, none⟩ = some (.int .i64 o) ∧ V.cell? ⟨p, 1, none⟩ = some (.int .i64 s) ∧ V.cell? ⟨p, 2, none⟩ = some (.slice ao XN cap) ∧ V.cell? ⟨p, 3, none⟩ = some (.string ct) ∧ V.cell? ⟨p, 4, none⟩ = some (.int .i64 ep) ∧ V.cell? ⟨p, 5, none⟩ = some (.string sk) ∧ V.cell? ⟨p, 6, none⟩ = some (.int .i64 q) ∧ V.cell? ⟨p, 7, none⟩ = some (.bool false)) (first | assumption | (refine HSA.out _ ?_; first | assumption | exact (Below.refl _ _) | exact below_dr1 (Below.refl _ _))) (first
    | (go_at_call 67; (with_reducible refine (HC1.out _ ?_).mono ?_); (first | assumption | exact (Below.refl _ _) | exact below_dr1 (Below.refl _ _)); rintro e w1 ⟨v1, g1, rfl, r1H, s1, k1⟩)
    | (go_at_call 67; (with_reducible refine (HC2.out _ ?_).mono ?_); (first | assumption | exact s1 | exact below_dr1 s1); rintro e w2 ⟨v2, g2, rfl, r2H, s2, k2⟩)
    | (refine step_append_rw _ (by rfl) _ _ (by rfl) B W g1 g2 v1 v2 b1 b2 (by rfl) (by rfl) (k2.out _ _ _ r1H.out).1 r2H.out (by have := HSZ.out; (try simp only [List.length_append]); omega) s2 HBL.out ?_; rintro x3 w3 ⟨x3g, x3H, s3, k3⟩)
    | fail)
  clear q0 q1 q2 q3 q4 q5 q6 q7
  go_wp2_with fail
  obtain ⟨-, q0, q1, q2, q3, q4, q5, q6, q7⟩ := HSA.out _ s3
  go_region_held3 (fun V => Below B W V ∧ V.cell? ⟨p, 0, none⟩ = some (.int .i64 o) ∧ V.cell? ⟨p, 1, none⟩ = some (.int .i64 s) ∧ V.cell? ⟨p, 2, none⟩ = some (.slice ao XN cap) ∧ V.cell? ⟨p, 3, none⟩ = some (.string ct) ∧ V.cell? ⟨p, 4, none⟩ = some (.int .i64 ep) ∧ V.cell? ⟨p, 5, none⟩ = some (.string sk) ∧ V.cell? ⟨p, 6, none⟩ = some (.int .i64 q) ∧ V.cell? ⟨p, 7, none⟩ = some (.bool false)) (first | assumption | (refine HSA.out _ ?_; first | assumption | exact s3 | exact below_dr1 s3)) (first
    | (go_at_call 70; (with_reducible refine (HC3.out _ ?_).mono ?_); (first | assumption | exact s3 | exact below_dr1 s3); rintro e w4 ⟨v3, g3, rfl, r3H, s4, k4⟩)
    | (refine step_append_rw _ (by rfl) _ _ (by rfl) B W x3g g3 x3 v3 (b1 ++ b2) b3 (by rfl) (by rfl) (k4.out _ _ _ (Rw.dr x3H.out)).1 r3H.out (by have := HSZ.out; (try simp only [List.length_append]); omega) s4 HBL.out ?_; rintro x5 w5 ⟨x5g, x5H, s5, k5⟩)
    | (go_at_call 112; (with_reducible refine (HC4.out _ ?_).mono ?_); (first | assumption | exact s5 | exact below_dr1 s5); rintro e w6 ⟨v4, g4, rfl, r4H, s6, k6⟩)
    | (refine step_append_rw _ (by rfl) _ _ (by rfl) B W x5g g4 x5 v4 ((b1 ++ b2) ++ b3) b4 (by rfl) (by rfl) (k6.out _ _ _ x5H.out).1 r4H.out (by have := HSZ.out; (try simp only [List.length_append]); omega) s6 HBL.out ?_; rintro x7 w7 ⟨x7g, x7H, s7, k7⟩)
    | fail)
  clear q0 q1 q2 q3 q4 q5 q6 q7
  go_wp2_with fail
  obtain ⟨-, q0, q1, q2, q3, q4, q5, q6, q7⟩ := HSA.out _ s7
  go_region_held3 (fun V => Below B W V ∧ V.cell? ⟨p, 0, none⟩ = some (.int .i64 o) ∧ V.cell? ⟨p, 1, none⟩ = some (.int .i64 s) ∧ V.cell? ⟨p, 2, none⟩ = some (.slice ao XN cap) ∧ V.cell? ⟨p, 3, none⟩ = some (.string ct) ∧ V.cell? ⟨p, 4, none⟩ = some (.int .i64 ep) ∧ V.cell? ⟨p, 5, none⟩ = some (.string sk) ∧ V.cell? ⟨p, 6, none⟩ = some (.int .i64 q) ∧ V.cell? ⟨p, 7, none⟩ = some (.bool false)) (first | assumption | (refine HSA.out _ ?_; first | assumption | exact s7 | exact below_dr1 s7)) (first
    | (go_at_call 67; (with_reducible refine (HC5.out _ ?_).mono ?_); (first | assumption | exact s7 | exact below_dr1 s7); rintro e w8 ⟨v5, g5, rfl, r5H, s8, k8⟩)
    | (refine step_append_rw _ (by rfl) _ _ (by rfl) B W x7g g5 x7 v5 (((b1 ++ b2) ++ b3) ++ b4) b5 (by rfl) (by rfl) (k8.out _ _ _ (Rw.dr x7H.out)).1 r5H.out (by have := HSZ.out; (try simp only [List.length_append]); omega) s8 HBL.out ?_; rintro x9 w9 ⟨x9g, x9H, s9, k9⟩)
    | (go_at_call 112; (with_reducible refine (HC6.out _ ?_).mono ?_); (first | assumption | exact s9 | exact below_dr1 s9); rintro e w10 ⟨v6, g6, rfl, r6H, s10, k10⟩)
    | (refine step_append_rw _ (by rfl) _ _ (by rfl) B W x9g g6 x9 v6 ((((b1 ++ b2) ++ b3) ++ b4) ++ b5) b6 (by rfl) (by rfl) (k10.out _ _ _ x9H.out).1 r6H.out (by have := HSZ.out; (try simp only [List.length_append]); omega) s10 HBL.out ?_; rintro x11 w11 ⟨x11g, x11H, s11, k11⟩)
    | fail)
  clear q0 q1 q2 q3 q4 q5 q6 q7
  go_wp2_with fail
  obtain ⟨-, q0, q1, q2, q3, q4, q5, q6, q7⟩ := HSA.out _ s11
  go_region_held3 (fun V => Below B W V ∧ V.cell? ⟨p, 0, none⟩ = some (.int .i64 o) ∧ V.cell? ⟨p, 1, none⟩ = some (.int .i64 s) ∧ V.cell? ⟨p, 2, none⟩ = some (.slice ao XN cap) ∧ V.cell? ⟨p, 3, none⟩ = some (.string ct) ∧ V.cell? ⟨p, 4, none⟩ = some (.int .i64 ep) ∧ V.cell? ⟨p, 5, none⟩ = some (.string sk) ∧ V.cell? ⟨p, 6, none⟩ = some (.int .i64 q) ∧ V.cell? ⟨p, 7, none⟩ = some (.bool false)) (first | assumption | (refine HSA.out _ ?_; first | assumption | exact s11 | exact below_dr1 s11 | exact s13.alloc (Nat.le_trans HBL.out s13.size) _)) (first
    | (go_at_call 67; (with_reducible refine (HC7.out _ ?_).mono ?_); (first | assumption | exact s11 | exact below_dr1 s11); rintro e w12 ⟨v7, g7, rfl, r7H, s12, k12⟩)
    | (refine step_append_rw _ (by rfl) _ _ (by rfl) B W x11g g7 x11 v7 (((((b1 ++ b2) ++ b3) ++ b4) ++ b5) ++ b6) b7 (by rfl) (by rfl) (k12.out _ _ _ (Rw.dr x11H.out)).1 r7H.out (by have := HSZ.out; (try simp only [List.length_append]); omega) s12 HBL.out ?_; rintro x13 w13 ⟨x13g, x13H, s13, k13⟩)
    | (go_at_call 113; (with_reducible refine (HCT.out _).mono ?_); rintro e wt ⟨rfl, hwt⟩; rw [hwt])
    | (refine step_append_rw _ (by rfl) _ _ (by rfl) B W x13g w13.heap.size x13 (.slice (some ⟨w13.heap.size, 0, none⟩) 1 1) ((((((b1 ++ b2) ++ b3) ++ b4) ++ b5) ++ b6) ++ b7) [0] (by rfl) (by rfl) (Rw.alloc x13H.out _) (Rw.one _ 0 (by decide) (Nat.le_trans HBL.out s13.size)) (by have := HSZ.out; simp only [List.length_append, List.length_cons, List.length_nil]; omega) (s13.alloc (Nat.le_trans HBL.out s13.size) _) HBL.out ?_; rintro x14 w14 ⟨x14g, x14H, s14, k14⟩)
    | fail)
  clear q0 q1 q2 q3 q4 q5 q6 q7
  have HF : Hid (Below w.heap.size w w14) := HB.out.trans (s14.mono HFB.out)
  have HO : Hid (w14.ownsRow w.heap.size 5 1 x14 (b1 ++ b2 ++ b3 ++ b4 ++ b5 ++ b6 ++ b7 ++ [0]).length (nums (b1 ++ b2 ++ b3 ++ b4 ++ b5 ++ b6 ++ b7 ++ [0]))) := ownsRow_base x14H.out.own HFB.out
  clear s1 s2 s3 s4 s5 s6 s7 s8 s9 s10 s11 s12 s13 s14 HSA HC1 HC2 HC3 HC4 HC5 HC6 HC7
  go_wp2
  go_ret
  exact ⟨_, rfl, HO.out, HF.out⟩

end Go.Proofs.YtfmnbehopdmahaaGreat
