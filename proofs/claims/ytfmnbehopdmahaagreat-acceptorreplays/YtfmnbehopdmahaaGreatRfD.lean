/-
  The document's writers (pannierref01): an entry, an event, each in one form.
-/
import Derived.Test.YtfmnbehopdmahaaGreatRfB
namespace Go.Proofs.YtfmnbehopdmahaaGreat
open Go.RowKit Go.Maps
attribute [local go_sem] Oper.semAt_some

theorem reventW (w : World) (x : EvM) (hf : EvF x.e) (hv : HV w x.ao x.cap x.e.deps) : Calls Tryz.prog 71 #[x.val] w (WrP (encEvC x.e) w) := by
  obtain ⟨⟨o, s, dp, ct, ep, sk, q, b⟩, ao, cap⟩ := x
  cases b
  · exact revent_false w o s ao cap dp ct ep sk q hf hv
  · exact revent_true w o s ao cap dp ct ep sk q hf hv
set_option maxRecDepth 100000 in
set_option maxHeartbeats 1000000 in
theorem rentryN (w : World) (tk ct : ByteArray) (ep : Int) (ao : Option Addr) (n cap : Nat) :
    Calls Tryz.prog 69 #[.agg #[.bool true, .string tk, .string ct, .int .i64 ep, .slice ao n cap]] w (WrP [1] w) := by
  obtain ⟨W, hW⟩ : ∃ W, W = w.alloc (.cells #[.bool true, .string tk, .string ct, .int .i64 ep, .slice ao n cap] 39) := ⟨_, rfl⟩
  have HB : Hid (Below w.heap.size w W) := by rw [hW]; exact (Below.refl _ _).alloc (Nat.le_refl _) _
  have HK : Hid (Blk W w.heap.size 39 [.bool true, .string tk, .string ct, .int .i64 ep, .slice ao n cap]) := by rw [hW]; exact Blk.new w _ _
  have HW := hid hW
  have c0 := HK.out.cell (i := 0) rfl
  rw [HW.out] at c0
  clear hW
  go_enter Tryz.func69, Tryz.ntmps69
  go_wp2
  go_ret
  rw [← HW.out]
  have h1 := Rw.one (B := w.heap.size) W 1 (by decide) HB.out.size
  have hs : W.heap.size = w.heap.size + 1 := by rw [HW.out]; simp
  rw [hs] at h1
  refine ⟨_, rfl, ?_, HB.out.alloc HB.out.size _⟩
  exact h1.own
set_option maxRecDepth 100000 in
set_option maxHeartbeats 1000000 in
theorem rentryS (w : World) (tk ct : ByteArray) (ep : Int) (ao : Option Addr) (cap : Nat) (cut : List Int) (hf : SeF ⟨false, tk, ct, ep, cut⟩) (hv : HV w ao cap cut) :
    Calls Tryz.prog 69 #[.agg #[.bool false, .string tk, .string ct, .int .i64 ep, .slice ao cut.length cap]] w (WrP ([0] ++ encSe ⟨false, tk, ct, ep, cut⟩) w) := by
  have l1 := se_len hf
  obtain ⟨XN, HXN⟩ : ∃ m, Hid (cut.length = m) := ⟨_, hid rfl⟩
  obtain ⟨W, hW⟩ : ∃ W, W = w.alloc (.cells #[.bool false, .string tk, .string ct, .int .i64 ep, .slice ao cut.length cap] 39) := ⟨_, rfl⟩
  have HB : Hid (Below w.heap.size w W) := by rw [hW]; exact (Below.refl _ _).alloc (Nat.le_refl _) _
  have HK : Hid (Blk W w.heap.size 39 [.bool false, .string tk, .string ct, .int .i64 ep, .slice ao cut.length cap]) := by rw [hW]; exact Blk.new w _ _
  obtain ⟨U, hU⟩ : ∃ U, U = W.alloc (.cells #[.int .u8 0] 5) := ⟨_, rfl⟩
  have HBU : Hid (Below w.heap.size w U) := by rw [hU]; exact HB.out.alloc HB.out.size _
  have HR0 : Hid (Rw w.heap.size U W.heap.size (.slice (some ⟨W.heap.size, 0, none⟩) 1 1) [0]) := by rw [hU]; exact Rw.one W 0 (by decide) HB.out.size
  have HKU : Hid (Blk U w.heap.size 39 [.bool false, .string tk, .string ct, .int .i64 ep, .slice ao cut.length cap]) := by
    rw [hU]
    exact HK.out.below ((Below.refl W.heap.size W).alloc (Nat.le_refl _) _) HK.out.lt
  obtain ⟨b1, HE⟩ : ∃ b, Hid (encSe ⟨false, tk, ct, ep, cut⟩ = b ∧ b.length ≤ 200) := ⟨_, hid ⟨rfl, l1⟩⟩
  have HC : Hid (Calls Tryz.prog 111 #[.agg #[.string tk, .string ct, .int .i64 ep, .slice ao cut.length cap]] U (EncP w.heap.size w U b1)) := by
    have h := rsealW U tk ct ep ao cap cut false hf (hv.below HBU.out)
    rw [← HE.out.1]
    exact enc_step h (encSe_byP _) (by unfold encSe; simp only [List.length_append]; have := enc_pos ep.toNat; omega) HBU.out (Nat.le_refl _)
  rw [HE.out.1]
  rw [HXN.out] at HC HK HKU hW ⊢
  have HL : Hid (([0] : List Int).length + b1.length ≤ 140737488355328) := by have := HE.out.2; show _ ≤ _; simp only [List.length_cons, List.length_nil]; omega
  have hsz : W.heap.size = w.heap.size + 1 := by rw [hW]; simp
  have HSZ := hid hsz
  have HBL : Hid (w.heap.size ≤ w.heap.size) := Nat.le_refl _
  have HW := hid hW
  have HU := hid hU
  have c0 := HK.out.cell (i := 0) rfl
  have d1 := HKU.out.cell (i := 1) rfl
  have d2 := HKU.out.cell (i := 2) rfl
  have d3 := HKU.out.cell (i := 3) rfl
  have d4 := HKU.out.cell (i := 4) rfl
  rw [HU.out] at d1 d2 d3 d4
  rw [HW.out] at c0 d1 d2 d3 d4
  clear hW hU hf hv l1 hsz HE HXN
  go_enter Tryz.func69, Tryz.ntmps69
  go_wp2_with fail
  rw [← HW.out, ← HU.out]
  refine HC.out.mono ?_
  rintro e w1 ⟨v1, g1, rfl, hr1, hb1, hk1⟩
  rw [HSZ.out] at HR0
  go_wp2_with (at_builtin; refine wpList_append_rw _ rfl _ _ rfl w.heap.size w _ g1 _ v1 [0] b1 rfl rfl (hk1.out _ _ _ HR0.out).1 hr1.out HL.out hb1 HBL.out ?_; rintro v3 w3 ⟨g3, hr3, hb3, hk3⟩)
  have HB3 := hid hb3
  clear hb1 hb3 HC c0 d1 d2 d3 d4
  go_wp2
  go_ret
  exact ⟨_, rfl, hr3.out.own, HB3.out⟩
theorem rentryW (w : World) (x : EnM) (hf : x.e.noop = false → SeF x.e) (hv : HV w x.ao x.cap x.e.cut) : Calls Tryz.prog 69 #[x.val] w (WrP (encEn x.e) w) := by
  obtain ⟨⟨np, tk, ct, ep, cut⟩, ao, cap⟩ := x
  cases np
  · exact rentryS w tk ct ep ao cap cut (hf rfl) hv
  · have he : encEn ⟨true, tk, ct, ep, cut⟩ = [1] := by unfold encEn encBC; simp
    rw [he]
    exact rentryN w tk ct ep ao cut.length cap
end Go.Proofs.YtfmnbehopdmahaaGreat
/-
  The document's writer of a message (pannierref01.msg).
-/
namespace Go.Proofs.YtfmnbehopdmahaaGreat
open Go.RowKit Go.Maps
attribute [local go_sem] Oper.semAt_some

theorem take_flat {α : Type} {l : List α} {k : Nat} (h : k < l.length) (f : α → List Int) : (l.take (k + 1)).flatMap f = (l.take k).flatMap f ++ f (l[k]'h) := by
  rw [List.take_succ_eq_append_getElem h, List.flatMap_append]
  simp
set_option maxRecDepth 1000000 in
set_option maxHeartbeats 4000000 in
theorem rmsgW (w : World) (x : MsM) (hf : MsF x) (hx : MsOk w x) : Calls Tryz.prog 42 #[x.val] w (WrP (encMs x) w) := by
  obtain ⟨kd, fr, tt, ⟨br, bn⟩, sl, ⟨⟨np, tk, ct, ep, cut⟩, a, c⟩, va, vc, vs, sa, sc, seen, ea, ec, evs, ti⟩ := x
  obtain ⟨XN, HXN⟩ : ∃ m, Hid (cut.length = m) := ⟨_, hid rfl⟩
  obtain ⟨VN, HVN⟩ : ∃ m, Hid (vs.length = m) := ⟨_, hid rfl⟩
  obtain ⟨SN, HSN⟩ : ∃ m, Hid (seen.length = m) := ⟨_, hid rfl⟩
  obtain ⟨EN, HEN⟩ : ∃ m, Hid (evs.length = m) := ⟨_, hid rfl⟩
  obtain ⟨f1, f2, f3, f4, f5, f6, f7, f8, f9, f10, f11, f12, f13, f14⟩ := hf
  dsimp only at f1 f2 f3 f4 f5 f6 f7 f8 f9 f10 f11 f12 f13 f14
  rw [HVN.out] at f8
  rw [HSN.out] at f10
  rw [HEN.out] at f12
  simp only [MsM.val]
  rw [HXN.out, HVN.out, HSN.out, HEN.out]
  have HENC : Hid (encMs ⟨kd, fr, tt, (br, bn), sl, ⟨⟨np, tk, ct, ep, cut⟩, a, c⟩, va, vc, vs, sa, sc, seen, ea, ec, evs, ti⟩ = enc kd.toNat ++ enc fr.toNat ++ enc tt.toNat ++ (enc br.toNat ++ enc bn.toNat) ++ enc sl.toNat ++ encEn ⟨np, tk, ct, ep, cut⟩ ++ enc VN ++ vs.flatMap (fun x => encVo x) ++ encVC seen ++ enc EN ++ evs.flatMap (fun x => encEvC x.e) ++ enc ti.toNat) := by
    show _ = _
    unfold encMs encVos encEvs
    simp only [HVN.out, HEN.out, List.append_assoc]
  rw [HENC.out]
  clear HENC
  obtain ⟨W, hW⟩ : ∃ W, W = w.alloc (.cells #[.int .i64 kd, .int .i64 fr, .int .i64 tt, .int .i64 br, .int .i64 bn, .int .i64 sl, .bool np, .string tk, .string ct, .int .i64 ep, .slice a XN c, .slice va VN vc, .slice sa SN sc, .slice ea EN ec, .int .i64 ti] 43) := ⟨_, rfl⟩
  have HB : Hid (Below w.heap.size w W) := by rw [hW]; exact (Below.refl _ _).alloc (Nat.le_refl _) _
  have HK : Hid (Blk W w.heap.size 43 [.int .i64 kd, .int .i64 fr, .int .i64 tt, .int .i64 br, .int .i64 bn, .int .i64 sl, .bool np, .string tk, .string ct, .int .i64 ep, .slice a XN c, .slice va VN vc, .slice sa SN sc, .slice ea EN ec, .int .i64 ti]) := by rw [hW]; exact Blk.new w _ _
  obtain ⟨B, HBW⟩ : ∃ B, Hid (B = W.heap.size) := ⟨_, hid rfl⟩
  have HBL : Hid (B ≤ W.heap.size) := by rw [HBW.out]; exact Nat.le_refl _
  have HFB : Hid (w.heap.size ≤ B) := by rw [HBW.out]; exact HB.out.size
  have HXO := hid (hx.below HB.out)
  obtain ⟨b1, HE1⟩ : ∃ b, Hid (enc kd.toNat = b ∧ b.length ≤ 10) := ⟨_, hid ⟨rfl, enc_le10 (by omega)⟩⟩
  have HC1 : Hid (∀ V, Below B W V → Calls Tryz.prog 67 #[.int .u64 kd] V (EncP B W V b1)) := fun V hV => by
    refine enc_step ?_ (by rw [← HE1.out.1]; exact enc_byte _) (by rw [← HE1.out.1]; exact enc_pos _) hV HBL.out
    rw [← HE1.out.1]
    exact refUint_any kd V (by omega) (by omega)
  obtain ⟨b2, HE2⟩ : ∃ b, Hid (enc fr.toNat = b ∧ b.length ≤ 10) := ⟨_, hid ⟨rfl, enc_le10 (by omega)⟩⟩
  have HC2 : Hid (∀ V, Below B W V → Calls Tryz.prog 67 #[.int .u64 fr] V (EncP B W V b2)) := fun V hV => by
    refine enc_step ?_ (by rw [← HE2.out.1]; exact enc_byte _) (by rw [← HE2.out.1]; exact enc_pos _) hV HBL.out
    rw [← HE2.out.1]
    exact refUint_any fr V (by omega) (by omega)
  obtain ⟨b3, HE3⟩ : ∃ b, Hid (enc tt.toNat = b ∧ b.length ≤ 10) := ⟨_, hid ⟨rfl, enc_le10 (by omega)⟩⟩
  have HC3 : Hid (∀ V, Below B W V → Calls Tryz.prog 67 #[.int .u64 tt] V (EncP B W V b3)) := fun V hV => by
    refine enc_step ?_ (by rw [← HE3.out.1]; exact enc_byte _) (by rw [← HE3.out.1]; exact enc_pos _) hV HBL.out
    rw [← HE3.out.1]
    exact refUint_any tt V (by omega) (by omega)
  obtain ⟨b4, HE4⟩ : ∃ b, Hid (enc br.toNat ++ enc bn.toNat = b ∧ b.length ≤ 20) := ⟨_, hid ⟨rfl, bal_len f4 f5⟩⟩
  have HC4 : Hid (∀ V, Below B W V → Calls Tryz.prog 68 #[.agg #[.int .i64 br, .int .i64 bn]] V (EncP B W V b4)) := fun V hV => by
    refine enc_step ?_ (by rw [← HE4.out.1]; exact (encByP _).append (encByP _)) (by rw [← HE4.out.1]; exact (by rw [List.length_append]; have := enc_pos br.toNat; omega)) hV HBL.out
    rw [← HE4.out.1]
    exact rballotW V br bn f4 f5
  obtain ⟨b5, HE5⟩ : ∃ b, Hid (enc sl.toNat = b ∧ b.length ≤ 10) := ⟨_, hid ⟨rfl, enc_le10 (by omega)⟩⟩
  have HC5 : Hid (∀ V, Below B W V → Calls Tryz.prog 67 #[.int .u64 sl] V (EncP B W V b5)) := fun V hV => by
    refine enc_step ?_ (by rw [← HE5.out.1]; exact enc_byte _) (by rw [← HE5.out.1]; exact enc_pos _) hV HBL.out
    rw [← HE5.out.1]
    exact refUint_any sl V (by omega) (by omega)
  obtain ⟨b6, HE6⟩ : ∃ b, Hid (encEn ⟨np, tk, ct, ep, cut⟩ = b ∧ b.length ≤ 201) := ⟨_, hid ⟨rfl, en_len f7⟩⟩
  have HC6 : Hid (∀ V, Below B W V → Calls Tryz.prog 69 #[.agg #[.bool np, .string tk, .string ct, .int .i64 ep, .slice a XN c]] V (EncP B W V b6)) := fun V hV => by
    refine enc_step ?_ (by rw [← HE6.out.1]; exact encEn_byP _) (by rw [← HE6.out.1]; exact (by unfold encEn encBC; simp only [List.length_append, List.length_cons]; omega)) hV HBL.out
    rw [← HE6.out.1]
    exact (by have h := rentryW V ⟨⟨np, tk, ct, ep, cut⟩, a, c⟩ f7 (HXO.out.en.cut.below (by have h := hV; rw [HBW.out] at h; exact h)); simp only [EnM.val] at h; rw [HXN.out] at h; exact h)
  obtain ⟨b7, HE7⟩ : ∃ b, Hid (enc VN = b ∧ b.length ≤ 10) := ⟨_, hid ⟨rfl, enc_le10 (by omega)⟩⟩
  have HC7 : Hid (∀ V, Below B W V → Calls Tryz.prog 67 #[.int .u64 (VN : Int)] V (EncP B W V b7)) := fun V hV => by
    refine enc_step ?_ (by rw [← HE7.out.1]; exact enc_byte _) (by rw [← HE7.out.1]; exact enc_pos _) hV HBL.out
    rw [← HE7.out.1]
    exact (by have h := refUint_any (VN : Int) V (by omega) (by omega); rw [Int.toNat_natCast] at h; exact h)
  obtain ⟨b8, HE8⟩ : ∃ b, Hid (encVC seen = b ∧ b.length ≤ 80) := ⟨_, hid ⟨rfl, vec_len (by rw [HSN.out]; exact f10) f11⟩⟩
  have HC8 : Hid (∀ V, Below B W V → Calls Tryz.prog 70 #[.slice sa SN sc] V (EncP B W V b8)) := fun V hV => by
    refine enc_step ?_ (by rw [← HE8.out.1]; exact encVC_byP _) (by rw [← HE8.out.1]; exact (by unfold encVC; rw [List.length_append]; have := enc_pos seen.length; omega)) hV HBL.out
    rw [← HE8.out.1]
    exact rvectorW V sa sc seen SN HSN.out (HXO.out.seen.below (by have h := hV; rw [HBW.out] at h; exact h)) f10 f11
  obtain ⟨b9, HE9⟩ : ∃ b, Hid (enc EN = b ∧ b.length ≤ 10) := ⟨_, hid ⟨rfl, enc_le10 (by omega)⟩⟩
  have HC9 : Hid (∀ V, Below B W V → Calls Tryz.prog 67 #[.int .u64 (EN : Int)] V (EncP B W V b9)) := fun V hV => by
    refine enc_step ?_ (by rw [← HE9.out.1]; exact enc_byte _) (by rw [← HE9.out.1]; exact enc_pos _) hV HBL.out
    rw [← HE9.out.1]
    exact (by have h := refUint_any (EN : Int) V (by omega) (by omega); rw [Int.toNat_natCast] at h; exact h)
  obtain ⟨b10, HE10⟩ : ∃ b, Hid (enc ti.toNat = b ∧ b.length ≤ 10) := ⟨_, hid ⟨rfl, enc_le10 (by omega)⟩⟩
  have HC10 : Hid (∀ V, Below B W V → Calls Tryz.prog 67 #[.int .u64 ti] V (EncP B W V b10)) := fun V hV => by
    refine enc_step ?_ (by rw [← HE10.out.1]; exact enc_byte _) (by rw [← HE10.out.1]; exact enc_pos _) hV HBL.out
    rw [← HE10.out.1]
    exact refUint_any ti V (by omega) (by omega)
  have hwr1 : IntKind.u64.wrap kd = kd := by rw [IntKind.wrap_u64]; omega
  have hwr2 : IntKind.u64.wrap fr = fr := by rw [IntKind.wrap_u64]; omega
  have hwr3 : IntKind.u64.wrap tt = tt := by rw [IntKind.wrap_u64]; omega
  have hwr5 : IntKind.u64.wrap sl = sl := by rw [IntKind.wrap_u64]; omega
  have hwr7 : IntKind.u64.wrap (VN : Int) = (VN : Int) := by rw [IntKind.wrap_u64]; omega
  have hwr9 : IntKind.u64.wrap (EN : Int) = (EN : Int) := by rw [IntKind.wrap_u64]; omega
  have hwr10 : IntKind.u64.wrap ti = ti := by rw [IntKind.wrap_u64]; omega
  rw [HE1.out.1, HE2.out.1, HE3.out.1, HE4.out.1, HE5.out.1, HE6.out.1, HE7.out.1, HE8.out.1, HE9.out.1, HE10.out.1]
  have HFV := hid f9
  have HFE := hid f13
  have HL4 : Hid (VN ≤ 4096 ∧ EN ≤ 4096) := ⟨f8, f12⟩
  obtain ⟨FV, HPV⟩ : ∃ l, Hid (vs.flatMap (fun x => encVo x) = l ∧ l.length ≤ 1300000) := ⟨_, hid ⟨rfl, by have h1 := vos_len (fun y hy => (f9 y hy).2); have := HVN.out; omega⟩⟩
  obtain ⟨FE, HPE⟩ : ∃ l, Hid (evs.flatMap (fun x => encEvC x.e) = l ∧ l.length ≤ 1300000) := ⟨_, hid ⟨rfl, by have h1 := evs_len (fun y hy => (f13 y hy).2); have := HEN.out; omega⟩⟩
  rw [HPV.out.1, HPE.out.1]
  have HSZ : Hid (b1.length ≤ 10 ∧ b2.length ≤ 10 ∧ b3.length ≤ 10 ∧ b4.length ≤ 20 ∧ b5.length ≤ 10 ∧ b6.length ≤ 201 ∧ b7.length ≤ 10 ∧ b8.length ≤ 80 ∧ b9.length ≤ 10 ∧ b10.length ≤ 10 ∧ FV.length ≤ 1300000 ∧ FE.length ≤ 1300000) := ⟨HE1.out.2, HE2.out.2, HE3.out.2, HE4.out.2, HE5.out.2, HE6.out.2, HE7.out.2, HE8.out.2, HE9.out.2, HE10.out.2, HPV.out.2, HPE.out.2⟩
  have HSA : Hid (∀ V, Below B W V → (Below B W V ∧ V.cell? ⟨w.heap.size, 0, none⟩ = some (.int .i64 kd) ∧ V.cell? ⟨w.heap.size, 1, none⟩ = some (.int .i64 fr) ∧ V.cell? ⟨w.heap.size, 2, none⟩ = some (.int .i64 tt) ∧ V.cell? ⟨w.heap.size, 3, none⟩ = some (.int .i64 br) ∧ V.cell? ⟨w.heap.size, 4, none⟩ = some (.int .i64 bn) ∧ V.cell? ⟨w.heap.size, 5, none⟩ = some (.int .i64 sl) ∧ V.cell? ⟨w.heap.size, 6, none⟩ = some (.bool np) ∧ V.cell? ⟨w.heap.size, 7, none⟩ = some (.string tk) ∧ V.cell? ⟨w.heap.size, 8, none⟩ = some (.string ct) ∧ V.cell? ⟨w.heap.size, 9, none⟩ = some (.int .i64 ep) ∧ V.cell? ⟨w.heap.size, 10, none⟩ = some (.slice a XN c) ∧ V.cell? ⟨w.heap.size, 11, none⟩ = some (.slice va VN vc) ∧ V.cell? ⟨w.heap.size, 12, none⟩ = some (.slice sa SN sc) ∧ V.cell? ⟨w.heap.size, 13, none⟩ = some (.slice ea EN ec) ∧ V.cell? ⟨w.heap.size, 14, none⟩ = some (.int .i64 ti))) := fun V hV => by
    have hk := HK.out.below hV (by rw [HBW.out]; exact HK.out.lt)
    exact ⟨hV, hk.cell rfl, hk.cell rfl, hk.cell rfl, hk.cell rfl, hk.cell rfl, hk.cell rfl, hk.cell rfl, hk.cell rfl, hk.cell rfl, hk.cell rfl, hk.cell rfl, hk.cell rfl, hk.cell rfl, hk.cell rfl, hk.cell rfl⟩
  have HBV : Hid (∀ V, Below B W V → Below W.heap.size W V) := fun V hV => by have h := hV; rw [HBW.out] at h; exact h
  have HW := hid hW
  clear hW HBW HE1 HE2 HE3 HE4 HE5 HE6 HE7 HE8 HE9 HE10 f1 f2 f3 f4 f5 f6 f7 f8 f9 f10 f11 f12 f13 f14 hx
  have hvl : VN ≤ 4096 := HL4.out.1
  have hel : EN ≤ 4096 := HL4.out.2
  go_enter Tryz.func42, Tryz.ntmps42
  go_wp2_with fail
  rw [← HW.out]
  obtain ⟨p, hp⟩ : ∃ p, p = w.heap.size := ⟨_, rfl⟩
  rw [← hp] at HSA ⊢
  clear hp HW HK
  obtain ⟨-, q0, q1, q2, q3, q4, q5, q6, q7, q8, q9, q10, q11, q12, q13, q14⟩ := HSA.out _ (Below.refl _ _)
  go_region_held3 (fun V => Below B W V ∧ V.cell? ⟨p, 0, none⟩ = some (.int .i64 kd) ∧ V.cell? ⟨p, 1, none⟩ = some (.int .i64 fr) ∧ V.cell? ⟨p, 2, none⟩ = some (.int .i64 tt) ∧ V.cell? ⟨p, 3, none⟩ = some (.int .i64 br) ∧ V.cell? ⟨p, 4, none⟩ = some (.int .i64 bn) ∧ V.cell? ⟨p, 5, none⟩ = some (.int .i64 sl) ∧ V.cell? ⟨p, 6, none⟩ = some (.bool np) ∧ V.cell? ⟨p, 7, none⟩ = some (.string tk) ∧ V.cell? ⟨p, 8, none⟩ = some (.string ct) ∧ V.cell? ⟨p, 9, none⟩ = some (.int .i64 ep) ∧ V.cell? ⟨p, 10, none⟩ = some (.slice a XN c) ∧ V.cell? ⟨p, 11, none⟩ = some (.slice va VN vc) ∧ V.cell? ⟨p, 12, none⟩ = some (.slice sa SN sc) ∧ V.cell? ⟨p, 13, none⟩ = some (.slice ea EN ec) ∧ V.cell? ⟨p, 14, none⟩ = some (.int .i64 ti)) (first | assumption | (refine HSA.out _ ?_; first | assumption | exact (Below.refl _ _) | exact below_dr1 (Below.refl _ _))) (first
    | (go_at_call 67; (with_reducible refine (HC1.out _ ?_).mono ?_); (first | assumption | exact (Below.refl _ _) | exact below_dr1 (Below.refl _ _)); rintro e Aw1 ⟨Av1, Ag1, rfl, Ar1, As1, Ak1⟩)
    | (go_at_call 67; (with_reducible refine (HC2.out _ ?_).mono ?_); (first | assumption | exact As1 | exact below_dr1 As1); rintro e Aw2 ⟨Av2, Ag2, rfl, Ar2, As2, Ak2⟩)
    | (refine step_append_rw _ (by rfl) _ _ (by rfl) B W Ag1 Ag2 Av1 Av2 b1 b2 (by rfl) (by rfl) (Ak2.out _ _ _ Ar1.out).1 Ar2.out (by have := HSZ.out; (try simp only [List.length_append]); omega) As2 HBL.out ?_; rintro Ax3 Aw3 ⟨Ah3, Ar3, As3, Ak3⟩)
    | (go_at_call 67; (with_reducible refine (HC3.out _ ?_).mono ?_); (first | assumption | exact As3 | exact below_dr1 As3); rintro e Aw4 ⟨Av4, Ag4, rfl, Ar4, As4, Ak4⟩)
    | (refine step_append_rw _ (by rfl) _ _ (by rfl) B W Ah3 Ag4 Ax3 Av4 (b1 ++ b2) b3 (by rfl) (by rfl) (Ak4.out _ _ _ Ar3.out).1 Ar4.out (by have := HSZ.out; (try simp only [List.length_append]); omega) As4 HBL.out ?_; rintro Ax5 Aw5 ⟨Ah5, Ar5, As5, Ak5⟩)
    | fail)
  clear q0 q1 q2 q3 q4 q5 q6 q7 q8 q9 q10 q11 q12 q13 q14
  obtain ⟨-, q0, q1, q2, q3, q4, q5, q6, q7, q8, q9, q10, q11, q12, q13, q14⟩ := HSA.out _ As5
  go_wp2_with fail
  go_region_held3 (fun V => Below B W V ∧ V.cell? ⟨p, 0, none⟩ = some (.int .i64 kd) ∧ V.cell? ⟨p, 1, none⟩ = some (.int .i64 fr) ∧ V.cell? ⟨p, 2, none⟩ = some (.int .i64 tt) ∧ V.cell? ⟨p, 3, none⟩ = some (.int .i64 br) ∧ V.cell? ⟨p, 4, none⟩ = some (.int .i64 bn) ∧ V.cell? ⟨p, 5, none⟩ = some (.int .i64 sl) ∧ V.cell? ⟨p, 6, none⟩ = some (.bool np) ∧ V.cell? ⟨p, 7, none⟩ = some (.string tk) ∧ V.cell? ⟨p, 8, none⟩ = some (.string ct) ∧ V.cell? ⟨p, 9, none⟩ = some (.int .i64 ep) ∧ V.cell? ⟨p, 10, none⟩ = some (.slice a XN c) ∧ V.cell? ⟨p, 11, none⟩ = some (.slice va VN vc) ∧ V.cell? ⟨p, 12, none⟩ = some (.slice sa SN sc) ∧ V.cell? ⟨p, 13, none⟩ = some (.slice ea EN ec) ∧ V.cell? ⟨p, 14, none⟩ = some (.int .i64 ti)) (first | assumption | (refine HSA.out _ ?_; first | assumption | exact As5 | exact below_dr1 As5)) (first
    | (go_at_call 68; (with_reducible refine (HC4.out _ ?_).mono ?_); (first | assumption | exact As5 | exact below_dr1 As5); rintro e Cw1 ⟨Cv1, Cg1, rfl, Cr1, Cs1, Ck1⟩)
    | (refine step_append_rw _ (by rfl) _ _ (by rfl) B W Ah5 Cg1 Ax5 Cv1 ((b1 ++ b2) ++ b3) b4 (by rfl) (by rfl) (Ck1.out _ _ _ (Rw.dr Ar5.out)).1 Cr1.out (by have := HSZ.out; (try simp only [List.length_append]); omega) Cs1 HBL.out ?_; rintro Cx2 Cw2 ⟨Ch2, Cr2, Cs2, Ck2⟩)
    | (go_at_call 67; (with_reducible refine (HC5.out _ ?_).mono ?_); (first | assumption | exact Cs2 | exact below_dr1 Cs2); rintro e Cw3 ⟨Cv3, Cg3, rfl, Cr3, Cs3, Ck3⟩)
    | (refine step_append_rw _ (by rfl) _ _ (by rfl) B W Ch2 Cg3 Cx2 Cv3 (((b1 ++ b2) ++ b3) ++ b4) b5 (by rfl) (by rfl) (Ck3.out _ _ _ Cr2.out).1 Cr3.out (by have := HSZ.out; (try simp only [List.length_append]); omega) Cs3 HBL.out ?_; rintro Cx4 Cw4 ⟨Ch4, Cr4, Cs4, Ck4⟩)
    | (go_at_call 69; (with_reducible refine (HC6.out _ ?_).mono ?_); (first | assumption | exact Cs4 | exact below_dr1 Cs4); rintro e Cw5 ⟨Cv5, Cg5, rfl, Cr5, Cs5, Ck5⟩)
    | (refine step_append_rw _ (by rfl) _ _ (by rfl) B W Ch4 Cg5 Cx4 Cv5 ((((b1 ++ b2) ++ b3) ++ b4) ++ b5) b6 (by rfl) (by rfl) (Ck5.out _ _ _ Cr4.out).1 Cr5.out (by have := HSZ.out; (try simp only [List.length_append]); omega) Cs5 HBL.out ?_; rintro Cx6 Cw6 ⟨Ch6, Cr6, Cs6, Ck6⟩)
    | fail)
  clear q0 q1 q2 q3 q4 q5 q6 q7 q8 q9 q10 q11 q12 q13 q14
  obtain ⟨-, q0, q1, q2, q3, q4, q5, q6, q7, q8, q9, q10, q11, q12, q13, q14⟩ := HSA.out _ Cs6
  go_wp2_with fail
  refine (HC7.out _ Cs6).mono ?_
  rintro e w7 ⟨v7, g7, rfl, r7, s7, k7⟩
  clear q0 q1 q2 q3 q4 q5 q6 q7 q8 q9 q10 q11 q12 q13 q14
  go_wp2_with (at_builtin; refine wpList_append_rw _ rfl _ _ rfl B W Ch6 g7 Cx6 v7 _ _ rfl rfl (k7.out _ _ _ Cr6.out).1 r7.out (by have := HSZ.out; (try simp only [List.length_append]); omega) s7 HBL.out ?_; rintro v8 w8 ⟨g8, r8, s8, k8⟩)
  obtain ⟨P1, HP1⟩ : ∃ l, Hid ((((((b1 ++ b2) ++ b3) ++ b4) ++ b5) ++ b6) ++ b7 = l ∧ l.length ≤ 400) := ⟨_, hid ⟨rfl, by have := HSZ.out; simp only [List.length_append]; omega⟩⟩
  rw [HP1.out.1] at r8
  have HS8 := hid s8
  clear s8 s7
  go_wp2
  go_loopw [3, 4] (fun b i wr => ∃ k : Nat, k ≤ VN ∧ i = .int .i64 k ∧ ∃ g, Hid (Rw B wr g b (P1 ++ (vs.take k).flatMap (fun x => encVo x)) ∧ Below B W wr)) (fun _ i _ => VN - (intOf i).toNat)
  case atStart => exact ⟨0, Nat.zero_le _, rfl, g8, by rw [List.take_zero]; show Rw _ _ _ _ (P1 ++ []); rw [List.append_nil]; exact r8.out, HS8.out⟩
  case round =>
    obtain ⟨k, hk, rfl, g, HA⟩ := hrel
    obtain ⟨-, q0, q1, q2, q3, q4, q5, q6, q7, q8, q9, q10, q11, q12, q13, q14⟩ := HSA.out _ HA.out.2
    by_cases hlt : k < VN
    · have hlt' : (k : Int) < (VN : Int) := by omega
      have hk0 : (0 : Int) ≤ (k : Int) := Int.natCast_nonneg _
      have hkx : Hid (k < vs.length) := (by rw [HVN.out]; exact hlt : k < vs.length)
      have HKM : Hid (k + 1 ≤ VN) := (by omega : k + 1 ≤ VN)
      obtain ⟨b, off, hva, hbl, _⟩ := HXO.out.vs.at8 hkx.out
      simp only at hva
      subst hva
      have HVC : Hid (∀ V, Below B W V → (V.cell? ⟨b, off + k * 8, none⟩ = some (.int .i64 (vs[k]'hkx.out).slot) ∧ V.cell? ⟨b, off + k * 8 + 1, none⟩ = some (.int .i64 (vs[k]'hkx.out).bal.1) ∧ V.cell? ⟨b, off + k * 8 + 2, none⟩ = some (.int .i64 (vs[k]'hkx.out).bal.2) ∧
          V.cell? ⟨b, off + k * 8 + 3, none⟩ = some (.bool (vs[k]'hkx.out).en.e.noop) ∧ V.cell? ⟨b, off + k * 8 + 4, none⟩ = some (.string (vs[k]'hkx.out).en.e.tok) ∧ V.cell? ⟨b, off + k * 8 + 5, none⟩ = some (.string (vs[k]'hkx.out).en.e.cart) ∧ V.cell? ⟨b, off + k * 8 + 6, none⟩ = some (.int .i64 (vs[k]'hkx.out).en.e.ep) ∧
          V.cell? ⟨b, off + k * 8 + 7, none⟩ = some (.slice (vs[k]'hkx.out).en.ao (vs[k]'hkx.out).en.e.cut.length (vs[k]'hkx.out).en.cap))) := fun V hV => by
        obtain ⟨b2, off2, e2, _, h⟩ := (HXO.out.vs.below (HBV.out V hV)).at8 hkx.out
        simp only [Option.some.injEq, Addr.mk.injEq, and_true] at e2
        obtain ⟨rfl, rfl⟩ := e2
        exact h
      have HVK : Hid (VoOk W (vs[k]'hkx.out)) := HXO.out.vs.1 _ (List.getElem_mem hkx.out)
      have HVF : Hid (VoF (vs[k]'hkx.out) ∧ (encVo (vs[k]'hkx.out)).length ≤ 300) := HFV.out _ (List.getElem_mem hkx.out)
      have HTK := hid (take_flat hkx.out (fun x => encVo x))
      have HTL : Hid (((vs.take k).flatMap (fun x => encVo x)).length ≤ 1300000) := by
        have h1 := vos_len (xs := vs.take k) (fun y hy => (HFV.out y (List.mem_of_mem_take hy)).2)
        have h2 : (vs.take k).length ≤ 4096 := by rw [List.length_take]; omega
        show _ ≤ _
        omega
      generalize vs[k]'hkx.out = Y at HVC HVK HVF HTK
      obtain ⟨ysl, ⟨yr, yn⟩, ⟨⟨ynp, ytk, yct, yep, ycut⟩, ya, yc⟩⟩ := Y
      obtain ⟨YN, HYN⟩ : ∃ m, Hid (ycut.length = m) := ⟨_, hid rfl⟩
      obtain ⟨⟨h1, h2, h3, h4⟩, -⟩ := HVF.out
      dsimp only at h1 h2 h3 h4
      simp only at HVC
      rw [HYN.out] at HVC
      unfold encVo at HTK
      dsimp only at HTK
      obtain ⟨d1, HG1⟩ : ∃ b, Hid (enc ysl.toNat = b ∧ b.length ≤ 10) := ⟨_, hid ⟨rfl, enc_le10 (by omega)⟩⟩
      have HD1 : Hid (∀ V, Below B W V → Calls Tryz.prog 67 #[.int .u64 ysl] V (EncP B W V d1)) := fun V hV => by
        refine enc_step ?_ (by rw [← HG1.out.1]; exact enc_byte _) (by rw [← HG1.out.1]; exact enc_pos _) hV HBL.out
        rw [← HG1.out.1]
        exact refUint_any ysl V (by omega) (by omega)
      obtain ⟨d2, HG2⟩ : ∃ b, Hid (enc yr.toNat ++ enc yn.toNat = b ∧ b.length ≤ 20) := ⟨_, hid ⟨rfl, bal_len h2 h3⟩⟩
      have HD2 : Hid (∀ V, Below B W V → Calls Tryz.prog 68 #[.agg #[.int .i64 yr, .int .i64 yn]] V (EncP B W V d2)) := fun V hV => by
        refine enc_step ?_ (by rw [← HG2.out.1]; exact (encByP _).append (encByP _)) (by rw [← HG2.out.1]; exact (by rw [List.length_append]; have := enc_pos yr.toNat; omega)) hV HBL.out
        rw [← HG2.out.1]
        exact rballotW V yr yn h2 h3
      obtain ⟨d3, HG3⟩ : ∃ b, Hid (encEn ⟨ynp, ytk, yct, yep, ycut⟩ = b ∧ b.length ≤ 201) := ⟨_, hid ⟨rfl, en_len h4⟩⟩
      have HD3 : Hid (∀ V, Below B W V → Calls Tryz.prog 69 #[.agg #[.bool ynp, .string ytk, .string yct, .int .i64 yep, .slice ya YN yc]] V (EncP B W V d3)) := fun V hV => by
        refine enc_step ?_ (by rw [← HG3.out.1]; exact encEn_byP _) (by rw [← HG3.out.1]; exact (by unfold encEn encBC; simp only [List.length_append, List.length_cons]; omega)) hV HBL.out
        rw [← HG3.out.1]
        exact (by have h := rentryW V ⟨⟨ynp, ytk, yct, yep, ycut⟩, ya, yc⟩ h4 (HVK.out.en.cut.below (HBV.out V hV)); simp only [EnM.val] at h; rw [HYN.out] at h; exact h)
      have hwy : IntKind.u64.wrap ysl = ysl := by rw [IntKind.wrap_u64]; omega
      obtain ⟨F1, HF1⟩ : ∃ l, Hid ((vs.take k).flatMap (fun x => encVo x) = l) := ⟨_, hid rfl⟩
      obtain ⟨F2, HF2⟩ : ∃ l, Hid ((vs.take (k + 1)).flatMap (fun x => encVo x) = l) := ⟨_, hid rfl⟩
      have HEQ : Hid (F2 = F1 ++ (d1 ++ d2 ++ d3)) := by
        have h := HTK.out
        rw [HG1.out.1, HG2.out.1, HG3.out.1] at h
        rw [← HF1.out, ← HF2.out]
        exact h
      have HSZ : Hid (P1.length ≤ 400 ∧ F1.length ≤ 1300000 ∧ d1.length ≤ 10 ∧ d2.length ≤ 20 ∧ d3.length ≤ 201) := ⟨HP1.out.2, by rw [← HF1.out]; exact HTL.out, HG1.out.2, HG2.out.2, HG3.out.2⟩
      have HRw : Hid (Rw B wr g u3 (P1 ++ F1)) := by rw [← HF1.out]; exact HA.out.1
      have HSB : Hid (∀ V, Below B W V → (Below B W V ∧ V.cell? ⟨p, 11, none⟩ = some (.slice (some ⟨b, off, none⟩) VN vc) ∧ V.cell? ⟨b, off + k * 8, none⟩ = some (.int .i64 ysl) ∧ V.cell? ⟨b, off + k * 8 + 1, none⟩ = some (.int .i64 yr) ∧ V.cell? ⟨b, off + k * 8 + 2, none⟩ = some (.int .i64 yn) ∧ V.cell? ⟨b, off + k * 8 + 3, none⟩ = some (.bool ynp) ∧ V.cell? ⟨b, off + k * 8 + 4, none⟩ = some (.string ytk) ∧ V.cell? ⟨b, off + k * 8 + 5, none⟩ = some (.string yct) ∧ V.cell? ⟨b, off + k * 8 + 6, none⟩ = some (.int .i64 yep) ∧ V.cell? ⟨b, off + k * 8 + 7, none⟩ = some (.slice ya YN yc))) := fun V hV => by
        obtain ⟨-, q0, q1, q2, q3, q4, q5, q6, q7, q8, q9, q10, q11, q12, q13, q14⟩ := HSA.out _ hV
        exact ⟨hV, q11, HVC.out _ hV⟩
      have hbw := HA.out.2
      clear hlt hk hbl HTK HF1 HTL HG1 HG2 HG3 h1 h2 h3 h4 HVF
      obtain ⟨-, -, e0, e1, e2, e3, e4, e5, e6, e7⟩ := HSB.out _ HA.out.2
      go_wp2_with fail
      go_region_held3 (fun V => Below B W V ∧ V.cell? ⟨p, 11, none⟩ = some (.slice (some ⟨b, off, none⟩) VN vc) ∧ V.cell? ⟨b, off + k * 8, none⟩ = some (.int .i64 ysl) ∧ V.cell? ⟨b, off + k * 8 + 1, none⟩ = some (.int .i64 yr) ∧ V.cell? ⟨b, off + k * 8 + 2, none⟩ = some (.int .i64 yn) ∧ V.cell? ⟨b, off + k * 8 + 3, none⟩ = some (.bool ynp) ∧ V.cell? ⟨b, off + k * 8 + 4, none⟩ = some (.string ytk) ∧ V.cell? ⟨b, off + k * 8 + 5, none⟩ = some (.string yct) ∧ V.cell? ⟨b, off + k * 8 + 6, none⟩ = some (.int .i64 yep) ∧ V.cell? ⟨b, off + k * 8 + 7, none⟩ = some (.slice ya YN yc)) (first | assumption | (refine HSB.out _ ?_; first | assumption | exact hbw | exact below_dr1 hbw)) (first
        | (go_at_call 67; (with_reducible refine (HD1.out _ ?_).mono ?_); (first | assumption | exact hbw | exact below_dr1 hbw); rintro e Yw1 ⟨Yv1, Yg1, rfl, Yr1, Ys1, Yk1⟩)
        | (refine step_append_rw _ (by rfl) _ _ (by rfl) B W g Yg1 u3 Yv1 (P1 ++ F1) d1 (by rfl) (by rfl) (Yk1.out _ _ _ (Rw.dr HRw.out)).1 Yr1.out (by have := HSZ.out; (try simp only [List.length_append]); omega) Ys1 HBL.out ?_; rintro Yx2 Yw2 ⟨Yh2, Yr2, Ys2, Yk2⟩)
        | (go_at_call 68; (with_reducible refine (HD2.out _ ?_).mono ?_); (first | assumption | exact Ys2 | exact below_dr1 Ys2); rintro e Yw3 ⟨Yv3, Yg3, rfl, Yr3, Ys3, Yk3⟩)
        | (refine step_append_rw _ (by rfl) _ _ (by rfl) B W Yh2 Yg3 Yx2 Yv3 ((P1 ++ F1) ++ d1) d2 (by rfl) (by rfl) (Yk3.out _ _ _ Yr2.out).1 Yr3.out (by have := HSZ.out; (try simp only [List.length_append]); omega) Ys3 HBL.out ?_; rintro Yx4 Yw4 ⟨Yh4, Yr4, Ys4, Yk4⟩)
        | (go_at_call 69; (with_reducible refine (HD3.out _ ?_).mono ?_); (first | assumption | exact Ys4 | exact below_dr1 Ys4); rintro e Yw5 ⟨Yv5, Yg5, rfl, Yr5, Ys5, Yk5⟩)
        | (refine step_append_rw _ (by rfl) _ _ (by rfl) B W Yh4 Yg5 Yx4 Yv5 (((P1 ++ F1) ++ d1) ++ d2) d3 (by rfl) (by rfl) (Yk5.out _ _ _ Yr4.out).1 Yr5.out (by have := HSZ.out; (try simp only [List.length_append]); omega) Ys5 HBL.out ?_; rintro Yx6 Yw6 ⟨Yh6, Yr6, Ys6, Yk6⟩)
        | fail)
      have HZ := hid Ys6
      clear Ys1 Ys2 Ys3 Ys4 Ys5 Ys6 q0 q1 q2 q3 q4 q5 q6 q7 q8 q9 q10 q11 q12 q13 q14 e0 e1 e2 e3 e4 e5 e6 e7 hbw
      go_wp2
      go_roundw
      case rel =>
        refine ⟨k + 1, HKM.out, by go_num, Yh6, ?_, HZ.out⟩
        rw [HF2.out, HEQ.out]
        have h := Yr6.out
        simp only [List.append_assoc] at h ⊢
        exact h
      case measure => simp [intOf]; have := HKM.out; omega
    · have hlt' : ¬ (k : Int) < (VN : Int) := by omega
      have hke : Hid (vs.take k = vs) := by show _ = _; rw [List.take_of_length_le]; have := HVN.out; omega
      rw [hke.out, HPV.out.1] at HA
      obtain ⟨wA, rfl⟩ : ∃ V, V = wr := ⟨_, rfl⟩
      obtain ⟨uA, rfl⟩ : ∃ V, V = u3 := ⟨_, rfl⟩
      have hbw := HA.out.2
      have HRw : Hid (Rw B wA g uA (P1 ++ FV)) := HA.out.1
      have HSZ0 := HSZ
      have HSZ : Hid (P1.length ≤ 400 ∧ FV.length ≤ 1300000 ∧ b8.length ≤ 80 ∧ b9.length ≤ 10) := ⟨HP1.out.2, HPV.out.2, by have := HSZ0.out; omega, by have := HSZ0.out; omega⟩
      clear hlt hk q0 q1 q2 q3 q4 q5 q6 q7 q8 q9 q10 q11 q12 q13 q14
      obtain ⟨-, q0, q1, q2, q3, q4, q5, q6, q7, q8, q9, q10, q11, q12, q13, q14⟩ := HSA.out _ HA.out.2
      go_wp2_with fail
      go_region_held3 (fun V => Below B W V ∧ V.cell? ⟨p, 0, none⟩ = some (.int .i64 kd) ∧ V.cell? ⟨p, 1, none⟩ = some (.int .i64 fr) ∧ V.cell? ⟨p, 2, none⟩ = some (.int .i64 tt) ∧ V.cell? ⟨p, 3, none⟩ = some (.int .i64 br) ∧ V.cell? ⟨p, 4, none⟩ = some (.int .i64 bn) ∧ V.cell? ⟨p, 5, none⟩ = some (.int .i64 sl) ∧ V.cell? ⟨p, 6, none⟩ = some (.bool np) ∧ V.cell? ⟨p, 7, none⟩ = some (.string tk) ∧ V.cell? ⟨p, 8, none⟩ = some (.string ct) ∧ V.cell? ⟨p, 9, none⟩ = some (.int .i64 ep) ∧ V.cell? ⟨p, 10, none⟩ = some (.slice a XN c) ∧ V.cell? ⟨p, 11, none⟩ = some (.slice va VN vc) ∧ V.cell? ⟨p, 12, none⟩ = some (.slice sa SN sc) ∧ V.cell? ⟨p, 13, none⟩ = some (.slice ea EN ec) ∧ V.cell? ⟨p, 14, none⟩ = some (.int .i64 ti)) (first | assumption | (refine HSA.out _ ?_; first | assumption | exact hbw | exact below_dr1 hbw)) (first
        | (go_at_call 70; (with_reducible refine (HC8.out _ ?_).mono ?_); (first | assumption | exact hbw | exact below_dr1 hbw); rintro e Dw1 ⟨Dv1, Dg1, rfl, Dr1, Ds1, Dk1⟩)
        | (refine step_append_rw _ (by rfl) _ _ (by rfl) B W g Dg1 uA Dv1 (P1 ++ FV) b8 (by rfl) (by rfl) (Dk1.out _ _ _ (Rw.dr HRw.out)).1 Dr1.out (by have := HSZ.out; (try simp only [List.length_append]); omega) Ds1 HBL.out ?_; rintro Dx2 Dw2 ⟨Dh2, Dr2, Ds2, Dk2⟩)
        | (go_at_call 67; (with_reducible refine (HC9.out _ ?_).mono ?_); (first | assumption | exact Ds2 | exact below_dr1 Ds2); rintro e Dw3 ⟨Dv3, Dg3, rfl, Dr3, Ds3, Dk3⟩)
        | (refine step_append_rw _ (by rfl) _ _ (by rfl) B W Dh2 Dg3 Dx2 Dv3 ((P1 ++ FV) ++ b8) b9 (by rfl) (by rfl) (Dk3.out _ _ _ Dr2.out).1 Dr3.out (by have := HSZ.out; (try simp only [List.length_append]); omega) Ds3 HBL.out ?_; rintro Dx4 Dw4 ⟨Dh4, Dr4, Ds4, Dk4⟩)
        | fail)
      obtain ⟨P2, HP2⟩ : ∃ l, Hid ((((P1 ++ FV) ++ b8) ++ b9) = l ∧ l.length ≤ 1300500) := ⟨_, hid ⟨rfl, by have := HSZ.out; simp only [List.length_append]; omega⟩⟩
      have HR9 : Hid (Rw B Dw4 Dh4 Dx4 P2) := by rw [← HP2.out.1]; exact Dr4.out
      have HS9 := hid Ds4
      clear Ds1 Ds2 Ds3 Ds4 hbw q0 q1 q2 q3 q4 q5 q6 q7 q8 q9 q10 q11 q12 q13 q14
      obtain ⟨-, q0, q1, q2, q3, q4, q5, q6, q7, q8, q9, q10, q11, q12, q13, q14⟩ := HSA.out _ HS9.out
      go_wp2
      clear q0 q1 q2 q3 q4 q5 q6 q7 q8 q9 q10 q11 q12 q13 q14
      go_loopw [3, 5] (fun b i wr => ∃ k : Nat, k ≤ EN ∧ i = .int .i64 k ∧ ∃ g, Hid (Rw B wr g b (P2 ++ (evs.take k).flatMap (fun x => encEvC x.e)) ∧ Below B W wr)) (fun _ i _ => EN - (intOf i).toNat)
      case atStart => exact ⟨0, Nat.zero_le _, rfl, _, by rw [List.take_zero]; show Rw _ _ _ _ (P2 ++ []); rw [List.append_nil]; exact HR9.out, HS9.out⟩
      case round =>
        obtain ⟨i, hi, rfl, gi, HE⟩ := hrel
        obtain ⟨-, q0, q1, q2, q3, q4, q5, q6, q7, q8, q9, q10, q11, q12, q13, q14⟩ := HSA.out _ HE.out.2
        by_cases hlt2 : i < EN
        · have hlt2' : (i : Int) < (EN : Int) := by omega
          have hix : Hid (i < evs.length) := (by rw [HEN.out]; exact hlt2 : i < evs.length)
          have HIM : Hid (i + 1 ≤ EN) := (by omega : i + 1 ≤ EN)
          obtain ⟨g2, fo, hea, hgl, e0, e1, e2, e3, e4, e5, e6, e7⟩ := (HXO.out.evs.below (HBV.out _ HE.out.2)).at hix.out
          simp only at hea
          subst hea
          have HEK : Hid (EvOk wr (evs[i]'hix.out)) := (HXO.out.evs.1 _ (List.getElem_mem hix.out)).below (HBV.out _ HE.out.2)
          have HEF : Hid (EvF (evs[i]'hix.out).e ∧ (encEvC (evs[i]'hix.out).e).length ≤ 300) := HFE.out _ (List.getElem_mem hix.out)
          have HTK := hid (take_flat hix.out (fun x => encEvC x.e))
          have HTL : Hid (((evs.take i).flatMap (fun x => encEvC x.e)).length ≤ 1300000) := by
            have h1 := evs_len (xs := evs.take i) (fun y hy => (HFE.out y (List.mem_of_mem_take hy)).2)
            have h2 : (evs.take i).length ≤ 4096 := by rw [List.length_take]; omega
            show _ ≤ _
            omega
          have HRV : Hid (Calls Tryz.prog 71 #[(evs[i]'hix.out).val] wr (EncP B W wr (encEvC (evs[i]'hix.out).e))) :=
            enc_step (reventW wr (evs[i]'hix.out) HEF.out.1 HEK.out.deps) (encEvC_byP _) (by unfold encEvC encBC; simp only [List.length_append, List.length_cons]; omega) HE.out.2 HBL.out
          generalize evs[i]'hix.out = Y at e0 e1 e2 e3 e4 e5 e6 e7 HEK HEF HTK HRV
          obtain ⟨⟨yo, ys, ydp, yct, yep, ysk, yq, ycl⟩, ya, yc⟩ := Y
          obtain ⟨YN, HYN⟩ : ∃ m, Hid (ydp.length = m) := ⟨_, hid rfl⟩
          simp only at e0 e1 e2 e3 e4 e5 e6 e7
          rw [HYN.out] at e2
          dsimp only at HTK HRV HEF
          obtain ⟨d4, HG4⟩ : ∃ l, Hid (encEvC ⟨yo, ys, ydp, yct, yep, ysk, yq, ycl⟩ = l) := ⟨_, hid rfl⟩
          rw [HG4.out] at HTK HRV HEF
          have HRW : Hid (Calls Tryz.prog 71 #[.agg #[.int .i64 yo, .int .i64 ys, .slice ya YN yc, .string yct, .int .i64 yep, .string ysk, .int .i64 yq, .bool ycl]] wr (EncP B W wr d4)) := by rw [← HYN.out]; exact HRV.out
          have HSM : Hid ((P2 ++ (evs.take i).flatMap (fun x => encEvC x.e)).length + d4.length ≤ 140737488355328) := by
            have h1 := HTL.out
            have h2 := HP2.out.2
            have h3 := HEF.out.2
            show _ ≤ _
            rw [List.length_append]
            omega
          clear HRV hlt2 hi hgl
          go_wp2_with fail
          refine HRW.out.mono ?_
          rintro e z1 ⟨y1, gz1, rfl, rz1, sz1, kz1⟩
          clear q0 q1 q2 q3 q4 q5 q6 q7 q8 q9 q10 q11 q12 q13 q14 e0 e1 e2 e3 e4 e5 e6 e7
          go_wp2_with (at_builtin; refine wpList_append_rw _ rfl _ _ rfl B W gi gz1 u3 y1 _ _ rfl rfl (kz1.out _ _ _ HE.out.1).1 rz1.out HSM.out sz1 HBL.out ?_; rintro y2 z2 ⟨gz2, rz2, sz2, kz2⟩)
          have HZ2 := hid sz2
          clear sz1 sz2
          go_wp2
          go_roundw
          case rel =>
            refine ⟨i + 1, HIM.out, by go_num, gz2, ?_, HZ2.out⟩
            rw [HTK.out, ← List.append_assoc]
            exact rz2.out
          case measure => simp [intOf]; have := HIM.out; omega
        · have hlt2' : ¬ (i : Int) < (EN : Int) := by omega
          have hke2 : Hid (evs.take i = evs) := by show _ = _; rw [List.take_of_length_le]; have := HEN.out; omega
          rw [hke2.out, HPE.out.1] at HE
          have HSM : Hid ((P2 ++ FE).length + b10.length ≤ 140737488355328) := by
            have h1 := HPE.out.2
            have h2 := HP2.out.2
            have h3 := HSZ0.out
            show _ ≤ _
            rw [List.length_append]
            omega
          clear hlt2 hi
          go_wp2_with fail
          refine (HC10.out _ HE.out.2).mono ?_
          rintro e z1 ⟨y1, gz1, rfl, rz1, sz1, kz1⟩
          clear q0 q1 q2 q3 q4 q5 q6 q7 q8 q9 q10 q11 q12 q13 q14
          go_wp2_with (at_builtin; refine wpList_append_rw _ rfl _ _ rfl B W gi gz1 u3 y1 _ _ rfl rfl (kz1.out _ _ _ HE.out.1).1 rz1.out HSM.out sz1 HBL.out ?_; rintro y2 z2 ⟨gz2, rz2, sz2, kz2⟩)
          have HF : Hid (Below w.heap.size w z2) := HB.out.trans (sz2.mono HFB.out)
          have HO : Hid (WrP (P2 ++ FE ++ b10) w (.returned y2) z2) := ⟨_, rfl, ownsRow_base rz2.out.own HFB.out, HF.out⟩
          rw [← HP2.out.1, ← HP1.out.1] at HO
          clear sz1 sz2
          go_wp2
          go_ret
          have h := HO.out
          simp only [List.append_assoc] at h ⊢
          exact h
end Go.Proofs.YtfmnbehopdmahaaGreat
