/-
  Package codec: how a list of votes and one of events are written.
-/
import Derived.Test.YtfmnbehopdmahaaGreatCodW
import Derived.Test.YtfmnbehopdmahaaGreatTexts
import Derived.Deep.RegionHeld3
import Derived.Deep.RegionWith
import Derived.Deep.QuietTactic
import Derived.BigQuiet
import Derived.Test.YtfmnbehopdmahaaGreatCodA
namespace Go.Proofs.YtfmnbehopdmahaaGreat
open Go.RowKit Go.Maps
attribute [local go_sem] Oper.semAt_some

/-- A list as bytes. -/
def encEvs (xs : List EvM) : List Int := enc xs.length ++ xs.flatMap (fun x => encEvC x.e)
theorem evs_len {xs : List EvM} (h : ∀ x ∈ xs, (encEvC x.e).length ≤ 300) : (xs.flatMap (fun x => encEvC x.e)).length ≤ 300 * xs.length := by
  induction xs with
  | nil => simp
  | cons y r ih =>
    rw [List.flatMap_cons, List.length_append, List.length_cons]
    have h1 := ih (fun x hx => h x (List.mem_cons_of_mem _ hx))
    have h2 := h y (List.mem_cons_self ..)
    omega
set_option maxRecDepth 100000 in
set_option maxHeartbeats 1000000 in
theorem appendListEv_T (u : Value) (n : Nat) (bs : List Int) (ao : Option Addr) (cap : Nat) (xs : List EvM) (m : Nat) (hm : xs.length = m) (B : Nat) (w : World) (hv : ∀ V, Below B w V → HeldE V ao xs) (h7 : m ≤ 100000) (hin : ∀ x ∈ xs, EvF x.e ∧ (encEvC x.e).length ≤ 300)
    (hown : w.ownsRow B 5 1 u n (nums bs)) (hB : B ≤ w.heap.size) (hn : n ≤ 140737400000000) :
    Calls Tryz.prog 107 #[u, .slice ao m cap, .func (.func 108) #[] #[]] w (AppP B w n bs (encEvs xs)) := by
  have l0 := enc_le10 (x := m) (by omega)
  have HA := hid (appendUint_T u n bs m B w (by omega) (by omega) hown hB (by omega))
  rw [Int.toNat_natCast] at HA
  have hwr : IntKind.u64.wrap (m : Int) = (m : Int) := by rw [IntKind.wrap_u64]; omega
  obtain ⟨c0, HC0⟩ : ∃ c, Hid (n + (enc m).length = c) := ⟨_, hid rfl⟩
  unfold AppP at HA
  rw [HC0.out] at HA
  have hc0 : c0 ≤ 140737400000010 := by have := HC0.out; omega
  have HM := hid hm
  have HVV := hid hv
  have HIN := hid hin
  clear hm hv hin hown l0
  go_enter Tryz.func107, Tryz.ntmps107
  go_wp2_with fail
  refine HA.out.mono ?_
  rintro e w1 ⟨v1, rfl, hr1, hb1, ht1⟩
  have HT1 := hid ht1
  have HR1 := hid hr1
  have HB1 := hid hb1
  clear hr1 hb1 ht1 HA
  go_wp2
  go_loopw [0, 8, 16] (fun b _ i wr => ∃ k : Nat, k ≤ m ∧ i = .int .i64 k ∧ Hid (wr.ownsRow B 5 1 b (c0 + ((xs.take k).flatMap (fun x => encEvC x.e)).length) (nums (bs ++ enc m ++ (xs.take k).flatMap (fun x => encEvC x.e))) ∧ Below B w wr ∧ T8 w wr)) (fun _ _ i _ => m - (intOf i).toNat)
  case atStart => exact ⟨0, Nat.zero_le _, rfl, by rw [List.take_zero]; show World.ownsRow _ _ _ _ _ c0 (nums (bs ++ enc m ++ [])); rw [List.append_nil]; exact HR1.out, HB1.out, HT1.out⟩
  case round =>
    obtain ⟨k, hk, rfl, HR⟩ := hrel
    by_cases hlt : k < m
    · have hlt' : (k : Int) < (m : Int) := by omega
      have hkx : Hid (k < xs.length) := (by rw [HM.out]; exact hlt : k < xs.length)
      have HKM : Hid (k + 1 ≤ m) := (by omega : k + 1 ≤ m)
      have HVR := hid (HVV.out wr HR.out.2.1)
      obtain ⟨b, off, hao, hbb, c0', c1', c2', c3', c4', c5', c6', c7'⟩ := HVR.out.at hkx.out
      subst hao
      have HX2 := hid (HIN.out _ (List.getElem_mem hkx.out))
      have HTK : Hid ((xs.take (k + 1)).flatMap (fun x => encEvC x.e) = (xs.take k).flatMap (fun x => encEvC x.e) ++ (fun x : EvM => encEvC x.e) (xs[k]'hkx.out)) := by
        show _ = _
        rw [List.take_succ_eq_append_getElem hkx.out, List.flatMap_append]
        simp
      have HLN : Hid (((xs.take k).flatMap (fun x => encEvC x.e)).length ≤ 30000000) := by
        have h1 := evs_len (xs := xs.take k) (fun x hx => (HIN.out x (List.mem_of_mem_take hx)).2)
        rw [List.length_take] at h1
        show _ ≤ _
        omega
      have HOKV : Hid (∀ V, Below B wr V → HV V (xs[k]'hkx.out).ao (xs[k]'hkx.out).cap (xs[k]'hkx.out).e.deps) := fun V hV => ((HVV.out V (HR.out.2.1.trans hV)).1 _ (List.getElem_mem hkx.out)).deps
      obtain ⟨X, HX⟩ : ∃ X, Hid (xs[k]'hkx.out = X) := ⟨_, hid rfl⟩
      rw [HX.out] at HX2 HTK HOKV c0' c1' c2' c3' c4' c5' c6' c7'
      have HAN := hid (fun o => appendEvent_T u0 (c0 + ((xs.take k).flatMap (fun x => encEvC x.e)).length) (bs ++ enc m ++ (xs.take k).flatMap (fun x => encEvC x.e)) X B (wr.alloc o) HX2.out.1 (fun V hV => HOKV.out V (((Below.refl B wr).alloc (Nat.le_trans hB HR.out.2.1.size) o).trans hV)) (HR.out.1.alloc o) (Nat.le_trans hB (Nat.le_trans HR.out.2.1.size (by simp))) (by have := HLN.out; omega))
      obtain ⟨⟨o1, s1, dp, ct, ep, sk, qt, cl⟩, ao1, cap1⟩ := X
      obtain ⟨XN, HXN⟩ : ∃ m, Hid (dp.length = m) := ⟨_, hid rfl⟩
      simp only [EvM.val] at c0' c1' c2' c3' c4' c5' c6' c7' HAN
      rw [HXN.out] at c2' HAN
      go_wp2_with fail
      refine (HAN.out _).mono ?_
      rintro e w2 ⟨v2, rfl, hr2, hb2, ht2⟩
      have HR2 := hid hr2
      have HB2 := hid (HR.out.2.1.trans (((Below.refl B wr).alloc (Nat.le_trans hB HR.out.2.1.size) _).trans hb2))
      have HT2 := hid (HR.out.2.2.trans (((T8.refl wr).alloc _).trans ht2))
      clear hr2 hb2 ht2 HAN
      go_wp2
      go_roundw
      case rel =>
        refine ⟨k + 1, HKM.out, by go_num, ?_, HB2.out, HT2.out⟩
        rw [HTK.out, List.length_append, ← List.append_assoc, ← Nat.add_assoc]
        exact HR2.out
      case measure => simp [intOf]; have := HKM.out; omega
    · have hlt' : ¬ (k : Int) < (m : Int) := by omega
      have hke : Hid (xs.take k = xs) := by show _ = _; rw [List.take_of_length_le]; have := HM.out; omega
      rw [hke.out] at HR
      have HE : Hid (wr.ownsRow B 5 1 u0 (n + (encEvs xs).length) (nums (bs ++ encEvs xs))) := by
        have := HR.out.1
        rw [← HC0.out, List.append_assoc, Nat.add_assoc, ← List.length_append] at this
        show World.ownsRow _ _ _ _ _ _ _
        unfold encEvs
        rw [HM.out]
        exact this
      go_wp2
      go_ret
      exact ⟨_, rfl, HE.out, HR.out.2.1, HR.out.2.2⟩
/-- A list as bytes. -/
def encVos (xs : List VoM) : List Int := enc xs.length ++ xs.flatMap (fun x => encVo x)
theorem vos_len {xs : List VoM} (h : ∀ x ∈ xs, (encVo x).length ≤ 300) : (xs.flatMap (fun x => encVo x)).length ≤ 300 * xs.length := by
  induction xs with
  | nil => simp
  | cons y r ih =>
    rw [List.flatMap_cons, List.length_append, List.length_cons]
    have h1 := ih (fun x hx => h x (List.mem_cons_of_mem _ hx))
    have h2 := h y (List.mem_cons_self ..)
    omega
set_option maxRecDepth 100000 in
set_option maxHeartbeats 1000000 in
theorem appendListVo_T (u : Value) (n : Nat) (bs : List Int) (ao : Option Addr) (cap : Nat) (xs : List VoM) (m : Nat) (hm : xs.length = m) (B : Nat) (w : World) (hv : ∀ V, Below B w V → HeldVo V ao xs) (h7 : m ≤ 100000) (hin : ∀ x ∈ xs, VoF x ∧ (encVo x).length ≤ 300)
    (hown : w.ownsRow B 5 1 u n (nums bs)) (hB : B ≤ w.heap.size) (hn : n ≤ 140737400000000) :
    Calls Tryz.prog 104 #[u, .slice ao m cap, .func (.func 105) #[] #[]] w (AppP B w n bs (encVos xs)) := by
  have l0 := enc_le10 (x := m) (by omega)
  have HA := hid (appendUint_T u n bs m B w (by omega) (by omega) hown hB (by omega))
  rw [Int.toNat_natCast] at HA
  have hwr : IntKind.u64.wrap (m : Int) = (m : Int) := by rw [IntKind.wrap_u64]; omega
  obtain ⟨c0, HC0⟩ : ∃ c, Hid (n + (enc m).length = c) := ⟨_, hid rfl⟩
  unfold AppP at HA
  rw [HC0.out] at HA
  have hc0 : c0 ≤ 140737400000010 := by have := HC0.out; omega
  have HM := hid hm
  have HVV := hid hv
  have HIN := hid hin
  clear hm hv hin hown l0
  go_enter Tryz.func104, Tryz.ntmps104
  go_wp2_with fail
  refine HA.out.mono ?_
  rintro e w1 ⟨v1, rfl, hr1, hb1, ht1⟩
  have HT1 := hid ht1
  have HR1 := hid hr1
  have HB1 := hid hb1
  clear hr1 hb1 ht1 HA
  go_wp2
  go_loopw [0, 8, 16] (fun b _ i wr => ∃ k : Nat, k ≤ m ∧ i = .int .i64 k ∧ Hid (wr.ownsRow B 5 1 b (c0 + ((xs.take k).flatMap (fun x => encVo x)).length) (nums (bs ++ enc m ++ (xs.take k).flatMap (fun x => encVo x))) ∧ Below B w wr ∧ T8 w wr)) (fun _ _ i _ => m - (intOf i).toNat)
  case atStart => exact ⟨0, Nat.zero_le _, rfl, by rw [List.take_zero]; show World.ownsRow _ _ _ _ _ c0 (nums (bs ++ enc m ++ [])); rw [List.append_nil]; exact HR1.out, HB1.out, HT1.out⟩
  case round =>
    obtain ⟨k, hk, rfl, HR⟩ := hrel
    by_cases hlt : k < m
    · have hlt' : (k : Int) < (m : Int) := by omega
      have hkx : Hid (k < xs.length) := (by rw [HM.out]; exact hlt : k < xs.length)
      have HKM : Hid (k + 1 ≤ m) := (by omega : k + 1 ≤ m)
      have HVR := hid (HVV.out wr HR.out.2.1)
      obtain ⟨b, off, hao, hbb, hcc⟩ := HVR.out.at hkx.out
      subst hao
      have HX2 := hid (HIN.out _ (List.getElem_mem hkx.out))
      have HTK : Hid ((xs.take (k + 1)).flatMap (fun x => encVo x) = (xs.take k).flatMap (fun x => encVo x) ++ (fun x : VoM => encVo x) (xs[k]'hkx.out)) := by
        show _ = _
        rw [List.take_succ_eq_append_getElem hkx.out, List.flatMap_append]
        simp
      have HLN : Hid (((xs.take k).flatMap (fun x => encVo x)).length ≤ 30000000) := by
        have h1 := vos_len (xs := xs.take k) (fun x hx => (HIN.out x (List.mem_of_mem_take hx)).2)
        rw [List.length_take] at h1
        show _ ≤ _
        omega
      have HOKV : Hid (∀ V, Below B wr V → HV V (xs[k]'hkx.out).en.ao (xs[k]'hkx.out).en.cap (xs[k]'hkx.out).en.e.cut) := fun V hV => ((HVV.out V (HR.out.2.1.trans hV)).1 _ (List.getElem_mem hkx.out)).en.cut
      obtain ⟨X, HX⟩ : ∃ X, Hid (xs[k]'hkx.out = X) := ⟨_, hid rfl⟩
      rw [HX.out] at HX2 HTK HOKV hcc
      have HAN := hid (fun o => appendVoted_T u0 (c0 + ((xs.take k).flatMap (fun x => encVo x)).length) (bs ++ enc m ++ (xs.take k).flatMap (fun x => encVo x)) X B (wr.alloc o) HX2.out.1 (fun V hV => HOKV.out V (((Below.refl B wr).alloc (Nat.le_trans hB HR.out.2.1.size) o).trans hV)) (HR.out.1.alloc o) (Nat.le_trans hB (Nat.le_trans HR.out.2.1.size (by simp))) (by have := HLN.out; omega))
      obtain ⟨sl, ⟨b1, b2⟩, ⟨np, tk, ct, ep, cut⟩, ao1, cap1⟩ := X
      obtain ⟨XN, HXN⟩ : ∃ m, Hid (cut.length = m) := ⟨_, hid rfl⟩
      have c0' := hcc 0 _ rfl
      have c1' := hcc 1 _ rfl
      have c2' := hcc 2 _ rfl
      have c3' := hcc 3 _ rfl
      have c4' := hcc 4 _ rfl
      have c5' := hcc 5 _ rfl
      have c6' := hcc 6 _ rfl
      have c7' := hcc 7 _ rfl
      simp only [VoM.val, Nat.add_zero] at c0' c1' c2' c3' c4' c5' c6' c7' HAN
      rw [HXN.out] at c7' HAN
      clear hcc
      go_wp2_with fail
      refine (HAN.out _).mono ?_
      rintro e w2 ⟨v2, rfl, hr2, hb2, ht2⟩
      have HR2 := hid hr2
      have HB2 := hid (HR.out.2.1.trans (((Below.refl B wr).alloc (Nat.le_trans hB HR.out.2.1.size) _).trans hb2))
      have HT2 := hid (HR.out.2.2.trans (((T8.refl wr).alloc _).trans ht2))
      clear hr2 hb2 ht2 HAN
      go_wp2
      go_roundw
      case rel =>
        refine ⟨k + 1, HKM.out, by go_num, ?_, HB2.out, HT2.out⟩
        rw [HTK.out, List.length_append, ← List.append_assoc, ← Nat.add_assoc]
        exact HR2.out
      case measure => simp [intOf]; have := HKM.out; omega
    · have hlt' : ¬ (k : Int) < (m : Int) := by omega
      have hke : Hid (xs.take k = xs) := by show _ = _; rw [List.take_of_length_le]; have := HM.out; omega
      rw [hke.out] at HR
      have HE : Hid (wr.ownsRow B 5 1 u0 (n + (encVos xs).length) (nums (bs ++ encVos xs))) := by
        have := HR.out.1
        rw [← HC0.out, List.append_assoc, Nat.add_assoc, ← List.length_append] at this
        show World.ownsRow _ _ _ _ _ _ _
        unfold encVos
        rw [HM.out]
        exact this
      go_wp2
      go_ret
      exact ⟨_, rfl, HE.out, HR.out.2.1, HR.out.2.2⟩
end Go.Proofs.YtfmnbehopdmahaaGreat
/-
  Package codec: how a message is written; codec.Msg.
-/
namespace Go.Proofs.YtfmnbehopdmahaaGreat
open Go.RowKit Go.Maps
attribute [local go_sem] Oper.semAt_some

theorem vo_len {x : VoM} (h : VoF x) : (encVo x).length ≤ 300 := by
  unfold encVo
  rw [List.length_append, List.length_append]
  have h1 := enc_le10 (x := x.slot.toNat) (by have := h.s; omega)
  have h2 := bal_len h.b1 h.b2
  have h3 := en_len h.en
  omega
theorem ev_len {e : Ev} (h : EvF e) : (encEvC e).length ≤ 300 := by
  unfold encEvC
  simp only [List.length_append]
  have h1 := enc_le10 (x := e.o.toNat) (by have := h.o; omega)
  have h2 := enc_le10 (x := e.s.toNat) (by have := h.s; omega)
  have h3 := vec_len h.l h.i
  have h4 := text_len h.c
  have h5 := enc_le10 (x := e.epoch.toNat) (by have := h.ep; omega)
  have h6 := text_len h.k
  have h7 := enc_le10 (x := e.qty.toNat) (by have := h.q; omega)
  have h8 : (encBC e.clears).length = 1 := rfl
  omega
/-- A message as bytes. -/
def encMs (x : MsM) : List Int := enc x.kind.toNat ++ enc x.frm.toNat ++ enc x.to.toNat ++ (enc x.bal.1.toNat ++ enc x.bal.2.toNat) ++ enc x.slot.toNat ++ encEn x.en.e ++ encVos x.vs ++ encVC x.seen ++ encEvs x.evs ++ enc x.time.toNat
structure MsF (x : MsM) : Prop where
  k : 0 ≤ x.kind ∧ x.kind ≤ 255
  f : 0 ≤ x.frm ∧ x.frm ≤ 6
  t : 0 ≤ x.to ∧ x.to ≤ 6
  b1 : 0 ≤ x.bal.1 ∧ x.bal.1 ≤ 2147483647
  b2 : 0 ≤ x.bal.2 ∧ x.bal.2 ≤ 6
  s : 0 ≤ x.slot ∧ x.slot ≤ 2147483647
  en : x.en.e.noop = false → SeF x.en.e
  vl : x.vs.length ≤ 4096
  vs : ∀ y ∈ x.vs, VoF y ∧ (encVo y).length ≤ 300
  sl : x.seen.length ≤ 7
  si : InVC x.seen
  el : x.evs.length ≤ 4096
  es : ∀ y ∈ x.evs, EvF y.e ∧ (encEvC y.e).length ≤ 300
  ti : 0 ≤ x.time ∧ x.time ≤ 4611686018427387904
theorem rightMs_iff {x : MsM} (h : RightMs x = true) : MsF x := by
  unfold RightMs RightVs RightEs rightVC at h
  simp only [Bool.and_eq_true, decide_eq_true_eq, List.all_eq_true] at h
  obtain ⟨h1, h2, h3, h4, h5, h6, h7, h8, h9, h10⟩ := h
  exact ⟨h1, h2, h3, (rightBal_iff h4).1, (rightBal_iff h4).2, h5, rightEn_iff h6, h7.1, fun y hy => ⟨rightVo_iff (h7.2 y hy), vo_len (rightVo_iff (h7.2 y hy))⟩, h8.2.1, h8.1, h9.1, fun y hy => ⟨rightEvC_iff (h9.2 y hy), ev_len (rightEvC_iff (h9.2 y hy))⟩, h10⟩
theorem vosl {xs : List VoM} (h : xs.length ≤ 4096) (hi : ∀ y ∈ xs, VoF y ∧ (encVo y).length ≤ 300) : (encVos xs).length ≤ 1300000 := by
  unfold encVos
  rw [List.length_append]
  have h1 := enc_le10 (x := xs.length) (by omega)
  have h2 := vos_len (xs := xs) (fun x hx => (hi x hx).2)
  omega
theorem evsl {xs : List EvM} (h : xs.length ≤ 4096) (hi : ∀ y ∈ xs, EvF y.e ∧ (encEvC y.e).length ≤ 300) : (encEvs xs).length ≤ 1300000 := by
  unfold encEvs
  rw [List.length_append]
  have h1 := enc_le10 (x := xs.length) (by omega)
  have h2 := evs_len (xs := xs) (fun x hx => (hi x hx).2)
  omega
set_option maxRecDepth 100000 in
set_option maxHeartbeats 1000000 in
theorem appendMsg_T (u : Value) (n : Nat) (bs : List Int) (x : MsM) (B : Nat) (w : World) (hf : MsF x) (hx : ∀ V, Below B w V → MsOk V x) (hown : w.ownsRow B 5 1 u n (nums bs)) (hB : B ≤ w.heap.size) (hn : n ≤ 140737300000000) :
    Calls Tryz.prog 61 #[u, x.val] w (AppP B w n bs (encMs x)) := by
  obtain ⟨kd, fr, to, ⟨b1, b2⟩, sl, ⟨⟨np, tk, ct, ep, cut⟩, ao1, cap1⟩, vo, vc, vs, so, sc, seen, eo, ec, evs, ti⟩ := x
  obtain ⟨f1, f0, f9, f2, f3, f10, f4, f11, f12, f13, f14, f15, f16, f17⟩ := hf
  dsimp only [MsM.val] at f1 f0 f9 f2 f3 f10 f4 f11 f12 f13 f14 f15 f16 f17 ⊢
  have hv : ∀ V, Below B w V → HV V ao1 cap1 cut := fun V hV => (hx V hV).en.cut
  have hv2 : ∀ V, Below B w V → HeldVo V vo vs := fun V hV => (hx V hV).vs
  have hv3 : ∀ V, Below B w V → HV V so sc seen := fun V hV => (hx V hV).seen
  have hv4 : ∀ V, Below B w V → HeldE V eo evs := fun V hV => (hx V hV).evs
  clear hx
  unfold encMs
  dsimp only
  obtain ⟨W, hW⟩ : ∃ W, W = w.alloc (.cells #[.int .i64 kd, .int .i64 fr, .int .i64 to, .int .i64 b1, .int .i64 b2, .int .i64 sl, .bool np, .string tk, .string ct, .int .i64 ep, .slice ao1 cut.length cap1, .slice vo vs.length vc, .slice so seen.length sc, .slice eo evs.length ec, .int .i64 ti] 43) := ⟨_, rfl⟩
  have HB : Hid (StepT B w W) := by rw [hW]; exact ⟨(Below.refl _ _).alloc hB _, (T8.refl w).alloc _⟩
  have HK : Hid (Blk W w.heap.size 43 [.int .i64 kd, .int .i64 fr, .int .i64 to, .int .i64 b1, .int .i64 b2, .int .i64 sl, .bool np, .string tk, .string ct, .int .i64 ep, .slice ao1 cut.length cap1, .slice vo vs.length vc, .slice so seen.length sc, .slice eo evs.length ec, .int .i64 ti]) := by rw [hW]; exact Blk.new w _ _
  have HR0 : Hid (W.ownsRow B 5 1 u n (nums bs)) := by rw [hW]; exact hown.alloc _
  have hBW : B ≤ W.heap.size := Nat.le_trans hB HB.out.bel.size
  have l1 : (enc (kd).toNat).length ≤ 10 := enc_le10 (by omega)
  obtain ⟨a1, HA1⟩ : ∃ a, Hid ((enc (kd).toNat).length = a) := ⟨_, hid rfl⟩
  have m1 : a1 ≤ 10 := by rw [← HA1.out]; exact l1
  have l2 : (enc (fr).toNat).length ≤ 10 := enc_le10 (by omega)
  obtain ⟨a2, HA2⟩ : ∃ a, Hid ((enc (fr).toNat).length = a) := ⟨_, hid rfl⟩
  have m2 : a2 ≤ 10 := by rw [← HA2.out]; exact l2
  have l3 : (enc (to).toNat).length ≤ 10 := enc_le10 (by omega)
  obtain ⟨a3, HA3⟩ : ∃ a, Hid ((enc (to).toNat).length = a) := ⟨_, hid rfl⟩
  have m3 : a3 ≤ 10 := by rw [← HA3.out]; exact l3
  have l4 : (enc b1.toNat ++ enc b2.toNat).length ≤ 20 := bal_len f2 f3
  obtain ⟨a4, HA4⟩ : ∃ a, Hid ((enc b1.toNat ++ enc b2.toNat).length = a) := ⟨_, hid rfl⟩
  have m4 : a4 ≤ 20 := by rw [← HA4.out]; exact l4
  have l5 : (enc (sl).toNat).length ≤ 10 := enc_le10 (by omega)
  obtain ⟨a5, HA5⟩ : ∃ a, Hid ((enc (sl).toNat).length = a) := ⟨_, hid rfl⟩
  have m5 : a5 ≤ 10 := by rw [← HA5.out]; exact l5
  have l6 : (encEn ⟨np, tk, ct, ep, cut⟩).length ≤ 201 := en_len f4
  obtain ⟨a6, HA6⟩ : ∃ a, Hid ((encEn ⟨np, tk, ct, ep, cut⟩).length = a) := ⟨_, hid rfl⟩
  have m6 : a6 ≤ 201 := by rw [← HA6.out]; exact l6
  have l7 : (encVos vs).length ≤ 1300000 := vosl f11 f12
  obtain ⟨a7, HA7⟩ : ∃ a, Hid ((encVos vs).length = a) := ⟨_, hid rfl⟩
  have m7 : a7 ≤ 1300000 := by rw [← HA7.out]; exact l7
  have l8 : (encVC seen).length ≤ 80 := vec_len f13 f14
  obtain ⟨a8, HA8⟩ : ∃ a, Hid ((encVC seen).length = a) := ⟨_, hid rfl⟩
  have m8 : a8 ≤ 80 := by rw [← HA8.out]; exact l8
  have l9 : (encEvs evs).length ≤ 1300000 := evsl f15 f16
  obtain ⟨a9, HA9⟩ : ∃ a, Hid ((encEvs evs).length = a) := ⟨_, hid rfl⟩
  have m9 : a9 ≤ 1300000 := by rw [← HA9.out]; exact l9
  have l10 : (enc (ti).toNat).length ≤ 10 := enc_le10 (by omega)
  obtain ⟨a10, HA10⟩ : ∃ a, Hid ((enc (ti).toNat).length = a) := ⟨_, hid rfl⟩
  have m10 : a10 ≤ 10 := by rw [← HA10.out]; exact l10
  have HT1 : Hid (∀ V v cs, StepT B W V → Hid (V.ownsRow B 5 1 v (n) (nums cs)) → Calls Tryz.prog 101 #[v, .int .i64 kd] V fun e w' => ∃ v', e = .returned v' ∧ Hid (w'.ownsRow B 5 1 v' (n + a1) (nums (cs ++ (enc (kd).toNat)))) ∧ StepT B W w') := fun V v cs hV hr => by
    refine (appendNumber_T v (n) cs (kd) B V (f1.1) (by omega) hr.out (Nat.le_trans hBW hV.bel.size) (by omega)).mono ?_
    rintro e w' ⟨v', rfl, k1, k2, k3⟩
    exact ⟨v', rfl, by rw [← HA1.out]; exact k1, hV.go k2 k3⟩
  have HT2 : Hid (∀ V v cs, StepT B W V → Hid (V.ownsRow B 5 1 v (n + a1) (nums cs)) → Calls Tryz.prog 101 #[v, .int .i64 fr] V fun e w' => ∃ v', e = .returned v' ∧ Hid (w'.ownsRow B 5 1 v' (n + a1 + a2) (nums (cs ++ (enc (fr).toNat)))) ∧ StepT B W w') := fun V v cs hV hr => by
    refine (appendNumber_T v (n + a1) cs (fr) B V (f0.1) (by omega) hr.out (Nat.le_trans hBW hV.bel.size) (by omega)).mono ?_
    rintro e w' ⟨v', rfl, k1, k2, k3⟩
    exact ⟨v', rfl, by rw [← HA2.out]; exact k1, hV.go k2 k3⟩
  have HT3 : Hid (∀ V v cs, StepT B W V → Hid (V.ownsRow B 5 1 v (n + a1 + a2) (nums cs)) → Calls Tryz.prog 101 #[v, .int .i64 to] V fun e w' => ∃ v', e = .returned v' ∧ Hid (w'.ownsRow B 5 1 v' (n + a1 + a2 + a3) (nums (cs ++ (enc (to).toNat)))) ∧ StepT B W w') := fun V v cs hV hr => by
    refine (appendNumber_T v (n + a1 + a2) cs (to) B V (f9.1) (by omega) hr.out (Nat.le_trans hBW hV.bel.size) (by omega)).mono ?_
    rintro e w' ⟨v', rfl, k1, k2, k3⟩
    exact ⟨v', rfl, by rw [← HA3.out]; exact k1, hV.go k2 k3⟩
  have HT4 : Hid (∀ V v cs, StepT B W V → Hid (V.ownsRow B 5 1 v (n + a1 + a2 + a3) (nums cs)) → Calls Tryz.prog 102 #[v, .agg #[.int .i64 b1, .int .i64 b2]] V fun e w' => ∃ v', e = .returned v' ∧ Hid (w'.ownsRow B 5 1 v' (n + a1 + a2 + a3 + a4) (nums (cs ++ (enc b1.toNat ++ enc b2.toNat)))) ∧ StepT B W w') := fun V v cs hV hr => by
    refine (appendBallot_T v (n + a1 + a2 + a3) cs b1 b2 B V f2 f3 hr.out (Nat.le_trans hBW hV.bel.size) (by omega)).mono ?_
    rintro e w' ⟨v', rfl, k1, k2, k3⟩
    exact ⟨v', rfl, by rw [← HA4.out]; exact k1, hV.go k2 k3⟩
  have HT5 : Hid (∀ V v cs, StepT B W V → Hid (V.ownsRow B 5 1 v (n + a1 + a2 + a3 + a4) (nums cs)) → Calls Tryz.prog 101 #[v, .int .i64 sl] V fun e w' => ∃ v', e = .returned v' ∧ Hid (w'.ownsRow B 5 1 v' (n + a1 + a2 + a3 + a4 + a5) (nums (cs ++ (enc (sl).toNat)))) ∧ StepT B W w') := fun V v cs hV hr => by
    refine (appendNumber_T v (n + a1 + a2 + a3 + a4) cs (sl) B V (f10.1) (by omega) hr.out (Nat.le_trans hBW hV.bel.size) (by omega)).mono ?_
    rintro e w' ⟨v', rfl, k1, k2, k3⟩
    exact ⟨v', rfl, by rw [← HA5.out]; exact k1, hV.go k2 k3⟩
  have HT6 : Hid (∀ V v cs, StepT B W V → Hid (V.ownsRow B 5 1 v (n + a1 + a2 + a3 + a4 + a5) (nums cs)) → Calls Tryz.prog 103 #[v, .agg #[.bool np, .string tk, .string ct, .int .i64 ep, .slice ao1 cut.length cap1]] V fun e w' => ∃ v', e = .returned v' ∧ Hid (w'.ownsRow B 5 1 v' (n + a1 + a2 + a3 + a4 + a5 + a6) (nums (cs ++ (encEn ⟨np, tk, ct, ep, cut⟩)))) ∧ StepT B W w') := fun V v cs hV hr => by
    refine (appendEntry_T v (n + a1 + a2 + a3 + a4 + a5) cs ⟨⟨np, tk, ct, ep, cut⟩, ao1, cap1⟩ B V f4 (fun U hU => hv U (HB.out.bel.trans (hV.bel.trans hU))) hr.out (Nat.le_trans hBW hV.bel.size) (by omega)).mono ?_
    rintro e w' ⟨v', rfl, k1, k2, k3⟩
    exact ⟨v', rfl, by rw [← HA6.out]; exact k1, hV.go k2 k3⟩
  have HT7 : Hid (∀ V v cs, StepT B W V → Hid (V.ownsRow B 5 1 v (n + a1 + a2 + a3 + a4 + a5 + a6) (nums cs)) → Calls Tryz.prog 104 #[v, .slice vo vs.length vc, .func (.func 105) #[] #[]] V fun e w' => ∃ v', e = .returned v' ∧ Hid (w'.ownsRow B 5 1 v' (n + a1 + a2 + a3 + a4 + a5 + a6 + a7) (nums (cs ++ (encVos vs)))) ∧ StepT B W w') := fun V v cs hV hr => by
    refine (appendListVo_T v (n + a1 + a2 + a3 + a4 + a5 + a6) cs vo vc vs _ rfl B V (fun U hU => hv2 U (HB.out.bel.trans (hV.bel.trans hU))) (by omega) f12 hr.out (Nat.le_trans hBW hV.bel.size) (by omega)).mono ?_
    rintro e w' ⟨v', rfl, k1, k2, k3⟩
    exact ⟨v', rfl, by rw [← HA7.out]; exact k1, hV.go k2 k3⟩
  have HT8 : Hid (∀ V v cs, StepT B W V → Hid (V.ownsRow B 5 1 v (n + a1 + a2 + a3 + a4 + a5 + a6 + a7) (nums cs)) → Calls Tryz.prog 106 #[v, .slice so seen.length sc] V fun e w' => ∃ v', e = .returned v' ∧ Hid (w'.ownsRow B 5 1 v' (n + a1 + a2 + a3 + a4 + a5 + a6 + a7 + a8) (nums (cs ++ (encVC seen)))) ∧ StepT B W w') := fun V v cs hV hr => by
    refine (appendVector_T v (n + a1 + a2 + a3 + a4 + a5 + a6 + a7) cs so sc seen _ rfl B V (fun U hU => hv3 U (HB.out.bel.trans (hV.bel.trans hU))) f13 f14 hr.out (Nat.le_trans hBW hV.bel.size) (by omega)).mono ?_
    rintro e w' ⟨v', rfl, k1, k2, k3⟩
    exact ⟨v', rfl, by rw [← HA8.out]; exact k1, hV.go k2 k3⟩
  have HT9 : Hid (∀ V v cs, StepT B W V → Hid (V.ownsRow B 5 1 v (n + a1 + a2 + a3 + a4 + a5 + a6 + a7 + a8) (nums cs)) → Calls Tryz.prog 107 #[v, .slice eo evs.length ec, .func (.func 108) #[] #[]] V fun e w' => ∃ v', e = .returned v' ∧ Hid (w'.ownsRow B 5 1 v' (n + a1 + a2 + a3 + a4 + a5 + a6 + a7 + a8 + a9) (nums (cs ++ (encEvs evs)))) ∧ StepT B W w') := fun V v cs hV hr => by
    refine (appendListEv_T v (n + a1 + a2 + a3 + a4 + a5 + a6 + a7 + a8) cs eo ec evs _ rfl B V (fun U hU => hv4 U (HB.out.bel.trans (hV.bel.trans hU))) (by omega) f16 hr.out (Nat.le_trans hBW hV.bel.size) (by omega)).mono ?_
    rintro e w' ⟨v', rfl, k1, k2, k3⟩
    exact ⟨v', rfl, by rw [← HA9.out]; exact k1, hV.go k2 k3⟩
  have HT10 : Hid (∀ V v cs, StepT B W V → Hid (V.ownsRow B 5 1 v (n + a1 + a2 + a3 + a4 + a5 + a6 + a7 + a8 + a9) (nums cs)) → Calls Tryz.prog 101 #[v, .int .i64 ti] V fun e w' => ∃ v', e = .returned v' ∧ Hid (w'.ownsRow B 5 1 v' (n + a1 + a2 + a3 + a4 + a5 + a6 + a7 + a8 + a9 + a10) (nums (cs ++ (enc (ti).toNat)))) ∧ StepT B W w') := fun V v cs hV hr => by
    refine (appendNumber_T v (n + a1 + a2 + a3 + a4 + a5 + a6 + a7 + a8 + a9) cs (ti) B V (f17.1) (by omega) hr.out (Nat.le_trans hBW hV.bel.size) (by omega)).mono ?_
    rintro e w' ⟨v', rfl, k1, k2, k3⟩
    exact ⟨v', rfl, by rw [← HA10.out]; exact k1, hV.go k2 k3⟩
  have HLE : Hid (n + (enc kd.toNat ++ enc fr.toNat ++ enc to.toNat ++ (enc b1.toNat ++ enc b2.toNat) ++ enc sl.toNat ++ encEn ⟨np, tk, ct, ep, cut⟩ ++ encVos vs ++ encVC seen ++ encEvs evs ++ enc ti.toNat).length = n + a1 + a2 + a3 + a4 + a5 + a6 + a7 + a8 + a9 + a10) := by
    show _ = _
    simp only [List.length_append, HA1.out, HA2.out, HA3.out, HA4.out, HA5.out, HA6.out, HA7.out, HA8.out, HA9.out, HA10.out]
    omega
  have HEN : Hid (bs ++ (enc kd.toNat ++ enc fr.toNat ++ enc to.toNat ++ (enc b1.toNat ++ enc b2.toNat) ++ enc sl.toNat ++ encEn ⟨np, tk, ct, ep, cut⟩ ++ encVos vs ++ encVC seen ++ encEvs evs ++ enc ti.toNat) = bs ++ (enc (kd).toNat) ++ (enc (fr).toNat) ++ (enc (to).toNat) ++ (enc b1.toNat ++ enc b2.toNat) ++ (enc (sl).toNat) ++ (encEn ⟨np, tk, ct, ep, cut⟩) ++ (encVos vs) ++ (encVC seen) ++ (encEvs evs) ++ (enc (ti).toNat)) := by show _ = _; simp only [List.append_assoc]
  have HW := hid hW
  have c0 := HK.out.cell (i := 0) rfl
  have c1 := HK.out.cell (i := 1) rfl
  have c2 := HK.out.cell (i := 2) rfl
  have c3 := HK.out.cell (i := 3) rfl
  have c4 := HK.out.cell (i := 4) rfl
  have c5 := HK.out.cell (i := 5) rfl
  have c6 := HK.out.cell (i := 6) rfl
  have c7 := HK.out.cell (i := 7) rfl
  have c8 := HK.out.cell (i := 8) rfl
  have c9 := HK.out.cell (i := 9) rfl
  have c10 := HK.out.cell (i := 10) rfl
  have c11 := HK.out.cell (i := 11) rfl
  have c12 := HK.out.cell (i := 12) rfl
  have c13 := HK.out.cell (i := 13) rfl
  have c14 := HK.out.cell (i := 14) rfl
  rw [HW.out] at c0 c1 c2 c3 c4 c5 c6 c7 c8 c9 c10 c11 c12 c13 c14
  clear hW hown l1 m1 HA1 l2 m2 HA2 l3 m3 HA3 l4 m4 HA4 l5 m5 HA5 l6 m6 HA6 l7 m7 HA7 l8 m8 HA8 l9 m9 HA9 l10 m10 HA10 f1 f0 f9 f2 f3 f10 f4 f11 f12 f13 f14 f15 f16 f17 hv hv2 hv3 hv4
  go_enter Tryz.func61, Tryz.ntmps61
  go_wp2_with fail
  rw [← HW.out]
  obtain ⟨p, hp⟩ : ∃ p, p = w.heap.size := ⟨_, rfl⟩
  rw [← hp] at HK ⊢
  clear hp c0 c1 c2 c3 c4 c5 c6 c7 c8 c9 c10 c11 c12 c13 c14
  refine (HT1.out _ _ _ (StepT.start _ _) HR0).mono ?_
  rintro e w1 ⟨v1, rfl, HR1, hs1⟩
  have HS1 := hid hs1
  have hk1 := hs1.t8.blk HK.out (by decide)
  have c0 := hk1.cell (i := 0) rfl
  have c1 := hk1.cell (i := 1) rfl
  have c2 := hk1.cell (i := 2) rfl
  have c3 := hk1.cell (i := 3) rfl
  have c4 := hk1.cell (i := 4) rfl
  have c5 := hk1.cell (i := 5) rfl
  have c6 := hk1.cell (i := 6) rfl
  have c7 := hk1.cell (i := 7) rfl
  have c8 := hk1.cell (i := 8) rfl
  have c9 := hk1.cell (i := 9) rfl
  have c10 := hk1.cell (i := 10) rfl
  have c11 := hk1.cell (i := 11) rfl
  have c12 := hk1.cell (i := 12) rfl
  have c13 := hk1.cell (i := 13) rfl
  have c14 := hk1.cell (i := 14) rfl
  clear hs1 hk1 HT1
  go_wp2_with fail
  clear c0 c1 c2 c3 c4 c5 c6 c7 c8 c9 c10 c11 c12 c13 c14
  refine (HT2.out _ _ _ (HS1.out) HR1).mono ?_
  rintro e w2 ⟨v2, rfl, HR2, hs2⟩
  have HS2 := hid hs2
  have hk2 := hs2.t8.blk HK.out (by decide)
  have c0 := hk2.cell (i := 0) rfl
  have c1 := hk2.cell (i := 1) rfl
  have c2 := hk2.cell (i := 2) rfl
  have c3 := hk2.cell (i := 3) rfl
  have c4 := hk2.cell (i := 4) rfl
  have c5 := hk2.cell (i := 5) rfl
  have c6 := hk2.cell (i := 6) rfl
  have c7 := hk2.cell (i := 7) rfl
  have c8 := hk2.cell (i := 8) rfl
  have c9 := hk2.cell (i := 9) rfl
  have c10 := hk2.cell (i := 10) rfl
  have c11 := hk2.cell (i := 11) rfl
  have c12 := hk2.cell (i := 12) rfl
  have c13 := hk2.cell (i := 13) rfl
  have c14 := hk2.cell (i := 14) rfl
  clear hs2 hk2 HT2
  go_wp2_with fail
  clear c0 c1 c2 c3 c4 c5 c6 c7 c8 c9 c10 c11 c12 c13 c14
  refine (HT3.out _ _ _ (HS2.out) HR2).mono ?_
  rintro e w3 ⟨v3, rfl, HR3, hs3⟩
  have HS3 := hid hs3
  have hk3 := hs3.t8.blk HK.out (by decide)
  have c0 := hk3.cell (i := 0) rfl
  have c1 := hk3.cell (i := 1) rfl
  have c2 := hk3.cell (i := 2) rfl
  have c3 := hk3.cell (i := 3) rfl
  have c4 := hk3.cell (i := 4) rfl
  have c5 := hk3.cell (i := 5) rfl
  have c6 := hk3.cell (i := 6) rfl
  have c7 := hk3.cell (i := 7) rfl
  have c8 := hk3.cell (i := 8) rfl
  have c9 := hk3.cell (i := 9) rfl
  have c10 := hk3.cell (i := 10) rfl
  have c11 := hk3.cell (i := 11) rfl
  have c12 := hk3.cell (i := 12) rfl
  have c13 := hk3.cell (i := 13) rfl
  have c14 := hk3.cell (i := 14) rfl
  clear hs3 hk3 HT3
  go_wp2_with fail
  clear c0 c1 c2 c3 c4 c5 c6 c7 c8 c9 c10 c11 c12 c13 c14
  refine (HT4.out _ _ _ (HS3.out) HR3).mono ?_
  rintro e w4 ⟨v4, rfl, HR4, hs4⟩
  have HS4 := hid hs4
  have hk4 := hs4.t8.blk HK.out (by decide)
  have c0 := hk4.cell (i := 0) rfl
  have c1 := hk4.cell (i := 1) rfl
  have c2 := hk4.cell (i := 2) rfl
  have c3 := hk4.cell (i := 3) rfl
  have c4 := hk4.cell (i := 4) rfl
  have c5 := hk4.cell (i := 5) rfl
  have c6 := hk4.cell (i := 6) rfl
  have c7 := hk4.cell (i := 7) rfl
  have c8 := hk4.cell (i := 8) rfl
  have c9 := hk4.cell (i := 9) rfl
  have c10 := hk4.cell (i := 10) rfl
  have c11 := hk4.cell (i := 11) rfl
  have c12 := hk4.cell (i := 12) rfl
  have c13 := hk4.cell (i := 13) rfl
  have c14 := hk4.cell (i := 14) rfl
  clear hs4 hk4 HT4
  go_wp2_with fail
  clear c0 c1 c2 c3 c4 c5 c6 c7 c8 c9 c10 c11 c12 c13 c14
  refine (HT5.out _ _ _ (HS4.out) HR4).mono ?_
  rintro e w5 ⟨v5, rfl, HR5, hs5⟩
  have HS5 := hid hs5
  have hk5 := hs5.t8.blk HK.out (by decide)
  have c0 := hk5.cell (i := 0) rfl
  have c1 := hk5.cell (i := 1) rfl
  have c2 := hk5.cell (i := 2) rfl
  have c3 := hk5.cell (i := 3) rfl
  have c4 := hk5.cell (i := 4) rfl
  have c5 := hk5.cell (i := 5) rfl
  have c6 := hk5.cell (i := 6) rfl
  have c7 := hk5.cell (i := 7) rfl
  have c8 := hk5.cell (i := 8) rfl
  have c9 := hk5.cell (i := 9) rfl
  have c10 := hk5.cell (i := 10) rfl
  have c11 := hk5.cell (i := 11) rfl
  have c12 := hk5.cell (i := 12) rfl
  have c13 := hk5.cell (i := 13) rfl
  have c14 := hk5.cell (i := 14) rfl
  clear hs5 hk5 HT5
  go_wp2_with fail
  clear c0 c1 c2 c3 c4 c5 c6 c7 c8 c9 c10 c11 c12 c13 c14
  refine (HT6.out _ _ _ (HS5.out) HR5).mono ?_
  rintro e w6 ⟨v6, rfl, HR6, hs6⟩
  have HS6 := hid hs6
  have hk6 := hs6.t8.blk HK.out (by decide)
  have c0 := hk6.cell (i := 0) rfl
  have c1 := hk6.cell (i := 1) rfl
  have c2 := hk6.cell (i := 2) rfl
  have c3 := hk6.cell (i := 3) rfl
  have c4 := hk6.cell (i := 4) rfl
  have c5 := hk6.cell (i := 5) rfl
  have c6 := hk6.cell (i := 6) rfl
  have c7 := hk6.cell (i := 7) rfl
  have c8 := hk6.cell (i := 8) rfl
  have c9 := hk6.cell (i := 9) rfl
  have c10 := hk6.cell (i := 10) rfl
  have c11 := hk6.cell (i := 11) rfl
  have c12 := hk6.cell (i := 12) rfl
  have c13 := hk6.cell (i := 13) rfl
  have c14 := hk6.cell (i := 14) rfl
  clear hs6 hk6 HT6
  go_wp2_with fail
  clear c0 c1 c2 c3 c4 c5 c6 c7 c8 c9 c10 c11 c12 c13 c14
  refine (HT7.out _ _ _ (HS6.out) HR6).mono ?_
  rintro e w7 ⟨v7, rfl, HR7, hs7⟩
  have HS7 := hid hs7
  have hk7 := hs7.t8.blk HK.out (by decide)
  have c0 := hk7.cell (i := 0) rfl
  have c1 := hk7.cell (i := 1) rfl
  have c2 := hk7.cell (i := 2) rfl
  have c3 := hk7.cell (i := 3) rfl
  have c4 := hk7.cell (i := 4) rfl
  have c5 := hk7.cell (i := 5) rfl
  have c6 := hk7.cell (i := 6) rfl
  have c7 := hk7.cell (i := 7) rfl
  have c8 := hk7.cell (i := 8) rfl
  have c9 := hk7.cell (i := 9) rfl
  have c10 := hk7.cell (i := 10) rfl
  have c11 := hk7.cell (i := 11) rfl
  have c12 := hk7.cell (i := 12) rfl
  have c13 := hk7.cell (i := 13) rfl
  have c14 := hk7.cell (i := 14) rfl
  clear hs7 hk7 HT7
  go_wp2_with fail
  clear c0 c1 c2 c3 c4 c5 c6 c7 c8 c9 c10 c11 c12 c13 c14
  refine (HT8.out _ _ _ (HS7.out) HR7).mono ?_
  rintro e w8 ⟨v8, rfl, HR8, hs8⟩
  have HS8 := hid hs8
  have hk8 := hs8.t8.blk HK.out (by decide)
  have c0 := hk8.cell (i := 0) rfl
  have c1 := hk8.cell (i := 1) rfl
  have c2 := hk8.cell (i := 2) rfl
  have c3 := hk8.cell (i := 3) rfl
  have c4 := hk8.cell (i := 4) rfl
  have c5 := hk8.cell (i := 5) rfl
  have c6 := hk8.cell (i := 6) rfl
  have c7 := hk8.cell (i := 7) rfl
  have c8 := hk8.cell (i := 8) rfl
  have c9 := hk8.cell (i := 9) rfl
  have c10 := hk8.cell (i := 10) rfl
  have c11 := hk8.cell (i := 11) rfl
  have c12 := hk8.cell (i := 12) rfl
  have c13 := hk8.cell (i := 13) rfl
  have c14 := hk8.cell (i := 14) rfl
  clear hs8 hk8 HT8
  go_wp2_with fail
  clear c0 c1 c2 c3 c4 c5 c6 c7 c8 c9 c10 c11 c12 c13 c14
  refine (HT9.out _ _ _ (HS8.out) HR8).mono ?_
  rintro e w9 ⟨v9, rfl, HR9, hs9⟩
  have HS9 := hid hs9
  have hk9 := hs9.t8.blk HK.out (by decide)
  have c0 := hk9.cell (i := 0) rfl
  have c1 := hk9.cell (i := 1) rfl
  have c2 := hk9.cell (i := 2) rfl
  have c3 := hk9.cell (i := 3) rfl
  have c4 := hk9.cell (i := 4) rfl
  have c5 := hk9.cell (i := 5) rfl
  have c6 := hk9.cell (i := 6) rfl
  have c7 := hk9.cell (i := 7) rfl
  have c8 := hk9.cell (i := 8) rfl
  have c9 := hk9.cell (i := 9) rfl
  have c10 := hk9.cell (i := 10) rfl
  have c11 := hk9.cell (i := 11) rfl
  have c12 := hk9.cell (i := 12) rfl
  have c13 := hk9.cell (i := 13) rfl
  have c14 := hk9.cell (i := 14) rfl
  clear hs9 hk9 HT9
  go_wp2_with fail
  clear c0 c1 c2 c3 c4 c5 c6 c7 c8 c9 c10 c11 c12 c13 c14
  refine (HT10.out _ _ _ (HS9.out) HR9).mono ?_
  rintro e w10 ⟨v10, rfl, HR10, hs10⟩
  have HS10 := hid hs10
  have hk10 := hs10.t8.blk HK.out (by decide)
  have c0 := hk10.cell (i := 0) rfl
  have c1 := hk10.cell (i := 1) rfl
  have c2 := hk10.cell (i := 2) rfl
  have c3 := hk10.cell (i := 3) rfl
  have c4 := hk10.cell (i := 4) rfl
  have c5 := hk10.cell (i := 5) rfl
  have c6 := hk10.cell (i := 6) rfl
  have c7 := hk10.cell (i := 7) rfl
  have c8 := hk10.cell (i := 8) rfl
  have c9 := hk10.cell (i := 9) rfl
  have c10 := hk10.cell (i := 10) rfl
  have c11 := hk10.cell (i := 11) rfl
  have c12 := hk10.cell (i := 12) rfl
  have c13 := hk10.cell (i := 13) rfl
  have c14 := hk10.cell (i := 14) rfl
  clear hs10 hk10 HT10
  have HF : Hid (StepT B w w10) := ⟨HB.out.bel.trans HS10.out.bel, HB.out.t8.trans HS10.out.t8⟩
  go_wp2
  go_ret
  refine ⟨_, rfl, ?_, HF.out.bel, HF.out.t8⟩
  rw [HLE.out, HEN.out]
  exact HR10.out
end Go.Proofs.YtfmnbehopdmahaaGreat
/-
  Package ballot: the order of ballots, the next one, how many are a majority; the document's own.
-/
namespace Go.Proofs.YtfmnbehopdmahaaGreat
open Go.RowKit Go.Maps

/-- Two numbers, held against one another. -/
def cmpN (x y : Int) : Int := if x < y then -1 else if y < x then 1 else 0
/-- Two ballots, held against one another. -/
def cmpB (a b : Int × Int) : Int := if cmpN a.1 b.1 ≠ 0 then cmpN a.1 b.1 else cmpN a.2 b.2
theorem cmpN_same (x : Int) : cmpN x x = 0 := by simp [cmpN]
theorem cmpN_zero {x y : Int} : cmpN x y = 0 ↔ x = y := by
  unfold cmpN
  split
  · constructor <;> intro h <;> omega
  · split <;> constructor <;> intro h <;> omega
theorem cmpN_neg (x y : Int) : cmpN y x = - cmpN x y := by
  unfold cmpN
  by_cases h1 : x < y
  · have : ¬ y < x := by omega
    simp [h1, this]
  · by_cases h2 : y < x
    · simp [h1, h2]
    · simp [h1, h2]
theorem cmpB_same (a : Int × Int) : cmpB a a = 0 := by simp [cmpB, cmpN_same]
theorem cmpB_zero {a b : Int × Int} : cmpB a b = 0 ↔ a = b := by
  unfold cmpB
  constructor
  · intro h
    by_cases h1 : cmpN a.1 b.1 = 0
    · rw [if_neg (by simpa using h1)] at h
      exact Prod.ext (cmpN_zero.1 h1) (cmpN_zero.1 h)
    · rw [if_pos h1] at h
      exact absurd h h1
  · rintro rfl
    simp [cmpN_same]
theorem cmpB_neg (a b : Int × Int) : cmpB b a = - cmpB a b := by
  unfold cmpB
  rw [cmpN_neg a.1 b.1, cmpN_neg a.2 b.2]
  by_cases h : cmpN a.1 b.1 = 0
  · simp [h]
  · rw [if_pos h, if_pos (by omega)]
/-- What a comparison may answer. -/
theorem cmpN_or (x y : Int) : cmpN x y = -1 ∨ cmpN x y = 0 ∨ cmpN x y = 1 := by
  unfold cmpN
  split
  · simp
  · split <;> simp
theorem cmpB_or (a b : Int × Int) : cmpB a b = -1 ∨ cmpB a b = 0 ∨ cmpB a b = 1 := by
  unfold cmpB
  split
  · exact cmpN_or _ _
  · exact cmpN_or _ _
/-- a is below b. -/
def LtB (a b : Int × Int) : Prop := a.1 < b.1 ∨ a.1 = b.1 ∧ a.2 < b.2
theorem cmpB_lt {a b : Int × Int} : cmpB a b < 0 ↔ LtB a b := by
  unfold cmpB cmpN LtB
  by_cases h1 : a.1 < b.1
  · simp [h1]
  · by_cases h2 : b.1 < a.1
    · simp only [if_neg h1, if_pos h2]
      simp
      omega
    · simp only [if_neg h1, if_neg h2]
      by_cases h3 : a.2 < b.2
      · simp [h3]
        omega
      · by_cases h4 : b.2 < a.2
        · simp [h3, h4]
          omega
        · simp [h3, h4]
          omega
theorem LtB.trans {a b c : Int × Int} (h : LtB a b) (k : LtB b c) : LtB a c := by
  unfold LtB at *
  omega

theorem isNaN_B (w : World) (x : Int) : Calls Tryz.prog 185 #[.int .i64 x] w fun e w' => e = .returned (.bool false) ∧ w' = w := by
  go_enter Tryz.func185, Tryz.ntmps185
  go_wp2
  go_ret
  exact ⟨by simp, rfl⟩
theorem compare_B (w : World) (x y : Int) : Calls Tryz.prog 176 #[.int .i64 x, .int .i64 y] w fun e w' => e = .returned (.int .i64 (cmpN x y)) ∧ w' = w := by
  have HX := hid (isNaN_B w x)
  have HY := hid (isNaN_B w y)
  by_cases h1 : x < y
  · have HC : Hid (cmpN x y = -1) := by show _ = _; unfold cmpN; rw [if_pos h1]
    go_enter Tryz.func176, Tryz.ntmps176
    go_wp2_with fail
    refine HX.out.mono ?_
    rintro e w' ⟨rfl, rfl⟩
    go_wp2_with fail
    refine HY.out.mono ?_
    rintro e w' ⟨rfl, rfl⟩
    go_wp2
    go_ret
    exact ⟨by rw [HC.out]; rfl, rfl⟩
  · by_cases h2 : y < x
    · have HC : Hid (cmpN x y = 1) := by show _ = _; unfold cmpN; rw [if_neg h1, if_pos h2]
      go_enter Tryz.func176, Tryz.ntmps176
      go_wp2_with fail
      refine HX.out.mono ?_
      rintro e w' ⟨rfl, rfl⟩
      go_wp2_with fail
      refine HY.out.mono ?_
      rintro e w' ⟨rfl, rfl⟩
      go_wp2
      go_ret
      exact ⟨by rw [HC.out]; rfl, rfl⟩
    · have HC : Hid (cmpN x y = 0) := by show _ = _; unfold cmpN; rw [if_neg h1, if_neg h2]
      go_enter Tryz.func176, Tryz.ntmps176
      go_wp2_with fail
      refine HX.out.mono ?_
      rintro e w' ⟨rfl, rfl⟩
      go_wp2_with fail
      refine HY.out.mono ?_
      rintro e w' ⟨rfl, rfl⟩
      go_wp2
      go_ret
      exact ⟨by rw [HC.out]; rfl, rfl⟩
set_option maxRecDepth 100000 in
theorem or_B (w : World) (g : Nat) (a b : Int) (h0 : w.cell? ⟨g, 0, none⟩ = some (.int .i64 a)) (h1 : w.cell? ⟨g, 1, none⟩ = some (.int .i64 b)) :
    Calls Tryz.prog 175 #[.slice (some ⟨g, 0, none⟩) 2 2] w fun e w' => e = .returned (.int .i64 (if a ≠ 0 then a else b)) ∧ w' = w := by
  by_cases ha : a = 0
  · subst ha
    by_cases hb : b = 0
    · subst hb
      go_enter Tryz.func175, Tryz.ntmps175
      go_wp2
      refine wp_loop_rounds 3 ?_
      rw [rounds_succ]
      go_wp2
      rw [rounds_succ]
      go_wp2
      rw [rounds_succ]
      go_wp2
      go_ret
      exact ⟨rfl, rfl⟩
    · have hb' : (b != 0) = true := by simpa using hb
      go_enter Tryz.func175, Tryz.ntmps175
      go_wp2
      refine wp_loop_rounds 3 ?_
      rw [rounds_succ]
      go_wp2
      rw [rounds_succ]
      go_wp2
      go_ret
      exact ⟨rfl, rfl⟩
  · have ha' : (a != 0) = true := by simpa using ha
    go_enter Tryz.func175, Tryz.ntmps175
    go_wp2
    refine wp_loop_rounds 3 ?_
    rw [rounds_succ]
    go_wp2
    go_ret
    exact ⟨rfl, rfl⟩
theorem newBa (V : World) (g : Nat) (hg : g = V.heap.size) (a b : Value) (t : TypeId) : (V.alloc (.cells #[a, b] t)).cell? ⟨g, 0, none⟩ = some a := by subst hg; exact (Blk.new V t [a, b]).cell rfl
theorem newBb (V : World) (g : Nat) (hg : g = V.heap.size) (a b : Value) (t : TypeId) : (V.alloc (.cells #[a, b] t)).cell? ⟨g, 1, none⟩ = some b := by subst hg; exact (Blk.new V t [a, b]).cell rfl
/-- A ballot as a value. -/
abbrev blt (a : Int × Int) : Value := .agg #[.int .i64 a.1, .int .i64 a.2]
set_option maxRecDepth 100000 in
theorem compareEq (W : World) (x1 x2 : Int) : Calls Tryz.prog 138 #[blt (x1, x2), blt (x1, x2)] W fun e w' => e = .returned (.int .i64 0) ∧ Below W.heap.size W w' := by
  have HB : Hid (Below W.heap.size W ((W.alloc (.cells #[.int .i64 x1, .int .i64 x2] 35)).alloc (.cells #[.int .i64 x1, .int .i64 x2] 35))) := ((Below.refl _ _).alloc (Nat.le_refl _) _).alloc (by simp) _
  go_enter Tryz.func138, Tryz.ntmps138
  go_wp2
  go_ret
  exact ⟨rfl, HB.out⟩
set_option maxRecDepth 100000 in
theorem compareNe (W : World) (x y : Int × Int) (hne : x ≠ y) : Calls Tryz.prog 138 #[blt x, blt y] W fun e w' => e = .returned (.int .i64 (cmpB x y)) ∧ Below W.heap.size W w' := by
  obtain ⟨x1, x2⟩ := x
  obtain ⟨y1, y2⟩ := y
  obtain ⟨c1, HC1⟩ : ∃ c, Hid (cmpN x1 y1 = c) := ⟨_, hid rfl⟩
  obtain ⟨c2, HC2⟩ : ∃ c, Hid (cmpN x2 y2 = c) := ⟨_, hid rfl⟩
  have HK1 : Hid (∀ V, Calls Tryz.prog 176 #[.int .i64 x1, .int .i64 y1] V fun e w' => e = .returned (.int .i64 c1) ∧ w' = V) := fun V => by rw [← HC1.out]; exact compare_B V x1 y1
  have HK2 : Hid (∀ V, Calls Tryz.prog 176 #[.int .i64 x2, .int .i64 y2] V fun e w' => e = .returned (.int .i64 c2) ∧ w' = V) := fun V => by rw [← HC2.out]; exact compare_B V x2 y2
  obtain ⟨r, HR⟩ : ∃ r, Hid ((if c1 ≠ 0 then c1 else c2) = r) := ⟨_, hid rfl⟩
  have HRD : Hid (cmpB (x1, x2) (y1, y2) = r) := by show _ = _; unfold cmpB; rw [HC1.out, HC2.out]; exact HR.out
  have HK3 : Hid (∀ V g, V.cell? ⟨g, 0, none⟩ = some (.int .i64 c1) → V.cell? ⟨g, 1, none⟩ = some (.int .i64 c2) → Calls Tryz.prog 175 #[.slice (some ⟨g, 0, none⟩) 2 2] V fun e w' => e = .returned (.int .i64 r) ∧ w' = V) := fun V g h0 h1 => by rw [← HR.out]; exact or_B V g c1 c2 h0 h1
  rw [HRD.out]
  have hne2 : (x1 == y1) = false ∨ ((x1 == y1) = true ∧ (x2 == y2) = false) := by
    simp only [ne_eq, Prod.mk.injEq] at hne
    simp only [beq_eq_false_iff_ne, beq_iff_eq]
    omega
  clear hne
  go_enter Tryz.func138, Tryz.ntmps138
  have hbA : Blk ((W.alloc (.cells #[.int .i64 x1, .int .i64 x2] 35)).alloc (.cells #[.int .i64 y1, .int .i64 y2] 35)) W.heap.size 35 [.int .i64 x1, .int .i64 x2] := (Blk.new W 35 [.int .i64 x1, .int .i64 x2]).alloc _
  have hbB : Blk ((W.alloc (.cells #[.int .i64 x1, .int .i64 x2] 35)).alloc (.cells #[.int .i64 y1, .int .i64 y2] 35)) (W.heap.size + 1) 35 [.int .i64 y1, .int .i64 y2] := by
    have := Blk.new (W.alloc (.cells #[.int .i64 x1, .int .i64 x2] 35)) 35 [.int .i64 y1, .int .i64 y2]
    rw [World.size_alloc] at this
    exact this
  have HG : Hid (Below W.heap.size W ((W.alloc (.cells #[.int .i64 x1, .int .i64 x2] 35)).alloc (.cells #[.int .i64 y1, .int .i64 y2] 35))) := ((Below.refl _ _).alloc (Nat.le_refl _) _).alloc (by simp) _
  rcases hne2 with hx | ⟨hy, hx⟩
  all_goals
    go_wp2
    generalize (W.alloc (.cells #[.int .i64 x1, .int .i64 x2] 35)).alloc (.cells #[.int .i64 y1, .int .i64 y2] 35) = W2 at *
    obtain ⟨pa, hpa⟩ : ∃ p, p = W.heap.size := ⟨_, rfl⟩
    obtain ⟨pb, hpb⟩ : ∃ p, p = W.heap.size + 1 := ⟨_, rfl⟩
    rw [← hpb, ← hpa]
    rw [← hpa] at hbA
    rw [← hpb] at hbB
    have a0 := hbA.cell (i := 0) rfl
    have a1 := hbA.cell (i := 1) rfl
    have b0 := hbB.cell (i := 0) rfl
    have b1 := hbB.cell (i := 1) rfl
    have n1 := hbA.lt
    have n2 := hbB.lt
    have HPW := hid hpa
    clear hbA hbB hpa hpb hx
    go_region_held3 (fun V => V.cell? ⟨pa, 0, none⟩ = some (.int .i64 x1) ∧ V.cell? ⟨pa, 1, none⟩ = some (.int .i64 x2) ∧ V.cell? ⟨pb, 0, none⟩ = some (.int .i64 y1) ∧ V.cell? ⟨pb, 1, none⟩ = some (.int .i64 y2)) (go_keep) (first
      | (go_at_call 176; with_reducible refine (HK1.out _).mono ?_; rintro e w' ⟨rfl, rfl⟩)
      | (go_at_call 176; with_reducible refine (HK2.out _).mono ?_; rintro e w' ⟨rfl, rfl⟩)
      | (go_at_call 175; refine (HK3.out _ _ ?_ ?_).mono ?_; (first | exact newBa _ _ rfl _ _ _ | (simp; exact newBa _ _ (by simp) _ _ _)); (first | exact newBb _ _ rfl _ _ _ | (simp; exact newBb _ _ (by simp) _ _ _)); rintro e w' ⟨rfl, rfl⟩))
    all_goals
      go_wp2
      go_ret
      refine ⟨rfl, ?_⟩
      exact below_dn (HG.out.alloc HG.out.size _) 1
theorem compareB (W : World) (x y : Int × Int) : Calls Tryz.prog 138 #[blt x, blt y] W fun e w' => e = .returned (.int .i64 (cmpB x y)) ∧ Below W.heap.size W w' := by
  by_cases h : x = y
  · subst h
    rw [cmpB_same]
    exact compareEq W x.1 x.2
  · exact compareNe W x y h
end Go.Proofs.YtfmnbehopdmahaaGreat
/-
  What an acceptor has, with no memory in it: what it promised, its last votes; what a message makes of it.
-/
namespace Go.Proofs.YtfmnbehopdmahaaGreat
open Go.RowKit

abbrev Vt := (Int × Int) × En
structure Ac where
  node : Int
  pr : Int × Int
  f : Int → Option Vt
  ks : List Int
theorem leB_trans {a b c : Int × Int} (h : cmpB a b ≤ 0) (k : cmpB b c ≤ 0) : cmpB a c ≤ 0 := by
  have h1 : ¬ LtB b a := fun hh => by have := cmpB_lt.2 hh; rw [cmpB_neg] at this; omega
  have h2 : ¬ LtB c b := fun hh => by have := cmpB_lt.2 hh; rw [cmpB_neg] at this; omega
  have h3 : ¬ LtB c a := by unfold LtB at *; omega
  rcases cmpB_or a c with e | e | e
  · omega
  · omega
  · have : cmpB c a < 0 := by rw [cmpB_neg]; omega
    exact absurd (cmpB_lt.1 this) h3
structure AcOk (a : Ac) : Prop where
  rise : Rises a.ks
  has : ∀ s, s ∈ a.ks ↔ (a.f s).isSome = true
  slot : ∀ s ∈ a.ks, 0 ≤ s ∧ s ≤ 2147483647
  few : a.ks.length ≤ 4096
  right : ∀ s v, a.f s = some v → RightEn v.2 = true ∧ RightBal v.1 = true ∧ cmpB v.1 a.pr ≤ 0
  pr : RightBal a.pr = true
  node : 0 ≤ a.node ∧ a.node ≤ 6
def newAc (n : Int) : Ac := ⟨n, (0, 0), fun _ => none, []⟩
theorem newAc_ok {n : Int} (h : 0 ≤ n ∧ n ≤ 6) : AcOk (newAc n) := ⟨.nil, fun s => by simp [newAc], fun s h => by simp [newAc] at h, by simp [newAc], fun s v h => by simp [newAc] at h, rfl, h⟩
/-- A message that it takes. -/
def takesA (a : Ac) (x : MsM) : Bool := decide (x.to = a.node) && (decide (x.kind = 1 ∨ x.kind = 3) && (RightMs x && decide ((encMs x).length ≤ 65536)))
/-- The kind of its answer. -/
def kindA (a : Ac) (x : MsM) : Int := if 0 < cmpB a.pr x.bal then 5 else if x.kind = 1 then 2 else if a.f x.slot = none ∧ 4096 ≤ a.ks.length then 5 else 4
def changesA (a : Ac) (x : MsM) : Bool := if kindA a x = 2 then decide (x.bal ≠ a.pr) else if kindA a x = 4 then decide (a.f x.slot ≠ some (x.bal, x.en.e)) else false
def promA (a : Ac) (b : Int × Int) : Ac := ⟨a.node, b, a.f, a.ks⟩
def voteA (a : Ac) (s : Int) (v : Vt) : Ac := ⟨a.node, v.1, fun t => if t = s then some v else a.f t, putS a.ks s⟩
def afterA (a : Ac) (x : MsM) : Ac := if kindA a x = 2 then promA a x.bal else if kindA a x = 4 then voteA a x.slot (x.bal, x.en.e) else a
theorem putS_old {l : List Int} (hl : Rises l) {x : Int} (hx : x ∈ l) : putS l x = l :=
  rises_unique (putS_rises hl x) hl (fun y => by rw [putS_mem]; exact ⟨fun h => h.elim id (fun e => e ▸ hx), .inl⟩)
theorem putS_fresh_len {l : List Int} {x : Int} (hx : x ∉ l) : (putS l x).length = l.length + 1 := by
  unfold putS
  rw [if_pos]
  · have := aheadOf_le l x
    simp
    omega
  · by_cases h : aheadOf l x = l.length
    · exact .inl h
    · refine .inr (fun e => hx ?_)
      have hl : aheadOf l x < l.length := by have := aheadOf_le l x; omega
      rw [show l.getD (aheadOf l x) 0 = l[aheadOf l x] by simp [List.getD, List.getElem?_eq_getElem hl]] at e
      rw [← e]
      exact List.getElem_mem hl
theorem promA_ok {a : Ac} (h : AcOk a) {b : Int × Int} (hr : RightBal b = true) (hc : ¬ 0 < cmpB a.pr b) : AcOk (promA a b) :=
  ⟨h.rise, h.has, h.slot, h.few, fun s v hv => ⟨(h.right s v hv).1, (h.right s v hv).2.1, leB_trans (h.right s v hv).2.2 (by show cmpB a.pr b ≤ 0; omega)⟩, hr, h.node⟩
theorem voteA_ok {a : Ac} (h : AcOk a) {s : Int} {v : Vt} (h0 : 0 ≤ s ∧ s ≤ 2147483647) (hr : RightBal v.1 = true) (he : RightEn v.2 = true) (hc : ¬ 0 < cmpB a.pr v.1) (hf : ¬ (a.f s = none ∧ 4096 ≤ a.ks.length)) : AcOk (voteA a s v) := by
  refine ⟨putS_rises h.rise s, fun t => ?_, fun t ht => ?_, ?_, fun t u hu => ?_, hr, h.node⟩
  · show t ∈ putS a.ks s ↔ (if t = s then some v else a.f t).isSome = true
    rw [putS_mem]
    by_cases e : t = s
    · simp [e]
    · rw [if_neg e, ← h.has t]
      simp [e]
  · rcases (putS_mem _ _ _).1 ht with h2 | h2
    · exact h.slot t h2
    · subst h2; exact h0
  · show (putS a.ks s).length ≤ 4096
    by_cases hm : s ∈ a.ks
    · rw [putS_old h.rise hm]; exact h.few
    · rw [putS_fresh_len hm]
      have : a.f s = none := by
        cases hh : a.f s with
        | none => rfl
        | some y => exact absurd ((h.has s).2 (by rw [hh]; rfl)) hm
      have hk : ¬ 4096 ≤ a.ks.length := fun k => hf ⟨this, k⟩
      omega
  · have hu' : (if t = s then some v else a.f t) = some u := hu
    by_cases e : t = s
    · rw [if_pos e] at hu'
      cases hu'
      exact ⟨he, hr, by rw [show (voteA a s v).pr = v.1 from rfl, cmpB_same]; omega⟩
    · rw [if_neg e] at hu'
      have := h.right t u hu'
      exact ⟨this.1, this.2.1, leB_trans this.2.2 (by show cmpB a.pr v.1 ≤ 0; omega)⟩
theorem rightMs_bal {x : MsM} (h : RightMs x = true) : RightBal x.bal = true ∧ RightEn x.en.e = true ∧ (0 ≤ x.slot ∧ x.slot ≤ 2147483647) := by
  unfold RightMs at h
  simp only [Bool.and_eq_true, decide_eq_true_eq] at h
  exact ⟨h.2.2.2.1, h.2.2.2.2.2.1, h.2.2.2.2.1⟩
theorem afterA_ok {a : Ac} (h : AcOk a) {x : MsM} (hr : RightMs x = true) : AcOk (afterA a x) := by
  obtain ⟨h1, h2, h3⟩ := rightMs_bal hr
  unfold afterA kindA
  by_cases hc : 0 < cmpB a.pr x.bal
  · simp only [hc, if_true]
    exact h
  · simp only [hc, if_false]
    by_cases hk : x.kind = 1
    · simp only [hk, if_true]
      exact promA_ok h h1 hc
    · simp only [hk, if_false]
      by_cases hf : a.f x.slot = none ∧ 4096 ≤ a.ks.length
      · simp only [hf, and_self, if_true]
        exact h
      · simp only [hf, if_false]
        exact voteA_ok h h3 h1 h2 hc hf
/-- The votes from a slot on. -/
def fromA (a : Ac) (s : Int) : List (Int × Vt) := (a.ks.filter (fun t => decide (s ≤ t))).map (fun t => (t, (a.f t).getD ((0, 0), noopEn)))
end Go.Proofs.YtfmnbehopdmahaaGreat
/-
  The laws' sameVector, SameSeal, SameEntry.
-/
namespace Go.Proofs.YtfmnbehopdmahaaGreat
open Go.RowKit Go.Maps

theorem eq_of_getDB {a b : List Int} (hl : a.length = b.length) {k : Nat} (hk : ¬ k < a.length) (h : ∀ j, j < k → a.getD j 0 = b.getD j 0) : a = b := by
  apply List.ext_getElem hl
  intro i h1 h2
  have := h i (by omega)
  simpa [List.getD, List.getElem?_eq_getElem h1, List.getElem?_eq_getElem h2] using this
theorem eq_stepB {a b : List Int} {k : Nat} (h : ∀ j, j < k → a.getD j 0 = b.getD j 0) (h' : a.getD k 0 = b.getD k 0) : ∀ j, j < k + 1 → a.getD j 0 = b.getD j 0 := by
  intro j hj
  by_cases e : j = k
  · subst e; exact h'
  · exact h j (by omega)

set_option maxRecDepth 100000 in
theorem sameVec_B (w : World) (ao bo : Option Addr) (ca cb : Nat) (a b : List Int) (m n : Nat) (hm : a.length = m) (hn : b.length = n) (ha : HV w ao ca a) (hb : HV w bo cb b) :
    Calls Tryz.prog 27 #[.slice ao m ca, .slice bo n cb] w fun e w' => e = .returned (.bool (decide (a = b))) ∧ ∃ q, w' = w.drewN q := by
  by_cases hmn : m = n
  · subst hmn
    have HA := hid ha.held
    have HB := hid hb.held
    have hfa := ha.few
    rw [hm] at hfa
    have HM := hid hm
    have HN := hid hn
    clear ha hb hm hn
    go_enter Tryz.func27, Tryz.ntmps27
    go_wp2
    go_loopw [5] (fun i wr => ∃ k : Nat, k ≤ m ∧ i = .int .i64 k ∧ Hid ((∃ q, wr = w.drewN q) ∧ ∀ j, j < k → a.getD j 0 = b.getD j 0)) (fun i _ => m - (intOf i).toNat)
    case atStart => exact ⟨0, Nat.zero_le _, rfl, ⟨0, rfl⟩, fun j hj => absurd hj (Nat.not_lt_zero _)⟩
    case round =>
      obtain ⟨k, hk, rfl, HR⟩ := hrel
      by_cases hlt : k < m
      · have hlt' : (k : Int) < (m : Int) := by omega
        obtain ⟨q, hq⟩ := HR.out.1
        have hka : k < a.length := by rw [HM.out]; exact hlt
        have hkb : k < b.length := by rw [HN.out]; exact hlt
        obtain ⟨b1, o1, rfl, hc1⟩ := HA.out.cellAt hka
        obtain ⟨b2, o2, rfl, hc2⟩ := HB.out.cellAt hkb
        have c1 : wr.cell? ⟨b1, o1 + k, none⟩ = some (.int .i64 (a.getD k 0)) := by rw [hq]; exact hc1 k hka
        have c2 : wr.cell? ⟨b2, o2 + k, none⟩ = some (.int .i64 (b.getD k 0)) := by rw [hq]; exact hc2 k hkb
        have HKB := hid hkb
        have HKA := hid hka
        have HQ := hid hq
        clear hc1 hc2 hka hkb hq
        obtain ⟨X, HX⟩ : ∃ X, Hid (a.getD k 0 = X) := ⟨_, hid rfl⟩
        obtain ⟨Y, HY⟩ : ∃ Y, Hid (b.getD k 0 = Y) := ⟨_, hid rfl⟩
        rw [HX.out] at c1
        rw [HY.out] at c2
        by_cases hxy : X = Y
        · have hb : (X != Y) = false := by simp [hxy]
          have HXY := hid hxy
          clear hxy
          go_wp2
          go_quiet (fail)
          all_goals
            go_wp2
            go_roundw
            case rel => exact ⟨k + 1, by omega, by go_num, ⟨_, by rw [HQ.out, drewN_add]⟩, eq_stepB HR.out.2 (by rw [HX.out, HY.out, HXY.out])⟩
            case measure => simp [intOf]; omega
        · have hb : (X != Y) = true := by simp [hxy]
          have HXY := hid hxy
          clear hxy
          go_wp2
          go_quiet (fail)
          all_goals
            go_wp2
            go_ret
            refine ⟨?_, _, by rw [HQ.out, drewN_add]⟩
            have : ¬ a = b := fun h => HXY.out (by rw [← HX.out, ← HY.out, h])
            rw [decide_eq_false this]
            rfl
      · have hlt' : ¬ (k : Int) < (m : Int) := by omega
        go_wp2
        go_ret
        refine ⟨?_, HR.out.1⟩
        rw [decide_eq_true (eq_of_getDB (by rw [HM.out, HN.out]) (by rw [HM.out]; exact hlt) HR.out.2)]
        rfl
  · have hne : ((m : Int) != (n : Int)) = true := by simp; omega
    have HE : Hid (decide (a = b) = false) := decide_eq_false (fun h => hmn (by rw [← hm, ← hn, h]))
    clear ha hb hm hn
    rw [HE.out]
    go_enter Tryz.func27, Tryz.ntmps27
    go_wp2
    go_ret
    exact ⟨rfl, 0, rfl⟩

set_option maxRecDepth 100000 in
theorem sameSeal_B (w : World) (tk ct : ByteArray) (ep : Int) (ao bo : Option Addr) (ca cb : Nat) (cut : List Int) (n : Nat) (hn : cut.length = n) (ha : HV w ao ca cut) (hb : HV w bo cb cut) :
    Calls Tryz.prog 44 #[.agg #[.string tk, .string ct, .int .i64 ep, .slice ao n ca], .agg #[.string tk, .string ct, .int .i64 ep, .slice bo n cb]] w fun e w' => e = .returned (.bool true) ∧ Below w.heap.size w w' := by
  obtain ⟨W, hW⟩ : ∃ W, W = (w.alloc (.cells #[.string tk, .string ct, .int .i64 ep, .slice ao n ca] 37)).alloc (.cells #[.string tk, .string ct, .int .i64 ep, .slice bo n cb] 37) := ⟨_, rfl⟩
  have HB : Hid (Below w.heap.size w W) := by rw [hW]; exact ((Below.refl _ _).alloc (Nat.le_refl _) _).alloc (by simp) _
  have HS := hid (sameVec_B W ao bo ca cb cut cut n n hn hn (ha.below HB.out) (hb.below HB.out))
  rw [decide_eq_true rfl] at HS
  have HW := hid hW
  clear ha hb hn hW
  go_enter Tryz.func44, Tryz.ntmps44
  go_wp2_with fail
  rw [← HW.out]
  refine HS.out.mono ?_
  rintro e w' ⟨rfl, q, rfl⟩
  go_wp2
  go_ret
  exact ⟨rfl, below_dn HB.out q⟩
set_option maxRecDepth 100000 in
theorem sameEntry_B (w : World) (e0 : En) (ao bo : Option Addr) (ca cb : Nat) (ha : HV w ao ca e0.cut) (hb : HV w bo cb e0.cut) :
    Calls Tryz.prog 25 #[EnM.val ⟨e0, ao, ca⟩, EnM.val ⟨e0, bo, cb⟩] w fun e w' => e = .returned (.bool true) ∧ Below w.heap.size w w' := by
  obtain ⟨np, tk, ct, ep, cut⟩ := e0
  simp only [EnM.val] at *
  obtain ⟨n, hn⟩ : ∃ n, cut.length = n := ⟨_, rfl⟩
  rw [hn]
  obtain ⟨W, hW⟩ : ∃ W, W = (w.alloc (.cells #[.bool np, .string tk, .string ct, .int .i64 ep, .slice ao n ca] 39)).alloc (.cells #[.bool np, .string tk, .string ct, .int .i64 ep, .slice bo n cb] 39) := ⟨_, rfl⟩
  have HB : Hid (Below w.heap.size w W) := by rw [hW]; exact ((Below.refl _ _).alloc (Nat.le_refl _) _).alloc (by simp) _
  have HS := hid (sameSeal_B W tk ct ep ao bo ca cb cut n hn (ha.below HB.out) (hb.below HB.out))
  have HW := hid hW
  clear ha hb hn hW
  cases np with
  | true =>
    go_enter Tryz.func25, Tryz.ntmps25
    go_wp2_with fail
    rw [← HW.out]
    refine HS.out.mono ?_
    rintro e w' ⟨rfl, hb⟩
    have HBF := hid (bt' HB.out hb)
    clear hb
    go_wp2
    go_ret
    exact ⟨rfl, HBF.out⟩
  | false =>
    go_enter Tryz.func25, Tryz.ntmps25
    go_wp2_with fail
    rw [← HW.out]
    refine HS.out.mono ?_
    rintro e w' ⟨rfl, hb⟩
    have HBF := hid (bt' HB.out hb)
    clear hb
    go_wp2
    go_ret
    exact ⟨rfl, HBF.out⟩
end Go.Proofs.YtfmnbehopdmahaaGreat
/-
  Worlds behind another.
-/
namespace Go.Proofs.YtfmnbehopdmahaaGreat
open Go.RowKit Go.Maps

/-- V is a world behind W. -/
structure ScL (W V : World) : Prop where
  out : Below W.heap.size W V
theorem ScL.start (W : World) : ScL W W := ⟨Below.refl _ _⟩
theorem ScL.go {W V U : World} (h : ScL W V) (hb : Below V.heap.size V U) : ScL W U := ⟨bt' h.out hb⟩
theorem ScL.dr {W V : World} (h : ScL W V) : ScL W V.drew := ⟨h.out.drew⟩
theorem ScL.alloc {W V : World} (h : ScL W V) (o : Obj) : ScL W (V.alloc o) := ⟨h.out.alloc h.out.size _⟩
end Go.Proofs.YtfmnbehopdmahaaGreat
