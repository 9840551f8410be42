/-
  Package codec: how a list of votes and one of events are written.
-/
import Derived.Test.YtgghfmdciohinaaCodW
namespace Go.Proofs.Ytgghfmdciohinaa
open Go.RowKit Go.Maps
attribute [local go_sem] Oper.semAt_some

/-- A list as bytes. -/
def encEvs (xs : List EvM) : List Int := enc xs.length ++ xs.flatMap (fun x => encEvC x.e)
theorem evs_len {xs : List EvM} (h : ∀ x ∈ xs, (encEvC x.e).length ≤ 300) : (xs.flatMap (fun x => encEvC x.e)).length ≤ 300 * xs.length := by
  induction xs with
  | nil => simp
  | cons y r ih =>
    rw [List.flatMap_cons, List.length_append, List.length_cons]
    have h1 := ih (fun x hx => h x (List.mem_cons_of_mem _ hx))
    have h2 := h y (List.mem_cons_self ..)
    omega
set_option maxRecDepth 100000 in
set_option maxHeartbeats 1000000 in
theorem appendListEv_T (u : Value) (n : Nat) (bs : List Int) (ao : Option Addr) (cap : Nat) (xs : List EvM) (m : Nat) (hm : xs.length = m) (B : Nat) (w : World) (hv : ∀ V, Below B w V → HeldE V ao xs) (h7 : m ≤ 100000) (hin : ∀ x ∈ xs, EvF x.e ∧ (encEvC x.e).length ≤ 300)
    (hown : w.ownsRow B 5 1 u n (nums bs)) (hB : B ≤ w.heap.size) (hn : n ≤ 140737400000000) :
    Calls Try.prog 76 #[u, .slice ao m cap, .func (.func 77) #[] #[]] w (AppP B w n bs (encEvs xs)) := by
  have l0 := enc_le10 (x := m) (by omega)
  have HA := hid (appendUint_T u n bs m B w (by omega) (by omega) hown hB (by omega))
  rw [Int.toNat_natCast] at HA
  have hwr : IntKind.u64.wrap (m : Int) = (m : Int) := by rw [IntKind.wrap_u64]; omega
  obtain ⟨c0, HC0⟩ : ∃ c, Hid (n + (enc m).length = c) := ⟨_, hid rfl⟩
  unfold AppP at HA
  rw [HC0.out] at HA
  have hc0 : c0 ≤ 140737400000010 := by have := HC0.out; omega
  have HM := hid hm
  have HVV := hid hv
  have HIN := hid hin
  clear hm hv hin hown l0
  go_enter Try.func76, Try.ntmps76
  go_wp2_with fail
  refine HA.out.mono ?_
  rintro e w1 ⟨v1, rfl, hr1, hb1, ht1⟩
  have HT1 := hid ht1
  have HR1 := hid hr1
  have HB1 := hid hb1
  clear hr1 hb1 ht1 HA
  go_wp2
  go_loopw [0, 8, 16] (fun b _ i wr => ∃ k : Nat, k ≤ m ∧ i = .int .i64 k ∧ Hid (wr.ownsRow B 5 1 b (c0 + ((xs.take k).flatMap (fun x => encEvC x.e)).length) (nums (bs ++ enc m ++ (xs.take k).flatMap (fun x => encEvC x.e))) ∧ Below B w wr ∧ T8 w wr)) (fun _ _ i _ => m - (intOf i).toNat)
  case atStart => exact ⟨0, Nat.zero_le _, rfl, by rw [List.take_zero]; show World.ownsRow _ _ _ _ _ c0 (nums (bs ++ enc m ++ [])); rw [List.append_nil]; exact HR1.out, HB1.out, HT1.out⟩
  case round =>
    obtain ⟨k, hk, rfl, HR⟩ := hrel
    by_cases hlt : k < m
    · have hlt' : (k : Int) < (m : Int) := by omega
      have hkx : Hid (k < xs.length) := (by rw [HM.out]; exact hlt : k < xs.length)
      have HKM : Hid (k + 1 ≤ m) := (by omega : k + 1 ≤ m)
      have HVR := hid (HVV.out wr HR.out.2.1)
      obtain ⟨b, off, hao, hbb, c0', c1', c2', c3', c4', c5', c6', c7'⟩ := HVR.out.at hkx.out
      subst hao
      have HX2 := hid (HIN.out _ (List.getElem_mem hkx.out))
      have HTK : Hid ((xs.take (k + 1)).flatMap (fun x => encEvC x.e) = (xs.take k).flatMap (fun x => encEvC x.e) ++ (fun x : EvM => encEvC x.e) (xs[k]'hkx.out)) := by
        show _ = _
        rw [List.take_succ_eq_append_getElem hkx.out, List.flatMap_append]
        simp
      have HLN : Hid (((xs.take k).flatMap (fun x => encEvC x.e)).length ≤ 30000000) := by
        have h1 := evs_len (xs := xs.take k) (fun x hx => (HIN.out x (List.mem_of_mem_take hx)).2)
        rw [List.length_take] at h1
        show _ ≤ _
        omega
      have HOKV : Hid (∀ V, Below B wr V → HV V (xs[k]'hkx.out).ao (xs[k]'hkx.out).cap (xs[k]'hkx.out).e.deps) := fun V hV => ((HVV.out V (HR.out.2.1.trans hV)).1 _ (List.getElem_mem hkx.out)).deps
      obtain ⟨X, HX⟩ : ∃ X, Hid (xs[k]'hkx.out = X) := ⟨_, hid rfl⟩
      rw [HX.out] at HX2 HTK HOKV c0' c1' c2' c3' c4' c5' c6' c7'
      have HAN := hid (fun o => appendEvent_T u0 (c0 + ((xs.take k).flatMap (fun x => encEvC x.e)).length) (bs ++ enc m ++ (xs.take k).flatMap (fun x => encEvC x.e)) X B (wr.alloc o) HX2.out.1 (fun V hV => HOKV.out V (((Below.refl B wr).alloc (Nat.le_trans hB HR.out.2.1.size) o).trans hV)) (HR.out.1.alloc o) (Nat.le_trans hB (Nat.le_trans HR.out.2.1.size (by simp))) (by have := HLN.out; omega))
      obtain ⟨⟨o1, s1, dp, ct, ep, sk, qt, cl⟩, ao1, cap1⟩ := X
      obtain ⟨XN, HXN⟩ : ∃ m, Hid (dp.length = m) := ⟨_, hid rfl⟩
      simp only [EvM.val] at c0' c1' c2' c3' c4' c5' c6' c7' HAN
      rw [HXN.out] at c2' HAN
      go_wp2_with fail
      refine (HAN.out _).mono ?_
      rintro e w2 ⟨v2, rfl, hr2, hb2, ht2⟩
      have HR2 := hid hr2
      have HB2 := hid (HR.out.2.1.trans (((Below.refl B wr).alloc (Nat.le_trans hB HR.out.2.1.size) _).trans hb2))
      have HT2 := hid (HR.out.2.2.trans (((T8.refl wr).alloc _).trans ht2))
      clear hr2 hb2 ht2 HAN
      go_wp2
      go_roundw
      case rel =>
        refine ⟨k + 1, HKM.out, by go_num, ?_, HB2.out, HT2.out⟩
        rw [HTK.out, List.length_append, ← List.append_assoc, ← Nat.add_assoc]
        exact HR2.out
      case measure => simp [intOf]; have := HKM.out; omega
    · have hlt' : ¬ (k : Int) < (m : Int) := by omega
      have hke : Hid (xs.take k = xs) := by show _ = _; rw [List.take_of_length_le]; have := HM.out; omega
      rw [hke.out] at HR
      have HE : Hid (wr.ownsRow B 5 1 u0 (n + (encEvs xs).length) (nums (bs ++ encEvs xs))) := by
        have := HR.out.1
        rw [← HC0.out, List.append_assoc, Nat.add_assoc, ← List.length_append] at this
        show World.ownsRow _ _ _ _ _ _ _
        unfold encEvs
        rw [HM.out]
        exact this
      go_wp2
      go_ret
      exact ⟨_, rfl, HE.out, HR.out.2.1, HR.out.2.2⟩
/-- A list as bytes. -/
def encVos (xs : List VoM) : List Int := enc xs.length ++ xs.flatMap (fun x => encVo x)
theorem vos_len {xs : List VoM} (h : ∀ x ∈ xs, (encVo x).length ≤ 300) : (xs.flatMap (fun x => encVo x)).length ≤ 300 * xs.length := by
  induction xs with
  | nil => simp
  | cons y r ih =>
    rw [List.flatMap_cons, List.length_append, List.length_cons]
    have h1 := ih (fun x hx => h x (List.mem_cons_of_mem _ hx))
    have h2 := h y (List.mem_cons_self ..)
    omega
set_option maxRecDepth 100000 in
set_option maxHeartbeats 1000000 in
theorem appendListVo_T (u : Value) (n : Nat) (bs : List Int) (ao : Option Addr) (cap : Nat) (xs : List VoM) (m : Nat) (hm : xs.length = m) (B : Nat) (w : World) (hv : ∀ V, Below B w V → HeldVo V ao xs) (h7 : m ≤ 100000) (hin : ∀ x ∈ xs, VoF x ∧ (encVo x).length ≤ 300)
    (hown : w.ownsRow B 5 1 u n (nums bs)) (hB : B ≤ w.heap.size) (hn : n ≤ 140737400000000) :
    Calls Try.prog 73 #[u, .slice ao m cap, .func (.func 74) #[] #[]] w (AppP B w n bs (encVos xs)) := by
  have l0 := enc_le10 (x := m) (by omega)
  have HA := hid (appendUint_T u n bs m B w (by omega) (by omega) hown hB (by omega))
  rw [Int.toNat_natCast] at HA
  have hwr : IntKind.u64.wrap (m : Int) = (m : Int) := by rw [IntKind.wrap_u64]; omega
  obtain ⟨c0, HC0⟩ : ∃ c, Hid (n + (enc m).length = c) := ⟨_, hid rfl⟩
  unfold AppP at HA
  rw [HC0.out] at HA
  have hc0 : c0 ≤ 140737400000010 := by have := HC0.out; omega
  have HM := hid hm
  have HVV := hid hv
  have HIN := hid hin
  clear hm hv hin hown l0
  go_enter Try.func73, Try.ntmps73
  go_wp2_with fail
  refine HA.out.mono ?_
  rintro e w1 ⟨v1, rfl, hr1, hb1, ht1⟩
  have HT1 := hid ht1
  have HR1 := hid hr1
  have HB1 := hid hb1
  clear hr1 hb1 ht1 HA
  go_wp2
  go_loopw [0, 8, 16] (fun b _ i wr => ∃ k : Nat, k ≤ m ∧ i = .int .i64 k ∧ Hid (wr.ownsRow B 5 1 b (c0 + ((xs.take k).flatMap (fun x => encVo x)).length) (nums (bs ++ enc m ++ (xs.take k).flatMap (fun x => encVo x))) ∧ Below B w wr ∧ T8 w wr)) (fun _ _ i _ => m - (intOf i).toNat)
  case atStart => exact ⟨0, Nat.zero_le _, rfl, by rw [List.take_zero]; show World.ownsRow _ _ _ _ _ c0 (nums (bs ++ enc m ++ [])); rw [List.append_nil]; exact HR1.out, HB1.out, HT1.out⟩
  case round =>
    obtain ⟨k, hk, rfl, HR⟩ := hrel
    by_cases hlt : k < m
    · have hlt' : (k : Int) < (m : Int) := by omega
      have hkx : Hid (k < xs.length) := (by rw [HM.out]; exact hlt : k < xs.length)
      have HKM : Hid (k + 1 ≤ m) := (by omega : k + 1 ≤ m)
      have HVR := hid (HVV.out wr HR.out.2.1)
      obtain ⟨b, off, hao, hbb, hcc⟩ := HVR.out.at hkx.out
      subst hao
      have HX2 := hid (HIN.out _ (List.getElem_mem hkx.out))
      have HTK : Hid ((xs.take (k + 1)).flatMap (fun x => encVo x) = (xs.take k).flatMap (fun x => encVo x) ++ (fun x : VoM => encVo x) (xs[k]'hkx.out)) := by
        show _ = _
        rw [List.take_succ_eq_append_getElem hkx.out, List.flatMap_append]
        simp
      have HLN : Hid (((xs.take k).flatMap (fun x => encVo x)).length ≤ 30000000) := by
        have h1 := vos_len (xs := xs.take k) (fun x hx => (HIN.out x (List.mem_of_mem_take hx)).2)
        rw [List.length_take] at h1
        show _ ≤ _
        omega
      have HOKV : Hid (∀ V, Below B wr V → HV V (xs[k]'hkx.out).en.ao (xs[k]'hkx.out).en.cap (xs[k]'hkx.out).en.e.cut) := fun V hV => ((HVV.out V (HR.out.2.1.trans hV)).1 _ (List.getElem_mem hkx.out)).en.cut
      obtain ⟨X, HX⟩ : ∃ X, Hid (xs[k]'hkx.out = X) := ⟨_, hid rfl⟩
      rw [HX.out] at HX2 HTK HOKV hcc
      have HAN := hid (fun o => appendVoted_T u0 (c0 + ((xs.take k).flatMap (fun x => encVo x)).length) (bs ++ enc m ++ (xs.take k).flatMap (fun x => encVo x)) X B (wr.alloc o) HX2.out.1 (fun V hV => HOKV.out V (((Below.refl B wr).alloc (Nat.le_trans hB HR.out.2.1.size) o).trans hV)) (HR.out.1.alloc o) (Nat.le_trans hB (Nat.le_trans HR.out.2.1.size (by simp))) (by have := HLN.out; omega))
      obtain ⟨sl, ⟨b1, b2⟩, ⟨np, tk, ct, ep, cut⟩, ao1, cap1⟩ := X
      obtain ⟨XN, HXN⟩ : ∃ m, Hid (cut.length = m) := ⟨_, hid rfl⟩
      have c0' := hcc 0 _ rfl
      have c1' := hcc 1 _ rfl
      have c2' := hcc 2 _ rfl
      have c3' := hcc 3 _ rfl
      have c4' := hcc 4 _ rfl
      have c5' := hcc 5 _ rfl
      have c6' := hcc 6 _ rfl
      have c7' := hcc 7 _ rfl
      simp only [VoM.val, Nat.add_zero] at c0' c1' c2' c3' c4' c5' c6' c7' HAN
      rw [HXN.out] at c7' HAN
      clear hcc
      go_wp2_with fail
      refine (HAN.out _).mono ?_
      rintro e w2 ⟨v2, rfl, hr2, hb2, ht2⟩
      have HR2 := hid hr2
      have HB2 := hid (HR.out.2.1.trans (((Below.refl B wr).alloc (Nat.le_trans hB HR.out.2.1.size) _).trans hb2))
      have HT2 := hid (HR.out.2.2.trans (((T8.refl wr).alloc _).trans ht2))
      clear hr2 hb2 ht2 HAN
      go_wp2
      go_roundw
      case rel =>
        refine ⟨k + 1, HKM.out, by go_num, ?_, HB2.out, HT2.out⟩
        rw [HTK.out, List.length_append, ← List.append_assoc, ← Nat.add_assoc]
        exact HR2.out
      case measure => simp [intOf]; have := HKM.out; omega
    · have hlt' : ¬ (k : Int) < (m : Int) := by omega
      have hke : Hid (xs.take k = xs) := by show _ = _; rw [List.take_of_length_le]; have := HM.out; omega
      rw [hke.out] at HR
      have HE : Hid (wr.ownsRow B 5 1 u0 (n + (encVos xs).length) (nums (bs ++ encVos xs))) := by
        have := HR.out.1
        rw [← HC0.out, List.append_assoc, Nat.add_assoc, ← List.length_append] at this
        show World.ownsRow _ _ _ _ _ _ _
        unfold encVos
        rw [HM.out]
        exact this
      go_wp2
      go_ret
      exact ⟨_, rfl, HE.out, HR.out.2.1, HR.out.2.2⟩
end Go.Proofs.Ytgghfmdciohinaa
