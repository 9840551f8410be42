/-
  Vectors that may be: codec.every, mayList, plain, mayVector tell 'rightV' of any vector; codec.appendList and appendVector write one behind an owned row.
-/
import Derived.Test.YtfmnbehopdmahaaGreatSealI
namespace Go.Proofs.YtfmnbehopdmahaaGreat
open Go.RowKit Go.Maps

theorem own_mono {w : World} {base base' : Nat} {e : TypeId} {size : Nat} {v : Value} {n : Nat} {xs : List Value} (h : w.ownsRow base e size v n xs) (hb : base' ≤ base) : w.ownsRow base' e size v n xs := by
  refine ⟨h.1, ?_⟩
  rcases h.2 with h1 | ⟨g, cap, cur, h1, h2, h3⟩
  · exact .inl h1
  · exact .inr ⟨g, cap, cur, h1, Nat.le_trans hb h2, h3⟩
theorem mayVec1_any (w : World) (x : Int) : Calls Tryz.prog 146 #[.int .i64 x] w fun e w' => e = .returned (.bool (decide (0 ≤ x ∧ x ≤ 2147483647))) ∧ w' = w := by
  have H := hid (upTo_any w x 2147483647)
  obtain ⟨r, HR⟩ : ∃ r, Hid (decide (0 ≤ x ∧ x ≤ 2147483647) = r) := ⟨_, hid rfl⟩
  rw [HR.out] at H ⊢
  clear HR
  go_enter Tryz.func146, Tryz.ntmps146
  go_wp2_with fail
  refine H.out.mono ?_
  rintro e w' ⟨rfl, rfl⟩
  go_wp2
  go_ret
  exact ⟨rfl, rfl⟩
set_option maxRecDepth 100000 in
set_option maxHeartbeats 1000000 in
theorem every_any (w : World) (ao : Option Addr) (cap : Nat) (v : List Int) (n : Nat) (hn : v.length = n) (h : HV w ao cap v) :
    Calls Tryz.prog 178 #[.slice ao n cap, .func (.func 146) #[] #[]] w fun e w' => e = .returned (.bool (decide (InV v))) ∧ w' = w := by
  have HN := hid hn
  have H := hid h
  have hfew := h.few
  rw [hn] at hfew
  have HT := hid (fun x => mayVec1_any w x)
  clear hn h
  go_enter Tryz.func178, Tryz.ntmps178
  go_wp2
  go_loop [6, 9] (fun _ x => ∃ k : Nat, k ≤ n ∧ x = .int .i64 k ∧ Hid (∀ a, a < k → 0 ≤ v.getD a 0 ∧ v.getD a 0 ≤ 2147483647)) (fun _ x => n - (intOf x).toNat)
  case atStart => exact ⟨0, Nat.zero_le _, rfl, fun a ha => absurd ha (Nat.not_lt_zero _)⟩
  case round =>
    obtain ⟨k, hk, rfl, HA⟩ := hrel
    by_cases hlt : k < n
    · have hlt' : (k : Int) < (n : Int) := by omega
      have hkx : Hid (k < v.length) := (by rw [HN.out]; exact hlt : k < v.length)
      have HKM : Hid (k + 1 ≤ n) := (by omega : k + 1 ≤ n)
      rcases H.out.held.2 with h0 | ⟨b, off, hao, hb, hc⟩
      · exfalso
        have := hkx.out
        rw [h0] at this
        cases this
      have gk := hc k hkx.out
      subst hao
      clear hc
      obtain ⟨X, HX⟩ : ∃ X, Hid (v.getD k 0 = X) := ⟨_, hid rfl⟩
      rw [HX.out] at gk
      go_wp2_with fail
      refine (HT.out X).mono ?_
      rintro e w' ⟨rfl, rfl⟩
      by_cases hr : 0 ≤ X ∧ X ≤ 2147483647
      · rw [decide_eq_true hr]
        have HRR := hid hr
        clear hr
        go_wp2
        go_round
        case rel =>
          refine ⟨k + 1, HKM.out, by go_num, fun a hak => ?_⟩
          by_cases e : a = k
          · subst e
            rw [HX.out]
            exact HRR.out
          · exact HA.out a (by omega)
        case measure => simp [intOf]; have := HKM.out; omega
      · rw [decide_eq_false hr]
        have HV0 : Hid (decide (InV v) = false) := by
          show _ = _
          rw [decide_eq_false (fun hh => hr (by have := hh _ (List.getElem_mem hkx.out); rw [show v[k]'hkx.out = X by rw [← HX.out]; simp [List.getD, List.getElem?_eq_getElem hkx.out]] at this; exact this))]
        clear hr
        go_wp2
        go_ret
        exact ⟨by rw [HV0.out]; rfl, rfl⟩
    · have hlt' : ¬ (k : Int) < (n : Int) := by omega
      have HIN : Hid (decide (InV v) = true) := by
        refine decide_eq_true fun x hx => ?_
        obtain ⟨a, ha, rfl⟩ := List.mem_iff_getElem.1 hx
        have := HA.out a (by have := HN.out; omega)
        simp only [List.getD, List.getElem?_eq_getElem ha, Option.getD] at this
        exact this
      go_wp2
      go_ret
      exact ⟨by rw [HIN.out]; rfl, rfl⟩
theorem mayList_any (w : World) (ao : Option Addr) (cap : Nat) (v : List Int) (n : Nat) (hn : v.length = n) (h : HV w ao cap v) :
    Calls Tryz.prog 145 #[.slice ao n cap, .int .i64 7, .func (.func 146) #[] #[]] w fun e w' => e = .returned (.bool (decide (n ≤ 7) && decide (InV v))) ∧ w' = w := by
  have H := hid (every_any w ao cap v n hn h)
  clear hn h
  obtain ⟨r, HR⟩ : ∃ r, Hid (decide (InV v) = r) := ⟨_, hid rfl⟩
  rw [HR.out] at H ⊢
  by_cases h7 : n ≤ 7
  · have h7' : (n : Int) ≤ 7 := by omega
    rw [decide_eq_true h7, Bool.true_and]
    clear h7
    go_enter Tryz.func145, Tryz.ntmps145
    go_wp2_with fail
    refine H.out.mono ?_
    rintro e w' ⟨rfl, rfl⟩
    go_wp2
    go_ret
    exact ⟨rfl, rfl⟩
  · have h7' : ¬ (n : Int) ≤ 7 := by omega
    rw [decide_eq_false h7, Bool.false_and]
    clear h7
    go_enter Tryz.func145, Tryz.ntmps145
    go_wp2
    go_ret
    exact ⟨rfl, rfl⟩
theorem codecPlain_ok (w : World) (ao : Option Addr) (cap : Nat) (v : List Int) (n : Nat) (hn : v.length = n) (h : HV w ao cap v) :
    Calls Tryz.prog 126 #[.slice ao n cap] w fun e w' => e = .returned (.bool (decide (n = 0) || decide (v.getD (n - 1) 0 ≠ 0))) ∧ w' = w := by
  have HN := hid hn
  have H := hid h
  have hfew := h.few
  rw [hn] at hfew
  clear hn h
  by_cases h0 : n = 0
  · subst h0
    rw [decide_eq_true rfl, Bool.true_or]
    go_enter Tryz.func126, Tryz.ntmps126
    go_wp2
    go_ret
    exact ⟨rfl, rfl⟩
  · have h0' : ¬ (n : Int) = 0 := by omega
    have hb0 : ((n : Int) == 0) = false := by simpa using h0'
    rw [decide_eq_false h0, Bool.false_or]
    obtain ⟨X, HX⟩ : ∃ X, Hid (v.getD (n - 1) 0 = X) := ⟨_, hid rfl⟩
    rw [HX.out]
    have hnx : Hid (n - 1 < v.length) := (by rw [HN.out]; omega : n - 1 < v.length)
    rcases H.out.held.2 with hn0 | ⟨b, off, hao, hb, hc⟩
    · exfalso
      have := hnx.out
      rw [hn0] at this
      cases this
    have gk := hc (n - 1) hnx.out
    subst hao
    clear hc
    rw [HX.out] at gk
    obtain ⟨j, rfl⟩ : ∃ j, n = j + 1 := ⟨n - 1, by omega⟩
    rw [Nat.add_sub_cancel] at gk
    have hsub : IntKind.i64.wrap (((j + 1 : Nat) : Int) - 1) = (j : Int) := by rw [IntKind.wrap_i64]; omega
    have hjlt : (j : Int) < ((j + 1 : Nat) : Int) := by omega
    go_enter Tryz.func126, Tryz.ntmps126
    go_wp2
    go_ret
    exact ⟨by refine ret_bool ?_; by_cases h : X = 0; (subst h; rfl); (simp [h]; try rfl), rfl⟩
theorem mayVector_any (w : World) (ao : Option Addr) (cap : Nat) (v : List Int) (n : Nat) (hn : v.length = n) (h : HV w ao cap v) :
    Calls Tryz.prog 98 #[.slice ao n cap] w fun e w' => e = .returned (.bool (rightV v)) ∧ w' = w := by
  have HR : Hid (rightV v = ((decide (n ≤ 7) && decide (InV v)) && (decide (n = 0) || decide (v.getD (n - 1) 0 ≠ 0)))) := by
    show _ = _
    unfold rightV
    rw [hn]
    cases decide (InV v) <;> cases decide (n ≤ 7) <;> rfl
  rw [HR.out]
  have HL := hid (mayList_any w ao cap v n hn h)
  have HP := hid (codecPlain_ok w ao cap v n hn h)
  clear hn h
  obtain ⟨r, HRR⟩ : ∃ r, Hid ((decide (n ≤ 7) && decide (InV v)) = r) := ⟨_, hid rfl⟩
  obtain ⟨q, HQQ⟩ : ∃ r, Hid ((decide (n = 0) || decide (v.getD (n - 1) 0 ≠ 0)) = r) := ⟨_, hid rfl⟩
  rw [HRR.out] at HL ⊢
  rw [HQQ.out] at HP ⊢
  clear HR HRR HQQ
  cases r
  · rw [Bool.false_and]
    go_enter Tryz.func98, Tryz.ntmps98
    go_wp2_with fail
    refine HL.out.mono ?_
    rintro e w' ⟨rfl, rfl⟩
    go_wp2
    go_ret
    exact ⟨rfl, rfl⟩
  · rw [Bool.true_and]
    go_enter Tryz.func98, Tryz.ntmps98
    go_wp2_with fail
    refine HL.out.mono ?_
    rintro e w' ⟨rfl, rfl⟩
    go_wp2_with fail
    refine HP.out.mono ?_
    rintro e w' ⟨rfl, rfl⟩
    go_wp2
    go_ret
    exact ⟨rfl, rfl⟩
/-- The numbers of a vector as bytes. -/
def encN : List Int → List Int
  | [] => []
  | x :: r => enc x.toNat ++ encN r
theorem encN_append : ∀ a b : List Int, encN (a ++ b) = encN a ++ encN b
  | [], _ => rfl
  | x :: r, b => by
    show enc x.toNat ++ encN (r ++ b) = (enc x.toNat ++ encN r) ++ encN b
    rw [encN_append r b, List.append_assoc]
theorem encN_take {v : List Int} {k : Nat} (h : k < v.length) : encN (v.take (k + 1)) = encN (v.take k) ++ enc (v.getD k 0).toNat := by
  rw [List.take_succ_eq_append_getElem h, encN_append]
  simp [encN, List.getD, List.getElem?_eq_getElem h]
theorem encN_len : ∀ {v : List Int}, InV v → (encN v).length ≤ 10 * v.length
  | [], _ => Nat.le_refl _
  | x :: r, h => by
    have h1 := encN_len (v := r) fun y hy => h y (List.mem_cons_of_mem _ hy)
    have h2 := h x (List.mem_cons_self ..)
    have h3 := enc_le10 (x := x.toNat) (by omega)
    show (enc x.toNat ++ encN r).length ≤ _
    rw [List.length_append, List.length_cons]
    omega
/-- A vector as bytes. -/
def encV (v : List Int) : List Int := enc v.length ++ encN v
theorem encV_len {v : List Int} (h : InV v) (h7 : v.length ≤ 7) : (encV v).length ≤ 80 := by
  have h1 := encN_len h
  have h3 := enc_le10 (x := v.length) (by omega)
  unfold encV
  rw [List.length_append]
  omega
theorem inV_take {v : List Int} (h : InV v) (k : Nat) : InV (v.take k) := fun x hx => h x (List.mem_of_mem_take hx)
set_option maxRecDepth 100000 in
set_option maxHeartbeats 1000000 in
theorem appendListI_any (u : Value) (n : Nat) (bs : List Int) (ao : Option Addr) (cap : Nat) (v : List Int) (m : Nat) (hm : v.length = m) (B : Nat) (w : World) (hv : ∀ V, Below B w V → HV V ao cap v) (h7 : m ≤ 7) (hin : InV v)
    (hown : w.ownsRow B 5 1 u n (nums bs)) (hB : B ≤ w.heap.size) (hn : n ≤ 140737488350000) :
    Calls Tryz.prog 152 #[u, .slice ao m cap, .func (.func 101) #[] #[]] w fun e w' => ∃ v', e = .returned v' ∧ w'.ownsRow B 5 1 v' (n + (encV v).length) (nums (bs ++ encV v)) ∧ Below B w w' := by
  have l0 := enc_le10 (x := m) (by omega)
  have HA := hid (appendUint_own u n bs m B w (by omega) (by omega) hown hB (by omega))
  rw [Int.toNat_natCast] at HA
  have hwr : IntKind.u64.wrap (m : Int) = (m : Int) := by rw [IntKind.wrap_u64]; omega
  obtain ⟨c0, HC0⟩ : ∃ c, Hid (n + (enc m).length = c) := ⟨_, hid rfl⟩
  rw [HC0.out] at HA
  have hc0 : c0 ≤ 140737488350010 := by have := HC0.out; omega
  have HM := hid hm
  have HVV := hid hv
  have HIN := hid hin
  clear hm hv hin hown l0
  go_enter Tryz.func152, Tryz.ntmps152
  go_wp2_with fail
  refine HA.out.mono ?_
  rintro e w1 ⟨v1, rfl, hr1, hb1⟩
  have HR1 := hid hr1
  have HB1 := hid hb1
  clear hr1 hb1 HA
  go_wp2
  go_loopw [0, 8, 16] (fun b _ i wr => ∃ k : Nat, k ≤ m ∧ i = .int .i64 k ∧ Hid (wr.ownsRow B 5 1 b (c0 + (encN (v.take k)).length) (nums (bs ++ enc m ++ encN (v.take k))) ∧ Below B w wr)) (fun _ _ i _ => m - (intOf i).toNat)
  case atStart => exact ⟨0, Nat.zero_le _, rfl, by rw [List.take_zero]; show World.ownsRow _ _ _ _ _ c0 (nums (bs ++ enc m ++ [])); rw [List.append_nil]; exact HR1.out, HB1.out⟩
  case round =>
    obtain ⟨k, hk, rfl, HR⟩ := hrel
    by_cases hlt : k < m
    · have hlt' : (k : Int) < (m : Int) := by omega
      have hkx : Hid (k < v.length) := (by rw [HM.out]; exact hlt : k < v.length)
      have HKM : Hid (k + 1 ≤ m) := (by omega : k + 1 ≤ m)
      rcases (HVV.out wr HR.out.2).held.2 with h0 | ⟨b, off, hao, hb, hc⟩
      · exfalso
        have := hkx.out
        rw [h0] at this
        cases this
      have gk := hc k hkx.out
      have HX2 := hid (HIN.out _ (getD_mem hkx.out))
      have HTK := hid (encN_take hkx.out)
      have HLN : Hid ((encN (v.take k)).length ≤ 70) := by
        have h1 := encN_len (inV_take HIN.out k)
        have h2 : (v.take k).length ≤ 7 := by rw [List.length_take]; omega
        show _ ≤ _
        omega
      subst hao
      clear hc
      obtain ⟨X, HX⟩ : ∃ X, Hid (v.getD k 0 = X) := ⟨_, hid rfl⟩
      rw [HX.out] at gk HX2 HTK
      have HAN := hid (appendNumber_own u0 (c0 + (encN (v.take k)).length) (bs ++ enc m ++ encN (v.take k)) X B wr HX2.out.1 (by have := HX2.out; omega) HR.out.1 (Nat.le_trans hB HR.out.2.size) (by have := HLN.out; omega))
      go_wp2_with fail
      refine HAN.out.mono ?_
      rintro e w2 ⟨v2, rfl, hr2, hb2⟩
      have HR2 := hid hr2
      have HB2 := hid (HR.out.2.trans hb2)
      clear hr2 hb2 HAN
      go_wp2
      go_roundw
      case rel =>
        refine ⟨k + 1, HKM.out, by go_num, ?_, HB2.out⟩
        rw [HTK.out, List.length_append, ← List.append_assoc, ← Nat.add_assoc]
        exact HR2.out
      case measure => simp [intOf]; have := HKM.out; omega
    · have hlt' : ¬ (k : Int) < (m : Int) := by omega
      have hke : Hid (v.take k = v) := by show _ = _; rw [List.take_of_length_le]; have := HM.out; omega
      rw [hke.out] at HR
      have HE : Hid (wr.ownsRow B 5 1 u0 (n + (encV v).length) (nums (bs ++ encV v))) := by
        have := HR.out.1
        rw [← HC0.out, List.append_assoc, Nat.add_assoc, ← List.length_append] at this
        show World.ownsRow _ _ _ _ _ _ _
        unfold encV
        rw [HM.out]
        exact this
      go_wp2
      go_ret
      exact ⟨_, rfl, HE.out, HR.out.2⟩
theorem appendVector_own (u : Value) (n : Nat) (bs : List Int) (ao : Option Addr) (cap : Nat) (v : List Int) (m : Nat) (hm : v.length = m) (B : Nat) (w : World) (hv : ∀ V, Below B w V → HV V ao cap v) (h7 : m ≤ 7) (hin : InV v)
    (hown : w.ownsRow B 5 1 u n (nums bs)) (hB : B ≤ w.heap.size) (hn : n ≤ 140737488350000) :
    Calls Tryz.prog 106 #[u, .slice ao m cap] w fun e w' => ∃ v', e = .returned v' ∧ w'.ownsRow B 5 1 v' (n + (encV v).length) (nums (bs ++ encV v)) ∧ Below B w w' := by
  have HL := hid (appendListI_any u n bs ao cap v m hm B w hv h7 hin hown hB hn)
  clear hown hv hm
  go_enter Tryz.func106, Tryz.ntmps106
  go_wp2_with fail
  refine HL.out.mono ?_
  rintro e w' ⟨v', rfl, h1, h2⟩
  have H1 := hid h1
  have H2 := hid h2
  clear h1 h2
  go_wp2
  go_ret
  exact ⟨v', rfl, H1.out, H2.out⟩
end Go.Proofs.YtfmnbehopdmahaaGreat
/-
  codec.Event of any event: whether it may be, and its bytes.
-/
namespace Go.Proofs.YtfmnbehopdmahaaGreat
open Go.RowKit Go.Maps

/-- May e be written? -/
def RightEv (e : Ev) : Bool := decide (0 ≤ e.o ∧ e.o ≤ 6) && (decide (0 ≤ e.s ∧ e.s ≤ 2147483647) && (rightV e.deps && (nameS e.cart && (decide (0 ≤ e.epoch ∧ e.epoch ≤ 2147483647) && (nameS e.sku && decide (0 ≤ e.qty ∧ e.qty ≤ 1000))))))
def encB (b : Bool) : List Int := [if b then 1 else 0]
/-- An event as bytes. -/
def encEv (e : Ev) : List Int := enc e.o.toNat ++ enc e.s.toNat ++ encV e.deps ++ encText e.cart ++ enc e.epoch.toNat ++ encText e.sku ++ enc e.qty.toNat ++ encB e.clears
structure EvFacts (e : Ev) : Prop where
  o : 0 ≤ e.o ∧ e.o ≤ 6
  s : 0 ≤ e.s ∧ e.s ≤ 2147483647
  deps : InV e.deps
  few : e.deps.length ≤ 7
  cart : nameS e.cart = true
  epoch : 0 ≤ e.epoch ∧ e.epoch ≤ 2147483647
  sku : nameS e.sku = true
  qty : 0 ≤ e.qty ∧ e.qty ≤ 1000
theorem rightEv_iff {e : Ev} (h : RightEv e = true) : EvFacts e := by
  unfold RightEv at h
  simp only [Bool.and_eq_true, decide_eq_true_eq] at h
  obtain ⟨h1, h2, h3, h4, h5, h6, h7⟩ := h
  unfold rightV at h3
  simp only [Bool.and_eq_true, decide_eq_true_eq] at h3
  exact ⟨h1, h2, h3.1, h3.2.1, h4, h5, h6, h7⟩
theorem encEv_len {e : Ev} (h : RightEv e = true) : (encEv e).length ≤ 300 := by
  have f := rightEv_iff h
  have z1 := nameS_size f.cart
  have z2 := nameS_size f.sku
  have l1 := encText_len e.cart
  have l2 := encText_len e.sku
  have m1 := enc_le10 (x := e.cart.size) (by omega)
  have m2 := enc_le10 (x := e.sku.size) (by omega)
  have m3 := enc_le10 (x := e.o.toNat) (by have := f.o; omega)
  have m4 := enc_le10 (x := e.s.toNat) (by have := f.s; omega)
  have m5 := enc_le10 (x := e.epoch.toNat) (by have := f.epoch; omega)
  have m6 := enc_le10 (x := e.qty.toNat) (by have := f.qty; omega)
  have m7 := encV_len f.deps f.few
  unfold encEv encB
  simp only [List.length_append, List.length_cons, List.length_nil]
  omega
theorem appendTruth_own (v : Value) (n : Nat) (bs : List Int) (b : Bool) (B : Nat) (w : World) (hown : w.ownsRow B 5 1 v n (nums bs)) (hB : B ≤ w.heap.size) (hn : n ≤ 140737488350000) :
    Calls Tryz.prog 150 #[v, .bool b] w fun e w' => ∃ v', e = .returned v' ∧ w'.ownsRow B 5 1 v' (n + (encB b).length) (nums (bs ++ encB b)) ∧ Below B w w' := by
  obtain ⟨i0, hi, hz0, hz1, hz2⟩ := info_parts Tryz.info5
  have HL : Hid (∀ k, v.ownBlock = some k → B ≤ k) := fun k hk => (hown.lt k hk).1
  cases b
  · go_enter Tryz.func150, Tryz.ntmps150
    go_wp2_with (at_builtin; refine wpList_append_own_at _ rfl _ _ 66 rfl B 5 i0 (.int .u8 0) 1 1 Tryz.underlying66 hi hz0 hz1 hz2 rfl (by decide) _ _ _ rfl (hown.alloc _) ⟨w.heap.size, 0, none⟩ 1 1 [.int .u8 0] rfl rfl (cell_one_new _ _ _) (one_int _ _) (by unfold maxLen; omega) (by omega) (by simp; omega) ?_)
    intro v' w1 hown' hgrow _ _
    have HO : Hid (w1.ownsRow B 5 1 v' (n + 1) (nums (bs ++ [0]))) := by rw [nums_append]; exact hown'
    have HB : Hid (Below B w w1) := ((Below.refl _ _).alloc hB _).grown hgrow (by simp; omega) HL.out
    clear hown' hgrow hown
    go_wp2
    go_ret
    exact ⟨v', rfl, HO.out, HB.out⟩
  · go_enter Tryz.func150, Tryz.ntmps150
    go_wp2_with (at_builtin; refine wpList_append_own_at _ rfl _ _ 66 rfl B 5 i0 (.int .u8 0) 1 1 Tryz.underlying66 hi hz0 hz1 hz2 rfl (by decide) _ _ _ rfl (hown.alloc _) ⟨w.heap.size, 0, none⟩ 1 1 [.int .u8 1] rfl rfl (cell_one_new _ _ _) (one_int _ _) (by unfold maxLen; omega) (by omega) (by simp; omega) ?_)
    intro v' w1 hown' hgrow _ _
    have HO : Hid (w1.ownsRow B 5 1 v' (n + 1) (nums (bs ++ [1]))) := by rw [nums_append]; exact hown'
    have HB : Hid (Below B w w1) := ((Below.refl _ _).alloc hB _).grown hgrow (by simp; omega) HL.out
    clear hown' hgrow hown
    go_wp2
    go_ret
    exact ⟨v', rfl, HO.out, HB.out⟩
set_option maxRecDepth 100000 in
set_option maxHeartbeats 1000000 in
theorem mayEvent_any (w : World) (x : EvM) (hx : EvOk w x) :
    Calls Tryz.prog 100 #[x.val] w fun e w' => e = .returned (.bool (RightEv x.e)) ∧ Below w.heap.size w w' := by
  obtain ⟨⟨o, s, dp, ct, ep, sk, qt, cl⟩, ao1, cap1⟩ := x
  obtain ⟨XN, HXN⟩ : ∃ m, Hid (dp.length = m) := ⟨_, hid rfl⟩
  simp only [EvM.val]
  rw [HXN.out]
  have HB : Hid (Below w.heap.size w (w.alloc (.cells #[.int .i64 o, .int .i64 s, .slice ao1 XN cap1, .string ct, .int .i64 ep, .string sk, .int .i64 qt, .bool cl] 97))) := (Below.refl _ _).alloc (Nat.le_refl _) _
  have hk := Blk.new w 97 [.int .i64 o, .int .i64 s, .slice ao1 XN cap1, .string ct, .int .i64 ep, .string sk, .int .i64 qt, .bool cl]
  have c0 := hk.cell (i := 0) rfl
  have c1 := hk.cell (i := 1) rfl
  have c2 := hk.cell (i := 2) rfl
  have c3 := hk.cell (i := 3) rfl
  have c4 := hk.cell (i := 4) rfl
  have c5 := hk.cell (i := 5) rfl
  have c6 := hk.cell (i := 6) rfl
  have HC1 := hid (fun V => upTo_any V o 6)
  have HC2 := hid (fun V => upTo_any V s 2147483647)
  have HC3 := hid (mayVector_any (w.alloc (.cells #[.int .i64 o, .int .i64 s, .slice ao1 XN cap1, .string ct, .int .i64 ep, .string sk, .int .i64 qt, .bool cl] 97)) ao1 cap1 dp XN HXN.out (hx.deps.below HB.out))
  have HC4 := hid (fun V => codecName_any ct V hx.hc)
  have HC5 := hid (fun V => upTo_any V ep 2147483647)
  have HC6 := hid (fun V => codecName_any sk V hx.hs)
  have HC7 := hid (fun V => upTo_any V qt 1000)
  have HR : Hid (RightEv ⟨o, s, dp, ct, ep, sk, qt, cl⟩ = (decide (0 ≤ o ∧ o ≤ 6) && (decide (0 ≤ s ∧ s ≤ 2147483647) && (rightV dp && (nameS ct && (decide (0 ≤ ep ∧ ep ≤ 2147483647) && (nameS sk && decide (0 ≤ qt ∧ qt ≤ 1000)))))))) := rfl
  rw [HR.out]
  obtain ⟨b1, HB1⟩ : ∃ b, Hid (decide (0 ≤ o ∧ o ≤ 6) = b) := ⟨_, hid rfl⟩
  obtain ⟨b2, HB2⟩ : ∃ b, Hid (decide (0 ≤ s ∧ s ≤ 2147483647) = b) := ⟨_, hid rfl⟩
  obtain ⟨b3, HB3⟩ : ∃ b, Hid (rightV dp = b) := ⟨_, hid rfl⟩
  obtain ⟨b4, HB4⟩ : ∃ b, Hid (nameS ct = b) := ⟨_, hid rfl⟩
  obtain ⟨b5, HB5⟩ : ∃ b, Hid (decide (0 ≤ ep ∧ ep ≤ 2147483647) = b) := ⟨_, hid rfl⟩
  obtain ⟨b6, HB6⟩ : ∃ b, Hid (nameS sk = b) := ⟨_, hid rfl⟩
  obtain ⟨b7, HB7⟩ : ∃ b, Hid (decide (0 ≤ qt ∧ qt ≤ 1000) = b) := ⟨_, hid rfl⟩
  rw [HB1.out] at HC1 ⊢
  rw [HB2.out] at HC2 ⊢
  rw [HB3.out] at HC3 ⊢
  rw [HB4.out] at HC4 ⊢
  rw [HB5.out] at HC5 ⊢
  rw [HB6.out] at HC6 ⊢
  rw [HB7.out] at HC7 ⊢
  clear hk hx HB1 HB2 HB3 HB4 HB5 HB6 HB7 HR
  cases b1
  · go_enter Tryz.func100, Tryz.ntmps100
    go_wp2_with fail
    refine (HC1.out _).mono ?_
    rintro e w' ⟨rfl, rfl⟩
    go_wp2
    go_ret
    exact ⟨rfl, HB.out⟩
  cases b2
  · go_enter Tryz.func100, Tryz.ntmps100
    go_wp2_with fail
    refine (HC1.out _).mono ?_
    rintro e w' ⟨rfl, rfl⟩
    go_wp2_with fail
    refine (HC2.out _).mono ?_
    rintro e w' ⟨rfl, rfl⟩
    go_wp2
    go_ret
    exact ⟨rfl, HB.out⟩
  cases b3
  · go_enter Tryz.func100, Tryz.ntmps100
    go_wp2_with fail
    refine (HC1.out _).mono ?_
    rintro e w' ⟨rfl, rfl⟩
    go_wp2_with fail
    refine (HC2.out _).mono ?_
    rintro e w' ⟨rfl, rfl⟩
    go_wp2_with fail
    refine HC3.out.mono ?_
    rintro e w' ⟨rfl, rfl⟩
    go_wp2
    go_ret
    exact ⟨rfl, HB.out⟩
  cases b4
  · go_enter Tryz.func100, Tryz.ntmps100
    go_wp2_with fail
    refine (HC1.out _).mono ?_
    rintro e w' ⟨rfl, rfl⟩
    go_wp2_with fail
    refine (HC2.out _).mono ?_
    rintro e w' ⟨rfl, rfl⟩
    go_wp2_with fail
    refine HC3.out.mono ?_
    rintro e w' ⟨rfl, rfl⟩
    go_wp2_with fail
    refine (HC4.out _).mono ?_
    rintro e w' ⟨rfl, rfl⟩
    go_wp2
    go_ret
    exact ⟨rfl, HB.out⟩
  cases b5
  · go_enter Tryz.func100, Tryz.ntmps100
    go_wp2_with fail
    refine (HC1.out _).mono ?_
    rintro e w' ⟨rfl, rfl⟩
    go_wp2_with fail
    refine (HC2.out _).mono ?_
    rintro e w' ⟨rfl, rfl⟩
    go_wp2_with fail
    refine HC3.out.mono ?_
    rintro e w' ⟨rfl, rfl⟩
    go_wp2_with fail
    refine (HC4.out _).mono ?_
    rintro e w' ⟨rfl, rfl⟩
    go_wp2_with fail
    refine (HC5.out _).mono ?_
    rintro e w' ⟨rfl, rfl⟩
    go_wp2
    go_ret
    exact ⟨rfl, HB.out⟩
  cases b6
  · go_enter Tryz.func100, Tryz.ntmps100
    go_wp2_with fail
    refine (HC1.out _).mono ?_
    rintro e w' ⟨rfl, rfl⟩
    go_wp2_with fail
    refine (HC2.out _).mono ?_
    rintro e w' ⟨rfl, rfl⟩
    go_wp2_with fail
    refine HC3.out.mono ?_
    rintro e w' ⟨rfl, rfl⟩
    go_wp2_with fail
    refine (HC4.out _).mono ?_
    rintro e w' ⟨rfl, rfl⟩
    go_wp2_with fail
    refine (HC5.out _).mono ?_
    rintro e w' ⟨rfl, rfl⟩
    go_wp2_with fail
    refine (HC6.out _).mono ?_
    rintro e w' ⟨rfl, rfl⟩
    go_wp2
    go_ret
    exact ⟨rfl, HB.out⟩
  go_enter Tryz.func100, Tryz.ntmps100
  go_wp2_with fail
  refine (HC1.out _).mono ?_
  rintro e w' ⟨rfl, rfl⟩
  go_wp2_with fail
  refine (HC2.out _).mono ?_
  rintro e w' ⟨rfl, rfl⟩
  go_wp2_with fail
  refine HC3.out.mono ?_
  rintro e w' ⟨rfl, rfl⟩
  go_wp2_with fail
  refine (HC4.out _).mono ?_
  rintro e w' ⟨rfl, rfl⟩
  go_wp2_with fail
  refine (HC5.out _).mono ?_
  rintro e w' ⟨rfl, rfl⟩
  go_wp2_with fail
  refine (HC6.out _).mono ?_
  rintro e w' ⟨rfl, rfl⟩
  go_wp2_with fail
  refine (HC7.out _).mono ?_
  rintro e w' ⟨rfl, rfl⟩
  go_wp2
  go_ret
  exact ⟨rfl, HB.out⟩
set_option maxRecDepth 100000 in
set_option maxHeartbeats 1000000 in
theorem appendEvent_any (w : World) (x : EvM) (hx : EvOk w x) (hr : RightEv x.e = true) :
    Calls Tryz.prog 108 #[.slice none 0 0, x.val] w fun e w' => ∃ v', e = .returned v' ∧ w'.ownsRow w.heap.size 5 1 v' (encEv x.e).length (nums (encEv x.e)) ∧ Below w.heap.size w w' := by
  obtain ⟨⟨o, s, dp, ct, ep, sk, qt, cl⟩, ao1, cap1⟩ := x
  have hlen := encEv_len hr
  obtain ⟨f1, f2, f3, f4, f5, f6, f7, f8⟩ := rightEv_iff hr
  dsimp only at f1 f2 f3 f4 f5 f6 f7 f8 hlen
  have z1 := nameS_size f5
  have z2 := nameS_size f7
  obtain ⟨XN, HXN⟩ : ∃ m, Hid (dp.length = m) := ⟨_, hid rfl⟩
  simp only [EvM.val]
  rw [HXN.out] at f4 ⊢
  obtain ⟨W, hW⟩ : ∃ W, W = w.alloc (.cells #[.int .i64 o, .int .i64 s, .slice ao1 XN cap1, .string ct, .int .i64 ep, .string sk, .int .i64 qt, .bool cl] 97) := ⟨_, rfl⟩
  have HB : Hid (Below w.heap.size w W) := by rw [hW]; exact (Below.refl _ _).alloc (Nat.le_refl _) _
  have HK : Hid (Blk W w.heap.size 97 [.int .i64 o, .int .i64 s, .slice ao1 XN cap1, .string ct, .int .i64 ep, .string sk, .int .i64 qt, .bool cl]) := by rw [hW]; exact Blk.new w _ _
  have HE : Hid (encEv ⟨o, s, dp, ct, ep, sk, qt, cl⟩ = enc o.toNat ++ enc s.toNat ++ encV dp ++ encText ct ++ enc ep.toNat ++ encText sk ++ enc qt.toNat ++ encB cl) := rfl
  have HCV := hid (hx.deps.below HB.out)
  obtain ⟨a1, ha1⟩ : ∃ a, a = (enc o.toNat).length := ⟨_, rfl⟩
  obtain ⟨a2, ha2⟩ : ∃ a, a = (enc s.toNat).length := ⟨_, rfl⟩
  obtain ⟨a3, ha3⟩ : ∃ a, a = (encV dp).length := ⟨_, rfl⟩
  obtain ⟨a4, ha4⟩ : ∃ a, a = (encText ct).length := ⟨_, rfl⟩
  obtain ⟨a5, ha5⟩ : ∃ a, a = (enc ep.toNat).length := ⟨_, rfl⟩
  obtain ⟨a6, ha6⟩ : ∃ a, a = (encText sk).length := ⟨_, rfl⟩
  obtain ⟨a7, ha7⟩ : ∃ a, a = (enc qt.toNat).length := ⟨_, rfl⟩
  obtain ⟨a8, ha8⟩ : ∃ a, a = (encB cl).length := ⟨_, rfl⟩
  have hs : 0 + a1 + a2 + a3 + a4 + a5 + a6 + a7 + a8 ≤ 300 := by
    have h := hlen
    rw [HE.out] at h
    simp only [List.length_append] at h
    omega
  have HLE : Hid ((encEv ⟨o, s, dp, ct, ep, sk, qt, cl⟩).length = 0 + a1 + a2 + a3 + a4 + a5 + a6 + a7 + a8) := by
    rw [HE.out]
    simp only [List.length_append]
    show _ = _
    omega
  rw [HLE.out, HE.out]
  have HT1 := hid (fun v bs V (hr : V.ownsRow W.heap.size 5 1 v (0) (nums bs)) (hV : Below W.heap.size W V) => appendNumber_own v (0) bs o W.heap.size V f1.1 (by omega) hr hV.size (by omega))
  rw [← ha1] at HT1
  have HT2 := hid (fun v bs V (hr : V.ownsRow W.heap.size 5 1 v (0 + a1) (nums bs)) (hV : Below W.heap.size W V) => appendNumber_own v (0 + a1) bs s W.heap.size V f2.1 (by omega) hr hV.size (by omega))
  rw [← ha2] at HT2
  have HT3 := hid (fun v bs V (hr : V.ownsRow W.heap.size 5 1 v (0 + a1 + a2) (nums bs)) (hV : Below W.heap.size W V) => appendVector_own v (0 + a1 + a2) bs ao1 cap1 dp XN HXN.out W.heap.size V (fun U hU => HCV.out.below (hV.trans hU)) f4 f3 hr hV.size (by omega))
  rw [← ha3] at HT3
  have HT4 := hid (fun v bs V (hr : V.ownsRow W.heap.size 5 1 v (0 + a1 + a2 + a3) (nums bs)) (hV : Below W.heap.size W V) => appendText_own v (0 + a1 + a2 + a3) bs ct W.heap.size V hr hV.size (by omega))
  rw [← ha4] at HT4
  have HT5 := hid (fun v bs V (hr : V.ownsRow W.heap.size 5 1 v (0 + a1 + a2 + a3 + a4) (nums bs)) (hV : Below W.heap.size W V) => appendNumber_own v (0 + a1 + a2 + a3 + a4) bs ep W.heap.size V f6.1 (by omega) hr hV.size (by omega))
  rw [← ha5] at HT5
  have HT6 := hid (fun v bs V (hr : V.ownsRow W.heap.size 5 1 v (0 + a1 + a2 + a3 + a4 + a5) (nums bs)) (hV : Below W.heap.size W V) => appendText_own v (0 + a1 + a2 + a3 + a4 + a5) bs sk W.heap.size V hr hV.size (by omega))
  rw [← ha6] at HT6
  have HT7 := hid (fun v bs V (hr : V.ownsRow W.heap.size 5 1 v (0 + a1 + a2 + a3 + a4 + a5 + a6) (nums bs)) (hV : Below W.heap.size W V) => appendNumber_own v (0 + a1 + a2 + a3 + a4 + a5 + a6) bs qt W.heap.size V f8.1 (by omega) hr hV.size (by omega))
  rw [← ha7] at HT7
  have HT8 := hid (fun v bs V (hr : V.ownsRow W.heap.size 5 1 v (0 + a1 + a2 + a3 + a4 + a5 + a6 + a7) (nums bs)) (hV : Below W.heap.size W V) => appendTruth_own v (0 + a1 + a2 + a3 + a4 + a5 + a6 + a7) bs cl W.heap.size V hr hV.size (by omega))
  rw [← ha8] at HT8
  have c0 := HK.out.cell (i := 0) rfl
  have HW := hid hW
  clear hW f1 f2 f3 f4 f5 f6 f7 f8 z1 z2 hlen hx hr HE HLE ha1 ha2 ha3 ha4 ha5 ha6 ha7 ha8
  rw [HW.out] at c0
  go_enter Tryz.func108, Tryz.ntmps108
  go_wp2_with fail
  rw [← HW.out]
  obtain ⟨p, hp⟩ : ∃ p, p = w.heap.size := ⟨_, rfl⟩
  rw [← hp] at HK ⊢
  clear hp c0
  refine (HT1.out _ [] _ (World.ownsRow_nil _ _ _ _) (Below.refl _ _)).mono ?_
  rintro e w1 ⟨v1, rfl, hr1, hb1⟩
  have HR1 := hid hr1
  have HB1 := hid hb1
  have c1 := (HK.out.below hb1 HK.out.lt).cell (i := 1) rfl
  clear hr1 hb1 HT1
  go_wp2_with fail
  refine (HT2.out _ _ _ HR1.out HB1.out).mono ?_
  rintro e w2 ⟨v2, rfl, hr2, hb2⟩
  have HR2 := hid hr2
  have HB2 := hid (HB1.out.trans hb2)
  have c2 := (HK.out.below HB2.out HK.out.lt).cell (i := 2) rfl
  clear hr2 hb2 HT2
  go_wp2_with fail
  refine (HT3.out _ _ _ HR2.out HB2.out).mono ?_
  rintro e w3 ⟨v3, rfl, hr3, hb3⟩
  have HR3 := hid hr3
  have HB3 := hid (HB2.out.trans hb3)
  have c3 := (HK.out.below HB3.out HK.out.lt).cell (i := 3) rfl
  clear hr3 hb3 HT3
  go_wp2_with fail
  refine (HT4.out _ _ _ HR3.out HB3.out).mono ?_
  rintro e w4 ⟨v4, rfl, hr4, hb4⟩
  have HR4 := hid hr4
  have HB4 := hid (HB3.out.trans hb4)
  have c4 := (HK.out.below HB4.out HK.out.lt).cell (i := 4) rfl
  clear hr4 hb4 HT4
  go_wp2_with fail
  refine (HT5.out _ _ _ HR4.out HB4.out).mono ?_
  rintro e w5 ⟨v5, rfl, hr5, hb5⟩
  have HR5 := hid hr5
  have HB5 := hid (HB4.out.trans hb5)
  have c5 := (HK.out.below HB5.out HK.out.lt).cell (i := 5) rfl
  clear hr5 hb5 HT5
  go_wp2_with fail
  refine (HT6.out _ _ _ HR5.out HB5.out).mono ?_
  rintro e w6 ⟨v6, rfl, hr6, hb6⟩
  have HR6 := hid hr6
  have HB6 := hid (HB5.out.trans hb6)
  have c6 := (HK.out.below HB6.out HK.out.lt).cell (i := 6) rfl
  clear hr6 hb6 HT6
  go_wp2_with fail
  refine (HT7.out _ _ _ HR6.out HB6.out).mono ?_
  rintro e w7 ⟨v7, rfl, hr7, hb7⟩
  have HR7 := hid hr7
  have HB7 := hid (HB6.out.trans hb7)
  have c7 := (HK.out.below HB7.out HK.out.lt).cell (i := 7) rfl
  clear hr7 hb7 HT7
  go_wp2_with fail
  refine (HT8.out _ _ _ HR7.out HB7.out).mono ?_
  rintro e w8 ⟨v8, rfl, hr8, hb8⟩
  have HR8 := hid hr8
  have HB8 := hid (HB7.out.trans hb8)
  clear hr8 hb8 HT8
  have HRF : Hid (w8.ownsRow w.heap.size 5 1 v8 (0 + a1 + a2 + a3 + a4 + a5 + a6 + a7 + a8) (nums (enc o.toNat ++ enc s.toNat ++ encV dp ++ encText ct ++ enc ep.toNat ++ encText sk ++ enc qt.toNat ++ encB cl))) := by
    have := own_mono HR8.out HB.out.size
    rw [List.nil_append] at this
    exact this
  have HBF := hid (bt HB.out HB8.out)
  go_wp2
  go_ret
  exact ⟨v8, rfl, HRF.out, HBF.out⟩
/-- What codec.Event answers. -/
def EventP (w : World) (x : Ev) (e : Ending) (w' : World) : Prop :=
  (if RightEv x = true then ∃ v, e = .returned (.tuple #[v, .int .i64 0]) ∧ w'.ownsRow w.heap.size 5 1 v (encEv x).length (nums (encEv x)) else e = .returned (.tuple #[.slice none 0 0, .int .i64 1])) ∧ Below w.heap.size w w'
end Go.Proofs.YtfmnbehopdmahaaGreat
