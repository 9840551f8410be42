/-
  The document's RightEntry; its Missing.
-/
import Derived.Test.YtgghfmdciohinaaLdM
namespace Go.Proofs.Ytgghfmdciohinaa
open Go.RowKit Go.Maps

theorem empty_listQD : (⟨#[]⟩ : ByteArray).toList = [] := by decide +kernel
theorem empty_iffQD (s : ByteArray) : s.size = 0 ↔ s.toList = [] := by
  constructor
  · intro h
    have h1 : s = ⟨#[]⟩ := ByteArray.ext (Array.eq_empty_of_size_eq_zero h)
    rw [h1]
    exact empty_listQD
  · intro h
    have h1 : s = ⟨#[]⟩ := bytes_injC (h.trans empty_listQD.symm)
    rw [h1]
    rfl
def InVD (v : List Int) : Prop := ∀ x ∈ v, 0 ≤ x ∧ x ≤ 2147483647
instance (v : List Int) : Decidable (InVD v) := by unfold InVD; infer_instance
def rightVD (v : List Int) : Bool := decide (InVD v) && (decide (v.length ≤ 7) && (decide (v.length = 0) || decide (v.getD (v.length - 1) 0 ≠ 0)))
theorem rto_anyD (w : World) (x m : Int) : Calls Try.prog 49 #[.int .i64 x, .int .i64 m] w fun e w' => e = .returned (.bool (decide (0 ≤ x ∧ x ≤ m))) ∧ w' = w := by
  by_cases h0 : 0 ≤ x
  · by_cases h1 : x ≤ m
    · have HD : Hid (decide (0 ≤ x ∧ x ≤ m) = true) := decide_eq_true ⟨h0, h1⟩
      rw [HD.out]
      go_enter Try.func49, Try.ntmps49
      go_wp2
      go_ret
      exact ⟨by simp, rfl⟩
    · have HD : Hid (decide (0 ≤ x ∧ x ≤ m) = false) := decide_eq_false fun h => h1 h.2
      rw [HD.out]
      go_enter Try.func49, Try.ntmps49
      go_wp2
      go_ret
      exact ⟨by simp, rfl⟩
  · have HD : Hid (decide (0 ≤ x ∧ x ≤ m) = false) := decide_eq_false fun h => h0 h.1
    rw [HD.out]
    go_enter Try.func49, Try.ntmps49
    go_wp2
    go_ret
    exact ⟨by simp, rfl⟩
set_option maxRecDepth 100000 in
set_option maxHeartbeats 1000000 in
theorem rvector_anyD (w : World) (ao : Option Addr) (cap : Nat) (v : List Int) (n : Nat) (hn : v.length = n) (h : HV w ao cap v) :
    Calls Try.prog 50 #[.slice ao n cap] w fun e w' => e = .returned (.bool (rightVD v)) ∧ w' = w := by
  have HN := hid hn
  have H := hid h
  have hfew := h.few
  rw [hn] at hfew
  have HT := hid (fun x => rto_anyD w x 2147483647)
  clear hn h
  go_enter Try.func50, Try.ntmps50
  go_wp2
  go_loop [3] (fun x => ∃ k : Nat, k ≤ n ∧ x = .int .i64 k ∧ Hid (∀ a, a < k → 0 ≤ v.getD a 0 ∧ v.getD a 0 ≤ 2147483647)) (fun x => n - (intOf x).toNat)
  case atStart => exact ⟨0, Nat.zero_le _, rfl, fun a ha => absurd ha (Nat.not_lt_zero _)⟩
  case round =>
    obtain ⟨k, hk, rfl, HA⟩ := hrel
    by_cases hlt : k < n
    · have hlt' : (k : Int) < (n : Int) := by omega
      have hkx : Hid (k < v.length) := (by rw [HN.out]; exact hlt : k < v.length)
      have HKM : Hid (k + 1 ≤ n) := (by omega : k + 1 ≤ n)
      rcases H.out.held.2 with h0 | ⟨b, off, hao, hb, hc⟩
      · exfalso
        have := hkx.out
        rw [h0] at this
        cases this
      have gk := hc k hkx.out
      subst hao
      clear hc
      obtain ⟨X, HX⟩ : ∃ X, Hid (v.getD k 0 = X) := ⟨_, hid rfl⟩
      rw [HX.out] at gk
      go_wp2_with fail
      refine (HT.out X).mono ?_
      rintro e w' ⟨rfl, rfl⟩
      by_cases hr : 0 ≤ X ∧ X ≤ 2147483647
      · rw [decide_eq_true hr]
        have HRR := hid hr
        clear hr
        go_wp2
        go_round
        case rel =>
          refine ⟨k + 1, HKM.out, by go_num, fun a hak => ?_⟩
          by_cases e : a = k
          · subst e
            rw [HX.out]
            exact HRR.out
          · exact HA.out a (by omega)
        case measure => simp [intOf]; have := HKM.out; omega
      · rw [decide_eq_false hr]
        have HV0 : Hid (rightVD v = false) := by
          show _ = _
          unfold rightVD
          rw [decide_eq_false (fun hh => hr (by have := hh _ (List.getElem_mem hkx.out); rw [show v[k]'hkx.out = X by rw [← HX.out]; simp [List.getD, List.getElem?_eq_getElem hkx.out]] at this; exact this)), Bool.false_and]
        clear hr
        go_wp2
        go_ret
        exact ⟨by rw [HV0.out]; rfl, rfl⟩
    · have hlt' : ¬ (k : Int) < (n : Int) := by omega
      have HIN : Hid (rightVD v = (decide (n ≤ 7) && (decide (n = 0) || decide (v.getD (n - 1) 0 ≠ 0)))) := by
        have h1 : InVD v := fun x hx => by
          obtain ⟨a, ha, rfl⟩ := List.mem_iff_getElem.1 hx
          have := HA.out a (by have := HN.out; omega)
          simp only [List.getD, List.getElem?_eq_getElem ha, Option.getD] at this
          exact this
        show _ = _
        unfold rightVD
        rw [decide_eq_true h1, Bool.true_and, HN.out]
      by_cases h7 : n ≤ 7
      rotate_left 1
      · have h7' : ¬ (n : Int) ≤ 7 := by omega
        have HF : Hid (rightVD v = false) := by show _ = _; rw [HIN.out, decide_eq_false h7, Bool.false_and]
        go_wp2
        go_ret
        exact ⟨by rw [HF.out]; rfl, rfl⟩
      have h7' : (n : Int) ≤ 7 := by omega
      by_cases h0 : n = 0
      · have HF : Hid (rightVD v = true) := by show _ = _; rw [HIN.out, decide_eq_true h7, decide_eq_true h0]; rfl
        subst h0
        go_wp2
        go_ret
        exact ⟨by rw [HF.out]; rfl, rfl⟩
      · have h0' : ¬ (n : Int) = 0 := by omega
        have hb0 : ((n : Int) == 0) = false := by simpa using h0'
        obtain ⟨X, HX⟩ : ∃ X, Hid (v.getD (n - 1) 0 = X) := ⟨_, hid rfl⟩
        have HF : Hid (rightVD v = decide (X ≠ 0)) := by show _ = _; rw [HIN.out, HX.out, decide_eq_true h7, decide_eq_false h0, Bool.true_and, Bool.false_or]
        have hnx : Hid (n - 1 < v.length) := (by rw [HN.out]; omega : n - 1 < v.length)
        rcases H.out.held.2 with hn0 | ⟨b, off, hao, hb, hc⟩
        · exfalso
          have := hnx.out
          rw [hn0] at this
          cases this
        have gk := hc (n - 1) hnx.out
        subst hao
        clear hc HIN
        rw [HX.out] at gk
        obtain ⟨j, rfl⟩ : ∃ j, n = j + 1 := ⟨n - 1, by omega⟩
        rw [Nat.add_sub_cancel] at gk
        have hsub : IntKind.i64.wrap (((j + 1 : Nat) : Int) - 1) = (j : Int) := by rw [IntKind.wrap_i64]; omega
        have hjlt : (j : Int) < ((j + 1 : Nat) : Int) := by omega
        go_wp2
        go_ret
        exact ⟨by rw [HF.out]; refine ret_bool ?_; by_cases h : X = 0; (subst h; rfl); (simp [h]; try rfl), rfl⟩
structure SlD where
  tok : ByteArray
  cart : ByteArray
  ep : Int
  cut : List Int
  deriving DecidableEq
/-- A seal with the place of its cut. -/
structure SlMD where
  e : SlD
  ao : Option Addr
  cap : Nat
abbrev SlMD.val (x : SlMD) : Value := .agg #[.string x.e.tok, .string x.e.cart, .int .i64 x.e.ep, .slice x.ao x.e.cut.length x.cap]
def RightSlD (s : SlD) : Bool := nameS s.tok && (nameS s.cart && (decide (0 ≤ s.ep ∧ s.ep ≤ 2147483647) && rightVD s.cut))
structure SlOkD (w : World) (x : SlMD) : Prop where
  cut : HV w x.ao x.cap x.e.cut
  ie : I64 x.e.ep
  ht : x.e.tok.size ≤ maxLen
  hc : x.e.cart.size ≤ maxLen
set_option maxRecDepth 100000 in
set_option maxHeartbeats 1000000 in
theorem rseal_anyD (w : World) (x : SlMD) (hx : SlOkD w x) :
    Calls Try.prog 39 #[x.val] w fun e w' => e = .returned (.bool (RightSlD x.e)) ∧ Below w.heap.size w w' := by
  obtain ⟨⟨tok, cart, ep, cut⟩, ao1, cap1⟩ := x
  obtain ⟨XN, HXN⟩ : ∃ m, Hid (cut.length = m) := ⟨_, hid rfl⟩
  simp only [SlMD.val]
  rw [HXN.out]
  have HB : Hid (Below w.heap.size w (w.alloc (.cells #[.string tok, .string cart, .int .i64 ep, .slice ao1 XN cap1] 31))) := (Below.refl _ _).alloc (Nat.le_refl _) _
  have hk := Blk.new w 31 [.string tok, .string cart, .int .i64 ep, .slice ao1 XN cap1]
  have c0 := hk.cell (i := 0) rfl
  have c1 := hk.cell (i := 1) rfl
  have c2 := hk.cell (i := 2) rfl
  have c3 := hk.cell (i := 3) rfl
  have HN1 := hid (fun V => refName_any tok V hx.ht)
  have HN2 := hid (fun V => refName_any cart V hx.hc)
  have HT := hid (fun V => rto_anyD V ep 2147483647)
  have HV' := hid (rvector_anyD (w.alloc (.cells #[.string tok, .string cart, .int .i64 ep, .slice ao1 XN cap1] 31)) ao1 cap1 cut XN HXN.out (hx.cut.below HB.out))
  have HR : Hid (RightSlD ⟨tok, cart, ep, cut⟩ = (nameS tok && (nameS cart && (decide (0 ≤ ep ∧ ep ≤ 2147483647) && rightVD cut)))) := rfl
  rw [HR.out]
  obtain ⟨b1, HB1⟩ : ∃ b, Hid (nameS tok = b) := ⟨_, hid rfl⟩
  obtain ⟨b2, HB2⟩ : ∃ b, Hid (nameS cart = b) := ⟨_, hid rfl⟩
  obtain ⟨b3, HB3⟩ : ∃ b, Hid (decide (0 ≤ ep ∧ ep ≤ 2147483647) = b) := ⟨_, hid rfl⟩
  obtain ⟨b4, HB4⟩ : ∃ b, Hid (rightVD cut = b) := ⟨_, hid rfl⟩
  rw [HB1.out] at HN1 ⊢
  rw [HB2.out] at HN2 ⊢
  rw [HB3.out] at HT ⊢
  rw [HB4.out] at HV' ⊢
  clear hk hx HB1 HB2 HB3 HB4 HR
  cases b1
  · go_enter Try.func39, Try.ntmps39
    go_wp2_with fail
    refine (HN1.out _).mono ?_
    rintro e w' ⟨rfl, rfl⟩
    go_wp2
    go_ret
    exact ⟨rfl, HB.out⟩
  cases b2
  · go_enter Try.func39, Try.ntmps39
    go_wp2_with fail
    refine (HN1.out _).mono ?_
    rintro e w' ⟨rfl, rfl⟩
    go_wp2_with fail
    refine (HN2.out _).mono ?_
    rintro e w' ⟨rfl, rfl⟩
    go_wp2
    go_ret
    exact ⟨rfl, HB.out⟩
  cases b3
  · go_enter Try.func39, Try.ntmps39
    go_wp2_with fail
    refine (HN1.out _).mono ?_
    rintro e w' ⟨rfl, rfl⟩
    go_wp2_with fail
    refine (HN2.out _).mono ?_
    rintro e w' ⟨rfl, rfl⟩
    go_wp2_with fail
    refine (HT.out _).mono ?_
    rintro e w' ⟨rfl, rfl⟩
    go_wp2
    go_ret
    exact ⟨rfl, HB.out⟩
  go_enter Try.func39, Try.ntmps39
  go_wp2_with fail
  refine (HN1.out _).mono ?_
  rintro e w' ⟨rfl, rfl⟩
  go_wp2_with fail
  refine (HN2.out _).mono ?_
  rintro e w' ⟨rfl, rfl⟩
  go_wp2_with fail
  refine (HT.out _).mono ?_
  rintro e w' ⟨rfl, rfl⟩
  go_wp2_with fail
  refine HV'.out.mono ?_
  rintro e w' ⟨rfl, rfl⟩
  go_wp2
  go_ret
  exact ⟨rfl, HB.out⟩
set_option maxRecDepth 1000000 in
set_option maxHeartbeats 2000000 in
theorem rentry_anyQD (w : World) (x : EnM) (hx : EnOk w x) : Calls Try.prog 22 #[x.val] w fun e w' => e = .returned (.bool (RightEn x.e)) ∧ Below w.heap.size w w' := by
  obtain ⟨⟨np, tk, ct, ep, dp⟩, ao1, cap1⟩ := x
  obtain ⟨XN, HXN⟩ : ∃ m, Hid (dp.length = m) := ⟨_, hid rfl⟩
  obtain ⟨W, hW⟩ : ∃ W, W = w.alloc (.cells #[.bool np, .string tk, .string ct, .int .i64 ep, .slice ao1 XN cap1] 33) := ⟨_, rfl⟩
  have HB : Hid (Below w.heap.size w W) := by rw [hW]; exact (Below.refl _ _).alloc (Nat.le_refl _) _
  have HW := hid hW
  have HSE := hid (rseal_anyD W ⟨⟨tk, ct, ep, dp⟩, ao1, cap1⟩ ⟨(hx.below HB.out).cut, hx.ie, hx.ht, hx.hc⟩)
  simp only [SlMD.val] at HSE
  simp only [EnM.val]
  rw [HXN.out] at HSE ⊢
  clear hx hW
  cases np with
  | false =>
    have HE : Hid (RightEn ⟨false, tk, ct, ep, dp⟩ = RightSlD ⟨tk, ct, ep, dp⟩) := rfl
    rw [HE.out]
    obtain ⟨R, HR⟩ : ∃ b, Hid (RightSlD ⟨tk, ct, ep, dp⟩ = b) := ⟨_, hid rfl⟩
    rw [HR.out] at HSE ⊢
    go_enter Try.func22, Try.ntmps22
    go_wp2_with fail
    rw [← HW.out]
    refine HSE.out.mono ?_
    rintro e w' ⟨rfl, hb⟩
    have HB2 := hid (bt' HB.out hb)
    clear hb
    go_wp2
    go_ret
    exact ⟨rfl, HB2.out⟩
  | true =>
    have HE : Hid (RightEn ⟨true, tk, ct, ep, dp⟩ = (decide (tk.size = 0) && (decide (ct.size = 0) && (decide (ep = 0) && decide (dp.length = 0))))) := rfl
    rw [HE.out]
    by_cases h1 : tk.toList = []
    · rw [decide_eq_true ((empty_iffQD tk).2 h1)]
      by_cases h2 : ct.toList = []
      · rw [decide_eq_true ((empty_iffQD ct).2 h2)]
        by_cases h3 : ep = 0
        · subst h3
          rw [HXN.out]
          have hd : ((XN : Int) == 0) = decide (XN = 0) := by rw [Bool.eq_iff_iff]; simp
          obtain ⟨q, HQ⟩ : ∃ q, Hid (decide (XN = 0) = q) := ⟨_, hid rfl⟩
          rw [HQ.out] at hd ⊢
          have h1' : tk.toList.isEmpty = true := by rw [h1]; rfl
          have h2' : ct.toList.isEmpty = true := by rw [h2]; rfl
          go_enter Try.func22, Try.ntmps22
          go_wp2
          go_ret
          rw [← HW.out]
          exact ⟨by simp, HB.out⟩
        · have hd : (ep == 0) = false := by simpa using h3
          rw [decide_eq_false h3]
          have h1' : tk.toList.isEmpty = true := by rw [h1]; rfl
          have h2' : ct.toList.isEmpty = true := by rw [h2]; rfl
          go_enter Try.func22, Try.ntmps22
          go_wp2
          go_ret
          rw [← HW.out]
          exact ⟨by simp, HB.out⟩
      · rw [decide_eq_false (fun k => h2 ((empty_iffQD ct).1 k))]
        have h1' : tk.toList.isEmpty = true := by rw [h1]; rfl
        have h2' : ct.toList.isEmpty = false := by cases hh : ct.toList with
          | nil => exact absurd hh h2
          | cons => rfl
        go_enter Try.func22, Try.ntmps22
        go_wp2
        go_ret
        rw [← HW.out]
        exact ⟨by simp, HB.out⟩
    · rw [decide_eq_false (fun k => h1 ((empty_iffQD tk).1 k))]
      have h1' : tk.toList.isEmpty = false := by cases hh : tk.toList with
        | nil => exact absurd hh h1
        | cons => rfl
      go_enter Try.func22, Try.ntmps22
      go_wp2
      go_ret
      rw [← HW.out]
      exact ⟨by simp, HB.out⟩

/-- While the document's Missing tells the gaps. -/
def MissR (w : World) (xs : List StM) (M : Nat) (s : Nat) (v : Value) (wr : World) : Prop := wr.ownsRow w.heap.size 3 1 v (gapsTo (xs.map (·.n)) M s).length (ints (gapsTo (xs.map (·.n)) M s)) ∧ Below w.heap.size w wr
theorem gapsTo_zero (ks : List Int) (M : Nat) : gapsTo ks M 0 = [] := by unfold gapsTo; rw [gaps_zero]; simp
end Go.Proofs.Ytgghfmdciohinaa
