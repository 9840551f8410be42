/-
  Package cut: sealsOf, Epoch; to which seal an event belongs.
-/
import Derived.Test.YtmpkbdhihdboiaaSealA
import Derived.Test.YtmpkbdhihdboiaaVvD
import Derived.Test.YtmpkbdhihdboiaaSealF
namespace Go.Proofs.Ytmpkbdhihdboiaa
open Go.RowKit Go.Maps

/-- Does e belong to s? -/
def Bel (e : Ev) (s : Sl) : Prop := s.cart = e.cart ∧ e.epoch ≤ s.ep ∧ HasV s.cut e.o e.s
instance (e : Ev) (s : Sl) : Decidable (Bel e s) := by unfold Bel; infer_instance
def ownOf (name : ByteArray) (xs : List SlM) : List SlM := xs.filter fun x => decide (x.e.cart = name)
/-- A new row of seals. -/
def MadeS (w : World) (ys : List SlM) (e : Ending) (w' : World) : Prop :=
  ∃ v, e = .returned v ∧ w'.ownsRow w.heap.size 26 4 v ys.length (flatS ys) ∧ Below w.heap.size w w'
theorem own_take {name : ByteArray} {xs : List SlM} {k : Nat} (hk : k < xs.length) : ownOf name (xs.take (k + 1)) = ownOf name (xs.take k) ++ (if xs[k].e.cart = name then [xs[k]] else []) := by
  unfold ownOf
  rw [List.take_succ_eq_append_getElem hk, List.filter_append]
  by_cases h : xs[k].e.cart = name
  · rw [if_pos h]
    simp [h]
  · rw [if_neg h]
    simp [h]
theorem ownOf_len (name : ByteArray) (xs : List SlM) : (ownOf name xs).length ≤ xs.length := List.length_filter_le _ _
theorem ownOf_sub {name : ByteArray} {xs : List SlM} : ∀ x ∈ ownOf name xs, x ∈ xs := fun _ hx => (List.mem_filter.1 hx).1
end Go.Proofs.Ytmpkbdhihdboiaa
/-
  The document's RightSeal and Epoch.
-/
namespace Go.Proofs.Ytmpkbdhihdboiaa
open Go.RowKit Go.Maps

theorem rto_any (w : World) (x m : Int) : Calls Try.prog 26 #[.int .i64 x, .int .i64 m] w fun e w' => e = .returned (.bool (decide (0 ≤ x ∧ x ≤ m))) ∧ w' = w := by
  by_cases h0 : 0 ≤ x
  · by_cases h1 : x ≤ m
    · have HD : Hid (decide (0 ≤ x ∧ x ≤ m) = true) := decide_eq_true ⟨h0, h1⟩
      rw [HD.out]
      go_enter Try.func26, Try.ntmps26
      go_wp2
      go_ret
      exact ⟨by simp, rfl⟩
    · have HD : Hid (decide (0 ≤ x ∧ x ≤ m) = false) := decide_eq_false fun h => h1 h.2
      rw [HD.out]
      go_enter Try.func26, Try.ntmps26
      go_wp2
      go_ret
      exact ⟨by simp, rfl⟩
  · have HD : Hid (decide (0 ≤ x ∧ x ≤ m) = false) := decide_eq_false fun h => h0 h.1
    rw [HD.out]
    go_enter Try.func26, Try.ntmps26
    go_wp2
    go_ret
    exact ⟨by simp, rfl⟩
def InV (v : List Int) : Prop := ∀ x ∈ v, 0 ≤ x ∧ x ≤ 2147483647
instance (v : List Int) : Decidable (InV v) := by unfold InV; infer_instance
def rightV (v : List Int) : Bool := decide (InV v) && (decide (v.length ≤ 7) && (decide (v.length = 0) || decide (v.getD (v.length - 1) 0 ≠ 0)))
set_option maxRecDepth 100000 in
set_option maxHeartbeats 1000000 in
theorem rvector_any (w : World) (ao : Option Addr) (cap : Nat) (v : List Int) (n : Nat) (hn : v.length = n) (h : HV w ao cap v) :
    Calls Try.prog 29 #[.slice ao n cap] w fun e w' => e = .returned (.bool (rightV v)) ∧ w' = w := by
  have HN := hid hn
  have H := hid h
  have hfew := h.few
  rw [hn] at hfew
  have HT := hid (fun x => rto_any w x 2147483647)
  clear hn h
  go_enter Try.func29, Try.ntmps29
  go_wp2
  go_loop [3] (fun x => ∃ k : Nat, k ≤ n ∧ x = .int .i64 k ∧ Hid (∀ a, a < k → 0 ≤ v.getD a 0 ∧ v.getD a 0 ≤ 2147483647)) (fun x => n - (intOf x).toNat)
  case atStart => exact ⟨0, Nat.zero_le _, rfl, fun a ha => absurd ha (Nat.not_lt_zero _)⟩
  case round =>
    obtain ⟨k, hk, rfl, HA⟩ := hrel
    by_cases hlt : k < n
    · have hlt' : (k : Int) < (n : Int) := by omega
      have hkx : Hid (k < v.length) := (by rw [HN.out]; exact hlt : k < v.length)
      have HKM : Hid (k + 1 ≤ n) := (by omega : k + 1 ≤ n)
      rcases H.out.held.2 with h0 | ⟨b, off, hao, hb, hc⟩
      · exfalso
        have := hkx.out
        rw [h0] at this
        cases this
      have gk := hc k hkx.out
      subst hao
      clear hc
      obtain ⟨X, HX⟩ : ∃ X, Hid (v.getD k 0 = X) := ⟨_, hid rfl⟩
      rw [HX.out] at gk
      go_wp2_with fail
      refine (HT.out X).mono ?_
      rintro e w' ⟨rfl, rfl⟩
      by_cases hr : 0 ≤ X ∧ X ≤ 2147483647
      · rw [decide_eq_true hr]
        have HRR := hid hr
        clear hr
        go_wp2
        go_round
        case rel =>
          refine ⟨k + 1, HKM.out, by go_num, fun a hak => ?_⟩
          by_cases e : a = k
          · subst e
            rw [HX.out]
            exact HRR.out
          · exact HA.out a (by omega)
        case measure => simp [intOf]; have := HKM.out; omega
      · rw [decide_eq_false hr]
        have HV0 : Hid (rightV v = false) := by
          show _ = _
          unfold rightV
          rw [decide_eq_false (fun hh => hr (by have := hh _ (List.getElem_mem hkx.out); rw [show v[k]'hkx.out = X by rw [← HX.out]; simp [List.getD, List.getElem?_eq_getElem hkx.out]] at this; exact this)), Bool.false_and]
        clear hr
        go_wp2
        go_ret
        exact ⟨by rw [HV0.out]; rfl, rfl⟩
    · have hlt' : ¬ (k : Int) < (n : Int) := by omega
      have HIN : Hid (rightV v = (decide (n ≤ 7) && (decide (n = 0) || decide (v.getD (n - 1) 0 ≠ 0)))) := by
        have h1 : InV v := fun x hx => by
          obtain ⟨a, ha, rfl⟩ := List.mem_iff_getElem.1 hx
          have := HA.out a (by have := HN.out; omega)
          simp only [List.getD, List.getElem?_eq_getElem ha, Option.getD] at this
          exact this
        show _ = _
        unfold rightV
        rw [decide_eq_true h1, Bool.true_and, HN.out]
      by_cases h7 : n ≤ 7
      rotate_left 1
      · have h7' : ¬ (n : Int) ≤ 7 := by omega
        have HF : Hid (rightV v = false) := by show _ = _; rw [HIN.out, decide_eq_false h7, Bool.false_and]
        go_wp2
        go_ret
        exact ⟨by rw [HF.out]; rfl, rfl⟩
      have h7' : (n : Int) ≤ 7 := by omega
      by_cases h0 : n = 0
      · have HF : Hid (rightV v = true) := by show _ = _; rw [HIN.out, decide_eq_true h7, decide_eq_true h0]; rfl
        subst h0
        go_wp2
        go_ret
        exact ⟨by rw [HF.out]; rfl, rfl⟩
      · have h0' : ¬ (n : Int) = 0 := by omega
        have hb0 : ((n : Int) == 0) = false := by simpa using h0'
        obtain ⟨X, HX⟩ : ∃ X, Hid (v.getD (n - 1) 0 = X) := ⟨_, hid rfl⟩
        have HF : Hid (rightV v = decide (X ≠ 0)) := by show _ = _; rw [HIN.out, HX.out, decide_eq_true h7, decide_eq_false h0, Bool.true_and, Bool.false_or]
        have hnx : Hid (n - 1 < v.length) := (by rw [HN.out]; omega : n - 1 < v.length)
        rcases H.out.held.2 with hn0 | ⟨b, off, hao, hb, hc⟩
        · exfalso
          have := hnx.out
          rw [hn0] at this
          cases this
        have gk := hc (n - 1) hnx.out
        subst hao
        clear hc HIN
        rw [HX.out] at gk
        obtain ⟨j, rfl⟩ : ∃ j, n = j + 1 := ⟨n - 1, by omega⟩
        rw [Nat.add_sub_cancel] at gk
        have hsub : IntKind.i64.wrap (((j + 1 : Nat) : Int) - 1) = (j : Int) := by rw [IntKind.wrap_i64]; omega
        have hjlt : (j : Int) < ((j + 1 : Nat) : Int) := by omega
        go_wp2
        go_ret
        exact ⟨by rw [HF.out]; refine ret_bool ?_; by_cases h : X = 0; (subst h; rfl); (simp [h]; try rfl), rfl⟩
def RightSl (s : Sl) : Bool := nameS s.tok && (nameS s.cart && (decide (0 ≤ s.ep ∧ s.ep ≤ 2147483647) && rightV s.cut))
set_option maxRecDepth 100000 in
set_option maxHeartbeats 1000000 in
theorem rseal_any (w : World) (x : SlM) (hx : SlOk w x) :
    Calls Try.prog 10 #[x.val] w fun e w' => e = .returned (.bool (RightSl x.e)) ∧ Below w.heap.size w w' := by
  obtain ⟨⟨tok, cart, ep, cut⟩, ao1, cap1⟩ := x
  obtain ⟨XN, HXN⟩ : ∃ m, Hid (cut.length = m) := ⟨_, hid rfl⟩
  simp only [SlM.val]
  rw [HXN.out]
  have HB : Hid (Below w.heap.size w (w.alloc (.cells #[.string tok, .string cart, .int .i64 ep, .slice ao1 XN cap1] 26))) := (Below.refl _ _).alloc (Nat.le_refl _) _
  have hk := Blk.new w 26 [.string tok, .string cart, .int .i64 ep, .slice ao1 XN cap1]
  have c0 := hk.cell (i := 0) rfl
  have c1 := hk.cell (i := 1) rfl
  have c2 := hk.cell (i := 2) rfl
  have c3 := hk.cell (i := 3) rfl
  have HN1 := hid (fun V => refName_any tok V hx.ht)
  have HN2 := hid (fun V => refName_any cart V hx.hc)
  have HT := hid (fun V => rto_any V ep 2147483647)
  have HV' := hid (rvector_any (w.alloc (.cells #[.string tok, .string cart, .int .i64 ep, .slice ao1 XN cap1] 26)) ao1 cap1 cut XN HXN.out (hx.cut.below HB.out))
  have HR : Hid (RightSl ⟨tok, cart, ep, cut⟩ = (nameS tok && (nameS cart && (decide (0 ≤ ep ∧ ep ≤ 2147483647) && rightV cut)))) := rfl
  rw [HR.out]
  obtain ⟨b1, HB1⟩ : ∃ b, Hid (nameS tok = b) := ⟨_, hid rfl⟩
  obtain ⟨b2, HB2⟩ : ∃ b, Hid (nameS cart = b) := ⟨_, hid rfl⟩
  obtain ⟨b3, HB3⟩ : ∃ b, Hid (decide (0 ≤ ep ∧ ep ≤ 2147483647) = b) := ⟨_, hid rfl⟩
  obtain ⟨b4, HB4⟩ : ∃ b, Hid (rightV cut = b) := ⟨_, hid rfl⟩
  rw [HB1.out] at HN1 ⊢
  rw [HB2.out] at HN2 ⊢
  rw [HB3.out] at HT ⊢
  rw [HB4.out] at HV' ⊢
  clear hk hx HB1 HB2 HB3 HB4 HR
  cases b1
  · go_enter Try.func10, Try.ntmps10
    go_wp2_with fail
    refine (HN1.out _).mono ?_
    rintro e w' ⟨rfl, rfl⟩
    go_wp2
    go_ret
    exact ⟨rfl, HB.out⟩
  cases b2
  · go_enter Try.func10, Try.ntmps10
    go_wp2_with fail
    refine (HN1.out _).mono ?_
    rintro e w' ⟨rfl, rfl⟩
    go_wp2_with fail
    refine (HN2.out _).mono ?_
    rintro e w' ⟨rfl, rfl⟩
    go_wp2
    go_ret
    exact ⟨rfl, HB.out⟩
  cases b3
  · go_enter Try.func10, Try.ntmps10
    go_wp2_with fail
    refine (HN1.out _).mono ?_
    rintro e w' ⟨rfl, rfl⟩
    go_wp2_with fail
    refine (HN2.out _).mono ?_
    rintro e w' ⟨rfl, rfl⟩
    go_wp2_with fail
    refine (HT.out _).mono ?_
    rintro e w' ⟨rfl, rfl⟩
    go_wp2
    go_ret
    exact ⟨rfl, HB.out⟩
  go_enter Try.func10, Try.ntmps10
  go_wp2_with fail
  refine (HN1.out _).mono ?_
  rintro e w' ⟨rfl, rfl⟩
  go_wp2_with fail
  refine (HN2.out _).mono ?_
  rintro e w' ⟨rfl, rfl⟩
  go_wp2_with fail
  refine (HT.out _).mono ?_
  rintro e w' ⟨rfl, rfl⟩
  go_wp2_with fail
  refine HV'.out.mono ?_
  rintro e w' ⟨rfl, rfl⟩
  go_wp2
  go_ret
  exact ⟨rfl, HB.out⟩
end Go.Proofs.Ytmpkbdhihdboiaa
/-
  Vectors that may be: codec.every, mayList, plain, mayVector tell 'rightV' of any vector; codec.appendList and appendVector write one behind an owned row.
-/
namespace Go.Proofs.Ytmpkbdhihdboiaa
open Go.RowKit Go.Maps

theorem own_mono {w : World} {base base' : Nat} {e : TypeId} {size : Nat} {v : Value} {n : Nat} {xs : List Value} (h : w.ownsRow base e size v n xs) (hb : base' ≤ base) : w.ownsRow base' e size v n xs := by
  refine ⟨h.1, ?_⟩
  rcases h.2 with h1 | ⟨g, cap, cur, h1, h2, h3⟩
  · exact .inl h1
  · exact .inr ⟨g, cap, cur, h1, Nat.le_trans hb h2, h3⟩
theorem mayVec1_any (w : World) (x : Int) : Calls Try.prog 71 #[.int .i64 x] w fun e w' => e = .returned (.bool (decide (0 ≤ x ∧ x ≤ 2147483647))) ∧ w' = w := by
  have H := hid (upTo_any w x 2147483647)
  obtain ⟨r, HR⟩ : ∃ r, Hid (decide (0 ≤ x ∧ x ≤ 2147483647) = r) := ⟨_, hid rfl⟩
  rw [HR.out] at H ⊢
  clear HR
  go_enter Try.func71, Try.ntmps71
  go_wp2_with fail
  refine H.out.mono ?_
  rintro e w' ⟨rfl, rfl⟩
  go_wp2
  go_ret
  exact ⟨rfl, rfl⟩
set_option maxRecDepth 100000 in
set_option maxHeartbeats 1000000 in
theorem every_any (w : World) (ao : Option Addr) (cap : Nat) (v : List Int) (n : Nat) (hn : v.length = n) (h : HV w ao cap v) :
    Calls Try.prog 92 #[.slice ao n cap, .func (.func 71) #[] #[]] w fun e w' => e = .returned (.bool (decide (InV v))) ∧ w' = w := by
  have HN := hid hn
  have H := hid h
  have hfew := h.few
  rw [hn] at hfew
  have HT := hid (fun x => mayVec1_any w x)
  clear hn h
  go_enter Try.func92, Try.ntmps92
  go_wp2
  go_loop [6, 9] (fun _ x => ∃ k : Nat, k ≤ n ∧ x = .int .i64 k ∧ Hid (∀ a, a < k → 0 ≤ v.getD a 0 ∧ v.getD a 0 ≤ 2147483647)) (fun _ x => n - (intOf x).toNat)
  case atStart => exact ⟨0, Nat.zero_le _, rfl, fun a ha => absurd ha (Nat.not_lt_zero _)⟩
  case round =>
    obtain ⟨k, hk, rfl, HA⟩ := hrel
    by_cases hlt : k < n
    · have hlt' : (k : Int) < (n : Int) := by omega
      have hkx : Hid (k < v.length) := (by rw [HN.out]; exact hlt : k < v.length)
      have HKM : Hid (k + 1 ≤ n) := (by omega : k + 1 ≤ n)
      rcases H.out.held.2 with h0 | ⟨b, off, hao, hb, hc⟩
      · exfalso
        have := hkx.out
        rw [h0] at this
        cases this
      have gk := hc k hkx.out
      subst hao
      clear hc
      obtain ⟨X, HX⟩ : ∃ X, Hid (v.getD k 0 = X) := ⟨_, hid rfl⟩
      rw [HX.out] at gk
      go_wp2_with fail
      refine (HT.out X).mono ?_
      rintro e w' ⟨rfl, rfl⟩
      by_cases hr : 0 ≤ X ∧ X ≤ 2147483647
      · rw [decide_eq_true hr]
        have HRR := hid hr
        clear hr
        go_wp2
        go_round
        case rel =>
          refine ⟨k + 1, HKM.out, by go_num, fun a hak => ?_⟩
          by_cases e : a = k
          · subst e
            rw [HX.out]
            exact HRR.out
          · exact HA.out a (by omega)
        case measure => simp [intOf]; have := HKM.out; omega
      · rw [decide_eq_false hr]
        have HV0 : Hid (decide (InV v) = false) := by
          show _ = _
          rw [decide_eq_false (fun hh => hr (by have := hh _ (List.getElem_mem hkx.out); rw [show v[k]'hkx.out = X by rw [← HX.out]; simp [List.getD, List.getElem?_eq_getElem hkx.out]] at this; exact this))]
        clear hr
        go_wp2
        go_ret
        exact ⟨by rw [HV0.out]; rfl, rfl⟩
    · have hlt' : ¬ (k : Int) < (n : Int) := by omega
      have HIN : Hid (decide (InV v) = true) := by
        refine decide_eq_true fun x hx => ?_
        obtain ⟨a, ha, rfl⟩ := List.mem_iff_getElem.1 hx
        have := HA.out a (by have := HN.out; omega)
        simp only [List.getD, List.getElem?_eq_getElem ha, Option.getD] at this
        exact this
      go_wp2
      go_ret
      exact ⟨by rw [HIN.out]; rfl, rfl⟩
theorem mayList_any (w : World) (ao : Option Addr) (cap : Nat) (v : List Int) (n : Nat) (hn : v.length = n) (h : HV w ao cap v) :
    Calls Try.prog 70 #[.slice ao n cap, .int .i64 7, .func (.func 71) #[] #[]] w fun e w' => e = .returned (.bool (decide (n ≤ 7) && decide (InV v))) ∧ w' = w := by
  have H := hid (every_any w ao cap v n hn h)
  clear hn h
  obtain ⟨r, HR⟩ : ∃ r, Hid (decide (InV v) = r) := ⟨_, hid rfl⟩
  rw [HR.out] at H ⊢
  by_cases h7 : n ≤ 7
  · have h7' : (n : Int) ≤ 7 := by omega
    rw [decide_eq_true h7, Bool.true_and]
    clear h7
    go_enter Try.func70, Try.ntmps70
    go_wp2_with fail
    refine H.out.mono ?_
    rintro e w' ⟨rfl, rfl⟩
    go_wp2
    go_ret
    exact ⟨rfl, rfl⟩
  · have h7' : ¬ (n : Int) ≤ 7 := by omega
    rw [decide_eq_false h7, Bool.false_and]
    clear h7
    go_enter Try.func70, Try.ntmps70
    go_wp2
    go_ret
    exact ⟨rfl, rfl⟩
theorem codecPlain_ok (w : World) (ao : Option Addr) (cap : Nat) (v : List Int) (n : Nat) (hn : v.length = n) (h : HV w ao cap v) :
    Calls Try.prog 72 #[.slice ao n cap] w fun e w' => e = .returned (.bool (decide (n = 0) || decide (v.getD (n - 1) 0 ≠ 0))) ∧ w' = w := by
  have HN := hid hn
  have H := hid h
  have hfew := h.few
  rw [hn] at hfew
  clear hn h
  by_cases h0 : n = 0
  · subst h0
    rw [decide_eq_true rfl, Bool.true_or]
    go_enter Try.func72, Try.ntmps72
    go_wp2
    go_ret
    exact ⟨rfl, rfl⟩
  · have h0' : ¬ (n : Int) = 0 := by omega
    have hb0 : ((n : Int) == 0) = false := by simpa using h0'
    rw [decide_eq_false h0, Bool.false_or]
    obtain ⟨X, HX⟩ : ∃ X, Hid (v.getD (n - 1) 0 = X) := ⟨_, hid rfl⟩
    rw [HX.out]
    have hnx : Hid (n - 1 < v.length) := (by rw [HN.out]; omega : n - 1 < v.length)
    rcases H.out.held.2 with hn0 | ⟨b, off, hao, hb, hc⟩
    · exfalso
      have := hnx.out
      rw [hn0] at this
      cases this
    have gk := hc (n - 1) hnx.out
    subst hao
    clear hc
    rw [HX.out] at gk
    obtain ⟨j, rfl⟩ : ∃ j, n = j + 1 := ⟨n - 1, by omega⟩
    rw [Nat.add_sub_cancel] at gk
    have hsub : IntKind.i64.wrap (((j + 1 : Nat) : Int) - 1) = (j : Int) := by rw [IntKind.wrap_i64]; omega
    have hjlt : (j : Int) < ((j + 1 : Nat) : Int) := by omega
    go_enter Try.func72, Try.ntmps72
    go_wp2
    go_ret
    exact ⟨by refine ret_bool ?_; by_cases h : X = 0; (subst h; rfl); (simp [h]; try rfl), rfl⟩
theorem mayVector_any (w : World) (ao : Option Addr) (cap : Nat) (v : List Int) (n : Nat) (hn : v.length = n) (h : HV w ao cap v) :
    Calls Try.prog 42 #[.slice ao n cap] w fun e w' => e = .returned (.bool (rightV v)) ∧ w' = w := by
  have HR : Hid (rightV v = ((decide (n ≤ 7) && decide (InV v)) && (decide (n = 0) || decide (v.getD (n - 1) 0 ≠ 0)))) := by
    show _ = _
    unfold rightV
    rw [hn]
    cases decide (InV v) <;> cases decide (n ≤ 7) <;> rfl
  rw [HR.out]
  have HL := hid (mayList_any w ao cap v n hn h)
  have HP := hid (codecPlain_ok w ao cap v n hn h)
  clear hn h
  obtain ⟨r, HRR⟩ : ∃ r, Hid ((decide (n ≤ 7) && decide (InV v)) = r) := ⟨_, hid rfl⟩
  obtain ⟨q, HQQ⟩ : ∃ r, Hid ((decide (n = 0) || decide (v.getD (n - 1) 0 ≠ 0)) = r) := ⟨_, hid rfl⟩
  rw [HRR.out] at HL ⊢
  rw [HQQ.out] at HP ⊢
  clear HR HRR HQQ
  cases r
  · rw [Bool.false_and]
    go_enter Try.func42, Try.ntmps42
    go_wp2_with fail
    refine HL.out.mono ?_
    rintro e w' ⟨rfl, rfl⟩
    go_wp2
    go_ret
    exact ⟨rfl, rfl⟩
  · rw [Bool.true_and]
    go_enter Try.func42, Try.ntmps42
    go_wp2_with fail
    refine HL.out.mono ?_
    rintro e w' ⟨rfl, rfl⟩
    go_wp2_with fail
    refine HP.out.mono ?_
    rintro e w' ⟨rfl, rfl⟩
    go_wp2
    go_ret
    exact ⟨rfl, rfl⟩
/-- The numbers of a vector as bytes. -/
def encN : List Int → List Int
  | [] => []
  | x :: r => enc x.toNat ++ encN r
theorem encN_append : ∀ a b : List Int, encN (a ++ b) = encN a ++ encN b
  | [], _ => rfl
  | x :: r, b => by
    show enc x.toNat ++ encN (r ++ b) = (enc x.toNat ++ encN r) ++ encN b
    rw [encN_append r b, List.append_assoc]
theorem encN_take {v : List Int} {k : Nat} (h : k < v.length) : encN (v.take (k + 1)) = encN (v.take k) ++ enc (v.getD k 0).toNat := by
  rw [List.take_succ_eq_append_getElem h, encN_append]
  simp [encN, List.getD, List.getElem?_eq_getElem h]
theorem encN_len : ∀ {v : List Int}, InV v → (encN v).length ≤ 10 * v.length
  | [], _ => Nat.le_refl _
  | x :: r, h => by
    have h1 := encN_len (v := r) fun y hy => h y (List.mem_cons_of_mem _ hy)
    have h2 := h x (List.mem_cons_self ..)
    have h3 := enc_le10 (x := x.toNat) (by omega)
    show (enc x.toNat ++ encN r).length ≤ _
    rw [List.length_append, List.length_cons]
    omega
/-- A vector as bytes. -/
def encV (v : List Int) : List Int := enc v.length ++ encN v
theorem encV_len {v : List Int} (h : InV v) (h7 : v.length ≤ 7) : (encV v).length ≤ 80 := by
  have h1 := encN_len h
  have h3 := enc_le10 (x := v.length) (by omega)
  unfold encV
  rw [List.length_append]
  omega
theorem inV_take {v : List Int} (h : InV v) (k : Nat) : InV (v.take k) := fun x hx => h x (List.mem_of_mem_take hx)
set_option maxRecDepth 100000 in
set_option maxHeartbeats 1000000 in
theorem appendListI_any (u : Value) (n : Nat) (bs : List Int) (ao : Option Addr) (cap : Nat) (v : List Int) (m : Nat) (hm : v.length = m) (B : Nat) (w : World) (hv : ∀ V, Below B w V → HV V ao cap v) (h7 : m ≤ 7) (hin : InV v)
    (hown : w.ownsRow B 5 1 u n (nums bs)) (hB : B ≤ w.heap.size) (hn : n ≤ 140737488350000) :
    Calls Try.prog 75 #[u, .slice ao m cap, .func (.func 44) #[] #[]] w fun e w' => ∃ v', e = .returned v' ∧ w'.ownsRow B 5 1 v' (n + (encV v).length) (nums (bs ++ encV v)) ∧ Below B w w' := by
  have l0 := enc_le10 (x := m) (by omega)
  have HA := hid (appendUint_own u n bs m B w (by omega) (by omega) hown hB (by omega))
  rw [Int.toNat_natCast] at HA
  have hwr : IntKind.u64.wrap (m : Int) = (m : Int) := by rw [IntKind.wrap_u64]; omega
  obtain ⟨c0, HC0⟩ : ∃ c, Hid (n + (enc m).length = c) := ⟨_, hid rfl⟩
  rw [HC0.out] at HA
  have hc0 : c0 ≤ 140737488350010 := by have := HC0.out; omega
  have HM := hid hm
  have HVV := hid hv
  have HIN := hid hin
  clear hm hv hin hown l0
  go_enter Try.func75, Try.ntmps75
  go_wp2_with fail
  refine HA.out.mono ?_
  rintro e w1 ⟨v1, rfl, hr1, hb1⟩
  have HR1 := hid hr1
  have HB1 := hid hb1
  clear hr1 hb1 HA
  go_wp2
  go_loopw [0, 8, 16] (fun b _ i wr => ∃ k : Nat, k ≤ m ∧ i = .int .i64 k ∧ Hid (wr.ownsRow B 5 1 b (c0 + (encN (v.take k)).length) (nums (bs ++ enc m ++ encN (v.take k))) ∧ Below B w wr)) (fun _ _ i _ => m - (intOf i).toNat)
  case atStart => exact ⟨0, Nat.zero_le _, rfl, by rw [List.take_zero]; show World.ownsRow _ _ _ _ _ c0 (nums (bs ++ enc m ++ [])); rw [List.append_nil]; exact HR1.out, HB1.out⟩
  case round =>
    obtain ⟨k, hk, rfl, HR⟩ := hrel
    by_cases hlt : k < m
    · have hlt' : (k : Int) < (m : Int) := by omega
      have hkx : Hid (k < v.length) := (by rw [HM.out]; exact hlt : k < v.length)
      have HKM : Hid (k + 1 ≤ m) := (by omega : k + 1 ≤ m)
      rcases (HVV.out wr HR.out.2).held.2 with h0 | ⟨b, off, hao, hb, hc⟩
      · exfalso
        have := hkx.out
        rw [h0] at this
        cases this
      have gk := hc k hkx.out
      have HX2 := hid (HIN.out _ (getD_mem hkx.out))
      have HTK := hid (encN_take hkx.out)
      have HLN : Hid ((encN (v.take k)).length ≤ 70) := by
        have h1 := encN_len (inV_take HIN.out k)
        have h2 : (v.take k).length ≤ 7 := by rw [List.length_take]; omega
        show _ ≤ _
        omega
      subst hao
      clear hc
      obtain ⟨X, HX⟩ : ∃ X, Hid (v.getD k 0 = X) := ⟨_, hid rfl⟩
      rw [HX.out] at gk HX2 HTK
      have HAN := hid (appendNumber_own u0 (c0 + (encN (v.take k)).length) (bs ++ enc m ++ encN (v.take k)) X B wr HX2.out.1 (by have := HX2.out; omega) HR.out.1 (Nat.le_trans hB HR.out.2.size) (by have := HLN.out; omega))
      go_wp2_with fail
      refine HAN.out.mono ?_
      rintro e w2 ⟨v2, rfl, hr2, hb2⟩
      have HR2 := hid hr2
      have HB2 := hid (HR.out.2.trans hb2)
      clear hr2 hb2 HAN
      go_wp2
      go_roundw
      case rel =>
        refine ⟨k + 1, HKM.out, by go_num, ?_, HB2.out⟩
        rw [HTK.out, List.length_append, ← List.append_assoc, ← Nat.add_assoc]
        exact HR2.out
      case measure => simp [intOf]; have := HKM.out; omega
    · have hlt' : ¬ (k : Int) < (m : Int) := by omega
      have hke : Hid (v.take k = v) := by show _ = _; rw [List.take_of_length_le]; have := HM.out; omega
      rw [hke.out] at HR
      have HE : Hid (wr.ownsRow B 5 1 u0 (n + (encV v).length) (nums (bs ++ encV v))) := by
        have := HR.out.1
        rw [← HC0.out, List.append_assoc, Nat.add_assoc, ← List.length_append] at this
        show World.ownsRow _ _ _ _ _ _ _
        unfold encV
        rw [HM.out]
        exact this
      go_wp2
      go_ret
      exact ⟨_, rfl, HE.out, HR.out.2⟩
theorem appendVector_own (u : Value) (n : Nat) (bs : List Int) (ao : Option Addr) (cap : Nat) (v : List Int) (m : Nat) (hm : v.length = m) (B : Nat) (w : World) (hv : ∀ V, Below B w V → HV V ao cap v) (h7 : m ≤ 7) (hin : InV v)
    (hown : w.ownsRow B 5 1 u n (nums bs)) (hB : B ≤ w.heap.size) (hn : n ≤ 140737488350000) :
    Calls Try.prog 49 #[u, .slice ao m cap] w fun e w' => ∃ v', e = .returned v' ∧ w'.ownsRow B 5 1 v' (n + (encV v).length) (nums (bs ++ encV v)) ∧ Below B w w' := by
  have HL := hid (appendListI_any u n bs ao cap v m hm B w hv h7 hin hown hB hn)
  clear hown hv hm
  go_enter Try.func49, Try.ntmps49
  go_wp2_with fail
  refine HL.out.mono ?_
  rintro e w' ⟨v', rfl, h1, h2⟩
  have H1 := hid h1
  have H2 := hid h2
  clear h1 h2
  go_wp2
  go_ret
  exact ⟨v', rfl, H1.out, H2.out⟩
end Go.Proofs.Ytmpkbdhihdboiaa
