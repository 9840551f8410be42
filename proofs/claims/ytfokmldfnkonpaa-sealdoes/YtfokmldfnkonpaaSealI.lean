/-
  Package cut: sealsOf, Epoch; to which seal an event belongs.
-/
import Derived.Test.YtfokmldfnkonpaaCartA
import Derived.Test.YtfokmldfnkonpaaVvD
import Derived.Test.YtfokmldfnkonpaaStrKey
import Derived.Test.YtfokmldfnkonpaaSealF
namespace Go.Proofs.Ytfokmldfnkonpaa
open Go.RowKit Go.Maps

/-- Does e belong to s? -/
def Bel (e : Ev) (s : Sl) : Prop := s.cart = e.cart ∧ e.epoch ≤ s.ep ∧ HasV s.cut e.o e.s
instance (e : Ev) (s : Sl) : Decidable (Bel e s) := by unfold Bel; infer_instance
def ownOf (name : ByteArray) (xs : List SlM) : List SlM := xs.filter fun x => decide (x.e.cart = name)
/-- A new row of seals. -/
def MadeS (w : World) (ys : List SlM) (e : Ending) (w' : World) : Prop :=
  ∃ v, e = .returned v ∧ w'.ownsRow w.heap.size 37 4 v ys.length (flatS ys) ∧ Below w.heap.size w w'
theorem own_take {name : ByteArray} {xs : List SlM} {k : Nat} (hk : k < xs.length) : ownOf name (xs.take (k + 1)) = ownOf name (xs.take k) ++ (if xs[k].e.cart = name then [xs[k]] else []) := by
  unfold ownOf
  rw [List.take_succ_eq_append_getElem hk, List.filter_append]
  by_cases h : xs[k].e.cart = name
  · rw [if_pos h]
    simp [h]
  · rw [if_neg h]
    simp [h]
theorem ownOf_len (name : ByteArray) (xs : List SlM) : (ownOf name xs).length ≤ xs.length := List.length_filter_le _ _
theorem ownOf_sub {name : ByteArray} {xs : List SlM} : ∀ x ∈ ownOf name xs, x ∈ xs := fun _ hx => (List.mem_filter.1 hx).1
theorem wpList_append_sl' {ops : Array Oper} {rest : List Oper} {o : Oper} {a : Act} {Q : Exit → Act → World → Prop} (W0 W : World) (x : SlM) (hW : W = W0.alloc (.cells x.cells.toArray 37)) (hgd : o.guard = none) (s xx : Operand)
    (ho : o.op = .call { callee := .builtin .append, args := #[s, xx], argTypes := #[50, 50] }) (B : Nat) (v : Value) (ds : List SlM) (n : Nat) (hn : ds.length = n)
    (hs : a.eval s = v) (g : Nat) (hx : a.eval xx = .slice (some ⟨g, 0, none⟩) 1 1) (hg : g = W0.heap.size) (hown : W0.ownsRow B 37 4 v n (flatS ds)) (hB : B ≤ W0.heap.size) (hl : n < 1466015503701)
    (h : ∀ v' w', w'.ownsRow B 37 4 v' (n + 1) (flatS (ds ++ [x])) → Below B W0 w' → W.grownBy w' v.ownBlock → wpList Try.prog ops Q rest (a.put o.dst v') w') :
    wpList Try.prog ops Q (o :: rest) a W := by
  subst hg
  exact wpList_append_sl W0 W x hW hgd s xx ho B v ds n hn hs hx hown hB hl h
end Go.Proofs.Ytfokmldfnkonpaa
/-
  The document's RightSeal and Epoch.
-/
namespace Go.Proofs.Ytfokmldfnkonpaa
open Go.RowKit Go.Maps

theorem rto_any (w : World) (x m : Int) : Calls Try.prog 51 #[.int .i64 x, .int .i64 m] w fun e w' => e = .returned (.bool (decide (0 ≤ x ∧ x ≤ m))) ∧ w' = w := by
  by_cases h0 : 0 ≤ x
  · by_cases h1 : x ≤ m
    · have HD : Hid (decide (0 ≤ x ∧ x ≤ m) = true) := decide_eq_true ⟨h0, h1⟩
      rw [HD.out]
      go_enter Try.func51, Try.ntmps51
      go_wp2
      go_ret
      exact ⟨by simp, rfl⟩
    · have HD : Hid (decide (0 ≤ x ∧ x ≤ m) = false) := decide_eq_false fun h => h1 h.2
      rw [HD.out]
      go_enter Try.func51, Try.ntmps51
      go_wp2
      go_ret
      exact ⟨by simp, rfl⟩
  · have HD : Hid (decide (0 ≤ x ∧ x ≤ m) = false) := decide_eq_false fun h => h0 h.1
    rw [HD.out]
    go_enter Try.func51, Try.ntmps51
    go_wp2
    go_ret
    exact ⟨by simp, rfl⟩
def InV (v : List Int) : Prop := ∀ x ∈ v, 0 ≤ x ∧ x ≤ 2147483647
instance (v : List Int) : Decidable (InV v) := by unfold InV; infer_instance
def rightV (v : List Int) : Bool := decide (InV v) && (decide (v.length ≤ 7) && (decide (v.length = 0) || decide (v.getD (v.length - 1) 0 ≠ 0)))
set_option maxRecDepth 100000 in
set_option maxHeartbeats 1000000 in
theorem rvector_any (w : World) (ao : Option Addr) (cap : Nat) (v : List Int) (n : Nat) (hn : v.length = n) (h : HV w ao cap v) :
    Calls Try.prog 52 #[.slice ao n cap] w fun e w' => e = .returned (.bool (rightV v)) ∧ w' = w := by
  have HN := hid hn
  have H := hid h
  have hfew := h.few
  rw [hn] at hfew
  have HT := hid (fun x => rto_any w x 2147483647)
  clear hn h
  go_enter Try.func52, Try.ntmps52
  go_wp2
  go_loop [3] (fun x => ∃ k : Nat, k ≤ n ∧ x = .int .i64 k ∧ Hid (∀ a, a < k → 0 ≤ v.getD a 0 ∧ v.getD a 0 ≤ 2147483647)) (fun x => n - (intOf x).toNat)
  case atStart => exact ⟨0, Nat.zero_le _, rfl, fun a ha => absurd ha (Nat.not_lt_zero _)⟩
  case round =>
    obtain ⟨k, hk, rfl, HA⟩ := hrel
    by_cases hlt : k < n
    · have hlt' : (k : Int) < (n : Int) := by omega
      have hkx : Hid (k < v.length) := (by rw [HN.out]; exact hlt : k < v.length)
      have HKM : Hid (k + 1 ≤ n) := (by omega : k + 1 ≤ n)
      rcases H.out.held.2 with h0 | ⟨b, off, hao, hb, hc⟩
      · exfalso
        have := hkx.out
        rw [h0] at this
        cases this
      have gk := hc k hkx.out
      subst hao
      clear hc
      obtain ⟨X, HX⟩ : ∃ X, Hid (v.getD k 0 = X) := ⟨_, hid rfl⟩
      rw [HX.out] at gk
      go_wp2_with fail
      refine (HT.out X).mono ?_
      rintro e w' ⟨rfl, rfl⟩
      by_cases hr : 0 ≤ X ∧ X ≤ 2147483647
      · rw [decide_eq_true hr]
        have HRR := hid hr
        clear hr
        go_wp2
        go_round
        case rel =>
          refine ⟨k + 1, HKM.out, by go_num, fun a hak => ?_⟩
          by_cases e : a = k
          · subst e
            rw [HX.out]
            exact HRR.out
          · exact HA.out a (by omega)
        case measure => simp [intOf]; have := HKM.out; omega
      · rw [decide_eq_false hr]
        have HV0 : Hid (rightV v = false) := by
          show _ = _
          unfold rightV
          rw [decide_eq_false (fun hh => hr (by have := hh _ (List.getElem_mem hkx.out); rw [show v[k]'hkx.out = X by rw [← HX.out]; simp [List.getD, List.getElem?_eq_getElem hkx.out]] at this; exact this)), Bool.false_and]
        clear hr
        go_wp2
        go_ret
        exact ⟨by rw [HV0.out]; rfl, rfl⟩
    · have hlt' : ¬ (k : Int) < (n : Int) := by omega
      have HIN : Hid (rightV v = (decide (n ≤ 7) && (decide (n = 0) || decide (v.getD (n - 1) 0 ≠ 0)))) := by
        have h1 : InV v := fun x hx => by
          obtain ⟨a, ha, rfl⟩ := List.mem_iff_getElem.1 hx
          have := HA.out a (by have := HN.out; omega)
          simp only [List.getD, List.getElem?_eq_getElem ha, Option.getD] at this
          exact this
        show _ = _
        unfold rightV
        rw [decide_eq_true h1, Bool.true_and, HN.out]
      by_cases h7 : n ≤ 7
      rotate_left 1
      · have h7' : ¬ (n : Int) ≤ 7 := by omega
        have HF : Hid (rightV v = false) := by show _ = _; rw [HIN.out, decide_eq_false h7, Bool.false_and]
        go_wp2
        go_ret
        exact ⟨by rw [HF.out]; rfl, rfl⟩
      have h7' : (n : Int) ≤ 7 := by omega
      by_cases h0 : n = 0
      · have HF : Hid (rightV v = true) := by show _ = _; rw [HIN.out, decide_eq_true h7, decide_eq_true h0]; rfl
        subst h0
        go_wp2
        go_ret
        exact ⟨by rw [HF.out]; rfl, rfl⟩
      · have h0' : ¬ (n : Int) = 0 := by omega
        have hb0 : ((n : Int) == 0) = false := by simpa using h0'
        obtain ⟨X, HX⟩ : ∃ X, Hid (v.getD (n - 1) 0 = X) := ⟨_, hid rfl⟩
        have HF : Hid (rightV v = decide (X ≠ 0)) := by show _ = _; rw [HIN.out, HX.out, decide_eq_true h7, decide_eq_false h0, Bool.true_and, Bool.false_or]
        have hnx : Hid (n - 1 < v.length) := (by rw [HN.out]; omega : n - 1 < v.length)
        rcases H.out.held.2 with hn0 | ⟨b, off, hao, hb, hc⟩
        · exfalso
          have := hnx.out
          rw [hn0] at this
          cases this
        have gk := hc (n - 1) hnx.out
        subst hao
        clear hc HIN
        rw [HX.out] at gk
        obtain ⟨j, rfl⟩ : ∃ j, n = j + 1 := ⟨n - 1, by omega⟩
        rw [Nat.add_sub_cancel] at gk
        have hsub : IntKind.i64.wrap (((j + 1 : Nat) : Int) - 1) = (j : Int) := by rw [IntKind.wrap_i64]; omega
        have hjlt : (j : Int) < ((j + 1 : Nat) : Int) := by omega
        go_wp2
        go_ret
        exact ⟨by rw [HF.out]; refine ret_bool ?_; by_cases h : X = 0; (subst h; rfl); (simp [h]; try rfl), rfl⟩
def RightSl (s : Sl) : Bool := nameS s.tok && (nameS s.cart && (decide (0 ≤ s.ep ∧ s.ep ≤ 2147483647) && rightV s.cut))
set_option maxRecDepth 100000 in
set_option maxHeartbeats 1000000 in
theorem rseal_any (w : World) (x : SlM) (hx : SlOk w x) :
    Calls Try.prog 40 #[x.val] w fun e w' => e = .returned (.bool (RightSl x.e)) ∧ Below w.heap.size w w' := by
  obtain ⟨⟨tok, cart, ep, cut⟩, ao1, cap1⟩ := x
  obtain ⟨XN, HXN⟩ : ∃ m, Hid (cut.length = m) := ⟨_, hid rfl⟩
  simp only [SlM.val]
  rw [HXN.out]
  have HB : Hid (Below w.heap.size w (w.alloc (.cells #[.string tok, .string cart, .int .i64 ep, .slice ao1 XN cap1] 37))) := (Below.refl _ _).alloc (Nat.le_refl _) _
  have hk := Blk.new w 37 [.string tok, .string cart, .int .i64 ep, .slice ao1 XN cap1]
  have c0 := hk.cell (i := 0) rfl
  have c1 := hk.cell (i := 1) rfl
  have c2 := hk.cell (i := 2) rfl
  have c3 := hk.cell (i := 3) rfl
  have HN1 := hid (fun V => refName_any tok V hx.ht)
  have HN2 := hid (fun V => refName_any cart V hx.hc)
  have HT := hid (fun V => rto_any V ep 2147483647)
  have HV' := hid (rvector_any (w.alloc (.cells #[.string tok, .string cart, .int .i64 ep, .slice ao1 XN cap1] 37)) ao1 cap1 cut XN HXN.out (hx.cut.below HB.out))
  have HR : Hid (RightSl ⟨tok, cart, ep, cut⟩ = (nameS tok && (nameS cart && (decide (0 ≤ ep ∧ ep ≤ 2147483647) && rightV cut)))) := rfl
  rw [HR.out]
  obtain ⟨b1, HB1⟩ : ∃ b, Hid (nameS tok = b) := ⟨_, hid rfl⟩
  obtain ⟨b2, HB2⟩ : ∃ b, Hid (nameS cart = b) := ⟨_, hid rfl⟩
  obtain ⟨b3, HB3⟩ : ∃ b, Hid (decide (0 ≤ ep ∧ ep ≤ 2147483647) = b) := ⟨_, hid rfl⟩
  obtain ⟨b4, HB4⟩ : ∃ b, Hid (rightV cut = b) := ⟨_, hid rfl⟩
  rw [HB1.out] at HN1 ⊢
  rw [HB2.out] at HN2 ⊢
  rw [HB3.out] at HT ⊢
  rw [HB4.out] at HV' ⊢
  clear hk hx HB1 HB2 HB3 HB4 HR
  cases b1
  · go_enter Try.func40, Try.ntmps40
    go_wp2_with fail
    refine (HN1.out _).mono ?_
    rintro e w' ⟨rfl, rfl⟩
    go_wp2
    go_ret
    exact ⟨rfl, HB.out⟩
  cases b2
  · go_enter Try.func40, Try.ntmps40
    go_wp2_with fail
    refine (HN1.out _).mono ?_
    rintro e w' ⟨rfl, rfl⟩
    go_wp2_with fail
    refine (HN2.out _).mono ?_
    rintro e w' ⟨rfl, rfl⟩
    go_wp2
    go_ret
    exact ⟨rfl, HB.out⟩
  cases b3
  · go_enter Try.func40, Try.ntmps40
    go_wp2_with fail
    refine (HN1.out _).mono ?_
    rintro e w' ⟨rfl, rfl⟩
    go_wp2_with fail
    refine (HN2.out _).mono ?_
    rintro e w' ⟨rfl, rfl⟩
    go_wp2_with fail
    refine (HT.out _).mono ?_
    rintro e w' ⟨rfl, rfl⟩
    go_wp2
    go_ret
    exact ⟨rfl, HB.out⟩
  go_enter Try.func40, Try.ntmps40
  go_wp2_with fail
  refine (HN1.out _).mono ?_
  rintro e w' ⟨rfl, rfl⟩
  go_wp2_with fail
  refine (HN2.out _).mono ?_
  rintro e w' ⟨rfl, rfl⟩
  go_wp2_with fail
  refine (HT.out _).mono ?_
  rintro e w' ⟨rfl, rfl⟩
  go_wp2_with fail
  refine HV'.out.mono ?_
  rintro e w' ⟨rfl, rfl⟩
  go_wp2
  go_ret
  exact ⟨rfl, HB.out⟩
end Go.Proofs.Ytfokmldfnkonpaa
