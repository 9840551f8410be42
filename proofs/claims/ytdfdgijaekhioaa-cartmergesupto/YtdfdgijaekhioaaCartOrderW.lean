/-
  pannierlaw11.CartOrder answers true for any events of bulk at most 1048576.
-/
import Derived.Test.YtdfdgijaekhioaaCartS
namespace Go.Proofs.Ytdfdgijaekhioaa
open Go.RowKit Go.Maps

/-- The events from the end on, turned by K. -/
def turnE (xs : List EvM) (K : Nat) (i : Nat) : List EvM := (List.range i).map fun j => xs.getD (xs.length - 1 - (j + K) % xs.length) zeroEM
theorem turnE_len (xs : List EvM) (K i : Nat) : (turnE xs K i).length = i := by simp [turnE]
theorem turnE_succ {xs : List EvM} {K i : Nat} {X : EvM} (hX : xs.getD (xs.length - 1 - (i + K) % xs.length) zeroEM = X) : turnE xs K (i + 1) = turnE xs K i ++ [X] := by
  unfold turnE
  rw [List.range_succ, List.map_append, ← hX]
  rfl
theorem turnE_sub {xs : List EvM} {K i : Nat} (h0 : 0 < xs.length) : ∀ x ∈ turnE xs K i, x ∈ xs := by
  intro x hx
  obtain ⟨j, _, rfl⟩ := List.mem_map.1 hx
  have hlt : xs.length - 1 - (j + K) % xs.length < xs.length := by omega
  simp [List.getD, List.getElem?_eq_getElem hlt]
theorem turnE_has {xs : List EvM} {K : Nat} (hK : K < xs.length) : ∀ x ∈ xs, x ∈ turnE xs K xs.length := by
  intro x hx
  obtain ⟨a, ha, rfl⟩ := List.mem_iff_getElem.1 hx
  have hn : 0 < xs.length := by omega
  have hm := Nat.mod_lt (xs.length - 1 - a + (xs.length - K)) hn
  refine List.mem_map.2 ⟨(xs.length - 1 - a + (xs.length - K)) % xs.length, List.mem_range.2 hm, ?_⟩
  have e : ((xs.length - 1 - a + (xs.length - K)) % xs.length + K) % xs.length = xs.length - 1 - a := by
    rw [Nat.mod_add_mod, show xs.length - 1 - a + (xs.length - K) + K = xs.length - 1 - a + xs.length by omega, Nat.add_mod_right, Nat.mod_eq_of_lt (by omega)]
  rw [e, show xs.length - 1 - (xs.length - 1 - a) = a by omega]
  simp [List.getD, List.getElem?_eq_getElem ha]
theorem order_q {xs ys : List EvM} (h : OneEach (xs.map (·.e))) (hs : ∀ x, x ∈ xs ↔ x ∈ ys) (c : ByteArray) : linesQ c (xs.map (·.e)) = linesQ c (ys.map (·.e)) := by
  funext k
  refine linesQ_set h (fun e => ?_) c k
  simp only [List.mem_map]
  constructor
  · rintro ⟨x, hx, rfl⟩
    exact ⟨x, (hs x).1 hx, rfl⟩
  · rintro ⟨x, hx, rfl⟩
    exact ⟨x, (hs x).2 hx, rfl⟩
/-- cart.Same of lines that tell the same. -/
theorem same_at {f : ByteArray → Int} {V : World} {lo ro : Option Addr} {ln rn : Nat} (lc rc : Nat) (h : LinesAt f V lo ln) (h' : LinesAt f V ro rn) :
    Calls Try.prog 11 #[.slice lo ln lc, .slice ro rn rc] V fun e w' => e = .returned (.bool true) ∧ ∃ q, w' = V.drewN q := by
  obtain ⟨ls, h1, h2, h3, h4⟩ := h
  obtain ⟨rs, g1, g2, g3, g4⟩ := h'
  obtain rfl := linesOf_unique h1 g1 (fun _ => rfl)
  have := sameL_any V lo ro lc rc ls ls ln rn h2 g2 (by omega) h4 g4
  rw [decide_eq_true rfl] at this
  exact this
set_option maxRecDepth 1000000 in
set_option maxHeartbeats 4000000 in
theorem cartOrder_walk (ao : Option Addr) (cap : Nat) (xs : List EvM) (name : ByteArray) (by_ : Int) (w : World) (h : HeldE w ao xs) (hl : xs.length ≤ 1048576) (hd : ∀ x ∈ xs, x.e.deps.length ≤ 1048576) (_ : name.size ≤ maxLen) (_ : -9223372036854775808 ≤ by_ ∧ by_ ≤ 9223372036854775807) (hcap : xs.length ≤ cap) :
    Calls Try.prog 3 #[.slice ao xs.length cap, .string name, .int .i64 by_] w fun e w' => e = .returned (.bool true) ∧ Below w.heap.size w w' := by
  obtain ⟨n, HN⟩ : ∃ n, Hid (xs.length = n) := ⟨_, hid rfl⟩
  rw [HN.out] at hl hcap ⊢
  have H := hid h
  have HD := hid hd
  have HLV := hid (lives11_any w)
  clear h hd
  go_enter Try.func3, Try.ntmps3
  go_wp2_with fail
  refine HLV.out.mono ?_
  rintro e w1 ⟨rfl, hb⟩
  have HB1 := hid hb
  have HRT := hid (right_any w1 ao cap xs n HN.out (H.out.below HB1.out) (by omega))
  clear hb HLV
  go_wp2_with fail
  refine HRT.out.mono ?_
  rintro e w2 ⟨⟨r, rfl, hr⟩, hb⟩
  have HB2 := hid (bt HB1.out hb)
  have HR := hid hr
  clear hb hr HRT
  cases r
  · go_wp2
    go_ret
    exact ⟨rfl, HB2.out⟩
  by_cases hn0 : n = 0
  · subst hn0
    go_wp2
    go_ret
    exact ⟨rfl, HB2.out⟩
  have HRL := hid (HR.out.1 rfl)
  clear HR
  have hn1 : ((n : Int) == 0) = false := by simp; omega
  have hn2 : (0 : Int) < (n : Int) := by omega
  by_cases hp : 0 ≤ by_
  · obtain ⟨K, hK, HK⟩ : ∃ K : Nat, by_ % (n : Int) = (K : Int) ∧ Hid (K < n) := by
      have h1 := Int.emod_nonneg by_ (show (n : Int) ≠ 0 by omega)
      have h2 := Int.emod_lt_of_pos by_ hn2
      exact ⟨(by_ % (n : Int)).toNat, by omega, (by omega : (by_ % (n : Int)).toNat < n)⟩
    go_wp2
    rw [hK]
    clear hK
    have HAK : Hid (∀ V, Below w2.heap.size w2 V → AllOk V xs) := fun V hV => (H.out.1.below HB2.out).below hV
    have hKn : K < n := HK.out
    have HKX : Hid (K < xs.length) := by show _ < _; rw [HN.out]; exact hKn
    go_loopw [8, 9] (fun out x wr => ∃ i : Nat, i ≤ n ∧ x = .int .i64 i ∧ Hid (wr.ownsRow w2.heap.size 29 8 out i (flatE (turnE xs K i)) ∧ Below w2.heap.size w2 wr)) (fun _ x _ => n - (intOf x).toNat)
    case atStart => exact ⟨0, Nat.zero_le _, rfl, World.ownsRow_nil _ _ _ _, Below.refl _ _⟩
    case round =>
      obtain ⟨i, hi, rfl, HI⟩ := hrel
      by_cases hlt : i < n
      · have hlt' : (i : Int) < (n : Int) := by omega
        obtain ⟨m, hm⟩ : ∃ m, m = (i + K) % n := ⟨_, rfl⟩
        have hmn : m < n := by rw [hm]; exact Nat.mod_lt _ (by omega)
        have hmod : ((i : Int) + (K : Int)) % (n : Int) = (m : Int) := by rw [hm]; simp
        obtain ⟨J, hJ⟩ : ∃ J, J = n - 1 - m := ⟨_, rfl⟩
        have hJn : (J : Int) < (n : Int) := by omega
        have hJi : (n : Int) - 1 - (m : Int) = (J : Int) := by omega
        have hJx : Hid (J < xs.length) := by show _ < _; rw [HN.out]; omega
        obtain ⟨bb, off, hao, _, g0, g1, g2, g3, g4, g5, g6, g7⟩ := ((H.out.below HB2.out).below HI.out.2).at hJx.out
        subst hao
        obtain ⟨X, HX⟩ : ∃ X, Hid (xs[J]'hJx.out = X) := ⟨_, hid rfl⟩
        rw [HX.out] at g0 g1 g2 g3 g4 g5 g6 g7
        have HTN : Hid (turnE xs K (i + 1) = turnE xs K i ++ [X]) := turnE_succ (by
          rw [HN.out, ← hm, ← hJ, ← HX.out]
          simp [List.getD, List.getElem?_eq_getElem hJx.out])
        have HIM : Hid (i + 1 ≤ n) := (by omega : i + 1 ≤ n)
        have HSZ : Hid (i < 1466015503701) := (by omega : i < 1466015503701)
        clear hm hJ hmn
        go_wp2_with (at_builtin; refine wpList_append_ev wr _ X rfl rfl _ _ rfl w2.heap.size _ (turnE xs K i) i (turnE_len _ _ _) rfl rfl HI.out.1 HI.out.2.size HSZ.out ?_; intro v' w3 hown hbel _; have HO3 := hid hown; have HB3 := hid (HI.out.2.trans hbel); clear hown hbel)
        clear g0 g1 g2 g3 g4 g5 g6 g7 hmod hJi hJn
        go_wp2
        go_roundw
        case rel => exact ⟨i + 1, HIM.out, by go_num, by rw [HTN.out]; exact HO3.out, HB3.out⟩
        case measure => simp [intOf]; have := HIM.out; omega
      · have hlt' : ¬ (i : Int) < (n : Int) := by omega
        obtain rfl : i = n := by omega
        have hcut := fun V => run_cutE V ao i cap K (by omega)
        have HTK : Hid (HeldE wr ao (xs.take K)) := ((H.out.below HB2.out).below HI.out.2).take K
        have HTL : Hid ((xs.take K).length = K) := by show _ = _; rw [List.length_take]; have := HKX.out; omega
        have hs2 : i + K ≤ 100000000 := by omega
        have HSUB : Hid (∀ x, x ∈ xs ↔ x ∈ turnE xs K i ++ xs.take K) := fun x => by
          constructor
          · intro hx
            have := turnE_has HKX.out x hx
            rw [HN.out] at this
            exact List.mem_append_left _ this
          · intro hx
            rcases List.mem_append.1 hx with hx | hx
            · exact turnE_sub (by have := HKX.out; omega) x hx
            · exact List.mem_of_mem_take hx
        have HOKK : Hid (∀ V, Below w2.heap.size wr V → AllOk V (turnE xs K i ++ xs.take K)) := fun V hV x hx => HAK.out V (HI.out.2.trans hV) x ((HSUB.out x).2 hx)
        go_wp2_with (at_builtin; refine wpList_append_evs rfl _ _ rfl w2.heap.size _ i (turnE xs K i) (turnE_len _ _ _) rfl HI.out.1 ao K cap (xs.take K) HTL.out rfl HTK.out hs2 HI.out.2.size HOKK.out ?_; intro bo cp w3 _ hheld hbel; have HH3 := hid hheld; have HB3 := hid (HI.out.2.trans hbel); clear hheld hbel)
        clear hcut
        obtain ⟨f, hf⟩ : ∃ f, linesQ name (xs.map (·.e)) = f := ⟨_, rfl⟩
        have HF2 : Hid (linesQ name ((turnE xs K i ++ xs.take K).map (·.e)) = f) := by show _ = _; rw [← hf]; exact (order_q HRL.out.2 HSUB.out name).symm
        have HF := hid hf
        clear hf
        have HQ : Hid (∀ x ∈ xs, 0 ≤ x.e.qty ∧ x.e.qty ≤ 1000) := fun x hx => HRL.out.1 _ (List.mem_map.2 ⟨x, hx, rfl⟩)
        have HL1 := hid (lines_at (Sc.start w3) ao cap xs i HN.out ((H.out.below HB2.out).below HB3.out) (by omega) HD.out HQ.out name HF.out)
        have HL2 := hid (fun V (hV : Below w3.heap.size w3 V) => lines_at (Sc.start V) bo cp (turnE xs K i ++ xs.take K) (i + K) (by rw [List.length_append, turnE_len, HTL.out]) (HH3.out.below hV) (by omega) (fun x hx => HD.out x ((HSUB.out x).2 hx)) (fun x hx => HQ.out x ((HSUB.out x).2 hx)) name HF2.out)
        go_wp2_with fail
        refine HL1.out.mono ?_
        rintro e w4 ⟨lo, ln, lc, rfl, hat, hb4, _⟩
        have HAT := hid hat
        have HB4 := hid hb4
        clear hat hb4 HL1
        go_wp2_with fail
        refine (HL2.out _ HB4.out).mono ?_
        rintro e w5 ⟨ro, rn, rc, rfl, hat', hb5, _⟩
        have HAT2 := hid hat'
        have HAT1 := hid (HAT.out.below hb5)
        have HB5 := hid (bt (bt HB3.out HB4.out) hb5)
        clear hat' hb5 HL2 HAT
        go_wp2_with fail
        refine (same_at lc rc HAT1.out HAT2.out).mono ?_
        rintro e w6 ⟨rfl, q, rfl⟩
        go_wp2
        go_ret
        exact ⟨rfl, below_dn (bt HB2.out HB5.out) q⟩
  · obtain ⟨t, ht⟩ : ∃ t, by_.tmod (n : Int) = t := ⟨_, rfl⟩
    have h1 : -(n : Int) < t := by rw [← ht]; have := Int.lt_tmod_of_pos by_ hn2; omega
    have h2 : t ≤ 0 := by rw [← ht]; have := Int.tmod_nonneg (a := -by_) (n : Int) (by omega); rw [Int.neg_tmod] at this; omega
    by_cases h3 : t < 0
    · obtain ⟨K, hK⟩ : ∃ K : Nat, (t + (n : Int) : Int) = (K : Int) := ⟨(t + n).toNat, by omega⟩
      have HK : Hid (K < n) := (by omega : K < n)
      go_wp2
      try rw [hK]
      clear hK ht h1 h2 h3
      have HAK : Hid (∀ V, Below w2.heap.size w2 V → AllOk V xs) := fun V hV => (H.out.1.below HB2.out).below hV
      have hKn : K < n := HK.out
      have HKX : Hid (K < xs.length) := by show _ < _; rw [HN.out]; exact hKn
      go_loopw [8, 9] (fun out x wr => ∃ i : Nat, i ≤ n ∧ x = .int .i64 i ∧ Hid (wr.ownsRow w2.heap.size 29 8 out i (flatE (turnE xs K i)) ∧ Below w2.heap.size w2 wr)) (fun _ x _ => n - (intOf x).toNat)
      case atStart => exact ⟨0, Nat.zero_le _, rfl, World.ownsRow_nil _ _ _ _, Below.refl _ _⟩
      case round =>
        obtain ⟨i, hi, rfl, HI⟩ := hrel
        by_cases hlt : i < n
        · have hlt' : (i : Int) < (n : Int) := by omega
          obtain ⟨m, hm⟩ : ∃ m, m = (i + K) % n := ⟨_, rfl⟩
          have hmn : m < n := by rw [hm]; exact Nat.mod_lt _ (by omega)
          have hmod : ((i : Int) + (K : Int)) % (n : Int) = (m : Int) := by rw [hm]; simp
          obtain ⟨J, hJ⟩ : ∃ J, J = n - 1 - m := ⟨_, rfl⟩
          have hJn : (J : Int) < (n : Int) := by omega
          have hJi : (n : Int) - 1 - (m : Int) = (J : Int) := by omega
          have hJx : Hid (J < xs.length) := by show _ < _; rw [HN.out]; omega
          obtain ⟨bb, off, hao, _, g0, g1, g2, g3, g4, g5, g6, g7⟩ := ((H.out.below HB2.out).below HI.out.2).at hJx.out
          subst hao
          obtain ⟨X, HX⟩ : ∃ X, Hid (xs[J]'hJx.out = X) := ⟨_, hid rfl⟩
          rw [HX.out] at g0 g1 g2 g3 g4 g5 g6 g7
          have HTN : Hid (turnE xs K (i + 1) = turnE xs K i ++ [X]) := turnE_succ (by
            rw [HN.out, ← hm, ← hJ, ← HX.out]
            simp [List.getD, List.getElem?_eq_getElem hJx.out])
          have HIM : Hid (i + 1 ≤ n) := (by omega : i + 1 ≤ n)
          have HSZ : Hid (i < 1466015503701) := (by omega : i < 1466015503701)
          clear hm hJ hmn
          go_wp2_with (at_builtin; refine wpList_append_ev wr _ X rfl rfl _ _ rfl w2.heap.size _ (turnE xs K i) i (turnE_len _ _ _) rfl rfl HI.out.1 HI.out.2.size HSZ.out ?_; intro v' w3 hown hbel _; have HO3 := hid hown; have HB3 := hid (HI.out.2.trans hbel); clear hown hbel)
          clear g0 g1 g2 g3 g4 g5 g6 g7 hmod hJi hJn
          go_wp2
          go_roundw
          case rel => exact ⟨i + 1, HIM.out, by go_num, by rw [HTN.out]; exact HO3.out, HB3.out⟩
          case measure => simp [intOf]; have := HIM.out; omega
        · have hlt' : ¬ (i : Int) < (n : Int) := by omega
          obtain rfl : i = n := by omega
          have hcut := fun V => run_cutE V ao i cap K (by omega)
          have HTK : Hid (HeldE wr ao (xs.take K)) := ((H.out.below HB2.out).below HI.out.2).take K
          have HTL : Hid ((xs.take K).length = K) := by show _ = _; rw [List.length_take]; have := HKX.out; omega
          have hs2 : i + K ≤ 100000000 := by omega
          have HSUB : Hid (∀ x, x ∈ xs ↔ x ∈ turnE xs K i ++ xs.take K) := fun x => by
            constructor
            · intro hx
              have := turnE_has HKX.out x hx
              rw [HN.out] at this
              exact List.mem_append_left _ this
            · intro hx
              rcases List.mem_append.1 hx with hx | hx
              · exact turnE_sub (by have := HKX.out; omega) x hx
              · exact List.mem_of_mem_take hx
          have HOKK : Hid (∀ V, Below w2.heap.size wr V → AllOk V (turnE xs K i ++ xs.take K)) := fun V hV x hx => HAK.out V (HI.out.2.trans hV) x ((HSUB.out x).2 hx)
          go_wp2_with (at_builtin; refine wpList_append_evs rfl _ _ rfl w2.heap.size _ i (turnE xs K i) (turnE_len _ _ _) rfl HI.out.1 ao K cap (xs.take K) HTL.out rfl HTK.out hs2 HI.out.2.size HOKK.out ?_; intro bo cp w3 _ hheld hbel; have HH3 := hid hheld; have HB3 := hid (HI.out.2.trans hbel); clear hheld hbel)
          clear hcut
          obtain ⟨f, hf⟩ : ∃ f, linesQ name (xs.map (·.e)) = f := ⟨_, rfl⟩
          have HF2 : Hid (linesQ name ((turnE xs K i ++ xs.take K).map (·.e)) = f) := by show _ = _; rw [← hf]; exact (order_q HRL.out.2 HSUB.out name).symm
          have HF := hid hf
          clear hf
          have HQ : Hid (∀ x ∈ xs, 0 ≤ x.e.qty ∧ x.e.qty ≤ 1000) := fun x hx => HRL.out.1 _ (List.mem_map.2 ⟨x, hx, rfl⟩)
          have HL1 := hid (lines_at (Sc.start w3) ao cap xs i HN.out ((H.out.below HB2.out).below HB3.out) (by omega) HD.out HQ.out name HF.out)
          have HL2 := hid (fun V (hV : Below w3.heap.size w3 V) => lines_at (Sc.start V) bo cp (turnE xs K i ++ xs.take K) (i + K) (by rw [List.length_append, turnE_len, HTL.out]) (HH3.out.below hV) (by omega) (fun x hx => HD.out x ((HSUB.out x).2 hx)) (fun x hx => HQ.out x ((HSUB.out x).2 hx)) name HF2.out)
          go_wp2_with fail
          refine HL1.out.mono ?_
          rintro e w4 ⟨lo, ln, lc, rfl, hat, hb4, _⟩
          have HAT := hid hat
          have HB4 := hid hb4
          clear hat hb4 HL1
          go_wp2_with fail
          refine (HL2.out _ HB4.out).mono ?_
          rintro e w5 ⟨ro, rn, rc, rfl, hat', hb5, _⟩
          have HAT2 := hid hat'
          have HAT1 := hid (HAT.out.below hb5)
          have HB5 := hid (bt (bt HB3.out HB4.out) hb5)
          clear hat' hb5 HL2 HAT
          go_wp2_with fail
          refine (same_at lc rc HAT1.out HAT2.out).mono ?_
          rintro e w6 ⟨rfl, q, rfl⟩
          go_wp2
          go_ret
          exact ⟨rfl, below_dn (bt HB2.out HB5.out) q⟩
    · obtain ⟨K, hK⟩ : ∃ K : Nat, t = (K : Int) := ⟨0, by omega⟩
      subst hK
      have HK : Hid (K < n) := (by omega : K < n)
      have h4 : 0 ≤ (K : Int) := by omega
      go_wp2
      clear ht h1 h2 h3 h4
      have HAK : Hid (∀ V, Below w2.heap.size w2 V → AllOk V xs) := fun V hV => (H.out.1.below HB2.out).below hV
      have hKn : K < n := HK.out
      have HKX : Hid (K < xs.length) := by show _ < _; rw [HN.out]; exact hKn
      go_loopw [8, 9] (fun out x wr => ∃ i : Nat, i ≤ n ∧ x = .int .i64 i ∧ Hid (wr.ownsRow w2.heap.size 29 8 out i (flatE (turnE xs K i)) ∧ Below w2.heap.size w2 wr)) (fun _ x _ => n - (intOf x).toNat)
      case atStart => exact ⟨0, Nat.zero_le _, rfl, World.ownsRow_nil _ _ _ _, Below.refl _ _⟩
      case round =>
        obtain ⟨i, hi, rfl, HI⟩ := hrel
        by_cases hlt : i < n
        · have hlt' : (i : Int) < (n : Int) := by omega
          obtain ⟨m, hm⟩ : ∃ m, m = (i + K) % n := ⟨_, rfl⟩
          have hmn : m < n := by rw [hm]; exact Nat.mod_lt _ (by omega)
          have hmod : ((i : Int) + (K : Int)) % (n : Int) = (m : Int) := by rw [hm]; simp
          obtain ⟨J, hJ⟩ : ∃ J, J = n - 1 - m := ⟨_, rfl⟩
          have hJn : (J : Int) < (n : Int) := by omega
          have hJi : (n : Int) - 1 - (m : Int) = (J : Int) := by omega
          have hJx : Hid (J < xs.length) := by show _ < _; rw [HN.out]; omega
          obtain ⟨bb, off, hao, _, g0, g1, g2, g3, g4, g5, g6, g7⟩ := ((H.out.below HB2.out).below HI.out.2).at hJx.out
          subst hao
          obtain ⟨X, HX⟩ : ∃ X, Hid (xs[J]'hJx.out = X) := ⟨_, hid rfl⟩
          rw [HX.out] at g0 g1 g2 g3 g4 g5 g6 g7
          have HTN : Hid (turnE xs K (i + 1) = turnE xs K i ++ [X]) := turnE_succ (by
            rw [HN.out, ← hm, ← hJ, ← HX.out]
            simp [List.getD, List.getElem?_eq_getElem hJx.out])
          have HIM : Hid (i + 1 ≤ n) := (by omega : i + 1 ≤ n)
          have HSZ : Hid (i < 1466015503701) := (by omega : i < 1466015503701)
          clear hm hJ hmn
          go_wp2_with (at_builtin; refine wpList_append_ev wr _ X rfl rfl _ _ rfl w2.heap.size _ (turnE xs K i) i (turnE_len _ _ _) rfl rfl HI.out.1 HI.out.2.size HSZ.out ?_; intro v' w3 hown hbel _; have HO3 := hid hown; have HB3 := hid (HI.out.2.trans hbel); clear hown hbel)
          clear g0 g1 g2 g3 g4 g5 g6 g7 hmod hJi hJn
          go_wp2
          go_roundw
          case rel => exact ⟨i + 1, HIM.out, by go_num, by rw [HTN.out]; exact HO3.out, HB3.out⟩
          case measure => simp [intOf]; have := HIM.out; omega
        · have hlt' : ¬ (i : Int) < (n : Int) := by omega
          obtain rfl : i = n := by omega
          have hcut := fun V => run_cutE V ao i cap K (by omega)
          have HTK : Hid (HeldE wr ao (xs.take K)) := ((H.out.below HB2.out).below HI.out.2).take K
          have HTL : Hid ((xs.take K).length = K) := by show _ = _; rw [List.length_take]; have := HKX.out; omega
          have hs2 : i + K ≤ 100000000 := by omega
          have HSUB : Hid (∀ x, x ∈ xs ↔ x ∈ turnE xs K i ++ xs.take K) := fun x => by
            constructor
            · intro hx
              have := turnE_has HKX.out x hx
              rw [HN.out] at this
              exact List.mem_append_left _ this
            · intro hx
              rcases List.mem_append.1 hx with hx | hx
              · exact turnE_sub (by have := HKX.out; omega) x hx
              · exact List.mem_of_mem_take hx
          have HOKK : Hid (∀ V, Below w2.heap.size wr V → AllOk V (turnE xs K i ++ xs.take K)) := fun V hV x hx => HAK.out V (HI.out.2.trans hV) x ((HSUB.out x).2 hx)
          go_wp2_with (at_builtin; refine wpList_append_evs rfl _ _ rfl w2.heap.size _ i (turnE xs K i) (turnE_len _ _ _) rfl HI.out.1 ao K cap (xs.take K) HTL.out rfl HTK.out hs2 HI.out.2.size HOKK.out ?_; intro bo cp w3 _ hheld hbel; have HH3 := hid hheld; have HB3 := hid (HI.out.2.trans hbel); clear hheld hbel)
          clear hcut
          obtain ⟨f, hf⟩ : ∃ f, linesQ name (xs.map (·.e)) = f := ⟨_, rfl⟩
          have HF2 : Hid (linesQ name ((turnE xs K i ++ xs.take K).map (·.e)) = f) := by show _ = _; rw [← hf]; exact (order_q HRL.out.2 HSUB.out name).symm
          have HF := hid hf
          clear hf
          have HQ : Hid (∀ x ∈ xs, 0 ≤ x.e.qty ∧ x.e.qty ≤ 1000) := fun x hx => HRL.out.1 _ (List.mem_map.2 ⟨x, hx, rfl⟩)
          have HL1 := hid (lines_at (Sc.start w3) ao cap xs i HN.out ((H.out.below HB2.out).below HB3.out) (by omega) HD.out HQ.out name HF.out)
          have HL2 := hid (fun V (hV : Below w3.heap.size w3 V) => lines_at (Sc.start V) bo cp (turnE xs K i ++ xs.take K) (i + K) (by rw [List.length_append, turnE_len, HTL.out]) (HH3.out.below hV) (by omega) (fun x hx => HD.out x ((HSUB.out x).2 hx)) (fun x hx => HQ.out x ((HSUB.out x).2 hx)) name HF2.out)
          go_wp2_with fail
          refine HL1.out.mono ?_
          rintro e w4 ⟨lo, ln, lc, rfl, hat, hb4, _⟩
          have HAT := hid hat
          have HB4 := hid hb4
          clear hat hb4 HL1
          go_wp2_with fail
          refine (HL2.out _ HB4.out).mono ?_
          rintro e w5 ⟨ro, rn, rc, rfl, hat', hb5, _⟩
          have HAT2 := hid hat'
          have HAT1 := hid (HAT.out.below hb5)
          have HB5 := hid (bt (bt HB3.out HB4.out) hb5)
          clear hat' hb5 HL2 HAT
          go_wp2_with fail
          refine (same_at lc rc HAT1.out HAT2.out).mono ?_
          rintro e w6 ⟨rfl, q, rfl⟩
          go_wp2
          go_ret
          exact ⟨rfl, below_dn (bt HB2.out HB5.out) q⟩
end Go.Proofs.Ytdfdgijaekhioaa
