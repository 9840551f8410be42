/-
  pannierlaw11.CartPieces answers true for any events and vector of bulk at most 1048576.
-/
import Derived.Test.YtdfdgijaekhioaaCartT
import Derived.Test.YtdfdgijaekhioaaCartU
import Derived.Test.YtdfdgijaekhioaaCartS
namespace Go.Proofs.Ytdfdgijaekhioaa
open Go.RowKit Go.Maps

theorem count_bd {c : ByteArray} {l : List Ev} (h : ∀ e ∈ l, 0 ≤ e.qty ∧ e.qty ≤ 1000) : ∀ e ∈ countOf c l, 0 ≤ e.qty ∧ e.qty ≤ 1000 := fun e he => by
  have h1 := firstsFrom_sub _ _ e he
  exact h e (ofCart_mem.1 (standOf_mem.1 h1).1).1
theorem sumQ_bd : ∀ {l : List Ev}, (∀ e ∈ l, 0 ≤ e.qty ∧ e.qty ≤ 1000) → 0 ≤ sumQ l ∧ sumQ l ≤ 1000 * (l.length : Int)
  | [], _ => by simp [sumQ]
  | x :: r, h => by
    have h1 := h x (List.mem_cons_self ..)
    have h2 := sumQ_bd (l := r) fun e he => h e (List.mem_cons_of_mem _ he)
    unfold sumQ
    rw [List.length_cons]
    omega
theorem total_at {c : ByteArray} {l : List Ev} (hq : ∀ e ∈ l, 0 ≤ e.qty ∧ e.qty ≤ 1000) (hn : (countOf c l).length ≤ 4194304) {V : World} {lo : Option Addr} {ln : Nat} (lc : Nat) (h : LinesAt (linesQ c l) V lo ln) {q : Int} (he : sumQ (countOf c l) = q) :
    Calls Try.prog 20 #[.slice lo ln lc] V fun e w' => e = .returned (.int .i64 q) ∧ Below V.heap.size V w' := by
  obtain ⟨ls, h1, h2, h3, h4⟩ := h
  have := total_any V lo lc ls ln h2 h3 h4 (fun x hx => by
    have h5 := (h1.2 x.1 x.2).1 hx
    have h6 := qtyOf_le (k := x.1) (count_bd (c := c) hq)
    have h7 : x.2 = qtyOf x.1 (countOf c l) := h5.2
    omega)
  rw [total_lines (l := countOf c l) h1 (fun e he => (count_bd hq e he).1), he] at this
  exact this
theorem countOf_len (c : ByteArray) (xs : List EvM) : (countOf c (xs.map (·.e))).length ≤ xs.length := by
  rw [← countM_e, List.length_map]
  exact countM_len c xs
theorem take_filter {xs : List EvM} {k : Nat} (hk : k < xs.length) {X : EvM} (hX : xs[k] = X) (p : EvM → Bool) : (xs.take (k + 1)).filter p = (xs.take k).filter p ++ (if p X = true then [X] else []) := by
  rw [List.take_succ_eq_append_getElem hk, List.filter_append, hX]
  congr 1
  cases h : p X <;> simp [h]
def outB (v : List Int) (x : EvM) : Bool := !decide (HasV v x.e.o x.e.s)
set_option maxRecDepth 1000000 in
set_option maxHeartbeats 8000000 in
theorem cartPieces_walk (ao : Option Addr) (cap : Nat) (xs : List EvM) (vo : Option Addr) (vc : Nat) (v : List Int) (name sku : ByteArray) (w : World) (h : HeldE w ao xs) (hl : xs.length ≤ 1048576) (hd : ∀ x ∈ xs, x.e.deps.length ≤ 1048576) (hv : HV w vo vc v) (_ : v.length ≤ 1048576) (_ : name.size ≤ maxLen) (_ : sku.size ≤ maxLen) :
    Calls Try.prog 8 #[.slice ao xs.length cap, .slice vo v.length vc, .string name, .string sku] w fun e w' => e = .returned (.bool true) ∧ Below w.heap.size w w' := by
  obtain ⟨n, HN⟩ : ∃ n, Hid (xs.length = n) := ⟨_, hid rfl⟩
  obtain ⟨vn, HVN⟩ : ∃ n, Hid (v.length = n) := ⟨_, hid rfl⟩
  rw [HN.out] at hl ⊢
  rw [HVN.out]
  have H := hid h
  have HD := hid hd
  have HV0 := hid hv
  have HLV := hid (lives11_any w)
  clear h hd hv
  go_enter Try.func8, Try.ntmps8
  go_wp2_with fail
  refine HLV.out.mono ?_
  rintro e w1 ⟨rfl, hb⟩
  have HB1 := hid hb
  have HRT := hid (right_any w1 ao cap xs n HN.out (H.out.below HB1.out) (by omega))
  clear hb HLV
  go_wp2_with fail
  refine HRT.out.mono ?_
  rintro e w2 ⟨⟨r, rfl, hr⟩, hb⟩
  have HB2 := hid (bt HB1.out hb)
  have HR := hid hr
  clear hb hr HRT
  cases r
  · go_wp2
    go_ret
    exact ⟨rfl, HB2.out⟩
  have HRL := hid (HR.out.1 rfl)
  clear HR
  go_wp2
  go_loop [9] (fun x => ∃ k : Nat, k ≤ n ∧ x = .int .i64 k ∧ Hid (∀ a (ha : a < xs.length), a < k → xs[a].e.clears = false)) (fun x => n - (intOf x).toNat)
  case atStart => exact ⟨0, Nat.zero_le _, rfl, fun a _ ha => absurd ha (Nat.not_lt_zero _)⟩
  case round =>
    obtain ⟨k, hk, rfl, HA⟩ := hrel
    by_cases hlt : k < n
    · have hlt' : (k : Int) < (n : Int) := by omega
      have hkx : Hid (k < xs.length) := (by rw [HN.out]; exact hlt : k < xs.length)
      obtain ⟨bb, off, hao, _, _, _, _, _, _, _, _, g7⟩ := (H.out.below HB2.out).at hkx.out
      subst hao
      have HKM : Hid (k + 1 ≤ n) := (by omega : k + 1 ≤ n)
      obtain ⟨O, HOO⟩ : ∃ O, Hid ((xs[k]'hkx.out).e.clears = O) := ⟨_, hid rfl⟩
      rw [HOO.out] at g7
      cases O
      · go_wp2
        go_round
        case rel =>
          refine ⟨k + 1, HKM.out, by go_num, fun a ha hak => ?_⟩
          by_cases e : a = k
          · subst e
            exact HOO.out
          · exact HA.out a ha (by omega)
        case measure => simp [intOf]; have := HKM.out; omega
      · go_wp2
        go_ret
        exact ⟨rfl, HB2.out⟩
    · have hlt' : ¬ (k : Int) < (n : Int) := by omega
      have HNC : Hid (∀ e ∈ xs.map (·.e), e.clears = false) := fun f hf => by
        obtain ⟨x, hx, rfl⟩ := List.mem_map.1 hf
        obtain ⟨a, ha, rfl⟩ := List.mem_iff_getElem.1 hx
        exact HA.out a ha (by have := HN.out; omega)
      obtain ⟨cn, HCN⟩ : ∃ m, Hid ((cutM v xs).length = m) := ⟨_, hid rfl⟩
      have HCT := hid (ccut_any w2 ao cap xs n HN.out (H.out.below HB2.out) (by omega) vo vc v vn HVN.out (HV0.out.below HB2.out) cn HCN.out)
      clear HA
      go_wp2_with fail
      refine HCT.out.mono ?_
      rintro e w3 ⟨bo, cp, ys, rfl, hsame, hheld, hb3⟩
      have HSM := hid hsame
      have HY := hid hheld
      have HB3 := hid (bt HB2.out hb3)
      have HYL : Hid (ys.length = cn) := by
        have := congrArg List.length hsame
        simp at this
        show _ = _
        rw [this, HCN.out]
      clear hsame hheld hb3 HCT
      go_wp2
      go_loopw [11, 12] (fun out x wr => ∃ i m : Nat, i ≤ n ∧ x = .int .i64 i ∧ Hid (((xs.take i).filter (outB v)).length = m ∧ wr.ownsRow w3.heap.size 29 8 out m (flatE ((xs.take i).filter (outB v))) ∧ Below w3.heap.size w3 wr)) (fun _ x _ => n - (intOf x).toNat)
      case atStart => exact ⟨0, 0, Nat.zero_le _, rfl, rfl, World.ownsRow_nil _ _ _ _, Below.refl _ _⟩
      case round =>
        obtain ⟨i, m, hi, rfl, HI⟩ := hrel
        by_cases hlt2 : i < n
        · have hlt2' : (i : Int) < (n : Int) := by omega
          have hix : Hid (i < xs.length) := (by rw [HN.out]; exact hlt2 : i < xs.length)
          obtain ⟨bb, off, hao, hbb, g0, g1, _⟩ := ((H.out.below HB3.out).below HI.out.2.2).at hix.out
          subst hao
          have HIM : Hid (i + 1 ≤ n) := (by omega : i + 1 ≤ n)
          have HHS := hid (has_any wr vo vc v vn HVN.out ((HV0.out.below HB3.out).below HI.out.2.2) (xs[i]'hix.out).e.o (xs[i]'hix.out).e.s)
          have HCL := hid (fun V (hV : Below wr.heap.size wr V) => (((H.out.below HB3.out).below HI.out.2.2).below hV).at hix.out)
          have HML : Hid (m < 1466015503701) := by
            have h1 := HI.out.1
            have h2 := List.length_filter_le (outB v) (xs.take i)
            rw [List.length_take] at h2
            show m < _
            omega
          obtain ⟨X, HX⟩ : ∃ X, Hid (xs[i]'hix.out = X) := ⟨_, hid rfl⟩
          have HTF := hid (take_filter hix.out HX.out (outB v))
          rw [HX.out] at g0 g1 HHS HCL
          obtain ⟨r, HRR⟩ : ∃ r, Hid (decide (HasV v X.e.o X.e.s) = r) := ⟨_, hid rfl⟩
          rw [HRR.out] at HHS
          go_wp2_with fail
          refine HHS.out.mono ?_
          rintro e w4 ⟨rfl, hb4⟩
          have HROW4 := hid ((Turns.of_below (F := fun _ => False) hb4 (Nat.le_refl _)).row HI.out.2.1 (fun _ _ h => h))
          have HB4 := hid (bt HI.out.2.2 hb4)
          obtain ⟨bb', off', hao', _, f0, f1, f2, f3, f4, f5, f6, f7⟩ := HCL.out w4 hb4
          cases hao'
          clear hb4 g0 g1 HHS HCL
          cases r
          · have HTF2 : Hid ((xs.take (i + 1)).filter (outB v) = (xs.take i).filter (outB v) ++ [X]) := by
              have := HTF.out
              rw [if_pos (by unfold outB; rw [HRR.out]; rfl)] at this
              exact this
            go_wp2_with (at_builtin; refine wpList_append_ev w4 _ X rfl rfl _ _ rfl w3.heap.size _ ((xs.take i).filter (outB v)) m HI.out.1 rfl rfl HROW4.out HB4.out.size HML.out ?_; intro v' w5 hown hbel _; have HO5 := hid hown; have HB5 := hid (HB4.out.trans hbel); clear hown hbel)
            clear f0 f1 f2 f3 f4 f5 f6 f7
            go_wp2
            go_roundw
            case rel => exact ⟨i + 1, m + 1, HIM.out, by go_num, by rw [HTF2.out, List.length_append, HI.out.1]; rfl, by rw [HTF2.out]; exact HO5.out, HB5.out⟩
            case measure => simp [intOf]; have := HIM.out; omega
          · have HTF2 : Hid ((xs.take (i + 1)).filter (outB v) = (xs.take i).filter (outB v)) := by
              have := HTF.out
              rw [if_neg (by unfold outB; rw [HRR.out]; simp), List.append_nil] at this
              exact this
            clear f0 f1 f2 f3 f4 f5 f6 f7
            go_wp2
            go_roundw
            case rel => exact ⟨i + 1, m, HIM.out, by go_num, by rw [HTF2.out]; exact HI.out.1, by rw [HTF2.out]; exact HROW4.out, HB4.out⟩
            case measure => simp [intOf]; have := HIM.out; omega
        · have hlt2' : ¬ (i : Int) < (n : Int) := by omega
          obtain rfl : i = n := by omega
          have HALL : Hid (xs.take i = xs) := List.take_of_length_le (by rw [HN.out]; exact Nat.le_refl _)
          have HI2 := HI.out
          rw [HALL.out] at HI2
          obtain ⟨zs, HZ⟩ : ∃ zs, Hid (xs.filter (outB v) = zs) := ⟨_, hid rfl⟩
          rw [HZ.out] at HI2
          have HB5 := hid (bt HB3.out HI2.2.2)
          have HZS : Hid (∀ x ∈ zs, x ∈ xs) := fun x hx => by rw [← HZ.out] at hx; exact (List.mem_filter.1 hx).1
          obtain ⟨zo, zc, hzv, _, hzh⟩ := heldE_of_own HI2.1 HI2.2.1 (fun x hx => (H.out.1 x (HZS.out x hx)).below HB5.out)
          have HZH := hid hzh
          have HZL := hid HI2.1
          have HYH := hid (HY.out.below HI2.2.2)
          have HXH := hid (H.out.below HB5.out)
          subst hzv
          clear HI2 HI hzh
          have HYM : Hid (∀ e, e ∈ ys.map (·.e) ↔ e ∈ xs.map (·.e) ∧ decide (HasV v e.o e.s) = true) := fun e => by
            rw [HSM.out]
            simp only [cutM, List.mem_map, List.mem_filter]
            constructor
            · rintro ⟨x, ⟨h1, h2⟩, rfl⟩
              exact ⟨⟨x, h1, rfl⟩, h2⟩
            · rintro ⟨⟨x, h1, rfl⟩, h2⟩
              exact ⟨x, ⟨h1, h2⟩, rfl⟩
          have HZM : Hid (∀ e, e ∈ zs.map (·.e) ↔ e ∈ xs.map (·.e) ∧ decide (HasV v e.o e.s) = false) := fun e => by
            rw [← HZ.out]
            simp only [outB, List.mem_map, List.mem_filter, Bool.not_eq_true']
            constructor
            · rintro ⟨x, ⟨h1, h2⟩, rfl⟩
              exact ⟨⟨x, h1, rfl⟩, h2⟩
            · rintro ⟨⟨x, h1, rfl⟩, h2⟩
              exact ⟨x, ⟨h1, h2⟩, rfl⟩
          have HPM := hid (pieces_perm HRL.out.2 HNC.out (fun e => decide (HasV v e.o e.s)) HYM.out HZM.out name)
          have HQX : Hid (∀ x ∈ xs, 0 ≤ x.e.qty ∧ x.e.qty ≤ 1000) := fun x hx => HRL.out.1 _ (List.mem_map.2 ⟨x, hx, rfl⟩)
          have HQY : Hid (∀ x ∈ ys, 0 ≤ x.e.qty ∧ x.e.qty ≤ 1000) := fun x hx => HRL.out.1 _ ((HYM.out x.e).1 (List.mem_map.2 ⟨x, hx, rfl⟩)).1
          have HQZ : Hid (∀ x ∈ zs, 0 ≤ x.e.qty ∧ x.e.qty ≤ 1000) := fun x hx => HQX.out x (HZS.out x hx)
          have HDY : Hid (∀ x ∈ ys, x.e.deps.length ≤ 1048576) := fun x hx => by
            obtain ⟨y, hy, he⟩ := List.mem_map.1 ((HYM.out x.e).1 (List.mem_map.2 ⟨x, hx, rfl⟩)).1
            rw [← he]
            exact HD.out y hy
          have hcn : cn ≤ 1048576 := by have := HCN.out; have := List.length_filter_le (fun x : EvM => decide (HasV v x.e.o x.e.s)) xs; unfold cutM at *; have := HN.out; omega
          have hm : m ≤ 1048576 := by have h1 := HZL.out; rw [← HZ.out] at h1; have := List.length_filter_le (outB v) xs; have := HN.out; omega
          have HBX : Hid (∀ e ∈ xs.map (·.e), 0 ≤ e.qty ∧ e.qty ≤ 1000) := HRL.out.1
          have HBY : Hid (∀ e ∈ ys.map (·.e), 0 ≤ e.qty ∧ e.qty ≤ 1000) := fun e he => HRL.out.1 _ ((HYM.out e).1 he).1
          have HBZ : Hid (∀ e ∈ zs.map (·.e), 0 ≤ e.qty ∧ e.qty ≤ 1000) := fun e he => HRL.out.1 _ ((HZM.out e).1 he).1
          have HKX : Hid ((countOf name (xs.map (·.e))).length ≤ 4194304) := by have := countOf_len name xs; have := HN.out; show _ ≤ _; omega
          have HKY : Hid ((countOf name (ys.map (·.e))).length ≤ 4194304) := by have := countOf_len name ys; have := HYL.out; show _ ≤ _; omega
          have HKZ : Hid ((countOf name (zs.map (·.e))).length ≤ 4194304) := by have := countOf_len name zs; have := HZL.out; show _ ≤ _; omega
          have HPX : Hid (∀ s, 0 ≤ linesQ name (xs.map (·.e)) s) := linesQ_nonneg (fun e he => (HBX.out e he).1)
          have HPY : Hid (∀ s, 0 ≤ linesQ name (ys.map (·.e)) s) := linesQ_nonneg (fun e he => (HBY.out e he).1)
          have HPZ : Hid (∀ s, 0 ≤ linesQ name (zs.map (·.e)) s) := linesQ_nonneg (fun e he => (HBZ.out e he).1)
          obtain ⟨qy, HEY⟩ : ∃ q, Hid (linesQ name (ys.map (·.e)) sku = q) := ⟨_, hid rfl⟩
          obtain ⟨qz, HEZ⟩ : ∃ q, Hid (linesQ name (zs.map (·.e)) sku = q) := ⟨_, hid rfl⟩
          have HEX : Hid (linesQ name (xs.map (·.e)) sku = qy + qz) := by
            show _ = _
            rw [← HEY.out, ← HEZ.out]
            unfold linesQ
            rw [qtyOf_perm HPM.out, qtyOf_append]
          obtain ⟨ty, HSY⟩ : ∃ q, Hid (sumQ (countOf name (ys.map (·.e))) = q) := ⟨_, hid rfl⟩
          obtain ⟨tz, HSZ⟩ : ∃ q, Hid (sumQ (countOf name (zs.map (·.e))) = q) := ⟨_, hid rfl⟩
          have HSX : Hid (sumQ (countOf name (xs.map (·.e))) = ty + tz) := by
            show _ = _
            rw [← HSY.out, ← HSZ.out, sumQ_perm HPM.out, sumQ_append]
          have b1 : 0 ≤ qy ∧ qy ≤ 4194304000 := by
            have h1 := HPY.out sku
            have h2 := qtyOf_le (k := sku) (count_bd (c := name) HBY.out)
            have h3 := HKY.out
            have h4 : qtyOf sku (countOf name (ys.map (·.e))) = qy := HEY.out
            rw [HEY.out] at h1
            omega
          have b2 : 0 ≤ qz ∧ qz ≤ 4194304000 := by
            have h1 := HPZ.out sku
            have h2 := qtyOf_le (k := sku) (count_bd (c := name) HBZ.out)
            have h3 := HKZ.out
            have h4 : qtyOf sku (countOf name (zs.map (·.e))) = qz := HEZ.out
            rw [HEZ.out] at h1
            omega
          have b3 : 0 ≤ ty ∧ ty ≤ 4194304000 := by
            have h1 := sumQ_bd (count_bd (c := name) HBY.out)
            rw [HSY.out] at h1
            have h3 := HKY.out
            omega
          have b4 : 0 ≤ tz ∧ tz ≤ 4194304000 := by
            have h1 := sumQ_bd (count_bd (c := name) HBZ.out)
            rw [HSZ.out] at h1
            have h3 := HKZ.out
            omega
          obtain ⟨b1, b1'⟩ := b1
          obtain ⟨b2, b2'⟩ := b2
          obtain ⟨b3, b3'⟩ := b3
          obtain ⟨b4, b4'⟩ := b4
          have HLX := hid (fun V (hV : Below wr.heap.size wr V) => lines_at (Sc.start V) ao cap xs i HN.out (HXH.out.below hV) (by omega) HD.out HQX.out name rfl)
          have HLY := hid (fun V (hV : Below wr.heap.size wr V) => lines_at (Sc.start V) bo cp ys cn HYL.out (HYH.out.below hV) (by omega) HDY.out HQY.out name rfl)
          have HLZ := hid (fun V (hV : Below wr.heap.size wr V) => lines_at (Sc.start V) zo zc zs m HZL.out (HZH.out.below hV) (by omega) (fun x hx => HD.out x (HZS.out x hx)) HQZ.out name rfl)
          have HC := hid (Below.refl wr.heap.size wr)
          clear HPM HYM HZM HNC
          go_wp2_with fail
          refine (HLX.out _ HC.out).mono ?_
          rintro e wa ⟨lo, ln, lc, rfl, hat, hbl, _⟩
          have HAT := hid hat
          have HC1 := hid (bt HC.out hbl)
          clear hat hbl
          go_wp2_with fail
          refine (of11_at HPX.out lc HAT.out sku HEX.out).mono ?_
          rintro e wb ⟨rfl, rfl⟩
          have HC := HC1
          clear HC1 HAT
          go_wp2_with fail
          refine (HLY.out _ HC.out).mono ?_
          rintro e wa ⟨lo, ln, lc, rfl, hat, hbl, _⟩
          have HAT := hid hat
          have HC1 := hid (bt HC.out hbl)
          clear hat hbl
          go_wp2_with fail
          refine (of11_at HPY.out lc HAT.out sku HEY.out).mono ?_
          rintro e wb ⟨rfl, rfl⟩
          have HC := HC1
          clear HC1 HAT
          go_wp2_with fail
          refine (HLZ.out _ HC.out).mono ?_
          rintro e wa ⟨lo, ln, lc, rfl, hat, hbl, _⟩
          have HAT := hid hat
          have HC1 := hid (bt HC.out hbl)
          clear hat hbl
          go_wp2_with fail
          refine (of11_at HPZ.out lc HAT.out sku HEZ.out).mono ?_
          rintro e wb ⟨rfl, rfl⟩
          have HC := HC1
          clear HC1 HAT
          go_wp2_with fail
          refine (HLX.out _ HC.out).mono ?_
          rintro e wa ⟨lo, ln, lc, rfl, hat, hbl, _⟩
          have HAT := hid hat
          have HC1 := hid (bt HC.out hbl)
          clear hat hbl
          go_wp2_with fail
          refine (total_at HBX.out HKX.out lc HAT.out HSX.out).mono ?_
          rintro e wb ⟨rfl, hbl⟩
          have HC := hid (bt HC1.out hbl)
          clear hbl HC1 HAT
          go_wp2_with fail
          refine (HLY.out _ HC.out).mono ?_
          rintro e wa ⟨lo, ln, lc, rfl, hat, hbl, _⟩
          have HAT := hid hat
          have HC1 := hid (bt HC.out hbl)
          clear hat hbl
          go_wp2_with fail
          refine (total_at HBY.out HKY.out lc HAT.out HSY.out).mono ?_
          rintro e wb ⟨rfl, hbl⟩
          have HC := hid (bt HC1.out hbl)
          clear hbl HC1 HAT
          go_wp2_with fail
          refine (HLZ.out _ HC.out).mono ?_
          rintro e wa ⟨lo, ln, lc, rfl, hat, hbl, _⟩
          have HAT := hid hat
          have HC1 := hid (bt HC.out hbl)
          clear hat hbl
          go_wp2_with fail
          refine (total_at HBZ.out HKZ.out lc HAT.out HSZ.out).mono ?_
          rintro e wb ⟨rfl, hbl⟩
          have HC := hid (bt HC1.out hbl)
          clear hbl HC1 HAT
          go_wp2
          go_ret
          exact ⟨by simp, bt HB5.out HC.out⟩
end Go.Proofs.Ytdfdgijaekhioaa
