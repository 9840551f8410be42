/-
  pannierlaw11.CartAdds answers true for any events of bulk at most 1048576.
-/
import Derived.Test.YtdfdgijaekhioaaCartV
import Derived.BigQuiet
namespace Go.Proofs.Ytdfdgijaekhioaa
open Go.RowKit Go.Maps

/-- The loop's part: the vector of all that lies ahead. -/
structure Seens (w2 : World) (xs : List EvM) (k : Nat) (so : Option Addr) (sl sc : Nat) (sv : List Int) (wr : World) : Prop where
  len : sv.length = sl
  few : sl ≤ 7
  held : HV wr so sc sv
  below : Below w2.heap.size w2 wr
  all : ∀ a (ha : a < xs.length), a < k → SeenBy sv xs[a].e
set_option maxRecDepth 1000000 in
set_option maxHeartbeats 8000000 in
theorem cartAdds_walk (ao : Option Addr) (cap : Nat) (xs : List EvM) (name sku : ByteArray) (qty : Int) (w : World) (h : HeldE w ao xs) (hl : xs.length ≤ 1048576) (hd : ∀ x ∈ xs, x.e.deps.length ≤ 1048576) (hs0 : name.size ≤ maxLen) (hs1 : sku.size ≤ maxLen) (_ : -9223372036854775808 ≤ qty ∧ qty ≤ 9223372036854775807) :
    Calls Try.prog 5 #[.slice ao xs.length cap, .string name, .string sku, .int .i64 qty] w fun e w' => e = .returned (.bool true) ∧ Below w.heap.size w w' := by
  obtain ⟨n, HN⟩ : ∃ n, Hid (xs.length = n) := ⟨_, hid rfl⟩
  rw [HN.out] at hl ⊢
  have H := hid h
  have HD := hid hd
  have HS0 := hid hs0
  have HS1 := hid hs1
  have HLV := hid (lives11_any w)
  clear h hd hs0 hs1
  go_enter Try.func5, Try.ntmps5
  go_wp2_with fail
  refine HLV.out.mono ?_
  rintro e w1 ⟨rfl, hb⟩
  have HB1 := hid hb
  have HRT := hid (right_any w1 ao cap xs n HN.out (H.out.below HB1.out) (by omega))
  clear hb HLV
  go_wp2_with fail
  refine HRT.out.mono ?_
  rintro e w2 ⟨⟨r, rfl, hr⟩, hb⟩
  have HB2 := hid (bt HB1.out hb)
  have HR := hid hr
  clear hb hr HRT
  cases r
  · go_wp2
    go_ret
    exact ⟨rfl, HB2.out⟩
  by_cases hq : qty < 0
  · go_wp2
    go_ret
    exact ⟨rfl, HB2.out⟩
  by_cases hq1 : 1000 < qty
  · go_wp2
    go_ret
    exact ⟨rfl, HB2.out⟩
  have HRL := hid (HR.out.1 rfl)
  have HX2 := hid (H.out.below HB2.out)
  clear HR
  go_wp2
  go_loopw [9, 10, 11] (fun v x _ wr => ∃ (k : Nat) (so : Option Addr) (sl sc : Nat) (sv : List Int), k ≤ n ∧ x = .int .i64 k ∧ v = .slice so sl sc ∧ Hid (Seens w2 xs k so sl sc sv wr)) (fun _ x _ _ => n - (intOf x).toNat)
  case atStart => exact ⟨0, none, 0, 0, [], Nat.zero_le _, rfl, rfl, ⟨rfl, by omega, hv_none _ _, Below.refl _ _, fun a _ ha => absurd ha (Nat.not_lt_zero _)⟩⟩
  case round =>
    obtain ⟨k, so, sl, sc, sv, hk, rfl, rfl, HA⟩ := hrel
    by_cases hlt : k < n
    · have hlt' : (k : Int) < (n : Int) := by omega
      have hkx : Hid (k < xs.length) := (by rw [HN.out]; exact hlt : k < xs.length)
      obtain ⟨bb, off, hao, _, g0, g1, _⟩ := (HX2.out.below (HA.out.below.mono (Nat.le_refl _))).at hkx.out
      have HAO := hid hao
      obtain ⟨O, HOO⟩ : ∃ O, Hid ((xs[k]'hkx.out).e.o = O) := ⟨_, hid rfl⟩
      obtain ⟨S, HSS⟩ : ∃ S, Hid ((xs[k]'hkx.out).e.s = S) := ⟨_, hid rfl⟩
      obtain ⟨Y, HY⟩ : ∃ Y, Hid (ofV (xs[k]'hkx.out).e.deps 6 = Y) := ⟨_, hid rfl⟩
      obtain ⟨D, HDD⟩ : ∃ D, Hid ((xs[k]'hkx.out).e.deps.length = D) := ⟨_, hid rfl⟩
      obtain ⟨dao, HDA⟩ : ∃ D, Hid ((xs[k]'hkx.out).ao = D) := ⟨_, hid rfl⟩
      obtain ⟨dca, HDC⟩ : ∃ D, Hid ((xs[k]'hkx.out).cap = D) := ⟨_, hid rfl⟩
      rw [HOO.out] at g0
      rw [HSS.out] at g1
      have HKM : Hid (k + 1 ≤ n) := (by omega : k + 1 ≤ n)
      obtain ⟨W, hW⟩ : ∃ W, W = wr.alloc (.cells #[.int .i64 O, .int .i64 S] 26) := ⟨_, rfl⟩
      have HBW : Hid (Below wr.heap.size wr W) := by rw [hW]; exact (Below.refl _ _).alloc (Nat.le_refl _) _
      have HBA : Hid (Below w2.heap.size w2 W) := bt HA.out.below HBW.out
      obtain ⟨_, _, hao', _, _, _, g2, _⟩ := (HX2.out.below HBA.out).at hkx.out
      rw [HDA.out, HDC.out, HDD.out] at g2
      rw [hao] at hao'
      cases hao'
      have HK : Hid (Blk W wr.heap.size 26 [.int .i64 O, .int .i64 S]) := by rw [hW]; exact Blk.new wr _ _
      have hc0 := HK.out.cell (i := 0) rfl
      have hc1 := HK.out.cell (i := 1) rfl
      have HO : Hid (Calls Try.prog 15 #[.slice dao D dca, .int .i64 6] W fun e w' => e = .returned (.int .i64 Y) ∧ w' = W) := by
        have := of_any W (xs[k]'hkx.out).ao (xs[k]'hkx.out).cap (xs[k]'hkx.out).e.deps _ rfl 6 ((HX2.out.below HBA.out).1 _ (List.getElem_mem hkx.out)).deps.held
        rw [HDA.out, HDC.out, HDD.out, HY.out] at this
        exact this
      obtain ⟨Z, HZ⟩ : ∃ Z, Hid (ofV sv O = Z) := ⟨_, hid rfl⟩
      have HOQ : Hid (∀ q, Calls Try.prog 15 #[.slice so sl sc, .int .i64 O] (W.drewN q) fun e w' => e = .returned (.int .i64 Z) ∧ w' = W.drewN q) := fun q => by
        have := of_any (W.drewN q) so sc sv sl HA.out.len O ((HA.out.held.below HBW.out).dn q).held
        rw [HZ.out] at this
        exact this
      subst hao
      have HW := hid hW
      clear hW
      by_cases h1 : O < 0
      · rw [HW.out] at hc0 hc1 g2
        go_wp2
        go_ret
        exact ⟨rfl, by have := bt HB2.out HBA.out; rw [HW.out] at this; exact this⟩
      by_cases h2 : 5 < O
      · rw [HW.out] at hc0 hc1 g2
        go_wp2
        go_ret
        exact ⟨rfl, by have := bt HB2.out HBA.out; rw [HW.out] at this; exact this⟩
      by_cases h3 : S < 1
      · rw [HW.out] at hc0 hc1 g2
        go_wp2
        go_ret
        exact ⟨rfl, by have := bt HB2.out HBA.out; rw [HW.out] at this; exact this⟩
      by_cases h4 : 2147483646 < S
      · rw [HW.out] at hc0 hc1 g2
        go_wp2
        go_ret
        exact ⟨rfl, by have := bt HB2.out HBA.out; rw [HW.out] at this; exact this⟩
      rw [HW.out] at g2
      go_wp2_with fail
      rw [← HW.out] at g2 ⊢
      refine HO.out.mono ?_
      rintro e w3 ⟨rfl, hw3⟩
      rw [hw3]
      clear hw3 w3
      obtain ⟨K, HKO⟩ : ∃ K : Nat, Hid (O = K) := ⟨O.toNat, by show O = (O.toNat : Int); omega⟩
      by_cases hy : 0 < Y
      · go_wp2
        go_ret
        exact ⟨rfl, bt HB2.out HBA.out⟩
      have HNew : Hid (∀ su, (∀ a (ha : a < xs.length), a < k → SeenBy su xs[a].e) → S ≤ ofV su O → ∀ a (ha : a < xs.length), a < k + 1 → SeenBy su xs[a].e) := fun su hsu hS a ha hak => by
        by_cases e : a = k
        · subst e
          refine ⟨by rw [HOO.out]; omega, by rw [HOO.out]; omega, by rw [HSS.out]; omega, by rw [HY.out]; omega, ?_⟩
          rw [HSS.out, HOO.out]
          exact hS
        · exact hsu a ha (by omega)
      by_cases hz : Z < S
      · have HWT : Hid (∀ q, Calls Try.prog 16 #[.slice so sl sc, .int .i64 O, .int .i64 S] (W.drewN q) (AnsW (W.drewN q) (plainOf (withOf sv K S)))) := fun q => by
          have := with_good (W.drewN q) so sc sv sl HA.out.len ((HA.out.held.below HBW.out).dn q) K (by have := HKO.out; omega) S ⟨by omega, by omega⟩
          rw [← HKO.out] at this
          exact this
        have HFW : Hid ((plainOf (withOf sv K S)).length ≤ 7) := with_few (by rw [HA.out.len]; exact HA.out.few) (by have := HKO.out; omega) S
        have HSW : Hid (∀ a (ha : a < xs.length), a < k + 1 → SeenBy (plainOf (withOf sv K S)) xs[a].e) := HNew.out _ (fun a ha hak => seen_with (by rw [← HKO.out, HZ.out]; exact hz) (HA.out.all a ha hak)) (by rw [ofV_with _ _ _ _ (by omega), if_pos HKO.out]; exact Int.le_refl _)
        obtain ⟨zl, HZL⟩ : ∃ zl, Hid ((plainOf (withOf sv K S)).length = zl) := ⟨_, hid rfl⟩
        go_wp2
        go_quiet (first | (go_at_call 15; refine Calls.quiet_of_same (HOQ.out _)))
        go_wp2_with fail
        refine (HWT.out _).mono ?_
        rintro e w4 ⟨bo, cp, rfl, hv, hb4⟩
        rw [HZL.out]
        have HV4 := hid hv
        have HB4 := hid hb4
        clear hv hb4
        go_wp2
        go_roundw
        case rel =>
          exact ⟨k + 1, bo, zl, cp, _, HKM.out, by go_num, rfl, ⟨HZL.out, by rw [← HZL.out]; exact HFW.out, HV4.out, bt (below_dn HBA.out _) HB4.out, HSW.out⟩⟩
        case measure => simp [intOf]; have := HKM.out; omega
      · have HSW : Hid (∀ a (ha : a < xs.length), a < k + 1 → SeenBy sv xs[a].e) := HNew.out _ HA.out.all (by rw [HZ.out]; omega)
        go_wp2
        go_quiet (first | (go_at_call 15; refine Calls.quiet_of_same (HOQ.out _)))
        go_wp2
        go_roundw
        case rel =>
          exact ⟨k + 1, so, sl, sc, sv, HKM.out, by go_num, rfl, ⟨HA.out.len, HA.out.few, (HA.out.held.below HBW.out).dn _, below_dn HBA.out _, HSW.out⟩⟩
        case measure => simp [intOf]; have := HKM.out; omega
    · have hlt' : ¬ (k : Int) < (n : Int) := by omega
      have H6 : Hid (∀ f ∈ xs.map (·.e), SeenBy sv f) := fun f hf => by
        obtain ⟨x, hx, rfl⟩ := List.mem_map.1 hf
        obtain ⟨a, ha, rfl⟩ := List.mem_iff_getElem.1 hx
        exact HA.out.all a ha (by have := HN.out; omega)
      have HXR := hid (HX2.out.below HA.out.below)
      have HBR := hid (bt HB2.out HA.out.below)
      obtain ⟨W, hW⟩ : ∃ W, W = wr.alloc (.cells #[.int .i64 6, .int .i64 1, .slice so sl sc, .string name, .int .i64 0, .string sku, .int .i64 qty, .bool false] 29) := ⟨_, rfl⟩
      have HBW : Hid (Below wr.heap.size wr W) := by rw [hW]; exact (Below.refl _ _).alloc (Nat.le_refl _) _
      have HKW : Hid (Blk W wr.heap.size 29 [.int .i64 6, .int .i64 1, .slice so sl sc, .string name, .int .i64 0, .string sku, .int .i64 qty, .bool false]) := by rw [hW]; exact Blk.new wr _ _
      have HPE : Hid (wr.heap.size < W.heap.size) := by show _ < _; rw [hW]; simp
      have HW := hid hW
      clear hW
      obtain ⟨Xa, hXa⟩ : ∃ X : EvM, X = ⟨sx sv name sku qty false, so, sc⟩ := ⟨_, rfl⟩
      obtain ⟨Xb, hXb⟩ : ∃ X : EvM, X = ⟨sx sv name sku qty true, so, sc⟩ := ⟨_, rfl⟩
      have HXCa : Hid (Xa.cells = [.int .i64 6, .int .i64 1, .slice so sl sc, .string name, .int .i64 0, .string sku, .int .i64 qty, .bool false]) := by show _ = _; rw [hXa, ← HA.out.len]; rfl
      have HXCb : Hid (Xb.cells = [.int .i64 6, .int .i64 1, .slice so sl sc, .string name, .int .i64 0, .string sku, .int .i64 qty, .bool true]) := by show _ = _; rw [hXb, ← HA.out.len]; rfl
      have HXOa : Hid (EvOk wr Xa) := by rw [hXa]; exact ⟨HA.out.held, by unfold I64; simp [sx], by unfold I64; simp [sx], by unfold I64; simp [sx], i64_small (x := qty) (by omega) (by omega), HS0.out, HS1.out⟩
      have HXOb : Hid (EvOk wr Xb) := by rw [hXb]; exact ⟨HA.out.held, by unfold I64; simp [sx], by unfold I64; simp [sx], by unfold I64; simp [sx], i64_small (x := qty) (by omega) (by omega), HS0.out, HS1.out⟩
      have HXEa : Hid (Xa.e = sx sv name sku qty false) := by show _ = _; rw [hXa]
      have HXEb : Hid (Xb.e = sx sv name sku qty true) := by show _ = _; rw [hXb]
      clear hXa hXb
      have hnn : n + 1 ≤ 100000000 := by omega
      have hn0 : n ≤ 100000000 := by omega
      have HSL : Hid (sv.length ≤ 1048576) := by have h1 := HA.out.few; have h2 := HA.out.len; show _ ≤ _; omega
      have HDX : Hid (∀ X : EvM, X.e.deps = sv → ∀ x ∈ xs ++ [X], x.e.deps.length ≤ 1048576) := fun X hX x hx => by
        rcases List.mem_append.1 hx with hx | hx
        · exact HD.out x hx
        · rw [List.mem_singleton.1 hx, hX]
          exact HSL.out
      have HQX : Hid (∀ X : EvM, X.e.qty = qty → ∀ x ∈ xs ++ [X], 0 ≤ x.e.qty ∧ x.e.qty ≤ 1000) := fun X hX x hx => by
        rcases List.mem_append.1 hx with hx | hx
        · exact HRL.out.1 _ (List.mem_map.2 ⟨x, hx, rfl⟩)
        · rw [List.mem_singleton.1 hx, hX]
          exact ⟨by omega, by omega⟩
      have HQ0 : Hid (∀ x ∈ xs, 0 ≤ x.e.qty ∧ x.e.qty ≤ 1000) := fun x hx => HRL.out.1 _ (List.mem_map.2 ⟨x, hx, rfl⟩)
      have HQa := hid (HQX.out Xa (by rw [HXEa.out]; rfl))
      have HQb := hid (HQX.out Xb (by rw [HXEb.out]; rfl))
      have HDa := hid (HDX.out Xa (by rw [HXEa.out]; rfl))
      have HDb := hid (HDX.out Xb (by rw [HXEb.out]; rfl))
      obtain ⟨fa, hfa⟩ : ∃ f, linesQ name ((xs ++ [Xa]).map (·.e)) = f := ⟨_, rfl⟩
      obtain ⟨fb, hfb⟩ : ∃ f, linesQ name ((xs ++ [Xb]).map (·.e)) = f := ⟨_, rfl⟩
      obtain ⟨f2, hf2⟩ : ∃ f, linesQ name (xs.map (·.e)) = f := ⟨_, rfl⟩
      have HPa : Hid (∀ s, 0 ≤ fa s) := fun s => by rw [← hfa]; exact linesQ_nonneg (fun e he => by obtain ⟨x, hx, rfl⟩ := List.mem_map.1 he; exact (HQa.out x hx).1) s
      have HPb : Hid (∀ s, 0 ≤ fb s) := fun s => by rw [← hfb]; exact linesQ_nonneg (fun e he => by obtain ⟨x, hx, rfl⟩ := List.mem_map.1 he; exact (HQb.out x hx).1) s
      have HP2 : Hid (∀ s, 0 ≤ f2 s) := fun s => by rw [← hf2]; exact linesQ_nonneg (fun e he => by obtain ⟨x, hx, rfl⟩ := List.mem_map.1 he; exact (HQ0.out x hx).1) s
      have HEa : Hid (fa sku = f2 sku + qty) := by
        show _ = _
        rw [← hfa, ← hf2, List.map_append, List.map_cons, List.map_nil, HXEa.out]
        exact adds_q HRL.out.2 H6.out
      have HEb : Hid (fb sku = qty) := by
        show _ = _
        rw [← hfb, List.map_append, List.map_cons, List.map_nil, HXEb.out]
        exact sets_q HRL.out.2 H6.out
      have HBD : Hid (f2 sku ≤ 1048576000) := by
        show _ ≤ _
        rw [← hf2]
        have h1 := qtyOf_le (k := sku) (l := countOf name (xs.map (·.e))) (fun e he => by
          have h2 := firstsFrom_sub _ _ e he
          exact HRL.out.1 e (ofCart_mem.1 (standOf_mem.1 h2).1).1)
        have h3 : (countOf name (xs.map (·.e))).length ≤ n := by
          rw [← countM_e, List.length_map, ← HN.out]
          exact countM_len name xs
        unfold linesQ
        omega
      obtain ⟨Z, HZ⟩ : ∃ Z, Hid (f2 sku = Z) := ⟨_, hid rfl⟩
      rw [HZ.out] at HEa HBD
      have hz0 : 0 ≤ Z := by have := HP2.out sku; rw [HZ.out] at this; exact this
      have hz1 : Z ≤ 1048576000 := HBD.out
      have HLa : Hid (∀ U V b c, Sc U V → HeldE V b (xs ++ [Xa]) → Calls Try.prog 12 #[.slice b (n + 1) c, .string name] V fun e w' => ∃ lo ln lc, e = .returned (.slice lo ln lc) ∧ LinesAt fa w' lo ln ∧ Below V.heap.size V w' ∧ Sc U w') := fun U V b c hV hh => lines_at hV b c (xs ++ [Xa]) (n + 1) (by rw [List.length_append, HN.out]; rfl) hh (by omega) HDa.out HQa.out name hfa
      have HLb : Hid (∀ U V b c, Sc U V → HeldE V b (xs ++ [Xb]) → Calls Try.prog 12 #[.slice b (n + 1) c, .string name] V fun e w' => ∃ lo ln lc, e = .returned (.slice lo ln lc) ∧ LinesAt fb w' lo ln ∧ Below V.heap.size V w' ∧ Sc U w') := fun U V b c hV hh => lines_at hV b c (xs ++ [Xb]) (n + 1) (by rw [List.length_append, HN.out]; rfl) hh (by omega) HDb.out HQb.out name hfb
      have HL2 : Hid (Calls Try.prog 12 #[.slice ao n cap, .string name] W fun e w' => ∃ lo ln lc, e = .returned (.slice lo ln lc) ∧ LinesAt f2 w' lo ln ∧ Below W.heap.size W w' ∧ Sc W w') := lines_at (Sc.start W) ao cap xs n HN.out (HXR.out.below HBW.out) (by omega) HD.out HQ0.out name hf2
      have HOa : Hid (∀ V lo ln lc, LinesAt fa V lo ln → Calls Try.prog 17 #[.slice lo ln lc, .string sku] V fun e w' => e = .returned (.int .i64 (Z + qty)) ∧ w' = V) := fun V lo ln lc hh => of11_at HPa.out lc hh sku HEa.out
      have HOb : Hid (∀ V lo ln lc, LinesAt fb V lo ln → Calls Try.prog 17 #[.slice lo ln lc, .string sku] V fun e w' => e = .returned (.int .i64 qty) ∧ w' = V) := fun V lo ln lc hh => of11_at HPb.out lc hh sku HEb.out
      have HO2 : Hid (∀ V lo ln lc, LinesAt f2 V lo ln → Calls Try.prog 17 #[.slice lo ln lc, .string sku] V fun e w' => e = .returned (.int .i64 Z) ∧ w' = V) := fun V lo ln lc hh => of11_at HP2.out lc hh sku HZ.out
      have hwr : IntKind.i64.wrap (Z + qty) = Z + qty := wrapI (by omega) (by omega)
      clear hfa hfb hf2
      go_wp2_with fail
      rw [← HW.out]
      obtain ⟨pe, hpe⟩ : ∃ p, p = wr.heap.size := ⟨_, rfl⟩
      rw [← hpe] at HKW HPE ⊢
      have HPP := hid hpe
      clear hpe
      refine HL2.out.mono ?_
      rintro e W1 ⟨l1, n1, d1, rfl, hat1, hbl1, hsc1⟩
      have HAT := hid hat1
      have HS := hid hsc1
      clear hat1 hbl1 hsc1
      go_wp2_with fail
      refine (HO2.out _ _ _ _ HAT.out).mono ?_
      rintro e W1 ⟨rfl, rfl⟩
      have HBW1 : Hid (Below wr.heap.size wr W1) := bt HBW.out HS.out.out
      have HKa : Hid (Blk W1 pe 29 [.int .i64 6, .int .i64 1, .slice so sl sc, .string name, .int .i64 0, .string sku, .int .i64 qty, .bool false]) := HKW.out.below HS.out.out HPE.out
      have HAPa : Hid (App W1 ao n xs Xa) := ⟨HN.out, HXR.out.below HBW1.out, HXOa.out.below HBW1.out⟩
      have HLa' := hid (HLa.out W1)
      go_wp2
      have HSAa : Hid (∀ V, Sc W1 V → (Sc W1 V ∧ V.cell? ⟨pe, 0, none⟩ = some (.int .i64 6) ∧ V.cell? ⟨pe, 1, none⟩ = some (.int .i64 1) ∧ V.cell? ⟨pe, 2, none⟩ = some (.slice so sl sc) ∧ V.cell? ⟨pe, 3, none⟩ = some (.string name) ∧ V.cell? ⟨pe, 4, none⟩ = some (.int .i64 0) ∧ V.cell? ⟨pe, 5, none⟩ = some (.string sku) ∧ V.cell? ⟨pe, 6, none⟩ = some (.int .i64 qty) ∧ V.cell? ⟨pe, 7, none⟩ = some (.bool false))) := fun V hV => by
        have hk := HKa.out.below hV.out HKa.out.lt
        exact ⟨hV, hk.cell (i := 0) rfl, hk.cell (i := 1) rfl, hk.cell (i := 2) rfl, hk.cell (i := 3) rfl, hk.cell (i := 4) rfl, hk.cell (i := 5) rfl, hk.cell (i := 6) rfl, hk.cell (i := 7) rfl⟩
      have hsc0a := Sc.start W1
      have c0a := HKa.out.cell (i := 0) rfl
      have c1a := HKa.out.cell (i := 1) rfl
      have c2a := HKa.out.cell (i := 2) rfl
      have c3a := HKa.out.cell (i := 3) rfl
      have c4a := HKa.out.cell (i := 4) rfl
      have c5a := HKa.out.cell (i := 5) rfl
      have c6a := HKa.out.cell (i := 6) rfl
      have c7a := HKa.out.cell (i := 7) rfl
      have HH1a := hid (HAPa.out.hh1 HXCa.out)
      have HH2a := hid (HAPa.out.hh2 HXCa.out)
      go_region_held3 (fun V => Sc W1 V ∧ V.cell? ⟨pe, 0, none⟩ = some (.int .i64 6) ∧ V.cell? ⟨pe, 1, none⟩ = some (.int .i64 1) ∧ V.cell? ⟨pe, 2, none⟩ = some (.slice so sl sc) ∧ V.cell? ⟨pe, 3, none⟩ = some (.string name) ∧ V.cell? ⟨pe, 4, none⟩ = some (.int .i64 0) ∧ V.cell? ⟨pe, 5, none⟩ = some (.string sku) ∧ V.cell? ⟨pe, 6, none⟩ = some (.int .i64 qty) ∧ V.cell? ⟨pe, 7, none⟩ = some (.bool false)) (first | (refine ⟨?_, ?_, ?_, ?_, ?_, ?_, ?_, ?_, ?_⟩ <;> assumption) | (refine HSAa.out _ ?_; (repeat (first | assumption | exact Sc.start _ | apply Sc.dr | apply Sc.alloc))))
        (first
          | (refine step_copy_evs rfl _ _ rfl W1.heap.size _ rfl ?_ ao n cap xs HN.out rfl ?_ hn0 ?_ ?_ ?_
             · first | exact ownE_made W1 _ (Nat.le_refl _) | exact (ownE_made W1 _ (Nat.le_refl _)).alloc _ | exact ownE_made2 W1 _ _ (Nat.le_refl _)
             · refine HAPa.out.at' ?_; (repeat (first | assumption | exact Sc.start _ | apply Sc.dr | apply Sc.alloc))
             · refine Sc.size ?_; (repeat (first | assumption | exact Sc.start _ | apply Sc.dr | apply Sc.alloc))
             · refine fun U hU => HAPa.out.all1 ?_ hU; (repeat (first | assumption | exact Sc.start _ | apply Sc.dr | apply Sc.alloc))
             intro boa cpa w3a hown3a hheld3a hb3a hg3a
             have hsc3a : Sc W1 w3a := Sc.grown (by (repeat (first | assumption | exact Sc.start _ | apply Sc.dr | apply Sc.alloc))) hb3a
             first
               | have hX3a := HAPa.out.grown (show HeldE _ (some ⟨W1.heap.size, 0, none⟩) [Xa] from HH1a.out) hg3a (by simp) hsc3a
               | have hX3a := HAPa.out.grown (show HeldE _ (some ⟨W1.heap.size + 1, 0, none⟩) [Xa] from HH2a.out) hg3a (by simp) hsc3a
               | skip
             clear hb3a hg3a)
          | (refine step_append_evs rfl _ _ rfl W1.heap.size _ n xs HN.out rfl ?_ _ 1 1 [Xa] rfl rfl ?_ hnn ?_ ?_ ?_
             · first | exact hown3a | exact hown3a.alloc _
             · first | exact hX3a | (refine HAPa.out.hh3 HXCa.out ?_; (repeat (first | assumption | exact Sc.start _ | apply Sc.dr | apply Sc.alloc)))
             · refine Sc.size ?_; (repeat (first | assumption | exact Sc.start _ | apply Sc.dr | apply Sc.alloc))
             · refine fun U hU => HAPa.out.all2 ?_ hU; (repeat (first | assumption | exact Sc.start _ | apply Sc.dr | apply Sc.alloc))
             intro b4a cc4a w4a hown4a hheld4a hb4a hg4a
             have hsc4a : Sc W1 w4a := Sc.grown (by (repeat (first | assumption | exact Sc.start _ | apply Sc.dr | apply Sc.alloc))) hb4a
             clear hb4a hg4a hown4a)
          | (go_at_call 12; with_reducible refine (HLa'.out _ _ _ hsc4a hheld4a).mono ?_; rintro e w5a ⟨l5a, n5a, d5a, rfl, hat5a, hbl5a, hsc5a⟩)
          | (go_at_call 17; with_reducible refine (HOa.out _ _ _ _ hat5a).mono ?_; rintro e w6a ⟨rfl, rfl⟩))
      all_goals
        have HS5 := hid hsc5a
        have HK5 : Hid (Blk w6a pe 29 [.int .i64 6, .int .i64 1, .slice so sl sc, .string name, .int .i64 0, .string sku, .int .i64 qty, .bool false]) := HKa.out.below hsc5a.out HKa.out.lt
        have d7 := HK5.out.cell (i := 7) rfl
        have df := HK5.out.frozen 7
        obtain ⟨W2, hW2⟩ : ∃ W2, W2 = w6a.setCell ⟨pe, 7, none⟩ (.bool true) := ⟨_, rfl⟩
        have HKb : Hid (Blk W2 pe 29 [.int .i64 6, .int .i64 1, .slice so sl sc, .string name, .int .i64 0, .string sku, .int .i64 qty, .bool true]) := by rw [hW2]; exact HK5.out.set 7 (.bool true)
        have HBW2 : Hid (Below wr.heap.size wr W2) := by
          rw [hW2]
          exact (bt HBW1.out HS5.out.out).trans (((Turns.refl (fun i => i = pe) w6a).setCell (p := ⟨pe, 7, none⟩) (.inl rfl) _).below (fun i hi => by rw [hi, HPP.out]; exact Nat.le_refl _) (Nat.le_trans HBW1.out.size HS5.out.out.size))
        have HAPb : Hid (App W2 ao n xs Xb) := ⟨HN.out, HXR.out.below HBW2.out, HXOb.out.below HBW2.out⟩
        have HLb' := hid (HLb.out W2)
        have HW2 := hid hW2
        clear hW2 hsc5a hat5a hbl5a hheld4a hsc4a hheld3a hown3a hsc3a hsc0a c0a c1a c2a c3a c4a c5a c6a c7a
        go_wp2
        rw [← HW2.out]
        have HSAb : Hid (∀ V, Sc W2 V → (Sc W2 V ∧ V.cell? ⟨pe, 0, none⟩ = some (.int .i64 6) ∧ V.cell? ⟨pe, 1, none⟩ = some (.int .i64 1) ∧ V.cell? ⟨pe, 2, none⟩ = some (.slice so sl sc) ∧ V.cell? ⟨pe, 3, none⟩ = some (.string name) ∧ V.cell? ⟨pe, 4, none⟩ = some (.int .i64 0) ∧ V.cell? ⟨pe, 5, none⟩ = some (.string sku) ∧ V.cell? ⟨pe, 6, none⟩ = some (.int .i64 qty) ∧ V.cell? ⟨pe, 7, none⟩ = some (.bool true))) := fun V hV => by
          have hk := HKb.out.below hV.out HKb.out.lt
          exact ⟨hV, hk.cell (i := 0) rfl, hk.cell (i := 1) rfl, hk.cell (i := 2) rfl, hk.cell (i := 3) rfl, hk.cell (i := 4) rfl, hk.cell (i := 5) rfl, hk.cell (i := 6) rfl, hk.cell (i := 7) rfl⟩
        have hsc0b := Sc.start W2
        have c0b := HKb.out.cell (i := 0) rfl
        have c1b := HKb.out.cell (i := 1) rfl
        have c2b := HKb.out.cell (i := 2) rfl
        have c3b := HKb.out.cell (i := 3) rfl
        have c4b := HKb.out.cell (i := 4) rfl
        have c5b := HKb.out.cell (i := 5) rfl
        have c6b := HKb.out.cell (i := 6) rfl
        have c7b := HKb.out.cell (i := 7) rfl
        have HH1b := hid (HAPb.out.hh1 HXCb.out)
        have HH2b := hid (HAPb.out.hh2 HXCb.out)
        go_region_held3 (fun V => Sc W2 V ∧ V.cell? ⟨pe, 0, none⟩ = some (.int .i64 6) ∧ V.cell? ⟨pe, 1, none⟩ = some (.int .i64 1) ∧ V.cell? ⟨pe, 2, none⟩ = some (.slice so sl sc) ∧ V.cell? ⟨pe, 3, none⟩ = some (.string name) ∧ V.cell? ⟨pe, 4, none⟩ = some (.int .i64 0) ∧ V.cell? ⟨pe, 5, none⟩ = some (.string sku) ∧ V.cell? ⟨pe, 6, none⟩ = some (.int .i64 qty) ∧ V.cell? ⟨pe, 7, none⟩ = some (.bool true)) (first | (refine ⟨?_, ?_, ?_, ?_, ?_, ?_, ?_, ?_, ?_⟩ <;> assumption) | (refine HSAb.out _ ?_; (repeat (first | assumption | exact Sc.start _ | apply Sc.dr | apply Sc.alloc))))
          (first
            | (refine step_copy_evs rfl _ _ rfl W2.heap.size _ rfl ?_ ao n cap xs HN.out rfl ?_ hn0 ?_ ?_ ?_
               · first | exact ownE_made W2 _ (Nat.le_refl _) | exact (ownE_made W2 _ (Nat.le_refl _)).alloc _ | exact ownE_made2 W2 _ _ (Nat.le_refl _)
               · refine HAPb.out.at' ?_; (repeat (first | assumption | exact Sc.start _ | apply Sc.dr | apply Sc.alloc))
               · refine Sc.size ?_; (repeat (first | assumption | exact Sc.start _ | apply Sc.dr | apply Sc.alloc))
               · refine fun U hU => HAPb.out.all1 ?_ hU; (repeat (first | assumption | exact Sc.start _ | apply Sc.dr | apply Sc.alloc))
               intro bob cpb w3b hown3b hheld3b hb3b hg3b
               have hsc3b : Sc W2 w3b := Sc.grown (by (repeat (first | assumption | exact Sc.start _ | apply Sc.dr | apply Sc.alloc))) hb3b
               first
                 | have hX3b := HAPb.out.grown (show HeldE _ (some ⟨W2.heap.size, 0, none⟩) [Xb] from HH1b.out) hg3b (by simp) hsc3b
                 | have hX3b := HAPb.out.grown (show HeldE _ (some ⟨W2.heap.size + 1, 0, none⟩) [Xb] from HH2b.out) hg3b (by simp) hsc3b
                 | skip
               clear hb3b hg3b)
            | (refine step_append_evs rfl _ _ rfl W2.heap.size _ n xs HN.out rfl ?_ _ 1 1 [Xb] rfl rfl ?_ hnn ?_ ?_ ?_
               · first | exact hown3b | exact hown3b.alloc _
               · first | exact hX3b | (refine HAPb.out.hh3 HXCb.out ?_; (repeat (first | assumption | exact Sc.start _ | apply Sc.dr | apply Sc.alloc)))
               · refine Sc.size ?_; (repeat (first | assumption | exact Sc.start _ | apply Sc.dr | apply Sc.alloc))
               · refine fun U hU => HAPb.out.all2 ?_ hU; (repeat (first | assumption | exact Sc.start _ | apply Sc.dr | apply Sc.alloc))
               intro b4b cc4b w4b hown4b hheld4b hb4b hg4b
               have hsc4b : Sc W2 w4b := Sc.grown (by (repeat (first | assumption | exact Sc.start _ | apply Sc.dr | apply Sc.alloc))) hb4b
               clear hb4b hg4b hown4b)
            | (go_at_call 12; with_reducible refine (HLb'.out _ _ _ hsc4b hheld4b).mono ?_; rintro e w5b ⟨l5b, n5b, d5b, rfl, hat5b, hbl5b, hsc5b⟩)
            | (go_at_call 17; with_reducible refine (HOb.out _ _ _ _ hat5b).mono ?_; rintro e w6b ⟨rfl, rfl⟩))
        all_goals
          go_wp2
          go_ret
          exact ⟨by simp, bt HBR.out (bt HBW2.out hsc5b.out)⟩
end Go.Proofs.Ytdfdgijaekhioaa
