/-
  pannierlaw19.SealCounts answers true for whatever entries and cart.
-/
import Derived.Test.YtfokmldfnkonpaaSmG
namespace Go.Proofs.Ytfokmldfnkonpaa
open Go.RowKit Go.Maps

/-- Between two rounds of the first loop. -/
def Cnt1 (W : World) (p mi me : Nat) (zs : List EnM) (k : Nat) (wr : World) : Prop := ∃ v, SmAt W.heap.size wr p mi me v (runS (ensTo zs k)) ∧ Below W.heap.size W wr
theorem cnt_take {c : ByteArray} {os : List Or} {k : Nat} (h : k < os.length) : cntO c (os.take (k + 1)) = cntO c (os.take k) + (if os[k].cart = c then 1 else 0) := by rw [or_take h, cntO_snoc]
set_option maxRecDepth 1000000 in
set_option maxHeartbeats 4000000 in
theorem sealCounts_walk (ao : Option Addr) (cap : Nat) (zs : List EnM) (c : ByteArray) (w : World) (hz : HeldEn w ao zs) (hl : zs.length ≤ 1954687338268) (hc : c.size ≤ maxLen) :
    Calls Try.prog 7 #[.slice ao zs.length cap, .string c] w fun e w' => e = .returned (.bool true) ∧ Below w.heap.size w w' := by
  have HZ := hid hz
  have HC := hid hc
  obtain ⟨n, HN⟩ : ∃ n, Hid (zs.length = n) := ⟨_, hid rfl⟩
  rw [HN.out] at hl ⊢
  have HL := hid hl
  have HNEW := hid (newSm w)
  clear hz hl hc
  go_enter Try.func7, Try.ntmps7
  go_wp2_with fail
  refine HNEW.out.mono ?_
  rintro e w1 ⟨p, mi, me, rfl, hat, hb1⟩
  have HLV := hid (livesSm w1)
  have HS1 := hid hat
  have HB1 := hid hb1
  clear hat hb1 HNEW
  go_wp2_with fail
  refine HLV.out.mono ?_
  rintro e w2 ⟨rfl, hb2⟩
  have HC1 : Hid (Cnt1 w p mi me zs 0 w2) := ⟨_, HS1.out.below hb2, bt' HB1.out hb2⟩
  clear hb2 HLV
  go_wp2
  go_loopw [6] (fun i wr => ∃ k : Nat, k ≤ n ∧ i = .int .i64 k ∧ Hid (Cnt1 w p mi me zs k wr)) (fun i _ => n - (intOf i).toNat)
  case atStart => exact ⟨0, Nat.zero_le _, rfl, HC1.out⟩
  case round =>
    obtain ⟨k, hk, rfl, HR⟩ := hrel
    obtain ⟨v, hs, hb⟩ := HR.out
    have HS := hid hs
    have HB := hid hb
    clear hs hb HR
    by_cases hlt : k < n
    · have hlt' : (k : Int) < (n : Int) := by omega
      have hkx : Hid (k < zs.length) := (by rw [HN.out]; exact hlt : k < zs.length)
      have HKM : Hid (k + 1 ≤ n) := (by omega : k + 1 ≤ n)
      have HOK := hid (HZ.out.okD hkx.out)
      obtain ⟨bb, off, hao, hbb, d0, d1, d2, d3, d4⟩ := (HZ.out.below HB.out).cellsD hkx.out
      subst hao
      have HEN := hid (ensTo_snoc hkx.out)
      have HDN : Hid ((runS (ensTo zs k)).dn ≤ 4611686018427387904) := dn_fits (Nat.le_of_lt hkx.out) HN.out HL.out
      have hw0 := wrapK hlt HL.out
      have HDO := hid (HS.out.doW HB.out HDN.out (zs.getD k default) HOK.out)
      obtain ⟨X, hX⟩ : ∃ X, X = zs.getD k default := ⟨_, rfl⟩
      rw [← hX] at d0 d1 d2 d3 d4 HDO HEN
      clear hX hbb
      obtain ⟨⟨np, tk, ct, ep, dp⟩, ao1, cap1⟩ := X
      simp only at d0 d1 d2 d3 d4
      obtain ⟨XN, HXN⟩ : ∃ m, Hid (dp.length = m) := ⟨_, hid rfl⟩
      simp only [EnM.val] at HDO
      rw [HXN.out] at d4 HDO
      go_wp2_with fail
      refine HDO.out.mono ?_
      rintro e w3 ⟨oid, tok, cart, oep, bo, on, cp, v', rfl, _, _, _, _, _, _, _, hs3, _, _, hb3⟩
      have HC3 : Hid (Cnt1 w p mi me zs (k + 1) w3) := by
        refine ⟨v', ?_, hb3⟩
        rw [HEN.out, runS_snoc]
        exact hs3
      clear hs3 hb3
      go_wp2
      go_roundw
      case rel => exact ⟨k + 1, HKM.out, by go_num, HC3.out⟩
      case measure => first | exact measW HKM.out hw0 | exact meas1 HKM.out
    · have hlt' : ¬ (k : Int) < (n : Int) := by omega
      have HDL : Hid ((runS (ensTo zs k)).dn ≤ n) := Nat.le_trans (runS_le (by rw [HN.out]; exact hk)) hk
      have HOK := hid HS.out.ok
      obtain ⟨G, HG⟩ : ∃ G, Hid (runS (ensTo zs k) = G) := ⟨_, hid rfl⟩
      rw [HG.out] at HS HDL HOK
      have HOR := hid HS.out.orders
      obtain ⟨N, HNN⟩ : ∃ N, Hid (G.os.length = N) := ⟨_, hid rfl⟩
      unfold OrdersP at HOR
      rw [HNN.out] at HOR
      have HFE : Hid (N ≤ 65536) := by rw [← HNN.out]; exact HOK.out.few
      go_wp2_with fail
      refine HOR.out.mono ?_
      rintro e w4 ⟨ro, rcap, ys, rfl, hy1, hy2, hy3, hb4⟩
      have HYL : Hid (ys.length = N) := by rw [← HNN.out, ← hy1]; show _ = _; simp
      obtain ⟨ro', rcap', hre, hrc, hh⟩ := heldOr_of_own HYL.out hy2
      cases hre
      have HH := hid hh
      have HY1 := hid hy1
      have HS4 := hid (HS.out.below hb4)
      have HB4 := hid (bt' HB.out hb4)
      clear hy1 hy2 hy3 hb4 hrc hh HOR
      go_wp2
      go_loop [7, 9] (fun cn i => ∃ j : Nat, ∃ z : Nat, j ≤ N ∧ z ≤ j ∧ i = .int .i64 j ∧ cn = .int .i64 z ∧ Hid (cntO c (G.os.take j) = z)) (fun _ i => N - (intOf i).toNat)
      case atStart => exact ⟨0, 0, Nat.zero_le _, Nat.le_refl _, rfl, rfl, rfl⟩
      case round =>
        obtain ⟨j, z, hj, hzj, rfl, rfl, HCT⟩ := hrel
        by_cases hjl : j < N
        · have hjl' : (j : Int) < (N : Int) := by omega
          have hjx : Hid (j < ys.length) := (by rw [HYL.out]; exact hjl : j < ys.length)
          have HJG : Hid (j < G.os.length) := (by rw [HNN.out]; exact hjl : j < G.os.length)
          have HJM : Hid (j + 1 ≤ N ∧ z + 1 ≤ j + 1) := (by omega : j + 1 ≤ N ∧ z + 1 ≤ j + 1)
          have HZM : Hid (z ≤ j + 1) := (by omega : z ≤ j + 1)
          obtain ⟨bb, off, hro, hbb, g0, g1, g2, g3, g4⟩ := HH.out.at hjx.out
          have HGE : Hid (G.os[j]'HJG.out = (ys[j]'hjx.out).e) := by
            show _ = _
            have := HY1.out
            simp only [← this]
            simp
          have HID : Hid ((ys[j]'hjx.out).e.id = (j : Int) + 1) := by rw [← HGE.out]; exact HOK.out.ids j _ (List.getElem?_eq_getElem HJG.out)
          have HEP : Hid ((ys[j]'hjx.out).e.ep = (cntO (ys[j]'hjx.out).e.cart (G.os.take j) : Int)) := by rw [← HGE.out]; exact HOK.out.eps j _ (List.getElem?_eq_getElem HJG.out)
          have HCS : Hid (cntO c (G.os.take (j + 1)) = z + (if (ys[j]'hjx.out).e.cart = c then 1 else 0)) := by show _ = _; rw [cnt_take HJG.out, HCT.out, HGE.out]
          subst hro
          obtain ⟨X, HX⟩ : ∃ X, Hid (ys[j]'hjx.out = X) := ⟨_, hid rfl⟩
          rw [HX.out] at g0 g1 g2 g3 g4 HID HEP HCS
          obtain ⟨⟨xid, tk, ct, ep, dp⟩, ao1, cap1⟩ := X
          simp only at g0 g1 g2 g3 g4 HID HEP HCS
          rw [HID.out] at g0
          have hw1 : wrap64 ((j : Int) + 1) = (j : Int) + 1 := wrapJ (Nat.le_trans hj HFE.out)
          have hbn : (((j : Int) + 1) != ((j : Int) + 1)) = false := by simp
          clear hbb g1 g4
          by_cases hcc : ct = c
          · subst hcc
            have hen : ep = (z : Int) := by rw [HEP.out, HCT.out]
            subst hen
            have hbz : ((z : Int) != (z : Int)) = false := by simp
            have hw2 : wrap64 ((z : Int) + 1) = (z : Int) + 1 := wrapJ (Nat.le_trans hzj (Nat.le_trans hj HFE.out))
            rw [if_pos rfl] at HCS
            go_wp2
            go_round
            case rel => exact ⟨j + 1, z + 1, HJM.out.1, HJM.out.2, by go_num, by go_num, HCS.out⟩
            case measure => first | exact measW HJM.out.1 hw1 | exact meas1 HJM.out.1
          · have hb2 : (ct.toList == c.toList) = false := beq_eq_false_iff_ne.2 fun hh => hcc (bytes_injC hh)
            have hb3 : ¬ ct.toList = c.toList := fun hh => hcc (bytes_injC hh)
            rw [if_neg hcc] at HCS
            clear hcc
            go_wp2
            go_round
            case rel => exact ⟨j + 1, z, HJM.out.1, HZM.out, by go_num, rfl, HCS.out⟩
            case measure => first | exact measW HJM.out.1 hw1 | exact meas1 HJM.out.1
        · have hjl' : ¬ (j : Int) < (N : Int) := by omega
          have HCE : Hid (cntO c G.os = z) := by
            have := HCT.out
            rw [show j = G.os.length by rw [HNN.out]; omega, List.take_length] at this
            exact this
          have hw1 : wrap64 ((N : Int) + 1) = (N : Int) + 1 := wrapJ HFE.out
          have HG1 : Hid (Calls Try.prog 18 #[.pointer (some ⟨p, 0, none⟩), .int .i64 ((N : Int) + 1)] w4 (GotOr w4 none)) := by
            have h1 := HS4.out.get ((N : Int) + 1) (i64J HFE.out)
            rw [getO_none (.inr (by rw [HNN.out]; omega))] at h1
            exact h1
          go_wp2_with fail
          refine HG1.out.mono ?_
          rintro e w5 ⟨bo5, cp5, rfl, _, _, hb5⟩
          simp only [Option.getD_none, Option.isSome_none, OrM.val, zeroOr, List.length_nil]
          obtain ⟨W6, hW6⟩ : ∃ V, V = w5.alloc (.cells #[.int .i64 0, .string ⟨#[]⟩, .string ⟨#[]⟩, .int .i64 0, .slice bo5 0 cp5] 32) := ⟨_, rfl⟩
          have hb6 : Below w5.heap.size w5 W6 := by rw [hW6]; exact (Below.refl _ _).alloc (Nat.le_refl _) _
          have HS6 := hid ((HS4.out.below hb5).below hb6)
          have HB6 := hid (bt' HB4.out (bt' hb5 hb6))
          have HG2 : Hid (Calls Try.prog 18 #[.pointer (some ⟨p, 0, none⟩), .int .i64 0] W6 (GotOr W6 none)) := by
            have h1 := HS6.out.get 0 i64_zeroS
            rw [getO_none (.inl (by omega))] at h1
            exact h1
          have HW6 := hid hW6
          clear hW6 hb5 hb6
          go_wp2_with fail
          rw [← HW6.out]
          refine HG2.out.mono ?_
          rintro e w7 ⟨bo7, cp7, rfl, _, _, hb7⟩
          simp only [Option.getD_none, Option.isSome_none, OrM.val, zeroOr, List.length_nil]
          obtain ⟨W8, hW8⟩ : ∃ V, V = w7.alloc (.cells #[.int .i64 0, .string ⟨#[]⟩, .string ⟨#[]⟩, .int .i64 0, .slice bo7 0 cp7] 32) := ⟨_, rfl⟩
          have hb8 : Below w7.heap.size w7 W8 := by rw [hW8]; exact (Below.refl _ _).alloc (Nat.le_refl _) _
          have HS8 := hid ((HS6.out.below hb7).below hb8)
          have HB8 := hid (bt' HB6.out (bt' hb7 hb8))
          have HEP := hid (HS8.out.epoch c HC.out)
          rw [HCE.out] at HEP
          have HDN := hid HS8.out.done
          obtain ⟨dn, HDD⟩ : ∃ d, Hid (G.dn = d) := ⟨_, hid rfl⟩
          rw [HDD.out] at HDN
          have hdl : (dn : Int) ≤ (n : Int) := by have := HDL.out; rw [HDD.out] at this; omega
          have HW8 := hid hW8
          clear hW8 hb7 hb8
          go_wp2_with fail
          rw [← HW8.out]
          refine HEP.out.mono ?_
          rintro e x1 ⟨rfl, rfl⟩
          have hzz : ((z : Int) == (z : Int)) = true := by simp
          go_wp2_with fail
          refine HDN.out.mono ?_
          rintro e x2 ⟨rfl, rfl⟩
          go_wp2
          go_ret
          exact ⟨rfl, HB8.out⟩
end Go.Proofs.Ytfokmldfnkonpaa
