/-
  pannierlaw19.SealFollows answers true for whatever entries.
-/
import Derived.Test.YtfokmldfnkonpaaSmH0
import Derived.Test.YtfokmldfnkonpaaSmH
import Derived.Deep.RegionHeld3
namespace Go.Proofs.Ytfokmldfnkonpaa
open Go.RowKit Go.Maps

/-- Between two rounds of the first loop. -/
def Fol1 (W : World) (p mi me : Nat) (zs : List EnM) (k : Nat) (wr : World) : Prop := ∃ v, SmAt W.heap.size wr p mi me v (runS (ensTo zs k)) ∧ Below W.heap.size W wr
/-- The seals of orders follow. -/
theorem right_slO {o : Or} (h : RightEn (enO o) = true) : RightSl (slO o) = true := by
  unfold RightEn enO at h
  simp only [Bool.false_eq_true, if_false] at h
  unfold RightSe at h
  unfold RightSl slO
  exact h
theorem own_cnt (c : ByteArray) : ∀ {ss : List SlM} {os : List Or}, ss.map SlM.e = os.map slO → (ownOf c ss).length = cntO c os
  | [], [], _ => rfl
  | [], _ :: _, h => by simp at h
  | _ :: _, [], h => by simp at h
  | x :: r, o :: t, h => by
    simp only [List.map_cons, List.cons.injEq] at h
    have ih := own_cnt c (ss := r) (os := t) h.2
    have hc : x.e.cart = o.cart := by rw [h.1]; rfl
    unfold ownOf cntO at ih ⊢
    rw [List.filter_cons, List.filter_cons, hc]
    by_cases e : o.cart = c
    · simp only [e, decide_true, if_true, List.length_cons, ih]
    · simp only [e, decide_false, Bool.false_eq_true, if_false, ih]
theorem follow_of {g : Sm} (h : SmOk g) {ss : List SlM} (he : ss.map SlM.e = g.os.map slO) : FollowTo ss ss.length := by
  intro a ha _
  have hl : ss.length = g.os.length := by have h1 := congrArg List.length he; simpa using h1
  have hag : a < g.os.length := by omega
  have h1 : ss[a].e = slO g.os[a] := by
    have h2 : (ss.map SlM.e)[a]? = (g.os.map slO)[a]? := by rw [he]
    simpa [List.getElem?_eq_getElem ha, List.getElem?_eq_getElem hag] using h2
  have h3 := h.right _ (List.getElem_mem hag)
  have h4 := h.eps a _ (List.getElem?_eq_getElem hag)
  refine ⟨by rw [h1]; exact right_slO h3, ?_⟩
  rw [h1]
  show g.os[a].ep = ((ownOf g.os[a].cart (ss.take a)).length : Int)
  rw [h4, own_cnt g.os[a].cart (os := g.os.take a)]
  rw [List.map_take, List.map_take, he]
theorem doS_len {g : Sm} {e : En} : (doS g e).os.length = if wayO g e = 5 then g.os.length + 1 else g.os.length := by
  rw [doS_os]
  split <;> simp
theorem doR_id5 {g : Sm} {e : En} (h : wayO g e = 5) : (doR g e).id = (g.os.length : Int) + 1 := by
  unfold doR
  rw [h, if_neg (by decide), if_pos rfl]
  rfl
set_option maxRecDepth 1000000 in
set_option maxHeartbeats 4000000 in
theorem sealFollows_walk (ao : Option Addr) (cap : Nat) (zs : List EnM) (w : World) (hz : HeldEn w ao zs) (hl : zs.length ≤ 1954687338268) :
    Calls Try.prog 4 #[.slice ao zs.length cap] w fun e w' => e = .returned (.bool true) ∧ Below w.heap.size w w' := by
  have HZ := hid hz
  obtain ⟨n, HN⟩ : ∃ n, Hid (zs.length = n) := ⟨_, hid rfl⟩
  rw [HN.out] at hl ⊢
  have HL := hid hl
  have HNEW := hid (newSm w)
  clear hz hl
  go_enter Try.func4, Try.ntmps4
  go_wp2_with fail
  refine HNEW.out.mono ?_
  rintro e w1 ⟨p, mi, me, rfl, hat, hb1⟩
  have HLV := hid (livesSm w1)
  have HS1 := hid hat
  have HB1 := hid hb1
  clear hat hb1 HNEW
  go_wp2_with fail
  refine HLV.out.mono ?_
  rintro e w2 ⟨rfl, hb2⟩
  have HC1 : Hid (Fol1 w p mi me zs 0 w2) := ⟨_, HS1.out.below hb2, bt' HB1.out hb2⟩
  clear hb2 HLV
  go_wp2
  go_loopw [4, 5, 6, 7, 8, 9] (fun i _ _ _ _ _ wr => ∃ k : Nat, k ≤ n ∧ i = .int .i64 k ∧ Hid (Fol1 w p mi me zs k wr)) (fun i _ _ _ _ _ _ => n - (intOf i).toNat)
  case atStart => exact ⟨0, Nat.zero_le _, rfl, HC1.out⟩
  case round =>
    obtain ⟨k, hk, rfl, HR⟩ := hrel
    obtain ⟨v, hs, hb⟩ := HR.out
    have HS := hid hs
    have HB := hid hb
    clear hs hb HR
    by_cases hlt : k < n
    · have hlt' : (k : Int) < (n : Int) := by omega
      have hkx : Hid (k < zs.length) := (by rw [HN.out]; exact hlt : k < zs.length)
      have HKM : Hid (k + 1 ≤ n) := (by omega : k + 1 ≤ n)
      have HOK := hid (HZ.out.okD hkx.out)
      have HEN := hid (ensTo_snoc hkx.out)
      have HDN : Hid ((runS (ensTo zs k)).dn ≤ 4611686018427387904) := dn_fits (Nat.le_of_lt hkx.out) HN.out HL.out
      have hw0 := wrapK hlt HL.out
      have HSO := hid HS.out.ok
      obtain ⟨G, HG⟩ : ∃ G, Hid (runS (ensTo zs k) = G) := ⟨_, hid rfl⟩
      rw [HG.out] at HS HDN HSO
      have HOR := hid HS.out.orders
      obtain ⟨N, HNN⟩ : ∃ N, Hid (G.os.length = N) := ⟨_, hid rfl⟩
      unfold OrdersP at HOR
      rw [HNN.out] at HOR
      have HFE : Hid (N ≤ 65536) := by rw [← HNN.out]; exact HSO.out.few
      go_wp2_with fail
      refine HOR.out.mono ?_
      rintro e w3 ⟨ro, rcap, ys, rfl, _, _, _, hb3⟩
      have HS3 := hid (HS.out.below hb3)
      have HB3 := hid (bt' HB.out hb3)
      clear hb3 HOR
      obtain ⟨bb, off, hao, hbb, d0, d1, d2, d3, d4⟩ := (HZ.out.below HB3.out).cellsD hkx.out
      subst hao
      have HDO := hid (HS3.out.doW HB3.out HDN.out (zs.getD k default) HOK.out)
      obtain ⟨X, hX⟩ : ∃ X, X = zs.getD k default := ⟨_, rfl⟩
      rw [← hX] at d0 d1 d2 d3 d4 HDO HEN
      clear hX hbb
      obtain ⟨⟨np, tk, ct, ep, dp⟩, ao1, cap1⟩ := X
      simp only at d0 d1 d2 d3 d4
      obtain ⟨XN, HXN⟩ : ∃ m, Hid (dp.length = m) := ⟨_, hid rfl⟩
      simp only [EnM.val] at HDO
      rw [HXN.out] at d4 HDO
      go_wp2_with fail
      refine HDO.out.mono ?_
      rintro e w4 ⟨oid, tok, cart, oep, bo, on, cp, v4, rfl, hid4, e1, e2, e3, e4, _, _, hs4, _, _, hb4⟩
      clear e1 e2 e3 e4
      obtain ⟨W5, hW5⟩ : ∃ V, V = w4.alloc (.cells #[.int .i64 oid, .string tok, .string cart, .int .i64 oep, .slice bo on cp] 32) := ⟨_, rfl⟩
      have hb5 : Below w4.heap.size w4 W5 := by rw [hW5]; exact (Below.refl _ _).alloc (Nat.le_refl _) _
      have HS5 := hid (hs4.below hb5)
      have HB5 := hid (bt' hb4 hb5)
      have HK5 : Hid (Blk W5 w4.heap.size 32 [.int .i64 oid, .string tok, .string cart, .int .i64 oep, .slice bo on cp]) := by rw [hW5]; exact Blk.new _ _ _
      obtain ⟨q, hq⟩ : ∃ q, q = w4.heap.size := ⟨_, rfl⟩
      rw [← hq] at HK5
      have HQ := hid hq
      have HW5 := hid hW5
      have HOR := hid HS5.out.orders
      unfold OrdersP at HOR
      obtain ⟨M, HM⟩ : ∃ M, Hid ((doS G ⟨np, tk, ct, ep, dp⟩).os.length = M) := ⟨_, hid rfl⟩
      rw [HM.out] at HOR
      have HML := hid (doS_len (g := G) (e := ⟨np, tk, ct, ep, dp⟩))
      rw [HM.out, HNN.out] at HML
      have HIO := hid hid4
      clear hs4 hb4 hb5 hq hW5 hid4 d0 d1 d2 d3 d4
      go_wp2_with fail
      rw [← HW5.out, ← HQ.out]
      refine HOR.out.mono ?_
      rintro e w6 ⟨ro6, rcap6, ys6, rfl, _, _, _, hb6⟩
      have HC6 : Hid (Fol1 w p mi me zs (k + 1) w6) := by
        refine ⟨v4, ?_, bt' HB5.out hb6⟩
        rw [HEN.out, runS_snoc, HG.out]
        exact HS5.out.below hb6
      have hk6 := HK5.out.below hb6 HK5.out.lt
      have c0 := hk6.cell (i := 0) rfl
      clear hb6 hk6 HOR
      by_cases h5 : wayO G ⟨np, tk, ct, ep, dp⟩ = 5
      · have h1 : M = N + 1 := by have := HML.out; rw [if_pos h5] at this; exact this
        subst h1
        have h2 : oid = (N : Int) + 1 := by rw [HIO.out, doR_id5 h5, HNN.out]
        subst h2
        rw [h5]
        simp only [decide_true, codeO]
        have hw1 : wrap64 ((N : Int) + 1) = (N : Int) + 1 := wrapJ HFE.out
        have hbn : (((N : Int) + 1) != ((N : Int) + 1)) = false := by simp
        clear h5
        go_wp2
        go_roundw
        case rel => exact ⟨k + 1, HKM.out, by go_num, HC6.out⟩
        case measure => first | exact measW HKM.out hw0 | exact meas1 HKM.out
      · have h1 : M = N := by have := HML.out; rw [if_neg h5] at this; exact this
        subst h1
        rw [decide_eq_false h5]
        have hbn : ((M : Int) != (M : Int)) = false := by simp
        clear h5
        go_wp2
        go_roundw
        case rel => exact ⟨k + 1, HKM.out, by go_num, HC6.out⟩
        case measure => first | exact measW HKM.out hw0 | exact meas1 HKM.out
    · have hlt' : ¬ (k : Int) < (n : Int) := by omega
      have HOK := hid HS.out.ok
      obtain ⟨G, HG⟩ : ∃ G, Hid (runS (ensTo zs k) = G) := ⟨_, hid rfl⟩
      rw [HG.out] at HS HOK
      have HSE := hid HS.out.seals
      obtain ⟨N, HNN⟩ : ∃ N, Hid (G.os.length = N) := ⟨_, hid rfl⟩
      unfold SealsP at HSE
      rw [HNN.out] at HSE
      have HFE : Hid (N ≤ 65536) := by rw [← HNN.out]; exact HOK.out.few
      go_wp2_with fail
      refine HSE.out.mono ?_
      rintro e w3 ⟨so, scap, ss, rfl, hs1, hs2, hb3⟩
      have HSL : Hid (ss.length = N) := by have h1 := congrArg List.length hs1; rw [← HNN.out]; show _ = _; simpa using h1
      have HCK := hid (check_any w3 so scap ss N HSL.out hs2 (by have := HFE.out; omega))
      have HFO := hid (follow_of HOK.out hs1)
      have HS3 := hid (HS.out.below hb3)
      have HB3 := hid (bt' HB.out hb3)
      clear hs1 hs2 hb3 HSE
      go_wp2_with fail
      refine HCK.out.mono ?_
      rintro e w4 ⟨⟨i4, c4, rfl, hc4⟩, hb4⟩
      have h40 : c4 = 0 := by
        rcases hc4 with h | h
        · exact h.1
        · exact absurd HFO.out h.2
      subst h40
      have HS4 := hid (HS3.out.below hb4)
      have HB4 := hid (bt' HB3.out hb4)
      have HOR := hid HS4.out.orders
      unfold OrdersP at HOR
      rw [HNN.out] at HOR
      clear hc4 hb4 HCK
      go_wp2_with fail
      refine HOR.out.mono ?_
      rintro e w5 ⟨ro, rcap, ys, rfl, hy1, hy2, hy3, hb5⟩
      have HYL : Hid (ys.length = N) := by rw [← HNN.out, ← hy1]; show _ = _; simp
      obtain ⟨ro', rcap', hre, hrc, hh⟩ := heldOr_of_own HYL.out hy2
      cases hre
      have HH := hid hh
      have HY1 := hid hy1
      have HY3 := hid hy3
      have HS5 := hid (HS4.out.below hb5)
      have HB5 := hid (bt' HB4.out hb5)
      clear hy1 hy2 hy3 hb5 hrc hh HOR
      go_wp2
      go_loopw [13, 14, 15, 16, 17] (fun i _ _ _ _ wr => ∃ j : Nat, j ≤ N ∧ i = .int .i64 j ∧ Hid (Below w5.heap.size w5 wr)) (fun i _ _ _ _ _ => N - (intOf i).toNat)
      case atStart => exact ⟨0, Nat.zero_le _, rfl, Below.refl _ _⟩
      case round =>
        obtain ⟨j, hj, rfl, HBR⟩ := hrel
        by_cases hjl : j < N
        · have hjl' : (j : Int) < (N : Int) := by omega
          have hjx : Hid (j < ys.length) := (by rw [HYL.out]; exact hjl : j < ys.length)
          have HJG : Hid (j < G.os.length) := (by rw [HNN.out]; exact hjl : j < G.os.length)
          have HJM : Hid (j + 1 ≤ N) := (by omega : j + 1 ≤ N)
          have HGE : Hid (G.os[j]'HJG.out = (ys[j]'hjx.out).e) := by
            show _ = _
            have := HY1.out
            simp only [← this]
            simp
          have HFD : Hid (findO (ys[j]'hjx.out).e.tok G.os = some (ys[j]'hjx.out).e) := by
            have h1 := find_at HOK.out HJG.out
            rw [HGE.out] at h1
            exact h1
          have HGD : Hid (getO G ((j : Int) + 1) = some (ys[j]'hjx.out).e) := by
            have h1 := getO_at HJG.out
            rw [HGE.out] at h1
            exact h1
          have HID : Hid ((ys[j]'hjx.out).e.id = (j : Int) + 1) := by rw [← HGE.out]; exact HOK.out.ids j _ (List.getElem?_eq_getElem HJG.out)
          obtain ⟨bb, off, hro, hbb, g0, g1, g2, g3, g4⟩ := (HH.out.below HBR.out).at hjx.out
          have HOX := hid ((HY3.out _ (List.getElem_mem hjx.out)).below HBR.out)
          have HSR := hid (HS5.out.below HBR.out)
          subst hro
          obtain ⟨X, HX⟩ : ∃ X, Hid (ys[j]'hjx.out = X) := ⟨_, hid rfl⟩
          rw [HX.out] at g0 g1 g2 g3 g4 HID HFD HGD HOX
          obtain ⟨⟨xid, tk, ct, ep, dp⟩, ao1, cap1⟩ := X
          obtain ⟨XN, HXN⟩ : ∃ m, Hid (dp.length = m) := ⟨_, hid rfl⟩
          have hxi : xid = (j : Int) + 1 := HID.out
          subst hxi
          simp only at g0 g1 g2 g3 g4 HFD HGD
          rw [HXN.out] at g4
          have HTK : Hid (Calls Try.prog 16 #[.pointer (some ⟨p, 0, none⟩), .string tk] wr fun e w' => ∃ bo cp, e = .returned (.tuple #[.agg #[.int .i64 ((j : Int) + 1), .string tk, .string ct, .int .i64 ep, .slice bo XN cp], .bool true]) ∧ Hid (HV w' bo cp dp) ∧ Below wr.heap.size wr w') := by
            have h1 := HSR.out.token tk HOX.out.ok.ht
            rw [HFD.out] at h1
            refine h1.mono ?_
            rintro e w' ⟨bo, cp, rfl, h2, _, h4⟩
            refine ⟨bo, cp, ?_, h2, h4⟩
            simp only [OrM.val, Option.getD_some, Option.isSome_some]
            rw [HXN.out]
          have HGT : Hid (∀ V, Below wr.heap.size wr V → Calls Try.prog 18 #[.pointer (some ⟨p, 0, none⟩), .int .i64 ((j : Int) + 1)] V fun e w' => ∃ bo cp, e = .returned (.tuple #[.agg #[.int .i64 ((j : Int) + 1), .string tk, .string ct, .int .i64 ep, .slice bo XN cp], .bool true]) ∧ Hid (HV w' bo cp dp) ∧ Below V.heap.size V w') := fun V hV => by
            have h1 := (HSR.out.below hV).get ((j : Int) + 1) (i64J (Nat.le_trans hj HFE.out))
            rw [HGD.out] at h1
            refine h1.mono ?_
            rintro e w' ⟨bo, cp, rfl, h2, _, h4⟩
            refine ⟨bo, cp, ?_, h2, h4⟩
            simp only [OrM.val, Option.getD_some, Option.isSome_some]
            rw [HXN.out]
          have hw1 : wrap64 ((j : Int) + 1) = (j : Int) + 1 := wrapJ (Nat.le_trans hj HFE.out)
          clear hbb
          go_wp2_with fail
          refine HTK.out.mono ?_
          rintro e w6 ⟨bo6, cp6, rfl, HV6, hb6⟩
          obtain ⟨W7, hW7⟩ : ∃ V, V = w6.alloc (.cells #[.int .i64 ((j : Int) + 1), .string tk, .string ct, .int .i64 ep, .slice bo6 XN cp6] 32) := ⟨_, rfl⟩
          have hb67 : Below w6.heap.size w6 W7 := by rw [hW7]; exact (Below.refl _ _).alloc (Nat.le_refl _) _
          have HB7 := hid (bt' hb6 hb67)
          have HV7 := hid (HV6.out.below hb67)
          have HK7 : Hid (Blk W7 w6.heap.size 32 [.int .i64 ((j : Int) + 1), .string tk, .string ct, .int .i64 ep, .slice bo6 XN cp6]) := by rw [hW7]; exact Blk.new _ _ _
          obtain ⟨q1, hq1⟩ : ∃ q, q = w6.heap.size := ⟨_, rfl⟩
          rw [← hq1] at HK7
          have HW7 := hid hW7
          have HQ1 := hid hq1
          have HG7 := hid (HGT.out W7 HB7.out)
          clear hb6 hb67 hW7 hq1
          go_wp2_with fail
          rw [← HW7.out, ← HQ1.out]
          refine HG7.out.mono ?_
          rintro e w8 ⟨bo8, cp8, rfl, HV8, hb8⟩
          obtain ⟨W9, hW9⟩ : ∃ V, V = w8.alloc (.cells #[.int .i64 ((j : Int) + 1), .string tk, .string ct, .int .i64 ep, .slice bo8 XN cp8] 32) := ⟨_, rfl⟩
          have hb89 : Below w8.heap.size w8 W9 := by rw [hW9]; exact (Below.refl _ _).alloc (Nat.le_refl _) _
          have HB79 := hid (bt' hb8 hb89)
          have HB9 := hid (bt' HB7.out HB79.out)
          have HK9 := hid (HK7.out.below HB79.out HK7.out.lt)
          have HV9 := hid (HV7.out.below HB79.out)
          have HU9 := hid (HV8.out.below hb89)
          have HJ9 : Hid (Blk W9 w8.heap.size 32 [.int .i64 ((j : Int) + 1), .string tk, .string ct, .int .i64 ep, .slice bo8 XN cp8]) := by rw [hW9]; exact Blk.new _ _ _
          obtain ⟨q2, hq2⟩ : ∃ q, q = w8.heap.size := ⟨_, rfl⟩
          rw [← hq2] at HJ9
          have HW9 := hid hW9
          have HQ2 := hid hq2
          have HO9 := hid (HOX.out.below HB9.out).ok.cut
          have HH9 := hid ((HH.out.below HBR.out).below HB9.out)
          clear hb8 hb89 hW9 hq2 g0 g1 g2 g3 g4
          go_wp2
          rw [← HW9.out, ← HQ2.out]
          have hbn : (((j : Int) + 1) != ((j : Int) + 1)) = false := by simp
          have hwi : IntKind.i64.wrap ((j : Int) + 1) = (j : Int) + 1 := addO (Nat.lt_of_lt_of_le hjl HFE.out)
          have HSM1 : Hid (∀ V, ScO W9 V → Calls Try.prog 12 #[.agg #[.int .i64 ((j : Int) + 1), .string tk, .string ct, .int .i64 ep, .slice bo6 XN cp6], .agg #[.int .i64 ((j : Int) + 1), .string tk, .string ct, .int .i64 ep, .slice bo8 XN cp8]] V fun e w' => e = .returned (.bool true) ∧ ScO W9 w') := fun V hV =>
            (sameOrder_any V _ tk ct ep dp bo6 bo8 cp6 cp8 XN HXN.out (HV9.out.below hV.out) (HU9.out.below hV.out)).mono (fun e w' hh => ⟨hh.1, hV.go hh.2⟩)
          have HSM2 : Hid (∀ V, ScO W9 V → Calls Try.prog 12 #[.agg #[.int .i64 ((j : Int) + 1), .string tk, .string ct, .int .i64 ep, .slice bo6 XN cp6], .agg #[.int .i64 ((j : Int) + 1), .string tk, .string ct, .int .i64 ep, .slice ao1 XN cap1]] V fun e w' => e = .returned (.bool true) ∧ ScO W9 w') := fun V hV =>
            (sameOrder_any V _ tk ct ep dp bo6 ao1 cp6 cap1 XN HXN.out (HV9.out.below hV.out) (HO9.out.below hV.out)).mono (fun e w' hh => ⟨hh.1, hV.go hh.2⟩)
          have HSA : Hid (∀ V, ScO W9 V → (ScO W9 V ∧ V.cell? ⟨q1, 0, none⟩ = some (.int .i64 ((j : Int) + 1)) ∧ V.cell? ⟨q1, 1, none⟩ = some (.string tk) ∧ V.cell? ⟨q1, 2, none⟩ = some (.string ct) ∧ V.cell? ⟨q1, 3, none⟩ = some (.int .i64 ep) ∧ V.cell? ⟨q1, 4, none⟩ = some (.slice bo6 XN cp6) ∧ V.cell? ⟨q2, 0, none⟩ = some (.int .i64 ((j : Int) + 1)) ∧ V.cell? ⟨q2, 1, none⟩ = some (.string tk) ∧ V.cell? ⟨q2, 2, none⟩ = some (.string ct) ∧ V.cell? ⟨q2, 3, none⟩ = some (.int .i64 ep) ∧ V.cell? ⟨q2, 4, none⟩ = some (.slice bo8 XN cp8) ∧ V.cell? ⟨bb, off + j * 5, none⟩ = some (.int .i64 ((j : Int) + 1)) ∧ V.cell? ⟨bb, off + j * 5 + 1, none⟩ = some (.string tk) ∧ V.cell? ⟨bb, off + j * 5 + 2, none⟩ = some (.string ct) ∧ V.cell? ⟨bb, off + j * 5 + 3, none⟩ = some (.int .i64 ep) ∧ V.cell? ⟨bb, off + j * 5 + 4, none⟩ = some (.slice ao1 XN cap1))) := fun V hV => by
            have h1 := HK9.out.below hV.out HK9.out.lt
            have h2 := HJ9.out.below hV.out HJ9.out.lt
            obtain ⟨b', o', he, _, f0, f1, f2, f3, f4⟩ := (HH9.out.below hV.out).at hjx.out
            cases he
            rw [HX.out] at f0 f1 f2 f3 f4
            simp only at f0 f1 f2 f3 f4
            rw [HXN.out] at f4
            exact ⟨hV, h1.cell rfl, h1.cell rfl, h1.cell rfl, h1.cell rfl, h1.cell rfl, h2.cell rfl, h2.cell rfl, h2.cell rfl, h2.cell rfl, h2.cell rfl, f0, f1, f2, f3, f4⟩
          have HB59 : Hid (Below w5.heap.size w5 W9) := bt' HBR.out HB9.out
          apply wp_share0 (S := fun V => ScO W9 V)
          · go_region_held3 (fun V => ScO W9 V ∧ V.cell? ⟨q1, 0, none⟩ = some (.int .i64 ((j : Int) + 1)) ∧ V.cell? ⟨q1, 1, none⟩ = some (.string tk) ∧ V.cell? ⟨q1, 2, none⟩ = some (.string ct) ∧ V.cell? ⟨q1, 3, none⟩ = some (.int .i64 ep) ∧ V.cell? ⟨q1, 4, none⟩ = some (.slice bo6 XN cp6) ∧ V.cell? ⟨q2, 0, none⟩ = some (.int .i64 ((j : Int) + 1)) ∧ V.cell? ⟨q2, 1, none⟩ = some (.string tk) ∧ V.cell? ⟨q2, 2, none⟩ = some (.string ct) ∧ V.cell? ⟨q2, 3, none⟩ = some (.int .i64 ep) ∧ V.cell? ⟨q2, 4, none⟩ = some (.slice bo8 XN cp8) ∧ V.cell? ⟨bb, off + j * 5, none⟩ = some (.int .i64 ((j : Int) + 1)) ∧ V.cell? ⟨bb, off + j * 5 + 1, none⟩ = some (.string tk) ∧ V.cell? ⟨bb, off + j * 5 + 2, none⟩ = some (.string ct) ∧ V.cell? ⟨bb, off + j * 5 + 3, none⟩ = some (.int .i64 ep) ∧ V.cell? ⟨bb, off + j * 5 + 4, none⟩ = some (.slice ao1 XN cap1))
              ((refine HSA.out _ ?_; (repeat (first | with_reducible assumption | exact ScO.start _ | apply ScO.dr))))
              (first
                | (go_at_call 12; with_reducible refine (HSM1.out _ (by (repeat (first | with_reducible assumption | exact ScO.start _ | apply ScO.dr)))).mono ?_; rintro e x5 ⟨rfl, hs5⟩)
                | (go_at_call 12; with_reducible refine (HSM2.out _ (by (repeat (first | with_reducible assumption | exact ScO.start _ | apply ScO.dr)))).mono ?_; rintro e x6 ⟨rfl, hs6⟩))
            all_goals
              rename_i hHeld
              exact NoPanic.normal ⟨rfl, rfl, hHeld.1⟩
          rintro W10 hs10
          have HBN : Hid (Below w5.heap.size w5 W10) := bt' HB59.out hs10.out
          clear hs10 HSM1 HSM2 HSA
          go_wp2
          go_roundw
          case rel => exact ⟨j + 1, HJM.out, by go_num, HBN.out⟩
          case measure => first | exact measW HJM.out hw1 | exact meas1 HJM.out
        · have hjl' : ¬ (j : Int) < (N : Int) := by omega
          go_wp2
          go_ret
          exact ⟨rfl, bt' HB5.out HBR.out⟩
end Go.Proofs.Ytfokmldfnkonpaa
