/-
  Package lin: inTurn, Check.
-/
import Derived.Test.YtfjmhfbmphdjiaaLnJ
namespace Go.Proofs.Ytfjmhfbmphdjiaa
open Go.RowKit Go.Maps

theorem filter_ofT {xs : List Sn} {t : ByteArray} {q : Sn → Bool} : (ofT xs t).filter (fun s => decide (s.tok = t) && q s) = xs.filter (fun s => decide (s.tok = t) && q s) := by
  unfold ofT
  rw [List.filter_filter]
  apply List.filter_congr
  intro s _
  cases decide (s.tok = t) <;> simp
theorem firstL_ofT (xs : List Sn) (t : ByteArray) : firstL (ofT xs t) t = firstL xs t := by
  unfold firstL begsL nonsL
  rw [filter_ofT, filter_ofT]
theorem lastL_ofT (xs : List Sn) (t : ByteArray) (i : Int) : lastL (ofT xs t) t i = lastL xs t i := by
  unfold lastL endsL
  rw [filter_ofT]
/-- Can the orders of these tokens, from number k + 1 on, come one by one from moment m on? -/
def turnsL (xs : List Sn) : Int → Nat → List ByteArray → Bool
  | _, _, [] => true
  | m, k, t :: r => if lastL xs t ((k : Int) + 1) < max m (firstL xs t) ∨ max m (firstL xs t) = MT then false else turnsL xs (max m (firstL xs t)) (k + 1) r
theorem turns_step {xs : List Sn} {m : Int} {k : Nat} {ts : List ByteArray} (hk : k < ts.length) : turnsL xs m k (ts.drop k) = if lastL xs (ts.getD k ByteArray.empty) ((k : Int) + 1) < max m (firstL xs (ts.getD k ByteArray.empty)) ∨ max m (firstL xs (ts.getD k ByteArray.empty)) = MT then false else turnsL xs (max m (firstL xs (ts.getD k ByteArray.empty))) (k + 1) (ts.drop (k + 1)) := by
  rw [List.drop_eq_getElem_cons hk]
  simp only [List.getD, List.getElem?_eq_getElem hk, Option.getD]
  rfl
set_option maxRecDepth 1000000 in
set_option maxHeartbeats 2000000 in
theorem inTurn_any (w : World) (lo : Option Addr) (lc : Nat) (xs : List Sn) (n : Nat) (hn : xs.length = n) (hx : HeldSn w lo xs) (hlx : n ≤ 2932031007402) (ao : Option Addr) (cap : Nat) (ts : List ByteArray) (m : Nat) (hm : ts.length = m) (h : HeldStr w ao ts) (hl : m ≤ 8796093022208) :
    Calls Try.prog 17 #[.slice lo n lc, .slice ao m cap] w (SaysB w (turnsL xs 0 0 ts)) := by
  have HBT := hid (byToken_any w lo lc xs n hn hx hlx)
  have HNX : Hid (xs.length ≤ 2932031007402) := by rw [hn]; exact hlx
  have HAL := hid hx.1
  have HM := hid hm
  have H := hid h
  have HL := hid hl
  clear hn hx hlx hm h
  obtain ⟨A, HA⟩ : ∃ A, Hid (turnsL xs 0 0 ts = A) := ⟨_, hid rfl⟩
  rw [HA.out]
  go_enter Try.func17, Try.ntmps17
  go_wp2_with fail
  refine HBT.out.mono ?_
  rintro e w1 ⟨mm, N, D, rfl, hrows, hb1⟩
  have HRO := hid hrows
  have HB1 := hid hb1
  clear hrows hb1 HBT
  go_wp2
  go_loopw [6, 7, 8, 9, 10, 15] (fun s6 _ _ _ _ i wr => ∃ k : Nat, ∃ y : Int, k ≤ m ∧ i = .int .i64 k ∧ s6 = .int .i64 y ∧ Hid (turnsL xs y k (ts.drop k) = A ∧ Below w1.heap.size w1 wr)) (fun _ _ _ _ _ i _ => m - (intOf i).toNat)
  case atStart => exact ⟨0, 0, Nat.zero_le _, rfl, rfl, HA.out, Below.refl _ _⟩
  case round =>
    obtain ⟨k, y, hk, rfl, rfl, HR⟩ := hrel
    by_cases hlt : k < m
    · have hlt' : (k : Int) < (m : Int) := by omega
      have hkx : Hid (k < ts.length) := (by rw [HM.out]; exact hlt : k < ts.length)
      obtain ⟨bb, off, hao, _, g0⟩ := (H.out.below (bt' HB1.out HR.out.2)).at hkx.out
      have HSZ := hid (H.out.sizeD hkx.out)
      have HKM : Hid (k + 1 ≤ m) := (by omega : k + 1 ≤ m)
      have HST := hid (turns_step (xs := xs) (m := y) hkx.out)
      have HTA := hid HR.out.1
      rw [HST.out] at HTA
      clear HST
      subst hao
      obtain ⟨T, HT⟩ : ∃ T, Hid (ts.getD k ByteArray.empty = T) := ⟨_, hid rfl⟩
      rw [HT.out] at g0 HSZ HTA
      obtain ⟨v, hv, hdo⟩ := (HRO.out.below HR.out.2).at T
      have hlk := (HRO.out.below HR.out.2).lookup HSZ.out hv
      obtain ⟨vo, vc, hvs, _, hvh⟩ := heldSn_of_own rfl hdo (fun x hx => HAL.out x (List.mem_filter.1 hx).1)
      subst hvs
      have HBO := hid (bounds_any wr vo vc (ofT xs T) (ofT xs T).length rfl hvh (Nat.le_trans (ofT_len xs T) HNX.out) T ((k : Int) + 1))
      rw [firstL_ofT, lastL_ofT] at HBO
      obtain ⟨FI, HFI⟩ : ∃ z, Hid (firstL xs T = z) := ⟨_, hid rfl⟩
      obtain ⟨LA, HLA⟩ : ∃ z, Hid (lastL xs T ((k : Int) + 1) = z) := ⟨_, hid rfl⟩
      rw [HFI.out, HLA.out] at HBO HTA
      obtain ⟨ln, HLN⟩ : ∃ z, Hid ((ofT xs T).length = z) := ⟨_, hid rfl⟩
      rw [HLN.out] at HBO hlk
      have hw1 : wrap64 ((k : Int) + 1) = (k : Int) + 1 := wrapS (by omega) (by have := HL.out; omega)
      clear hv hdo hvh
      go_wp2_with fail
      refine HBO.out.mono ?_
      rintro e w2 ⟨rfl, hb2⟩
      have HB2 := hid (bt' HR.out.2 hb2)
      clear hb2 hw1 hlk HBO g0
      by_cases hmx : y < FI
      · have e1 : max y FI = FI := by omega
        rw [e1] at HTA
        clear e1
        by_cases h1 : LA < FI
        · have HAF : Hid (A = false) := by rw [← HTA.out, if_pos (.inl h1)]; exact rfl
          go_wp2
          go_ret
          exact ⟨by rw [HAF.out]; rfl, bt' HB1.out HB2.out⟩
        · by_cases h2 : FI = 4611686018427387904
          · have HAF : Hid (A = false) := by rw [← HTA.out, if_pos (.inr h2)]; exact rfl
            subst h2
            go_wp2
            go_ret
            exact ⟨by rw [HAF.out]; rfl, bt' HB1.out HB2.out⟩
          · have HAN : Hid (turnsL xs FI (k + 1) (ts.drop (k + 1)) = A) := by
              have := HTA.out
              rw [if_neg (by rintro (h | h); exact h1 h; exact h2 h)] at this
              exact this
            have h3 : (FI == 4611686018427387904) = false := by simpa using h2
            go_wp2
            go_roundw
            case rel => exact ⟨k + 1, FI, HKM.out, by go_num, rfl, HAN.out, HB2.out⟩
            case measure => simp [intOf]; have := HKM.out; omega
      · have e1 : max y FI = y := by omega
        rw [e1] at HTA
        clear e1
        by_cases h1 : LA < y
        · have HAF : Hid (A = false) := by rw [← HTA.out, if_pos (.inl h1)]; exact rfl
          go_wp2
          go_ret
          exact ⟨by rw [HAF.out]; rfl, bt' HB1.out HB2.out⟩
        · by_cases h2 : y = 4611686018427387904
          · have HAF : Hid (A = false) := by rw [← HTA.out, if_pos (.inr h2)]; exact rfl
            subst h2
            go_wp2
            go_ret
            exact ⟨by rw [HAF.out]; rfl, bt' HB1.out HB2.out⟩
          · have HAN : Hid (turnsL xs y (k + 1) (ts.drop (k + 1)) = A) := by
              have := HTA.out
              rw [if_neg (by rintro (h | h); exact h1 h; exact h2 h)] at this
              exact this
            have h3 : (y == 4611686018427387904) = false := by simpa using h2
            go_wp2
            go_roundw
            case rel => exact ⟨k + 1, y, HKM.out, by go_num, rfl, HAN.out, HB2.out⟩
            case measure => simp [intOf]; have := HKM.out; omega
    · have hlt' : ¬ (k : Int) < (m : Int) := by omega
      have HAT : Hid (A = true) := by
        have := HR.out.1
        rw [List.drop_eq_nil_of_le (by have := HM.out; omega)] at this
        exact this.symm
      go_wp2
      go_ret
      exact ⟨by rw [HAT.out]; rfl, bt' HB1.out HR.out.2⟩
/-- What Check tells. -/
def checkL (xs : List Sn) (ts : List ByteArray) : Int := if (xs.any fun s => !mayS s) || !decide ts.Nodup then 1 else if !idsL xs ts || !turnsL xs 0 0 ts then 250 else 0
set_option maxRecDepth 1000000 in
set_option maxHeartbeats 2000000 in
theorem check_any (w : World) (lo : Option Addr) (lc : Nat) (xs : List Sn) (n : Nat) (hn : xs.length = n) (hx : HeldSn w lo xs) (hlx : n ≤ 2932031007402) (ao : Option Addr) (cap : Nat) (ts : List ByteArray) (m : Nat) (hm : ts.length = m) (h : HeldStr w ao ts) (hl : m ≤ 8796093022208) :
    Calls Try.prog 9 #[.slice lo n lc, .slice ao m cap] w (SaysI w (checkL xs ts)) := by
  have HSO : Hid (∀ V, Below w.heap.size w V → Calls Try.prog 13 #[.slice lo n lc, .func (.func 14) #[] #[]] V (SaysB V (xs.any fun s => !mayS s))) := fun V hV => by
    rw [← hn]
    exact someC_any V lo lc xs (hx.below hV) (by omega)
  have HTW : Hid (∀ V, Below w.heap.size w V → Calls Try.prog 16 #[.slice ao m cap] V (SaysB V (!decide ts.Nodup))) := fun V hV => twice_any V ao cap ts m hm (h.below hV) hl
  have HID : Hid (∀ V, Below w.heap.size w V → Calls Try.prog 12 #[.slice lo n lc, .slice ao m cap] V (SaysB V (idsL xs ts))) := fun V hV => by
    rw [← hn, ← hm]
    exact ids_any V lo lc xs (hx.below hV) (by omega) ao cap ts (h.below hV) (by omega)
  have HTU : Hid (∀ V, Below w.heap.size w V → Calls Try.prog 17 #[.slice lo n lc, .slice ao m cap] V (SaysB V (turnsL xs 0 0 ts))) := fun V hV => inTurn_any V lo lc xs n hn (hx.below hV) hlx ao cap ts m hm (h.below hV) hl
  clear hn hx hlx hm h hl
  obtain ⟨R, HRE⟩ : ∃ R, Hid (checkL xs ts = R) := ⟨_, hid rfl⟩
  rw [HRE.out]
  have HRR : Hid (R = if (xs.any fun s => !mayS s) || !decide ts.Nodup then 1 else if !idsL xs ts || !turnsL xs 0 0 ts then 250 else 0) := HRE.out.symm
  clear HRE
  generalize (xs.any fun s => !mayS s) = A1 at *
  generalize (!decide ts.Nodup) = A2 at *
  generalize idsL xs ts = A3 at *
  generalize turnsL xs 0 0 ts = A4 at *
  go_enter Try.func9, Try.ntmps9
  go_wp2_with fail
  refine (HSO.out _ (Below.refl _ _)).mono ?_
  rintro e w1 ⟨rfl, hb1⟩
  have HB1 := hid hb1
  clear hb1
  cases A1 with
  | true =>
    go_wp2
    go_ret
    exact ⟨by rw [HRR.out]; rfl, HB1.out⟩
  | false =>
    go_wp2_with fail
    refine (HTW.out _ HB1.out).mono ?_
    rintro e w2 ⟨rfl, hb2⟩
    have HB2 := hid (bt' HB1.out hb2)
    clear hb2
    cases A2 with
    | true =>
      go_wp2
      go_ret
      exact ⟨by rw [HRR.out]; rfl, HB2.out⟩
    | false =>
      go_wp2_with fail
      refine (HID.out _ HB2.out).mono ?_
      rintro e w3 ⟨rfl, hb3⟩
      have HB3 := hid (bt' HB2.out hb3)
      clear hb3
      cases A3 with
      | false =>
        go_wp2
        go_ret
        exact ⟨by rw [HRR.out]; rfl, HB3.out⟩
      | true =>
        go_wp2_with fail
        refine (HTU.out _ HB3.out).mono ?_
        rintro e w4 ⟨rfl, hb4⟩
        have HB4 := hid (bt' HB3.out hb4)
        clear hb4
        cases A4 with
        | false =>
          go_wp2
          go_ret
          exact ⟨by rw [HRR.out]; rfl, HB4.out⟩
        | true =>
          go_wp2
          go_ret
          exact ⟨by rw [HRR.out]; rfl, HB4.out⟩
end Go.Proofs.Ytfjmhfbmphdjiaa
