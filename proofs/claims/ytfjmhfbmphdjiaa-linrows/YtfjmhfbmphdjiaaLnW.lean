/-
  pannierref25.Try: its contract, by induction on how many sights have not stood.
-/
import Derived.Test.YtfjmhfbmphdjiaaLnV
namespace Go.Proofs.Ytfjmhfbmphdjiaa
open Go.RowKit Go.Maps

/-- Try answers so of every row of bools with at most N that have not stood. -/
def TryUp (lo : Option Addr) (lc : Nat) (xs : List Sn) (n : Nat) (ao : Option Addr) (cap : Nat) (ts : List ByteArray) (m : Nat) (N : Nat) : Prop :=
  ∀ (w : World) (bo : Option Addr) (bc : Nat) (hs : List Bool) (md : Nat) (M : Int), M = (md : Int) → hs.length = n → HeldSn w lo xs → HeldStr w ao ts → HeldBo w bo hs → md ≤ m → leftN (hvOf hs) hs.length ≤ N →
    Calls Try.prog 10 #[.slice lo n lc, .slice ao m cap, .slice bo n bc, .int .i64 M] w (SaysB w (tryB xs ts hs md))
/-- What may be called behind the sight k. -/
def TryNext (lo : Option Addr) (lc : Nat) (xs : List Sn) (n : Nat) (ao : Option Addr) (cap : Nat) (ts : List ByteArray) (m : Nat) (hs : List Bool) (k : Nat) (w : World) : Prop :=
  ∀ (V : World) (bo : Option Addr) (bc : Nat) (md : Nat) (M : Int), M = (md : Int) → Below w.heap.size w V → HeldBo V bo (hs.set k true) → md ≤ m →
    Calls Try.prog 10 #[.slice lo n lc, .slice ao m cap, .slice bo n bc, .int .i64 M] V (SaysB V (tryB xs ts (hs.set k true) md))
set_option maxRecDepth 100000 in
set_option maxHeartbeats 4000000 in
theorem try_step (lo : Option Addr) (lc : Nat) (xs : List Sn) (n : Nat) (hn : xs.length = n) (ao : Option Addr) (cap : Nat) (ts : List ByteArray) (m : Nat) (hm : ts.length = m) (hln : n ≤ 1000) (hlm : m ≤ 1000)
    (w : World) (bo : Option Addr) (bc : Nat) (hs : List Bool) (md : Nat) (M : Int) (hM : M = (md : Int)) (hl : hs.length = n) (hx : HeldSn w lo xs) (ht : HeldStr w ao ts) (hb : HeldBo w bo hs) (hmd : md ≤ m)
    (hnext : ∀ k, k < n → ∀ b, MayN xs (hvOf hs) k b → TryNext lo lc xs n ao cap ts m hs k w) :
    Calls Try.prog 10 #[.slice lo n lc, .slice ao m cap, .slice bo n bc, .int .i64 M] w (SaysB w (tryB xs ts hs md)) := by
  subst hM
  obtain ⟨Z, HZ⟩ : ∃ z, Hid (tryB xs ts hs md = z) := ⟨_, hid rfl⟩
  rw [HZ.out]
  have HI : Hid (TryIs xs ts hs md Z) := by rw [← HZ.out]; exact tryB_iff
  have H := hid hx
  have HT := hid ht
  have HB := hid hb
  have HN := hid hn
  have HM := hid hm
  have HL := hid hl
  have HLN := hid hln
  have HLM := hid hlm
  have HMD := hid hmd
  have HNX := hid hnext
  obtain ⟨d, HD⟩ : ∃ d, Hid (decide ((md : Int) = (m : Int)) = d) := ⟨_, hid rfl⟩
  have HD1 : Hid (d = true ↔ md = ts.length) := by
    rw [← HD.out, HM.out, decide_eq_true_eq]
    constructor
    · intro h; omega
    · intro h; omega
  have hd0 : ((md : Int) == (m : Int)) = d := by
    rw [← HD.out]
    rfl
  have hwm : wrap64 ((md : Int) + 1) = (md : Int) + 1 := wrapS (by omega) (by have := HMD.out; have := HLM.out; omega)
  clear hx ht hb hn hm hl hln hlm hmd hnext HZ HD
  go_enter Try.func10, Try.ntmps10
  go_wp2
  go_loop [9, 10] (fun s9 s10 => ∃ k : Nat, ∃ D : Bool, k ≤ n ∧ s10 = .int .i64 k ∧ s9 = .bool D ∧ Hid (doneTo xs hs d k = D)) (fun _ s10 => n - (intOf s10).toNat)
  case atStart => exact ⟨0, d, Nat.zero_le _, rfl, rfl, rfl⟩
  case round =>
    obtain ⟨k, D, hk, rfl, rfl, HDN⟩ := hrel
    by_cases hlt : k < n
    · have hlt' : (k : Int) < (n : Int) := by omega
      have HKM : Hid (k + 1 ≤ n) := (by omega : k + 1 ≤ n)
      have HKX : Hid (k < xs.length) := by rw [HN.out]; exact hlt
      have hwk : wrap64 ((k : Int) + 1) = (k : Int) + 1 := wrapS (by omega) (by have := HLN.out; omega)
      obtain ⟨b1, o1, hlo, _, _, _, _, ge, _⟩ := H.out.at HKX.out
      obtain ⟨b2, o2, hbo, _, gk⟩ := HB.out.at (j := k) (by rw [HL.out]; exact hlt)
      obtain ⟨E, HE⟩ : ∃ z, Hid ((xs[k]'HKX.out).e = z) := ⟨_, hid rfl⟩
      obtain ⟨V, HV⟩ : ∃ z, Hid (hs.getD k false = z) := ⟨_, hid rfl⟩
      rw [HE.out] at ge
      rw [HV.out] at gk
      have HDK : Hid (doneTo xs hs d (k + 1) = (D && (V || decide (E = 0)))) := by
        rw [← HDN.out, ← HV.out, ← HE.out]
        show (doneTo xs hs d k && (hs.getD k false || decide ((xs.getD k default).e = 0))) = _
        rw [show xs.getD k default = xs[k]'HKX.out by simp [List.getD, List.getElem?_eq_getElem HKX.out]]
      subst hlo
      subst hbo
      clear HE HV HDN hlt hd0 hwm
      cases D with
      | false =>
        go_wp2
        go_round
        case rel => exact ⟨k + 1, false, HKM.out, by go_num, rfl, by rw [HDK.out]; rfl⟩
        case measure => first | exact measWS HKM.out hwk | exact meas1S HKM.out
      | true =>
        cases V with
        | true =>
          go_wp2
          go_round
          case rel => exact ⟨k + 1, true, HKM.out, by go_num, rfl, by rw [HDK.out]; rfl⟩
          case measure => first | exact measWS HKM.out hwk | exact meas1S HKM.out
        | false =>
          by_cases he : E = 0
          · subst he
            go_wp2
            go_round
            case rel => exact ⟨k + 1, true, HKM.out, by go_num, rfl, by rw [HDK.out]; rfl⟩
            case measure => first | exact measWS HKM.out hwk | exact meas1S HKM.out
          · have HF : Hid (doneTo xs hs d (k + 1) = false) := by rw [HDK.out, decide_eq_false he]; rfl
            have he2 : (E == 0) = false := beq_eq_false_iff_ne.2 he
            clear HDK
            go_wp2
            go_round
            case rel => exact ⟨k + 1, false, HKM.out, by go_num, rfl, HF.out⟩
            case measure => first | exact measWS HKM.out hwk | exact meas1S HKM.out
    · have hlt' : ¬ (k : Int) < (n : Int) := by omega
      have HDA : Hid (doneTo xs hs d xs.length = D) := by
        have : k = xs.length := by have := HN.out; omega
        rw [← this]
        exact HDN.out
      clear HDN hd0
      cases D with
      | true =>
        have HF : Hid (Z = true) := HI.out.done HD1.out.1 HDA.out
        go_wp2
        go_ret
        exact ⟨by rw [HF.out]; rfl, Below.refl _ _⟩
      | false =>
        go_wp2
        go_loopw [11, 12, 13, 14, 15] (fun s11 _ _ _ _ wr => ∃ k : Nat, k ≤ n ∧ s11 = .int .i64 k ∧ Hid (Below w.heap.size w wr ∧ NoTo xs ts hs md k)) (fun s11 _ _ _ _ _ => n - (intOf s11).toNat)
        case atStart => exact ⟨0, Nat.zero_le _, rfl, Below.refl _ _, fun i h => (by omega)⟩
        case round =>
          clear hlt hlt' hk
          obtain ⟨k, hk, rfl, HR⟩ := hrel
          by_cases hlt : k < n
          · have hlt' : (k : Int) < (n : Int) := by omega
            have HKM : Hid (k + 1 ≤ n) := (by omega : k + 1 ≤ n)
            have HKX : Hid (k < xs.length) := by rw [HN.out]; exact hlt
            have HKH : Hid (k < hs.length) := by rw [HL.out]; exact hlt
            have hwk : wrap64 ((k : Int) + 1) = (k : Int) + 1 := wrapS (by omega) (by have := HLN.out; omega)
            have HMAY := hid (may_any wr lo lc xs n HN.out (H.out.below HR.out.1) bo bc hs HL.out (HB.out.below HR.out.1) HLN.out k HKX.out)
            obtain ⟨MB, HMB⟩ : ∃ z, Hid (mayB xs (hvOf hs) k (xs[k]'HKX.out).b = z) := ⟨_, hid rfl⟩
            rw [HMB.out] at HMAY
            have HNO := hid HR.out.2
            have HRB := hid HR.out.1
            clear HR hlt
            go_wp2_with fail
            refine HMAY.out.mono ?_
            rintro e w1 ⟨rfl, hb1⟩
            have HB1 : Hid (Below w.heap.size w w1) := bt' HRB.out hb1
            clear hb1 HRB HMAY
            cases MB with
            | false =>
              have HG : Hid (NoTo xs ts hs md (k + 1)) := HNO.out.notMay HKX.out HMB.out
              go_wp2
              go_roundw
              case rel => exact ⟨k + 1, HKM.out, by go_num, HB1.out, HG.out⟩
              case measure => first | exact measWS HKM.out hwk | exact meas1S HKM.out
            | true =>
              have HMAY := hid (mayB_iff.1 HMB.out)
              have HAT := hid (AtK.of HI.out HNO.out HKX.out (by rw [HL.out, HN.out]) HMAY.out)
              have HNX1 := hid (HNX.out k HKM.out _ HMAY.out)
              obtain ⟨b1, o1, hlo, hb1l, g0, g1, g2, g3, g4⟩ := (H.out.below HB1.out).at HKX.out
              have HNUM := hid (number_any w1 (xs[k]'HKX.out).tok ao cap ts m HM.out (HT.out.below HB1.out) (by have := HLM.out; omega))
              obtain ⟨q, HQ⟩ : ∃ z, Hid (numL ts (xs[k]'HKX.out).tok = z) := ⟨_, hid rfl⟩
              rw [HQ.out] at HAT HNUM
              have HQM : Hid (q ≤ m) := by rw [← HQ.out, ← HM.out]; exact num_le _ _
              obtain ⟨X, HX⟩ : ∃ X, Hid (xs[k]'HKX.out = X) := ⟨_, hid rfl⟩
              rw [HX.out] at g0 g1 g2 g3 g4 HAT HNUM
              clear HX HQ HMAY HMB HNO HNX HI
              obtain ⟨co, tok, sb, se, id⟩ := X
              simp only at g0 g1 g2 g3 g4 HNUM
              have HBB := hid (HB.out.below HB1.out)
              subst hlo
              obtain ⟨b2, o2, hbo, _, _⟩ := HBB.out.at HKH.out
              subst hbo
              clear hb1l
              go_wp2_with fail
              refine HNUM.out.mono ?_
              rintro e w2 ⟨rfl, hw2⟩
              rw [hw2]
              clear hw2 HNUM w2
              have HPOS : Hid (0 < n) := Nat.lt_of_le_of_lt (Nat.zero_le k) HKM.out
              have hqm : (q : Int) < 1001 := by have := HQM.out; have := HLM.out; omega
              clear hqm
              cases co with
              | false =>
                by_cases hq : md < q
                · have hq1 : (md : Int) < (q : Int) := by omega
                  have HTO : Hid (toldI q md = 0) := hid (by unfold toldI; rw [if_pos hq])
                  by_cases he0 : se = 0
                  · as_aux_lemma => (
                      subst he0
                      have HNW : Hid (stepNow q false md = some md) := hid (by unfold stepNow; rw [if_neg (fun h => by cases h.1)])
                      have HLE : Hid (md ≤ m) := by have := HAT.out.le _ HNW.out; rw [HM.out] at this; exact this HMD.out
                      have HY : Hid (tryB xs ts (hs.set k true) md = true → Z = true) := fun hh => HAT.out.yes _ HNW.out (fun h => absurd rfl h) hh
                      have HG : Hid (tryB xs ts (hs.set k true) md = false → NoTo xs ts hs md (k + 1)) := fun hh => HAT.out.no _ HNW.out hh
                      obtain ⟨TB, HTB⟩ : ∃ z, Hid (tryB xs ts (hs.set k true) md = z) := ⟨_, hid rfl⟩
                      rw [HTB.out] at HY HG
                      clear HAT HNW HTO
                      go_wp2_with (at_builtin; refine wpList_copy_bo rfl _ _ rfl w1.heap.size _ rfl (ownB_made w1 _ (Nat.le_refl _)) ⟨b2, o2, none⟩ n bc hs HL.out rfl (HBB.out.below (one_new _ _)) HPOS.out HLN.out ((one_new w1 _).size) ?_; intro b3 c3 w3 hown3 hb3; have HO3 := hid hown3; have HB3 : Hid (Below w1.heap.size w1 w3) := (one_new w1 _).trans hb3; clear hown3 hb3; obtain ⟨g, hg3, hgn⟩ := own_someT HPOS.out HO3.out; subst hg3; obtain ⟨hset, c9, f9⟩ := row_setT HO3.out HKH.out HL.out true; have HSET := hid hset; have HB4 := hid (HB3.out.setCell (p := ⟨g, k, none⟩) hgn (.bool true)); clear hset hgn HO3 HB3)
                      have HC5 := hid (HNX1.out _ _ c3 md (md : Int) rfl (bt' HB1.out HB4.out) HSET.out HLE.out)
                      rw [HTB.out] at HC5
                      have HB5 := hid (bt' HB1.out HB4.out)
                      refine HC5.out.mono ?_
                      rintro e w6 ⟨rfl, hb6⟩
                      have HB6 : Hid (Below w.heap.size w w6) := bt' HB5.out hb6
                      clear hb6 HC5 HB5 HB4 HSET c9 f9 HNX1
                      cases TB with
                      | true =>
                        have HF : Hid (Z = true) := HY.out rfl
                        go_wp2
                        go_ret
                        exact ⟨by rw [HF.out]; rfl, HB6.out⟩
                      | false =>
                        have HF : Hid (NoTo xs ts hs md (k + 1)) := HG.out rfl
                        go_wp2
                        go_roundw
                        case rel => exact ⟨k + 1, HKM.out, by go_num, HB6.out, HF.out⟩
                        case measure => first | exact measWS HKM.out hwk | exact meas1S HKM.out
                      )
                  · by_cases hid0 : id = 0
                    · as_aux_lemma => (
                        subst hid0
                        have he1 : (se != 0) = true := bne_iff_ne.2 he0
                        have HNW : Hid (stepNow q false md = some md) := hid (by unfold stepNow; rw [if_neg (fun h => by cases h.1)])
                        have HLE : Hid (md ≤ m) := by have := HAT.out.le _ HNW.out; rw [HM.out] at this; exact this HMD.out
                        have HY : Hid (tryB xs ts (hs.set k true) md = true → Z = true) := fun hh => HAT.out.yes _ HNW.out (fun _ => HTO.out.symm) hh
                        have HG : Hid (tryB xs ts (hs.set k true) md = false → NoTo xs ts hs md (k + 1)) := fun hh => HAT.out.no _ HNW.out hh
                        obtain ⟨TB, HTB⟩ : ∃ z, Hid (tryB xs ts (hs.set k true) md = z) := ⟨_, hid rfl⟩
                        rw [HTB.out] at HY HG
                        clear HAT HNW HTO
                        go_wp2_with (at_builtin; refine wpList_copy_bo rfl _ _ rfl w1.heap.size _ rfl (ownB_made w1 _ (Nat.le_refl _)) ⟨b2, o2, none⟩ n bc hs HL.out rfl (HBB.out.below (one_new _ _)) HPOS.out HLN.out ((one_new w1 _).size) ?_; intro b3 c3 w3 hown3 hb3; have HO3 := hid hown3; have HB3 : Hid (Below w1.heap.size w1 w3) := (one_new w1 _).trans hb3; clear hown3 hb3; obtain ⟨g, hg3, hgn⟩ := own_someT HPOS.out HO3.out; subst hg3; obtain ⟨hset, c9, f9⟩ := row_setT HO3.out HKH.out HL.out true; have HSET := hid hset; have HB4 := hid (HB3.out.setCell (p := ⟨g, k, none⟩) hgn (.bool true)); clear hset hgn HO3 HB3)
                        have HC5 := hid (HNX1.out _ _ c3 md (md : Int) rfl (bt' HB1.out HB4.out) HSET.out HLE.out)
                        rw [HTB.out] at HC5
                        have HB5 := hid (bt' HB1.out HB4.out)
                        refine HC5.out.mono ?_
                        rintro e w6 ⟨rfl, hb6⟩
                        have HB6 : Hid (Below w.heap.size w w6) := bt' HB5.out hb6
                        clear hb6 HC5 HB5 HB4 HSET c9 f9 HNX1
                        cases TB with
                        | true =>
                          have HF : Hid (Z = true) := HY.out rfl
                          go_wp2
                          go_ret
                          exact ⟨by rw [HF.out]; rfl, HB6.out⟩
                        | false =>
                          have HF : Hid (NoTo xs ts hs md (k + 1)) := HG.out rfl
                          go_wp2
                          go_roundw
                          case rel => exact ⟨k + 1, HKM.out, by go_num, HB6.out, HF.out⟩
                          case measure => first | exact measWS HKM.out hwk | exact meas1S HKM.out
                        )
                    · as_aux_lemma => (
                        have he1 : (se != 0) = true := bne_iff_ne.2 he0
                        have HNW : Hid (stepNow q false md = some md) := hid (by unfold stepNow; rw [if_neg (fun h => by cases h.1)])
                        have HLE : Hid (md ≤ m) := by have := HAT.out.le _ HNW.out; rw [HM.out] at this; exact this HMD.out
                        have HG : Hid (NoTo xs ts hs md (k + 1)) := HAT.out.told _ HNW.out he0 (by show id ≠ _; rw [HTO.out]; exact hid0)
                        have hid1 : (id != 0) = true := bne_iff_ne.2 hid0
                        clear HAT HNX1 HNW HTO
                        go_wp2
                        go_roundw
                        case rel => exact ⟨k + 1, HKM.out, by go_num, HB1.out, HG.out⟩
                        case measure => first | exact measWS HKM.out hwk | exact meas1S HKM.out
                        )
                · have hq1 : ¬ (md : Int) < (q : Int) := by omega
                  have HTO : Hid (toldI q md = (q : Int)) := hid (by unfold toldI; rw [if_neg hq])
                  by_cases he0 : se = 0
                  · as_aux_lemma => (
                      subst he0
                      have HNW : Hid (stepNow q false md = some md) := hid (by unfold stepNow; rw [if_neg (fun h => by cases h.1)])
                      have HLE : Hid (md ≤ m) := by have := HAT.out.le _ HNW.out; rw [HM.out] at this; exact this HMD.out
                      have HY : Hid (tryB xs ts (hs.set k true) md = true → Z = true) := fun hh => HAT.out.yes _ HNW.out (fun h => absurd rfl h) hh
                      have HG : Hid (tryB xs ts (hs.set k true) md = false → NoTo xs ts hs md (k + 1)) := fun hh => HAT.out.no _ HNW.out hh
                      obtain ⟨TB, HTB⟩ : ∃ z, Hid (tryB xs ts (hs.set k true) md = z) := ⟨_, hid rfl⟩
                      rw [HTB.out] at HY HG
                      clear HAT HNW HTO
                      go_wp2_with (at_builtin; refine wpList_copy_bo rfl _ _ rfl w1.heap.size _ rfl (ownB_made w1 _ (Nat.le_refl _)) ⟨b2, o2, none⟩ n bc hs HL.out rfl (HBB.out.below (one_new _ _)) HPOS.out HLN.out ((one_new w1 _).size) ?_; intro b3 c3 w3 hown3 hb3; have HO3 := hid hown3; have HB3 : Hid (Below w1.heap.size w1 w3) := (one_new w1 _).trans hb3; clear hown3 hb3; obtain ⟨g, hg3, hgn⟩ := own_someT HPOS.out HO3.out; subst hg3; obtain ⟨hset, c9, f9⟩ := row_setT HO3.out HKH.out HL.out true; have HSET := hid hset; have HB4 := hid (HB3.out.setCell (p := ⟨g, k, none⟩) hgn (.bool true)); clear hset hgn HO3 HB3)
                      have HC5 := hid (HNX1.out _ _ c3 md (md : Int) rfl (bt' HB1.out HB4.out) HSET.out HLE.out)
                      rw [HTB.out] at HC5
                      have HB5 := hid (bt' HB1.out HB4.out)
                      refine HC5.out.mono ?_
                      rintro e w6 ⟨rfl, hb6⟩
                      have HB6 : Hid (Below w.heap.size w w6) := bt' HB5.out hb6
                      clear hb6 HC5 HB5 HB4 HSET c9 f9 HNX1
                      cases TB with
                      | true =>
                        have HF : Hid (Z = true) := HY.out rfl
                        go_wp2
                        go_ret
                        exact ⟨by rw [HF.out]; rfl, HB6.out⟩
                      | false =>
                        have HF : Hid (NoTo xs ts hs md (k + 1)) := HG.out rfl
                        go_wp2
                        go_roundw
                        case rel => exact ⟨k + 1, HKM.out, by go_num, HB6.out, HF.out⟩
                        case measure => first | exact measWS HKM.out hwk | exact meas1S HKM.out
                      )
                  · by_cases hid0 : id = (q : Int)
                    · as_aux_lemma => (
                        subst hid0
                        have he1 : (se != 0) = true := bne_iff_ne.2 he0
                        have HNW : Hid (stepNow q false md = some md) := hid (by unfold stepNow; rw [if_neg (fun h => by cases h.1)])
                        have HLE : Hid (md ≤ m) := by have := HAT.out.le _ HNW.out; rw [HM.out] at this; exact this HMD.out
                        have HY : Hid (tryB xs ts (hs.set k true) md = true → Z = true) := fun hh => HAT.out.yes _ HNW.out (fun _ => HTO.out.symm) hh
                        have HG : Hid (tryB xs ts (hs.set k true) md = false → NoTo xs ts hs md (k + 1)) := fun hh => HAT.out.no _ HNW.out hh
                        obtain ⟨TB, HTB⟩ : ∃ z, Hid (tryB xs ts (hs.set k true) md = z) := ⟨_, hid rfl⟩
                        rw [HTB.out] at HY HG
                        clear HAT HNW HTO
                        go_wp2_with (at_builtin; refine wpList_copy_bo rfl _ _ rfl w1.heap.size _ rfl (ownB_made w1 _ (Nat.le_refl _)) ⟨b2, o2, none⟩ n bc hs HL.out rfl (HBB.out.below (one_new _ _)) HPOS.out HLN.out ((one_new w1 _).size) ?_; intro b3 c3 w3 hown3 hb3; have HO3 := hid hown3; have HB3 : Hid (Below w1.heap.size w1 w3) := (one_new w1 _).trans hb3; clear hown3 hb3; obtain ⟨g, hg3, hgn⟩ := own_someT HPOS.out HO3.out; subst hg3; obtain ⟨hset, c9, f9⟩ := row_setT HO3.out HKH.out HL.out true; have HSET := hid hset; have HB4 := hid (HB3.out.setCell (p := ⟨g, k, none⟩) hgn (.bool true)); clear hset hgn HO3 HB3)
                        have HC5 := hid (HNX1.out _ _ c3 md (md : Int) rfl (bt' HB1.out HB4.out) HSET.out HLE.out)
                        rw [HTB.out] at HC5
                        have HB5 := hid (bt' HB1.out HB4.out)
                        refine HC5.out.mono ?_
                        rintro e w6 ⟨rfl, hb6⟩
                        have HB6 : Hid (Below w.heap.size w w6) := bt' HB5.out hb6
                        clear hb6 HC5 HB5 HB4 HSET c9 f9 HNX1
                        cases TB with
                        | true =>
                          have HF : Hid (Z = true) := HY.out rfl
                          go_wp2
                          go_ret
                          exact ⟨by rw [HF.out]; rfl, HB6.out⟩
                        | false =>
                          have HF : Hid (NoTo xs ts hs md (k + 1)) := HG.out rfl
                          go_wp2
                          go_roundw
                          case rel => exact ⟨k + 1, HKM.out, by go_num, HB6.out, HF.out⟩
                          case measure => first | exact measWS HKM.out hwk | exact meas1S HKM.out
                        )
                    · as_aux_lemma => (
                        have he1 : (se != 0) = true := bne_iff_ne.2 he0
                        have HNW : Hid (stepNow q false md = some md) := hid (by unfold stepNow; rw [if_neg (fun h => by cases h.1)])
                        have HLE : Hid (md ≤ m) := by have := HAT.out.le _ HNW.out; rw [HM.out] at this; exact this HMD.out
                        have HG : Hid (NoTo xs ts hs md (k + 1)) := HAT.out.told _ HNW.out he0 (by show id ≠ _; rw [HTO.out]; exact hid0)
                        have hid1 : (id != (q : Int)) = true := bne_iff_ne.2 hid0
                        clear HAT HNX1 HNW HTO
                        go_wp2
                        go_roundw
                        case rel => exact ⟨k + 1, HKM.out, by go_num, HB1.out, HG.out⟩
                        case measure => first | exact measWS HKM.out hwk | exact meas1S HKM.out
                        )
              | true =>
                by_cases hq0 : q = 0
                · have HG : Hid (NoTo xs ts hs md (k + 1)) := HAT.out.stop (by unfold stepNow; rw [if_pos ⟨rfl, .inl hq0⟩, if_neg (by omega)])
                  subst hq0
                  have hne : ¬ (0 : Int) = (md : Int) + 1 := by omega
                  clear HAT HNX1
                  go_wp2
                  go_roundw
                  case rel => exact ⟨k + 1, HKM.out, by go_num, HB1.out, HG.out⟩
                  case measure => first | exact measWS HKM.out hwk | exact meas1S HKM.out
                · have hqz : ¬ (q : Int) = 0 := by omega
                  by_cases hq : md < q
                  · by_cases hq2 : q = md + 1
                    · have hq1 : (md : Int) < (md : Int) + 1 := by omega
                      have HNF : Hid (stepNow q true md = some (md + 1)) := hid (by unfold stepNow; rw [if_pos ⟨rfl, .inr hq⟩, if_pos hq2])
                      obtain ⟨Q, hQ⟩ : ∃ Q : Int, (q : Int) = Q := ⟨_, rfl⟩
                      have HMI : Hid (Q = ((md + 1 : Nat) : Int)) := hid (by rw [← hQ, hq2])
                      have hQ1 : (md : Int) < Q := by rw [← hQ]; omega
                      have hQ2 : (Q != (md : Int) + 1) = false := by rw [← hQ, hq2]; simp
                      have hQ3 : ¬ Q = 0 := by rw [← hQ]; exact hqz
                      have HTF : Hid (toldI q (md + 1) = Q) := hid (by unfold toldI; rw [if_neg (by omega)]; exact hQ)
                      rw [hQ]
                      clear hQ hqz hq1 hq2 hq hq0
                      have HTO : Hid (toldI q (md + 1) = Q) := hid (HTF.out)
                      by_cases he0 : se = 0
                      · as_aux_lemma => (
                          subst he0
                          have HNW : Hid (stepNow q true md = some (md + 1)) := hid (HNF.out)
                          have HLE : Hid ((md + 1) ≤ m) := by have := HAT.out.le _ HNW.out; rw [HM.out] at this; exact this HMD.out
                          have HY : Hid (tryB xs ts (hs.set k true) (md + 1) = true → Z = true) := fun hh => HAT.out.yes _ HNW.out (fun h => absurd rfl h) hh
                          have HG : Hid (tryB xs ts (hs.set k true) (md + 1) = false → NoTo xs ts hs md (k + 1)) := fun hh => HAT.out.no _ HNW.out hh
                          obtain ⟨TB, HTB⟩ : ∃ z, Hid (tryB xs ts (hs.set k true) (md + 1) = z) := ⟨_, hid rfl⟩
                          rw [HTB.out] at HY HG
                          clear HAT HNW HTO
                          go_wp2_with (at_builtin; refine wpList_copy_bo rfl _ _ rfl w1.heap.size _ rfl (ownB_made w1 _ (Nat.le_refl _)) ⟨b2, o2, none⟩ n bc hs HL.out rfl (HBB.out.below (one_new _ _)) HPOS.out HLN.out ((one_new w1 _).size) ?_; intro b3 c3 w3 hown3 hb3; have HO3 := hid hown3; have HB3 : Hid (Below w1.heap.size w1 w3) := (one_new w1 _).trans hb3; clear hown3 hb3; obtain ⟨g, hg3, hgn⟩ := own_someT HPOS.out HO3.out; subst hg3; obtain ⟨hset, c9, f9⟩ := row_setT HO3.out HKH.out HL.out true; have HSET := hid hset; have HB4 := hid (HB3.out.setCell (p := ⟨g, k, none⟩) hgn (.bool true)); clear hset hgn HO3 HB3)
                          have HC5 := hid (HNX1.out _ _ c3 (md + 1) Q HMI.out (bt' HB1.out HB4.out) HSET.out HLE.out)
                          rw [HTB.out] at HC5
                          have HB5 := hid (bt' HB1.out HB4.out)
                          refine HC5.out.mono ?_
                          rintro e w6 ⟨rfl, hb6⟩
                          have HB6 : Hid (Below w.heap.size w w6) := bt' HB5.out hb6
                          clear hb6 HC5 HB5 HB4 HSET c9 f9 HNX1
                          cases TB with
                          | true =>
                            have HF : Hid (Z = true) := HY.out rfl
                            go_wp2
                            go_ret
                            exact ⟨by rw [HF.out]; rfl, HB6.out⟩
                          | false =>
                            have HF : Hid (NoTo xs ts hs md (k + 1)) := HG.out rfl
                            go_wp2
                            go_roundw
                            case rel => exact ⟨k + 1, HKM.out, by go_num, HB6.out, HF.out⟩
                            case measure => first | exact measWS HKM.out hwk | exact meas1S HKM.out
                          )
                      · by_cases hid0 : id = Q
                        · as_aux_lemma => (
                            subst hid0
                            have he1 : (se != 0) = true := bne_iff_ne.2 he0
                            have HNW : Hid (stepNow q true md = some (md + 1)) := hid (HNF.out)
                            have HLE : Hid ((md + 1) ≤ m) := by have := HAT.out.le _ HNW.out; rw [HM.out] at this; exact this HMD.out
                            have HY : Hid (tryB xs ts (hs.set k true) (md + 1) = true → Z = true) := fun hh => HAT.out.yes _ HNW.out (fun _ => HTO.out.symm) hh
                            have HG : Hid (tryB xs ts (hs.set k true) (md + 1) = false → NoTo xs ts hs md (k + 1)) := fun hh => HAT.out.no _ HNW.out hh
                            obtain ⟨TB, HTB⟩ : ∃ z, Hid (tryB xs ts (hs.set k true) (md + 1) = z) := ⟨_, hid rfl⟩
                            rw [HTB.out] at HY HG
                            clear HAT HNW HTO
                            go_wp2_with (at_builtin; refine wpList_copy_bo rfl _ _ rfl w1.heap.size _ rfl (ownB_made w1 _ (Nat.le_refl _)) ⟨b2, o2, none⟩ n bc hs HL.out rfl (HBB.out.below (one_new _ _)) HPOS.out HLN.out ((one_new w1 _).size) ?_; intro b3 c3 w3 hown3 hb3; have HO3 := hid hown3; have HB3 : Hid (Below w1.heap.size w1 w3) := (one_new w1 _).trans hb3; clear hown3 hb3; obtain ⟨g, hg3, hgn⟩ := own_someT HPOS.out HO3.out; subst hg3; obtain ⟨hset, c9, f9⟩ := row_setT HO3.out HKH.out HL.out true; have HSET := hid hset; have HB4 := hid (HB3.out.setCell (p := ⟨g, k, none⟩) hgn (.bool true)); clear hset hgn HO3 HB3)
                            have HC5 := hid (HNX1.out _ _ c3 (md + 1) id HMI.out (bt' HB1.out HB4.out) HSET.out HLE.out)
                            rw [HTB.out] at HC5
                            have HB5 := hid (bt' HB1.out HB4.out)
                            refine HC5.out.mono ?_
                            rintro e w6 ⟨rfl, hb6⟩
                            have HB6 : Hid (Below w.heap.size w w6) := bt' HB5.out hb6
                            clear hb6 HC5 HB5 HB4 HSET c9 f9 HNX1
                            cases TB with
                            | true =>
                              have HF : Hid (Z = true) := HY.out rfl
                              go_wp2
                              go_ret
                              exact ⟨by rw [HF.out]; rfl, HB6.out⟩
                            | false =>
                              have HF : Hid (NoTo xs ts hs md (k + 1)) := HG.out rfl
                              go_wp2
                              go_roundw
                              case rel => exact ⟨k + 1, HKM.out, by go_num, HB6.out, HF.out⟩
                              case measure => first | exact measWS HKM.out hwk | exact meas1S HKM.out
                            )
                        · as_aux_lemma => (
                            have he1 : (se != 0) = true := bne_iff_ne.2 he0
                            have HNW : Hid (stepNow q true md = some (md + 1)) := hid (HNF.out)
                            have HLE : Hid ((md + 1) ≤ m) := by have := HAT.out.le _ HNW.out; rw [HM.out] at this; exact this HMD.out
                            have HG : Hid (NoTo xs ts hs md (k + 1)) := HAT.out.told _ HNW.out he0 (by show id ≠ _; rw [HTO.out]; exact hid0)
                            have hid1 : (id != Q) = true := bne_iff_ne.2 hid0
                            clear HAT HNX1 HNW HTO
                            go_wp2
                            go_roundw
                            case rel => exact ⟨k + 1, HKM.out, by go_num, HB1.out, HG.out⟩
                            case measure => first | exact measWS HKM.out hwk | exact meas1S HKM.out
                            )
                    · have HG : Hid (NoTo xs ts hs md (k + 1)) := HAT.out.stop (by unfold stepNow; rw [if_pos ⟨rfl, .inr hq⟩, if_neg hq2])
                      have hq1 : (md : Int) < (q : Int) := by omega
                      have hne : ¬ (q : Int) = (md : Int) + 1 := by omega
                      clear HAT HNX1
                      go_wp2
                      go_roundw
                      case rel => exact ⟨k + 1, HKM.out, by go_num, HB1.out, HG.out⟩
                      case measure => first | exact measWS HKM.out hwk | exact meas1S HKM.out
                  · have hq1 : ¬ (md : Int) < (q : Int) := by omega
                    have HTO : Hid (toldI q md = (q : Int)) := hid (by unfold toldI; rw [if_neg hq])
                    by_cases he0 : se = 0
                    · as_aux_lemma => (
                        subst he0
                        have HNW : Hid (stepNow q true md = some md) := hid (by unfold stepNow; rw [if_neg (fun h => by omega)])
                        have HLE : Hid (md ≤ m) := by have := HAT.out.le _ HNW.out; rw [HM.out] at this; exact this HMD.out
                        have HY : Hid (tryB xs ts (hs.set k true) md = true → Z = true) := fun hh => HAT.out.yes _ HNW.out (fun h => absurd rfl h) hh
                        have HG : Hid (tryB xs ts (hs.set k true) md = false → NoTo xs ts hs md (k + 1)) := fun hh => HAT.out.no _ HNW.out hh
                        obtain ⟨TB, HTB⟩ : ∃ z, Hid (tryB xs ts (hs.set k true) md = z) := ⟨_, hid rfl⟩
                        rw [HTB.out] at HY HG
                        clear HAT HNW HTO
                        go_wp2_with (at_builtin; refine wpList_copy_bo rfl _ _ rfl w1.heap.size _ rfl (ownB_made w1 _ (Nat.le_refl _)) ⟨b2, o2, none⟩ n bc hs HL.out rfl (HBB.out.below (one_new _ _)) HPOS.out HLN.out ((one_new w1 _).size) ?_; intro b3 c3 w3 hown3 hb3; have HO3 := hid hown3; have HB3 : Hid (Below w1.heap.size w1 w3) := (one_new w1 _).trans hb3; clear hown3 hb3; obtain ⟨g, hg3, hgn⟩ := own_someT HPOS.out HO3.out; subst hg3; obtain ⟨hset, c9, f9⟩ := row_setT HO3.out HKH.out HL.out true; have HSET := hid hset; have HB4 := hid (HB3.out.setCell (p := ⟨g, k, none⟩) hgn (.bool true)); clear hset hgn HO3 HB3)
                        have HC5 := hid (HNX1.out _ _ c3 md (md : Int) rfl (bt' HB1.out HB4.out) HSET.out HLE.out)
                        rw [HTB.out] at HC5
                        have HB5 := hid (bt' HB1.out HB4.out)
                        refine HC5.out.mono ?_
                        rintro e w6 ⟨rfl, hb6⟩
                        have HB6 : Hid (Below w.heap.size w w6) := bt' HB5.out hb6
                        clear hb6 HC5 HB5 HB4 HSET c9 f9 HNX1
                        cases TB with
                        | true =>
                          have HF : Hid (Z = true) := HY.out rfl
                          go_wp2
                          go_ret
                          exact ⟨by rw [HF.out]; rfl, HB6.out⟩
                        | false =>
                          have HF : Hid (NoTo xs ts hs md (k + 1)) := HG.out rfl
                          go_wp2
                          go_roundw
                          case rel => exact ⟨k + 1, HKM.out, by go_num, HB6.out, HF.out⟩
                          case measure => first | exact measWS HKM.out hwk | exact meas1S HKM.out
                        )
                    · by_cases hid0 : id = (q : Int)
                      · as_aux_lemma => (
                          subst hid0
                          have he1 : (se != 0) = true := bne_iff_ne.2 he0
                          have HNW : Hid (stepNow q true md = some md) := hid (by unfold stepNow; rw [if_neg (fun h => by omega)])
                          have HLE : Hid (md ≤ m) := by have := HAT.out.le _ HNW.out; rw [HM.out] at this; exact this HMD.out
                          have HY : Hid (tryB xs ts (hs.set k true) md = true → Z = true) := fun hh => HAT.out.yes _ HNW.out (fun _ => HTO.out.symm) hh
                          have HG : Hid (tryB xs ts (hs.set k true) md = false → NoTo xs ts hs md (k + 1)) := fun hh => HAT.out.no _ HNW.out hh
                          obtain ⟨TB, HTB⟩ : ∃ z, Hid (tryB xs ts (hs.set k true) md = z) := ⟨_, hid rfl⟩
                          rw [HTB.out] at HY HG
                          clear HAT HNW HTO
                          go_wp2_with (at_builtin; refine wpList_copy_bo rfl _ _ rfl w1.heap.size _ rfl (ownB_made w1 _ (Nat.le_refl _)) ⟨b2, o2, none⟩ n bc hs HL.out rfl (HBB.out.below (one_new _ _)) HPOS.out HLN.out ((one_new w1 _).size) ?_; intro b3 c3 w3 hown3 hb3; have HO3 := hid hown3; have HB3 : Hid (Below w1.heap.size w1 w3) := (one_new w1 _).trans hb3; clear hown3 hb3; obtain ⟨g, hg3, hgn⟩ := own_someT HPOS.out HO3.out; subst hg3; obtain ⟨hset, c9, f9⟩ := row_setT HO3.out HKH.out HL.out true; have HSET := hid hset; have HB4 := hid (HB3.out.setCell (p := ⟨g, k, none⟩) hgn (.bool true)); clear hset hgn HO3 HB3)
                          have HC5 := hid (HNX1.out _ _ c3 md (md : Int) rfl (bt' HB1.out HB4.out) HSET.out HLE.out)
                          rw [HTB.out] at HC5
                          have HB5 := hid (bt' HB1.out HB4.out)
                          refine HC5.out.mono ?_
                          rintro e w6 ⟨rfl, hb6⟩
                          have HB6 : Hid (Below w.heap.size w w6) := bt' HB5.out hb6
                          clear hb6 HC5 HB5 HB4 HSET c9 f9 HNX1
                          cases TB with
                          | true =>
                            have HF : Hid (Z = true) := HY.out rfl
                            go_wp2
                            go_ret
                            exact ⟨by rw [HF.out]; rfl, HB6.out⟩
                          | false =>
                            have HF : Hid (NoTo xs ts hs md (k + 1)) := HG.out rfl
                            go_wp2
                            go_roundw
                            case rel => exact ⟨k + 1, HKM.out, by go_num, HB6.out, HF.out⟩
                            case measure => first | exact measWS HKM.out hwk | exact meas1S HKM.out
                          )
                      · as_aux_lemma => (
                          have he1 : (se != 0) = true := bne_iff_ne.2 he0
                          have HNW : Hid (stepNow q true md = some md) := hid (by unfold stepNow; rw [if_neg (fun h => by omega)])
                          have HLE : Hid (md ≤ m) := by have := HAT.out.le _ HNW.out; rw [HM.out] at this; exact this HMD.out
                          have HG : Hid (NoTo xs ts hs md (k + 1)) := HAT.out.told _ HNW.out he0 (by show id ≠ _; rw [HTO.out]; exact hid0)
                          have hid1 : (id != (q : Int)) = true := bne_iff_ne.2 hid0
                          clear HAT HNX1 HNW HTO
                          go_wp2
                          go_roundw
                          case rel => exact ⟨k + 1, HKM.out, by go_num, HB1.out, HG.out⟩
                          case measure => first | exact measWS HKM.out hwk | exact meas1S HKM.out
                          )
          · have hlt' : ¬ (k : Int) < (n : Int) := by omega
            have HF : Hid (Z = false) := HI.out.none HD1.out.2 HDA.out (by
              have h1 := HR.out.2
              have : k = xs.length := by have := HN.out; omega
              rw [this] at h1
              exact h1)
            have HRB := hid HR.out.1
            clear HR
            go_wp2
            go_ret
            exact ⟨by rw [HF.out]; rfl, HRB.out⟩
/-- What Try answers. -/
theorem try_any (lo : Option Addr) (lc : Nat) (xs : List Sn) (n : Nat) (hn : xs.length = n) (ao : Option Addr) (cap : Nat) (ts : List ByteArray) (m : Nat) (hm : ts.length = m) (hln : n ≤ 1000) (hlm : m ≤ 1000) : ∀ N : Nat, TryUp lo lc xs n ao cap ts m N
  | 0 => fun w bo bc hs md M hM hl hx ht hb hmd hN => try_step lo lc xs n hn ao cap ts m hm hln hlm w bo bc hs md M hM hl hx ht hb hmd (fun k hk b hmay => (left_none (by omega) hmay hN).elim)
  | N + 1 => fun w bo bc hs md M hM hl hx ht hb hmd hN => try_step lo lc xs n hn ao cap ts m hm hln hlm w bo bc hs md M hM hl hx ht hb hmd (fun k hk b hmay => by
      intro V bo' bc' md' M' hM' hV hh hmd'
      exact try_any lo lc xs n hn ao cap ts m hm hln hlm N V bo' bc' (hs.set k true) md' M' hM' (by simpa using hl) (hx.below hV) (ht.below hV) hh hmd' (left_next (by omega) hmay hN))
end Go.Proofs.Ytfjmhfbmphdjiaa
