/-
  pannierlaw08.VvDots answers true for any two vectors and number.
-/
import Derived.Test.YtkjpaiaepodhbaaVvO
namespace Go.Proofs.Ytkjpaiaepodhbaa
open Go.RowKit Go.Shelf Go.Maps
attribute [local go_sem] Oper.semAt_some

set_option maxRecDepth 100000 in
set_option maxHeartbeats 4000000 in
theorem vvDots_walk (ao : Option Addr) (ca : Nat) (a : List Int) (bo : Option Addr) (cb : Nat) (b : List Int) (most : Int) (w : World) (ha : HV w ao ca a) (hb : HV w bo cb b) (_hm : -9223372036854775808 ≤ most ∧ most ≤ 9223372036854775807) :
    Calls Try.prog 7 #[.slice ao a.length ca, .slice bo b.length cb, .int .i64 most] w fun e w' => e = .returned (.bool true) ∧ Below w.heap.size w w' := by
  clear _hm
  refine (callsIn_wide (n := 5)).1 ?_
  obtain ⟨m, HM⟩ : ∃ l, Hid (a.length = l) := ⟨_, hid rfl⟩
  obtain ⟨m2, HM2⟩ : ∃ l, Hid (b.length = l) := ⟨_, hid rfl⟩
  rw [HM.out, HM2.out]
  have HVA := hid ha
  have HVB := hid hb
  clear ha hb
  refine callsIn_of_wp_marks Try.func7 rfl trivial ?_ rfl
  simp only [Try.ntmps7, List.size_toArray, List.length_cons, List.length_nil, Nat.reduceAdd, Nat.reduceSub, Array.replicate_succ, Array.replicate_zero, List.push_toArray, List.append_toArray, List.nil_append, List.cons_append]
  obtain ⟨W0, hW0⟩ : ∃ W0, W0 = (w.alloc (.cells #[.slice bo m2 cb] 23)).alloc (.cells #[.bool false] 4) := ⟨_, rfl⟩
  have hA : Below w.heap.size w W0 := by rw [hW0]; exact ((Below.refl _ w).alloc (Nat.le_refl _) _).alloc (by simp) _
  have bO : Boxed W0 w.heap.size 23 (.slice bo m2 cb) := by rw [hW0]; exact (Boxed.new w 23 _).alloc _
  have bR : Boxed W0 (w.heap.size + 1) 4 (.bool false) := by
    have := Boxed.new (w.alloc (.cells #[.slice bo m2 cb] 23)) 4 (.bool false)
    rw [World.size_alloc] at this
    rw [hW0]
    exact this
  have hW0s : W0.heap.size = w.heap.size + 2 := by rw [hW0]; simp
  have HA := hid hA
  have HO := hid bO
  have HR := hid bR
  have HWS := hid hW0s
  clear hA bO bR hW0s
  obtain ⟨r, HRR⟩ : ∃ r, Hid (most.tmod 1000 = r) := ⟨_, hid rfl⟩
  have HRB : Hid (-1000 < r ∧ r < 1000) := by rw [← HRR.out]; exact mod_rng most
  have hwn := neg_mod HRB.out
  gi_upto_if 18 with fail
  rw [← hW0, HRR.out]
  clear hW0
  obtain ⟨pn, hpn⟩ : ∃ p, p = w.heap.size + 1 + 1 := ⟨_, rfl⟩
  rw [← hpn]
  have HPN : Hid (W0.heap.size = pn) := by rw [hpn]; exact HWS.out
  clear hpn
  gi_cut [] from 15 (fun wc => Hid (∃ N : Nat, N ≤ 999 ∧ Boxed wc pn 3 (.int .i64 (N : Int)) ∧ Below W0.heap.size W0 wc))
  case first =>
    have HBN : Hid (Boxed (W0.alloc (.cells #[.int .i64 r] 3)) pn 3 (.int .i64 r)) := by rw [← HPN.out]; exact Boxed.new W0 3 _
    have cN := HBN.out.cell
    have fN := HBN.out.frozen
    by_cases hr0 : r < 0
    · gi_wp2
      gi_meet
      case rel =>
        refine ⟨(-r).toNat, by have := HRB.out; omega, ?_, ?_⟩
        · have h1 : (((-r).toNat : Nat) : Int) = -r := by omega
          rw [h1]
          exact HBN.out.set _
        · exact ((Below.refl _ _).alloc (Nat.le_refl _) _).setCell (p := ⟨pn, 0, none⟩) (by simp [HPN.out]) _
    · gi_wp2
      gi_meet
      case rel =>
        refine ⟨r.toNat, by have := HRB.out; omega, ?_, ?_⟩
        · have h1 : ((r.toNat : Nat) : Int) = r := by omega
          rw [h1]
          exact HBN.out
        · exact (Below.refl _ _).alloc (Nat.le_refl _) _
  case rest =>
  obtain ⟨N, hN9, bN, hbc⟩ := hcut.out
  clear hcut hwn HRB HRR
  have HAc := hid (bt HA.out hbc)
  have HOc : Hid (Boxed wc w.heap.size 23 (.slice bo m2 cb)) := (hbc.block _ HO.out.lt).trans HO.out
  have HRc : Hid (Boxed wc (w.heap.size + 1) 4 (.bool false)) := (hbc.block _ HR.out.lt).trans HR.out
  have HNc := hid bN
  have HN9 := hid hN9
  clear hbc bN hN9 HA HO HR
  gi_wp2_with fail
  refine ⟨trivial, (callsIn_wide.2 (lives_any wc)).mono ?_⟩
  rintro e V0 ⟨rfl, hb1⟩
  have HA0 := hid (bt HAc.out hb1)
  have HO0 : Hid (Boxed V0 w.heap.size 23 (.slice bo m2 cb)) := (hb1.block _ HOc.out.lt).trans HOc.out
  have HR0 : Hid (Boxed V0 (w.heap.size + 1) 4 (.bool false)) := (hb1.block _ HRc.out.lt).trans HRc.out
  have HN0 : Hid (Boxed V0 pn 3 (.int .i64 (N : Int))) := (hb1.block _ HNc.out.lt).trans HNc.out
  clear hb1 HAc HOc HRc HNc
  gi_upto_region 6 with fail
  gi_cut [31] from 15 (fun s31 wx => s31 = .bool false ∧ wx = V0)
  case first =>
    have HMY := hid (rmay_any V0 ao ca a m HM.out (HVA.out.below HA0.out))
    by_cases hmay : MayV a
    · rw [decide_eq_true hmay] at HMY
      have HC1 := hid (count_any V0 ao ca a m HM.out (HVA.out.below HA0.out) hmay)
      have HC2 := hid (rcount_any V0 ao ca a m HM.out (HVA.out.below HA0.out) hmay)
      gi_wp2_with fail
      refine ⟨trivial, (callsIn_wide.2 HMY.out).mono ?_⟩
      rintro e w9 ⟨rfl, rfl⟩
      gi_wp2_with fail
      refine ⟨trivial, (callsIn_wide.2 HC1.out).mono ?_⟩
      rintro e w9 ⟨rfl, rfl⟩
      gi_wp2_with fail
      refine ⟨trivial, (callsIn_wide.2 HC2.out).mono ?_⟩
      rintro e w9 ⟨rfl, rfl⟩
      gi_wp2
      gi_meet
      case rel => exact ⟨by simp, rfl⟩
    · rw [decide_eq_false hmay] at HMY
      clear hmay
      gi_wp2_with fail
      refine ⟨trivial, (callsIn_wide.2 HMY.out).mono ?_⟩
      rintro e w9 ⟨rfl, rfl⟩
      gi_wp2
      repeat (refine ⟨trivial, ?_⟩; gi_wp2)
      gi_meet
      case rel => exact ⟨by simp, rfl⟩
  case rest =>
  obtain ⟨rfl, rfl⟩ := hcut
  gi_wp2
  refine wpIn_loop_rounds 3 ?_
  rw [roundsIn_succ]
  have sV0 := HA0.out.size
  have HU0 : Hid (Below wc.heap.size wc (wc.alloc (.cells #[.int .i64 0] 3))) := (Below.refl _ _).alloc (Nat.le_refl _) _
  have HUi0 : Hid (Boxed (wc.alloc (.cells #[.int .i64 0] 3)) wc.heap.size 3 (.int .i64 0)) := Boxed.new wc 3 _
  have co : (wc.alloc (.cells #[.int .i64 0] 3)).cell? ⟨w.heap.size, 0, none⟩ = some (.slice bo m2 cb) := (HO0.out.alloc _).cell
  have cn : (wc.alloc (.cells #[.int .i64 0] 3)).cell? ⟨pn, 0, none⟩ = some (.int .i64 (N : Int)) := (HN0.out.alloc _).cell
  have hN9 := HN9.out
  have hus : (wc.alloc (.cells #[.int .i64 0] 3)).heap.size = wc.heap.size + 1 := by simp
  have HUS0 := hid hus
  clear hus
  gi_wp2_with fail
  generalize wc.alloc (.cells #[.int .i64 0] 3) = U0 at *
  clear hN9
  have HAU0 : Hid (Below w.heap.size w U0) := bt HA0.out HU0.out
  have HRB0 := hid (rbetween_any U0 ao bo ca cb a b m m2 HM.out HM2.out (HVA.out.below HAU0.out) (HVB.out.below HAU0.out) (N + 1) (by have := HN9.out; omega))
  rw [show ((N + 1 : Nat) : Int) = (N : Int) + 1 by omega] at HRB0
  refine ⟨trivial, (callsIn_wide.2 HRB0.out).mono ?_⟩
  rintro e X0 ⟨v, rfl, hown, hbX⟩
  obtain ⟨eo0, cap0, rfl⟩ := own_slice hown
  obtain ⟨L0, HL0⟩ : ∃ L, Hid (((dotsAll a b).take (N + 1)).length = L) := ⟨_, hid rfl⟩
  have HOW0 := hid hown
  rw [HL0.out]
  have HBX0 := hid hbX
  have sX0 := hbX.size
  clear hown hbX HRB0 co cn
  have HY0 : Hid (Below X0.heap.size X0 (X0.alloc (.cells #[.slice eo0 L0 cap0] 40))) := (Below.refl _ _).alloc (Nat.le_refl _) _
  have HYw0 : Hid (Boxed (X0.alloc (.cells #[.slice eo0 L0 cap0] 40)) X0.heap.size 40 (.slice eo0 L0 cap0)) := Boxed.new X0 40 _
  have co : (X0.alloc (.cells #[.slice eo0 L0 cap0] 40)).cell? ⟨w.heap.size, 0, none⟩ = some (.slice bo m2 cb) := by
    have h1 : Boxed X0 w.heap.size 23 (.slice bo m2 cb) := (HBX0.out.block _ (by have := HO0.out.lt; have := HUS0.out; omega)).trans ((HU0.out.block _ HO0.out.lt).trans HO0.out)
    exact (h1.alloc _).cell
  have hys : (X0.alloc (.cells #[.slice eo0 L0 cap0] 40)).heap.size = X0.heap.size + 1 := by simp
  have HYS0 := hid hys
  clear hys
  gi_wp2_with fail
  generalize X0.alloc (.cells #[.slice eo0 L0 cap0] 40) = Y0 at *
  have HAY0 : Hid (Below wc.heap.size wc Y0) := ⟨by rw [HY0.out.os, HBX0.out.os, HU0.out.os], by rw [HY0.out.tape, HBX0.out.tape, HU0.out.tape], by rw [HY0.out.output, HBX0.out.output, HU0.out.output], by have := HYS0.out; have := HUS0.out; omega, fun k hk => (HY0.out.block k (by have := HUS0.out; omega)).trans ((HBX0.out.block k (by have := HUS0.out; omega)).trans (HU0.out.block k hk))⟩
  have HAYw0 : Hid (Below w.heap.size w Y0) := bt HA0.out HAY0.out
  refine ⟨trivial, (callsIn_wide.2 (between2_any Y0 ao bo ca cb a b m m2 HM.out HM2.out (HVA.out.below HAYw0.out) (HVB.out.below HAYw0.out))).mono ?_⟩
  rintro e Z0 ⟨_, _, _, _, rfl, _, hb01, _, _⟩
  have HZ0 := hid hb01
  have sZ0 := hb01.size
  have HAZw0 : Hid (Below w.heap.size w Z0) := bt HAYw0.out hb01
  have hql := fun W => it_eql (Y0.heap.size + 1) Y0.heap.size W
  have co : Z0.cell? ⟨w.heap.size, 0, none⟩ = some (.slice bo m2 cb) := by
    have h1 : Boxed Z0 w.heap.size 23 (.slice bo m2 cb) := (hb01.block _ (by have := HO0.out.lt; have := HUS0.out; have := HYS0.out; omega)).trans ((HAY0.out.block _ HO0.out.lt).trans HO0.out)
    exact h1.cell
  clear hb01
  gi_wp2_with fail
  clear hql co
  refine ⟨trivial, (callsIn_wide.2 (between2_any Z0 ao bo ca cb a b m m2 HM.out HM2.out (HVA.out.below HAZw0.out) (HVB.out.below HAZw0.out))).mono ?_⟩
  rintro e R0 ⟨io0, jo0, ic0, jc0, rfl, hit, hb12, hoa, hob⟩
  have sR0 := hb12.size
  have hsz : wc.heap.size + 1 ≤ X0.heap.size ∧ Y0.heap.size = X0.heap.size + 1 ∧ Y0.heap.size ≤ Z0.heap.size ∧ Z0.heap.size ≤ R0.heap.size := ⟨by have := HUS0.out; omega, HYS0.out, sZ0, sR0⟩
  have HSQ0 := hid (betw_seq 4 (by omega) wc.heap.size Z0.heap.size Z0.heap.size (Z0.heap.size + 1) R0 io0 jo0 ic0 jc0 a b (by omega) (Nat.le_refl _) (by omega) hit hoa hob sR0)
  have HAR0 : Hid (Below wc.heap.size wc R0) := HAY0.out.trans ((HZ0.out.trans (hb12.mono (by omega))).mono (by omega))
  have HRi0 : Hid (Boxed R0 wc.heap.size 3 (.int .i64 0)) := (hb12.block _ (by omega)).trans ((HZ0.out.block _ (by omega)).trans ((HY0.out.block _ (by omega)).trans ((HBX0.out.block _ (by have := HUS0.out; omega)).trans HUi0.out)))
  have HRw0 : Hid (Boxed R0 X0.heap.size 40 (.slice eo0 L0 cap0)) := (hb12.block _ (by omega)).trans ((HZ0.out.block _ (by omega)).trans HYw0.out)
  have HDC0 : Hid (0 < L0 → ∃ g, eo0 = some ⟨g, 0, none⟩ ∧ wc.heap.size + 1 ≤ g ∧ g < R0.heap.size ∧ ∀ i, i < L0 → R0.cell? ⟨g, i * 2, none⟩ = some (.int .i64 (((dotsAll a b).take (N + 1)).getD i (0, 0)).1) ∧ R0.cell? ⟨g, i * 2 + 1, none⟩ = some (.int .i64 (((dotsAll a b).take (N + 1)).getD i (0, 0)).2)) := by
    intro hpos
    obtain ⟨g, h1, h2, h3, h4⟩ := dots_cells HOW0.out (by rw [HL0.out]; exact hpos)
    refine ⟨g, h1, by have := HUS0.out; omega, by omega, fun i hi => ?_⟩
    have h5 := h4 i (by rw [HL0.out]; exact hi)
    have h6 : ∀ off, R0.cell? ⟨g, off, none⟩ = X0.cell? ⟨g, off, none⟩ := fun off => ((hb12.cell (p := ⟨g, off, none⟩) (by show g < _; omega)).trans (HZ0.out.cell (p := ⟨g, off, none⟩) (by show g < _; omega))).trans (HY0.out.cell (p := ⟨g, off, none⟩) (by show g < _; omega))
    rw [h6, h6]
    exact h5
  have HSZ0 := hid hsz
  clear hit hb12 hoa hob hsz HU0 HUi0 HAU0 HOW0 HBX0 HY0 HYw0 HAY0 HAYw0 HZ0 HAZw0 sZ0 sX0
  gi_wp2
  obtain ⟨I0, hI0⟩ : ∃ I : List (Int × Int) → World → Prop, I = (fun (pre : List (Int × Int)) (W : World) => (Boxed W wc.heap.size 3 (.int .i64 (pre.length : Int)) ∧ Below wc.heap.size wc W) ∧ (Like R0 (wc.heap.size + 1) R0.heap.size W ∧ (R0.heap.size ≤ W.heap.size ∧ pre.length ≤ N + 1))) := ⟨_, rfl⟩
  have hIo0 : OwnFrom R0.heap.size I0 := by
    rw [hI0]
    have hs := HSZ0.out
    exact OwnFrom.and (OwnFrom.and (Own.from (boxed_own wc.heap.size 3 (fun pre : List (Int × Int) => .int .i64 (pre.length : Int))) _) (ownFrom_below (Nat.le_refl _) (by omega))) (OwnFrom.and (ownFrom_like (Nat.le_refl _)) (OwnFrom.and ownFrom_sizeB (fun _ _ _ _ h _ _ => h)))
  obtain ⟨J0, hJ0⟩ : ∃ J : World → Prop, J = (fun W : World => (Boxed W wc.heap.size 3 (.int .i64 (L0 : Int)) ∧ Below wc.heap.size wc W) ∧ (Like R0 (wc.heap.size + 1) R0.heap.size W ∧ R0.heap.size ≤ W.heap.size)) := ⟨_, rfl⟩
  have hseq := HSQ0.out
  have hsz := HSZ0.out
  apply wpIn_rangeFunc_boxB (encs := fun x : Int × Int => #[dotV x]) (Kp := Kq wc.heap.size Z0.heap.size R0.heap.size) rfl (by omega) (gf := 60) (lb := #[.pointer (some ⟨Z0.heap.size + 1, 0, none⟩), .pointer (some ⟨Z0.heap.size, 0, none⟩)]) rfl trivial (enters_of Try.func60 (by kernel_rfl) rfl)
    hseq (fun a b => Kq.trans a b)
    (fun W l o o' hl ho hc hw => ⟨belowK_b (w := R0) (by omega) W l o o' hl ho hc hw, fun k _ h2 => (grownBy_putObj' W l o').block k (by have := (Array.getElem?_eq_some_iff.1 ho).1; omega) (by intro e; have := Option.some.inj e; omega)⟩)
    (Below.refl _ _) (fun _ => rfl) I0 (fun c pre W => (c = .ret ∧ ¬ pre <+: dotsAll a b) ∨ ((c = .exit 2 ∧ pre.length = N + 2) ∧ ((Boxed W wc.heap.size 3 (.int .i64 ((N : Int) + 1)) ∧ Below wc.heap.size wc W) ∧ (Like R0 (wc.heap.size + 1) R0.heap.size W ∧ R0.heap.size ≤ W.heap.size)))) hIo0
    (fun c => ownFrom_or (I := fun _ W => (Boxed W wc.heap.size 3 (.int .i64 ((N : Int) + 1)) ∧ Below wc.heap.size wc W) ∧ (Like R0 (wc.heap.size + 1) R0.heap.size W ∧ R0.heap.size ≤ W.heap.size)) (OwnFrom.and (OwnFrom.and (Own.from (boxed_own wc.heap.size 3 (fun _ : List (Int × Int) => .int .i64 ((N : Int) + 1))) _) (ownFrom_below (Nat.le_refl _) (by omega))) (OwnFrom.and (ownFrom_like (Nat.le_refl _)) ownFrom_sizeB)) (fun pre => c = .exit 2 ∧ pre.length = N + 2))
    (by rw [hI0]; exact ⟨⟨HRi0.out, HAR0.out⟩, Like.refl _ _ _, Nat.le_refl _, Nat.zero_le _⟩) (Bx := fun x => [.int .i64 x.1, .int .i64 x.2]) (t := 25) (B := R0.heap.size) (kb := 2) (J := J0)
  case hS =>
    rintro xs W rfl hi
    rw [hI0] at hi
    rw [hJ0]
    have hl : (dotsAll a b).length = L0 := by
      rw [← HL0.out, List.take_of_length_le hi.2.2.2]
    rw [hl] at hi
    exact ⟨hi.1, hi.2.1, hi.2.2.1⟩
  case hSp =>
    rintro c pre W hpf (⟨_, hno⟩ | ⟨⟨hc, hl⟩, hj⟩)
    · exact absurd hpf hno
    · refine ⟨hc, ?_⟩
      rw [hJ0]
      have hL : (L0 : Int) = (N : Int) + 1 := by
        have h1 := hpf.length_le
        have h2 := HL0.out
        rw [List.length_take] at h2
        omega
      rw [hL]
      exact hj
  case hex => exact fun a W h => h
  case hassign =>
    intro l pre x W K hIp hK
    dsimp only [dotV]
    have hsW : R0.heap.size ≤ W.heap.size := by
      rw [hI0] at hIp
      exact hIp.2.2.1
    gi_wp2
    obtain ⟨g, hg⟩ : ∃ g, g = W.heap.size := ⟨_, rfl⟩
    have hbk : Blk (W.alloc (.cells #[.int .i64 x.1, .int .i64 x.2] 25)) g 25 [.int .i64 x.1, .int .i64 x.2] := by rw [hg]; exact Blk.new W 25 [.int .i64 x.1, .int .i64 x.2]
    have hgl : R0.heap.size ≤ g := by rw [hg]; exact hsW
    rw [← hg]
    exact hK g (W.alloc (.cells #[.int .i64 x.1, .int .i64 x.2] 25)) ((KeepsOthers.alloc W _).from _) (Kq.alloc W (by omega) hsW _) (hIo0.alloc _ hIp) hbk hgl
  case hbody =>
    rintro l pre ⟨x1, x2⟩ g W hIp hbk hgl hlt
    rw [hI0] at hIp
    obtain ⟨⟨hii, hB⟩, hLk, hsW, hpN⟩ := hIp
    obtain ⟨pl, hpl⟩ : ∃ pl, pre.length = pl := ⟨_, rfl⟩
    rw [hpl] at hii hlt hpN
    have HPL := hid hpl
    clear hpl
    have hci := hii.cell
    have hfi := hii.frozen
    have bO : Boxed W w.heap.size 23 (.slice bo m2 cb) := (hB.block _ HO0.out.lt).trans HO0.out
    have bN : Boxed W pn 3 (.int .i64 (N : Int)) := (hB.block _ HN0.out.lt).trans HN0.out
    have bR : Boxed W (w.heap.size + 1) 4 (.bool false) := (hB.block _ HR0.out.lt).trans HR0.out
    have bW : Boxed W X0.heap.size 40 (.slice eo0 L0 cap0) := hLk.boxed HRw0.out (by omega) (by omega)
    have co := bO.cell
    have cn := bN.cell
    have cr := bR.cell
    have fr := bR.frozen
    have cw := bW.cell
    have c0 := hbk.cell (i := 0) rfl
    have c1 := hbk.cell (i := 1) rfl
    have Hii := hid hii
    have HB := hid hB
    have HLk := hid hLk
    have HPN2 := hid hpN
    have HLT := hid hlt
    have HVW : Hid (HV W bo cb b) := HVB.out.below (bt HA0.out hB)
    have hN9 := HN9.out
    clear hii hB bO bN bR bW hbk hLk hpN hlt
    by_cases hgt : N < pl
    · have hgt' : (N : Int) < (pl : Int) := by omega
      have HG := hid hgt
      subst hI0
      clear hgt
      gi_wp2
      have hpe : pl = N + 1 := by have := HG.out; have := HPN2.out; omega
      have hpe' : (pl : Int) = (N : Int) + 1 := by omega
      refine ⟨(KeepsOthers.refl _).from _, .inr ⟨⟨rfl, by simp [HPL.out, hpe]⟩, ?_⟩⟩
      rw [← hpe']
      exact ⟨⟨Hii.out, HB.out⟩, HLk.out, hsW⟩
    · have hgt' : ¬ (N : Int) < (pl : Int) := by omega
      have hLp : pl < L0 := by
        have h2 := HL0.out
        rw [List.length_take] at h2
        have := HLT.out
        omega
      have dge : decide (L0 ≤ pl) = false := decide_eq_false (by omega)
      have hpI : (pl : Int) < (L0 : Int) := by omega
      have hp0 : (0 : Int) ≤ (pl : Int) := by omega
      have hLs : (L0 : Int) ≤ 1000 := by
        have h2 := HL0.out
        rw [List.length_take] at h2
        omega
      obtain ⟨gd, heo, hg1, hg2, hcd⟩ := HDC0.out (by omega)
      have d0 := (HLk.out.cell (off := pl * 2) hg1 hg2).trans (hcd pl hLp).1
      have d1 := (HLk.out.cell (off := pl * 2 + 1) hg1 hg2).trans (hcd pl hLp).2
      obtain ⟨⟨D1, D2⟩, HD⟩ : ∃ D, Hid (((dotsAll a b).take (N + 1)).getD pl (0, 0) = D) := ⟨_, hid rfl⟩
      rw [HD.out] at d0 d1
      have HTA : Hid (pre ++ [(x1, x2)] <+: dotsAll a b → (x1, x2) = (D1, D2)) := fun hpf => by
        have h1 := take_at (z := ((0 : Int), (0 : Int))) (M := N + 1) hpf (by rw [HPL.out]; omega)
        rw [HPL.out, HD.out] at h1
        exact h1
      clear hcd hgt
      subst heo
      have hgne : wc.heap.size ≠ g := by omega
      have HZV : Hid (wc.heap.size < Z0.heap.size) := (by omega : wc.heap.size < Z0.heap.size)
      by_cases hx1 : x1 = D1
      · by_cases hx2 : x2 = D2
        · subst x1
          subst x2
          have hb1 : (D1 == D1) = true := by simp
          have hb2 : (D2 == D2) = true := by simp
          have hII : ∀ q, I0 (pre ++ [(D1, D2)]) ((W.drewN q).setCell ⟨wc.heap.size, 0, none⟩ (.int .i64 ((pl : Int) + 1))) := by
            intro q
            rw [hI0]
            refine ⟨⟨?_, (below_dn HB.out q).setCell (p := ⟨wc.heap.size, 0, none⟩) (Nat.le_refl _) _⟩, Like.set (W := W.drewN q) HLk.out (by omega) _, by simpa using hsW, by simp [HPL.out]; omega⟩
            have h1 : ((pre ++ [(D1, D2)]).length : Int) = (pl : Int) + 1 := by simp [HPL.out]
            rw [h1]
            exact (show Boxed (W.drewN q) wc.heap.size 3 (.int .i64 (pl : Int)) from Hii.out).set _
          have HII := hid hII
          clear hII
          gi_wp2
          refine wpIn_region_quiet_round l rfl (by kernel_rfl) (by kernel_rfl) (by kernel_rfl) ?_
          repeat (gi_big_quiet_step (fail))
          refine wpQuietIn_nil ?_
          intro _ hw
          obtain ⟨nq, rfl⟩ := hw
          gi_wp2
          exact ⟨((keepsD W nq).trans (KeepsOthers.setCell _ _ _)).from _, Kq.trans (Kq.dn W nq) (Kq.set _ (Nat.le_refl _) HZV.out _), HII.out _⟩
        · have hno : ¬ pre ++ [(x1, x2)] <+: dotsAll a b := fun hpf => hx2 (by have := HTA.out hpf; simp at this; exact this.2)
          have HNO := hid hno
          have hb1 : (x1 == D1) = true := by simpa using hx1
          have hb2 : (x2 == D2) = false := by simpa using hx2
          clear hno
          subst hI0
          gi_wp2
          refine wpIn_region_quiet_round l rfl (by kernel_rfl) (by kernel_rfl) (by kernel_rfl) ?_
          repeat (gi_big_quiet_step (fail))
          refine wpQuietIn_nil ?_
          intro _ hw
          obtain ⟨nq, rfl⟩ := hw
          gi_wp2
          first | exact ⟨((keepsD W nq).trans (KeepsOthers.setCell _ _ _)).from _, rfl, HNO.out⟩ | exact ⟨((keepsD W nq).trans (KeepsOthers.setCell _ _ _)).from _, .inl ⟨rfl, HNO.out⟩⟩
      · have hno : ¬ pre ++ [(x1, x2)] <+: dotsAll a b := fun hpf => hx1 (by have := HTA.out hpf; simp at this; exact this.1)
        have HNO := hid hno
        have hb2 : (x1 == D1) = false := by simpa using hx1
        clear hno
        subst hI0
        gi_wp2
        refine wpIn_region_quiet_round l rfl (by kernel_rfl) (by kernel_rfl) (by kernel_rfl) ?_
        repeat (gi_big_quiet_step (fail))
        refine wpQuietIn_nil ?_
        intro _ hw
        obtain ⟨nq, rfl⟩ := hw
        gi_wp2
        first | exact ⟨((keepsD W nq).trans (KeepsOthers.setCell _ _ _)).from _, rfl, HNO.out⟩ | exact ⟨((keepsD W nq).trans (KeepsOthers.setCell _ _ _)).from _, .inl ⟨rfl, HNO.out⟩⟩
  case hafter =>
    intro D0 W1 hD0 hj hDef
    rw [hJ0] at hj
    obtain ⟨⟨hii, hB⟩, hLk, hsW⟩ := hj
    have hci := hii.cell
    have bW : Boxed W1 X0.heap.size 40 (.slice eo0 L0 cap0) := hLk.boxed HRw0.out (by omega) (by omega)
    have cw := bW.cell
    have HA1 := hid (bt HA0.out hB)
    have HO1 : Hid (Boxed W1 w.heap.size 23 (.slice bo m2 cb)) := (hB.block _ HO0.out.lt).trans HO0.out
    have HR1 : Hid (Boxed W1 (w.heap.size + 1) 4 (.bool false)) := (hB.block _ HR0.out.lt).trans HR0.out
    have HN1 : Hid (Boxed W1 pn 3 (.int .i64 (N : Int))) := (hB.block _ HN0.out.lt).trans HN0.out
    have HD0 := hid hDef
    have sQ1 := hB.size
    have hDl0 : D0 < W1.heap.size := (Array.getElem?_eq_some_iff.1 hDef).1
    clear hii hB hLk bW hDef hsW hsz hseq hI0 hIo0 hJ0 HSQ0 HDC0 HRi0 HAR0
    gi_wp2
    rw [roundsIn_succ]
    clear hci cw
    have sV1 := HA1.out.size
    have HU1 : Hid (Below W1.heap.size W1 (W1.alloc (.cells #[.int .i64 0] 3))) := (Below.refl _ _).alloc (Nat.le_refl _) _
    have HUi1 : Hid (Boxed (W1.alloc (.cells #[.int .i64 0] 3)) W1.heap.size 3 (.int .i64 0)) := Boxed.new W1 3 _
    have co : (W1.alloc (.cells #[.int .i64 0] 3)).cell? ⟨w.heap.size, 0, none⟩ = some (.slice bo m2 cb) := (HO1.out.alloc _).cell
    have cn : (W1.alloc (.cells #[.int .i64 0] 3)).cell? ⟨pn, 0, none⟩ = some (.int .i64 (N : Int)) := (HN1.out.alloc _).cell
    have hN9 := HN9.out
    have hus : (W1.alloc (.cells #[.int .i64 0] 3)).heap.size = W1.heap.size + 1 := by simp
    have HUS1 := hid hus
    clear hus
    gi_wp2_with fail
    generalize W1.alloc (.cells #[.int .i64 0] 3) = U1 at *
    clear hN9
    have HAU1 : Hid (Below w.heap.size w U1) := bt HA1.out HU1.out
    have HRB1 := hid (rbetween_any U1 ao bo ca cb a b m m2 HM.out HM2.out (HVA.out.below HAU1.out) (HVB.out.below HAU1.out) (N + 1) (by have := HN9.out; omega))
    rw [show ((N + 1 : Nat) : Int) = (N : Int) + 1 by omega] at HRB1
    refine ⟨trivial, (callsIn_wide.2 HRB1.out).mono ?_⟩
    rintro e X1 ⟨v, rfl, hown, hbX⟩
    obtain ⟨eo1, cap1, rfl⟩ := own_slice hown
    obtain ⟨L1, HL1⟩ : ∃ L, Hid (((dotsAll a b).take (N + 1)).length = L) := ⟨_, hid rfl⟩
    have HOW1 := hid hown
    rw [HL1.out]
    have HBX1 := hid hbX
    have sX1 := hbX.size
    clear hown hbX HRB1 co cn
    have HY1 : Hid (Below X1.heap.size X1 (X1.alloc (.cells #[.slice eo1 L1 cap1] 40))) := (Below.refl _ _).alloc (Nat.le_refl _) _
    have HYw1 : Hid (Boxed (X1.alloc (.cells #[.slice eo1 L1 cap1] 40)) X1.heap.size 40 (.slice eo1 L1 cap1)) := Boxed.new X1 40 _
    have co : (X1.alloc (.cells #[.slice eo1 L1 cap1] 40)).cell? ⟨w.heap.size, 0, none⟩ = some (.slice bo m2 cb) := by
      have h1 : Boxed X1 w.heap.size 23 (.slice bo m2 cb) := (HBX1.out.block _ (by have := HO1.out.lt; have := HUS1.out; omega)).trans ((HU1.out.block _ HO1.out.lt).trans HO1.out)
      exact (h1.alloc _).cell
    have hys : (X1.alloc (.cells #[.slice eo1 L1 cap1] 40)).heap.size = X1.heap.size + 1 := by simp
    have HYS1 := hid hys
    clear hys
    gi_wp2_with fail
    generalize X1.alloc (.cells #[.slice eo1 L1 cap1] 40) = Y1 at *
    have HAY1 : Hid (Below W1.heap.size W1 Y1) := ⟨by rw [HY1.out.os, HBX1.out.os, HU1.out.os], by rw [HY1.out.tape, HBX1.out.tape, HU1.out.tape], by rw [HY1.out.output, HBX1.out.output, HU1.out.output], by have := HYS1.out; have := HUS1.out; omega, fun k hk => (HY1.out.block k (by have := HUS1.out; omega)).trans ((HBX1.out.block k (by have := HUS1.out; omega)).trans (HU1.out.block k hk))⟩
    have HAYw1 : Hid (Below w.heap.size w Y1) := bt HA1.out HAY1.out
    refine ⟨trivial, (callsIn_wide.2 (between2_any Y1 ao bo ca cb a b m m2 HM.out HM2.out (HVA.out.below HAYw1.out) (HVB.out.below HAYw1.out))).mono ?_⟩
    rintro e Z1 ⟨_, _, _, _, rfl, _, hb01, _, _⟩
    have HZ1 := hid hb01
    have sZ1 := hb01.size
    have HAZw1 : Hid (Below w.heap.size w Z1) := bt HAYw1.out hb01
    have hql := fun W => it_eql (Y1.heap.size + 1) Y1.heap.size W
    have co : Z1.cell? ⟨w.heap.size, 0, none⟩ = some (.slice bo m2 cb) := by
      have h1 : Boxed Z1 w.heap.size 23 (.slice bo m2 cb) := (hb01.block _ (by have := HO1.out.lt; have := HUS1.out; have := HYS1.out; omega)).trans ((HAY1.out.block _ HO1.out.lt).trans HO1.out)
      exact h1.cell
    clear hb01
    gi_wp2_with fail
    clear hql co
    refine ⟨trivial, (callsIn_wide.2 (between2_any Z1 ao bo ca cb a b m m2 HM.out HM2.out (HVA.out.below HAZw1.out) (HVB.out.below HAZw1.out))).mono ?_⟩
    rintro e R1 ⟨io1, jo1, ic1, jc1, rfl, hit, hb12, hoa, hob⟩
    have sR1 := hb12.size
    have hsz : W1.heap.size + 1 ≤ X1.heap.size ∧ Y1.heap.size = X1.heap.size + 1 ∧ Y1.heap.size ≤ Z1.heap.size ∧ Z1.heap.size ≤ R1.heap.size := ⟨by have := HUS1.out; omega, HYS1.out, sZ1, sR1⟩
    have HSQ1 := hid (betw_seq 4 (by omega) W1.heap.size Z1.heap.size Z1.heap.size (Z1.heap.size + 1) R1 io1 jo1 ic1 jc1 a b (by omega) (Nat.le_refl _) (by omega) hit hoa hob sR1)
    have HAR1 : Hid (Below W1.heap.size W1 R1) := HAY1.out.trans ((HZ1.out.trans (hb12.mono (by omega))).mono (by omega))
    have HRi1 : Hid (Boxed R1 W1.heap.size 3 (.int .i64 0)) := (hb12.block _ (by omega)).trans ((HZ1.out.block _ (by omega)).trans ((HY1.out.block _ (by omega)).trans ((HBX1.out.block _ (by have := HUS1.out; omega)).trans HUi1.out)))
    have HRw1 : Hid (Boxed R1 X1.heap.size 40 (.slice eo1 L1 cap1)) := (hb12.block _ (by omega)).trans ((HZ1.out.block _ (by omega)).trans HYw1.out)
    have HDC1 : Hid (0 < L1 → ∃ g, eo1 = some ⟨g, 0, none⟩ ∧ W1.heap.size + 1 ≤ g ∧ g < R1.heap.size ∧ ∀ i, i < L1 → R1.cell? ⟨g, i * 2, none⟩ = some (.int .i64 (((dotsAll a b).take (N + 1)).getD i (0, 0)).1) ∧ R1.cell? ⟨g, i * 2 + 1, none⟩ = some (.int .i64 (((dotsAll a b).take (N + 1)).getD i (0, 0)).2)) := by
      intro hpos
      obtain ⟨g, h1, h2, h3, h4⟩ := dots_cells HOW1.out (by rw [HL1.out]; exact hpos)
      refine ⟨g, h1, by have := HUS1.out; omega, by omega, fun i hi => ?_⟩
      have h5 := h4 i (by rw [HL1.out]; exact hi)
      have h6 : ∀ off, R1.cell? ⟨g, off, none⟩ = X1.cell? ⟨g, off, none⟩ := fun off => ((hb12.cell (p := ⟨g, off, none⟩) (by show g < _; omega)).trans (HZ1.out.cell (p := ⟨g, off, none⟩) (by show g < _; omega))).trans (HY1.out.cell (p := ⟨g, off, none⟩) (by show g < _; omega))
      rw [h6, h6]
      exact h5
    have HSZ1 := hid hsz
    clear hit hb12 hoa hob hsz HU1 HUi1 HAU1 HOW1 HBX1 HY1 HYw1 HAY1 HAYw1 HZ1 HAZw1 sZ1 sX1
    gi_wp2
    obtain ⟨I1, hI1⟩ : ∃ I : List (Int × Int) → World → Prop, I = (fun (pre : List (Int × Int)) (W : World) => (Boxed W W1.heap.size 3 (.int .i64 (pre.length : Int)) ∧ Below W1.heap.size W1 W) ∧ (Like R1 (W1.heap.size + 1) R1.heap.size W ∧ (R1.heap.size ≤ W.heap.size ∧ pre.length ≤ N + 1))) := ⟨_, rfl⟩
    have hIo1 : OwnFrom R1.heap.size I1 := by
      rw [hI1]
      have hs := HSZ1.out
      exact OwnFrom.and (OwnFrom.and (Own.from (boxed_own W1.heap.size 3 (fun pre : List (Int × Int) => .int .i64 (pre.length : Int))) _) (ownFrom_below (Nat.le_refl _) (by omega))) (OwnFrom.and (ownFrom_like (Nat.le_refl _)) (OwnFrom.and ownFrom_sizeB (fun _ _ _ _ h _ _ => h)))
    obtain ⟨J1, hJ1⟩ : ∃ J : World → Prop, J = (fun W : World => (Boxed W W1.heap.size 3 (.int .i64 (L1 : Int)) ∧ Below W1.heap.size W1 W) ∧ (Like R1 (W1.heap.size + 1) R1.heap.size W ∧ R1.heap.size ≤ W.heap.size)) := ⟨_, rfl⟩
    have hseq := HSQ1.out
    have hsz := HSZ1.out
    apply wpIn_rangeFunc_boxB (encs := fun x : Int × Int => #[dotV x]) (Kp := Kq W1.heap.size Z1.heap.size R1.heap.size) rfl (by omega) (gf := 60) (lb := #[.pointer (some ⟨Z1.heap.size + 1, 0, none⟩), .pointer (some ⟨Z1.heap.size, 0, none⟩)]) rfl trivial (enters_of Try.func60 (by kernel_rfl) rfl)
      hseq (fun a b => Kq.trans a b)
      (fun W l o o' hl ho hc hw => ⟨belowK_b (w := R1) (by omega) W l o o' hl ho hc hw, fun k _ h2 => (grownBy_putObj' W l o').block k (by have := (Array.getElem?_eq_some_iff.1 ho).1; omega) (by intro e; have := Option.some.inj e; omega)⟩)
      (Below.refl _ _) (fun _ => rfl) I1 (fun c pre W => (c = .ret ∧ ¬ pre <+: dotsAll a b) ∨ ((c = .exit 2 ∧ pre.length = N + 2) ∧ ((Boxed W W1.heap.size 3 (.int .i64 ((N : Int) + 1)) ∧ Below W1.heap.size W1 W) ∧ (Like R1 (W1.heap.size + 1) R1.heap.size W ∧ R1.heap.size ≤ W.heap.size)))) hIo1
      (fun c => ownFrom_or (I := fun _ W => (Boxed W W1.heap.size 3 (.int .i64 ((N : Int) + 1)) ∧ Below W1.heap.size W1 W) ∧ (Like R1 (W1.heap.size + 1) R1.heap.size W ∧ R1.heap.size ≤ W.heap.size)) (OwnFrom.and (OwnFrom.and (Own.from (boxed_own W1.heap.size 3 (fun _ : List (Int × Int) => .int .i64 ((N : Int) + 1))) _) (ownFrom_below (Nat.le_refl _) (by omega))) (OwnFrom.and (ownFrom_like (Nat.le_refl _)) ownFrom_sizeB)) (fun pre => c = .exit 2 ∧ pre.length = N + 2))
      (by rw [hI1]; exact ⟨⟨HRi1.out, HAR1.out⟩, Like.refl _ _ _, Nat.le_refl _, Nat.zero_le _⟩) (Bx := fun x => [.int .i64 x.1, .int .i64 x.2]) (t := 25) (B := R1.heap.size) (kb := 2) (J := J1)
    case hS =>
      rintro xs W rfl hi
      rw [hI1] at hi
      rw [hJ1]
      have hl : (dotsAll a b).length = L1 := by
        rw [← HL1.out, List.take_of_length_le hi.2.2.2]
      rw [hl] at hi
      exact ⟨hi.1, hi.2.1, hi.2.2.1⟩
    case hSp =>
      rintro c pre W hpf (⟨_, hno⟩ | ⟨⟨hc, hl⟩, hj⟩)
      · exact absurd hpf hno
      · refine ⟨hc, ?_⟩
        rw [hJ1]
        have hL : (L1 : Int) = (N : Int) + 1 := by
          have h1 := hpf.length_le
          have h2 := HL1.out
          rw [List.length_take] at h2
          omega
        rw [hL]
        exact hj
    case hex => exact fun a W h => h
    case hassign =>
      intro l pre x W K hIp hK
      dsimp only [dotV]
      have hsW : R1.heap.size ≤ W.heap.size := by
        rw [hI1] at hIp
        exact hIp.2.2.1
      gi_wp2
      obtain ⟨g, hg⟩ : ∃ g, g = W.heap.size := ⟨_, rfl⟩
      have hbk : Blk (W.alloc (.cells #[.int .i64 x.1, .int .i64 x.2] 25)) g 25 [.int .i64 x.1, .int .i64 x.2] := by rw [hg]; exact Blk.new W 25 [.int .i64 x.1, .int .i64 x.2]
      have hgl : R1.heap.size ≤ g := by rw [hg]; exact hsW
      rw [← hg]
      exact hK g (W.alloc (.cells #[.int .i64 x.1, .int .i64 x.2] 25)) ((KeepsOthers.alloc W _).from _) (Kq.alloc W (by omega) hsW _) (hIo1.alloc _ hIp) hbk hgl
    case hbody =>
      rintro l pre ⟨x1, x2⟩ g W hIp hbk hgl hlt
      rw [hI1] at hIp
      obtain ⟨⟨hii, hB⟩, hLk, hsW, hpN⟩ := hIp
      obtain ⟨pl, hpl⟩ : ∃ pl, pre.length = pl := ⟨_, rfl⟩
      rw [hpl] at hii hlt hpN
      have HPL := hid hpl
      clear hpl
      have hci := hii.cell
      have hfi := hii.frozen
      have bO : Boxed W w.heap.size 23 (.slice bo m2 cb) := (hB.block _ HO1.out.lt).trans HO1.out
      have bN : Boxed W pn 3 (.int .i64 (N : Int)) := (hB.block _ HN1.out.lt).trans HN1.out
      have bR : Boxed W (w.heap.size + 1) 4 (.bool false) := (hB.block _ HR1.out.lt).trans HR1.out
      have bW : Boxed W X1.heap.size 40 (.slice eo1 L1 cap1) := hLk.boxed HRw1.out (by omega) (by omega)
      have co := bO.cell
      have cn := bN.cell
      have cr := bR.cell
      have fr := bR.frozen
      have cw := bW.cell
      have c0 := hbk.cell (i := 0) rfl
      have c1 := hbk.cell (i := 1) rfl
      have Hii := hid hii
      have HB := hid hB
      have HLk := hid hLk
      have HPN2 := hid hpN
      have HLT := hid hlt
      have HVW : Hid (HV W bo cb b) := HVB.out.below (bt HA1.out hB)
      have hN9 := HN9.out
      clear hii hB bO bN bR bW hbk hLk hpN hlt
      by_cases hgt : N < pl
      · have hgt' : (N : Int) < (pl : Int) := by omega
        have HG := hid hgt
        subst hI1
        clear hgt
        gi_wp2
        have hpe : pl = N + 1 := by have := HG.out; have := HPN2.out; omega
        have hpe' : (pl : Int) = (N : Int) + 1 := by omega
        refine ⟨(KeepsOthers.refl _).from _, .inr ⟨⟨rfl, by simp [HPL.out, hpe]⟩, ?_⟩⟩
        rw [← hpe']
        exact ⟨⟨Hii.out, HB.out⟩, HLk.out, hsW⟩
      · have hgt' : ¬ (N : Int) < (pl : Int) := by omega
        have hLp : pl < L1 := by
          have h2 := HL1.out
          rw [List.length_take] at h2
          have := HLT.out
          omega
        have dge : decide (L1 ≤ pl) = false := decide_eq_false (by omega)
        have hpI : (pl : Int) < (L1 : Int) := by omega
        have hp0 : (0 : Int) ≤ (pl : Int) := by omega
        have hLs : (L1 : Int) ≤ 1000 := by
          have h2 := HL1.out
          rw [List.length_take] at h2
          omega
        obtain ⟨gd, heo, hg1, hg2, hcd⟩ := HDC1.out (by omega)
        have d0 := (HLk.out.cell (off := pl * 2) hg1 hg2).trans (hcd pl hLp).1
        have d1 := (HLk.out.cell (off := pl * 2 + 1) hg1 hg2).trans (hcd pl hLp).2
        obtain ⟨⟨D1, D2⟩, HD⟩ : ∃ D, Hid (((dotsAll a b).take (N + 1)).getD pl (0, 0) = D) := ⟨_, hid rfl⟩
        rw [HD.out] at d0 d1
        have HTA : Hid (pre ++ [(x1, x2)] <+: dotsAll a b → (x1, x2) = (D1, D2)) := fun hpf => by
          have h1 := take_at (z := ((0 : Int), (0 : Int))) (M := N + 1) hpf (by rw [HPL.out]; omega)
          rw [HPL.out, HD.out] at h1
          exact h1
        clear hcd hgt
        subst heo
        have hgne : W1.heap.size ≠ g := by omega
        have HZV : Hid (W1.heap.size < Z1.heap.size) := (by omega : W1.heap.size < Z1.heap.size)
        by_cases hx1 : x1 = D1
        · by_cases hx2 : x2 = D2
          · subst x1
            subst x2
            have hb1 : (D1 == D1) = true := by simp
            have hb2 : (D2 == D2) = true := by simp
            have hII : ∀ q, I1 (pre ++ [(D1, D2)]) ((W.drewN q).setCell ⟨W1.heap.size, 0, none⟩ (.int .i64 ((pl : Int) + 1))) := by
              intro q
              rw [hI1]
              refine ⟨⟨?_, (below_dn HB.out q).setCell (p := ⟨W1.heap.size, 0, none⟩) (Nat.le_refl _) _⟩, Like.set (W := W.drewN q) HLk.out (by omega) _, by simpa using hsW, by simp [HPL.out]; omega⟩
              have h1 : ((pre ++ [(D1, D2)]).length : Int) = (pl : Int) + 1 := by simp [HPL.out]
              rw [h1]
              exact (show Boxed (W.drewN q) W1.heap.size 3 (.int .i64 (pl : Int)) from Hii.out).set _
            have HII := hid hII
            clear hII
            gi_wp2
            refine wpIn_region_quiet_round l rfl (by kernel_rfl) (by kernel_rfl) (by kernel_rfl) ?_
            repeat (gi_big_quiet_step (fail))
            refine wpQuietIn_nil ?_
            intro _ hw
            obtain ⟨nq, rfl⟩ := hw
            gi_wp2
            exact ⟨((keepsD W nq).trans (KeepsOthers.setCell _ _ _)).from _, Kq.trans (Kq.dn W nq) (Kq.set _ (Nat.le_refl _) HZV.out _), HII.out _⟩
          · have hno : ¬ pre ++ [(x1, x2)] <+: dotsAll a b := fun hpf => hx2 (by have := HTA.out hpf; simp at this; exact this.2)
            have HNO := hid hno
            have hb1 : (x1 == D1) = true := by simpa using hx1
            have hb2 : (x2 == D2) = false := by simpa using hx2
            clear hno
            subst hI1
            gi_wp2
            refine wpIn_region_quiet_round l rfl (by kernel_rfl) (by kernel_rfl) (by kernel_rfl) ?_
            repeat (gi_big_quiet_step (fail))
            refine wpQuietIn_nil ?_
            intro _ hw
            obtain ⟨nq, rfl⟩ := hw
            gi_wp2
            first | exact ⟨((keepsD W nq).trans (KeepsOthers.setCell _ _ _)).from _, rfl, HNO.out⟩ | exact ⟨((keepsD W nq).trans (KeepsOthers.setCell _ _ _)).from _, .inl ⟨rfl, HNO.out⟩⟩
        · have hno : ¬ pre ++ [(x1, x2)] <+: dotsAll a b := fun hpf => hx1 (by have := HTA.out hpf; simp at this; exact this.1)
          have HNO := hid hno
          have hb2 : (x1 == D1) = false := by simpa using hx1
          clear hno
          subst hI1
          gi_wp2
          refine wpIn_region_quiet_round l rfl (by kernel_rfl) (by kernel_rfl) (by kernel_rfl) ?_
          repeat (gi_big_quiet_step (fail))
          refine wpQuietIn_nil ?_
          intro _ hw
          obtain ⟨nq, rfl⟩ := hw
          gi_wp2
          first | exact ⟨((keepsD W nq).trans (KeepsOthers.setCell _ _ _)).from _, rfl, HNO.out⟩ | exact ⟨((keepsD W nq).trans (KeepsOthers.setCell _ _ _)).from _, .inl ⟨rfl, HNO.out⟩⟩
    case hafter =>
      intro D1 W2 hD1 hj hDef
      rw [hJ1] at hj
      obtain ⟨⟨hii, hB⟩, hLk, hsW⟩ := hj
      have hci := hii.cell
      have bW : Boxed W2 X1.heap.size 40 (.slice eo1 L1 cap1) := hLk.boxed HRw1.out (by omega) (by omega)
      have cw := bW.cell
      have HA2 := hid (bt HA1.out hB)
      have HO2 : Hid (Boxed W2 w.heap.size 23 (.slice bo m2 cb)) := (hB.block _ HO1.out.lt).trans HO1.out
      have HR2 : Hid (Boxed W2 (w.heap.size + 1) 4 (.bool false)) := (hB.block _ HR1.out.lt).trans HR1.out
      have HN2 : Hid (Boxed W2 pn 3 (.int .i64 (N : Int))) := (hB.block _ HN1.out.lt).trans HN1.out
      have HD1 := hid hDef
      have sQ2 := hB.size
      have hDl1 : D1 < W2.heap.size := (Array.getElem?_eq_some_iff.1 hDef).1
      have HD0x2 : Hid (W2.heap[D0]? = some (.deferred (some []))) := (hB.block _ (by have := sV1; omega)).trans HD0.out
      clear hii hB hLk bW hDef hsW hsz hseq hI1 hIo1 hJ1 HSQ1 HDC1 HRi1 HAR1
      gi_wp2
      rw [roundsIn_succ]
      clear hci cw
      have sV2 := HA2.out.size
      have HU2 : Hid (Below W2.heap.size W2 (W2.alloc (.cells #[.int .i64 0] 3))) := (Below.refl _ _).alloc (Nat.le_refl _) _
      have HUi2 : Hid (Boxed (W2.alloc (.cells #[.int .i64 0] 3)) W2.heap.size 3 (.int .i64 0)) := Boxed.new W2 3 _
      have co : (W2.alloc (.cells #[.int .i64 0] 3)).cell? ⟨w.heap.size, 0, none⟩ = some (.slice bo m2 cb) := (HO2.out.alloc _).cell
      have cn : (W2.alloc (.cells #[.int .i64 0] 3)).cell? ⟨pn, 0, none⟩ = some (.int .i64 (N : Int)) := (HN2.out.alloc _).cell
      have hN9 := HN9.out
      have hus : (W2.alloc (.cells #[.int .i64 0] 3)).heap.size = W2.heap.size + 1 := by simp
      have HUS2 := hid hus
      clear hus
      gi_wp2_with fail
      generalize W2.alloc (.cells #[.int .i64 0] 3) = U2 at *
      clear hN9
      have HAU2 : Hid (Below w.heap.size w U2) := bt HA2.out HU2.out
      have HRB2 := hid (rbetween_any U2 none bo 0 cb [] b 0 m2 rfl HM2.out (hv_nil _) (HVB.out.below HAU2.out) (N + 1) (by have := HN9.out; omega))
      rw [show ((N + 1 : Nat) : Int) = (N : Int) + 1 by omega] at HRB2
      refine ⟨trivial, (callsIn_wide.2 HRB2.out).mono ?_⟩
      rintro e X2 ⟨v, rfl, hown, hbX⟩
      obtain ⟨eo2, cap2, rfl⟩ := own_slice hown
      obtain ⟨L2, HL2⟩ : ∃ L, Hid (((dotsAll [] b).take (N + 1)).length = L) := ⟨_, hid rfl⟩
      have HOW2 := hid hown
      rw [HL2.out]
      have HBX2 := hid hbX
      have sX2 := hbX.size
      clear hown hbX HRB2 co cn
      have HY2 : Hid (Below X2.heap.size X2 (X2.alloc (.cells #[.slice eo2 L2 cap2] 40))) := (Below.refl _ _).alloc (Nat.le_refl _) _
      have HYw2 : Hid (Boxed (X2.alloc (.cells #[.slice eo2 L2 cap2] 40)) X2.heap.size 40 (.slice eo2 L2 cap2)) := Boxed.new X2 40 _
      have co : (X2.alloc (.cells #[.slice eo2 L2 cap2] 40)).cell? ⟨w.heap.size, 0, none⟩ = some (.slice bo m2 cb) := by
        have h1 : Boxed X2 w.heap.size 23 (.slice bo m2 cb) := (HBX2.out.block _ (by have := HO2.out.lt; have := HUS2.out; omega)).trans ((HU2.out.block _ HO2.out.lt).trans HO2.out)
        exact (h1.alloc _).cell
      have hys : (X2.alloc (.cells #[.slice eo2 L2 cap2] 40)).heap.size = X2.heap.size + 1 := by simp
      have HYS2 := hid hys
      clear hys
      gi_wp2_with fail
      generalize X2.alloc (.cells #[.slice eo2 L2 cap2] 40) = Y2 at *
      have HAY2 : Hid (Below W2.heap.size W2 Y2) := ⟨by rw [HY2.out.os, HBX2.out.os, HU2.out.os], by rw [HY2.out.tape, HBX2.out.tape, HU2.out.tape], by rw [HY2.out.output, HBX2.out.output, HU2.out.output], by have := HYS2.out; have := HUS2.out; omega, fun k hk => (HY2.out.block k (by have := HUS2.out; omega)).trans ((HBX2.out.block k (by have := HUS2.out; omega)).trans (HU2.out.block k hk))⟩
      have HAYw2 : Hid (Below w.heap.size w Y2) := bt HA2.out HAY2.out
      refine ⟨trivial, (callsIn_wide.2 (dots2_any Y2 bo cb b m2 HM2.out (HVB.out.below HAYw2.out))).mono ?_⟩
      rintro e Z2 ⟨_, _, _, _, rfl, _, hb01, _, _⟩
      have HZ2 := hid hb01
      have sZ2 := hb01.size
      have HAZw2 : Hid (Below w.heap.size w Z2) := bt HAYw2.out hb01
      have hql := fun W => it_eql (Y2.heap.size + 1) Y2.heap.size W
      have co : Z2.cell? ⟨w.heap.size, 0, none⟩ = some (.slice bo m2 cb) := by
        have h1 : Boxed Z2 w.heap.size 23 (.slice bo m2 cb) := (hb01.block _ (by have := HO2.out.lt; have := HUS2.out; have := HYS2.out; omega)).trans ((HAY2.out.block _ HO2.out.lt).trans HO2.out)
        exact h1.cell
      clear hb01
      gi_wp2_with fail
      clear hql co
      refine ⟨trivial, (callsIn_wide.2 (dots2_any Z2 bo cb b m2 HM2.out (HVB.out.below HAZw2.out))).mono ?_⟩
      rintro e R2 ⟨io2, jo2, ic2, jc2, rfl, hit, hb12, hoa, hob⟩
      have sR2 := hb12.size
      have hsz : W2.heap.size + 1 ≤ X2.heap.size ∧ Y2.heap.size = X2.heap.size + 1 ∧ Y2.heap.size ≤ Z2.heap.size ∧ Z2.heap.size ≤ R2.heap.size := ⟨by have := HUS2.out; omega, HYS2.out, sZ2, sR2⟩
      have HSQ2 := hid (betw_seq 4 (by omega) W2.heap.size Z2.heap.size Z2.heap.size (Z2.heap.size + 1) R2 io2 jo2 ic2 jc2 [] b (by omega) (Nat.le_refl _) (by omega) hit hoa hob sR2)
      have HAR2 : Hid (Below W2.heap.size W2 R2) := HAY2.out.trans ((HZ2.out.trans (hb12.mono (by omega))).mono (by omega))
      have HRi2 : Hid (Boxed R2 W2.heap.size 3 (.int .i64 0)) := (hb12.block _ (by omega)).trans ((HZ2.out.block _ (by omega)).trans ((HY2.out.block _ (by omega)).trans ((HBX2.out.block _ (by have := HUS2.out; omega)).trans HUi2.out)))
      have HRw2 : Hid (Boxed R2 X2.heap.size 40 (.slice eo2 L2 cap2)) := (hb12.block _ (by omega)).trans ((HZ2.out.block _ (by omega)).trans HYw2.out)
      have HDC2 : Hid (0 < L2 → ∃ g, eo2 = some ⟨g, 0, none⟩ ∧ W2.heap.size + 1 ≤ g ∧ g < R2.heap.size ∧ ∀ i, i < L2 → R2.cell? ⟨g, i * 2, none⟩ = some (.int .i64 (((dotsAll [] b).take (N + 1)).getD i (0, 0)).1) ∧ R2.cell? ⟨g, i * 2 + 1, none⟩ = some (.int .i64 (((dotsAll [] b).take (N + 1)).getD i (0, 0)).2)) := by
        intro hpos
        obtain ⟨g, h1, h2, h3, h4⟩ := dots_cells HOW2.out (by rw [HL2.out]; exact hpos)
        refine ⟨g, h1, by have := HUS2.out; omega, by omega, fun i hi => ?_⟩
        have h5 := h4 i (by rw [HL2.out]; exact hi)
        have h6 : ∀ off, R2.cell? ⟨g, off, none⟩ = X2.cell? ⟨g, off, none⟩ := fun off => ((hb12.cell (p := ⟨g, off, none⟩) (by show g < _; omega)).trans (HZ2.out.cell (p := ⟨g, off, none⟩) (by show g < _; omega))).trans (HY2.out.cell (p := ⟨g, off, none⟩) (by show g < _; omega))
        rw [h6, h6]
        exact h5
      have HSZ2 := hid hsz
      clear hit hb12 hoa hob hsz HU2 HUi2 HAU2 HOW2 HBX2 HY2 HYw2 HAY2 HAYw2 HZ2 HAZw2 sZ2 sX2
      gi_wp2
      obtain ⟨I2, hI2⟩ : ∃ I : List (Int × Int) → World → Prop, I = (fun (pre : List (Int × Int)) (W : World) => (Boxed W W2.heap.size 3 (.int .i64 (pre.length : Int)) ∧ Below W2.heap.size W2 W) ∧ (Like R2 (W2.heap.size + 1) R2.heap.size W ∧ (R2.heap.size ≤ W.heap.size ∧ pre.length ≤ N + 1))) := ⟨_, rfl⟩
      have hIo2 : OwnFrom R2.heap.size I2 := by
        rw [hI2]
        have hs := HSZ2.out
        exact OwnFrom.and (OwnFrom.and (Own.from (boxed_own W2.heap.size 3 (fun pre : List (Int × Int) => .int .i64 (pre.length : Int))) _) (ownFrom_below (Nat.le_refl _) (by omega))) (OwnFrom.and (ownFrom_like (Nat.le_refl _)) (OwnFrom.and ownFrom_sizeB (fun _ _ _ _ h _ _ => h)))
      obtain ⟨J2, hJ2⟩ : ∃ J : World → Prop, J = (fun W : World => (Boxed W W2.heap.size 3 (.int .i64 (L2 : Int)) ∧ Below W2.heap.size W2 W) ∧ (Like R2 (W2.heap.size + 1) R2.heap.size W ∧ R2.heap.size ≤ W.heap.size)) := ⟨_, rfl⟩
      have hseq := HSQ2.out
      have hsz := HSZ2.out
      apply wpIn_rangeFunc_boxB (encs := fun x : Int × Int => #[dotV x]) (Kp := Kq W2.heap.size Z2.heap.size R2.heap.size) rfl (by omega) (gf := 60) (lb := #[.pointer (some ⟨Z2.heap.size + 1, 0, none⟩), .pointer (some ⟨Z2.heap.size, 0, none⟩)]) rfl trivial (enters_of Try.func60 (by kernel_rfl) rfl)
        hseq (fun a b => Kq.trans a b)
        (fun W l o o' hl ho hc hw => ⟨belowK_b (w := R2) (by omega) W l o o' hl ho hc hw, fun k _ h2 => (grownBy_putObj' W l o').block k (by have := (Array.getElem?_eq_some_iff.1 ho).1; omega) (by intro e; have := Option.some.inj e; omega)⟩)
        (Below.refl _ _) (fun _ => rfl) I2 (fun c pre W => (c = .ret ∧ ¬ pre <+: dotsAll [] b) ∨ ((c = .exit 4 ∧ pre.length = N + 2) ∧ ((Boxed W W2.heap.size 3 (.int .i64 ((N : Int) + 1)) ∧ Below W2.heap.size W2 W) ∧ (Like R2 (W2.heap.size + 1) R2.heap.size W ∧ R2.heap.size ≤ W.heap.size)))) hIo2
        (fun c => ownFrom_or (I := fun _ W => (Boxed W W2.heap.size 3 (.int .i64 ((N : Int) + 1)) ∧ Below W2.heap.size W2 W) ∧ (Like R2 (W2.heap.size + 1) R2.heap.size W ∧ R2.heap.size ≤ W.heap.size)) (OwnFrom.and (OwnFrom.and (Own.from (boxed_own W2.heap.size 3 (fun _ : List (Int × Int) => .int .i64 ((N : Int) + 1))) _) (ownFrom_below (Nat.le_refl _) (by omega))) (OwnFrom.and (ownFrom_like (Nat.le_refl _)) ownFrom_sizeB)) (fun pre => c = .exit 4 ∧ pre.length = N + 2))
        (by rw [hI2]; exact ⟨⟨HRi2.out, HAR2.out⟩, Like.refl _ _ _, Nat.le_refl _, Nat.zero_le _⟩) (Bx := fun x => [.int .i64 x.1, .int .i64 x.2]) (t := 25) (B := R2.heap.size) (kb := 4) (J := J2)
      case hS =>
        rintro xs W rfl hi
        rw [hI2] at hi
        rw [hJ2]
        have hl : (dotsAll [] b).length = L2 := by
          rw [← HL2.out, List.take_of_length_le hi.2.2.2]
        rw [hl] at hi
        exact ⟨hi.1, hi.2.1, hi.2.2.1⟩
      case hSp =>
        rintro c pre W hpf (⟨_, hno⟩ | ⟨⟨hc, hl⟩, hj⟩)
        · exact absurd hpf hno
        · refine ⟨hc, ?_⟩
          rw [hJ2]
          have hL : (L2 : Int) = (N : Int) + 1 := by
            have h1 := hpf.length_le
            have h2 := HL2.out
            rw [List.length_take] at h2
            omega
          rw [hL]
          exact hj
      case hex => exact fun a W h => h
      case hassign =>
        intro l pre x W K hIp hK
        dsimp only [dotV]
        have hsW : R2.heap.size ≤ W.heap.size := by
          rw [hI2] at hIp
          exact hIp.2.2.1
        gi_wp2
        obtain ⟨g, hg⟩ : ∃ g, g = W.heap.size := ⟨_, rfl⟩
        have hbk : Blk (W.alloc (.cells #[.int .i64 x.1, .int .i64 x.2] 25)) g 25 [.int .i64 x.1, .int .i64 x.2] := by rw [hg]; exact Blk.new W 25 [.int .i64 x.1, .int .i64 x.2]
        have hgl : R2.heap.size ≤ g := by rw [hg]; exact hsW
        rw [← hg]
        exact hK g (W.alloc (.cells #[.int .i64 x.1, .int .i64 x.2] 25)) ((KeepsOthers.alloc W _).from _) (Kq.alloc W (by omega) hsW _) (hIo2.alloc _ hIp) hbk hgl
      case hbody =>
        rintro l pre ⟨x1, x2⟩ g W hIp hbk hgl hlt
        rw [hI2] at hIp
        obtain ⟨⟨hii, hB⟩, hLk, hsW, hpN⟩ := hIp
        obtain ⟨pl, hpl⟩ : ∃ pl, pre.length = pl := ⟨_, rfl⟩
        rw [hpl] at hii hlt hpN
        have HPL := hid hpl
        clear hpl
        have hci := hii.cell
        have hfi := hii.frozen
        have bO : Boxed W w.heap.size 23 (.slice bo m2 cb) := (hB.block _ HO2.out.lt).trans HO2.out
        have bN : Boxed W pn 3 (.int .i64 (N : Int)) := (hB.block _ HN2.out.lt).trans HN2.out
        have bR : Boxed W (w.heap.size + 1) 4 (.bool false) := (hB.block _ HR2.out.lt).trans HR2.out
        have bW : Boxed W X2.heap.size 40 (.slice eo2 L2 cap2) := hLk.boxed HRw2.out (by omega) (by omega)
        have co := bO.cell
        have cn := bN.cell
        have cr := bR.cell
        have fr := bR.frozen
        have cw := bW.cell
        have c0 := hbk.cell (i := 0) rfl
        have c1 := hbk.cell (i := 1) rfl
        have Hii := hid hii
        have HB := hid hB
        have HLk := hid hLk
        have HPN2 := hid hpN
        have HLT := hid hlt
        have HVW : Hid (HV W bo cb b) := HVB.out.below (bt HA2.out hB)
        have hN9 := HN9.out
        clear hii hB bO bN bR bW hbk hLk hpN hlt
        by_cases hgt : N < pl
        · have hgt' : (N : Int) < (pl : Int) := by omega
          have HG := hid hgt
          subst hI2
          clear hgt
          gi_wp2
          have hpe : pl = N + 1 := by have := HG.out; have := HPN2.out; omega
          have hpe' : (pl : Int) = (N : Int) + 1 := by omega
          refine ⟨(KeepsOthers.refl _).from _, .inr ⟨⟨rfl, by simp [HPL.out, hpe]⟩, ?_⟩⟩
          rw [← hpe']
          exact ⟨⟨Hii.out, HB.out⟩, HLk.out, hsW⟩
        · have hgt' : ¬ (N : Int) < (pl : Int) := by omega
          have hLp : pl < L2 := by
            have h2 := HL2.out
            rw [List.length_take] at h2
            have := HLT.out
            omega
          have dge : decide (L2 ≤ pl) = false := decide_eq_false (by omega)
          have hpI : (pl : Int) < (L2 : Int) := by omega
          have hp0 : (0 : Int) ≤ (pl : Int) := by omega
          have hLs : (L2 : Int) ≤ 1000 := by
            have h2 := HL2.out
            rw [List.length_take] at h2
            omega
          obtain ⟨gd, heo, hg1, hg2, hcd⟩ := HDC2.out (by omega)
          have d0 := (HLk.out.cell (off := pl * 2) hg1 hg2).trans (hcd pl hLp).1
          have d1 := (HLk.out.cell (off := pl * 2 + 1) hg1 hg2).trans (hcd pl hLp).2
          obtain ⟨⟨D1, D2⟩, HD⟩ : ∃ D, Hid (((dotsAll [] b).take (N + 1)).getD pl (0, 0) = D) := ⟨_, hid rfl⟩
          rw [HD.out] at d0 d1
          have HTA : Hid (pre ++ [(x1, x2)] <+: dotsAll [] b → (x1, x2) = (D1, D2)) := fun hpf => by
            have h1 := take_at (z := ((0 : Int), (0 : Int))) (M := N + 1) hpf (by rw [HPL.out]; omega)
            rw [HPL.out, HD.out] at h1
            exact h1
          clear hcd hgt
          subst heo
          have hgne : W2.heap.size ≠ g := by omega
          have HZV : Hid (W2.heap.size < Z2.heap.size) := (by omega : W2.heap.size < Z2.heap.size)
          by_cases hx1 : x1 = D1
          · by_cases hx2 : x2 = D2
            · subst x1
              subst x2
              have hb1 : (D1 == D1) = true := by simp
              have hb2 : (D2 == D2) = true := by simp
              have hII : ∀ q, I2 (pre ++ [(D1, D2)]) ((W.drewN q).setCell ⟨W2.heap.size, 0, none⟩ (.int .i64 ((pl : Int) + 1))) := by
                intro q
                rw [hI2]
                refine ⟨⟨?_, (below_dn HB.out q).setCell (p := ⟨W2.heap.size, 0, none⟩) (Nat.le_refl _) _⟩, Like.set (W := W.drewN q) HLk.out (by omega) _, by simpa using hsW, by simp [HPL.out]; omega⟩
                have h1 : ((pre ++ [(D1, D2)]).length : Int) = (pl : Int) + 1 := by simp [HPL.out]
                rw [h1]
                exact (show Boxed (W.drewN q) W2.heap.size 3 (.int .i64 (pl : Int)) from Hii.out).set _
              have HII := hid hII
              have HIX : Hid (∀ X : Beyond W, I2 (pre ++ [(D1, D2)]) (X.now.setCell ⟨W2.heap.size, 0, none⟩ (.int .i64 ((pl : Int) + 1)))) := fun X => by
                rw [hI2]
                refine ⟨⟨?_, (HB.out.trans (X.is.mono (by omega))).setCell (p := ⟨W2.heap.size, 0, none⟩) (Nat.le_refl _) _⟩, Like.set (W := X.now) (fun k h1 h2 => (X.is.block k (by omega)).trans (HLk.out k h1 h2)) (by omega) _, by have := X.is.size; simp; omega, by simp [HPL.out]; omega⟩
                have h1 : ((pre ++ [(D1, D2)]).length : Int) = (pl : Int) + 1 := by simp [HPL.out]
                rw [h1]
                exact (show Boxed X.now W2.heap.size 3 (.int .i64 (pl : Int)) from (X.is.block _ (by omega)).trans Hii.out).set _
              clear hII
              have HHC : Hid (∀ X : Beyond W, CallsIn Fence.wide 2 Try.prog 23 #[.slice bo m2 cb, .agg #[.int .i64 D1, .int .i64 D2]] X.now (fun e w'' => e = .returned (.bool true) ∧ ∃ Y : Beyond W, w'' = Y.now)) := fun X => by
                have h1 := has_any X.now bo cb b m2 HM2.out (HVW.out.below X.is) D1 D2
                rw [decide_eq_true (dots_has (by rw [← HD.out]; exact getD_memD (by have := HL2.out; omega)))] at h1
                refine (callsIn_wide.2 h1).mono ?_
                rintro e w'' ⟨rfl, hb⟩
                exact ⟨rfl, ⟨w'', X.is.trans (hb.mono X.is.size)⟩, rfl⟩
              have HC0 : Hid (∃ X : Beyond W, { W with drawn := W.drawn + 1 } = X.now) := ⟨⟨_, below_dn (Below.refl _ _) 1⟩, rfl⟩
              have sg : g < W.heap.size := World.block_lt_of_cell? W _ c0
              have kco := fun X : Beyond W => X.cell co (by show w.heap.size < _; have := HO2.out.lt; omega)
              have kci := fun X : Beyond W => X.cell hci (by show W2.heap.size < _; omega)
              have kcw := fun X : Beyond W => X.cell cw (by show X2.heap.size < _; omega)
              have kc0 := fun X : Beyond W => X.cell c0 (by show g < _; exact sg)
              have kc1 := fun X : Beyond W => X.cell c1 (by show g < _; exact sg)
              have kd0 := fun X : Beyond W => X.cell d0 (by show gd < _; omega)
              have kd1 := fun X : Beyond W => X.cell d1 (by show gd < _; omega)
              gi_wp2
              refine wpIn_region_round (fun w' => ∃ X : Beyond W, w' = X.now) l rfl (by kernel_rfl) (by kernel_rfl) (by kernel_rfl) HC0.out ?_
              repeat (gi_big_quiet_step (fail))
              refine quiet_call (.bool true) (fun _ _ _ _ => trivial) rfl 23 #[.slice bo m2 cb, .agg #[.int .i64 D1, .int .i64 D2]] (fun w' _ => by go_simp) (fun h => by cases h) (fun w' hc => by obtain ⟨X, rfl⟩ := hc; exact HHC.out X) ?_
              go_simp
              repeat (gi_big_quiet_step (fail))
              refine wpQuietIn_nil ?_
              intro X
              have bi := (X.is.block _ (by omega : W2.heap.size < W.heap.size)).trans Hii.out
              have ki : X.now.cell? ⟨W2.heap.size, 0, none⟩ = some (.int .i64 (pl : Int)) := Boxed.cell (t := 3) bi
              have kf : X.now.frozen? ⟨W2.heap.size, 0, none⟩ = false := Boxed.frozen (t := 3) (v := .int .i64 (pl : Int)) bi
              have hI3 := HIX.out X
              have HI3 := hid hI3
              have HKO : Hid (KeepsFrom R2.heap.size W (X.now.setCell ⟨W2.heap.size, 0, none⟩ (.int .i64 ((pl : Int) + 1)))) := ((keepsB X.is).trans (KeepsOthers.setCell _ _ _)).from _
              have HKK : Hid (Kq W2.heap.size Z2.heap.size R2.heap.size W (X.now.setCell ⟨W2.heap.size, 0, none⟩ (.int .i64 ((pl : Int) + 1)))) := Kq.trans ⟨X.is.mono (by omega), fun k _ h2 => X.is.block k (by omega)⟩ (Kq.set _ (Nat.le_refl _) HZV.out _)
              generalize X.now = W9 at *
              clear hI3 HIX bi kco kci kcw kc0 kc1 kd0 kd1
              gi_wp2
              exact ⟨HKO.out, HKK.out, HI3.out⟩
            · have hno : ¬ pre ++ [(x1, x2)] <+: dotsAll [] b := fun hpf => hx2 (by have := HTA.out hpf; simp at this; exact this.2)
              have HNO := hid hno
              have hb1 : (x1 == D1) = true := by simpa using hx1
              have hb2 : (x2 == D2) = false := by simpa using hx2
              clear hno
              subst hI2
              gi_wp2
              refine wpIn_region_quiet_round l rfl (by kernel_rfl) (by kernel_rfl) (by kernel_rfl) ?_
              repeat (gi_big_quiet_step (fail))
              refine BigFrame.wpQuietIn_skip (fun _ _ _ _ => trivial) rfl ?_
              go_simp
              repeat (gi_big_quiet_step (fail))
              refine wpQuietIn_nil ?_
              intro nq
              gi_wp2
              first | exact ⟨((keepsD W nq).trans (KeepsOthers.setCell _ _ _)).from _, rfl, HNO.out⟩ | exact ⟨((keepsD W nq).trans (KeepsOthers.setCell _ _ _)).from _, .inl ⟨rfl, HNO.out⟩⟩
          · have hno : ¬ pre ++ [(x1, x2)] <+: dotsAll [] b := fun hpf => hx1 (by have := HTA.out hpf; simp at this; exact this.1)
            have HNO := hid hno
            have hb2 : (x1 == D1) = false := by simpa using hx1
            clear hno
            subst hI2
            gi_wp2
            refine wpIn_region_quiet_round l rfl (by kernel_rfl) (by kernel_rfl) (by kernel_rfl) ?_
            repeat (gi_big_quiet_step (fail))
            refine BigFrame.wpQuietIn_skip (fun _ _ _ _ => trivial) rfl ?_
            go_simp
            repeat (gi_big_quiet_step (fail))
            refine wpQuietIn_nil ?_
            intro nq
            gi_wp2
            first | exact ⟨((keepsD W nq).trans (KeepsOthers.setCell _ _ _)).from _, rfl, HNO.out⟩ | exact ⟨((keepsD W nq).trans (KeepsOthers.setCell _ _ _)).from _, .inl ⟨rfl, HNO.out⟩⟩
      case hafter =>
        intro D2 W3 hD2 hj hDef
        rw [hJ2] at hj
        obtain ⟨⟨hii, hB⟩, hLk, hsW⟩ := hj
        have hci := hii.cell
        have bW : Boxed W3 X2.heap.size 40 (.slice eo2 L2 cap2) := hLk.boxed HRw2.out (by omega) (by omega)
        have cw := bW.cell
        have HA3 := hid (bt HA2.out hB)
        have HO3 : Hid (Boxed W3 w.heap.size 23 (.slice bo m2 cb)) := (hB.block _ HO2.out.lt).trans HO2.out
        have HR3 : Hid (Boxed W3 (w.heap.size + 1) 4 (.bool false)) := (hB.block _ HR2.out.lt).trans HR2.out
        have HN3 : Hid (Boxed W3 pn 3 (.int .i64 (N : Int))) := (hB.block _ HN2.out.lt).trans HN2.out
        have HD2 := hid hDef
        have sQ3 := hB.size
        have hDl2 : D2 < W3.heap.size := (Array.getElem?_eq_some_iff.1 hDef).1
        have HD0x3 : Hid (W3.heap[D0]? = some (.deferred (some []))) := (hB.block _ (by have := sV2; omega)).trans HD0x2.out
        have HD1x3 : Hid (W3.heap[D1]? = some (.deferred (some []))) := (hB.block _ (by have := sV2; omega)).trans HD1.out
        clear hii hB hLk bW hDef hsW hsz hseq hI2 hIo2 hJ2 HSQ2 HDC2 HRi2 HAR2
        have cr := HR3.out.cell
        have fr := HR3.out.frozen
        gi_wp2
        have z0 := HSZ0.out
        have z1 := HSZ1.out
        have z2 := HSZ2.out
        have zr := HR0.out.lt
        have zl := HR3.out.lt
        have hK2 : (W3.setCell ⟨w.heap.size + 1, 0, none⟩ (.bool true)).heap[D2]? = some (.deferred (some [])) := by
          rw [Below.heap_setCell _ _ _ _ (by simp; omega)]
          exact HD2.out
        have hK1 : ((W3.setCell ⟨w.heap.size + 1, 0, none⟩ (.bool true)).putObj D2 (.deferred none)).heap[D1]? = some (.deferred (some [])) := by
          rw [World.putObj_heap_other (by omega), Below.heap_setCell _ _ _ _ (by simp; omega)]
          exact HD1x3.out
        have hK0 : (((W3.setCell ⟨w.heap.size + 1, 0, none⟩ (.bool true)).putObj D2 (.deferred none)).putObj D1 (.deferred none)).heap[D0]? = some (.deferred (some [])) := by
          rw [World.putObj_heap_other (by omega), World.putObj_heap_other (by omega), Below.heap_setCell _ _ _ _ (by simp; omega)]
          exact HD0x3.out
        have hRf : Boxed ((((W3.setCell ⟨w.heap.size + 1, 0, none⟩ (.bool true)).putObj D2 (.deferred none)).putObj D1 (.deferred none)).putObj D0 (.deferred none)) (w.heap.size + 1) 4 (.bool true) := by
          unfold Boxed
          rw [World.putObj_heap_other (by omega), World.putObj_heap_other (by omega), World.putObj_heap_other (by omega)]
          exact HR3.out.set (.bool true)
        have hbF : Below w.heap.size w ((((W3.setCell ⟨w.heap.size + 1, 0, none⟩ (.bool true)).putObj D2 (.deferred none)).putObj D1 (.deferred none)).putObj D0 (.deferred none)) :=
          (((HA3.out.setCell (p := ⟨w.heap.size + 1, 0, none⟩) (by simp) _).trans (belowK_b (w := w) (Nat.le_refl _) _ D2 _ _ (by omega) hK2 rfl rfl)).trans (belowK_b (w := w) (Nat.le_refl _) _ D1 _ _ (by omega) hK1 rfl rfl)).trans (belowK_b (w := w) (Nat.le_refl _) _ D0 _ _ (by omega) hK0 rfl rfl)
        refine ⟨by simp, .inl ⟨_, _, rfl, run_takeDeferred hK2, by simp, .inl ⟨_, _, rfl, run_takeDeferred hK1, by simp, .inl ⟨_, _, rfl, run_takeDeferred hK0, ?_⟩⟩⟩⟩
        exact ⟨_, results_cell4 rfl _ _ rfl hRf.cell, rfl, hbF⟩
end Go.Proofs.Ytkjpaiaepodhbaa
