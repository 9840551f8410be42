/-
  pannierlaw04.looks: what a bag should be, it is.
-/
import Derived.Test.YtoacfdicjpoohaaNdG
import Derived.Deep.QuietTactic
import Derived.BigQuiet
import Derived.RangeFuncBound
namespace Go.Proofs.Ytoacfdicjpoohaa
open Go.RowKit Go.Shelf Go.Maps
attribute [local go_sem] Oper.semAt_some

set_option maxRecDepth 1000000 in
set_option maxHeartbeats 4000000 in
theorem looks_net {w : World} {p bm : Nat} {v : Value} {g : Nt} {D0 : DataW Value} (h : NetAt w p bm v g.nodes g.last g.ps D0) (hlast : g.last ≤ 4611686018427387904) {B x : Nat} {eo : Option Addr} {cap : Nat} (hx : RnAt w B x g eo cap) (to : Int) :
    Calls Try.prog 16 #[.pointer (some ⟨p, 0, none⟩), .pointer (some ⟨x, 0, none⟩), .int .i64 to] w fun e w' => e = .returned (.bool true) ∧ Below w.heap.size w w' := by
  refine (callsIn_wide (n := 5)).1 ?_
  have HN0 := hid h
  have HX0 := hid hx
  have HLA := hid hlast
  obtain ⟨N, HN⟩ : ∃ N, Hid (g.ps.length = N) := ⟨_, hid rfl⟩
  have HNF : Hid (N ≤ 65536) := by rw [← HN.out]; exact h.few
  clear h hx hlast
  refine callsIn_of_wp_marks Try.func16 rfl trivial ?_ rfl
  simp only [Try.ntmps16, List.size_toArray, List.length_cons, List.length_nil, Nat.reduceAdd, Nat.reduceSub, Array.replicate_succ, Array.replicate_zero, List.push_toArray, List.append_toArray, List.nil_append, List.cons_append]
  refine wpIn_wide.2 ?_
  obtain ⟨W0, hW0⟩ : ∃ W0, W0 = w.alloc (.cells #[.bool false] 4) := ⟨_, rfl⟩
  have HB0 : Hid (Below w.heap.size w W0) := by rw [hW0]; exact (Below.refl _ w).alloc (Nat.le_refl _) _
  have HR0 : Hid (Boxed W0 w.heap.size 4 (.bool false)) := by rw [hW0]; exact Boxed.new w _ _
  obtain ⟨rb, HRB⟩ : ∃ q, Hid (q = w.heap.size) := ⟨_, hid rfl⟩
  rw [← HRB.out] at HR0
  have HAL := hid (all_any (HN0.out.below HB0.out (Nat.le_refl _)) HLA.out)
  rw [HN.out] at HAL
  go_wp2_with fail
  rw [← HRB.out, ← hW0]
  clear hW0
  refine HAL.out.mono ?_
  rintro e w1 ⟨vl, rfl, hown, hb1⟩
  obtain ⟨lo, lc, hvl⟩ := own_slice hown
  subst hvl
  have HLR := hid hown
  have HB1 := hid (btN HB0.out hb1)
  have HR1 : Hid (Boxed w1 rb 4 (.bool false)) := (hb1.block _ HR0.out.lt).trans HR0.out
  have x1 := (HX0.out.below HB1.out).blk.cell (i := 1) rfl
  rw [HN.out] at x1
  have hnn : ((N : Int) != (N : Int)) = false := by simp
  have HLEN := hid (fun q => len_any ((HN0.out.below HB1.out (Nat.le_refl _)).drewN q))
  rw [HN.out] at HLEN
  clear hown hb1 HAL HR0 HB0
  go_wp2
  go_quiet (first | (go_at_call 18; refine Calls.quiet_of_same (HLEN.out _)))
  obtain ⟨W2, hW2⟩ : ∃ V, V = w1.drewN nq := ⟨_, rfl⟩
  have hb2 : Below w1.heap.size w1 W2 := by rw [hW2]; exact (Turns.below ((Turns.refl (fun _ => False) w1).drewN nq) (fun _ h => h.elim) (Nat.le_refl _))
  have HB2 := hid (btN HB1.out hb2)
  have HR2 : Hid (Boxed W2 rb 4 (.bool false)) := (hb2.block _ HR1.out.lt).trans HR1.out
  have HLR2 : Hid (W2.ownsRow W0.heap.size 36 4 (.slice lo N lc) N (flat g.ps)) := (Turns.of_below (F := fun _ => False) hb2 (Nat.le_refl _)).row HLR.out (fun _ _ h => h)
  rw [← hW2]
  clear hW2 hb2 x1 HLEN HR1 HB1 HLR
  go_wp2
  go_loopw [8] (fun i wr => ∃ k : Nat, i = .int .i64 k ∧ Hid (k ≤ N) ∧ Hid (Below W2.heap.size W2 wr)) (fun i _ => N - (intOf i).toNat)
  case atStart => exact ⟨0, rfl, Nat.zero_le _, Below.refl _ _⟩
  case round =>
    obtain ⟨k, rfl, HK, HBR⟩ := hrel
    by_cases hlt : k < N
    · have hlt' : (k : Int) < (N : Int) := by omega
      have hk0 : (0 : Int) ≤ (k : Int) := by omega
      have HKM : Hid (k + 1 ≤ N) := (by omega : k + 1 ≤ N)
      have HKX : Hid (k < g.ps.length) := by rw [HN.out]; exact hlt
      have hwk : wrap64 ((k : Int) + 1) = (k : Int) + 1 := wrapN (by omega) (by have := HNF.out; omega)
      have hrow := (Turns.of_below (F := fun _ => False) HBR.out (Nat.le_refl _)).row HLR2.out (fun _ _ h => h)
      obtain ⟨ao, cp, hae, _, hheld⟩ := heldPk_of_own HN.out hrow
      cases hae
      have hx := HX0.out.below (btN HB2.out HBR.out)
      obtain ⟨b1, o1, hb1, _, d0, d1, d2, d3⟩ := hheld.cellsD HKX.out
      obtain ⟨b2, o2, hb2, _, e0, e1, e2, e3⟩ := hx.held.1.cellsD HKX.out
      have x1 := hx.blk.cell (i := 1) rfl
      rw [HN.out] at x1
      obtain ⟨q, HQ⟩ : ∃ q, Hid (g.ps[k]'HKX.out = q) := ⟨_, hid rfl⟩
      rw [HQ.out] at d0 d1 d2 d3 e0 e1 e2 e3
      obtain ⟨qi, qf, qd, qb⟩ := q
      simp only at d0 d1 d2 d3 e0 e1 e2 e3
      subst hb1 hb2
      have hneq := fun W => neq_pk W qi qf qd qb
      clear hrow hheld hx hlt
      go_wp2
      go_quiet (fail)
      have hbq : Below W2.heap.size W2 (wr.drewN nq) := btN HBR.out (Turns.below ((Turns.refl (fun _ => False) wr).drewN nq) (fun _ h => h.elim) (Nat.le_refl _))
      have HBQ := hid hbq
      clear hbq hneq d0 d1 d2 d3 e0 e1 e2 e3 x1
      go_wp2
      go_roundw
      case rel => exact ⟨k + 1, by go_num, HKM.out, HBQ.out⟩
      case measure => first | exact measNW HKM.out hwk | exact measN1 HKM.out
    · have hlt' : ¬ (k : Int) < (N : Int) := by omega
      have HB3 := hid (btN HB2.out HBR.out)
      have HR3 : Hid (Boxed wr rb 4 (.bool false)) := (HBR.out.block _ HR2.out.lt).trans HR2.out
      have HTO := hid ((HX0.out.below HB3.out).to to)
      obtain ⟨ys, HYS⟩ : ∃ ys, Hid (toN g.ps to = ys) := ⟨_, hid rfl⟩
      rw [HYS.out] at HTO
      obtain ⟨M, HM⟩ : ∃ M, Hid (ys.length = M) := ⟨_, hid rfl⟩
      have HMF : Hid (M ≤ 65536) := by
        rw [← HM.out, ← HYS.out]
        have h1 : (toN g.ps to).length ≤ g.ps.length := List.length_filter_le _ _
        have h2 := HN.out
        have h3 := HNF.out
        exact (by omega : (toN g.ps to).length ≤ 65536)
      clear hlt HR2 HB2 HLR2 HBR
      go_wp2_with fail
      refine HTO.out.mono ?_
      rintro e w5 ⟨vm, rfl, hown, hb5⟩
      obtain ⟨mo, mc, hvm⟩ := own_slice hown
      subst hvm
      rw [HM.out] at hown ⊢
      obtain ⟨ao, cp, hae, _, hheld⟩ := heldPk_of_own HM.out hown
      cases hae
      obtain ⟨W6, hW6⟩ : ∃ V, V = w5.alloc (.cells #[.slice mo M mc] 49) := ⟨_, rfl⟩
      obtain ⟨W7, hW7⟩ : ∃ V, V = W6.alloc (.cells #[.int .i64 0] 3) := ⟨_, rfl⟩
      have hb6 : Below w5.heap.size w5 W6 := by rw [hW6]; exact (Below.refl _ _).alloc (Nat.le_refl _) _
      have hb7 : Below W6.heap.size W6 W7 := by rw [hW7]; exact (Below.refl _ _).alloc (Nat.le_refl _) _
      obtain ⟨mb, HMB⟩ : ∃ q, Hid (q = w5.heap.size) := ⟨_, hid rfl⟩
      obtain ⟨r0, HR00⟩ : ∃ q, Hid (q = W6.heap.size) := ⟨_, hid rfl⟩
      have hb57 := btN hb6 hb7
      have hb37 := btN hb5 hb57
      have HS0 : Hid (LkS w W7 rb mb r0 0 mo M mc ys []) := by
        refine ⟨btN HB3.out hb37, (hb37.block _ HR3.out.lt).trans HR3.out, ?_, hheld.below hb57, ?_, Marks.nil _ _, by rw [HRB.out]; exact Nat.le_refl _, ?_, by omega⟩
        · have h1 : Boxed W6 mb 49 (.slice mo M mc) := by rw [hW6, HMB.out]; exact Boxed.new _ _ _
          exact (hb7.block _ h1.lt).trans h1
        · rw [hW7, HR00.out]; exact Boxed.new _ _ _
        · have h1 := HB3.out.size; have h2 := hb5.size; have h3 := hb6.size; have h4 := HR00.out; omega
      have hs67 : W6.heap.size = w5.heap.size + 1 := by rw [hW6]; simp
      have HW7 : Hid (W7 = (w5.alloc (.cells #[.slice mo M mc] 49)).alloc (.cells #[.int .i64 0] 3)) := by show _ = _; rw [hW7, hW6]
      have HR01 : Hid (r0 = w5.heap.size + 1) := by rw [HR00.out]; exact hs67
      clear hW6 hW7 hb6 hb7 hb57 hb37 hown hheld hb5 HR3 HTO hs67
      go_wp2
      rw [← HW7.out, ← HR01.out, ← HMB.out]
      refine (wpIn_wide (n := 5)).1 ?_
      refine wpIn_loop_k (LkI w p x to rb mb mo M mc ys) LkMu ?_ ?_
      · exact ⟨0, [], r0, _, _, _, _, _, _, _, _, _, _, _, _, _, _, _, _, _, _, _, _, _, _, _, _, _, _, _, _, _, _, _, _, _, _, _, _, _, _, _, _, _, _, _, _, _, _, _, _, _, _, _, _, _, _, _, _, _, _, _, _, _, _, _, _, _, _, _, _, _, _, _, _, _, _, _, _, _, _, _, _, _, _, _, _, _, _, _, _, _, _, _, _, _, rfl, HS0.out⟩
      rintro a V ⟨r, Ds, rnb, u3, u4, u5, u7, u8, u11, u12, u13, u14, u15, u16, u17, u18, u19, u20, u21, u22, u23, u24, u25, u26, u27, u28, u29, u30, u31, u32, u33, u34, u35, u36, u37, u38, u39, u40, u41, u42, u43, u44, u45, u46, u47, u48, u49, u50, u51, u52, u53, u54, u55, u56, u57, u58, u59, u60, u61, u62, u63, u64, u65, u66, u67, u68, u69, u70, u71, u72, u73, u74, u75, u76, u77, u78, u79, u80, u81, u82, u83, u84, u85, u86, u87, u88, u89, u90, u91, u92, u93, u94, u95, u96, u97, u98, rfl, hS⟩ K hK
      have HS := hid hS
      have HK := hid hK
      clear hS hK HS0
      refine wpIn_wide.2 ?_
      have cr := HS.out.rdx.cell
      by_cases hr2 : r < 2
      · have hr2' : (r : Int) < 2 := by omega
        have HRR : Hid (r < 2) := hr2
        clear hr2
        have HNV := hid (HN0.out.below HS.out.bel (Nat.le_refl _))
        obtain ⟨ib, HIB⟩ : ∃ q, Hid (q = V.heap.size) := ⟨_, hid rfl⟩
        obtain ⟨W8, hW8⟩ : ∃ U, U = V.alloc (.cells #[.int .i64 0] 3) := ⟨_, rfl⟩
        have hb8 : Below V.heap.size V W8 := by rw [hW8]; exact (Below.refl _ _).alloc (Nat.le_refl _) _
        have HI8 : Hid (Boxed W8 ib 3 (.int .i64 0)) := by rw [hW8, HIB.out]; exact Boxed.new V _ _
        have HB8 := hid hb8
        have hql := to_there
        go_wp2_with fail
        rw [← HIB.out, ← hW8]
        clear hW8 hb8
        refine (to_any W8 _ to (.inr ⟨p, rfl⟩)).mono ?_
        rintro e w3 ⟨rfl, hw3⟩
        have hb3 : Below W8.heap.size W8 w3 := by rw [hw3]; exact ((Below.refl _ _).alloc (Nat.le_refl _) _).alloc (by simp) _
        have HB73 := hid (btN HB8.out hb3)
        have HI3 : Hid (Boxed w3 ib 3 (.int .i64 0)) := (hb3.block _ HI8.out.lt).trans HI8.out
        clear hw3 hb3 HI8 HB8
        go_wp2_with fail
        clear hql
        refine (to_any w3 _ to (.inr ⟨p, rfl⟩)).mono ?_
        rintro e X ⟨rfl, hX⟩
        have hb4 : Below w3.heap.size w3 X := by rw [hX]; exact ((Below.refl _ _).alloc (Nat.le_refl _) _).alloc (by simp) _
        have hq0 : Boxed X w3.heap.size 23 (.pointer (some ⟨p, 0, none⟩)) := by rw [hX]; exact (Boxed.new w3 _ _).alloc _
        have hq1 : Boxed X (w3.heap.size + 1) 3 (.int .i64 to) := by
          have := Boxed.new (w3.alloc (.cells #[.pointer (some ⟨p, 0, none⟩)] 23)) 3 (.int .i64 to)
          rw [World.size_alloc] at this
          rw [hX]
          exact this
        have HBX := hid (btN HB73.out hb4)
        have HIX : Hid (Boxed X ib 3 (.int .i64 0)) := (hb4.block _ HI3.out.lt).trans HI3.out
        obtain ⟨q0, HQ0⟩ : ∃ q, Hid (q = w3.heap.size) := ⟨_, hid rfl⟩
        rw [← HQ0.out] at hq0 hq1 ⊢
        have HQB0 := hid hq0
        have HQB1 := hid hq1
        have HBV : Hid (∀ U, KpJ ib (X.heap.size + 1) X U → Below V.heap.size V U) := fun U hk => by
          refine HBX.out.trans (Turns.below hk (fun i hi => ?_) HBX.out.size)
          have h1 := HIB.out
          have h2 := HBX.out.size
          rcases hi with h | h <;> omega
        have HMLT : Hid (∀ D ∈ Ds, D < X.heap.size) := fun D hD => Nat.lt_of_lt_of_le (Array.getElem?_eq_some_iff.1 (HS.out.mks.at_ D hD).2).1 HBX.out.size
        have HIXL : Hid (ib < X.heap.size) := HIX.out.lt
        have HIV : Hid (V.heap.size ≤ ib) := by rw [HIB.out]; exact Nat.le_refl _
        clear hX hb4 HI3 HB73 hq0 hq1 cr
        go_wp2
        refine (wpIn_wide (n := 5)).1 ?_
        apply wpIn_rangeFunc_Gc (encs := fun x : Pk => #[x.val]) (Kp := KpJ ib (X.heap.size + 1)) (G := fun pr x _ => ItemN ys pr x) (S := fun zs => zs = ys) (Sp := fun _ => True) rfl (by omega) (gf := 31) (lb := #[.pointer (some ⟨q0, 0, none⟩), .pointer (some ⟨q0 + 1, 0, none⟩)]) rfl trivial (enters_of Try.func31 (by kernel_rfl) rfl)
          (I := RnK X ib (X.heap.size + 1)) (Ix := fun c pr U => c = Code.exit 4 ∧ r = 0 ∧ pr.length = 1 ∧ RnK X ib (X.heap.size + 1) pr U) (X := fun pr x _ => ItemN ys pr x) (Bx := fun x => x.cells) (t := 36)
        case hseq =>
          intro r' J Jx hJ _ hY hj
          have hbr : Below X.heap.size X ((X.alloc (.deferred (some []))).alloc (.loop r')) := ((Below.refl _ _).alloc (Nat.le_refl _) _).alloc (by simp) _
          have hsz : ((X.alloc (.deferred (some []))).alloc (.loop r')).heap.size = X.heap.size + 2 := by simp
          refine (to_inG 4 (by omega) (X.heap.size + 1) q0 (q0 + 1) (KpJ ib (X.heap.size + 1)) (fun {A C} hk => Turns.mono hk (fun i hi => by rw [hsz]; have := HIXL.out; rcases hi with h | h <;> omega)) J Jx hJ (fun pr x U hj' hg => YieldAt.mono (hY pr x U hj' (by rw [HYS.out] at hg; exact hg)) (fun e V' h => h.elim (fun h => .inl h) (fun h => .inr ⟨h.1, h.2.1⟩))) ((HNV.out.below HBX.out (Nat.le_refl _)).below hbr (Nat.le_refl _)) HLA.out ((hbr.block _ HQB0.out.lt).trans HQB0.out) ((hbr.block _ HQB1.out.lt).trans HQB1.out) hj).mono (fun e U hh => ⟨hh.1, hh.2.imp (fun ⟨zs, h1, h2⟩ => ⟨zs, by rw [h1, HYS.out], h2⟩) (fun ⟨pr, h2⟩ => ⟨pr, trivial, h2⟩)⟩)
        case hKt => exact fun h k => KpJ.trans h k
        case hKb =>
          intro U r' r'' _
          exact Turns.of_grown (grownBy_putObj' U _ _) (fun j e => by cases e; exact .inr rfl)
        case hps => exact fun _ => rfl
        case hI => exact rnK_own X ib (X.heap.size + 1)
        case hIx =>
          rintro c pr U U' row ⟨h1, h2, h3, h4⟩ hg hr
          exact ⟨h1, h2, h3, rnK_own X ib (X.heap.size + 1) pr U U' row h4 hg hr⟩
        case h0 => exact ⟨HIX.out, KpJ.refl _ _ _⟩
        case hX => exact fun pr x _ _ _ _ h _ _ => h
        case hassign =>
          rintro l' pr x' U K' hltU hI hG hK'
          have hba : Below U.heap.size U (U.alloc (.cells #[.int .i64 x'.id, .int .i64 x'.frm, .int .i64 x'.dst, .string x'.body] 36)) := (Below.refl _ _).alloc (Nat.le_refl _) _
          have hI2 := (rnK_own X ib (X.heap.size + 1)).alloc (.cells #[.int .i64 x'.id, .int .i64 x'.frm, .int .i64 x'.dst, .string x'.body] 36) hI
          have hbk := Blk.new U 36 x'.cells
          obtain ⟨gg, hgg⟩ : ∃ z, z = U.heap.size := ⟨_, rfl⟩
          have hgl : X.heap.size ≤ gg := by omega
          rw [← hgg] at hbk
          dsimp only [Pk.val]
          gi_wp2
          rw [← hgg]
          exact hK' gg _ ⟨hba.block _ hltU, hba.block _ (by omega)⟩ (KpJ.below hba) hI2 hG hbk hgl
        case hbody =>
          rintro l' pr ⟨yi, yf, yd, yb⟩ gg U ⟨rc, hkp⟩ hR hG hbk hgl
          have HR := hid hR
          have HKP := hid hkp
          obtain ⟨hit, hiy, _⟩ := hG
          obtain ⟨c, HC⟩ : ∃ c : Nat, Hid (pr.length = c) := ⟨_, hid rfl⟩
          have HCL : Hid (c < ys.length) := by rw [← HC.out]; exact hit
          have hiy2 : (⟨yi, yf, yd, yb⟩ : Pk) = ys[c]'HCL.out := by
            rw [hiy]
            simp only [HC.out]
          have hUS := HS.out.below (HBV.out U hR.kp)
          obtain ⟨b9, off, hao, _, d0, d1, d2, d3⟩ := hUS.row.cellsD HCL.out
          rw [← hiy2] at d0 d1 d2 d3
          simp only at d0 d1 d2 d3
          have e0 := hbk.cell (i := 0) rfl
          have e1 := hbk.cell (i := 1) rfl
          have e2 := hbk.cell (i := 2) rfl
          have e3 := hbk.cell (i := 3) rfl
          have ci := hR.ibx.cell
          rw [HC.out] at ci
          have cm := hUS.mbx.cell
          have crr := hUS.rdx.cell
          subst hao
          have hcM : (c : Int) < (M : Int) := by have := HM.out; have := HCL.out; omega
          have hc0 : (0 : Int) ≤ (c : Int) := by omega
          have hg1 : decide ((M : Int) ≤ (c : Int)) = false := decide_eq_false (by omega)
          have hg2 : decide (M ≤ c) = false := decide_eq_false (by omega)
          have hneq := fun W => neq_pk W yi yf yd yb
          have hwc : wrap64 ((c : Int) + 1) = (c : Int) + 1 := wrapN (by omega) (by have := HMF.out; omega)
          clear hit hiy hiy2 hR hkp hbk
          gi_wp2
          refine wpIn_region_quiet_round l' rfl (by kernel_rfl) (by kernel_rfl) (by kernel_rfl) ?_
          repeat (gi_big_quiet_step (fail))
          refine wpQuietIn_nil ?_
          intro _ hw
          obtain ⟨nq, hnq⟩ := hw
          have hbq : Below U.heap.size U (U.drewN nq) := Turns.below ((Turns.refl (fun _ => False) U).drewN nq) (fun _ h => h.elim) (Nat.le_refl _)
          rw [← hnq] at hbq
          rename_i U1
          have hib : Boxed U1 ib 3 (.int .i64 (c : Int)) := by
            have := HR.out.ibx
            rw [HC.out] at this
            exact (hbq.block _ this.lt).trans this
          have kn1 := hib.cell
          have kf1 := hib.frozen
          have hib2 := hib.set (.int .i64 ((c : Int) + 1))
          have kn2 := hib2.cell
          have hr1 : Boxed U1 rnb 3 (.int .i64 (r : Int)) := (hbq.block _ hUS.rdx.lt).trans hUS.rdx
          have hne9 : rnb ≠ ib := by have h1 := HS.out.rdx.lt; have h2 := HIV.out; omega
          have kr1 := ((turns_set U1 ib (.int .i64 ((c : Int) + 1))).block rnb hr1.lt hne9).trans hr1
          have kr2 := Boxed.cell (t := 3) kr1
          have hTU : Turns (fun i => i = ib) U (U1.setCell ⟨ib, 0, none⟩ (.int .i64 ((c : Int) + 1))) := (Turns.of_below (F := fun i => i = ib) hbq (Nat.le_refl _)).trans (turns_set U1 ib _) (fun i hi => .inl hi)
          have HRN : Hid (RnK X ib (X.heap.size + 1) (pr ++ [⟨yi, yf, yd, yb⟩]) (U1.setCell ⟨ib, 0, none⟩ (.int .i64 ((c : Int) + 1)))) := by
            refine ⟨?_, HR.out.kp.trans (hTU.mono (fun i hi => .inl hi))⟩
            rw [List.length_append, List.length_singleton, HC.out, show ((c + 1 : Nat) : Int) = (c : Int) + 1 by omega]
            exact hib2
          have HTK : Hid (KeptAs X.heap.size U (U1.setCell ⟨ib, 0, none⟩ (.int .i64 ((c : Int) + 1)))) := KeptAs.turns hTU HKP.out.lt (by have := HIXL.out; omega) (by have := HIXL.out; omega)
          have HTP : Hid (KpJ ib (X.heap.size + 1) U (U1.setCell ⟨ib, 0, none⟩ (.int .i64 ((c : Int) + 1)))) := hTU.mono (fun i hi => .inl hi)
          have HLN : Hid ((pr ++ [(⟨yi, yf, yd, yb⟩ : Pk)]).length = c + 1) := by rw [List.length_append, List.length_singleton, HC.out]; exact hid rfl
          have kr3 : U1.cell? ⟨rnb, 0, none⟩ = some (.int .i64 (r : Int)) := hr1.cell
          clear hib hib2 hr1 hTU kr1 ci cm crr d0 d1 d2 d3 e0 e1 e2 e3 hg1 hg2 hneq hbq hnq hUS
          by_cases hr0 : r = 0
          · subst hr0
            by_cases hcz : c = 0
            · subst hcz
              gi_wp2
              exact ⟨HTK.out, HTP.out, rfl, rfl, HLN.out, HRN.out⟩
            · have hc1 : ((c : Int) + 1 == 1) = false := by simp; omega
              gi_wp2
              exact ⟨HTK.out, HTP.out, HRN.out⟩
          · have hrr : ((r : Int) == 0) = false := by simp; omega
            gi_wp2
            exact ⟨HTK.out, HTP.out, HRN.out⟩
        case hdone =>
          intro D zs U hD hzs hR hDef
          have hUS := HS.out.below (HBV.out U hR.kp)
          have ci := hR.ibx.cell
          rw [hzs, HM.out] at ci
          have cm := hUS.mbx.cell
          have crr := hUS.rdx.cell
          have hmm : ((M : Int) != (M : Int)) = false := by simp
          have hwr1 : wrap64 ((r : Int) + 1) = (r : Int) + 1 := wrapN (by omega) (by have := HRR.out; omega)
          obtain ⟨rn2, HRN2⟩ : ∃ q, Hid (q = U.heap.size) := ⟨_, hid rfl⟩
          obtain ⟨W9, hW9⟩ : ∃ V, V = U.alloc (.cells #[.int .i64 ((r : Int) + 1)] 3) := ⟨_, rfl⟩
          have hnot : D ∉ Ds := fun hm => by have := HMLT.out D hm; omega
          have HNX := hid (hUS.next HRR.out (by have h1 := HS.out.bel.size; have h2 := HBX.out.size; omega) hDef hnot hW9)
          rw [← HRN2.out] at HNX
          have HW9 := hid hW9
          clear hDef hD hnot hUS hW9 hR
          go_wp2
          rw [← HRN2.out, ← HW9.out]
          refine HK.out _ _ ⟨r + 1, D :: Ds, rn2, _, _, _, _, _, _, _, _, _, _, _, _, _, _, _, _, _, _, _, _, _, _, _, _, _, _, _, _, _, _, _, _, _, _, _, _, _, _, _, _, _, _, _, _, _, _, _, _, _, _, _, _, _, _, _, _, _, _, _, _, _, _, _, _, _, _, _, _, _, _, _, _, _, _, _, _, _, _, _, _, _, _, _, _, _, _, _, _, _, _, _, _, _, rfl, HNX.out⟩ ?_
          rw [lkMu_eq HNX.out.rdx rfl, lkMu_eq HS.out.rdx rfl]
          have := HRR.out
          omega
        case hstop =>
          rintro D c pr U hD _ ⟨rfl, hr0, hpl, hR⟩ hDef
          refine wpIn_wide.2 ?_
          have hUS := HS.out.below (HBV.out U hR.kp)
          have ci := hR.ibx.cell
          rw [hpl] at ci
          have cm := hUS.mbx.cell
          have crr := hUS.rdx.cell
          have hz1 : ((r : Int) == 1) = false := by rw [hr0]; simp
          clear hr0
          have hwr1 : wrap64 ((r : Int) + 1) = (r : Int) + 1 := wrapN (by omega) (by have := HRR.out; omega)
          obtain ⟨rn2, HRN2⟩ : ∃ q, Hid (q = U.heap.size) := ⟨_, hid rfl⟩
          obtain ⟨W9, hW9⟩ : ∃ V, V = U.alloc (.cells #[.int .i64 ((r : Int) + 1)] 3) := ⟨_, rfl⟩
          have hnot : D ∉ Ds := fun hm => by have := HMLT.out D hm; omega
          have HNX := hid (hUS.next HRR.out (by have h1 := HS.out.bel.size; have h2 := HBX.out.size; omega) hDef hnot hW9)
          rw [← HRN2.out] at HNX
          have HW9 := hid hW9
          clear hDef hD hnot hUS hW9 hR
          by_cases hM1 : M = 1
          · have hmm : ((1 : Int) != (M : Int)) = false := by rw [hM1]; simp
            go_wp2
            rw [← HRN2.out, ← HW9.out]
            refine HK.out _ _ ⟨r + 1, D :: Ds, rn2, _, _, _, _, _, _, _, _, _, _, _, _, _, _, _, _, _, _, _, _, _, _, _, _, _, _, _, _, _, _, _, _, _, _, _, _, _, _, _, _, _, _, _, _, _, _, _, _, _, _, _, _, _, _, _, _, _, _, _, _, _, _, _, _, _, _, _, _, _, _, _, _, _, _, _, _, _, _, _, _, _, _, _, _, _, _, _, _, _, _, _, _, _, rfl, HNX.out⟩ ?_
            rw [lkMu_eq HNX.out.rdx rfl, lkMu_eq HS.out.rdx rfl]
            have := HRR.out
            omega
          · have hmm : ((1 : Int) != (M : Int)) = true := by simp; omega
            clear hM1
            go_wp2
            rw [← HRN2.out, ← HW9.out]
            refine HK.out _ _ ⟨r + 1, D :: Ds, rn2, _, _, _, _, _, _, _, _, _, _, _, _, _, _, _, _, _, _, _, _, _, _, _, _, _, _, _, _, _, _, _, _, _, _, _, _, _, _, _, _, _, _, _, _, _, _, _, _, _, _, _, _, _, _, _, _, _, _, _, _, _, _, _, _, _, _, _, _, _, _, _, _, _, _, _, _, _, _, _, _, _, _, _, _, _, _, _, _, _, _, _, _, _, rfl, HNX.out⟩ ?_
            rw [lkMu_eq HNX.out.rdx rfl, lkMu_eq HS.out.rdx rfl]
            have := HRR.out
            omega
      · have hr2' : ¬ (r : Int) < 2 := by omega
        have c0 := HS.out.res.cell
        have f0 := HS.out.res.frozen
        have HRT : Hid (Boxed (V.setCell ⟨rb, 0, none⟩ (.bool true)) rb 4 (.bool true)) := HS.out.res.set (.bool true)
        have HBF : Hid (Below w.heap.size w (V.setCell ⟨rb, 0, none⟩ (.bool true))) := HS.out.bel.setCell (p := ⟨rb, 0, none⟩) HS.out.rl _
        have HMK : Hid (Marks w.heap.size Ds (V.setCell ⟨rb, 0, none⟩ (.bool true))) := HS.out.mks.turned (F := fun i => i = rb) ((Turns.refl (fun i => i = rb) _).setCell (p := ⟨rb, 0, none⟩) (.inl rfl) _) (fun i hi => by
          have h1 : V.heap[rb]? = some (.cells #[.bool false] 4 (0, 0)) := HS.out.res
          rw [hi, h1]
          simp)
        have HEND : Hid (∀ fr : Array Value, fr.getD 6 undef = .pointer (some ⟨rb, 0, none⟩) → LeavesInM Fence.wide 5 Try.prog Try.f16 fr (fun e w' => e = .returned (.bool true) ∧ Below w.heap.size w w') (Ds.map markD) .returning (V.setCell ⟨rb, 0, none⟩ (.bool true))) := fun fr hfr => by
          refine leavesM_all (B := w.heap.size) (fun U => Below w.heap.size w U ∧ Boxed U rb 4 (.bool true)) ?_ ?_ Ds _ HMK.out ⟨HBF.out, HRT.out⟩
          · rintro U D ⟨h1, h2⟩ hD hU
            refine ⟨belowJ h1 hD _, ?_⟩
            have h3 : U.heap[rb]? = some (.cells #[.bool true] 4 (0, 0)) := h2
            show (U.putObj D (.deferred none)).heap[rb]? = _
            rw [World.putObj_heap_other (by rintro rfl; rw [h3] at hU; cases hU)]
            exact h3
          · rintro U ⟨h1, h2⟩
            exact ⟨_, results_cellR rfl _ _ hfr h2.cell, rfl, h1⟩
        clear HRT HBF HMK HK hr2
        go_wp2
        exact HEND.out _ rfl
end Go.Proofs.Ytoacfdicjpoohaa
