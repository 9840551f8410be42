/-
  pannierlaw09.looks: what a set should have, it has.
-/
import Derived.Test.YtplecopphddjhaaDdR
namespace Go.Proofs.Ytplecopphddjhaa
open Go.RowKit Go.Shelf Go.Maps
attribute [local go_sem] Oper.semAt_some
set_option linter.unusedSimpArgs false

theorem restP_len (ps : List PairV) (v : List Int) : (restP ps v).length ≤ ps.length := by
  have := restP_le ps ps.length v
  rw [List.take_length] at this
  exact this
set_option maxRecDepth 1000000 in
set_option maxHeartbeats 8000000 in
theorem looks_dots {w : World} {p m N : Nat} {rs : Nat → Value} {R : Nat → List Value} {D0 : DataW Value} {S : Int → Int → Option Value} (h : DotsAt w p rs R m D0 S N) {B x : Nat} {eo : Option Addr} {cap : Nat} {ps : List PairV} (hx : RsAt w B x ps eo cap) (hs : SameP S N ps) (vo : Option Addr) (vc : Nat) (v : List Int) (k0 : Nat) (hk0 : v.length = k0) (hv : HV w vo vc v) :
    Calls Try.prog 11 #[.pointer (some ⟨p, 0, none⟩), .pointer (some ⟨x, 0, none⟩), .slice vo k0 vc] w fun e w' => e = .returned (.bool true) ∧ Below w.heap.size w w' := by
  refine (callsIn_wide (n := 5)).1 ?_
  have HN0 := hid h
  have HX0 := hid hx
  have HSM := hid hs
  have HV0 := hid hv
  have HK0 := hid hk0
  have HLEN : Hid (ps.length = N) := hs.len.symm
  have HNF : Hid (N ≤ 65536) := h.pre.few
  have HMAY : Hid (∀ q ∈ ps, MayD q.o q.s) := hs.may
  have HVEC : Hid (vecP ps = lensOf R) := (hs.lens h).symm
  have HEXT : Hid (∀ ss, SortedK D0 ss → ss = restP ps (plainOf (lensOf R))) := fun ss hss => hs.extras h hss
  have HMIS : Hid (missOf S R v = missP ps v) := hs.missing h v
  clear h hx hs hv hk0
  refine callsIn_of_wp_marks Try.func11 rfl trivial ?_ rfl
  simp only [Try.ntmps11, List.size_toArray, List.length_cons, List.length_nil, Nat.reduceAdd, Nat.reduceSub, Array.replicate_succ, Array.replicate_zero, List.push_toArray, List.append_toArray, List.nil_append, List.cons_append]
  refine wpIn_wide.2 ?_
  obtain ⟨Wx, hWx⟩ : ∃ V, V = w.alloc (.cells #[.pointer (some ⟨x, 0, none⟩)] 28) := ⟨_, rfl⟩
  obtain ⟨W0, hW0⟩ : ∃ V, V = Wx.alloc (.cells #[.bool false] 4) := ⟨_, rfl⟩
  have hbx : Below w.heap.size w Wx := by rw [hWx]; exact (Below.refl _ w).alloc (Nat.le_refl _) _
  have hb0 : Below Wx.heap.size Wx W0 := by rw [hW0]; exact (Below.refl _ _).alloc (Nat.le_refl _) _
  obtain ⟨xb, HXB⟩ : ∃ q, Hid (q = w.heap.size) := ⟨_, hid rfl⟩
  obtain ⟨rb, HRB⟩ : ∃ q, Hid (q = w.heap.size + 1) := ⟨_, hid rfl⟩
  have hsx : Wx.heap.size = w.heap.size + 1 := by rw [hWx]; simp
  have HB0 := hid (btN hbx hb0)
  have HRES : Hid (Boxed W0 rb 4 (.bool false)) := by rw [hW0, HRB.out, ← hsx]; exact Boxed.new Wx _ _
  have HXBX : Hid (Boxed W0 xb 28 (.pointer (some ⟨x, 0, none⟩))) := by
    have h1 : Boxed Wx xb 28 (.pointer (some ⟨x, 0, none⟩)) := by rw [hWx, HXB.out]; exact Boxed.new w _ _
    exact (hb0.block _ h1.lt).trans h1
  have HW0 : Hid (W0 = (w.alloc (.cells #[.pointer (some ⟨x, 0, none⟩)] 28)).alloc (.cells #[.bool false] 4)) := by show _ = _; rw [hW0, hWx]
  clear hW0 hWx hbx hb0 hsx
  have HSA : Hid (∀ V, ScN W0 V → (ScN W0 V ∧ V.cell? ⟨xb, 0, none⟩ = some (.pointer (some ⟨x, 0, none⟩)) ∧ V.cell? ⟨x, 0, none⟩ = some (.slice eo N cap))) := fun V hV => by
    have h1 := (HX0.out.below (btN HB0.out hV.out)).blk.cell (i := 0) rfl
    rw [HLEN.out] at h1
    have h2 : Boxed V xb 28 (.pointer (some ⟨x, 0, none⟩)) := (hV.out.block _ HXBX.out.lt).trans HXBX.out
    exact ⟨hV, h2.cell, h1⟩
  obtain ⟨V0, HV0E⟩ : ∃ V0, Hid (plainOf (lensOf R) = V0) := ⟨_, hid rfl⟩
  obtain ⟨L0, HL0⟩ : ∃ L0, Hid (V0.length = L0) := ⟨_, hid rfl⟩
  obtain ⟨E0, HE0⟩ : ∃ E0, Hid (restP ps V0 = E0) := ⟨_, hid rfl⟩
  obtain ⟨n3, HN3⟩ : ∃ n3, Hid (E0.length = n3) := ⟨_, hid rfl⟩
  have HN3L : Hid (n3 ≤ 100000) := by
    rw [← HN3.out, ← HE0.out]
    have h1 := restP_len ps V0
    have h2 := HLEN.out
    have h3 := HNF.out
    exact (by omega : (restP ps V0).length ≤ 100000)
  have HC1 : Hid (∀ V, ScN W0 V → Calls Try.prog 16 #[.pointer (some ⟨p, 0, none⟩)] V fun e w' => e = .returned (.int .i64 N) ∧ ScN W0 w') := fun V hV => by
    refine (lenD_any (HN0.out.below (btN HB0.out hV.out)).pre).mono ?_
    rintro e w' ⟨rfl, rfl⟩
    exact ⟨rfl, hV⟩
  have HC2 : Hid (∀ V, ScN W0 V → Calls Try.prog 14 #[.pointer (some ⟨p, 0, none⟩)] V fun e w' => ∃ ao cp, e = .returned (.slice ao L0 cp) ∧ Hid (HV w' ao cp V0) ∧ ScN W0 w') := fun V hV => by
    refine (vector_any (HN0.out.below (btN HB0.out hV.out)).pre).mono ?_
    rintro e w' ⟨ao, cp, rfl, h1, h2⟩
    rw [HV0E.out] at h1 ⊢
    rw [HL0.out]
    exact ⟨ao, cp, rfl, h1, hV.go h2⟩
  have HC3 : Hid (∀ V, ScN W0 V → Calls Try.prog 26 #[.pointer (some ⟨x, 0, none⟩)] V fun e w' => ∃ ao cp, e = .returned (.slice ao L0 cp) ∧ Hid (HV w' ao cp V0) ∧ ScN W0 w' ∧ Hid (Below V.heap.size V w')) := fun V hV => by
    refine ((HX0.out.below (btN HB0.out hV.out)).vector HMAY.out).mono ?_
    rintro e w' ⟨ao, cp, rfl, h1, h2⟩
    rw [HVEC.out, HV0E.out] at h1 ⊢
    rw [HL0.out]
    exact ⟨ao, cp, rfl, h1, hV.go h2, h2⟩
  have HC4 : Hid (∀ V ao bo ca cb, ScN W0 V → HV V ao ca V0 → HV V bo cb V0 → Calls Try.prog 25 #[.slice ao L0 ca, .slice bo L0 cb] V fun e w' => e = .returned (.bool true) ∧ ScN W0 w') := fun V ao bo ca cb hV h1 h2 => by
    refine (same_any V ao bo ca cb V0 V0 L0 L0 HL0.out HL0.out h1 h2).mono ?_
    rintro e w' ⟨rfl, q, rfl⟩
    exact ⟨by simp, hV.go (below_dn (Below.refl _ _) q)⟩
  have HC5 : Hid (∀ V, ScN W0 V → Calls Try.prog 15 #[.pointer (some ⟨p, 0, none⟩)] V fun e w' => ∃ ao cp, e = .returned (.slice ao n3 cp) ∧ Hid (w'.ownsRow V.heap.size 25 2 (.slice ao n3 cp) E0.length (flatD E0)) ∧ ScN W0 w') := fun V hV => by
    refine (extras_any (HN0.out.below (btN HB0.out hV.out)).pre).mono ?_
    rintro e w' ⟨u, ss, rfl, h1, _, h2, h3⟩
    have h4 := HEXT.out ss h1
    rw [HV0E.out, HE0.out] at h4
    subst h4
    obtain ⟨ao, cp, rfl⟩ := own_slice h2
    rw [HN3.out] at h2 ⊢
    exact ⟨ao, cp, rfl, h2, hV.go h3⟩
  have HC6 : Hid (∀ V, ScN W0 V → Calls Try.prog 28 #[.pointer (some ⟨x, 0, none⟩)] V fun e w' => ∃ ao cp, e = .returned (.slice ao n3 cp) ∧ Hid (w'.ownsRow V.heap.size 25 2 (.slice ao n3 cp) E0.length (flatD E0)) ∧ ScN W0 w' ∧ Hid (Below V.heap.size V w')) := fun V hV => by
    refine ((HX0.out.below (btN HB0.out hV.out)).extras HMAY.out).mono ?_
    rintro e w' ⟨u, rfl, h2, h3⟩
    rw [HVEC.out, HV0E.out, HE0.out] at h2
    obtain ⟨ao, cp, rfl⟩ := own_slice h2
    rw [HN3.out] at h2 ⊢
    exact ⟨ao, cp, rfl, h2, hV.go h3, h3⟩
  have HC7 : Hid (∀ V ao bo ca cb B1 B2, ScN W0 V → V.ownsRow B1 25 2 (.slice ao n3 ca) E0.length (flatD E0) → V.ownsRow B2 25 2 (.slice bo n3 cb) E0.length (flatD E0) → Calls Try.prog 27 #[.slice ao n3 ca, .slice bo n3 cb] V fun e w' => e = .returned (.bool true) ∧ ScN W0 w') := fun V ao bo ca cb B1 B2 hV h1 h2 => by
    refine (sameDotsX V ao bo ca cb B1 B2 E0 n3 HN3.out h1 h2 HN3L.out).mono ?_
    rintro e w' ⟨rfl, hb⟩
    exact ⟨rfl, hV.go hb⟩
  have hnn : ((N : Int) != (N : Int)) = false := by simp
  go_wp2
  rw [← HW0.out, ← HRB.out, ← HXB.out]
  go_region_held3 (fun V => ScN W0 V ∧ V.cell? ⟨xb, 0, none⟩ = some (.pointer (some ⟨x, 0, none⟩)) ∧ V.cell? ⟨x, 0, none⟩ = some (.slice eo N cap))
    ((refine HSA.out _ ?_; (repeat (first | with_reducible assumption | exact ScN.start _ | apply ScN.dr | apply ScN.alloc))))
    (first
      | (go_at_call 16; with_reducible refine (HC1.out _ (by (repeat (first | with_reducible assumption | exact ScN.start _ | apply ScN.dr)))).mono ?_; rintro e w1 ⟨rfl, hs1⟩)
      | (go_at_call 14; with_reducible refine (HC2.out _ (by (repeat (first | with_reducible assumption | exact ScN.start _ | apply ScN.dr)))).mono ?_; rintro e w2 ⟨a2, c2, rfl, HV2, hs2⟩)
      | (go_at_call 26; with_reducible refine (HC3.out _ (by (repeat (first | with_reducible assumption | exact ScN.start _ | apply ScN.dr)))).mono ?_; rintro e w3 ⟨a3, c3, rfl, HV3, hs3, HB3⟩)
      | (go_at_call 25; with_reducible refine (HC4.out _ _ _ _ _ hs3 (HV2.out.below HB3.out) HV3.out).mono ?_; rintro e w4 ⟨rfl, hs4⟩)
      | (go_at_call 15; with_reducible refine (HC5.out _ (by (repeat (first | with_reducible assumption | exact ScN.start _ | apply ScN.dr)))).mono ?_; rintro e w5 ⟨a5, c5, rfl, HR5, hs5⟩)
      | (go_at_call 28; with_reducible refine (HC6.out _ (by (repeat (first | with_reducible assumption | exact ScN.start _ | apply ScN.dr)))).mono ?_; rintro e w6 ⟨a6, c6, rfl, HR6, hs6, HB6⟩)
      | (go_at_call 27; with_reducible refine (HC7.out _ _ _ _ _ _ _ hs6 ((Turns.of_below (F := fun _ => False) HB6.out (Nat.le_refl _)).row HR5.out (fun _ _ h => h)) HR6.out).mono ?_; rintro e w7 ⟨rfl, hs7⟩)
      | fail)
  have HB7 := hid (btN HB0.out hs7.out)
  have HR7 : Hid (Boxed w7 rb 4 (.bool false)) := (hs7.out.block _ HRES.out.lt).trans HRES.out
  have HX7 : Hid (Boxed w7 xb 28 (.pointer (some ⟨x, 0, none⟩))) := (hs7.out.block _ HXBX.out.lt).trans HXBX.out
  clear hs1 hs2 hs3 hs4 hs5 hs6 hs7 HV2 HV3 HB3 HR5 HR6 HB6 HC1 HC2 HC3 HC4 HC5 HC6 HC7 HSA hnn HRES HXBX HB0 HW0
  obtain ⟨rn0, HRN0⟩ : ∃ q, Hid (q = w7.heap.size) := ⟨_, hid rfl⟩
  obtain ⟨W8, hW8⟩ : ∃ V, V = w7.alloc (.cells #[.int .i64 0] 3) := ⟨_, rfl⟩
  have hb8 : Below w7.heap.size w7 W8 := by rw [hW8]; exact (Below.refl _ _).alloc (Nat.le_refl _) _
  have HS0 : Hid (LkD w W8 x rb xb rn0 0 []) := by
    refine ⟨btN HB7.out hb8, (hb8.block _ HR7.out.lt).trans HR7.out, (hb8.block _ HX7.out.lt).trans HX7.out, ?_, Marks.nil _ _, by rw [HRB.out]; omega, by rw [HXB.out]; exact Nat.le_refl _, by rw [HRN0.out]; exact HB7.out.size, by omega⟩
    rw [hW8, HRN0.out]
    exact Boxed.new _ _ _
  have HW8 := hid hW8
  clear hW8 hb8 HB7 HR7 HX7
  go_wp2
  rw [← HW8.out, ← HRN0.out]
  refine (wpIn_wide (n := 5)).1 ?_
  refine wpIn_loop_k (LdI w p x xb rb vo k0 vc) LdMu ?_ ?_
  · exact ldI_of rfl rfl rfl rfl rfl rfl rfl rfl HS0.out
  rintro a V ⟨r, Ds, rnb, f, rfl, hS⟩ K hK
  have HS := hid hS
  have HK := hid hK
  clear hS hK HS0
  refine wpIn_wide.2 ?_
  have cr := HS.out.rdx.cell
  by_cases hr2 : r < 2
  · have hr2' : (r : Int) < 2 := by omega
    have HRR : Hid (r < 2) := hr2
    clear hr2
    have HNV := hid (HN0.out.below HS.out.bel)
    obtain ⟨ib, HIB⟩ : ∃ q, Hid (q = V.heap.size) := ⟨_, hid rfl⟩
    obtain ⟨W9, hW9⟩ : ∃ U, U = V.alloc (.cells #[.int .i64 0] 3) := ⟨_, rfl⟩
    have hb9 : Below V.heap.size V W9 := by rw [hW9]; exact (Below.refl _ _).alloc (Nat.le_refl _) _
    have HI9 : Hid (Boxed W9 ib 3 (.int .i64 0)) := by rw [hW9, HIB.out]; exact Boxed.new V _ _
    have HB9 := hid hb9
    have hql := itD_eql
    go_wp2_with fail
    rw [← HIB.out, ← hW9]
    clear hW9 hb9
    refine (all_any W9 (some ⟨p, 0, none⟩)).mono ?_
    rintro e w3 ⟨rfl, _, _, hb3⟩
    have HB73 := hid (btN HB9.out hb3)
    have HI3 : Hid (Boxed w3 ib 3 (.int .i64 0)) := (hb3.block _ HI9.out.lt).trans HI9.out
    clear hb3 HI9 HB9
    go_wp2_with fail
    clear hql
    refine (all_any w3 (some ⟨p, 0, none⟩)).mono ?_
    rintro e X ⟨rfl, hq0, hq1, hb4⟩
    have HBX := hid (btN HB73.out hb4)
    have HIX : Hid (Boxed X ib 3 (.int .i64 0)) := (hb4.block _ HI3.out.lt).trans HI3.out
    obtain ⟨q0, HQ0⟩ : ∃ q, Hid (q = w3.heap.size) := ⟨_, hid rfl⟩
    rw [← HQ0.out] at hq0 hq1 ⊢
    have HQB0 := hid hq0
    have HQB1 := hid hq1
    have HBV : Hid (∀ U, KpJ ib (X.heap.size + 1) X U → Below V.heap.size V U) := fun U hk => by
      refine HBX.out.trans (Turns.below hk (fun i hi => ?_) HBX.out.size)
      have h1 := HIB.out
      have h2 := HBX.out.size
      rcases hi with h | h <;> omega
    have HMLT : Hid (∀ D ∈ Ds, D < X.heap.size) := fun D hD => Nat.lt_of_lt_of_le (Array.getElem?_eq_some_iff.1 (HS.out.mks.at_ D hD).2).1 HBX.out.size
    have HIXL : Hid (ib < X.heap.size) := HIX.out.lt
    have HIV : Hid (V.heap.size ≤ ib) := by rw [HIB.out]; exact Nat.le_refl _
    obtain ⟨its, HITE⟩ : ∃ its, Hid (its = ps.map itOf) := ⟨_, hid rfl⟩
    have HIT0 : Hid (ItsOf S (fun _ _ => true) its) := by
      have h1 := HSM.out.its (fun _ _ => true)
      rw [itsP_all] at h1
      rw [HITE.out]
      exact h1
    have HITL : Hid (its.length = N) := by rw [HITE.out, List.length_map]; exact HLEN.out
    clear hb4 HI3 HB73 hq0 hq1 cr
    go_wp2
    refine (wpIn_wide (n := 5)).1 ?_
    apply wpIn_rangeFunc_Gc (encs := fun x : It => #[dotV x.1, .string x.2]) (Kp := KpJ ib (X.heap.size + 1)) (G := fun pr x _ => ItemI its pr x) (S := fun zs => zs = its) (Sp := fun _ => True) rfl (by omega) (gf := 46) (lb := #[.pointer (some ⟨q0, 0, none⟩), .pointer (some ⟨q0 + 1, 0, none⟩)]) rfl trivial (enters_of Try.func46 (by kernel_rfl) rfl)
      (I := RnD X ib (X.heap.size + 1)) (Ix := fun c pr U => c = Code.exit 2 ∧ r = 0 ∧ pr.length = 2 ∧ RnD X ib (X.heap.size + 1) pr U) (X := fun pr x _ => ItemI its pr x) (Bx := fun x => [.int .i64 x.1.1, .int .i64 x.1.2]) (t := 25)
    case hseq =>
      intro r' J Jx hJ _ hY hj
      have hbr : Below X.heap.size X ((X.alloc (.deferred (some []))).alloc (.loop r')) := ((Below.refl _ _).alloc (Nat.le_refl _) _).alloc (by simp) _
      have hsz : ((X.alloc (.deferred (some []))).alloc (.loop r')).heap.size = X.heap.size + 2 := by simp
      refine (those_inG 4 (by omega) (X.heap.size + 1) q0 (q0 + 1) (KpJ ib (X.heap.size + 1)) (fun {A C} hk => Turns.mono hk (fun i hi => by rw [hsz]; have := HIXL.out; rcases hi with h | h <;> omega)) HIT0.out J Jx hJ (fun pr x U hj' hg => YieldAt.mono (hY pr x U hj' hg) (fun e V' h => h.elim (fun h => .inl h) (fun h => .inr ⟨h.1, h.2.1⟩))) ((HNV.out.below HBX.out).below hbr).pre (.inl ⟨rfl, rfl⟩) ((hbr.block _ HQB0.out.lt).trans HQB0.out) ((hbr.block _ HQB1.out.lt).trans HQB1.out) hj).mono (fun e U hh => ⟨hh.1, hh.2.imp (fun ⟨zs, h1, h2⟩ => ⟨zs, h1, h2⟩) (fun ⟨pr, h2⟩ => ⟨pr, trivial, h2⟩)⟩)
    case hKt => exact fun h k => KpJ.trans h k
    case hKb =>
      intro U r' r'' _
      exact Turns.of_grown (grownBy_putObj' U _ _) (fun j e => by cases e; exact .inr rfl)
    case hps => exact fun _ => rfl
    case hI => exact rnD_own X ib (X.heap.size + 1)
    case hIx =>
      rintro c pr U U' row ⟨h1, h2, h3, h4⟩ hg hr
      exact ⟨h1, h2, h3, rnD_own X ib (X.heap.size + 1) pr U U' row h4 hg hr⟩
    case h0 => exact ⟨HIX.out, KpJ.refl _ _ _⟩
    case hX => exact fun pr x _ _ _ _ h _ _ => h
    case hassign =>
      rintro l' pr x' U K' hltU hI hG hK'
      have hba : Below U.heap.size U (U.alloc (.cells #[.int .i64 x'.1.1, .int .i64 x'.1.2] 25)) := (Below.refl _ _).alloc (Nat.le_refl _) _
      have hI2 := (rnD_own X ib (X.heap.size + 1)).alloc (.cells #[.int .i64 x'.1.1, .int .i64 x'.1.2] 25) hI
      have hbk := Blk.new U 25 [.int .i64 x'.1.1, .int .i64 x'.1.2]
      obtain ⟨gg, hgg⟩ : ∃ z, z = U.heap.size := ⟨_, rfl⟩
      have hgl : X.heap.size ≤ gg := by omega
      rw [← hgg] at hbk
      dsimp only [dotV]
      gi_wp2
      rw [← hgg]
      exact hK' gg _ ⟨hba.block _ hltU, hba.block _ (by omega)⟩ (KpJ.below hba) hI2 hG hbk hgl
    case hbody =>
      rintro l' pr ⟨⟨yo, ys⟩, yt⟩ gg U ⟨rc, hkp⟩ hR hG hbk hgl
      have HR := hid hR
      have HKP := hid hkp
      obtain ⟨hit, hiy, _⟩ := hG
      obtain ⟨c, HC⟩ : ∃ c : Nat, Hid (pr.length = c) := ⟨_, hid rfl⟩
      have HCL : Hid (c < ps.length) := by rw [← HC.out, HLEN.out, ← HITL.out]; exact hit
      have hiy2 : (⟨yo, ys, yt⟩ : PairV) = ps[c]'HCL.out := by
        have h1 : its[pr.length] = itOf (ps[c]'HCL.out) := by
          simp only [HITE.out, List.getElem_map, HC.out]
        rw [h1] at hiy
        unfold itOf at hiy
        simp only [Prod.mk.injEq] at hiy
        obtain ⟨⟨e1, e2⟩, e3⟩ := hiy
        rw [e1, e2, e3]
      have hUS := HS.out.below (HBV.out U hR.kp)
      have hxU := HX0.out.below hUS.bel
      obtain ⟨b9, off, hao, _, d0, d1, d2⟩ := hxU.held.1.cellsD HCL.out
      have dx := hxU.blk.cell (i := 0) rfl
      rw [HLEN.out] at dx
      rw [← hiy2] at d0 d1 d2
      simp only at d0 d1 d2
      have e0 := hbk.cell (i := 0) rfl
      have e1 := hbk.cell (i := 1) rfl
      have ci := hR.ibx.cell
      rw [HC.out] at ci
      have cxb := hUS.xbx.cell
      subst hao
      have hcM : (c : Int) < (N : Int) := by have := HLEN.out; have := HCL.out; omega
      have hc0 : (0 : Int) ≤ (c : Int) := by omega
      have hg1 : decide ((N : Int) ≤ (c : Int)) = false := decide_eq_false (by omega)
      have hg2 : decide (N ≤ c) = false := decide_eq_false (by omega)
      have hneq := fun W => neq_prD W yo ys yt
      have hwc : wrap64 ((c : Int) + 1) = (c : Int) + 1 := wrapN (by omega) (by have := HNF.out; omega)
      clear hit hiy hiy2 hR hkp hbk hxU
      gi_wp2
      refine wpIn_region_quiet_round l' rfl (by kernel_rfl) (by kernel_rfl) (by kernel_rfl) ?_
      repeat (gi_big_quiet_step (fail))
      refine wpQuietIn_nil ?_
      intro _ hw
      obtain ⟨nq, hnq⟩ := hw
      have hbq : Below U.heap.size U (U.drewN nq) := Turns.below ((Turns.refl (fun _ => False) U).drewN nq) (fun _ h => h.elim) (Nat.le_refl _)
      rw [← hnq] at hbq
      rename_i U1
      have hib : Boxed U1 ib 3 (.int .i64 (c : Int)) := by
        have := HR.out.ibx
        rw [HC.out] at this
        exact (hbq.block _ this.lt).trans this
      have kn1 := hib.cell
      have kf1 := hib.frozen
      have hib2 := hib.set (.int .i64 ((c : Int) + 1))
      have kn2 := hib2.cell
      have hr1 : Boxed U1 rnb 3 (.int .i64 (r : Int)) := (hbq.block _ hUS.rdx.lt).trans hUS.rdx
      have hne9 : rnb ≠ ib := by have h1 := HS.out.rdx.lt; have h2 := HIV.out; omega
      have kr1 := ((turns_set U1 ib (.int .i64 ((c : Int) + 1))).block rnb hr1.lt hne9).trans hr1
      have kr2 := Boxed.cell (t := 3) kr1
      have hTU : Turns (fun i => i = ib) U (U1.setCell ⟨ib, 0, none⟩ (.int .i64 ((c : Int) + 1))) := (Turns.of_below (F := fun i => i = ib) hbq (Nat.le_refl _)).trans (turns_set U1 ib _) (fun i hi => .inl hi)
      have HRN : Hid (RnD X ib (X.heap.size + 1) (pr ++ [((yo, ys), yt)]) (U1.setCell ⟨ib, 0, none⟩ (.int .i64 ((c : Int) + 1)))) := by
        refine ⟨?_, HR.out.kp.trans (hTU.mono (fun i hi => .inl hi))⟩
        rw [List.length_append, List.length_singleton, HC.out, show ((c + 1 : Nat) : Int) = (c : Int) + 1 by omega]
        exact hib2
      have HTK : Hid (KeptAs X.heap.size U (U1.setCell ⟨ib, 0, none⟩ (.int .i64 ((c : Int) + 1)))) := KeptAs.turns hTU HKP.out.lt (by have := HIXL.out; omega) (by have := HIXL.out; omega)
      have HTP : Hid (KpJ ib (X.heap.size + 1) U (U1.setCell ⟨ib, 0, none⟩ (.int .i64 ((c : Int) + 1)))) := hTU.mono (fun i hi => .inl hi)
      have HLN : Hid ((pr ++ [((yo, ys), yt)]).length = c + 1) := by rw [List.length_append, List.length_singleton, HC.out]; exact hid rfl
      have kr3 : U1.cell? ⟨rnb, 0, none⟩ = some (.int .i64 (r : Int)) := hr1.cell
      clear hib hib2 hr1 hTU kr1 ci cxb dx d0 d1 d2 e0 e1 hg1 hg2 hneq hbq hnq hUS
      by_cases hr0 : r = 0
      · subst hr0
        by_cases hcz : c = 1
        · subst hcz
          gi_wp2
          exact ⟨HTK.out, HTP.out, rfl, rfl, HLN.out, HRN.out⟩
        · have hc1 : ((c : Int) + 1 == 2) = false := by simp; omega
          gi_wp2
          exact ⟨HTK.out, HTP.out, HRN.out⟩
      · have hrr : ((r : Int) == 0) = false := by simp; omega
        gi_wp2
        exact ⟨HTK.out, HTP.out, HRN.out⟩
    case hdone =>
      intro D zs U hD hzs hR hDef
      have hUS := HS.out.below (HBV.out U hR.kp)
      have ci := hR.ibx.cell
      rw [hzs, HITL.out] at ci
      have cxb := hUS.xbx.cell
      have dx := (HX0.out.below hUS.bel).blk.cell (i := 0) rfl
      rw [HLEN.out] at dx
      have crr := hUS.rdx.cell
      have hmm : ((N : Int) != (N : Int)) = false := by simp
      have hwr1 : wrap64 ((r : Int) + 1) = (r : Int) + 1 := wrapN (by omega) (by have := HRR.out; omega)
      have HUS := hid hUS
      have HDD : Hid (D ∉ Ds ∧ w.heap.size ≤ D ∧ U.heap[D]? = some (.deferred (some []))) := ⟨fun hm => by have := HMLT.out D hm; omega, by have h1 := HS.out.bel.size; have h2 := HBX.out.size; exact (by omega : w.heap.size ≤ D), hDef⟩
      clear hDef hD hUS hR
      go_wp2
      go_quiet (fail)
      have hbq : Below U.heap.size U (U.drewN nq) := Turns.below ((Turns.refl (fun _ => False) U).drewN nq) (fun _ h => h.elim) (Nat.le_refl _)
      have HUQ := hid (HUS.out.below hbq)
      have crq := HUQ.out.rdx.cell
      obtain ⟨U2, HU2⟩ : ∃ U2, Hid (U2 = U.drewN nq) := ⟨_, hid rfl⟩
      rw [← HU2.out] at HUQ crq hbq ⊢
      obtain ⟨rn2, HRN2⟩ : ∃ q, Hid (q = U2.heap.size) := ⟨_, hid rfl⟩
      obtain ⟨W9, hW9⟩ : ∃ V, V = U2.alloc (.cells #[.int .i64 ((r : Int) + 1)] 3) := ⟨_, rfl⟩
      have HNX := hid (HUQ.out.next HRR.out HDD.out.2.1 ((hbq.block D (Array.getElem?_eq_some_iff.1 HDD.out.2.2).1).trans HDD.out.2.2) HDD.out.1 hW9)
      rw [← HRN2.out] at HNX
      have HW9 := hid hW9
      clear hW9 hbq ci cxb dx crr hmm
      go_wp2
      rw [← HRN2.out, ← HW9.out]
      refine HK.out _ _ (ldI_of rfl rfl rfl rfl rfl rfl rfl rfl HNX.out) ?_
      rw [ldMu_eq HNX.out.rdx rfl, ldMu_eq HS.out.rdx rfl]
      have := HRR.out
      omega
    case hstop =>
      rintro D c pr U hD _ ⟨rfl, hr0, hpl, hR⟩ hDef
      refine wpIn_wide.2 ?_
      have hUS := HS.out.below (HBV.out U hR.kp)
      have ci := hR.ibx.cell
      rw [hpl] at ci
      have cxb := hUS.xbx.cell
      have dx := (HX0.out.below hUS.bel).blk.cell (i := 0) rfl
      rw [HLEN.out] at dx
      have crr := hUS.rdx.cell
      have hz1 : ((r : Int) == 1) = false := by rw [hr0]; simp
      have hwr1 : wrap64 ((r : Int) + 1) = (r : Int) + 1 := wrapN (by omega) (by have := HRR.out; omega)
      have HUS := hid hUS
      have HDD : Hid (D ∉ Ds ∧ w.heap.size ≤ D ∧ U.heap[D]? = some (.deferred (some []))) := ⟨fun hm => by have := HMLT.out D hm; omega, by have h1 := HS.out.bel.size; have h2 := HBX.out.size; exact (by omega : w.heap.size ≤ D), hDef⟩
      clear hDef hD hUS hR hr0
      by_cases hM1 : N = 2
      · have hmm : ((2 : Int) != (N : Int)) = false := by rw [hM1]; simp
        go_wp2
        go_quiet (fail)
        have hbq : Below U.heap.size U (U.drewN nq) := Turns.below ((Turns.refl (fun _ => False) U).drewN nq) (fun _ h => h.elim) (Nat.le_refl _)
        have HUQ := hid (HUS.out.below hbq)
        have crq := HUQ.out.rdx.cell
        obtain ⟨U2, HU2⟩ : ∃ U2, Hid (U2 = U.drewN nq) := ⟨_, hid rfl⟩
        rw [← HU2.out] at HUQ crq hbq ⊢
        obtain ⟨rn2, HRN2⟩ : ∃ q, Hid (q = U2.heap.size) := ⟨_, hid rfl⟩
        obtain ⟨W9, hW9⟩ : ∃ V, V = U2.alloc (.cells #[.int .i64 ((r : Int) + 1)] 3) := ⟨_, rfl⟩
        have HNX := hid (HUQ.out.next HRR.out HDD.out.2.1 ((hbq.block D (Array.getElem?_eq_some_iff.1 HDD.out.2.2).1).trans HDD.out.2.2) HDD.out.1 hW9)
        rw [← HRN2.out] at HNX
        have HW9 := hid hW9
        clear hW9 hbq ci cxb dx crr hmm
        go_wp2
        rw [← HRN2.out, ← HW9.out]
        refine HK.out _ _ (ldI_of rfl rfl rfl rfl rfl rfl rfl rfl HNX.out) ?_
        rw [ldMu_eq HNX.out.rdx rfl, ldMu_eq HS.out.rdx rfl]
        have := HRR.out
        omega
      · have hmm : ((2 : Int) != (N : Int)) = true := by simp; omega
        clear hM1
        go_wp2
        go_quiet (fail)
        have hbq : Below U.heap.size U (U.drewN nq) := Turns.below ((Turns.refl (fun _ => False) U).drewN nq) (fun _ h => h.elim) (Nat.le_refl _)
        have HUQ := hid (HUS.out.below hbq)
        have crq := HUQ.out.rdx.cell
        obtain ⟨U2, HU2⟩ : ∃ U2, Hid (U2 = U.drewN nq) := ⟨_, hid rfl⟩
        rw [← HU2.out] at HUQ crq hbq ⊢
        obtain ⟨rn2, HRN2⟩ : ∃ q, Hid (q = U2.heap.size) := ⟨_, hid rfl⟩
        obtain ⟨W9, hW9⟩ : ∃ V, V = U2.alloc (.cells #[.int .i64 ((r : Int) + 1)] 3) := ⟨_, rfl⟩
        have HNX := hid (HUQ.out.next HRR.out HDD.out.2.1 ((hbq.block D (Array.getElem?_eq_some_iff.1 HDD.out.2.2).1).trans HDD.out.2.2) HDD.out.1 hW9)
        rw [← HRN2.out] at HNX
        have HW9 := hid hW9
        clear hW9 hbq ci cxb dx crr hmm
        go_wp2
        rw [← HRN2.out, ← HW9.out]
        refine HK.out _ _ (ldI_of rfl rfl rfl rfl rfl rfl rfl rfl HNX.out) ?_
        rw [ldMu_eq HNX.out.rdx rfl, ldMu_eq HS.out.rdx rfl]
        have := HRR.out
        omega
  · have hr2' : ¬ (r : Int) < 2 := by omega
    have HRX := hid (HX0.out.below HS.out.bel)
    obtain ⟨YS, HYS⟩ : ∃ YS, Hid (uptoP ps v = YS) := ⟨_, hid rfl⟩
    obtain ⟨M, HM⟩ : ∃ M, Hid (YS.length = M) := ⟨_, hid rfl⟩
    have HMF : Hid (M ≤ 65536) := by
      rw [← HM.out, ← HYS.out]
      have h1 : (uptoP ps v).length ≤ ps.length := List.length_filter_le _ _
      have h2 := HLEN.out
      have h3 := HNF.out
      exact (by omega : (uptoP ps v).length ≤ 65536)
    have HUP := hid (HRX.out.upto vo vc v k0 HK0.out (HV0.out.below HS.out.bel))
    rw [HYS.out] at HUP
    have cxb := HS.out.xbx.cell
    clear hr2
    go_wp2_with fail
    clear cxb cr
    refine HUP.out.mono ?_
    rintro e w5 ⟨lv, rfl, hown, hb5⟩
    obtain ⟨lo, lc, rfl⟩ := own_slice hown
    rw [HM.out] at hown ⊢
    obtain ⟨ao, cp, hae, _, hheld⟩ := heldPp_of_own HM.out hown
    cases hae
    obtain ⟨Wl, hWl⟩ : ∃ V, V = w5.alloc (.cells #[.slice lo M lc] 22) := ⟨_, rfl⟩
    obtain ⟨Wi, hWi⟩ : ∃ V, V = Wl.alloc (.cells #[.int .i64 0] 3) := ⟨_, rfl⟩
    have hbl : Below w5.heap.size w5 Wl := by rw [hWl]; exact (Below.refl _ _).alloc (Nat.le_refl _) _
    have hbi : Below Wl.heap.size Wl Wi := by rw [hWi]; exact (Below.refl _ _).alloc (Nat.le_refl _) _
    obtain ⟨lb, HLB⟩ : ∃ q, Hid (q = w5.heap.size) := ⟨_, hid rfl⟩
    obtain ⟨ib, HIB⟩ : ∃ q, Hid (q = w5.heap.size + 1) := ⟨_, hid rfl⟩
    have hsl : Wl.heap.size = w5.heap.size + 1 := by rw [hWl]; simp
    have hbwi := btN hb5 (btN hbl hbi)
    have HE0 : Hid (LkE w Wi x rb xb lb lo M lc YS Ds) := by
      have h1 : Boxed Wl lb 22 (.slice lo M lc) := by rw [hWl, HLB.out]; exact Boxed.new _ _ _
      exact ⟨btN HS.out.bel hbwi, (hbwi.block _ HS.out.res.lt).trans HS.out.res, (hbwi.block _ HS.out.xbx.lt).trans HS.out.xbx, (hbi.block _ h1.lt).trans h1, hheld.below (btN hbl hbi), by rw [HLB.out]; exact hheld.lt, HS.out.mks.below hbwi, HS.out.rl, HS.out.xl⟩
    have HI0 : Hid (Boxed Wi ib 3 (.int .i64 0)) := by rw [hWi, HIB.out, ← hsl]; exact Boxed.new Wl _ _
    have HIBR : Hid (rb < ib) := by have h1 := HS.out.res.lt; have h2 := hb5.size; have h3 := HIB.out; exact (by omega : rb < ib)
    have HIBL : Hid (lb < ib) := by have h1 := HLB.out; have h3 := HIB.out; exact (by omega : lb < ib)
    have HIBX : Hid (xb < ib) := by have h1 := HS.out.xbx.lt; have h2 := hb5.size; have h3 := HIB.out; exact (by omega : xb < ib)
    have HIBV : Hid (V.heap.size ≤ ib) := by have h2 := hb5.size; have h3 := HIB.out; exact (by omega : V.heap.size ≤ ib)
    have HLBR : Hid (rb < lb) := by have h1 := HS.out.res.lt; have h2 := hb5.size; have h3 := HLB.out; exact (by omega : rb < lb)
    have HWi : Hid (Wi = (w5.alloc (.cells #[.slice lo M lc] 22)).alloc (.cells #[.int .i64 0] 3)) := by show _ = _; rw [hWi, hWl]
    clear hWl hWi hbl hbi hsl hbwi hown hheld hb5 HUP HRX
    have hql := itD_eql
    have HVI := hid (HV0.out.below HE0.out.bel)
    go_wp2_with fail
    rw [← HWi.out, ← HIB.out, ← HLB.out]
    refine (upto_any Wi (some ⟨p, 0, none⟩) vo vc v k0 HK0.out HVI.out).mono ?_
    rintro e w3 ⟨q3, co3, cc3, hq3, rfl, _, _, _, _, _, hb3⟩
    have HE3 := hid (HE0.out.below hb3)
    have HI3 : Hid (Boxed w3 ib 3 (.int .i64 0)) := (hb3.block _ HI0.out.lt).trans HI0.out
    have HV3 := hid (HVI.out.below hb3)
    clear hb3 hq3 HWi
    go_wp2_with fail
    clear hql
    refine (upto_any w3 (some ⟨p, 0, none⟩) vo vc v k0 HK0.out HV3.out).mono ?_
    rintro e X ⟨q0, co, cc, hq0l, rfl, hq0, hq1, hbv, hvx, _, hb4⟩
    obtain ⟨bv, HBV0⟩ : ∃ q, Hid (q = w3.heap.size) := ⟨_, hid rfl⟩
    rw [← HBV0.out] at hq1 hbv
    have HEX := hid (HE3.out.below hb4)
    have HIX : Hid (Boxed X ib 3 (.int .i64 0)) := (hb4.block _ HI3.out.lt).trans HI3.out
    have HQB0 := hid hq0
    have HQB1 := hid hq1
    have HWT : Hid (Want X (.func (.func 35) #[] #[.pointer (some ⟨bv, 0, none⟩)]) (fun o s => decide (HasV v o s))) := .inr ⟨bv, co, cc, v, rfl, hbv, hvx, rfl⟩
    have HNX := hid (HN0.out.below HEX.out.bel)
    have HBV : Hid (∀ U, KpJ ib (X.heap.size + 1) X U → Below ib X U) := fun U hk => by
      refine Turns.below hk (fun i hi => ?_) (Nat.le_of_lt HIX.out.lt)
      have h2 := HIX.out.lt
      rcases hi with h | h <;> omega
    have HIXL : Hid (ib < X.heap.size) := HIX.out.lt
    have HMLT : Hid (∀ D ∈ Ds, D < ib) := fun D hD => Nat.lt_of_lt_of_le (Array.getElem?_eq_some_iff.1 (HS.out.mks.at_ D hD).2).1 HIBV.out
    have HMLX : Hid (∀ D ∈ Ds, D < X.heap.size) := fun D hD => Nat.lt_trans (HMLT.out D hD) HIXL.out
    have HUE : Hid (∀ U, KpJ ib (X.heap.size + 1) X U → LkE w U x rb xb lb lo M lc YS Ds) := fun U hk => HEX.out.kp (Nat.le_trans HS.out.bel.size HIBV.out) (HBV.out U hk) HIBR.out HIBX.out HIBL.out HMLT.out
    obtain ⟨its, HITE⟩ : ∃ its, Hid (its = YS.map itOf) := ⟨_, hid rfl⟩
    have HIT0 : Hid (ItsOf S (fun o s => decide (HasV v o s)) its) := by
      have h1 := HSM.out.its (fun o s => decide (HasV v o s))
      rw [itsP_upto] at h1
      rw [HITE.out, ← HYS.out]
      exact h1
    have HITL : Hid (its.length = M) := by rw [HITE.out, List.length_map]; exact HM.out
    clear hq0 hq1 hbv hvx hb4 hq0l HI3 HE3 HV3 HVI HE0 HI0
    go_wp2
    refine (wpIn_wide (n := 5)).1 ?_
    apply wpIn_rangeFunc_Gc (encs := fun x : It => #[dotV x.1, .string x.2]) (Kp := KpJ ib (X.heap.size + 1)) (G := fun pr x _ => ItemI its pr x) (S := fun zs => zs = its) (Sp := fun _ => True) rfl (by omega) (gf := 46) (lb := #[.pointer (some ⟨q0, 0, none⟩), .pointer (some ⟨q0 + 1, 0, none⟩)]) rfl trivial (enters_of Try.func46 (by kernel_rfl) rfl)
      (I := RnD X ib (X.heap.size + 1)) (Ix := fun _ _ _ => False) (X := fun pr x _ => ItemI its pr x) (Bx := fun x => [.int .i64 x.1.1, .int .i64 x.1.2]) (t := 25)
    case hseq =>
      intro r' J Jx hJ _ hY hj
      have hbr : Below X.heap.size X ((X.alloc (.deferred (some []))).alloc (.loop r')) := ((Below.refl _ _).alloc (Nat.le_refl _) _).alloc (by simp) _
      have hsz : ((X.alloc (.deferred (some []))).alloc (.loop r')).heap.size = X.heap.size + 2 := by simp
      refine (those_inG 4 (by omega) (X.heap.size + 1) q0 (q0 + 1) (KpJ ib (X.heap.size + 1)) (fun {A C} hk => Turns.mono hk (fun i hi => by rw [hsz]; have := HIXL.out; rcases hi with h | h <;> omega)) HIT0.out J Jx hJ (fun pr x U hj' hg => YieldAt.mono (hY pr x U hj' hg) (fun e V' h => h.elim (fun h => .inl h) (fun h => .inr ⟨h.1, h.2.1⟩))) (HNX.out.below hbr).pre (HWT.out.below hbr) ((hbr.block _ HQB0.out.lt).trans HQB0.out) ((hbr.block _ HQB1.out.lt).trans HQB1.out) hj).mono (fun e U hh => ⟨hh.1, hh.2.imp (fun ⟨zs, h1, h2⟩ => ⟨zs, h1, h2⟩) (fun ⟨pr, h2⟩ => ⟨pr, trivial, h2⟩)⟩)
    case hKt => exact fun h k => KpJ.trans h k
    case hKb =>
      intro U r' r'' _
      exact Turns.of_grown (grownBy_putObj' U _ _) (fun j e => by cases e; exact .inr rfl)
    case hps => exact fun _ => rfl
    case hI => exact rnD_own X ib (X.heap.size + 1)
    case hIx => exact fun _ _ _ _ _ h _ _ => h.elim
    case h0 => exact ⟨HIX.out, KpJ.refl _ _ _⟩
    case hX => exact fun pr x _ _ _ _ h _ _ => h
    case hassign =>
      rintro l' pr x' U K' hltU hI hG hK'
      have hba : Below U.heap.size U (U.alloc (.cells #[.int .i64 x'.1.1, .int .i64 x'.1.2] 25)) := (Below.refl _ _).alloc (Nat.le_refl _) _
      have hI2 := (rnD_own X ib (X.heap.size + 1)).alloc (.cells #[.int .i64 x'.1.1, .int .i64 x'.1.2] 25) hI
      have hbk := Blk.new U 25 [.int .i64 x'.1.1, .int .i64 x'.1.2]
      obtain ⟨gg, hgg⟩ : ∃ z, z = U.heap.size := ⟨_, rfl⟩
      have hgl : X.heap.size ≤ gg := by omega
      rw [← hgg] at hbk
      dsimp only [dotV]
      gi_wp2
      rw [← hgg]
      exact hK' gg _ ⟨hba.block _ hltU, hba.block _ (by omega)⟩ (KpJ.below hba) hI2 hG hbk hgl
    case hbody =>
      rintro l' pr ⟨⟨yo, ys⟩, yt⟩ gg U ⟨rc, hkp⟩ hR hG hbk hgl
      have HR := hid hR
      have HKP := hid hkp
      obtain ⟨hit, hiy, _⟩ := hG
      obtain ⟨c, HC⟩ : ∃ c : Nat, Hid (pr.length = c) := ⟨_, hid rfl⟩
      have HCL : Hid (c < YS.length) := by rw [← HC.out, HM.out, ← HITL.out]; exact hit
      have hiy2 : (⟨yo, ys, yt⟩ : PairV) = YS[c]'HCL.out := by
        have h1 : its[pr.length] = itOf (YS[c]'HCL.out) := by
          simp only [HITE.out, List.getElem_map, HC.out]
        rw [h1] at hiy
        unfold itOf at hiy
        simp only [Prod.mk.injEq] at hiy
        obtain ⟨⟨e1, e2⟩, e3⟩ := hiy
        rw [e1, e2, e3]
      have hUS := HUE.out U hR.kp
      obtain ⟨b9, off, hao, _, d0, d1, d2⟩ := hUS.row.cellsD HCL.out
      rw [← hiy2] at d0 d1 d2
      simp only at d0 d1 d2
      have e0 := hbk.cell (i := 0) rfl
      have e1 := hbk.cell (i := 1) rfl
      have ci := hR.ibx.cell
      rw [HC.out] at ci
      have clb := hUS.lbx.cell
      subst hao
      have hcM : (c : Int) < (M : Int) := by have := HM.out; have := HCL.out; omega
      have hc0 : (0 : Int) ≤ (c : Int) := by omega
      have hg1 : decide ((M : Int) ≤ (c : Int)) = false := decide_eq_false (by omega)
      have hg2 : decide (M ≤ c) = false := decide_eq_false (by omega)
      have hneq := fun W => neq_prD W yo ys yt
      have hwc : wrap64 ((c : Int) + 1) = (c : Int) + 1 := wrapN (by omega) (by have := HMF.out; omega)
      clear hit hiy hiy2 hR hkp hbk
      gi_wp2
      refine wpIn_region_quiet_round l' rfl (by kernel_rfl) (by kernel_rfl) (by kernel_rfl) ?_
      repeat (gi_big_quiet_step (fail))
      refine wpQuietIn_nil ?_
      intro _ hw
      obtain ⟨nq, hnq⟩ := hw
      have hbq : Below U.heap.size U (U.drewN nq) := Turns.below ((Turns.refl (fun _ => False) U).drewN nq) (fun _ h => h.elim) (Nat.le_refl _)
      rw [← hnq] at hbq
      rename_i U1
      have hib : Boxed U1 ib 3 (.int .i64 (c : Int)) := by
        have := HR.out.ibx
        rw [HC.out] at this
        exact (hbq.block _ this.lt).trans this
      have kn1 := hib.cell
      have kf1 := hib.frozen
      have hib2 := hib.set (.int .i64 ((c : Int) + 1))
      have hTU : Turns (fun i => i = ib) U (U1.setCell ⟨ib, 0, none⟩ (.int .i64 ((c : Int) + 1))) := (Turns.of_below (F := fun i => i = ib) hbq (Nat.le_refl _)).trans (turns_set U1 ib _) (fun i hi => .inl hi)
      have HRN : Hid (RnD X ib (X.heap.size + 1) (pr ++ [((yo, ys), yt)]) (U1.setCell ⟨ib, 0, none⟩ (.int .i64 ((c : Int) + 1)))) := by
        refine ⟨?_, HR.out.kp.trans (hTU.mono (fun i hi => .inl hi))⟩
        rw [List.length_append, List.length_singleton, HC.out, show ((c + 1 : Nat) : Int) = (c : Int) + 1 by omega]
        exact hib2
      have HTK : Hid (KeptAs X.heap.size U (U1.setCell ⟨ib, 0, none⟩ (.int .i64 ((c : Int) + 1)))) := KeptAs.turns hTU HKP.out.lt (by have := HIXL.out; omega) (by have := HIXL.out; omega)
      have HTP : Hid (KpJ ib (X.heap.size + 1) U (U1.setCell ⟨ib, 0, none⟩ (.int .i64 ((c : Int) + 1)))) := hTU.mono (fun i hi => .inl hi)
      clear hib hib2 hTU ci clb d0 d1 d2 e0 e1 hg1 hg2 hneq hbq hnq hUS
      gi_wp2
      exact ⟨HTK.out, HTP.out, HRN.out⟩
    case hstop =>
      rintro D c pr U hD _ h hDef
      exact h.elim
    case hdone =>
      intro D zs U hD hzs hR hDef
      have HUS := hid (HUE.out U hR.kp)
      have HIU : Hid (Boxed U ib 3 (.int .i64 (M : Int))) := by
        have h1 := hR.ibx
        rw [hzs, HITL.out] at h1
        exact h1
      have HMK : Hid (Marks w.heap.size (D :: Ds) U) := HUS.out.mks.push (by have h1 := HEX.out.bel.size; omega) hDef (fun hm => by have := HMLX.out D hm; omega)
      have HBT : Hid (∀ V, ScN U V → Below w.heap.size w V) := fun V hV => btN HUS.out.bel hV.out
      have HSA : Hid (∀ V, ScT rb U V → (ScT rb U V ∧ V.cell? ⟨ib, 0, none⟩ = some (.int .i64 (M : Int)) ∧ V.cell? ⟨lb, 0, none⟩ = some (.slice lo M lc) ∧ V.cell? ⟨xb, 0, none⟩ = some (.pointer (some ⟨x, 0, none⟩)))) := fun V hV => by
        have h1 : Boxed V ib 3 (.int .i64 (M : Int)) := boxed_turned HIU.out hV.out (by have := HIBR.out; omega)
        have h2 : Boxed V lb 22 (.slice lo M lc) := boxed_turned HUS.out.lbx hV.out (by have := HLBR.out; omega)
        have h3 : Boxed V xb 28 (.pointer (some ⟨x, 0, none⟩)) := boxed_turned HUS.out.xbx hV.out (by have h1 := HXB.out; have h2 := HRB.out; omega)
        exact ⟨hV, h1.cell, h2.cell, h3.cell⟩
      obtain ⟨E4, HE4⟩ : ∃ E4, Hid (missP ps v = E4) := ⟨_, hid rfl⟩
      obtain ⟨n4, HN4⟩ : ∃ n4, Hid (E4.length = n4) := ⟨_, hid rfl⟩
      have HN4L : Hid (n4 ≤ 100000) := by
        rw [← HN4.out, ← HE4.out]
        unfold missP
        rw [List.length_take]
        exact (by omega : min 4096 _ ≤ 100000)
      have HC1 : Hid (∀ V, ScN U V → Calls Try.prog 30 #[.pointer (some ⟨p, 0, none⟩), .slice vo k0 vc] V fun e w' => ∃ ao cp, e = .returned (.slice ao n4 cp) ∧ Hid (w'.ownsRow V.heap.size 25 2 (.slice ao n4 cp) E4.length (flatD E4)) ∧ ScN U w') := fun V hV => by
        refine (missing_any (HN0.out.below (HBT.out V hV)).pre vo vc v k0 HK0.out (HV0.out.below (HBT.out V hV))).mono ?_
        rintro e w' ⟨ao, cp, rfl, h1, h2⟩
        rw [HMIS.out, HE4.out] at h1 ⊢
        rw [HN4.out] at h1 ⊢
        exact ⟨ao, cp, rfl, h1, hV.go h2⟩
      have HC2 : Hid (∀ V, ScN U V → Calls Try.prog 31 #[.pointer (some ⟨x, 0, none⟩), .slice vo k0 vc] V fun e w' => ∃ ao cp, e = .returned (.slice ao n4 cp) ∧ Hid (w'.ownsRow V.heap.size 25 2 (.slice ao n4 cp) E4.length (flatD E4)) ∧ ScN U w' ∧ Hid (Below V.heap.size V w')) := fun V hV => by
        refine ((HX0.out.below (HBT.out V hV)).missing vo vc v k0 HK0.out (HV0.out.below (HBT.out V hV))).mono ?_
        rintro e w' ⟨u, rfl, h1, h2⟩
        rw [HE4.out] at h1
        obtain ⟨ao, cp, rfl⟩ := own_slice h1
        rw [HN4.out] at h1 ⊢
        exact ⟨ao, cp, rfl, h1, hV.go h2, h2⟩
      have HC3 : Hid (∀ V ao bo ca cb B1 B2, ScN U V → V.ownsRow B1 25 2 (.slice ao n4 ca) E4.length (flatD E4) → V.ownsRow B2 25 2 (.slice bo n4 cb) E4.length (flatD E4) → Calls Try.prog 27 #[.slice ao n4 ca, .slice bo n4 cb] V fun e w' => e = .returned (.bool true) ∧ ScN U w' ∧ w'.cell? ⟨rb, 0, none⟩ = some (.bool false) ∧ w'.frozen? ⟨rb, 0, none⟩ = false) := fun V ao bo ca cb B1 B2 hV h1 h2 => by
        refine (sameDotsX V ao bo ca cb B1 B2 E4 n4 HN4.out h1 h2 HN4L.out).mono ?_
        rintro e w' ⟨rfl, hb⟩
        have h3 : Boxed w' rb 4 (.bool false) := ((hV.go hb).out.block _ HUS.out.res.lt).trans HUS.out.res
        exact ⟨rfl, hV.go hb, h3.cell, h3.frozen⟩
      have HEND : Hid (∀ V, ScN U V → ∀ fr : Array Value, fr.getD 6 undef = .pointer (some ⟨rb, 0, none⟩) → LeavesInM Fence.wide 5 Try.prog Try.f11 fr (fun e w' => e = .returned (.bool true) ∧ Below w.heap.size w w') ((D :: Ds).map markD) .returning (V.setCell ⟨rb, 0, none⟩ (.bool true))) := fun V hV fr hfr => by
        have h3 : Boxed V rb 4 (.bool false) := (hV.out.block _ HUS.out.res.lt).trans HUS.out.res
        have h4 : Boxed (V.setCell ⟨rb, 0, none⟩ (.bool true)) rb 4 (.bool true) := h3.set (.bool true)
        have h5 : Below w.heap.size w (V.setCell ⟨rb, 0, none⟩ (.bool true)) := (HBT.out V hV).setCell (p := ⟨rb, 0, none⟩) HUS.out.rl _
        have h6 : Marks w.heap.size (D :: Ds) (V.setCell ⟨rb, 0, none⟩ (.bool true)) := (HMK.out.below hV.out).turned (F := fun i => i = rb) ((Turns.refl (fun i => i = rb) _).setCell (p := ⟨rb, 0, none⟩) (.inl rfl) _) (fun i hi => by
          have h1 : V.heap[rb]? = some (.cells #[.bool false] 4 (0, 0)) := h3
          rw [hi, h1]
          simp)
        refine leavesM_all (B := w.heap.size) (fun U => Below w.heap.size w U ∧ Boxed U rb 4 (.bool true)) ?_ ?_ (D :: Ds) _ h6 ⟨h5, h4⟩
        · rintro U D ⟨h1, h2⟩ hD hU
          refine ⟨belowJ h1 hD _, ?_⟩
          have h3 : U.heap[rb]? = some (.cells #[.bool true] 4 (0, 0)) := h2
          show (U.putObj D (.deferred none)).heap[rb]? = _
          rw [World.putObj_heap_other (by rintro rfl; rw [h3] at hU; cases hU)]
          exact h3
        · rintro U ⟨h1, h2⟩
          exact ⟨_, results_cellR rfl _ _ hfr h2.cell, rfl, h1⟩
      have hmm : ((M : Int) == (M : Int)) = true := by simp
      clear hDef hD hR
      go_wp2
      go_region_held3 (fun V => ScT rb U V ∧ V.cell? ⟨ib, 0, none⟩ = some (.int .i64 (M : Int)) ∧ V.cell? ⟨lb, 0, none⟩ = some (.slice lo M lc) ∧ V.cell? ⟨xb, 0, none⟩ = some (.pointer (some ⟨x, 0, none⟩)))
        ((refine HSA.out _ ?_; (first | (apply ScT.set; apply ScN.t; (repeat (first | with_reducible assumption | exact ScN.start _ | apply ScN.dr)); done) | (apply ScN.t; (repeat (first | with_reducible assumption | exact ScN.start _ | apply ScN.dr)); done))))
        (first
          | (go_at_call 30; with_reducible refine (HC1.out _ (by (repeat (first | with_reducible assumption | exact ScN.start _ | apply ScN.dr)))).mono ?_; rintro e w7 ⟨a7, c7, rfl, HR7, hs7⟩)
          | (go_at_call 31; with_reducible refine (HC2.out _ (by (repeat (first | with_reducible assumption | exact ScN.start _ | apply ScN.dr)))).mono ?_; rintro e w8 ⟨a8, c8, rfl, HR8, hs8, HB8⟩)
          | (go_at_call 27; with_reducible refine (HC3.out _ _ _ _ _ _ _ hs8 ((Turns.of_below (F := fun _ => False) HB8.out (Nat.le_refl _)).row HR7.out (fun _ _ h => h)) HR8.out).mono ?_; rintro e w9 ⟨rfl, hs9, hcr9, hfr9⟩)
          | fail)
      have HE9 := hid (HEND.out w9 hs9)
      clear hs7 hs8 hs9 hcr9 hfr9 HR7 HR8 HB8 HSA HC1 HC2 HC3
      go_wp2
      exact HE9.out _ rfl
end Go.Proofs.Ytplecopphddjhaa
