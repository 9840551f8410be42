/-
  LinSerial: the walk.
-/
import Derived.Test.YtfjmhfbmphdjiaaLnP
import Derived.Deep.QuietTactic
import Derived.BigQuiet
namespace Go.Proofs.Ytfjmhfbmphdjiaa
open Go.RowKit Go.Maps

/-- Calls so far, and their tokens, in rows of the call's own. -/
structure SerAt (w1 wr : World) (v3 v4 : Value) (S : List Sn) (T : List ByteArray) (c : Nat → Nat) : Prop where
  ser : Ser S T c
  okS : AllSn S
  okT : ∀ t ∈ T, t.size ≤ maxLen
  r3 : wr.ownsRow w1.heap.size 9 1 v3 T.length (strV T)
  r4 : wr.ownsRow w1.heap.size 31 5 v4 S.length (flatN S)
  bel : Below w1.heap.size w1 wr
theorem SerAt.below {w1 wr wx : World} {v3 v4 : Value} {S : List Sn} {T : List ByteArray} {c : Nat → Nat} (h : SerAt w1 wr v3 v4 S T c) (hb : Below wr.heap.size wr wx) : SerAt w1 wx v3 v4 S T c :=
  ⟨h.ser, h.okS, h.okT, ownsRow_below h.r3 hb (Nat.le_refl _), ownsRow_below h.r4 hb (Nat.le_refl _), bt' h.bel hb⟩
/-- A call more, in the row of calls. -/
theorem SerAt.push {w1 wq W w' : World} {v3 v4 v4' : Value} {S S' : List Sn} {T' : List ByteArray} {c' : Nat → Nat} (r3 : wq.ownsRow w1.heap.size 9 1 v3 T'.length (strV T')) (r4 : wq.ownsRow w1.heap.size 31 5 v4 S.length (flatN S)) (bel : Below w1.heap.size w1 wq) (okT : ∀ t ∈ T', t.size ≤ maxLen) (okS : AllSn S') (hser : Ser S' T' c')
    (hW : Below wq.heap.size wq W) (hg : W.grownBy w' v4.ownBlock) (hown : w'.ownsRow w1.heap.size 31 5 v4' S'.length (flatN S')) : SerAt w1 w' v3 v4' S' T' c' := by
  have h3 := ownsRow_below r3 hW (Nat.le_refl _)
  have h4 := ownsRow_below r4 hW (Nat.le_refl _)
  refine ⟨hser, okS, okT, h3.kept hg (rows_apart h3 h4 (by decide)), hown, ?_⟩
  exact (bt' bel hW).grown hg (bt' bel hW).size (fun k hk => (h4.lt k hk).1)
/-- A token more, and the call's number set. -/
theorem SerAt.token {w1 wq w3 : World} {o : Obj} {v3 v3' v4 : Value} {S : List Sn} {T : List ByteArray} {c : Nat → Nat} {q : Nat} {cs : List Value} {t : ByteArray} (h : SerAt w1 wq v3 v4 S T c) (hq : Blk wq q 31 cs) (hqa : ∀ g, v4.ownBlock = some g → g ≠ q) (hqn : w1.heap.size ≤ q)
    (hg : (wq.alloc o).grownBy w3 v3.ownBlock) (hown : w3.ownsRow w1.heap.size 9 1 v3' (T ++ [t]).length (strV (T ++ [t]))) (u : Value) :
    Blk (w3.setCell ⟨q, 4, none⟩ u) q 31 (cs.set 4 u) ∧ (w3.setCell ⟨q, 4, none⟩ u).ownsRow w1.heap.size 9 1 v3' (T ++ [t]).length (strV (T ++ [t])) ∧ (w3.setCell ⟨q, 4, none⟩ u).ownsRow w1.heap.size 31 5 v4 S.length (flatN S) ∧ Below w1.heap.size w1 (w3.setCell ⟨q, 4, none⟩ u) ∧ Blk w3 q 31 cs := by
  have hb := one_new wq o
  have h3 := ownsRow_below h.r3 hb (Nat.le_refl _)
  have h4 := ownsRow_below h.r4 hb (Nat.le_refl _)
  have hqb := hq.alloc o
  have hk3 : Blk w3 q 31 cs := hqb.kept hg (hqb.not_row (by decide) h3)
  have h43 := h4.kept hg (rows_apart h4 h3 (by decide))
  have ht : Turns (fun j => j = q) w3 (w3.setCell ⟨q, 4, none⟩ u) := (Turns.refl (fun j => j = q) w3).setCell (p := ⟨q, 4, none⟩) (.inl rfl) _
  refine ⟨hk3.set 4 u, ht.row hown (fun g hg1 hg2 => ?_), ht.row h43 hqa, ?_, hk3⟩
  · exact hk3.not_row (by decide) hown (by rw [hg1, hg2])
  · have hb3 : Below w1.heap.size w1 w3 := (bt' h.bel hb).grown hg (bt' h.bel hb).size (fun k hk => (h3.lt k hk).1)
    exact hb3.setCell (p := ⟨q, 4, none⟩) hqn _
theorem wrap_twoI {i : Nat} (h : i < 300) : IntKind.i64.wrap (2 * (i : Int)) = 2 * (i : Int) ∧ IntKind.i64.wrap (2 * (i : Int) + 1) = 2 * (i : Int) + 1 ∧ IntKind.i64.wrap (2 * (i : Int) + 2) = 2 * (i : Int) + 2 := by
  rw [IntKind.wrap_i64, IntKind.wrap_i64, IntKind.wrap_i64]
  omega
set_option maxRecDepth 1000000 in
set_option maxHeartbeats 4000000 in
theorem linSerial_walk (ao : Option Addr) (cap : Nat) (xs : List Sn) (w : World) (h : HeldSn w ao xs ∧ xs.length ≤ cap) (hl : xs.length ≤ 2932031007402) :
    Calls Try.prog 5 #[.slice ao xs.length cap] w fun e w' => e = .returned (.bool true) ∧ Below w.heap.size w w' := by
  obtain ⟨n, hn⟩ : ∃ n, xs.length = n := ⟨_, rfl⟩
  have HL := hid (lives25 w)
  have H := hid h.1
  have HNN : Hid (n ≤ 2932031007402) := by rw [← hn]; exact hl
  have HN := hid hn
  rw [hn]
  clear h hn hl
  go_enter Try.func5, Try.ntmps5
  go_wp2_with fail
  refine HL.out.mono ?_
  rintro e w1 ⟨rfl, hb1⟩
  have HB1 := hid hb1
  have HH1 := hid (H.out.below hb1)
  clear hb1 HL H
  go_wp2
  go_loopw [3, 4, 5, 6, 7] (fun s3 s4 s5 _ _ wr => ∃ i : Nat, ∃ S T c, i ≤ n ∧ i ≤ 300 ∧ s5 = .int .i64 i ∧ Hid (S.length = i ∧ SerAt w1 wr s3 s4 S T c)) (fun _ _ s5 _ _ _ => 300 - (intOf s5).toNat)
  case atStart => exact ⟨0, [], [], fun _ => 0, Nat.zero_le _, Nat.zero_le _, rfl, rfl, Ser.nil, fun x hx => (by cases hx), fun x hx => (by cases hx), World.ownsRow_nil _ _ _ _, World.ownsRow_nil _ _ _ _, Below.refl _ _⟩
  case round =>
    obtain ⟨i, S, T, c, hin, hi3, rfl, HR⟩ := hrel
    obtain ⟨wA, rfl⟩ : ∃ V, V = wr := ⟨_, rfl⟩
    by_cases hlt : i < n
    · have hlt' : (i : Int) < (n : Int) := by omega
      by_cases hlt3 : i < 300
      · have hlt3' : (i : Int) < 300 := by omega
        have HIX : Hid (i < xs.length) := by rw [HN.out]; exact hlt
        obtain ⟨bb, off, hao, hbb, g0, g1, g2, g3, g4⟩ := (HH1.out.below HR.out.2.bel).at HIX.out
        have HOX := hid (HH1.out.1 _ (List.getElem_mem HIX.out))
        obtain ⟨X, HX⟩ : ∃ X, Hid (xs[i]'HIX.out = X) := ⟨_, hid rfl⟩
        rw [HX.out] at g0 g1 g2 g3 g4 HOX
        obtain ⟨co, tok, sb, se, id⟩ := X
        simp only at g0 g1 g2 g3 g4
        subst hao
        obtain ⟨hw1, hw2, hw3⟩ := wrap_twoI hlt3
        have HC0 : Hid (∀ V, ScS wA V → (ScS wA V ∧ V.cell? ⟨bb, off + i * 5, none⟩ = some (.bool co) ∧ V.cell? ⟨bb, off + i * 5 + 1, none⟩ = some (.string tok))) := fun V hV => ⟨hV, (hV.out.cell (p := ⟨bb, off + i * 5, none⟩) hbb).trans g0, (hV.out.cell (p := ⟨bb, off + i * 5 + 1, none⟩) hbb).trans g1⟩
        clear hbb
        go_wp2
        go_region_held3 (fun V => ScS wA V ∧ V.cell? ⟨bb, off + i * 5, none⟩ = some (.bool co) ∧ V.cell? ⟨bb, off + i * 5 + 1, none⟩ = some (.string tok))
          (first | (refine ⟨?_, ?_, ?_⟩ <;> assumption) | (refine HC0.out _ ?_; (repeat (first | assumption | exact ScS.start _ | apply ScS.dr | apply ScS.alloc))))
          (fail)
        obtain ⟨W1, hW1⟩ : ∃ W, W = (wA.alloc (.cells #[.bool co, .string tok, .int .i64 (2 * (i : Int) + 1), .int .i64 (2 * (i : Int) + 2), .int .i64 0] 31)).drew := ⟨_, rfl⟩
        rw [← hW1]
        have HBW : Hid (Below wA.heap.size wA W1) := by rw [hW1]; exact below_dn (one_new _ _) 1
        have HKW : Hid (Blk W1 wA.heap.size 31 [.bool co, .string tok, .int .i64 (2 * (i : Int) + 1), .int .i64 (2 * (i : Int) + 2), .int .i64 0]) := by rw [hW1]; exact (Blk.new wA _ _).drew
        obtain ⟨m, HM⟩ : ∃ m, Hid (T.length = m) := ⟨_, hid rfl⟩
        have HSE := hid HR.out.2
        have HSL := hid HR.out.1
        obtain ⟨to, tc, hv3, _, _⟩ := heldStr_of_own rfl HSE.out.r3 HSE.out.okT
        rw [HM.out] at hv3
        subst hv3
        have HM3 : Hid (m ≤ 300) := by rw [← HM.out]; have := HSE.out.ser.few; have := HSL.out; show _ ≤ _; omega
        have HTH : Hid (∀ V, Below wA.heap.size wA V → HeldStr V to T) := fun V hV => by
          have h3 := (HSE.out.below hV).r3
          rw [HM.out] at h3
          obtain ⟨to', tc', he, _, hh⟩ := heldStr_of_own HM.out h3 HSE.out.okT
          cases he
          exact hh
        have HMM := hid (HM3.out)
        obtain ⟨q, hq⟩ : ∃ q, q = wA.heap.size := ⟨_, rfl⟩
        have HQ := hid hq
        rw [← hq] at HKW ⊢
        clear hW1 hq g0 g1 g2 g3 g4 HC0 hw1 hw2 hw3
        go_wp2
        go_loopw [7] (fun s7 wq => ∃ k : Nat, k ≤ m ∧ s7 = .int .i64 k ∧ Hid (Below wA.heap.size wA wq ∧ Blk wq q 31 [.bool co, .string tok, .int .i64 (2 * (i : Int) + 1), .int .i64 (2 * (i : Int) + 2), .int .i64 (idL T tok k : Int)])) (fun s7 _ => m - (intOf s7).toNat)
        case atStart => exact ⟨0, Nat.zero_le _, rfl, HBW.out, HKW.out⟩
        case round =>
          obtain ⟨k, hkm, rfl, HI⟩ := hrel
          by_cases hkl : k < m
          · have hkl' : (k : Int) < (m : Int) := by omega
            have HKT : Hid (k < T.length) := by rw [HM.out]; exact hkl
            obtain ⟨b2, o2, hto, hb2, t0⟩ := (HTH.out wr HI.out.1).at HKT.out
            have HKM : Hid (k + 1 ≤ m) := (by omega : k + 1 ≤ m)
            obtain ⟨U, HU⟩ : ∃ U, Hid (T.getD k ByteArray.empty = U) := ⟨_, hid rfl⟩
            rw [HU.out] at t0
            subst hto
            have c1 := HI.out.2.cell (i := 1) rfl
            have hw1 : wrap64 ((k : Int) + 1) = (k : Int) + 1 := wrapS (by omega) (by have := HM3.out; omega)
            by_cases he : U = tok
            · have HID : Hid (idL T tok (k + 1) = k + 1) := by show idL T tok (k + 1) = k + 1; unfold idL; rw [HU.out, if_pos he]
              subst he
              have HST : Hid (∀ z, Below wA.heap.size wA ((wr.drewN z).setCell ⟨q, 4, none⟩ (.int .i64 ((k : Int) + 1))) ∧ Blk ((wr.drewN z).setCell ⟨q, 4, none⟩ (.int .i64 ((k : Int) + 1))) q 31 [.bool co, .string U, .int .i64 (2 * (i : Int) + 1), .int .i64 (2 * (i : Int) + 2), .int .i64 (idL T U (k + 1) : Int)]) := fun z => by
                refine ⟨(below_dn HI.out.1 z).setCell (p := ⟨q, 4, none⟩) (by rw [HQ.out]; exact Nat.le_refl _) _, ?_⟩
                rw [HID.out]
                exact (HI.out.2.drewN z).set 4 _
              have c4 := fun z => (HI.out.2.drewN z).cell (i := 4) rfl
              have f4 := fun z => (HI.out.2.drewN z).frozen 4
              go_wp2
              go_quiet (fail)
              have d4 := c4 nq
              have e4 := f4 nq
              go_wp2
              go_roundw
              case rel => exact ⟨k + 1, HKM.out, by go_num, (HST.out nq).1, (HST.out nq).2⟩
              case measure => first | exact measWS HKM.out hw1 | exact meas1S HKM.out
            · have HID : Hid (idL T tok (k + 1) = idL T tok k) := by show idL T tok (k + 1) = _; rw [idL, HU.out, if_neg he]
              have hb1 : ¬ U.toList = tok.toList := fun hh => he (bytes_injS hh)
              have hb2 : (U.toList == tok.toList) = false := beq_eq_false_iff_ne.2 hb1
              go_wp2
              go_quiet (fail)
              go_wp2
              go_roundw
              case rel => exact ⟨k + 1, HKM.out, by go_num, below_dn HI.out.1 _, by rw [HID.out]; exact HI.out.2.drewN _⟩
              case measure => first | exact measWS HKM.out hw1 | exact meas1S HKM.out
          · have hkl' : ¬ (k : Int) < (m : Int) := by omega
            have HKE : Hid (k = m) := (by omega : k = m)
            have HKB := hid HI.out.2
            rw [HKE.out] at HKB
            obtain ⟨D, HD⟩ : ∃ D, Hid (idL T tok m = D) := ⟨_, hid rfl⟩
            rw [HD.out] at HKB
            have c0 := HKB.out.cell (i := 0) rfl
            have c1 := HKB.out.cell (i := 1) rfl
            have c2 := HKB.out.cell (i := 2) rfl
            have c3 := HKB.out.cell (i := 3) rfl
            have c4 := HKB.out.cell (i := 4) rfl
            have HSB := hid (HSE.out.below HI.out.1)
            have HIL : Hid (i < 300) := hlt3
            have HT4 : Hid (tok.size ≤ maxLen) := HOX.out.ht
            have HIN1 : Hid (i + 1 ≤ n ∧ i + 1 ≤ 300) := ⟨hlt, hlt3⟩
            have HQA : Hid (∀ g, u4.ownBlock = some g → g ≠ q) := fun g hg => by
              have := (HSE.out.r4.lt g hg).2
              rw [HQ.out]
              omega
            have HQN : Hid (w1.heap.size ≤ q) := by rw [HQ.out]; exact HSE.out.bel.size
            have HSI : Hid (∀ b e z : Int, b = 2 * (i : Int) + 1 → e = 2 * (i : Int) + 2 → I64 z → AllSn (S ++ [⟨co, tok, b, e, z⟩])) := fun b e z hb he hz x hx => by
              rcases List.mem_append.1 hx with hx | hx
              · exact HSE.out.okS x hx
              · rw [List.mem_singleton.1 hx]
                have := HIL.out
                refine ⟨HT4.out, ?_, ?_, hz⟩
                · show I64 b
                  unfold I64
                  omega
                · show I64 e
                  unfold I64
                  omega
            have HDM : Hid ((D : Int) ≤ 300) := by
              have h1 : D ≤ m := by
                by_cases hz : D = 0
                · omega
                · rw [← HD.out] at hz ⊢
                  exact (idL_some hz).1
              have := HM3.out
              show (D : Int) ≤ 300
              omega
            have HOKT := hid HSE.out.okT
            have HR4 := hid HSB.out.r4
            have HR3 := hid HSB.out.r3
            have HSBE := hid HSB.out.bel
            have HSER := hid HSE.out.ser
            have HSS : Hid (S.length < 1000) := by have := HSL.out; have := HIL.out; show _ < _; omega
            have hw5 : wrap64 ((i : Int) + 1) = (i : Int) + 1 := wrapS (by omega) (by omega)
            clear hkm
            by_cases hmk : D = 0 ∧ co = true
            · obtain ⟨hD0, hco⟩ := hmk
              subst hco
              rw [hD0] at c4 HKB
              have HSM := hid (HSER.out.make tok (by rw [HM.out, HD.out]; exact hD0))
              rw [HM.out, HSL.out] at HSM
              have HNT : Hid (∀ t ∈ T ++ [tok], t.size ≤ maxLen) := fun t ht => by
                rcases List.mem_append.1 ht with ht | ht
                · exact HOKT.out t ht
                · rw [List.mem_singleton.1 ht]; exact HT4.out
              have HNS := hid (HSI.out _ _ ((m : Int) + 1) rfl rfl (by have := HM3.out; unfold I64; omega))
              have HTL : Hid ((T ++ [tok]).length = m + 1) := by rw [List.length_append, HM.out]; exact rfl
              have HSL2 : Hid ((S ++ [(⟨true, tok, 2 * (i : Int) + 1, 2 * (i : Int) + 2, (m : Int) + 1⟩ : Sn)]).length = S.length + 1) := by rw [List.length_append]; exact rfl
              have HR3m := HR3
              rw [HM.out] at HR3m
              clear hD0 HD
              go_wp2_with (at_builtin; first
                | (refine wpList_append_str wr _ tok rfl rfl _ _ rfl w1.heap.size _ T m HM.out rfl _ rfl rfl HR3m.out HSBE.out.size (by have := HM3.out; omega) ?_; intro bo cp w3 hown3 hb3 hg3; rw [← HTL.out] at hown3; have HTO := hid (SerAt.token HSB.out HKB.out HQA.out HQN.out hg3 hown3 (.int .i64 ((m : Int) + 1))); obtain ⟨hk5, _, _, _, hk3⟩ := HTO.out; have d4 := hk3.cell (i := 4) rfl; have f4 := hk3.frozen 4; have t0 := hk5.cell (i := 0) rfl; have t1 := hk5.cell (i := 1) rfl; have t2 := hk5.cell (i := 2) rfl; have t3 := hk5.cell (i := 3) rfl; have t4 := hk5.cell (i := 4) rfl; rw [HTL.out] at hown3; clear hown3 hb3 hg3 hk5 hk3)
                | (refine wpList_append_sn _ _ ⟨true, tok, 2 * (i : Int) + 1, 2 * (i : Int) + 2, (m : Int) + 1⟩ rfl rfl _ _ rfl w1.heap.size u4 S S.length rfl rfl _ rfl (by simp) HTO.out.2.2.1 HTO.out.2.2.2.1.size (by have := HSS.out; omega) ?_; intro v' w5 hown5 hb5 hg5; have HNX := hid (SerAt.push HTO.out.2.1 HTO.out.2.2.1 HTO.out.2.2.2.1 HNT.out HNS.out HSM.out (one_new _ _) hg5 (by rw [HSL2.out]; exact hown5)); clear hown5 hb5 hg5)
                | fail)
              go_wp2
              go_roundw
              case rel => exact ⟨i + 1, _, _, _, HIN1.out.1, HIN1.out.2, by go_num, by rw [HSL2.out, HSL.out], by rw [HTL.out] at HNX; exact HNX.out⟩
              case measure => first | exact measWS HIN1.out.2 hw5 | exact meas1S HIN1.out.2
            · have HSM := hid (HSER.out.more co tok (by rw [HM.out, HD.out]; exact hmk))
              rw [HM.out, HD.out, HSL.out] at HSM
              have HNS := hid (HSI.out _ _ (D : Int) rfl rfl (by have := HDM.out; unfold I64; omega))
              have HSL2 : Hid ((S ++ [(⟨co, tok, 2 * (i : Int) + 1, 2 * (i : Int) + 2, (D : Int)⟩ : Sn)]).length = S.length + 1) := by rw [List.length_append]; exact rfl
              have hguard : (D = 0 ∧ co = false) ∨ ¬ D = 0 := by
                by_cases hz : D = 0
                · left
                  refine ⟨hz, ?_⟩
                  cases co with
                  | false => rfl
                  | true => exact absurd ⟨hz, rfl⟩ hmk
                · exact .inr hz
              clear hmk
              rcases hguard with ⟨hD0, hco⟩ | hD0
              · subst hco
                subst hD0
                go_wp2_with (at_builtin; first
                  | (refine wpList_append_sn wr _ ⟨false, tok, 2 * (i : Int) + 1, 2 * (i : Int) + 2, ((0 : Nat) : Int)⟩ rfl rfl _ _ rfl w1.heap.size u4 S S.length rfl rfl _ rfl rfl HR4.out HSBE.out.size (by have := HSS.out; omega) ?_; intro v' w5 hown5 hb5 hg5; have HNX := hid (SerAt.push HR3.out HR4.out HSBE.out HOKT.out HNS.out HSM.out (one_new _ _) hg5 (by rw [HSL2.out]; exact hown5)); clear hown5 hb5 hg5)
                  | fail)
                go_wp2
                go_roundw
                case rel => exact ⟨i + 1, _, _, _, HIN1.out.1, HIN1.out.2, by go_num, by rw [HSL2.out, HSL.out], HNX.out⟩
                case measure => first | exact measWS HIN1.out.2 hw5 | exact meas1S HIN1.out.2
              · have hDb : ((D : Int) == 0) = false := by simpa using hD0
                have hDn : ¬ (D : Int) = 0 := by omega
                go_wp2_with (at_builtin; first
                  | (refine wpList_append_sn wr _ ⟨co, tok, 2 * (i : Int) + 1, 2 * (i : Int) + 2, (D : Int)⟩ rfl rfl _ _ rfl w1.heap.size u4 S S.length rfl rfl _ rfl rfl HR4.out HSBE.out.size (by have := HSS.out; omega) ?_; intro v' w5 hown5 hb5 hg5; have HNX := hid (SerAt.push HR3.out HR4.out HSBE.out HOKT.out HNS.out HSM.out (one_new _ _) hg5 (by rw [HSL2.out]; exact hown5)); clear hown5 hb5 hg5)
                  | fail)
                go_wp2
                go_roundw
                case rel => exact ⟨i + 1, _, _, _, HIN1.out.1, HIN1.out.2, by go_num, by rw [HSL2.out, HSL.out], HNX.out⟩
                case measure => first | exact measWS HIN1.out.2 hw5 | exact meas1S HIN1.out.2
      · have hlt3' : ¬ (i : Int) < 300 := by omega
        have HSE := hid HR.out.2
        have HSL := hid HR.out.1
        obtain ⟨to, tc, hv3, _, hh3⟩ := heldStr_of_own rfl HSE.out.r3 HSE.out.okT
        obtain ⟨so, sc, hv4, _, hh4⟩ := heldSn_of_own rfl HSE.out.r4 HSE.out.okS
        subst hv3
        subst hv4
        have HLI : Hid (S.length ≤ 300) := by rw [HSL.out]; exact hi3
        have HCK := hid (check_any wA so sc S S.length rfl hh4 (Nat.le_trans HLI.out (by omega)) to tc T T.length rfl hh3 (Nat.le_trans HSE.out.ser.few (Nat.le_trans HLI.out (by omega))))
        rw [check_ok.2 (HSE.out.ser.rowed HLI.out)] at HCK
        obtain ⟨sl, HS1⟩ : ∃ z, Hid (S.length = z) := ⟨_, hid rfl⟩
        obtain ⟨tl, HT1⟩ : ∃ z, Hid (T.length = z) := ⟨_, hid rfl⟩
        rw [HS1.out, HT1.out] at HCK
        rw [HS1.out, HT1.out]
        have HBE := hid (bt' HB1.out HSE.out.bel)
        clear hh3 hh4
        go_wp2_with fail
        refine HCK.out.mono ?_
        rintro e w9 ⟨rfl, hb9⟩
        have HB9 := hid (bt' HBE.out hb9)
        clear hb9
        go_wp2
        go_ret
        exact ⟨rfl, HB9.out⟩
    · have hlt' : ¬ (i : Int) < (n : Int) := by omega
      have HSE := hid HR.out.2
      have HSL := hid HR.out.1
      obtain ⟨to, tc, hv3, _, hh3⟩ := heldStr_of_own rfl HSE.out.r3 HSE.out.okT
      obtain ⟨so, sc, hv4, _, hh4⟩ := heldSn_of_own rfl HSE.out.r4 HSE.out.okS
      subst hv3
      subst hv4
      have HLI : Hid (S.length ≤ 300) := by rw [HSL.out]; exact hi3
      have HCK := hid (check_any wA so sc S S.length rfl hh4 (Nat.le_trans HLI.out (by omega)) to tc T T.length rfl hh3 (Nat.le_trans HSE.out.ser.few (Nat.le_trans HLI.out (by omega))))
      rw [check_ok.2 (HSE.out.ser.rowed HLI.out)] at HCK
      obtain ⟨sl, HS1⟩ : ∃ z, Hid (S.length = z) := ⟨_, hid rfl⟩
      obtain ⟨tl, HT1⟩ : ∃ z, Hid (T.length = z) := ⟨_, hid rfl⟩
      rw [HS1.out, HT1.out] at HCK
      rw [HS1.out, HT1.out]
      have HBE := hid (bt' HB1.out HSE.out.bel)
      clear hh3 hh4
      go_wp2_with fail
      refine HCK.out.mono ?_
      rintro e w9 ⟨rfl, hb9⟩
      have HB9 := hid (bt' HBE.out hb9)
      clear hb9
      go_wp2
      go_ret
      exact ⟨rfl, HB9.out⟩
end Go.Proofs.Ytfjmhfbmphdjiaa
