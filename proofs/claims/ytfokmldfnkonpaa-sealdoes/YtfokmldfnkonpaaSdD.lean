/-
  The document's machine: Do, Seals; the law's sameSeals of equal lists.
-/
import Derived.Test.YtfokmldfnkonpaaSdC5
import Derived.Test.YtfokmldfnkonpaaSmH
import Derived.Test.YtfokmldfnkonpaaSameB
namespace Go.Proofs.Ytfokmldfnkonpaa
open Go.RowKit Go.Maps

theorem RfM.do {B : Nat} {w : World} {p : Nat} {v : Value} {g : Sm} (h : RfM B w p v g) (hB : B ≤ w.heap.size) (hdn : g.dn ≤ 4611686018427387904) (x : EnM) (hx : EnOk w x) (hxb : ∀ b off, x.ao = some ⟨b, off, none⟩ → x.e.cut ≠ [] → b < B) :
    Calls Try.prog 11 #[.pointer (some ⟨p, 0, none⟩), x.val] w (DoL B w p v g x.e) := by
  obtain ⟨⟨np, tk, ct, ep, dp⟩, ao1, cap1⟩ := x
  by_cases hr : RightEn ⟨np, tk, ct, ep, dp⟩ = true
  · cases np with
    | true => exact h.do1 hB hdn true tk ct ep dp ao1 cap1 hx hr rfl
    | false =>
      cases hf : findO tk g.os with
      | some o =>
        obtain ⟨oid, otk, oct, oep, odp⟩ := o
        exact h.do2 hB hdn false tk ct ep dp ao1 cap1 hx hr rfl oid oep otk oct odp hf
      | none =>
        by_cases he : ep = (cntO ct g.os : Int)
        · by_cases hl : 65536 ≤ g.os.length
          · exact h.do4 hB hdn false tk ct ep dp ao1 cap1 hx hr rfl hf he hl
          · exact h.do5 hB hdn false tk ct ep dp ao1 cap1 hx hxb hr rfl hf he hl
        · exact h.do3 hB hdn false tk ct ep dp ao1 cap1 hx hr rfl hf he
  · exact h.do0 hB np tk ct ep dp ao1 cap1 hx hr
set_option maxRecDepth 1000000 in
set_option maxHeartbeats 4000000 in
theorem sameSeals_any (w : World) (ao bo : Option Addr) (ca cb N : Nat) (xs ys : List SlM) (hx : xs.length = N) (he : xs.map SlM.e = ys.map SlM.e) (h1 : HeldSl w ao xs) (h2 : HeldSl w bo ys) (hl : N ≤ 65536) :
    Calls Try.prog 24 #[.slice ao N ca, .slice bo N cb] w fun e w' => e = .returned (.bool true) ∧ Below w.heap.size w w' := by
  have HXL := hid hx
  have HYL : Hid (ys.length = N) := by have h3 := congrArg List.length he; simp at h3; show _ = _; omega
  have HE := hid he
  have H1 := hid h1
  have H2 := hid h2
  have HL := hid hl
  have hnn : ((N : Int) != (N : Int)) = false := by simp
  clear hx he h1 h2 hl
  go_enter Try.func24, Try.ntmps24
  go_wp2
  go_loopw [5] (fun i wr => ∃ k : Nat, k ≤ N ∧ i = .int .i64 k ∧ Hid (Below w.heap.size w wr)) (fun i _ => N - (intOf i).toNat)
  case atStart => exact ⟨0, Nat.zero_le _, rfl, Below.refl _ _⟩
  case round =>
    obtain ⟨k, hk, rfl, HB⟩ := hrel
    by_cases hlt : k < N
    · have hlt' : (k : Int) < (N : Int) := by omega
      have hkx : Hid (k < xs.length) := (by rw [HXL.out]; exact hlt : k < xs.length)
      have hky : Hid (k < ys.length) := (by rw [HYL.out]; exact hlt : k < ys.length)
      have HKM : Hid (k + 1 ≤ N) := (by omega : k + 1 ≤ N)
      have HXY : Hid ((xs[k]'hkx.out).e = (ys[k]'hky.out).e) := by
        have h3 : (xs.map SlM.e)[k]? = (ys.map SlM.e)[k]? := by rw [HE.out]
        have h4 := hkx.out
        have h5 := hky.out
        show _ = _
        simpa [List.getElem?_eq_getElem h4, List.getElem?_eq_getElem h5] using h3
      have HOX := hid ((H1.out.1 _ (List.getElem_mem hkx.out)).below HB.out).cut
      have HOY := hid ((H2.out.1 _ (List.getElem_mem hky.out)).below HB.out).cut
      obtain ⟨b1, o1, hao, _, _⟩ := H1.out.at hkx.out
      obtain ⟨b2, o2, hbo, _, _⟩ := H2.out.at hky.out
      subst hao hbo
      have HX1 := hid (H1.out.below HB.out)
      have HX2 := hid (H2.out.below HB.out)
      obtain ⟨X, HX⟩ : ∃ X, Hid (xs[k]'hkx.out = X) := ⟨_, hid rfl⟩
      obtain ⟨Y, HY⟩ : ∃ Y, Hid (ys[k]'hky.out = Y) := ⟨_, hid rfl⟩
      rw [HX.out] at HOX HXY
      rw [HY.out] at HOY HXY
      obtain ⟨⟨tk, ct, ep, dp⟩, ao1, cap1⟩ := X
      obtain ⟨e2, ao2, cap2⟩ := Y
      have he2 : e2 = ⟨tk, ct, ep, dp⟩ := HXY.out.symm
      subst he2
      obtain ⟨XN, HXN⟩ : ∃ m, Hid (dp.length = m) := ⟨_, hid rfl⟩
      have hw0 : wrap64 ((k : Int) + 1) = (k : Int) + 1 := wrapJ (Nat.le_trans hk HL.out)
      have HSM : Hid (∀ V, ScO wr V → Calls Try.prog 36 #[.agg #[.string tk, .string ct, .int .i64 ep, .slice ao1 XN cap1], .agg #[.string tk, .string ct, .int .i64 ep, .slice ao2 XN cap2]] V fun e w' => e = .returned (.bool true) ∧ ScO wr w') := fun V hV =>
        (sameSeal_B V tk ct ep ao1 ao2 cap1 cap2 dp XN HXN.out (HOX.out.below hV.out) (HOY.out.below hV.out)).mono (fun e w' hh => ⟨hh.1, hV.go hh.2⟩)
      have HSA : Hid (∀ V, ScO wr V → (ScO wr V ∧ V.cell? ⟨b1, o1 + k * 4, none⟩ = some (.string tk) ∧ V.cell? ⟨b1, o1 + k * 4 + 1, none⟩ = some (.string ct) ∧ V.cell? ⟨b1, o1 + k * 4 + 2, none⟩ = some (.int .i64 ep) ∧ V.cell? ⟨b1, o1 + k * 4 + 3, none⟩ = some (.slice ao1 XN cap1) ∧ V.cell? ⟨b2, o2 + k * 4, none⟩ = some (.string tk) ∧ V.cell? ⟨b2, o2 + k * 4 + 1, none⟩ = some (.string ct) ∧ V.cell? ⟨b2, o2 + k * 4 + 2, none⟩ = some (.int .i64 ep) ∧ V.cell? ⟨b2, o2 + k * 4 + 3, none⟩ = some (.slice ao2 XN cap2))) := fun V hV => by
        obtain ⟨b', o', he, _, f1, f2, f3, f4⟩ := (HX1.out.below hV.out).at hkx.out
        cases he
        obtain ⟨b', o', he, _, g1, g2, g3, g4⟩ := (HX2.out.below hV.out).at hky.out
        cases he
        rw [HX.out] at f1 f2 f3 f4
        rw [HY.out] at g1 g2 g3 g4
        simp only at f1 f2 f3 f4 g1 g2 g3 g4
        rw [HXN.out] at f4 g4
        exact ⟨hV, f1, f2, f3, f4, g1, g2, g3, g4⟩
      go_wp2
      apply wp_share0 (S := fun V => ScO wr V)
      · go_region_held3 (fun V => ScO wr V ∧ V.cell? ⟨b1, o1 + k * 4, none⟩ = some (.string tk) ∧ V.cell? ⟨b1, o1 + k * 4 + 1, none⟩ = some (.string ct) ∧ V.cell? ⟨b1, o1 + k * 4 + 2, none⟩ = some (.int .i64 ep) ∧ V.cell? ⟨b1, o1 + k * 4 + 3, none⟩ = some (.slice ao1 XN cap1) ∧ V.cell? ⟨b2, o2 + k * 4, none⟩ = some (.string tk) ∧ V.cell? ⟨b2, o2 + k * 4 + 1, none⟩ = some (.string ct) ∧ V.cell? ⟨b2, o2 + k * 4 + 2, none⟩ = some (.int .i64 ep) ∧ V.cell? ⟨b2, o2 + k * 4 + 3, none⟩ = some (.slice ao2 XN cap2))
          ((refine HSA.out _ ?_; (repeat (first | with_reducible assumption | exact ScO.start _ | apply ScO.dr))))
          (first
            | (go_at_call 36; with_reducible refine (HSM.out _ (by (repeat (first | with_reducible assumption | exact ScO.start _ | apply ScO.dr)))).mono ?_; rintro e x5 ⟨rfl, hs5⟩))
        all_goals
          rename_i hHeld
          exact NoPanic.normal ⟨rfl, rfl, hHeld.1⟩
      rintro W2 hs2
      have HB2 : Hid (Below w.heap.size w W2) := bt' HB.out hs2.out
      clear hs2 HSM HSA
      go_wp2
      go_roundw
      case rel => exact ⟨k + 1, HKM.out, by go_num, HB2.out⟩
      case measure => first | exact measW HKM.out hw0 | exact meas1 HKM.out
    · have hlt' : ¬ (k : Int) < (N : Int) := by omega
      go_wp2
      go_ret
      exact ⟨rfl, HB.out⟩
/-- What lies between two rounds of the document's Seals. -/
def CollSr (B : Nat) (w : World) (os : List Or) (k : Nat) (out : Value) (wr : World) : Prop := ∃ ss : List SlM, ss.map SlM.e = (os.take k).map slO ∧ wr.ownsRow w.heap.size 37 4 out k (flatS ss) ∧ (∀ x ∈ ss, OrLow B wr ⟨⟨0, x.e.tok, x.e.cart, x.e.ep, x.e.cut⟩, x.ao, x.cap⟩) ∧ Below w.heap.size w wr
theorem cells_newS (w : World) (x0 x1 x2 x3 : Value) : ∀ j u, [x0, x1, x2, x3][j]? = some u → (w.alloc (.cells #[x0, x1, x2, x3] 37)).drew.cell? ((⟨w.heap.size, 0, none⟩ : Addr).add j) = some u := by
  intro j u hu
  rw [Addr.add_lit, Nat.zero_add]
  exact (Blk.new w 37 [x0, x1, x2, x3]).cell hu
set_option maxRecDepth 1000000 in
set_option maxHeartbeats 4000000 in
theorem RfM.seals {B : Nat} {w : World} {p : Nat} {v : Value} {g : Sm} (h : RfM B w p v g) (hB : B ≤ w.heap.size) : Calls Try.prog 26 #[.pointer (some ⟨p, 0, none⟩)] w (SealsP w g.os) := by
  obtain ⟨ys, ao, cap, hv, _, hy1, hyh, hyl⟩ := h.rowAt
  have HH0 := hid h
  obtain ⟨N, HNN⟩ : ∃ N, Hid (g.os.length = N) := ⟨_, hid rfl⟩
  have HYL : Hid (ys.length = N) := by rw [← HNN.out, ← hy1]; show _ = _; simp
  have HFE : Hid (N ≤ 65536) := by rw [← HNN.out]; exact h.ok.few
  have HY1 := hid hy1
  have HH := hid hyh
  have HYW := hid hyl
  have HBB := hid hB
  have HBP := hid h.blk
  rw [hv, HNN.out] at HBP
  have HST : Hid (CollSr B w g.os 0 (.slice none 0 0) w) := ⟨[], rfl, ⟨rfl, .inl ⟨rfl, rfl⟩⟩, fun x hx => (by cases hx), Below.refl _ _⟩
  obtain ⟨iO, hi, hz0, hz1, hz2⟩ := info_parts Try.infoSl
  have hpw := HBP.out.cell (i := 0) rfl
  clear h hB hv hy1 hyh hyl
  go_enter Try.func26, Try.ntmps26
  go_wp2
  go_loopw [3, 4] (fun out i wr => ∃ k : Nat, k ≤ N ∧ i = .int .i64 k ∧ Hid (CollSr B w g.os k out wr)) (fun _ i _ => N - (intOf i).toNat)
  case atStart => exact ⟨0, Nat.zero_le _, rfl, HST.out⟩
  case round =>
    obtain ⟨k, hk, rfl, HR⟩ := hrel
    obtain ⟨ss, hs1, hs2, hs3, hs4⟩ := HR.out
    have HBR := hid (HBP.out.below hs4 HBP.out.lt)
    have hp0 := HBR.out.cell (i := 0) rfl
    by_cases hlt : k < N
    · have hlt' : (k : Int) < (N : Int) := by omega
      have hkx : Hid (k < ys.length) := (by rw [HYL.out]; exact hlt : k < ys.length)
      have HKG : Hid (k < g.os.length) := (by rw [HNN.out]; exact hlt : k < g.os.length)
      have HKM : Hid (k + 1 ≤ N) := (by omega : k + 1 ≤ N)
      have HHR := hid (HH.out.below hs4)
      obtain ⟨bb, off, hao, _⟩ := HH.out.at hkx.out
      subst hao
      have HOX : Hid (OrLow B wr (ys[k]'hkx.out)) := (HYW.out _ (List.getElem_mem hkx.out)).turned (F := fun _ => False) (fun _ h => h.elim) (Turns.of_below hs4 (Nat.le_refl _))
      have HGE : Hid (g.os[k]'HKG.out = (ys[k]'hkx.out).e) := by
        show _ = _
        have := HY1.out
        simp only [← this]
        simp
      obtain ⟨X, HX⟩ : ∃ X, Hid (ys[k]'hkx.out = X) := ⟨_, hid rfl⟩
      rw [HX.out] at HOX HGE
      have HS1 := hid hs1
      have HS2 := hid hs2
      have HS3 := hid hs3
      have HS4 := hid hs4
      obtain ⟨⟨xid, tk, ct, ep, dp⟩, ao1, cap1⟩ := X
      obtain ⟨XN, HXN⟩ : ∃ m, Hid (dp.length = m) := ⟨_, hid rfl⟩
      have HNR : Hid (u3.ownBlock ≠ some p ∧ ∀ b off', (some ⟨bb, off, none⟩ : Option Addr) = some ⟨b, off', none⟩ → u3.ownBlock ≠ some b) := by
        have hlo : ∀ b, u3.ownBlock = some b → w.heap.size ≤ b := fun b hb => (HS2.out.lt b hb).1
        refine ⟨fun e => by have h1 := hlo p e; have h2 := HBP.out.lt; omega, fun b off' e1 e => ?_⟩
        have h1 := hlo b e
        obtain ⟨b', o', he, hb, _⟩ := HH.out.at hkx.out
        rw [he] at e1
        cases e1
        omega
      have HSA : Hid (∀ V, Turns (fun i => u3.ownBlock = some i) wr V → (Turns (fun i => u3.ownBlock = some i) wr V ∧ V.cell? ⟨p, 0, none⟩ = some (.slice (some ⟨bb, off, none⟩) N cap) ∧ V.cell? ⟨bb, off + k * 5 + 1, none⟩ = some (.string tk) ∧ V.cell? ⟨bb, off + k * 5 + 2, none⟩ = some (.string ct) ∧ V.cell? ⟨bb, off + k * 5 + 3, none⟩ = some (.int .i64 ep) ∧ V.cell? ⟨bb, off + k * 5 + 4, none⟩ = some (.slice ao1 XN cap1))) := fun V hV => by
        have h1 := hV.blk HBR.out HNR.out.1
        obtain ⟨b', o', he, hb', f0, f1, f2, f3, f4⟩ := HHR.out.at hkx.out
        cases he
        rw [HX.out] at f0 f1 f2 f3 f4
        simp only at f0 f1 f2 f3 f4
        rw [HXN.out] at f4
        have hkeep : V.heap[bb]? = wr.heap[bb]? := hV.block bb hb' (HNR.out.2 bb off rfl)
        have hcell : ∀ i, V.cell? ⟨bb, i, none⟩ = wr.cell? ⟨bb, i, none⟩ := fun i => by unfold World.cell?; rw [hkeep]
        exact ⟨hV, h1.cell rfl, by rw [hcell]; exact f1, by rw [hcell]; exact f2, by rw [hcell]; exact f3, by rw [hcell]; exact f4⟩
      have HTR : Hid (Turns (fun i => u3.ownBlock = some i) wr wr) := Turns.refl _ _
      have hw0 : wrap64 ((k : Int) + 1) = (k : Int) + 1 := wrapJ (Nat.le_trans hk HFE.out)
      have HWS : Hid (w.heap.size ≤ wr.heap.size) := hs4.size
      clear hs1 hs2 hs3 hs4 hpw
      go_wp2
      clear hp0
      go_region_held3 (fun V => Turns (fun i => u3.ownBlock = some i) wr V ∧ V.cell? ⟨p, 0, none⟩ = some (.slice (some ⟨bb, off, none⟩) N cap) ∧ V.cell? ⟨bb, off + k * 5 + 1, none⟩ = some (.string tk) ∧ V.cell? ⟨bb, off + k * 5 + 2, none⟩ = some (.string ct) ∧ V.cell? ⟨bb, off + k * 5 + 3, none⟩ = some (.int .i64 ep) ∧ V.cell? ⟨bb, off + k * 5 + 4, none⟩ = some (.slice ao1 XN cap1))
        ((refine HSA.out _ ?_; (repeat (first | with_reducible assumption | exact HTR.out | apply Turns.drew | apply Turns.alloc))))
        (first
          | (refine step_append_lies _ (by rfl) _ _ 50 (by rfl) w.heap.size 37 iO (.agg #[.string ⟨#[]⟩, .string ⟨#[]⟩, .int .i64 0, .slice none 0 0]) 4 64 Try.underlying50 hi hz0 hz1 hz2 rfl (by decide) u3 k (flatS ss) (by rfl) (by exact (HS2.out.alloc _).drew) ⟨wr.heap.size, 0, none⟩ 1 1 [.string tk, .string ct, .int .i64 ep, .slice ao1 XN cap1] (by rfl) rfl (by exact cells_newS _ _ _ _ _) (fun u hu => by simp at hu; rcases hu with rfl | rfl | rfl | rfl <;> rfl) (by decide) (by have := HFE.out; unfold maxLen; omega) (by have := HFE.out; omega) (by have := HWS.out; simp; omega) (wr.heap.size + 1) (by simp) ?_; intro g3 cap3 w3 hown3 hgrow3 hat3 hlt3; have hT3 : Turns (fun i => u3.ownBlock = some i) wr w3 := (((HTR.out.alloc _).drew).grown hgrow3 (fun k hk => .inl hk)); have HO3 := hid hown3; clear hown3 hgrow3 hat3 hlt3))
      have HC3 : Hid (CollSr B w g.os (k + 1) (.slice (some ⟨g3, 0, none⟩) (k + 1) cap3) w3) := by
        have hF : ∀ i, u3.ownBlock = some i → B ≤ i := fun i hi => Nat.le_trans HBB.out (HS2.out.lt i hi).1
        refine ⟨ss ++ [⟨⟨tk, ct, ep, dp⟩, ao1, cap1⟩], ?_, ?_, fun y hy => ?_, HS4.out.trans (hT3.below (fun i hi => (HS2.out.lt i hi).1) HS4.out.size)⟩
        · rw [or_take HKG.out, List.map_append, List.map_append, HS1.out, HGE.out]
          rfl
        · rw [flatS_snoc]
          simp only [SlM.cells]
          rw [HXN.out]
          exact HO3.out
        · rcases List.mem_append.1 hy with h1 | h1
          · exact (HS3.out y h1).turned hF hT3
          · simp at h1
            subst h1
            exact (OrLow.mk (x := ⟨⟨0, tk, ct, ep, dp⟩, ao1, cap1⟩) ⟨HOX.out.ok.cut, i64_zeroS, HOX.out.ok.ie, HOX.out.ok.ht, HOX.out.ok.hc⟩ HOX.out.low).turned hF hT3
      clear hT3
      go_wp2
      go_roundw
      case rel => exact ⟨k + 1, HKM.out, by go_num, HC3.out⟩
      case measure => first | exact measW HKM.out hw0 | exact meas1 HKM.out
    · have hlt' : ¬ (k : Int) < (N : Int) := by omega
      have HE : Hid (SealsP w g.os (.returned u3) wr) := by
        have hk' : k = g.os.length := by rw [HNN.out]; omega
        subst hk'
        rw [List.take_length] at hs1
        have hl : ss.length = g.os.length := by have h1 := congrArg List.length hs1; simpa using h1
        obtain ⟨eo, cp, hv, _, hh⟩ := heldSl_of_own hl hs2 (fun x hx => ⟨(hs3 x hx).ok.cut, (hs3 x hx).ok.ie, (hs3 x hx).ok.ht, (hs3 x hx).ok.hc⟩)
        subst hv
        exact ⟨eo, cp, ss, rfl, hs1, hh, hs4⟩
      clear hs1 hs2 hs3 hs4 hpw
      go_wp2
      go_ret
      exact HE.out
end Go.Proofs.Ytfokmldfnkonpaa
