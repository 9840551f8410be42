/-
  pannierlaw19.SealAgain answers true for whatever entries.
-/
import Derived.Test.YtfokmldfnkonpaaSmI
import Derived.Deep.QuietTactic
import Derived.BigQuiet
namespace Go.Proofs.Ytfokmldfnkonpaa
open Go.RowKit Go.Maps

/-- Between two rounds of the first loop: the machine, and what was told, in a row of its own. -/
def Ag1 (W : World) (p mi me : Nat) (zs : List EnM) (k : Nat) (u : Value) (wr : World) : Prop := ∃ v ts, SmAt W.heap.size wr p mi me v (runS (ensTo zs k)) ∧ ts.length = k ∧ wr.ownsRow W.heap.size 32 5 u k (flatO ts) ∧ (∀ j (hj : j < ts.length), ts[j].e.id = toldId zs j) ∧ (∀ b, u.ownBlock = some b → OffM p mi me v b) ∧ Below W.heap.size W wr
/-- Between two rounds of the second loop. -/
def Ag2 (W : World) (p mi me : Nat) (zs : List EnM) (n N : Nat) (k : Nat) (u t : Value) (ts ys : List OrM) (wr : World) : Prop := ∃ v h, SmAt W.heap.size wr p mi me v h ∧ (runS (ensTo zs zs.length)).os <+: h.os ∧ h.dn ≤ n + k ∧ wr.ownsRow W.heap.size 32 5 u n (flatO ts) ∧ wr.ownsRow W.heap.size 32 5 t N (flatO ys) ∧ AllO wr ys ∧ (∀ b, u.ownBlock = some b → OffM p mi me v b) ∧ (∀ b, t.ownBlock = some b → OffM p mi me v b) ∧ Below W.heap.size W wr
theorem ag_dn {d n k : Nat} (h : d ≤ n + k) (hk : k < n) (hn : n ≤ 1954687338268) : d ≤ 4611686018427387904 := by omega
theorem ag_app {n : Nat} {k : Nat} (hk : k < n) (hn : n ≤ 1954687338268) : k < 1954687338268 := by omega
theorem off_row {w w' : World} {p mi me : Nat} {v v' u : Value} {B e sz k : Nat} {xs : List Value} (hr : w.ownsRow B e sz u k xs) (ho : ∀ b, u.ownBlock = some b → OffM p mi me v b) (hv : v'.ownBlock = v.ownBlock ∨ ∃ k, v'.ownBlock = some k ∧ w.heap.size ≤ k) (ht : Turns (FootM p mi me v) w w') : w'.ownsRow B e sz u k xs ∧ ∀ b, u.ownBlock = some b → OffM p mi me v' b :=
  ⟨ht.row hr (fun g hg => ho g hg), fun b hb => (ho b hb).step (ownsRow_lt hr hb) hv⟩
theorem row_below {w w' : World} {u : Value} {B e sz k : Nat} {xs : List Value} (hr : w.ownsRow B e sz u k xs) (hb : Below w.heap.size w w') : w'.ownsRow B e sz u k xs := (Turns.of_below (F := fun _ => False) hb (Nat.le_refl _)).row hr (fun _ _ h => h)
/-- A round of the first loop, behind its append. -/
theorem ag1_step {W wr w3 W4 w6 : World} {p mi me k : Nat} {zs : List EnM} {u u' v v' : Value} {ts : List OrM} {x : OrM} {o4 o5 : Obj} (hk : k < zs.length) (hr : wr.ownsRow W.heap.size 32 5 u k (flatO ts)) (hl : ts.length = k) (hi : ∀ j (hj : j < ts.length), ts[j].e.id = toldId zs j) (ho : ∀ b, u.ownBlock = some b → OffM p mi me v b)
    (hs : SmAt W.heap.size w3 p mi me v' (doS (runS (ensTo zs k)) (zs.getD k default).e)) (ht : Turns (FootM p mi me v) wr w3) (hv : v'.ownBlock = v.ownBlock ∨ ∃ k, v'.ownBlock = some k ∧ wr.heap.size ≤ k) (hx : x.e.id = toldId zs k) (hW4 : W4 = w3.alloc o4)
    (hown : w6.ownsRow W.heap.size 32 5 u' (k + 1) (flatO (ts ++ [x]))) (hg : (W4.alloc o5).grownBy w6 u.ownBlock) (hb : Below W.heap.size W w6) (hu : u'.ownBlock = u.ownBlock ∨ u'.ownBlock = some (W4.alloc o5).heap.size) : Ag1 W p mi me zs (k + 1) u' w6 := by
  obtain ⟨hr3, ho3⟩ := off_row hr ho hv ht
  have ht6 : Turns (fun i => u.ownBlock = some i) w3 w6 := by
    subst hW4
    exact (((Turns.refl (fun i => u.ownBlock = some i) w3).alloc o4).alloc o5).grown hg (fun k hk => .inl hk)
  have hs6 : SmAt W.heap.size w6 p mi me v' (doS (runS (ensTo zs k)) (zs.getD k default).e) := hs.turned ht6 (fun i hi hu => ho3 i hu hi) (noN_row hr3 (by decide))
  refine ⟨v', ts ++ [x], ?_, by simp [hl], hown, fun j hj => ?_, fun b hb => ?_, hb⟩
  · rw [ensTo_snoc hk, runS_snoc]
    exact hs6
  · by_cases e : j < ts.length
    · rw [List.getElem_append_left e]
      exact hi j e
    · have hjk : j = k := by simp at hj; omega
      subst hjk
      rw [List.getElem_append_right (by omega)]
      simp only [hl, Nat.sub_self, List.getElem_cons_zero]
      exact hx
  · rcases hu with e | e
    · exact ho3 b (by rw [← e]; exact hb)
    · rw [e] at hb
      cases hb
      refine hs.off ?_
      subst hW4
      simp
      omega
/-- A round of the second loop. -/
theorem ag2_step {W wr w3 w4 w5 : World} {p mi me n N k : Nat} {zs : List EnM} {u t v v' : Value} {ts ys : List OrM} {h : Sm} {x : En} (hp : (runS (ensTo zs zs.length)).os <+: h.os) (hd : h.dn ≤ n + k) (hr : wr.ownsRow W.heap.size 32 5 u n (flatO ts)) (hq : wr.ownsRow W.heap.size 32 5 t N (flatO ys)) (ha : AllO wr ys) (ho : ∀ b, u.ownBlock = some b → OffM p mi me v b) (ho' : ∀ b, t.ownBlock = some b → OffM p mi me v b)
    (hb3 : Below wr.heap.size wr w3) (hs3 : SmAt W.heap.size w3 p mi me v h) (hs : SmAt W.heap.size w4 p mi me v' (doS h x)) (ht : Turns (FootM p mi me v) w3 w4) (hv : v'.ownBlock = v.ownBlock ∨ ∃ k, v'.ownBlock = some k ∧ w3.heap.size ≤ k) (hb : Below W.heap.size W w4) (hb5 : Below w4.heap.size w4 w5) : Ag2 W p mi me zs n N (k + 1) u t ts ys w5 := by
  obtain ⟨hr4, ho4⟩ := off_row (row_below hr hb3) ho hv ht
  obtain ⟨hq4, ho4'⟩ := off_row (row_below hq hb3) ho' hv ht
  refine ⟨v', doS h x, hs.below hb5, hp.trans (doS_pre _ _), ?_, row_below hr4 hb5, row_below hq4 hb5, ((ha.below hb3).turned hs3.noN ht).below hb5, ho4, ho4', bt' hb hb5⟩
  have := doS_dn (g := h) x
  omega
set_option maxRecDepth 1000000 in
set_option maxHeartbeats 4000000 in
theorem sealAgain_walk (ao : Option Addr) (cap : Nat) (zs : List EnM) (w : World) (hz : HeldEn w ao zs) (hl : zs.length ≤ 1954687338268) :
    Calls Try.prog 5 #[.slice ao zs.length cap] w fun e w' => e = .returned (.bool true) ∧ Below w.heap.size w w' := by
  have HZ := hid hz
  obtain ⟨n, HN⟩ : ∃ n, Hid (zs.length = n) := ⟨_, hid rfl⟩
  rw [HN.out] at hl ⊢
  have HL := hid hl
  have HNEW := hid (newSm w)
  clear hz hl
  go_enter Try.func5, Try.ntmps5
  go_wp2_with fail
  refine HNEW.out.mono ?_
  rintro e w1 ⟨p, mi, me, rfl, hat, hb1⟩
  have HLV := hid (livesSm w1)
  have HS1 := hid hat
  have HB1 := hid hb1
  clear hat hb1 HNEW
  go_wp2_with fail
  refine HLV.out.mono ?_
  rintro e w2 ⟨rfl, hb2⟩
  have HC1 : Hid (Ag1 w p mi me zs 0 (.slice none 0 0) w2) := ⟨_, [], HS1.out.below hb2, rfl, ⟨rfl, .inl ⟨rfl, rfl⟩⟩, fun j hj => (by cases hj), fun b hb => (by simp [Value.ownBlock] at hb), bt' HB1.out hb2⟩
  clear hb2 HLV
  go_wp2
  go_loopw [4, 5, 6, 7, 8] (fun u i _ _ _ wr => ∃ k : Nat, k ≤ n ∧ i = .int .i64 k ∧ Hid (Ag1 w p mi me zs k u wr)) (fun _ i _ _ _ _ => n - (intOf i).toNat)
  case atStart => exact ⟨0, Nat.zero_le _, rfl, HC1.out⟩
  case round =>
    obtain ⟨k, hk, rfl, HR⟩ := hrel
    obtain ⟨v, ts, hs, htl, hrow, hti, hoff, hb⟩ := HR.out
    have HS := hid hs
    have HB := hid hb
    have HTL := hid htl
    have HRW := hid hrow
    have HTI := hid hti
    have HOF := hid hoff
    clear hs hb htl hrow hti hoff HR
    by_cases hlt : k < n
    · have hlt' : (k : Int) < (n : Int) := by omega
      have hkx : Hid (k < zs.length) := (by rw [HN.out]; exact hlt : k < zs.length)
      have HKM : Hid (k + 1 ≤ n) := (by omega : k + 1 ≤ n)
      have HOK := hid (HZ.out.okD hkx.out)
      obtain ⟨bb, off, hao, hbb, d0, d1, d2, d3, d4⟩ := (HZ.out.below HB.out).cellsD hkx.out
      subst hao
      have HDN : Hid ((runS (ensTo zs k)).dn ≤ 4611686018427387904) := dn_fits (Nat.le_of_lt hkx.out) HN.out HL.out
      have hw0 := wrapK hlt HL.out
      have hmn := ag_app hlt HL.out
      have HDO := hid (HS.out.doW HB.out HDN.out (zs.getD k default) HOK.out)
      obtain ⟨X, hX⟩ : ∃ X, X = zs.getD k default := ⟨_, rfl⟩
      have HXD := hid hX
      rw [← hX] at d0 d1 d2 d3 d4 HDO
      clear hX hbb
      obtain ⟨⟨np, tk, ct, ep, dp⟩, ao1, cap1⟩ := X
      simp only at d0 d1 d2 d3 d4
      obtain ⟨XN, HXN⟩ : ∃ m, Hid (dp.length = m) := ⟨_, hid rfl⟩
      simp only [EnM.val] at HDO
      rw [HXN.out] at d4 HDO
      go_wp2_with fail
      refine HDO.out.mono ?_
      rintro e w3 ⟨oid, tok, cart, oep, bo, on, cp, v3, rfl, e0, e1, e2, e3, e4, _, _, hs3, ht3, hv3, hb3⟩
      have HIO : Hid (oid = toldId zs k) := by unfold toldId; rw [← HXD.out]; exact e0
      have HON := hid e4
      have HS3 : Hid (SmAt w.heap.size w3 p mi me v3 (doS (runS (ensTo zs k)) (zs.getD k default).e)) := by rw [← HXD.out]; exact hs3
      have HT3 := hid ht3
      have HV3 := hid hv3
      have HB3 := hid hb3
      clear e0 e1 e2 e3 e4 hs3 ht3 hv3 hb3 d0 d1 d2 d3 d4
      obtain ⟨cs, hcs⟩ : ∃ cs : List Int, cs.length = on := ⟨_, HON.out.symm⟩
      have HCS := hid hcs
      clear hcs
      obtain ⟨W4, hW4⟩ : ∃ V, V = w3.alloc (.cells #[.int .i64 oid, .string tok, .string cart, .int .i64 oep, .slice bo on cp] 32) := ⟨_, rfl⟩
      have hb34 : Below w3.heap.size w3 W4 := by rw [hW4]; exact (Below.refl _ _).alloc (Nat.le_refl _) _
      have HB4 := hid (bt' HB3.out hb34)
      have HRW4 : Hid (W4.ownsRow w.heap.size 32 5 u4 k (flatO ts)) := row_below (off_row HRW.out HOF.out HV3.out HT3.out).1 hb34
      have HW4 := hid hW4
      clear hW4 hb34
      go_wp2_with (at_builtin; refine wpList_append_or W4 _ ⟨⟨oid, tok, cart, oep, cs⟩, bo, cp⟩ ?_ rfl _ _ rfl w.heap.size _ ts _ HTL.out rfl _ rfl (by rw [HW4.out]; simp) HRW4.out HB4.out.size hmn ?_; (show _ = _; simp only [OrM.cells]; rw [HCS.out, HW4.out]); intro u6 w6 hown hbel hgr hou; have HC6 : Hid (Ag1 w p mi me zs (k + 1) u6 w6) := (by exact ag1_step (x := ⟨⟨oid, tok, cart, oep, cs⟩, bo, cp⟩) hkx.out HRW.out HTL.out HTI.out HOF.out HS3.out HT3.out HV3.out HIO.out rfl hown hgr (HB4.out.trans hbel) hou); clear hown hbel hgr hou)
      go_wp2
      go_roundw
      case rel => exact ⟨k + 1, HKM.out, by go_num, HC6.out⟩
      case measure => first | exact measW HKM.out hw0 | exact meas1 HKM.out
    · have hlt' : ¬ (k : Int) < (n : Int) := by omega
      have HKN : Hid (k = zs.length) := by rw [HN.out]; show _ = _; omega
      have HKn : Hid (k = n) := (by omega : k = n)
      rw [HKN.out] at HS
      rw [HKn.out] at HRW HTL
      obtain ⟨tao, tcap, htu⟩ := own_slice' HRW.out
      subst htu
      have HOKG := hid HS.out.ok
      obtain ⟨N, HNN⟩ : ∃ N, Hid ((runS (ensTo zs zs.length)).os.length = N) := ⟨_, hid rfl⟩
      have HFE : Hid (N ≤ 65536) := by rw [← HNN.out]; exact HOKG.out.few
      have HOR := hid HS.out.orders
      unfold OrdersP at HOR
      rw [HNN.out] at HOR
      have HDG := hid (runS_le (zs := zs) (Nat.le_refl _))
      have HWS : Hid (w.heap.size ≤ wr.heap.size) := HB.out.size
      go_wp2_with fail
      refine HOR.out.mono ?_
      rintro e w3 ⟨ro, rcap, ys, rfl, hy1, hy2, hy3, hb3⟩
      have HY1 := hid hy1
      have HST0 : Hid (Ag2 w p mi me zs n N 0 (.slice tao n tcap) (.slice ro N rcap) ts ys w3) := by
        refine ⟨v, runS (ensTo zs zs.length), HS.out.below hb3, List.prefix_refl _, ?_, row_below HRW.out hb3, ownsRow_base hy2 HWS.out, hy3, HOF.out, fun b hb => HS.out.off (hy2.lt b hb).1, bt' HB.out hb3⟩
        rw [← HN.out]
        exact HDG.out
      have HYL : Hid (ys.length = N) := by rw [← HNN.out, ← hy1]; show _ = _; simp
      clear hy1 hy2 hy3 hb3 HOR
      go_wp2
      go_loopw [10, 11, 12, 13, 14, 15] (fun i _ _ _ _ _ wr => ∃ j : Nat, j ≤ n ∧ i = .int .i64 j ∧ Hid (Ag2 w p mi me zs n N j (.slice tao n tcap) (.slice ro N rcap) ts ys wr)) (fun i _ _ _ _ _ _ => n - (intOf i).toNat)
      case atStart => exact ⟨0, Nat.zero_le _, rfl, HST0.out⟩
      case round =>
        obtain ⟨j, hj, rfl, HR⟩ := hrel
        obtain ⟨v2, h, hs, hpre, hdn, hrow, hrw2, hall, hof, hof2, hb⟩ := HR.out
        have HS := hid hs
        have HPRE := hid hpre
        have HDN := hid hdn
        have HRW := hid hrow
        have HRW2 := hid hrw2
        have HALL := hid hall
        have HOF := hid hof
        have HOF2 := hid hof2
        have HB := hid hb
        clear hs hpre hdn hrow hrw2 hall hof hof2 hb HR
        by_cases hjl : j < n
        · have hjl' : (j : Int) < (n : Int) := by omega
          have hjx : Hid (j < zs.length) := (by rw [HN.out]; exact hjl : j < zs.length)
          have HJM : Hid (j + 1 ≤ n) := (by omega : j + 1 ≤ n)
          have HOK := hid (HZ.out.okD hjx.out)
          obtain ⟨bb, off, hao, hbb, d0, d1, d2, d3, d4⟩ := (HZ.out.below HB.out).cellsD hjx.out
          subst hao
          have hw0 := wrapK hjl HL.out
          have HDF : Hid (h.dn ≤ 4611686018427387904) := ag_dn HDN.out hjl HL.out
          have HAS : Hid (toldId zs j ≠ 0 → (doR h (zs.getD j default).e).id = toldId zs j) := fun hne => by
            obtain ⟨o, _, _, h3, h4⟩ := again_some hjx.out HPRE.out hne
            rw [h3]
            exact h4
          have HAN : Hid (findO (zs.getD j default).e.tok h.os = none → toldId zs j = 0) := fun hf => again_none hjx.out HPRE.out hf
          have HNNG : Hid (0 ≤ toldId zs j) := doR_nonneg (runS_ok _) _
          obtain ⟨X, hX⟩ : ∃ X, X = zs.getD j default := ⟨_, rfl⟩
          have HXD := hid hX
          rw [← hX] at d0 d1 d2 d3 d4 HOK HAS HAN
          clear hX hbb
          obtain ⟨⟨np, tk, ct, ep, dp⟩, ao1, cap1⟩ := X
          simp only at d0 d1 d2 d3 d4 HAS HAN
          obtain ⟨XN, HXN⟩ : ∃ m, Hid (dp.length = m) := ⟨_, hid rfl⟩
          rw [HXN.out] at d4
          obtain ⟨F, HF⟩ : ∃ F, Hid (findO tk h.os = F) := ⟨_, hid rfl⟩
          have HTK := hid (HS.out.token tk HOK.out.ht)
          rw [HF.out] at HTK HAN
          go_wp2_with fail
          refine HTK.out.mono ?_
          rintro e w3' ⟨bo3, cp3, rfl, _, _, hb3⟩
          obtain ⟨Y, HY⟩ : ∃ Y, Hid (F.getD zeroOr = Y) := ⟨_, hid rfl⟩
          obtain ⟨q, HQ⟩ : ∃ q, Hid (F.isSome = q) := ⟨_, hid rfl⟩
          rw [HY.out, HQ.out]
          obtain ⟨yid, ytk, yct, yep, ydp⟩ := Y
          obtain ⟨YN, HYN⟩ : ∃ m, Hid (ydp.length = m) := ⟨_, hid rfl⟩
          simp only [OrM.val]
          rw [HYN.out]
          obtain ⟨W4, hW4⟩ : ∃ V, V = w3'.alloc (.cells #[.int .i64 yid, .string ytk, .string yct, .int .i64 yep, .slice bo3 YN cp3] 32) := ⟨_, rfl⟩
          have HB34 : Hid (Below wr.heap.size wr W4) := by rw [hW4]; exact hb3.alloc hb3.size _
          have HS4 := hid (HS.out.below HB34.out)
          have HB4 := hid (bt' HB.out HB34.out)
          have HW4 := hid hW4
          have HDO := hid (HS4.out.doW HB4.out HDF.out ⟨⟨np, tk, ct, ep, dp⟩, ao1, cap1⟩ HOK.out)
          simp only [EnM.val] at HDO
          rw [HXN.out] at HDO
          obtain ⟨bb', off', he', _, f0, f1, f2, f3, f4⟩ := (HZ.out.below HB4.out).cellsD hjx.out
          cases he'
          rw [← HXD.out] at f0 f1 f2 f3 f4
          simp only at f0 f1 f2 f3 f4
          rw [HXN.out] at f4
          rw [hW4] at f0 f1 f2 f3 f4
          clear hW4 hb3 d0 d1 d2 d3 d4 HTK
          go_wp2_with fail
          rw [← HW4.out]
          refine HDO.out.mono ?_
          rintro e w5 ⟨oid, tok, cart, oep, bo, on, cp, v5, rfl, e0, e1, e2, e3, e4, _, _, hs5, ht5, hv5, hb5⟩
          obtain ⟨W6, hW6⟩ : ∃ V, V = w5.alloc (.cells #[.int .i64 oid, .string tok, .string cart, .int .i64 oep, .slice bo on cp] 32) := ⟨_, rfl⟩
          have hb56 : Below w5.heap.size w5 W6 := by rw [hW6]; exact (Below.refl _ _).alloc (Nat.le_refl _) _
          have HST : Hid (∀ V, Below W6.heap.size W6 V → Ag2 w p mi me zs n N (j + 1) (.slice tao n tcap) (.slice ro N rcap) ts ys V) := fun V hV => ag2_step HPRE.out HDN.out HRW.out HRW2.out HALL.out HOF.out HOF2.out HB34.out HS4.out hs5 ht5 hv5 hb5 (bt' hb56 hV)
          obtain ⟨v6, h6, _, _, _, hr6, _⟩ := HST.out W6 (Below.refl _ _)
          obtain ⟨tao', tcap', hte, _, hth⟩ := heldOr_of_own HTL.out hr6
          cases hte
          have hjt : Hid (j < ts.length) := (by rw [HTL.out]; exact hjl : j < ts.length)
          obtain ⟨tb, toff, hto, _, c0, _, _, _, _⟩ := hth.at hjt.out
          subst hto
          rw [HTI.out j hjt.out] at c0
          have HK6 : Hid (Blk W6 w5.heap.size 32 [.int .i64 oid, .string tok, .string cart, .int .i64 oep, .slice bo on cp]) := by rw [hW6]; exact Blk.new _ _ _
          obtain ⟨qb, hqb⟩ : ∃ q, q = w5.heap.size := ⟨_, rfl⟩
          rw [← hqb] at HK6
          have k0 := HK6.out.cell (i := 0) rfl
          have HW6 := hid hW6
          have HQB := hid hqb
          obtain ⟨T, HT⟩ : ∃ T, Hid (toldId zs j = T) := ⟨_, hid rfl⟩
          rw [HT.out] at c0 HAS HAN HNNG
          have HO := hid e0
          clear e0 e1 e2 e3 e4 hs5 ht5 hv5 hb5 hb56 hr6 hth hW6 hqb f0 f1 f2 f3 f4 HDO
          go_wp2
          rw [← HW6.out, ← HQB.out]
          cases F with
          | some o =>
            have h5 : wayO h ⟨np, tk, ct, ep, dp⟩ ≠ 5 := way_some HF.out
            rw [decide_eq_false h5]
            have hq : q = true := HQ.out.symm
            subst hq
            clear h5
            by_cases hT : T = 0
            · subst hT
              have hd0 : decide ((0 : Int) < 0) = false := by decide
              go_wp2
              go_quiet (fail)
              all_goals
                have HD6 : Hid (Below W6.heap.size W6 (W6.drewN nq)) := below_dn (Below.refl _ _) nq
                have HAG := hid (HST.out _ HD6.out)
                have c0d : (W6.drewN nq).cell? ⟨tb, toff + j * 5, none⟩ = some (.int .i64 0) := c0
                clear HD6
                go_wp2
                go_roundw
                case rel => exact ⟨j + 1, HJM.out, by go_num, HAG.out⟩
                case measure => first | exact measW HJM.out hw0 | exact meas1 HJM.out
            · have hoT : oid = T := by rw [HO.out]; exact HAS.out hT
              subst hoT
              have hd0 : decide ((0 : Int) < oid) = true := decide_eq_true (by have := HNNG.out; omega)
              have hdn : (oid != oid) = false := by simp
              clear hT
              go_wp2
              go_quiet (fail)
              all_goals
                have HD6 : Hid (Below W6.heap.size W6 (W6.drewN nq)) := below_dn (Below.refl _ _) nq
                have HAG := hid (HST.out _ HD6.out)
                have c0d : (W6.drewN nq).cell? ⟨tb, toff + j * 5, none⟩ = some (.int .i64 oid) := c0
                clear HD6
                go_wp2
                go_roundw
                case rel => exact ⟨j + 1, HJM.out, by go_num, HAG.out⟩
                case measure => first | exact measW HJM.out hw0 | exact meas1 HJM.out
          | none =>
            have hT : T = 0 := HAN.out rfl
            subst hT
            have hq : q = false := HQ.out.symm
            subst hq
            by_cases h5 : wayO h ⟨np, tk, ct, ep, dp⟩ = 5
            · rw [h5]
              simp only [decide_true, codeO]
              clear h5
              go_wp2
              go_quiet (fail)
              all_goals
                have HD6 : Hid (Below W6.heap.size W6 (W6.drewN nq)) := below_dn (Below.refl _ _) nq
                have HAG := hid (HST.out _ HD6.out)
                have c0d : (W6.drewN nq).cell? ⟨tb, toff + j * 5, none⟩ = some (.int .i64 0) := c0
                clear HD6
                go_wp2
                go_roundw
                case rel => exact ⟨j + 1, HJM.out, by go_num, HAG.out⟩
                case measure => first | exact measW HJM.out hw0 | exact meas1 HJM.out
            · rw [decide_eq_false h5]
              clear h5
              go_wp2
              go_quiet (fail)
              all_goals
                have HD6 : Hid (Below W6.heap.size W6 (W6.drewN nq)) := below_dn (Below.refl _ _) nq
                have HAG := hid (HST.out _ HD6.out)
                have c0d : (W6.drewN nq).cell? ⟨tb, toff + j * 5, none⟩ = some (.int .i64 0) := c0
                clear HD6
                go_wp2
                go_roundw
                case rel => exact ⟨j + 1, HJM.out, by go_num, HAG.out⟩
                case measure => first | exact measW HJM.out hw0 | exact meas1 HJM.out
        · have hjl' : ¬ (j : Int) < (n : Int) := by omega
          have HOKH := hid HS.out.ok
          obtain ⟨M, HM⟩ : ∃ M, Hid (h.os.length = M) := ⟨_, hid rfl⟩
          have HNM : Hid (N ≤ M) := by rw [← HNN.out, ← HM.out]; exact HPRE.out.length_le
          have HOR := hid HS.out.orders
          unfold OrdersP at HOR
          rw [HM.out] at HOR
          go_wp2_with fail
          refine HOR.out.mono ?_
          rintro e w4 ⟨ro4, rcap4, xs, rfl, hx1, hx2, hx3, hb4⟩
          have HXL : Hid (xs.length = M) := by rw [← HM.out, ← hx1]; show _ = _; simp
          obtain ⟨ro', rcap', hre, hrc, hxh⟩ := heldOr_of_own HXL.out hx2
          cases hre
          obtain ⟨rb', rbcap', hre, _, hyh⟩ := heldOr_of_own HYL.out (row_below HRW2.out hb4)
          cases hre
          have HXT : Hid ((xs.take N).map OrM.e = ys.map OrM.e) := by
            show _ = _
            rw [List.map_take, hx1, HY1.out]
            obtain ⟨r, hr⟩ := HPRE.out
            rw [← hr, ← HNN.out, List.take_left]
          have HXH : Hid (HeldOr w4 ro4 (xs.take N)) := by
            rcases hxh with h0 | ⟨b, off, h1, h2, h3⟩
            · exact .inl (by rw [h0]; simp)
            · exact .inr ⟨b, off, h1, h2, fun a ha c u hu => h3 a (by simp at ha; omega) c u (by simpa using hu)⟩
          have HSO := hid (sameOrders_any w4 ro4 ro rcap4 rcap N (xs.take N) ys (by rw [List.length_take, HXL.out]; exact Nat.min_eq_left HNM.out) HXT.out HXH.out hyh (fun x hx => hx3 x (List.mem_of_mem_take hx)) (HALL.out.below hb4) HFE.out)
          have HB4 := hid (bt' HB.out hb4)
          have hge : (N : Int) ≤ (M : Int) := by have := HNM.out; omega
          have hc1 : (0 : Int) ≤ (N : Int) := by omega
          have hc2 : (N : Int) ≤ (rcap4 : Int) := by omega
          clear hx1 hx2 hx3 hb4 hrc hxh hyh
          go_wp2_with fail
          refine HSO.out.mono ?_
          rintro e w5 ⟨rfl, hb5⟩
          have HB5 := hid (bt' HB4.out hb5)
          clear hb5
          go_wp2
          go_ret
          exact ⟨rfl, HB5.out⟩
end Go.Proofs.Ytfokmldfnkonpaa
