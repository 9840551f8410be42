/-
  OplogDoes: the walk.
-/
import Derived.Test.YtjlompnjhmbhhaaGreatDotOpen
namespace Go.Proofs.YtjlompnjhmbhhaaGreat
open Go.RowKit Go.Shelf Go.Maps
set_option linter.unusedSimpArgs false

/-- The log behind a slot, with the document's. -/
def DuS (w0 : World) (x : Nat) (p : Nat) (V : World) : Prop := ∃ me mw g gm, DuL w0 V p me mw x g gm
theorem wrap_kO {k n : Nat} (h : k + 1 ≤ n) (hn : n ≤ 1466015503701) : wrap64 ((k : Int) + 1) = (k : Int) + 1 := wrapN (by omega) (by omega)
theorem wrap_jO {k n : Nat} (h : k + 1 ≤ n) (hn : n ≤ 17592186044416) : wrap64 ((k : Int) + 1) = (k : Int) + 1 := wrapN (by omega) (by omega)
theorem int_leO {k n : Nat} (h : k < n) : (k : Int) < (n : Int) := by omega
theorem row_intO {w : World} {B n : Nat} {bo : Option Addr} {c : Nat} {xs : List Value} (h : w.ownsRow B 3 1 (.slice bo n c) n xs) : (n = 0 ∧ bo = none) ∨ ∃ b cs, bo = some ⟨b, 0, none⟩ ∧ Blk w b 3 cs ∧ n ≤ cs.length ∧ B ≤ b := by
  rcases h.2 with ⟨he, h0⟩ | ⟨g, cap, cur, he, hB, hh, h1, _, h2, _⟩
  · injection he with e1 _ _
    exact .inl ⟨h0, e1⟩
  · injection he with e1 _ e3
    subst e3
    refine .inr ⟨g, cur.toList, e1, hh, ?_, hB⟩
    simp only [Array.length_toList]
    omega
theorem wpList_append_copyQ {ops : Array Oper} {rest : List Oper} {o : Oper} {a : Act} {Q : Exit → Act → World → Prop} (W : World) (q : Nat) (hq : W.heap.size = q) (hgd : o.guard = none) (s x : Operand)
    (ho : o.op = .call { callee := .builtin .append, args := #[s, x], argTypes := #[23, 23] })
    (hs : a.eval s = .slice (some ⟨q, 0, none⟩) 0 0) (ao : Option Addr) (c : Nat) (xs : List Int) (n : Nat) (hn : xs.length = n) (hx : a.eval x = .slice ao n c) (hh : HeldInt W ao xs) (hl : xs.length ≤ 17592186044416)
    (h : ∀ bo cp w', w'.ownsRow W.heap.size 3 1 (.slice bo n cp) n (ints xs) → HV w' bo cp xs → Below W.heap.size W w' → wpList Tryz.prog ops Q rest (a.put o.dst (.slice bo n cp)) w') :
    wpList Tryz.prog ops Q (o :: rest) a (W.alloc (.cells #[] 3)) := by
  subst hq
  exact wpList_append_copy W hgd s x ho hs ao c xs n hn hx hh hl h
set_option maxRecDepth 1000000 in
set_option maxHeartbeats 8000000 in
theorem oplogDoes_walk (lo : Option Addr) (lc : Nat) (l : List EvM) (vo : Option Addr) (vc : Nat) (v : List Int) (most : Int) (o s : Int) (w : World) (hl : HeldE w lo l) (hll : l.length ≤ 1466015503701) (hv : HV w vo vc v) (_hm : -9223372036854775808 ≤ most ∧ most ≤ 9223372036854775807) (ho : In64 o) (hs : In64 s) :
    Calls Tryz.prog 3 #[.slice lo l.length lc, .slice vo v.length vc, .int .i64 most, .agg #[.int .i64 o, .int .i64 s]] w fun e w' => e = .returned (.bool true) ∧ Below w.heap.size w w' := by
  obtain ⟨n, HN⟩ : ∃ n, Hid (l.length = n) := ⟨_, hid rfl⟩
  obtain ⟨k0, HK0⟩ : ∃ n, Hid (v.length = n) := ⟨_, hid rfl⟩
  rw [HN.out] at hll ⊢
  rw [HK0.out]
  have HL := hid hl
  have HV0 := hid hv
  have HLEN := hid hll
  have HIO : Hid (I64 o ∧ I64 s) := ⟨⟨ho.1, ho.2⟩, ⟨hs.1, hs.2⟩⟩
  clear hl hv hll ho hs _hm
  obtain ⟨W0, hW0⟩ : ∃ V, V = w.alloc (.cells #[.int .i64 o, .int .i64 s] 25) := ⟨_, rfl⟩
  obtain ⟨ab, HAB⟩ : ∃ q, Hid (q = w.heap.size) := ⟨_, hid rfl⟩
  have hb0 : Below w.heap.size w W0 := by rw [hW0]; exact (Below.refl _ _).alloc (Nat.le_refl _) _
  have HABX : Hid (Blk W0 ab 25 [.int .i64 o, .int .i64 s]) := by rw [hW0, HAB.out]; exact Blk.new _ _ _
  have HB0 := hid hb0
  have HNEW := hid (newL_any W0)
  have HW0 := hid hW0
  clear hW0 hb0
  go_enter Tryz.func3, Tryz.ntmps3
  go_wp2_with fail
  rw [← HW0.out, ← HAB.out]
  refine HNEW.out.mono ?_
  rintro e w1 ⟨p0, me0, mw0, rfl, hl1, hf1, hb1⟩
  obtain ⟨x, HX⟩ : ∃ q, Hid (q = w1.heap.size) := ⟨_, hid rfl⟩
  obtain ⟨W2, hW2⟩ : ∃ V, V = w1.alloc (.cells #[.slice none 0 0, .slice none 0 0] 30) := ⟨_, rfl⟩
  have hb2 : Below w1.heap.size w1 W2 := by rw [hW2]; exact (Below.refl _ _).alloc (Nat.le_refl _) _
  have HBW2 : Hid (Below w.heap.size w W2) := bt HB0.out (bt hb1 hb2)
  have HX0 : Hid (Below W0.heap.size W0 W2) := bt hb1 hb2
  have HD2 : Hid (DuL w W2 p0 me0 mw0 x emptyLg ⟨[], []⟩) := by
    refine ⟨hl1.below hb2, ⟨none, 0, none, 0, ⟨by rw [hW2, HX.out]; exact Blk.new _ _ _, World.ownsRow_nil _ _ _ _, World.ownsRow_nil _ _ _ _, (fun b hb => by cases hb), (fun z hz => by cases hz), (fun z hz => by cases hz), (fun z hz => by cases hz), (fun z hz => by cases hz), Nat.zero_le _, Nat.zero_le _, HBW2.out, ?_⟩⟩, SameO.start, nodE_nil, fun i hi => ?_⟩
    · have := HX.out
      have := HB0.out.size
      have := hb1.size
      omega
    · have := hf1 i hi
      have := HB0.out.size
      omega
  have HW2 := hid hW2
  have HLV := hid (lives10_any W2)
  clear hl1 hf1 hb1 hb2 hW2 HNEW
  go_wp2_with fail
  rw [← HW2.out, ← HX.out]
  refine HLV.out.mono ?_
  rintro e w3 ⟨rfl, hb3⟩
  have HD3 := hid (HD2.out.below hb3)
  have HX3 := hid (bt HX0.out hb3)
  clear hb3 HLV HD2 HW2 HX0 HBW2
  go_wp2
  go_loopw [9, 11] (fun u i wr => ∃ k : Nat, k ≤ n ∧ i = .int .i64 k ∧ (∃ p, u = .pointer (some ⟨p, 0, none⟩) ∧ Hid (DuS w x p wr)) ∧ Hid (Blk wr ab 25 [.int .i64 o, .int .i64 s])) (fun _ i _ => n - (intOf i).toNat)
  case atStart => exact ⟨0, Nat.zero_le _, rfl, ⟨p0, rfl, ⟨me0, mw0, _, _, HD3.out⟩⟩, HABX.out.below HX3.out HABX.out.lt⟩
  case round =>
    obtain ⟨k, hk, rfl, ⟨p, rfl, HR⟩, HAK⟩ := hrel
    obtain ⟨me, mw, g, gm, hdu⟩ := HR.out
    have HDU := hid hdu
    clear hdu HR HD3
    by_cases hlt : k < n
    rotate_left 1
    · have hlt' : ¬ (k : Int) < (n : Int) := by omega
      have q0 := HAK.out.cell (i := 0) rfl
      have q1 := HAK.out.cell (i := 1) rfl
      have HLK := hid (looks_log HDU.out vo vc v k0 HK0.out (HV0.out.below HDU.out.bel) most o s HIO.out.1 HIO.out.2)
      clear hlt hk
      go_wp2_with fail
      refine HLK.out.mono ?_
      rintro e w7 ⟨rfl, hb7⟩
      have HB7 : Hid (Below w.heap.size w w7) := bt HDU.out.bel hb7
      clear hb7 HLK q0 q1
      go_wp2
      go_ret
      exact ⟨rfl, HB7.out⟩
    have hlt' : (k : Int) < (n : Int) := int_leO hlt
    have hk0 : (0 : Int) ≤ (k : Int) := Int.natCast_nonneg k
    have HKM : Hid (k + 1 ≤ n) := hlt
    have hwk : wrap64 ((k : Int) + 1) = (k : Int) + 1 := wrap_kO HKM.out HLEN.out
    have HWK := hid hwk
    have HKX : Hid (k < l.length) := by rw [HN.out]; exact hlt
    obtain ⟨lb, off, hlo, hlb, g0, g1, g2, g3, g4, g5, g6, g7⟩ := HL.out.at HKX.out
    have HLO := hid hlo
    have HYO : Hid (EvOk w (l[k]'HKX.out)) := HL.out.1 _ (List.getElem_mem _)
    obtain ⟨Y, HY⟩ : ∃ y, Hid (l[k]'HKX.out = y) := ⟨_, hid rfl⟩
    rw [HY.out] at g0 g1 g2 g3 g4 g5 g6 g7 HYO
    obtain ⟨Y2, HY2⟩ : ∃ y, Hid (Y = y) := ⟨_, hid rfl⟩
    have HYO2 : Hid (EvOk w Y2) := by rw [← HY2.out]; exact HYO.out
    obtain ⟨⟨eo', es, dp, ct, ep, sk, qt, cl⟩, ao1, cap1⟩ := Y
    obtain ⟨XN, HXN⟩ : ∃ m, Hid (dp.length = m) := ⟨_, hid rfl⟩
    rw [HXN.out] at g2
    have HG := hid (And.intro g0 (And.intro g1 (And.intro g2 (And.intro g3 (And.intro g4 (And.intro g5 (And.intro g6 g7)))))))
    have HGL := hid hlb
    have HCL : Hid (∀ V, Below w.heap.size w V → V.cell? ⟨lb, off + k * 8, none⟩ = some (.int .i64 eo') ∧ V.cell? ⟨lb, off + k * 8 + 1, none⟩ = some (.int .i64 es) ∧ V.cell? ⟨lb, off + k * 8 + 2, none⟩ = some (.slice ao1 XN cap1) ∧ V.cell? ⟨lb, off + k * 8 + 3, none⟩ = some (.string ct) ∧ V.cell? ⟨lb, off + k * 8 + 4, none⟩ = some (.int .i64 ep) ∧ V.cell? ⟨lb, off + k * 8 + 5, none⟩ = some (.string sk) ∧ V.cell? ⟨lb, off + k * 8 + 6, none⟩ = some (.int .i64 qt) ∧ V.cell? ⟨lb, off + k * 8 + 7, none⟩ = some (.bool cl)) := fun V hV =>
      ⟨(hV.cell (p := ⟨lb, _, none⟩) HGL.out).trans HG.out.1, (hV.cell (p := ⟨lb, _, none⟩) HGL.out).trans HG.out.2.1, (hV.cell (p := ⟨lb, _, none⟩) HGL.out).trans HG.out.2.2.1, (hV.cell (p := ⟨lb, _, none⟩) HGL.out).trans HG.out.2.2.2.1, (hV.cell (p := ⟨lb, _, none⟩) HGL.out).trans HG.out.2.2.2.2.1, (hV.cell (p := ⟨lb, _, none⟩) HGL.out).trans HG.out.2.2.2.2.2.1, (hV.cell (p := ⟨lb, _, none⟩) HGL.out).trans HG.out.2.2.2.2.2.2.1, (hV.cell (p := ⟨lb, _, none⟩) HGL.out).trans HG.out.2.2.2.2.2.2.2⟩
    subst hlo
    clear g0 g1 g2 g3 g4 g5 g6 g7 hlb hlt hk
    have HBW := hid HDU.out.bel
    obtain ⟨g0, g1, g2, g3, g4, g5, g6, g7⟩ := HCL.out wr HBW.out
    -- the event's box
    obtain ⟨W1, hW1⟩ : ∃ V, V = wr.alloc (.cells #[.int .i64 eo', .int .i64 es, .slice ao1 XN cap1, .string ct, .int .i64 ep, .string sk, .int .i64 qt, .bool cl] 33) := ⟨_, rfl⟩
    obtain ⟨eb, HEB⟩ : ∃ q, Hid (q = wr.heap.size) := ⟨_, hid rfl⟩
    have hbw1 : Below wr.heap.size wr W1 := by rw [hW1]; exact (Below.refl _ _).alloc (Nat.le_refl _) _
    have HBW1 := hid hbw1
    have HBOX1 : Hid (Blk W1 eb 33 [.int .i64 eo', .int .i64 es, .slice ao1 XN cap1, .string ct, .int .i64 ep, .string sk, .int .i64 qt, .bool cl]) := by rw [hW1, HEB.out]; exact Blk.new _ _ _
    have HHD : Hid (HeldInt W1 ao1 dp) := ((HYO.out.below HBW.out).below hbw1).deps.held
    have HFW : Hid (dp.length ≤ 17592186044416) := HYO.out.deps.few
    have HSZ1 : Hid (W1.heap.size = eb + 1) := by rw [hW1, HEB.out]; exact hid (World.size_alloc _ _)
    have HLC1 := hid (HCL.out (W1.alloc (.cells #[] 3)) ((bt HBW.out hbw1).trans (((Below.refl _ _).alloc (Nat.le_refl _) _).mono (by have := HBW.out.size; have := hbw1.size; omega))))
    obtain ⟨g0', g1', g2', g3', g4', g5', g6', g7'⟩ := HLC1.out
    rw [hW1] at g0' g1' g2' g3' g4' g5' g6' g7'
    have HW1 := hid hW1
    clear hW1 hbw1
    go_wp2_with (at_builtin; rw [← HW1.out, ← HEB.out]; refine wpList_append_copyQ W1 _ HSZ1.out rfl _ _ rfl rfl _ _ dp XN HXN.out rfl HHD.out HFW.out ?_; intro bo cp w2 hown2 hv2 hb2; have HO2 := hid hown2; have HV2 := hid hv2; have HB2 := hid hb2; have hk2 := HBOX1.out.below hb2 HBOX1.out.lt; have f2 := hk2.frozen 2; have e2 := hk2.cell (i := 2) rfl; have hk3 := hk2.set 2 (.slice bo XN cp); have HK3 := hid hk3; have c0 := hk3.cell (i := 0) rfl; have c1 := hk3.cell (i := 1) rfl; have c2 := hk3.cell (i := 2) rfl; have c3 := hk3.cell (i := 3) rfl; have c4 := hk3.cell (i := 4) rfl; have c5 := hk3.cell (i := 5) rfl; have c6 := hk3.cell (i := 6) rfl; have c7 := hk3.cell (i := 7) rfl; clear hown2 hv2 hb2 hk2 hk3)
    clear c0 c1 c2 c3 c4 c5 c6 c7 e2 f2 g0 g1 g2 g3 g4 g5 g6 g7 g0' g1' g2' g3' g4' g5' g6' g7'
    obtain ⟨V2, HVV⟩ : ∃ V, Hid (V = w2.setCell ⟨eb, 2, none⟩ (.slice bo XN cp)) := ⟨_, hid rfl⟩
    rw [← HVV.out] at HK3 ⊢
    have hbr2 : Below wr.heap.size wr V2 := by
      rw [HVV.out]
      exact (bt HBW1.out HB2.out).setCell (p := ⟨eb, 2, none⟩) (by rw [HEB.out]; exact Nat.le_refl _) _
    have HBR2 := hid hbr2
    have HDV := hid (HDU.out.below hbr2)
    have HLV2 := hid (HCL.out V2 (bt HBW.out hbr2))
    have hTB : Turns (fun i => i = eb) w2 V2 := by rw [HVV.out]; exact (Turns.refl (fun i => i = eb) w2).setCell (p := ⟨eb, 2, none⟩) (.inl rfl) _
    have hrow2 : V2.ownsRow W1.heap.size 3 1 (.slice bo XN cp) XN (ints dp) := hTB.row HO2.out (fun i hi e => by
      have := (HO2.out.lt i hi).1
      have := HBOX1.out.lt
      omega)
    have hHV2 : HV V2 bo cp dp := ⟨HV2.out.held.turned hTB (fun b' off' e hne k => by
      rcases row_intO HO2.out with ⟨h1, _⟩ | ⟨b, cs, h1, h2, _, h4⟩
      · exact hne (List.eq_nil_of_length_eq_zero (by rw [HXN.out]; exact h1))
      · rw [e] at h1
        cases h1
        have := HBOX1.out.lt
        omega), HV2.out.room, HV2.out.few⟩
    have hEO : EvOk V2 ⟨⟨eo', es, dp, ct, ep, sk, qt, cl⟩, bo, cp⟩ := ⟨hHV2, HYO.out.io, HYO.out.is, HYO.out.ie, HYO.out.iq, HYO.out.hc, HYO.out.hs⟩
    -- the block of the copied vector
    obtain ⟨b, HBB⟩ : ∃ b, Hid ((XN = 0 ∨ (bo = some ⟨b, 0, none⟩ ∧ ∃ cs, Blk V2 b 3 cs ∧ XN ≤ cs.length)) ∧ wr.heap.size ≤ b ∧ b < V2.heap.size) := by
      rcases row_intO hrow2 with ⟨h1, _⟩ | ⟨b, cs, h1, h2, h3, h4⟩
      · exact ⟨eb, .inl h1, by rw [HEB.out]; exact Nat.le_refl _, HK3.out.lt⟩
      · exact ⟨b, .inr ⟨h1, cs, h2, h3⟩, Nat.le_trans HBW1.out.size h4, h2.lt⟩
    have HPT := hid (put_any2 HDV.out.L ⟨⟨eo', es, dp, ct, ep, sk, qt, cl⟩, bo, cp⟩ hEO)
    simp only [EvM.val] at HPT
    rw [HXN.out] at HPT
    obtain ⟨eo, cap, fo, cap2, hD2⟩ := HDU.out.D
    have HDD := hid hD2
    have HDP := hid (fun (w1 : World) (e1 : Ending) (hp : PutP2 V2 p me mw g ⟨eo', es, dp, ct, ep, sk, qt, cl⟩ e1 w1) => HDV.out.puts (hD2.below hbr2) (X := ⟨⟨eo', es, dp, ct, ep, sk, qt, cl⟩, bo, cp⟩) hp HYO.out rfl)
    clear hbr2 hTB hrow2 hHV2 hEO hD2
    refine HPT.out.mono ?_
    rintro e3 w3 hp3
    have HP3 := hid hp3
    obtain ⟨ro, rn, rc, c, rfl, hcall⟩ := HDP.out _ _ hp3
    have HCALL := hid hcall
    clear hp3 hcall HPT HDP
    simp only [EvM.val] at HCALL
    rw [HXN.out] at HCALL
    have HBV3 : Hid (Below w.heap.size w w3) := by
      obtain ⟨_, _, ht⟩ := (HP3.out.mid HDV.out.L).1
      exact (bt HBW.out HBR2.out).trans (ht.below HDV.out.bl (bt HBW.out HBR2.out).size)
    obtain ⟨g0, g1, g2, g3, g4, g5, g6, g7⟩ := HCL.out w3 HBV3.out
    go_wp2_with fail
    refine HCALL.out.mono ?_
    rintro e4 w4 ⟨qo, qc, rfl, hpp⟩
    obtain ⟨g', gm', ys, zs, hdu4, hys, hzok, hzs, hyl, hzl, hev, hle, haw, hfr, hrb, hro, hsz, hT4, hqb⟩ := hpp.out
    clear g0 g1 g2 g3 g4 g5 g6 g7
    have hFeb : ¬ (FootL p me mw eb ∨ FootR x eo gm.L.length cap fo gm.W.length cap2 eb) := fun h => by
      have h0 := HEB.out
      rcases h with h | h
      · have := HDU.out.L.lt eb h
        omega
      · have := HDD.out.foot_lt eb h
        omega
    have hFb : ¬ (FootL p me mw b ∨ FootR x eo gm.L.length cap fo gm.W.length cap2 b) := fun h => by
      have h0 := HBB.out.2.1
      rcases h with h | h
      · have := HDU.out.L.lt b h
        omega
      · have := HDD.out.foot_lt b h
        omega
    have HSV4 : Hid (SevL w w4 p me mw x eb b XN g' gm' ro qo ys zs bo [.int .i64 eo', .int .i64 es, .slice bo XN cp, .string ct, .int .i64 ep, .string sk, .int .i64 qt, .bool cl]) := by
      refine ⟨hdu4, haw b HBB.out.2.2 ((HDU.out.L.far HBB.out.2.1).below (HDU.out.L.lt p (.inl rfl)) HBR2.out), hys, fun y hy => hfr y hy b HBB.out.2.2, fun b' off' e => ?_, hzok, hzs, fun b' off' e => ?_, hT4.blk HK3.out hFeb, ?_, Nat.le_trans HBW.out.size HBB.out.2.1⟩
      · rcases hro with h0 | ⟨b2, h0⟩
        · rw [h0] at e; cases e
        · rw [h0] at e
          cases e
          have := hrb b' h0
          have := HBB.out.2.2
          omega
      · have := hqb b' off' e
        have := HBB.out.2.2
        omega
      · rcases HBB.out.1 with h0 | ⟨h0, cs, h1, h2⟩
        · exact .inl h0
        · exact .inr ⟨h0, cs, hT4.blk h1 hFb, h2⟩
    have HYL : Hid (ys.length = rn ∧ zs.length = rn ∧ rn ≤ 65536) := ⟨hyl, hzl, hle⟩
    have HEV : Hid (ys.map (·.e) = zs.map (·.e)) := hev
    have HAK4 : Hid (Blk w4 ab 25 [.int .i64 o, .int .i64 s]) := by
      have hlt := HAK.out.lt
      refine hT4.blk (HAK.out.below HBR2.out hlt) (fun h => ?_)
      have hb2 : Blk V2 ab 25 [.int .i64 o, .int .i64 s] := HAK.out.below HBR2.out hlt
      rcases h with h | h
      · exact not_footL HDV.out.L hb2 (by decide) h
      · rcases h with h | h | h
        · exact absurd (blk_typeL hb2 (h ▸ (HDD.out.below HBR2.out).blk)) (by decide)
        · obtain ⟨_, hc⟩ := row_blk (HDD.out.below HBR2.out).rowL h
          exact absurd (blk_typeL hb2 hc) (by decide)
        · obtain ⟨_, hc⟩ := row_blk (HDD.out.below HBR2.out).rowW h
          exact absurd (blk_typeL hb2 hc) (by decide)
    clear hFeb hFb hdu4 hys hzok hzs hyl hzl hev hle haw hfr hrb hro hsz hT4 hqb hpp HP3
    go_wp2
    go_loopw [17] (fun j wz => ∃ i : Nat, i ≤ XN ∧ j = .int .i64 i ∧ Hid (SevL w wz p me mw x eb b XN g' gm' ro qo ys zs bo [.int .i64 eo', .int .i64 es, .slice bo XN cp, .string ct, .int .i64 ep, .string sk, .int .i64 qt, .bool cl]) ∧ Hid (Blk wz ab 25 [.int .i64 o, .int .i64 s])) (fun j _ => XN - (intOf j).toNat)
    case atStart => exact ⟨0, Nat.zero_le _, rfl, HSV4.out, HAK4.out⟩
    case round =>
      obtain ⟨i, hi, rfl, HSV, HAZ⟩ := hrel
      obtain ⟨wz, HWZ⟩ : ∃ V, Hid (V = wr) := ⟨_, hid rfl⟩
      rw [← HWZ.out] at HSV HAZ ⊢
      clear HWZ HSV4 HAK4
      have e2 := HSV.out.box.cell (i := 2) rfl
      have hi0 : (0 : Int) ≤ (i : Int) := Int.natCast_nonneg i
      by_cases hlx : i < XN
      · have hlx' : (i : Int) < (XN : Int) := int_leO hlx
        have HIM : Hid (i + 1 ≤ XN) := hlx
        have hwi : wrap64 ((i : Int) + 1) = (i : Int) + 1 := wrap_jO HIM.out (by rw [← HXN.out]; exact HFW.out)
        obtain ⟨hbo, cs, hblk, hlen⟩ := HSV.out.dep.resolve_left (by omega)
        obtain ⟨u0, hu0⟩ : ∃ u, cs[i]? = some u := ⟨_, List.getElem?_eq_getElem (by omega)⟩
        have d0 := hblk.cell hu0
        have d1 := hblk.frozen i
        obtain ⟨W5, hW5⟩ : ∃ V, V = wz.setCell ⟨b, i, none⟩ (.int .i64 77) := ⟨_, rfl⟩
        have HSN := hid (HSV.out.step hlx hW5)
        have HAN : Hid (Blk W5 ab 25 [.int .i64 o, .int .i64 s]) := by
          have hne : ab ≠ b := fun e => by
            subst e
            exact absurd (blk_typeL HAZ.out hblk) (by decide)
          have ht : Turns (fun i => i = b) wz W5 := by rw [hW5]; exact (Turns.refl (fun i => i = b) wz).setCell (p := ⟨b, i, none⟩) (.inl rfl) _
          exact ht.blk HAZ.out hne
        have HW5 := hid hW5
        rw [hbo] at e2
        have HBO := hid hbo
        clear hW5 hblk hlen hlx hi hu0 hbo
        go_wp2
        (try rw [← HW5.out])
        go_roundw
        case rel => exact ⟨i + 1, HIM.out, by go_num, HSN.out, HAN.out⟩
        case measure => first | exact measNW HIM.out hwi | exact measN1 HIM.out
      · have hlx' : ¬ (i : Int) < (XN : Int) := by omega
        have HBZ : Hid (Below w.heap.size w wz) := HSV.out.du.bel
        have HCZ := hid (fun V (hV : Sc wz V) => HCL.out V (bt HBZ.out hV.out))
        have HSA : Hid (∀ V, Sc wz V → (Sc wz V ∧ V.cell? ⟨lb, off + k * 8, none⟩ = some (.int .i64 eo') ∧ V.cell? ⟨lb, off + k * 8 + 1, none⟩ = some (.int .i64 es) ∧ V.cell? ⟨lb, off + k * 8 + 2, none⟩ = some (.slice ao1 XN cap1) ∧ V.cell? ⟨lb, off + k * 8 + 3, none⟩ = some (.string ct) ∧ V.cell? ⟨lb, off + k * 8 + 4, none⟩ = some (.int .i64 ep) ∧ V.cell? ⟨lb, off + k * 8 + 5, none⟩ = some (.string sk) ∧ V.cell? ⟨lb, off + k * 8 + 6, none⟩ = some (.int .i64 qt) ∧ V.cell? ⟨lb, off + k * 8 + 7, none⟩ = some (.bool cl))) := fun V hV => ⟨hV, HCZ.out V hV⟩
        obtain ⟨mb, HMB⟩ : ∃ d, Hid (decide (MayE Y2.e) = d) := ⟨_, hid rfl⟩
        have HC1 : Hid (∀ V, Sc wz V → Calls Tryz.prog 8 #[.slice ro rn rc, .slice qo rn qc] V fun e w' => e = .returned (.bool true) ∧ Sc wz w') := fun V hV => by
          refine (sameEvs_anyO V ro qo rc qc ys zs rn HYL.out.1 HYL.out.2.1 (HSV.out.hy.below hV.out) (HSV.out.hz.below hV.out) HEV.out (by have := HYL.out.2.2; omega)).mono ?_
          rintro e w' ⟨rfl, hb⟩
          exact ⟨rfl, hV.go hb⟩
        have HC2 : Hid (∀ V, Sc wz V → Calls Tryz.prog 9 #[.agg #[.int .i64 eo', .int .i64 es, .slice ao1 XN cap1, .string ct, .int .i64 ep, .string sk, .int .i64 qt, .bool cl]] V fun e w' => e = .returned (.bool mb) ∧ Sc wz w') := fun V hV => by
          have h1 := mayL_any V Y2 (HYO2.out.below (bt HBZ.out hV.out))
          rw [HMB.out, ← HY2.out] at h1
          simp only [EvM.val] at h1
          rw [HXN.out] at h1
          refine h1.mono ?_
          rintro e w' ⟨rfl, hb⟩
          exact ⟨rfl, hV.go hb⟩
        have HC3 : Hid (∀ V, Sc wz V → Calls Tryz.prog 10 #[.agg #[.int .i64 eo', .int .i64 es, .slice ao1 XN cap1, .string ct, .int .i64 ep, .string sk, .int .i64 qt, .bool cl]] V fun e w' => e = .returned (.bool mb) ∧ Sc wz w') := fun V hV => by
          have h1 := rmayE_any V Y2 (HYO2.out.below (bt HBZ.out hV.out))
          rw [HMB.out, ← HY2.out] at h1
          simp only [EvM.val] at h1
          rw [HXN.out] at h1
          refine h1.mono ?_
          rintro e w' ⟨rfl, hb⟩
          exact ⟨rfl, hV.go hb⟩
        have hcc : ((c : Int) != c) = false := by simp
        have hmm : (mb != mb) = false := by simp
        clear hlx hi HMB
        go_wp2
        clear e2
        go_region_held3 (fun V => Sc wz V ∧ V.cell? ⟨lb, off + k * 8, none⟩ = some (.int .i64 eo') ∧ V.cell? ⟨lb, off + k * 8 + 1, none⟩ = some (.int .i64 es) ∧ V.cell? ⟨lb, off + k * 8 + 2, none⟩ = some (.slice ao1 XN cap1) ∧ V.cell? ⟨lb, off + k * 8 + 3, none⟩ = some (.string ct) ∧ V.cell? ⟨lb, off + k * 8 + 4, none⟩ = some (.int .i64 ep) ∧ V.cell? ⟨lb, off + k * 8 + 5, none⟩ = some (.string sk) ∧ V.cell? ⟨lb, off + k * 8 + 6, none⟩ = some (.int .i64 qt) ∧ V.cell? ⟨lb, off + k * 8 + 7, none⟩ = some (.bool cl))
          ((refine HSA.out _ ?_; (repeat (first | with_reducible assumption | exact Sc.start _ | apply Sc.dr | apply Sc.alloc))))
          (first
            | (go_at_call 8; with_reducible refine (HC1.out _ (by (repeat (first | with_reducible assumption | exact Sc.start _ | apply Sc.dr)))).mono ?_; rintro e w5 ⟨rfl, hs5⟩)
            | (go_at_call 9; with_reducible refine (HC2.out _ (by (repeat (first | with_reducible assumption | exact Sc.start _ | apply Sc.dr)))).mono ?_; rintro e w6 ⟨rfl, hs6⟩)
            | (go_at_call 10; with_reducible refine (HC3.out _ (by (repeat (first | with_reducible assumption | exact Sc.start _ | apply Sc.dr)))).mono ?_; rintro e w7 ⟨rfl, hs7⟩)
            | fail)
        have HDU7 := hid (HSV.out.du.below hs7.out)
        have HAB7 := hid (HAZ.out.below hs7.out HAZ.out.lt)
        clear hs5 hs6 hs7 HC1 HC2 HC3 HSA hcc hmm HSV HAZ HCZ
        have hwk := HWK.out
        by_cases h5 : (k : Int) % 6 = 5
        · have h5' : ((k : Int) % 6 == 5) = true := by simp [h5]
          have HFK := hid HDU7.out.L.fork
          clear h5
          go_wp2_with fail
          refine HFK.out.mono ?_
          rintro e w8 ⟨p8, me8, mw8, rfl, hf8⟩
          have HF8 := hid hf8
          have HPO := hid (put_any2 (HDU7.out.below hf8.2.2).L ⟨⟨6, 1, [], bC, 0, bS, 0, false⟩, none, 0⟩ ⟨hv_none w8 0, by unfold I64; decide, by unfold I64; decide, by unfold I64; decide, by unfold I64; decide, by decide, by decide⟩)
          clear hf8 HFK
          simp only [EvM.val, List.length_nil, bC, bS] at HPO
          go_wp2_with fail
          refine HPO.out.mono ?_
          rintro e w9 hp9
          obtain ⟨⟨_, _, ht9⟩, ⟨_, _, _, _, rfl⟩⟩ := hp9.mid (HDU7.out.below HF8.out.2.2).L
          have HN9 : Hid (DuS w x p8 w9) := ⟨me8, mw8, g', gm', HDU7.out.forked HF8.out ht9⟩
          have HA9 : Hid (Blk w9 ab 25 [.int .i64 o, .int .i64 s]) := by
            have h8 := HAB7.out.below HF8.out.2.2 HAB7.out.lt
            exact ht9.blk h8 (not_footL (HDU7.out.below HF8.out.2.2).L h8 (by decide))
          clear hp9 ht9 HPO
          go_wp2
          go_roundw
          case rel => exact ⟨k + 1, HKM.out, by go_num, ⟨p8, rfl, HN9.out⟩, HA9.out⟩
          case measure => first | exact measNW HKM.out hwk | exact measN1 HKM.out
        · have h5' : ((k : Int) % 6 == 5) = false := by simp [h5]
          clear h5
          have HN9 : Hid (DuS w x p w7) := ⟨me, mw, g', gm', HDU7.out⟩
          go_wp2
          go_roundw
          case rel => exact ⟨k + 1, HKM.out, by go_num, ⟨p, rfl, HN9.out⟩, HAB7.out⟩
          case measure => first | exact measNW HKM.out hwk | exact measN1 HKM.out
end Go.Proofs.YtjlompnjhmbhhaaGreat
