/-
  Package codec: ReadList of votes.
-/
import Derived.Test.YtfmnbehopdmahaaGreatRdL
namespace Go.Proofs.YtfmnbehopdmahaaGreat
open Go.RowKit Go.Maps

/-- A row of votes that a reader made: each cut in a block of numbers. -/
structure HeldVN (w : World) (ao : Option Addr) (ys : List VoM) : Prop where
  held : HeldVo w ao ys
  num : ∀ y ∈ ys, HN w y.en.ao y.en.cap y.en.e.cut
theorem heldVN_nil (w : World) : HeldVN w none [] := ⟨⟨fun y hy => (by cases hy), .inl rfl⟩, fun y hy => (by cases hy)⟩
theorem VoOk.at' {w w' : World} {x : VoM} (h : VoOk w x) (hn : HN w' x.en.ao x.en.cap x.en.e.cut) : VoOk w' x := ⟨⟨hn.hv, h.en.ie, h.en.ht, h.en.hc⟩, h.is, h.i1, h.i2⟩
theorem wpList_append_voR {ops : Array Oper} {rest : List Oper} {o : Oper} {a : Act} {Q : Exit → Act → World → Prop} (W0 W : World) (x : VoM) (hW : W = W0.alloc (.cells x.cells.toArray 73)) (hgd : o.guard = none) (s xx : Operand)
    (ho : o.op = .call { callee := .builtin .append, args := #[s, xx], argTypes := #[40, 40] }) (B : Nat) (v : Value) (ds : List VoM) (n : Nat) (hn : ds.length = n) (g : Nat)
    (hs : a.eval s = v) (hx : a.eval xx = .slice (some ⟨g, 0, none⟩) 1 1) (hg : g = W0.heap.size) (hown : W0.ownsRow B 73 8 v n (flatVo ds)) (hB : B ≤ W0.heap.size) (hl : n < 1466015503701)
    (h : ∀ v' w', w'.ownsRow B 73 8 v' (n + 1) (flatVo (ds ++ [x])) → Below B W0 w' → W.grownBy w' v.ownBlock → wpList Tryz.prog ops Q rest (a.put o.dst v') w') :
    wpList Tryz.prog ops Q (o :: rest) a W := by
  subst hg
  exact wpList_append_vo W0 W x hW hgd s xx ho B v ds n hn hs hx hown hB hl h
set_option maxRecDepth 1000000 in
set_option maxHeartbeats 4000000 in
theorem listVo11 (ao : Option Addr) (len cap : Nat) (bs : List Int) (w : World) (pb : Nat) (h : Held w ao len cap bs) (hk : Blk w pb 131 [.func (.func 77) #[] #[]]) : Calls Tryz.prog 122 #[.slice ao len cap, .pointer (some ⟨pb, 0, none⟩)] w (ReadVo w len bs) := by
  obtain ⟨W, hW⟩ : ∃ W, W = w.alloc (.cells #[.int .i64 0, .int .i64 0, .int .i64 0, .bool false, .string ⟨#[]⟩, .string ⟨#[]⟩, .int .i64 0, .slice none 0 0] 73) := ⟨_, rfl⟩
  have hb : Below w.heap.size w W := by rw [hW]; exact (Below.refl _ _).alloc (Nat.le_refl _) _
  have c0 := (hk.below hb hk.lt).cell (i := 0) rfl
  rw [hW] at c0
  obtain ⟨rs, hrs⟩ : ∃ q, q = w.heap.size := ⟨_, rfl⟩
  have HKR : Hid (Blk W rs 73 [.int .i64 0, .int .i64 0, .int .i64 0, .bool false, .string ⟨#[]⟩, .string ⟨#[]⟩, .int .i64 0, .slice none 0 0]) := by rw [hrs, hW]; exact Blk.new w _ _
  have HR := hid (readByVo ao len cap bs W (h.below hb (Nat.le_refl _)))
  have HW := hid hW
  have HRS := hid hrs
  have HB := hid hb
  have HSZ : Hid (W.heap.size = w.heap.size + 1) := by show _ = _; rw [hW]; simp
  clear h hk hW hrs hb
  go_enter Tryz.func122, Tryz.ntmps122
  go_wp2_with fail
  rw [← HW.out]
  refine HR.out.mono ?_
  rintro e w1 ⟨⟨sl, ⟨br, bn⟩, ⟨⟨np, tk, ct, ep, cut⟩, a, c⟩⟩, n, E, rfl, hvo, hnx, hab, hor, hb1⟩
  obtain ⟨XN, HXN⟩ : ∃ m, Hid (cut.length = m) := ⟨_, hid rfl⟩
  simp only [VoM.val]
  rw [HXN.out, ← HRS.out]
  have hkr1 := HKR.out.below hb1 HKR.out.lt
  have r0 := hkr1.cell (i := 0) rfl
  have f0 := hkr1.frozen 0
  have r1 := hkr1.cell (i := 1) rfl
  have f1 := hkr1.frozen 1
  have r2 := hkr1.cell (i := 2) rfl
  have f2 := hkr1.frozen 2
  have r3 := hkr1.cell (i := 3) rfl
  have f3 := hkr1.frozen 3
  have r4 := hkr1.cell (i := 4) rfl
  have f4 := hkr1.frozen 4
  have r5 := hkr1.cell (i := 5) rfl
  have f5 := hkr1.frozen 5
  have r6 := hkr1.cell (i := 6) rfl
  have f6 := hkr1.frozen 6
  have r7 := hkr1.cell (i := 7) rfl
  have f7 := hkr1.frozen 7
  obtain ⟨W9, hW9⟩ : ∃ V, V = (((((((w1.setCell ⟨rs, 0, none⟩ (.int .i64 sl)).setCell ⟨rs, 1, none⟩ (.int .i64 br)).setCell ⟨rs, 2, none⟩ (.int .i64 bn)).setCell ⟨rs, 3, none⟩ (.bool np)).setCell ⟨rs, 4, none⟩ (.string tk)).setCell ⟨rs, 5, none⟩ (.string ct)).setCell ⟨rs, 6, none⟩ (.int .i64 ep)).setCell ⟨rs, 7, none⟩ (.slice a XN c) := ⟨_, rfl⟩
  have hk9 : Blk W9 rs 73 [.int .i64 sl, .int .i64 br, .int .i64 bn, .bool np, .string tk, .string ct, .int .i64 ep, .slice a XN c] := by rw [hW9]; exact ((((((((hkr1.set 0 _).set 1 _).set 2 _).set 3 _).set 4 _).set 5 _).set 6 _).set 7 _)
  have hst : Turns (fun i => i = rs) w1 W9 := by rw [hW9]; exact (((((((((Turns.refl (fun i => i = rs) w1).setCell (p := ⟨rs, 0, none⟩) (.inl rfl) _).setCell (p := ⟨rs, 1, none⟩) (.inl rfl) _).setCell (p := ⟨rs, 2, none⟩) (.inl rfl) _).setCell (p := ⟨rs, 3, none⟩) (.inl rfl) _).setCell (p := ⟨rs, 4, none⟩) (.inl rfl) _).setCell (p := ⟨rs, 5, none⟩) (.inl rfl) _).setCell (p := ⟨rs, 6, none⟩) (.inl rfl) _).setCell (p := ⟨rs, 7, none⟩) (.inl rfl) _)
  have HAB : Hid (∀ b off, a = some ⟨b, off, none⟩ → cut ≠ [] → rs < b) := fun b off e hne => by have h1 := hab b off e hne; have h2 := HSZ.out; have h3 := HRS.out; omega
  have HN9 : Hid (HN W9 a c cut) := hnK hst hnx (fun b off e hne hh => by have h1 := HAB.out b off e hne; omega)
  have HVO : Hid (VoOk W9 ⟨sl, (br, bn), ⟨⟨np, tk, ct, ep, cut⟩, a, c⟩⟩) := hvo.at' HN9.out
  have HBF : Hid (Below w.heap.size w W9) := (HB.out.trans (hb1.mono HB.out.size)).trans (hst.below (fun i hh => by rw [hh, HRS.out]; exact Nat.le_refl _) (HB.out.trans (hb1.mono HB.out.size)).size)
  have HOR := hid hor
  have k0 := hk9.cell (i := 0) rfl
  have k1 := hk9.cell (i := 1) rfl
  have k2 := hk9.cell (i := 2) rfl
  have k3 := hk9.cell (i := 3) rfl
  have k4 := hk9.cell (i := 4) rfl
  have k5 := hk9.cell (i := 5) rfl
  have k6 := hk9.cell (i := 6) rfl
  have k7 := hk9.cell (i := 7) rfl
  clear hk9 hst hkr1 hvo hnx hab hor hb1 HR
  go_wp2
  rw [← hW9]
  (try simp only [Exit.inBlock, Exit.then])
  refine bodyPost_ret (v := .tuple #[.agg #[.int .i64 sl, .int .i64 br, .int .i64 bn, .bool np, .string tk, .string ct, .int .i64 ep, .slice a XN c], .int .i64 (n : Int), .int .i64 E]) ?_ rfl ⟨⟨sl, (br, bn), ⟨⟨np, tk, ct, ep, cut⟩, a, c⟩⟩, n, E, by simp only [VoM.val]; rw [HXN.out], HVO.out, HN9.out, fun b off e hne => by have h1 := HAB.out b off e hne; have h2 := HRS.out; omega, HOR.out, HBF.out⟩
  rw [results_cellR3 rfl]
  go_simp
/-- What ReadList answers. -/
def ListVo (w : World) (len : Nat) (bs : List Int) (most : Nat) (e : Ending) (w' : World) : Prop := ∃ (ao : Option Addr) (cap : Nat) (l : List VoM) (n : Nat) (E : Int), e = .returned (.tuple #[.slice ao l.length cap, .int .i64 (n : Int), .int .i64 E]) ∧ HeldVN w' ao l ∧ l.length ≤ cap ∧ l.length ≤ most ∧ (∀ b off, ao = some ⟨b, off, none⟩ → w.heap.size ≤ b ∧ ∃ cs, Blk w' b 73 cs) ∧ ((E = 0 ∧ n ≤ len ∧ pList most pVoted bs = some (l.map VoM.d, bs.drop n)) ∨ (E = 10 ∧ pList most pVoted bs = none)) ∧ Below w.heap.size w w'
theorem eql_readVo (W : World) (pb : Nat) : (binOp .eql 167 (.func (.func 122) #[] #[.pointer (some ⟨pb, 0, none⟩)]) .nilFunc).run Tryz.prog W = .ok (.bool false) W := by kernel_rfl
/-- Between two rounds. -/
structure ListGV (w : World) (bs b0 : List Int) (c : Nat) (k at' : Nat) (v : Value) (wr : World) : Prop where
  ex : ∃ l : List VoM, l.length = k ∧ AllVo wr l ∧ (∀ y ∈ l, HN wr y.en.ao y.en.cap y.en.e.cut) ∧ wr.ownsRow w.heap.size 73 8 v l.length (flatVo l) ∧ pRep pVoted c b0 = (pRep pVoted (c - k) (bs.drop at')).map (fun r => (l.map VoM.d ++ r.1, r.2))
  bel : Below w.heap.size w wr
theorem own_numV {w : World} {B n sz : Nat} {v : Value} {xs : List Value} {t : TypeId} (h : w.ownsRow B t sz v n xs) {b off len cap : Nat} (e : v = .slice (some ⟨b, off, none⟩) len cap) : B ≤ b ∧ ∃ cs, Blk w b t cs := by
  rcases h.2 with ⟨h1, _⟩ | ⟨g, cap, cur, rfl, hB, hg, _⟩
  · rw [h1] at e; cases e
  · cases e
    exact ⟨hB, cur.toList, by unfold Blk; exact hg⟩
set_option maxRecDepth 1000000 in
set_option maxHeartbeats 8000000 in
theorem readListVo (ao : Option Addr) (len cap : Nat) (bs : List Int) (w : World) (pb most : Nat) (hm : most ≤ 4096) (h : Held w ao len cap bs) (hk : Blk w pb 131 [.func (.func 77) #[] #[]]) : Calls Tryz.prog 121 #[.slice ao len cap, .int .i64 (most : Int), .func (.func 122) #[] #[.pointer (some ⟨pb, 0, none⟩)]] w (ListVo w len bs most) := by
  have hrc := readCount_any ao len cap bs (most : Int) w h (by omega) (by omega)
  have heq := eql_readVo
  have HH := hid h
  have HK := hid hk
  have HLN : Hid (bs.length = len) := h.hlen
  have HCP : Hid (len ≤ cap) := h.hcap
  have hmx : (len : Int) ≤ 9223372036854775807 := by have h1 := h.hcap; have h2 := h.hmax; unfold maxLen at h2; omega
  rcases cnt_num (most := most) h.byte with ⟨hp, hc⟩ | ⟨x, n, hc, hx, hn, hp⟩
  · rw [hc] at hrc
    have HRC := hid hrc
    have HP := hid hp
    clear hrc hc hp h hk
    go_enter Tryz.func121, Tryz.ntmps121
    go_wp2_with fail
    refine HRC.out.mono ?_
    rintro e w1 ⟨rfl, rfl⟩
    go_wp2
    go_ret3
    exact ⟨none, 0, [], 0, 10, rfl, heldVN_nil _, Nat.le_refl _, Nat.zero_le _, fun b off e => (by cases e), .inr ⟨rfl, by unfold pList; rw [HP.out]; rfl⟩, Below.refl _ _⟩
  · rw [hc] at hrc
    have HRC := hid hrc
    have HPL : Hid (pList most pVoted bs = pRep pVoted x (bs.drop n)) := by show _ = _; unfold pList; rw [hp]; show pRep pVoted (x : Int).toNat (bs.drop n) = _; rw [Int.toNat_natCast]
    have hxm : x ≤ 4096 := by omega
    have HXM := hid hx
    have hnl : n ≤ len := by rw [← HLN.out]; exact hn
    have HNL := hid hnl
    clear hrc hc hp h hk hx hn
    go_enter Tryz.func121, Tryz.ntmps121
    go_wp2_with fail
    refine HRC.out.mono ?_
    rintro e w1 ⟨rfl, rfl⟩
    clear HRC
    go_wp2
    go_loopw [10, 12, 13, 14, 15, 33] (fun a v _ _ _ i wr => ∃ (k at' : Nat), k ≤ x ∧ at' ≤ len ∧ i = .int .i64 k ∧ a = .int .i64 at' ∧ Hid (ListGV w1 bs (bs.drop n) x k at' v wr)) (fun _ _ _ _ _ i _ => x - (intOf i).toNat)
    case atStart => exact ⟨0, n, Nat.zero_le _, HNL.out, rfl, rfl, ⟨⟨[], rfl, fun y hy => (by cases hy), fun y hy => (by cases hy), World.ownsRow_nil _ _ _ _, by simp⟩, Below.refl _ _⟩⟩
    case round =>
      obtain ⟨k, at', hkx, hat, rfl, rfl, HG⟩ := hrel
      obtain ⟨l, hll, hall, hnum, hrow, hrep⟩ := HG.out.ex
      have HB := hid HG.out.bel
      have HALL := hid hall
      have HNUM := hid hnum
      have HROW := hid hrow
      have HREP := hid hrep
      have HLL := hid hll
      obtain ⟨eo, ec, hv⟩ := own_sliceC hrow
      rw [hll] at hv
      subst hv
      clear hrow hrep hall hnum HG
      by_cases hlt : k < x
      · have hlt' : (k : Int) < (x : Int) := by omega
        have HLT := hid hlt
        have hcut : ∀ W, (Instr.slice 66 (.slice ao len cap) (some (.int .i64 (at' : Int))) (some (.int .i64 (len : Int))) (some (.int .i64 (len : Int)))).run Tryz.prog W = .ok (.slice (cutAt ao len at') (len - at') (len - at')) W := fun W => run_cut_lhmR W 66 5 Tryz.underlying66 size1R ao len cap at' _ rfl hat HCP.out
        obtain ⟨co, hco⟩ : ∃ q, q = cutAt ao len at' := ⟨_, rfl⟩
        obtain ⟨L, hL⟩ : ∃ q, q = len - at' := ⟨_, rfl⟩
        have hhc : Held w1 co L L (bs.drop at') := by rw [hco, hL]; exact heldCutR HH.out hat
        rw [← hco, ← hL] at hcut
        have HLE : Hid (at' + L = len) := hid (by omega)
        have HRD := hid (listVo11 co L L (bs.drop at') wr pb (hhc.below HB.out (Nat.le_refl _)) (HK.out.below HB.out HK.out.lt))
        have HAT := hid hat
        clear hlt hkx hat hco hL hhc hll
        go_wp2_with fail
        refine HRD.out.mono ?_
        rintro e w3 ⟨⟨sl, ⟨br, bn⟩, ⟨⟨np, tk, ct, ep, cut⟩, a, c⟩⟩, m, E, rfl, hvo, hnx, hab, hor, hb3⟩
        have HVO := hid hvo
        have HNX := hid hnx
        have HBW := hid hb3
        have HB3 := hid (bt' HB.out hb3)
        obtain ⟨XN, HXN⟩ : ∃ m, Hid (cut.length = m) := ⟨_, hid rfl⟩
        simp only [VoM.val]
        rw [HXN.out]
        clear hvo hnx hab hb3 HRD
        rcases hor with ⟨rfl, hm2, hp2⟩ | ⟨rfl, hp2⟩
        · have hm3 : ¬ ((m : Int) < 0) := by omega
          have hsub : IntKind.i64.wrap ((len : Int) - (at' : Int)) = (L : Int) := by rw [IntKind.wrap_i64]; have h1 := HLE.out; omega
          have hm4 : ¬ ((L : Int) < (m : Int)) := by omega
          have hsum : IntKind.i64.wrap ((at' : Int) + (m : Int)) = ((at' + m : Nat) : Int) := by rw [IntKind.wrap_i64]; have h1 := HLE.out; omega
          have HM2 : Hid (at' + m ≤ len) := by have h1 := HLE.out; exact hid (by omega)
          have HNEW : Hid (pRep pVoted x (bs.drop n) = (pRep pVoted (x - (k + 1)) (bs.drop (at' + m))).map (fun r => ((l ++ [(⟨sl, (br, bn), ⟨⟨np, tk, ct, ep, cut⟩, a, c⟩⟩ : VoM)]).map VoM.d ++ r.1, r.2))) := by
            show _ = _
            rw [HREP.out]
            have hs : x - k = (x - (k + 1)) + 1 := by have := HLT.out; omega
            rw [hs]
            show ((pVoted (bs.drop at')).bind fun r => (pRep pVoted (x - (k + 1)) r.2).bind fun t => some (r.1 :: t.1, t.2)).map _ = _
            rw [hp2, Option.bind_some, List.drop_drop]
            cases pRep pVoted (x - (k + 1)) (bs.drop (at' + m)) with
            | none => rfl
            | some t => simp
          have HFEW : Hid (l.length < 1466015503701) := by have h1 := HLL.out; have h2 := HLT.out; exact hid (by omega)
          obtain ⟨W1, hW1⟩ : ∃ V, V = w3.alloc (.cells #[.int .i64 sl, .int .i64 br, .int .i64 bn, .bool np, .string tk, .string ct, .int .i64 ep, .slice a XN c] 73) := ⟨_, rfl⟩
          have hb1 : Below w3.heap.size w3 W1 := by rw [hW1]; exact (Below.refl _ _).alloc (Nat.le_refl _) _
          have HBr : Hid (Below wr.heap.size wr W1) := hid (bt' HBW.out hb1)
          have HN1 : Hid (HN W1 a c cut) := hid (HNX.out.below hb1)
          have HROW1 : Hid (W1.ownsRow w1.heap.size 73 8 (.slice eo k ec) l.length (flatVo l)) := (Turns.of_below (F := fun _ => False) HBr.out (Nat.le_refl _)).row HROW.out (fun _ _ h => h)
          have HB1 : Hid (Below w1.heap.size w1 W1) := hid (bt' HB.out HBr.out)
          have HSZ : Hid (w3.heap.size + 1 = W1.heap.size) := by show _ = _; rw [hW1]; simp
          have HW1 := hid hW1
          clear hp2 hm2 hW1 hb1
          go_wp2_with (at_builtin; refine wpList_append_voR W1 _ ⟨sl, (br, bn), ⟨⟨np, tk, ct, ep, cut⟩, a, c⟩⟩ (by simp only [VoM.cells]; rw [HXN.out, HW1.out]) rfl _ _ rfl w1.heap.size _ l l.length rfl _ rfl rfl (by first | exact HSZ.out | (rw [HW1.out])) HROW1.out HB1.out.size HFEW.out ?_; intro v' w7 hown hbel hgrow; have HO7 := hid hown; have HG7 := hid hgrow; have HB7 := hid (HB1.out.trans hbel); clear hown hbel hgrow)
          have HNXT : Hid (ListGV w1 bs (bs.drop n) x (k + 1) (at' + m) v' w7) := by
            have hg := HG7.out
            rw [← HW1.out] at hg
            have hT7 : Turns (fun i => (Value.slice eo k ec).ownBlock = some i) W1 w7 := ((Turns.refl _ W1).alloc _).grown hg (fun k hk => .inl hk)
            have hoff : ∀ b cs, Blk W1 b 3 cs → ¬ (Value.slice eo k ec).ownBlock = some b := fun b cs hb e => hb.not_row (by decide) HROW1.out e.symm
            have hgo : ∀ a c (cut : List Int), HN W1 a c cut → HN w7 a c cut := fun a c cut hn => hnK hT7 hn (fun b off e _ hF => by obtain ⟨cs, hc⟩ := hn.num b off e; exact hoff b cs hc hF)
            have hnl : ∀ y ∈ l, HN w7 y.en.ao y.en.cap y.en.e.cut := fun y hy => hgo _ _ _ ((HNUM.out y hy).below HBr.out)
            refine ⟨⟨l ++ [⟨sl, (br, bn), ⟨⟨np, tk, ct, ep, cut⟩, a, c⟩⟩], by rw [List.length_append, HLL.out]; rfl, ?_, ?_, ?_, HNEW.out⟩, HB7.out⟩
            · intro y hy
              rcases List.mem_append.1 hy with hy | hy
              · exact (HALL.out y hy).at' (hnl y hy)
              · simp only [List.mem_singleton] at hy
                subst hy
                exact HVO.out.at' (hgo _ _ _ HN1.out)
            · intro y hy
              rcases List.mem_append.1 hy with hy | hy
              · exact hnl y hy
              · simp only [List.mem_singleton] at hy
                subst hy
                exact hgo _ _ _ HN1.out
            · rw [List.length_append]
              exact HO7.out
          go_roundw
          case rel => exact ⟨k + 1, at' + m, HLT.out, HM2.out, by go_num, by rfl, HNXT⟩
          case measure => have := HLT.out; simp [intOf]; omega
        · have HNO : Hid (pRep pVoted x (bs.drop n) = none) := by
            show _ = _
            rw [HREP.out]
            have hs : x - k = (x - (k + 1)) + 1 := by have := HLT.out; omega
            rw [hs]
            show ((pVoted (bs.drop at')).bind fun r => (pRep pVoted (x - (k + 1)) r.2).bind fun t => some (r.1 :: t.1, t.2)).map _ = _
            rw [hp2]
            rfl
          have HBE : Hid (∀ o, Below w1.heap.size w1 (w3.alloc o)) := fun o => HB3.out.alloc HB3.out.size _
          clear hp2
          go_wp2
          go_ret3
          exact ⟨none, 0, [], 0, 10, rfl, heldVN_nil _, Nat.le_refl _, Nat.zero_le _, fun b off e => (by cases e), .inr ⟨rfl, by rw [HPL.out]; exact HNO.out⟩, HBE.out _⟩
      · have hlt' : ¬ (k : Int) < (x : Int) := by omega
        obtain rfl : k = x := by omega
        have HFIN : Hid (pRep pVoted k (bs.drop n) = some (l.map VoM.d, bs.drop at')) := by show _ = _; rw [HREP.out, Nat.sub_self]; simp [pRep]
        obtain ⟨ao2, cap2, hv2, hnc, hheld⟩ := heldVo_of_own HLL.out (HLL.out ▸ HROW.out) HALL.out
        cases hv2
        have HAT := hid hat
        have HHV : Hid (HeldVN wr eo l) := ⟨hheld, HNUM.out⟩
        have HNC := hid hnc
        have HRB : Hid (∀ b off, eo = some ⟨b, off, none⟩ → w1.heap.size ≤ b ∧ ∃ cs, Blk wr b 73 cs) := fun b off e => own_numV HROW.out (by rw [e])
        clear hlt hkx hat hheld hnc
        go_wp2
        go_ret3
        exact ⟨eo, ec, l, at', 0, by rw [HLL.out]; rfl, HHV.out, by rw [HLL.out]; exact HNC.out, by rw [HLL.out]; exact HXM.out, HRB.out, .inl ⟨rfl, HAT.out, by rw [HPL.out]; exact HFIN.out⟩, HB.out⟩
end Go.Proofs.YtfmnbehopdmahaaGreat
/-
  Package codec: a reader's lists of votes.
-/
namespace Go.Proofs.YtfmnbehopdmahaaGreat
open Go.RowKit Go.Maps

theorem HeldVN.turned {F : Nat → Prop} {w w' : World} {ao : Option Addr} {ys : List VoM} (h : HeldVN w ao ys) (ht : Turns F w w') (hn : ∀ b cs, Blk w b 3 cs → ¬ F b) (hb : ∀ b off, ao = some ⟨b, off, none⟩ → ¬ F b) : HeldVN w' ao ys := by
  have hk : ∀ y ∈ ys, HN w' y.en.ao y.en.cap y.en.e.cut := fun y hy => hnK ht (h.num y hy) (fun b off e _ hF => by
    obtain ⟨cs, hc⟩ := (h.num y hy).num b off e
    exact hn b cs hc hF)
  refine ⟨⟨fun y hy => (h.held.1 y hy).at' (hk y hy), ?_⟩, hk⟩
  rcases h.held.2 with h0 | ⟨b, off, h1, h2, h3⟩
  · exact .inl h0
  · refine .inr ⟨b, off, h1, Nat.lt_of_lt_of_le h2 ht.size, fun j hj c u hu => ?_⟩
    have e : w'.cell? ⟨b, off + j * 8 + c, none⟩ = w.cell? ⟨b, off + j * 8 + c, none⟩ := by simp [World.cell?, ht.block b h2 (hb b off h1)]
    rw [e]
    exact h3 j hj c u hu
theorem blk_neR {w : World} {b c : Nat} {t u : TypeId} {xs ys : List Value} (h : Blk w b t xs) (k : Blk w c u ys) (hne : t ≠ u) : b ≠ c := by
  rintro rfl
  have h1 : w.heap[b]? = some (.cells xs.toArray t) := h
  have h2 : w.heap[b]? = some (.cells ys.toArray u) := k
  rw [h1] at h2
  injection h2 with h2
  injection h2 with _ h2
  exact hne h2
/-- A row of votes, made behind a first world. -/
structure VosAt (w : World) (most : Nat) (w' : World) (ao : Option Addr) (cap : Nat) (y : List VoM) : Prop where
  held : HeldVN w' ao y
  room : y.length ≤ cap
  few : y.length ≤ most
  new : ∀ b off, ao = some ⟨b, off, none⟩ → w.heap.size ≤ b ∧ ∃ cs, Blk w' b 73 cs
theorem vosAt_nil (w : World) (most : Nat) (w' : World) : VosAt w most w' none 0 [] := ⟨heldVN_nil _, Nat.le_refl _, Nat.zero_le _, fun b off e => (by cases e)⟩
theorem VosAt.mono {v w : World} {most : Nat} {w' : World} {ao : Option Addr} {cap : Nat} {y : List VoM} (h : VosAt w most w' ao cap y) (hs : v.heap.size ≤ w.heap.size) : VosAt v most w' ao cap y := ⟨h.held, h.room, h.few, fun b off e => ⟨Nat.le_trans hs (h.new b off e).1, (h.new b off e).2⟩⟩
/-- One block of another type is turned. -/
theorem VosAt.other {w : World} {most : Nat} {w' w2 : World} {ao : Option Addr} {cap : Nat} {y : List VoM} {rb : Nat} {t : TypeId} {cs : List Value} (h : VosAt w most w' ao cap y) (ht : Turns (fun i => i = rb) w' w2) (hk : Blk w' rb t cs) (h1 : t ≠ 3) (h2 : t ≠ 73) : VosAt w most w2 ao cap y :=
  have hv : ∀ b off, ao = some ⟨b, off, none⟩ → b ≠ rb := fun b off e => by
    obtain ⟨_, cs', hc⟩ := h.new b off e
    exact blk_neR hc hk (Ne.symm h2)
  ⟨h.held.turned ht (fun b cs' hc => blk_neR hc hk (Ne.symm h1)) hv, h.room, h.few, fun b off e => ⟨(h.new b off e).1, by
    obtain ⟨_, cs', hc⟩ := h.new b off e
    exact ⟨cs', ht.blk hc (hv b off e)⟩⟩⟩
theorem VosAt.turned {w : World} {most : Nat} {w' w2 : World} {ao : Option Addr} {cap : Nat} {y : List VoM} {rb : Nat} {cs : List Value} (h : VosAt w most w' ao cap y) (ht : Turns (fun i => i = rb) w' w2) (hk : Blk w' rb 158 cs) : VosAt w most w2 ao cap y := h.other ht hk (by decide) (by decide)
set_option maxRecDepth 1000000 in
theorem listVo1 (ao : Option Addr) (len cap : Nat) (bs : List Int) (w : World) (mb pb most : Nat) (hm : most ≤ 4096) (h : Held w ao len cap bs) (hkm : Blk w mb 3 [.int .i64 (most : Int)]) (hk : Blk w pb 131 [.func (.func 77) #[] #[]]) : Calls Tryz.prog 120 #[.slice ao len cap, .pointer (some ⟨mb, 0, none⟩), .pointer (some ⟨pb, 0, none⟩)] w (ListVo w len bs most) := by
  have HR := hid (readListVo ao len cap bs w pb most hm h hk)
  have c0 := hkm.cell (i := 0) rfl
  clear h hk hkm
  go_enter Tryz.func120, Tryz.ntmps120
  go_wp2_with fail
  refine HR.out.mono ?_
  rintro e w1 ⟨ao2, cap2, l, n, E, rfl, hA⟩
  have HA := hid hA
  clear hA HR
  go_wp2
  go_ret3
  exact ⟨ao2, cap2, l, n, E, rfl, HA.out⟩
set_option maxRecDepth 1000000 in
set_option maxHeartbeats 4000000 in
theorem RdAt.takeLVo {w : World} {rb : Nat} {ao : Option Addr} {len cap : Nat} {bs : List Int} {st : Option (List Int)} {mb pb : Nat} (h : RdAt w rb ao len cap bs st) (most : Nat) (p : Rdr (List VoD)) (hread : ∀ (at' : Nat) (co : Option Addr) (L C : Nat), Held w co L C (bs.drop at') → L = (bs.drop at').length → ∀ V, ScL w V → Calls Tryz.prog 120 #[.slice co L C, .pointer (some ⟨mb, 0, none⟩), .pointer (some ⟨pb, 0, none⟩)] V (fun e w' => ∃ (ao2 : Option Addr) (cap2 : Nat) (y : List VoM) (n : Nat) (E : Int), e = .returned (.tuple #[.slice ao2 y.length cap2, .int .i64 (n : Int), .int .i64 E]) ∧ Hid ((E = 0 ∧ n ≤ L ∧ p (bs.drop at') = some (y.map VoM.d, (bs.drop at').drop n)) ∨ (E = 10 ∧ p (bs.drop at') = none)) ∧ Hid (VosAt w most w' ao2 cap2 y) ∧ ScL w w')) : Calls Tryz.prog 119 #[.pointer (some ⟨rb, 0, none⟩), .func (.func 120) #[] #[.pointer (some ⟨mb, 0, none⟩), .pointer (some ⟨pb, 0, none⟩)]] w fun e w' => (∃ (ao2 : Option Addr) (cap2 : Nat) (y : List VoM), e = .returned (.slice ao2 y.length cap2) ∧ Got st p (y.map VoM.d) ∧ VosAt w most w' ao2 cap2 y) ∧ RdAt w' rb ao len cap bs (nxt st p) ∧ Turns (fun i => i = rb) w w' := by
  obtain ⟨at', er, hk, hat, hst⟩ := h.blk
  have HH := hid h
  have HK := hid hk
  have c0 := hk.cell (i := 0) rfl
  have c1 := hk.cell (i := 1) rfl
  have c2 := hk.cell (i := 2) rfl
  have f1 := hk.frozen 1
  have f2 := hk.frozen 2
  rcases hst with ⟨rfl, rfl⟩ | ⟨rfl, rfl⟩
  · have hcut : ∀ W, (Instr.slice 66 (.slice ao len cap) (some (.int .i64 (at' : Int))) none none).run Tryz.prog W = .ok (.slice (cutAt ao cap at') (len - at') (cap - at')) W := fun W => run_cut_l W 66 5 Tryz.underlying66 size1R ao len cap at' _ rfl hat
    obtain ⟨co, hco⟩ : ∃ q, q = cutAt ao cap at' := ⟨_, rfl⟩
    obtain ⟨L, hL⟩ : ∃ q, q = len - at' := ⟨_, rfl⟩
    obtain ⟨C, hC⟩ : ∃ q, q = cap - at' := ⟨_, rfl⟩
    have hhc : Held w co L C (bs.drop at') := by rw [hco, hL, hC]; exact h.held.cutl hat
    rw [← hco, ← hL, ← hC] at hcut
    have HRD := hid (hread at' co L C hhc (by rw [hL, List.length_drop, h.held.hlen]))
    have HSA : Hid (∀ V, ScL w V → (ScL w V ∧ V.cell? ⟨rb, 0, none⟩ = some (.slice ao len cap) ∧ V.cell? ⟨rb, 1, none⟩ = some (.int .i64 (at' : Int)))) := fun V hV => ⟨hV, (hV.out.cell (p := ⟨rb, 0, none⟩) HK.out.lt).trans c0, (hV.out.cell (p := ⟨rb, 1, none⟩) HK.out.lt).trans c1⟩
    have HLE0 : Hid (at' + L = len) := hid (by omega)
    have HMX : Hid (len ≤ 9223372036854775807) := by have h1 := h.held.hcap; have h2 := h.held.hmax; unfold maxLen at h2; exact hid (by omega)
    clear hread hhc hco hL hC h hk
    go_enter Tryz.func119, Tryz.ntmps119
    go_wp2
    go_region_held3 (fun V => ScL w V ∧ V.cell? ⟨rb, 0, none⟩ = some (.slice ao len cap) ∧ V.cell? ⟨rb, 1, none⟩ = some (.int .i64 (at' : Int)))
      (first | (refine HSA.out _ ?_; (repeat (first | with_reducible assumption | with_reducible exact ScL.start _ | with_reducible apply ScL.dr)); done))
      ((go_at_call 120; with_reducible refine (HRD.out _ (by (repeat (first | assumption | exact ScL.start _ | apply ScL.dr)))).mono ?_; rintro e w5 ⟨ao2, cap2, y, n, E, rfl, HOR, HVL, hs5⟩))
    all_goals
      rcases HOR.out with ⟨rfl, hn, hp⟩ | ⟨rfl, hp⟩
      · have HLE : Hid (at' + n ≤ len) := by have h1 := HLE0.out; exact hid (by omega)
        clear HOR hn
        have hk5 := HK.out.below hs5.out HK.out.lt
        have d1 := hk5.cell (i := 1) rfl
        have g1 := hk5.frozen 1
        have hsum : IntKind.i64.wrap ((at' : Int) + (n : Int)) = (at' : Int) + (n : Int) := by rw [IntKind.wrap_i64]; have h1 := HLE.out; have h2 := HMX.out; omega
        obtain ⟨W3, hW3⟩ : ∃ V, V = w5.setCell ⟨rb, 1, none⟩ (.int .i64 ((at' : Int) + (n : Int))) := ⟨_, rfl⟩
        have hT : Turns (fun i => i = rb) w5 W3 := by rw [hW3]; exact (Turns.refl (fun i => i = rb) w5).setCell (p := ⟨rb, 1, none⟩) (.inl rfl) _
        have HF : Hid (RdAt W3 rb ao len cap bs (nxt (some (bs.drop at')) p)) := by
          refine ⟨(HH.out.held.below hs5.out (Nat.le_refl _)).turned hT (held_off (HH.out.held.below hs5.out (Nat.le_refl _)) hk5), at' + n, 0, by rw [hW3]; exact hk5.set 1 _, by have h1 := HLE.out; omega, .inl ⟨?_, rfl⟩⟩
          unfold nxt
          rw [Option.bind_some, hp, ← List.drop_drop]
          rfl
        have HT : Hid (Turns (fun i => i = rb) w W3) := (Turns.of_below (F := fun i => i = rb) hs5.out (Nat.le_refl _)).trans hT (fun i hi => .inl hi)
        have HVF : Hid (VosAt w most W3 ao2 cap2 y) := HVL.out.turned hT hk5
        have HP := hid hp
        clear hk5 hT hs5 hp
        go_wp2
        rw [← hW3]
        go_ret
        exact ⟨⟨ao2, cap2, y, rfl, (fun x r hx => by rw [Option.bind_some, HP.out] at hx; cases hx; rfl), HVF.out⟩, HF.out, HT.out⟩
      · clear HOR
        have hk5 := HK.out.below hs5.out HK.out.lt
        have d2 := hk5.cell (i := 2) rfl
        have g2 := hk5.frozen 2
        obtain ⟨W3, hW3⟩ : ∃ V, V = w5.setCell ⟨rb, 2, none⟩ (.int .i64 10) := ⟨_, rfl⟩
        have hT : Turns (fun i => i = rb) w5 W3 := by rw [hW3]; exact (Turns.refl (fun i => i = rb) w5).setCell (p := ⟨rb, 2, none⟩) (.inl rfl) _
        have HF : Hid (RdAt W3 rb ao len cap bs (nxt (some (bs.drop at')) p)) := by
          refine ⟨(HH.out.held.below hs5.out (Nat.le_refl _)).turned hT (held_off (HH.out.held.below hs5.out (Nat.le_refl _)) hk5), at', 10, by rw [hW3]; exact hk5.set 2 _, hat, .inr ⟨?_, rfl⟩⟩
          unfold nxt
          rw [Option.bind_some, hp]
          rfl
        have HT : Hid (Turns (fun i => i = rb) w W3) := (Turns.of_below (F := fun i => i = rb) hs5.out (Nat.le_refl _)).trans hT (fun i hi => .inl hi)
        have HVF : Hid (VosAt w most W3 (none : Option Addr) 0 []) := vosAt_nil _ _ _
        have HP := hid hp
        clear hk5 hT hs5 hp
        go_wp2
        rw [← hW3]
        go_ret
        exact ⟨⟨(none : Option Addr), 0, [], rfl, (fun x r hx => by rw [Option.bind_some, HP.out] at hx; cases hx), HVF.out⟩, HF.out, HT.out⟩
  · clear hk h hread
    go_enter Tryz.func119, Tryz.ntmps119
    go_wp2
    go_ret
    exact ⟨⟨(none : Option Addr), 0, [], rfl, fun x r hx => (by cases hx), vosAt_nil _ _ _⟩, HH.out, Turns.refl _ _⟩
set_option maxRecDepth 1000000 in
set_option maxHeartbeats 1000000 in
/-- listOf of votes. -/
theorem RdAt.listVo {w : World} {rb : Nat} {ao : Option Addr} {len cap : Nat} {bs : List Int} {st : Option (List Int)} (h : RdAt w rb ao len cap bs st) (most : Nat) (hm : most ≤ 4096) : Calls Tryz.prog 76 #[.pointer (some ⟨rb, 0, none⟩), .int .i64 (most : Int), .func (.func 77) #[] #[]] w fun e w' => (∃ (ao2 : Option Addr) (cap2 : Nat) (y : List VoM), e = .returned (.slice ao2 y.length cap2) ∧ Got st (pList most pVoted) (y.map VoM.d) ∧ VosAt w most w' ao2 cap2 y) ∧ RdAt w' rb ao len cap bs (nxt st (pList most pVoted)) ∧ Turns (fun i => i = rb) w w' := by
  obtain ⟨W1, hW1⟩ : ∃ W, W = w.alloc (.cells #[.int .i64 (most : Int)] 3) := ⟨_, rfl⟩
  obtain ⟨W, hW⟩ : ∃ W, W = W1.alloc (.cells #[.func (.func 77) #[] #[]] 131) := ⟨_, rfl⟩
  have hs1 : W1.heap.size = w.heap.size + 1 := by rw [hW1]; simp
  have hb1 : Below w.heap.size w W1 := by rw [hW1]; exact (Below.refl _ _).alloc (Nat.le_refl _) _
  have hb : Below w.heap.size w W := by rw [hW]; exact hb1.alloc hb1.size _
  obtain ⟨mb, hmb⟩ : ∃ q, q = w.heap.size := ⟨_, rfl⟩
  obtain ⟨pb, hpb⟩ : ∃ q, q = w.heap.size + 1 := ⟨_, rfl⟩
  have HKM : Hid (Blk W mb 3 [.int .i64 (most : Int)]) := by rw [hmb, hW, hW1]; exact (Blk.new w _ _).alloc _
  have HKP : Hid (Blk W pb 131 [.func (.func 77) #[] #[]]) := by rw [hpb, hW, ← hs1]; exact Blk.new W1 _ _
  have HTK := hid ((h.below hb).takeLVo (mb := mb) (pb := pb) most (pList most pVoted) (fun at' co L C hc hL V hV => by
    refine (listVo1 co L C (bs.drop at') V mb pb most hm (hc.below hV.out (Nat.le_refl _)) (HKM.out.below hV.out HKM.out.lt) (HKP.out.below hV.out HKP.out.lt)).mono ?_
    rintro e w' ⟨ao2, cap2, l, n, E, he, hv, hc1, hc2, hab, hor, hb'⟩
    exact ⟨ao2, cap2, l, n, E, he, hor, ⟨hv, hc1, hc2, fun b off e => ⟨Nat.le_trans hV.out.size (hab b off e).1, (hab b off e).2⟩⟩, hV.go hb'⟩))
  have HW : Hid (W = (w.alloc (.cells #[.int .i64 (most : Int)] 3)).alloc (.cells #[.func (.func 77) #[] #[]] 131)) := by show _ = _; rw [hW, hW1]
  have HMB := hid hmb
  have HPB := hid hpb
  have HB := hid hb
  clear h hW hW1 hs1 hb1 hb hmb hpb
  go_enter Tryz.func76, Tryz.ntmps76
  go_wp2_with fail
  rw [← HW.out, ← HPB.out, ← HMB.out]
  refine HTK.out.mono ?_
  rintro e w1 ⟨⟨ao2, cap2, y, rfl, hg, hv⟩, hr, ht⟩
  have HA := hid (And.intro hg (hv.mono HB.out.size))
  have HR := hid hr
  have HT : Hid (Turns (fun i => i = rb) w w1) := (Turns.of_below (F := fun i => i = rb) HB.out (Nat.le_refl _)).trans ht (fun _ hi => .inl hi)
  clear hg hv hr ht HTK
  go_wp2
  go_ret
  exact ⟨⟨ao2, cap2, y, rfl, HA.out.1, HA.out.2⟩, HR.out, HT.out⟩
end Go.Proofs.YtfmnbehopdmahaaGreat
/-
  Package codec: ReadList of events.
-/
namespace Go.Proofs.YtfmnbehopdmahaaGreat
open Go.RowKit Go.Maps

/-- A row of events that a reader made: each cut in a block of numbers. -/
structure HeldEN (w : World) (ao : Option Addr) (ys : List EvM) : Prop where
  held : HeldE w ao ys
  num : ∀ y ∈ ys, HN w y.ao y.cap y.e.deps
theorem heldEN_nil (w : World) : HeldEN w none [] := ⟨⟨fun y hy => (by cases hy), .inl rfl⟩, fun y hy => (by cases hy)⟩
theorem EvOk.at' {w w' : World} {x : EvM} (h : EvOk w x) (hn : HN w' x.ao x.cap x.e.deps) : EvOk w' x := ⟨hn.hv, h.io, h.is, h.ie, h.iq, h.hc, h.hs⟩
theorem wpList_append_evR {ops : Array Oper} {rest : List Oper} {o : Oper} {a : Act} {Q : Exit → Act → World → Prop} (W0 W : World) (x : EvM) (hW : W = W0.alloc (.cells x.cells.toArray 97)) (hgd : o.guard = none) (s xx : Operand)
    (ho : o.op = .call { callee := .builtin .append, args := #[s, xx], argTypes := #[41, 41] }) (B : Nat) (v : Value) (ds : List EvM) (n : Nat) (hn : ds.length = n) (g : Nat)
    (hs : a.eval s = v) (hx : a.eval xx = .slice (some ⟨g, 0, none⟩) 1 1) (hg : g = W0.heap.size) (hown : W0.ownsRow B 97 8 v n (flatE ds)) (hB : B ≤ W0.heap.size) (hl : n < 1466015503701)
    (h : ∀ v' w', w'.ownsRow B 97 8 v' (n + 1) (flatE (ds ++ [x])) → Below B W0 w' → W.grownBy w' v.ownBlock → wpList Tryz.prog ops Q rest (a.put o.dst v') w') :
    wpList Tryz.prog ops Q (o :: rest) a W := by
  subst hg
  exact wpList_append_ev W0 W x hW hgd s xx ho B v ds n hn hs hx hown hB hl h
set_option maxRecDepth 1000000 in
set_option maxHeartbeats 4000000 in
theorem listEv11 (ao : Option Addr) (len cap : Nat) (bs : List Int) (w : World) (pb : Nat) (h : Held w ao len cap bs) (hk : Blk w pb 133 [.func (.func 80) #[] #[]]) : Calls Tryz.prog 130 #[.slice ao len cap, .pointer (some ⟨pb, 0, none⟩)] w (ReadEv w len bs) := by
  obtain ⟨W, hW⟩ : ∃ W, W = w.alloc (.cells #[.int .i64 0, .int .i64 0, .slice none 0 0, .string ⟨#[]⟩, .int .i64 0, .string ⟨#[]⟩, .int .i64 0, .bool false] 97) := ⟨_, rfl⟩
  have hb : Below w.heap.size w W := by rw [hW]; exact (Below.refl _ _).alloc (Nat.le_refl _) _
  have c0 := (hk.below hb hk.lt).cell (i := 0) rfl
  rw [hW] at c0
  obtain ⟨rs, hrs⟩ : ∃ q, q = w.heap.size := ⟨_, rfl⟩
  have HKR : Hid (Blk W rs 97 [.int .i64 0, .int .i64 0, .slice none 0 0, .string ⟨#[]⟩, .int .i64 0, .string ⟨#[]⟩, .int .i64 0, .bool false]) := by rw [hrs, hW]; exact Blk.new w _ _
  have HR := hid (readByEv ao len cap bs W (h.below hb (Nat.le_refl _)))
  have HW := hid hW
  have HRS := hid hrs
  have HB := hid hb
  have HSZ : Hid (W.heap.size = w.heap.size + 1) := by show _ = _; rw [hW]; simp
  clear h hk hW hrs hb
  go_enter Tryz.func130, Tryz.ntmps130
  go_wp2_with fail
  rw [← HW.out]
  refine HR.out.mono ?_
  rintro e w1 ⟨⟨⟨oo, ss, cut, ct, ep, sk, qy, cl⟩, a, c⟩, n, E, rfl, hvo, hnx, hab, hor, hb1⟩
  obtain ⟨XN, HXN⟩ : ∃ m, Hid (cut.length = m) := ⟨_, hid rfl⟩
  simp only [EvM.val]
  rw [HXN.out, ← HRS.out]
  have hkr1 := HKR.out.below hb1 HKR.out.lt
  have r0 := hkr1.cell (i := 0) rfl
  have f0 := hkr1.frozen 0
  have r1 := hkr1.cell (i := 1) rfl
  have f1 := hkr1.frozen 1
  have r2 := hkr1.cell (i := 2) rfl
  have f2 := hkr1.frozen 2
  have r3 := hkr1.cell (i := 3) rfl
  have f3 := hkr1.frozen 3
  have r4 := hkr1.cell (i := 4) rfl
  have f4 := hkr1.frozen 4
  have r5 := hkr1.cell (i := 5) rfl
  have f5 := hkr1.frozen 5
  have r6 := hkr1.cell (i := 6) rfl
  have f6 := hkr1.frozen 6
  have r7 := hkr1.cell (i := 7) rfl
  have f7 := hkr1.frozen 7
  obtain ⟨W9, hW9⟩ : ∃ V, V = (((((((w1.setCell ⟨rs, 0, none⟩ (.int .i64 oo)).setCell ⟨rs, 1, none⟩ (.int .i64 ss)).setCell ⟨rs, 2, none⟩ (.slice a XN c)).setCell ⟨rs, 3, none⟩ (.string ct)).setCell ⟨rs, 4, none⟩ (.int .i64 ep)).setCell ⟨rs, 5, none⟩ (.string sk)).setCell ⟨rs, 6, none⟩ (.int .i64 qy)).setCell ⟨rs, 7, none⟩ (.bool cl) := ⟨_, rfl⟩
  have hk9 : Blk W9 rs 97 [.int .i64 oo, .int .i64 ss, .slice a XN c, .string ct, .int .i64 ep, .string sk, .int .i64 qy, .bool cl] := by rw [hW9]; exact ((((((((hkr1.set 0 _).set 1 _).set 2 _).set 3 _).set 4 _).set 5 _).set 6 _).set 7 _)
  have hst : Turns (fun i => i = rs) w1 W9 := by rw [hW9]; exact (((((((((Turns.refl (fun i => i = rs) w1).setCell (p := ⟨rs, 0, none⟩) (.inl rfl) _).setCell (p := ⟨rs, 1, none⟩) (.inl rfl) _).setCell (p := ⟨rs, 2, none⟩) (.inl rfl) _).setCell (p := ⟨rs, 3, none⟩) (.inl rfl) _).setCell (p := ⟨rs, 4, none⟩) (.inl rfl) _).setCell (p := ⟨rs, 5, none⟩) (.inl rfl) _).setCell (p := ⟨rs, 6, none⟩) (.inl rfl) _).setCell (p := ⟨rs, 7, none⟩) (.inl rfl) _)
  have HAB : Hid (∀ b off, a = some ⟨b, off, none⟩ → cut ≠ [] → rs < b) := fun b off e hne => by have h1 := hab b off e hne; have h2 := HSZ.out; have h3 := HRS.out; omega
  have HN9 : Hid (HN W9 a c cut) := hnK hst hnx (fun b off e hne hh => by have h1 := HAB.out b off e hne; omega)
  have HVO : Hid (EvOk W9 ⟨⟨oo, ss, cut, ct, ep, sk, qy, cl⟩, a, c⟩) := hvo.at' HN9.out
  have HBF : Hid (Below w.heap.size w W9) := (HB.out.trans (hb1.mono HB.out.size)).trans (hst.below (fun i hh => by rw [hh, HRS.out]; exact Nat.le_refl _) (HB.out.trans (hb1.mono HB.out.size)).size)
  have HOR := hid hor
  have k0 := hk9.cell (i := 0) rfl
  have k1 := hk9.cell (i := 1) rfl
  have k2 := hk9.cell (i := 2) rfl
  have k3 := hk9.cell (i := 3) rfl
  have k4 := hk9.cell (i := 4) rfl
  have k5 := hk9.cell (i := 5) rfl
  have k6 := hk9.cell (i := 6) rfl
  have k7 := hk9.cell (i := 7) rfl
  clear hk9 hst hkr1 hvo hnx hab hor hb1 HR
  go_wp2
  rw [← hW9]
  (try simp only [Exit.inBlock, Exit.then])
  refine bodyPost_ret (v := .tuple #[.agg #[.int .i64 oo, .int .i64 ss, .slice a XN c, .string ct, .int .i64 ep, .string sk, .int .i64 qy, .bool cl], .int .i64 (n : Int), .int .i64 E]) ?_ rfl ⟨⟨⟨oo, ss, cut, ct, ep, sk, qy, cl⟩, a, c⟩, n, E, by simp only [EvM.val]; rw [HXN.out], HVO.out, HN9.out, fun b off e hne => by have h1 := HAB.out b off e hne; have h2 := HRS.out; omega, HOR.out, HBF.out⟩
  rw [results_cellR3 rfl]
  go_simp
/-- What ReadList answers. -/
def ListEv (w : World) (len : Nat) (bs : List Int) (most : Nat) (e : Ending) (w' : World) : Prop := ∃ (ao : Option Addr) (cap : Nat) (l : List EvM) (n : Nat) (E : Int), e = .returned (.tuple #[.slice ao l.length cap, .int .i64 (n : Int), .int .i64 E]) ∧ HeldEN w' ao l ∧ l.length ≤ cap ∧ l.length ≤ most ∧ (∀ b off, ao = some ⟨b, off, none⟩ → w.heap.size ≤ b ∧ ∃ cs, Blk w' b 97 cs) ∧ ((E = 0 ∧ n ≤ len ∧ pList most pEvent bs = some (l.map EvM.e, bs.drop n)) ∨ (E = 10 ∧ pList most pEvent bs = none)) ∧ Below w.heap.size w w'
theorem eql_readEv (W : World) (pb : Nat) : (binOp .eql 176 (.func (.func 130) #[] #[.pointer (some ⟨pb, 0, none⟩)]) .nilFunc).run Tryz.prog W = .ok (.bool false) W := by kernel_rfl
/-- Between two rounds. -/
structure ListGE (w : World) (bs b0 : List Int) (c : Nat) (k at' : Nat) (v : Value) (wr : World) : Prop where
  ex : ∃ l : List EvM, l.length = k ∧ AllOk wr l ∧ (∀ y ∈ l, HN wr y.ao y.cap y.e.deps) ∧ wr.ownsRow w.heap.size 97 8 v l.length (flatE l) ∧ pRep pEvent c b0 = (pRep pEvent (c - k) (bs.drop at')).map (fun r => (l.map EvM.e ++ r.1, r.2))
  bel : Below w.heap.size w wr
set_option maxRecDepth 1000000 in
set_option maxHeartbeats 8000000 in
theorem readListEv (ao : Option Addr) (len cap : Nat) (bs : List Int) (w : World) (pb most : Nat) (hm : most ≤ 4096) (h : Held w ao len cap bs) (hk : Blk w pb 133 [.func (.func 80) #[] #[]]) : Calls Tryz.prog 129 #[.slice ao len cap, .int .i64 (most : Int), .func (.func 130) #[] #[.pointer (some ⟨pb, 0, none⟩)]] w (ListEv w len bs most) := by
  have hrc := readCount_any ao len cap bs (most : Int) w h (by omega) (by omega)
  have heq := eql_readEv
  have HH := hid h
  have HK := hid hk
  have HLN : Hid (bs.length = len) := h.hlen
  have HCP : Hid (len ≤ cap) := h.hcap
  have hmx : (len : Int) ≤ 9223372036854775807 := by have h1 := h.hcap; have h2 := h.hmax; unfold maxLen at h2; omega
  rcases cnt_num (most := most) h.byte with ⟨hp, hc⟩ | ⟨x, n, hc, hx, hn, hp⟩
  · rw [hc] at hrc
    have HRC := hid hrc
    have HP := hid hp
    clear hrc hc hp h hk
    go_enter Tryz.func129, Tryz.ntmps129
    go_wp2_with fail
    refine HRC.out.mono ?_
    rintro e w1 ⟨rfl, rfl⟩
    go_wp2
    go_ret3
    exact ⟨none, 0, [], 0, 10, rfl, heldEN_nil _, Nat.le_refl _, Nat.zero_le _, fun b off e => (by cases e), .inr ⟨rfl, by unfold pList; rw [HP.out]; rfl⟩, Below.refl _ _⟩
  · rw [hc] at hrc
    have HRC := hid hrc
    have HPL : Hid (pList most pEvent bs = pRep pEvent x (bs.drop n)) := by show _ = _; unfold pList; rw [hp]; show pRep pEvent (x : Int).toNat (bs.drop n) = _; rw [Int.toNat_natCast]
    have hxm : x ≤ 4096 := by omega
    have HXM := hid hx
    have hnl : n ≤ len := by rw [← HLN.out]; exact hn
    have HNL := hid hnl
    clear hrc hc hp h hk hx hn
    go_enter Tryz.func129, Tryz.ntmps129
    go_wp2_with fail
    refine HRC.out.mono ?_
    rintro e w1 ⟨rfl, rfl⟩
    clear HRC
    go_wp2
    go_loopw [10, 12, 13, 14, 15, 33] (fun a v _ _ _ i wr => ∃ (k at' : Nat), k ≤ x ∧ at' ≤ len ∧ i = .int .i64 k ∧ a = .int .i64 at' ∧ Hid (ListGE w1 bs (bs.drop n) x k at' v wr)) (fun _ _ _ _ _ i _ => x - (intOf i).toNat)
    case atStart => exact ⟨0, n, Nat.zero_le _, HNL.out, rfl, rfl, ⟨⟨[], rfl, fun y hy => (by cases hy), fun y hy => (by cases hy), World.ownsRow_nil _ _ _ _, by simp⟩, Below.refl _ _⟩⟩
    case round =>
      obtain ⟨k, at', hkx, hat, rfl, rfl, HG⟩ := hrel
      obtain ⟨l, hll, hall, hnum, hrow, hrep⟩ := HG.out.ex
      have HB := hid HG.out.bel
      have HALL := hid hall
      have HNUM := hid hnum
      have HROW := hid hrow
      have HREP := hid hrep
      have HLL := hid hll
      obtain ⟨eo, ec, hv⟩ := own_sliceC hrow
      rw [hll] at hv
      subst hv
      clear hrow hrep hall hnum HG
      by_cases hlt : k < x
      · have hlt' : (k : Int) < (x : Int) := by omega
        have HLT := hid hlt
        have hcut : ∀ W, (Instr.slice 66 (.slice ao len cap) (some (.int .i64 (at' : Int))) (some (.int .i64 (len : Int))) (some (.int .i64 (len : Int)))).run Tryz.prog W = .ok (.slice (cutAt ao len at') (len - at') (len - at')) W := fun W => run_cut_lhmR W 66 5 Tryz.underlying66 size1R ao len cap at' _ rfl hat HCP.out
        obtain ⟨co, hco⟩ : ∃ q, q = cutAt ao len at' := ⟨_, rfl⟩
        obtain ⟨L, hL⟩ : ∃ q, q = len - at' := ⟨_, rfl⟩
        have hhc : Held w1 co L L (bs.drop at') := by rw [hco, hL]; exact heldCutR HH.out hat
        rw [← hco, ← hL] at hcut
        have HLE : Hid (at' + L = len) := hid (by omega)
        have HRD := hid (listEv11 co L L (bs.drop at') wr pb (hhc.below HB.out (Nat.le_refl _)) (HK.out.below HB.out HK.out.lt))
        have HAT := hid hat
        clear hlt hkx hat hco hL hhc hll
        go_wp2_with fail
        refine HRD.out.mono ?_
        rintro e w3 ⟨⟨⟨oo, ss, cut, ct, ep, sk, qy, cl⟩, a, c⟩, m, E, rfl, hvo, hnx, hab, hor, hb3⟩
        have HVO := hid hvo
        have HNX := hid hnx
        have HBW := hid hb3
        have HB3 := hid (bt' HB.out hb3)
        obtain ⟨XN, HXN⟩ : ∃ m, Hid (cut.length = m) := ⟨_, hid rfl⟩
        simp only [EvM.val]
        rw [HXN.out]
        clear hvo hnx hab hb3 HRD
        rcases hor with ⟨rfl, hm2, hp2⟩ | ⟨rfl, hp2⟩
        · have hm3 : ¬ ((m : Int) < 0) := by omega
          have hsub : IntKind.i64.wrap ((len : Int) - (at' : Int)) = (L : Int) := by rw [IntKind.wrap_i64]; have h1 := HLE.out; omega
          have hm4 : ¬ ((L : Int) < (m : Int)) := by omega
          have hsum : IntKind.i64.wrap ((at' : Int) + (m : Int)) = ((at' + m : Nat) : Int) := by rw [IntKind.wrap_i64]; have h1 := HLE.out; omega
          have HM2 : Hid (at' + m ≤ len) := by have h1 := HLE.out; exact hid (by omega)
          have HNEW : Hid (pRep pEvent x (bs.drop n) = (pRep pEvent (x - (k + 1)) (bs.drop (at' + m))).map (fun r => ((l ++ [(⟨⟨oo, ss, cut, ct, ep, sk, qy, cl⟩, a, c⟩ : EvM)]).map EvM.e ++ r.1, r.2))) := by
            show _ = _
            rw [HREP.out]
            have hs : x - k = (x - (k + 1)) + 1 := by have := HLT.out; omega
            rw [hs]
            show ((pEvent (bs.drop at')).bind fun r => (pRep pEvent (x - (k + 1)) r.2).bind fun t => some (r.1 :: t.1, t.2)).map _ = _
            rw [hp2, Option.bind_some, List.drop_drop]
            cases pRep pEvent (x - (k + 1)) (bs.drop (at' + m)) with
            | none => rfl
            | some t => simp
          have HFEW : Hid (l.length < 1466015503701) := by have h1 := HLL.out; have h2 := HLT.out; exact hid (by omega)
          obtain ⟨W1, hW1⟩ : ∃ V, V = w3.alloc (.cells #[.int .i64 oo, .int .i64 ss, .slice a XN c, .string ct, .int .i64 ep, .string sk, .int .i64 qy, .bool cl] 97) := ⟨_, rfl⟩
          have hb1 : Below w3.heap.size w3 W1 := by rw [hW1]; exact (Below.refl _ _).alloc (Nat.le_refl _) _
          have HBr : Hid (Below wr.heap.size wr W1) := hid (bt' HBW.out hb1)
          have HN1 : Hid (HN W1 a c cut) := hid (HNX.out.below hb1)
          have HROW1 : Hid (W1.ownsRow w1.heap.size 97 8 (.slice eo k ec) l.length (flatE l)) := (Turns.of_below (F := fun _ => False) HBr.out (Nat.le_refl _)).row HROW.out (fun _ _ h => h)
          have HB1 : Hid (Below w1.heap.size w1 W1) := hid (bt' HB.out HBr.out)
          have HSZ : Hid (w3.heap.size + 1 = W1.heap.size) := by show _ = _; rw [hW1]; simp
          have HW1 := hid hW1
          clear hp2 hm2 hW1 hb1
          go_wp2_with (at_builtin; refine wpList_append_evR W1 _ ⟨⟨oo, ss, cut, ct, ep, sk, qy, cl⟩, a, c⟩ (by simp only [EvM.cells]; rw [HXN.out, HW1.out]) rfl _ _ rfl w1.heap.size _ l l.length rfl _ rfl rfl (by first | exact HSZ.out | (rw [HW1.out])) HROW1.out HB1.out.size HFEW.out ?_; intro v' w7 hown hbel hgrow; have HO7 := hid hown; have HG7 := hid hgrow; have HB7 := hid (HB1.out.trans hbel); clear hown hbel hgrow)
          have HNXT : Hid (ListGE w1 bs (bs.drop n) x (k + 1) (at' + m) v' w7) := by
            have hg := HG7.out
            rw [← HW1.out] at hg
            have hT7 : Turns (fun i => (Value.slice eo k ec).ownBlock = some i) W1 w7 := ((Turns.refl _ W1).alloc _).grown hg (fun k hk => .inl hk)
            have hoff : ∀ b cs, Blk W1 b 3 cs → ¬ (Value.slice eo k ec).ownBlock = some b := fun b cs hb e => hb.not_row (by decide) HROW1.out e.symm
            have hgo : ∀ a c (cut : List Int), HN W1 a c cut → HN w7 a c cut := fun a c cut hn => hnK hT7 hn (fun b off e _ hF => by obtain ⟨cs, hc⟩ := hn.num b off e; exact hoff b cs hc hF)
            have hnl : ∀ y ∈ l, HN w7 y.ao y.cap y.e.deps := fun y hy => hgo _ _ _ ((HNUM.out y hy).below HBr.out)
            refine ⟨⟨l ++ [⟨⟨oo, ss, cut, ct, ep, sk, qy, cl⟩, a, c⟩], by rw [List.length_append, HLL.out]; rfl, ?_, ?_, ?_, HNEW.out⟩, HB7.out⟩
            · intro y hy
              rcases List.mem_append.1 hy with hy | hy
              · exact (HALL.out y hy).at' (hnl y hy)
              · simp only [List.mem_singleton] at hy
                subst hy
                exact HVO.out.at' (hgo _ _ _ HN1.out)
            · intro y hy
              rcases List.mem_append.1 hy with hy | hy
              · exact hnl y hy
              · simp only [List.mem_singleton] at hy
                subst hy
                exact hgo _ _ _ HN1.out
            · rw [List.length_append]
              exact HO7.out
          go_roundw
          case rel => exact ⟨k + 1, at' + m, HLT.out, HM2.out, by go_num, by rfl, HNXT⟩
          case measure => have := HLT.out; simp [intOf]; omega
        · have HNO : Hid (pRep pEvent x (bs.drop n) = none) := by
            show _ = _
            rw [HREP.out]
            have hs : x - k = (x - (k + 1)) + 1 := by have := HLT.out; omega
            rw [hs]
            show ((pEvent (bs.drop at')).bind fun r => (pRep pEvent (x - (k + 1)) r.2).bind fun t => some (r.1 :: t.1, t.2)).map _ = _
            rw [hp2]
            rfl
          have HBE : Hid (∀ o, Below w1.heap.size w1 (w3.alloc o)) := fun o => HB3.out.alloc HB3.out.size _
          clear hp2
          go_wp2
          go_ret3
          exact ⟨none, 0, [], 0, 10, rfl, heldEN_nil _, Nat.le_refl _, Nat.zero_le _, fun b off e => (by cases e), .inr ⟨rfl, by rw [HPL.out]; exact HNO.out⟩, HBE.out _⟩
      · have hlt' : ¬ (k : Int) < (x : Int) := by omega
        obtain rfl : k = x := by omega
        have HFIN : Hid (pRep pEvent k (bs.drop n) = some (l.map EvM.e, bs.drop at')) := by show _ = _; rw [HREP.out, Nat.sub_self]; simp [pRep]
        obtain ⟨ao2, cap2, hv2, hnc, hheld⟩ := heldE_of_own HLL.out (HLL.out ▸ HROW.out) HALL.out
        cases hv2
        have HAT := hid hat
        have HHV : Hid (HeldEN wr eo l) := ⟨hheld, HNUM.out⟩
        have HNC := hid hnc
        have HRB : Hid (∀ b off, eo = some ⟨b, off, none⟩ → w1.heap.size ≤ b ∧ ∃ cs, Blk wr b 97 cs) := fun b off e => own_numV HROW.out (by rw [e])
        clear hlt hkx hat hheld hnc
        go_wp2
        go_ret3
        exact ⟨eo, ec, l, at', 0, by rw [HLL.out]; rfl, HHV.out, by rw [HLL.out]; exact HNC.out, by rw [HLL.out]; exact HXM.out, HRB.out, .inl ⟨rfl, HAT.out, by rw [HPL.out]; exact HFIN.out⟩, HB.out⟩
end Go.Proofs.YtfmnbehopdmahaaGreat
/-
  Package codec: a reader's lists of events.
-/
namespace Go.Proofs.YtfmnbehopdmahaaGreat
open Go.RowKit Go.Maps

theorem HeldEN.turned {F : Nat → Prop} {w w' : World} {ao : Option Addr} {ys : List EvM} (h : HeldEN w ao ys) (ht : Turns F w w') (hn : ∀ b cs, Blk w b 3 cs → ¬ F b) (hb : ∀ b off, ao = some ⟨b, off, none⟩ → ¬ F b) : HeldEN w' ao ys := by
  have hk : ∀ y ∈ ys, HN w' y.ao y.cap y.e.deps := fun y hy => hnK ht (h.num y hy) (fun b off e _ hF => by
    obtain ⟨cs, hc⟩ := (h.num y hy).num b off e
    exact hn b cs hc hF)
  refine ⟨⟨fun y hy => (h.held.1 y hy).at' (hk y hy), ?_⟩, hk⟩
  rcases h.held.2 with h0 | ⟨b, off, h1, h2, h3⟩
  · exact .inl h0
  · refine .inr ⟨b, off, h1, Nat.lt_of_lt_of_le h2 ht.size, fun j hj c u hu => ?_⟩
    have e : w'.cell? ⟨b, off + j * 8 + c, none⟩ = w.cell? ⟨b, off + j * 8 + c, none⟩ := by simp [World.cell?, ht.block b h2 (hb b off h1)]
    rw [e]
    exact h3 j hj c u hu
/-- A row of events, made behind a first world. -/
structure EvsAt (w : World) (most : Nat) (w' : World) (ao : Option Addr) (cap : Nat) (y : List EvM) : Prop where
  held : HeldEN w' ao y
  room : y.length ≤ cap
  few : y.length ≤ most
  new : ∀ b off, ao = some ⟨b, off, none⟩ → w.heap.size ≤ b ∧ ∃ cs, Blk w' b 97 cs
theorem evsAt_nil (w : World) (most : Nat) (w' : World) : EvsAt w most w' none 0 [] := ⟨heldEN_nil _, Nat.le_refl _, Nat.zero_le _, fun b off e => (by cases e)⟩
theorem EvsAt.mono {v w : World} {most : Nat} {w' : World} {ao : Option Addr} {cap : Nat} {y : List EvM} (h : EvsAt w most w' ao cap y) (hs : v.heap.size ≤ w.heap.size) : EvsAt v most w' ao cap y := ⟨h.held, h.room, h.few, fun b off e => ⟨Nat.le_trans hs (h.new b off e).1, (h.new b off e).2⟩⟩
/-- One block of another type is turned. -/
theorem EvsAt.other {w : World} {most : Nat} {w' w2 : World} {ao : Option Addr} {cap : Nat} {y : List EvM} {rb : Nat} {t : TypeId} {cs : List Value} (h : EvsAt w most w' ao cap y) (ht : Turns (fun i => i = rb) w' w2) (hk : Blk w' rb t cs) (h1 : t ≠ 3) (h2 : t ≠ 97) : EvsAt w most w2 ao cap y :=
  have hv : ∀ b off, ao = some ⟨b, off, none⟩ → b ≠ rb := fun b off e => by
    obtain ⟨_, cs', hc⟩ := h.new b off e
    exact blk_neR hc hk (Ne.symm h2)
  ⟨h.held.turned ht (fun b cs' hc => blk_neR hc hk (Ne.symm h1)) hv, h.room, h.few, fun b off e => ⟨(h.new b off e).1, by
    obtain ⟨_, cs', hc⟩ := h.new b off e
    exact ⟨cs', ht.blk hc (hv b off e)⟩⟩⟩
theorem EvsAt.turned {w : World} {most : Nat} {w' w2 : World} {ao : Option Addr} {cap : Nat} {y : List EvM} {rb : Nat} {cs : List Value} (h : EvsAt w most w' ao cap y) (ht : Turns (fun i => i = rb) w' w2) (hk : Blk w' rb 158 cs) : EvsAt w most w2 ao cap y := h.other ht hk (by decide) (by decide)
set_option maxRecDepth 1000000 in
theorem listEv1 (ao : Option Addr) (len cap : Nat) (bs : List Int) (w : World) (mb pb most : Nat) (hm : most ≤ 4096) (h : Held w ao len cap bs) (hkm : Blk w mb 3 [.int .i64 (most : Int)]) (hk : Blk w pb 133 [.func (.func 80) #[] #[]]) : Calls Tryz.prog 128 #[.slice ao len cap, .pointer (some ⟨mb, 0, none⟩), .pointer (some ⟨pb, 0, none⟩)] w (ListEv w len bs most) := by
  have HR := hid (readListEv ao len cap bs w pb most hm h hk)
  have c0 := hkm.cell (i := 0) rfl
  clear h hk hkm
  go_enter Tryz.func128, Tryz.ntmps128
  go_wp2_with fail
  refine HR.out.mono ?_
  rintro e w1 ⟨ao2, cap2, l, n, E, rfl, hA⟩
  have HA := hid hA
  clear hA HR
  go_wp2
  go_ret3
  exact ⟨ao2, cap2, l, n, E, rfl, HA.out⟩
set_option maxRecDepth 1000000 in
set_option maxHeartbeats 4000000 in
theorem RdAt.takeLEv {w : World} {rb : Nat} {ao : Option Addr} {len cap : Nat} {bs : List Int} {st : Option (List Int)} {mb pb : Nat} (h : RdAt w rb ao len cap bs st) (most : Nat) (p : Rdr (List Ev)) (hread : ∀ (at' : Nat) (co : Option Addr) (L C : Nat), Held w co L C (bs.drop at') → L = (bs.drop at').length → ∀ V, ScL w V → Calls Tryz.prog 128 #[.slice co L C, .pointer (some ⟨mb, 0, none⟩), .pointer (some ⟨pb, 0, none⟩)] V (fun e w' => ∃ (ao2 : Option Addr) (cap2 : Nat) (y : List EvM) (n : Nat) (E : Int), e = .returned (.tuple #[.slice ao2 y.length cap2, .int .i64 (n : Int), .int .i64 E]) ∧ Hid ((E = 0 ∧ n ≤ L ∧ p (bs.drop at') = some (y.map EvM.e, (bs.drop at').drop n)) ∨ (E = 10 ∧ p (bs.drop at') = none)) ∧ Hid (EvsAt w most w' ao2 cap2 y) ∧ ScL w w')) : Calls Tryz.prog 127 #[.pointer (some ⟨rb, 0, none⟩), .func (.func 128) #[] #[.pointer (some ⟨mb, 0, none⟩), .pointer (some ⟨pb, 0, none⟩)]] w fun e w' => (∃ (ao2 : Option Addr) (cap2 : Nat) (y : List EvM), e = .returned (.slice ao2 y.length cap2) ∧ Got st p (y.map EvM.e) ∧ EvsAt w most w' ao2 cap2 y) ∧ RdAt w' rb ao len cap bs (nxt st p) ∧ Turns (fun i => i = rb) w w' := by
  obtain ⟨at', er, hk, hat, hst⟩ := h.blk
  have HH := hid h
  have HK := hid hk
  have c0 := hk.cell (i := 0) rfl
  have c1 := hk.cell (i := 1) rfl
  have c2 := hk.cell (i := 2) rfl
  have f1 := hk.frozen 1
  have f2 := hk.frozen 2
  rcases hst with ⟨rfl, rfl⟩ | ⟨rfl, rfl⟩
  · have hcut : ∀ W, (Instr.slice 66 (.slice ao len cap) (some (.int .i64 (at' : Int))) none none).run Tryz.prog W = .ok (.slice (cutAt ao cap at') (len - at') (cap - at')) W := fun W => run_cut_l W 66 5 Tryz.underlying66 size1R ao len cap at' _ rfl hat
    obtain ⟨co, hco⟩ : ∃ q, q = cutAt ao cap at' := ⟨_, rfl⟩
    obtain ⟨L, hL⟩ : ∃ q, q = len - at' := ⟨_, rfl⟩
    obtain ⟨C, hC⟩ : ∃ q, q = cap - at' := ⟨_, rfl⟩
    have hhc : Held w co L C (bs.drop at') := by rw [hco, hL, hC]; exact h.held.cutl hat
    rw [← hco, ← hL, ← hC] at hcut
    have HRD := hid (hread at' co L C hhc (by rw [hL, List.length_drop, h.held.hlen]))
    have HSA : Hid (∀ V, ScL w V → (ScL w V ∧ V.cell? ⟨rb, 0, none⟩ = some (.slice ao len cap) ∧ V.cell? ⟨rb, 1, none⟩ = some (.int .i64 (at' : Int)))) := fun V hV => ⟨hV, (hV.out.cell (p := ⟨rb, 0, none⟩) HK.out.lt).trans c0, (hV.out.cell (p := ⟨rb, 1, none⟩) HK.out.lt).trans c1⟩
    have HLE0 : Hid (at' + L = len) := hid (by omega)
    have HMX : Hid (len ≤ 9223372036854775807) := by have h1 := h.held.hcap; have h2 := h.held.hmax; unfold maxLen at h2; exact hid (by omega)
    clear hread hhc hco hL hC h hk
    go_enter Tryz.func127, Tryz.ntmps127
    go_wp2
    go_region_held3 (fun V => ScL w V ∧ V.cell? ⟨rb, 0, none⟩ = some (.slice ao len cap) ∧ V.cell? ⟨rb, 1, none⟩ = some (.int .i64 (at' : Int)))
      (first | (refine HSA.out _ ?_; (repeat (first | with_reducible assumption | with_reducible exact ScL.start _ | with_reducible apply ScL.dr)); done))
      ((go_at_call 128; with_reducible refine (HRD.out _ (by (repeat (first | assumption | exact ScL.start _ | apply ScL.dr)))).mono ?_; rintro e w5 ⟨ao2, cap2, y, n, E, rfl, HOR, HVL, hs5⟩))
    all_goals
      rcases HOR.out with ⟨rfl, hn, hp⟩ | ⟨rfl, hp⟩
      · have HLE : Hid (at' + n ≤ len) := by have h1 := HLE0.out; exact hid (by omega)
        clear HOR hn
        have hk5 := HK.out.below hs5.out HK.out.lt
        have d1 := hk5.cell (i := 1) rfl
        have g1 := hk5.frozen 1
        have hsum : IntKind.i64.wrap ((at' : Int) + (n : Int)) = (at' : Int) + (n : Int) := by rw [IntKind.wrap_i64]; have h1 := HLE.out; have h2 := HMX.out; omega
        obtain ⟨W3, hW3⟩ : ∃ V, V = w5.setCell ⟨rb, 1, none⟩ (.int .i64 ((at' : Int) + (n : Int))) := ⟨_, rfl⟩
        have hT : Turns (fun i => i = rb) w5 W3 := by rw [hW3]; exact (Turns.refl (fun i => i = rb) w5).setCell (p := ⟨rb, 1, none⟩) (.inl rfl) _
        have HF : Hid (RdAt W3 rb ao len cap bs (nxt (some (bs.drop at')) p)) := by
          refine ⟨(HH.out.held.below hs5.out (Nat.le_refl _)).turned hT (held_off (HH.out.held.below hs5.out (Nat.le_refl _)) hk5), at' + n, 0, by rw [hW3]; exact hk5.set 1 _, by have h1 := HLE.out; omega, .inl ⟨?_, rfl⟩⟩
          unfold nxt
          rw [Option.bind_some, hp, ← List.drop_drop]
          rfl
        have HT : Hid (Turns (fun i => i = rb) w W3) := (Turns.of_below (F := fun i => i = rb) hs5.out (Nat.le_refl _)).trans hT (fun i hi => .inl hi)
        have HVF : Hid (EvsAt w most W3 ao2 cap2 y) := HVL.out.turned hT hk5
        have HP := hid hp
        clear hk5 hT hs5 hp
        go_wp2
        rw [← hW3]
        go_ret
        exact ⟨⟨ao2, cap2, y, rfl, (fun x r hx => by rw [Option.bind_some, HP.out] at hx; cases hx; rfl), HVF.out⟩, HF.out, HT.out⟩
      · clear HOR
        have hk5 := HK.out.below hs5.out HK.out.lt
        have d2 := hk5.cell (i := 2) rfl
        have g2 := hk5.frozen 2
        obtain ⟨W3, hW3⟩ : ∃ V, V = w5.setCell ⟨rb, 2, none⟩ (.int .i64 10) := ⟨_, rfl⟩
        have hT : Turns (fun i => i = rb) w5 W3 := by rw [hW3]; exact (Turns.refl (fun i => i = rb) w5).setCell (p := ⟨rb, 2, none⟩) (.inl rfl) _
        have HF : Hid (RdAt W3 rb ao len cap bs (nxt (some (bs.drop at')) p)) := by
          refine ⟨(HH.out.held.below hs5.out (Nat.le_refl _)).turned hT (held_off (HH.out.held.below hs5.out (Nat.le_refl _)) hk5), at', 10, by rw [hW3]; exact hk5.set 2 _, hat, .inr ⟨?_, rfl⟩⟩
          unfold nxt
          rw [Option.bind_some, hp]
          rfl
        have HT : Hid (Turns (fun i => i = rb) w W3) := (Turns.of_below (F := fun i => i = rb) hs5.out (Nat.le_refl _)).trans hT (fun i hi => .inl hi)
        have HVF : Hid (EvsAt w most W3 (none : Option Addr) 0 []) := evsAt_nil _ _ _
        have HP := hid hp
        clear hk5 hT hs5 hp
        go_wp2
        rw [← hW3]
        go_ret
        exact ⟨⟨(none : Option Addr), 0, [], rfl, (fun x r hx => by rw [Option.bind_some, HP.out] at hx; cases hx), HVF.out⟩, HF.out, HT.out⟩
  · clear hk h hread
    go_enter Tryz.func127, Tryz.ntmps127
    go_wp2
    go_ret
    exact ⟨⟨(none : Option Addr), 0, [], rfl, fun x r hx => (by cases hx), evsAt_nil _ _ _⟩, HH.out, Turns.refl _ _⟩
set_option maxRecDepth 1000000 in
set_option maxHeartbeats 1000000 in
/-- listOf of events. -/
theorem RdAt.listEv {w : World} {rb : Nat} {ao : Option Addr} {len cap : Nat} {bs : List Int} {st : Option (List Int)} (h : RdAt w rb ao len cap bs st) (most : Nat) (hm : most ≤ 4096) : Calls Tryz.prog 79 #[.pointer (some ⟨rb, 0, none⟩), .int .i64 (most : Int), .func (.func 80) #[] #[]] w fun e w' => (∃ (ao2 : Option Addr) (cap2 : Nat) (y : List EvM), e = .returned (.slice ao2 y.length cap2) ∧ Got st (pList most pEvent) (y.map EvM.e) ∧ EvsAt w most w' ao2 cap2 y) ∧ RdAt w' rb ao len cap bs (nxt st (pList most pEvent)) ∧ Turns (fun i => i = rb) w w' := by
  obtain ⟨W1, hW1⟩ : ∃ W, W = w.alloc (.cells #[.int .i64 (most : Int)] 3) := ⟨_, rfl⟩
  obtain ⟨W, hW⟩ : ∃ W, W = W1.alloc (.cells #[.func (.func 80) #[] #[]] 133) := ⟨_, rfl⟩
  have hs1 : W1.heap.size = w.heap.size + 1 := by rw [hW1]; simp
  have hb1 : Below w.heap.size w W1 := by rw [hW1]; exact (Below.refl _ _).alloc (Nat.le_refl _) _
  have hb : Below w.heap.size w W := by rw [hW]; exact hb1.alloc hb1.size _
  obtain ⟨mb, hmb⟩ : ∃ q, q = w.heap.size := ⟨_, rfl⟩
  obtain ⟨pb, hpb⟩ : ∃ q, q = w.heap.size + 1 := ⟨_, rfl⟩
  have HKM : Hid (Blk W mb 3 [.int .i64 (most : Int)]) := by rw [hmb, hW, hW1]; exact (Blk.new w _ _).alloc _
  have HKP : Hid (Blk W pb 133 [.func (.func 80) #[] #[]]) := by rw [hpb, hW, ← hs1]; exact Blk.new W1 _ _
  have HTK := hid ((h.below hb).takeLEv (mb := mb) (pb := pb) most (pList most pEvent) (fun at' co L C hc hL V hV => by
    refine (listEv1 co L C (bs.drop at') V mb pb most hm (hc.below hV.out (Nat.le_refl _)) (HKM.out.below hV.out HKM.out.lt) (HKP.out.below hV.out HKP.out.lt)).mono ?_
    rintro e w' ⟨ao2, cap2, l, n, E, he, hv, hc1, hc2, hab, hor, hb'⟩
    exact ⟨ao2, cap2, l, n, E, he, hor, ⟨hv, hc1, hc2, fun b off e => ⟨Nat.le_trans hV.out.size (hab b off e).1, (hab b off e).2⟩⟩, hV.go hb'⟩))
  have HW : Hid (W = (w.alloc (.cells #[.int .i64 (most : Int)] 3)).alloc (.cells #[.func (.func 80) #[] #[]] 133)) := by show _ = _; rw [hW, hW1]
  have HMB := hid hmb
  have HPB := hid hpb
  have HB := hid hb
  clear h hW hW1 hs1 hb1 hb hmb hpb
  go_enter Tryz.func79, Tryz.ntmps79
  go_wp2_with fail
  rw [← HW.out, ← HPB.out, ← HMB.out]
  refine HTK.out.mono ?_
  rintro e w1 ⟨⟨ao2, cap2, y, rfl, hg, hv⟩, hr, ht⟩
  have HA := hid (And.intro hg (hv.mono HB.out.size))
  have HR := hid hr
  have HT : Hid (Turns (fun i => i = rb) w w1) := (Turns.of_below (F := fun i => i = rb) HB.out (Nat.le_refl _)).trans ht (fun _ hi => .inl hi)
  clear hg hv hr ht HTK
  go_wp2
  go_ret
  exact ⟨⟨ao2, cap2, y, rfl, HA.out.1, HA.out.2⟩, HR.out, HT.out⟩
end Go.Proofs.YtfmnbehopdmahaaGreat
