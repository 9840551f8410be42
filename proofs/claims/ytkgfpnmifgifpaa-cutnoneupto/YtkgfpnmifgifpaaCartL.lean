/-
  Package cart: Lines.
-/
import Derived.Test.YtkgfpnmifgifpaaCmpBytes
import Derived.Test.YtkgfpnmifgifpaaCartJ
namespace Go.Proofs.Ytkgfpnmifgifpaa
open Go.RowKit Go.Maps

theorem Try.infoLine : (Try.prog.info? 57).map (fun i => (i.zero, i.size, i.bytes)) = some (some (.agg #[.string ⟨#[]⟩, .int .i64 0]), 2, 24) := by kernel_rfl
/-- append(lines, line). -/
theorem wpList_append_line {ops : Array Oper} {rest : List Oper} {o : Oper} {a : Act} {Q : Exit → Act → World → Prop} (W0 W : World) (x : Ln) (hW : W = W0.alloc (.cells #[.string x.1, .int .i64 x.2] 57)) (hgd : o.guard = none) (s xx : Operand)
    (ho : o.op = .call { callee := .builtin .append, args := #[s, xx], argTypes := #[46, 46] }) (B : Nat) (v : Value) (ds : List Ln)
    (hs : a.eval s = v) (hx : a.eval xx = .slice (some ⟨W0.heap.size, 0, none⟩) 1 1) (hown : W0.ownsRow B 57 2 v ds.length (flatL ds)) (hB : B ≤ W0.heap.size) (hl : ds.length ≤ 100000000)
    (h : ∀ v' w', w'.ownsRow B 57 2 v' (ds ++ [x]).length (flatL (ds ++ [x])) → Below B W0 w' → W.grownBy w' v.ownBlock → wpList Try.prog ops Q rest (a.put o.dst v') w') :
    wpList Try.prog ops Q (o :: rest) a W := by
  subst hW
  obtain ⟨iI, hj, hy0, hy1, hy2⟩ := info_parts Try.infoLine
  have hn := Blk.new W0 57 [.string x.1, .int .i64 x.2]
  refine wpList_append_own_at _ hgd s xx 46 ho B 57 iI (.agg #[.string ⟨#[]⟩, .int .i64 0]) 2 24 Try.underlying46 hj hy0 hy1 hy2 rfl (by decide) v ds.length (flatL ds) hs (hown.alloc _) ⟨W0.heap.size, 0, none⟩ 1 1 [.string x.1, .int .i64 x.2] hx rfl (fun j u hu => ?_) (fun u hu => by simp at hu; rcases hu with rfl | rfl <;> rfl) (by unfold maxLen; omega) (by omega) (by simp; omega) ?_
  · rw [Addr.add_lit, Nat.zero_add]
    exact hn.cell hu
  · intro v' w' hown' hgrow _ _
    refine h v' w' ?_ (((Below.refl _ _).alloc hB _).grown hgrow (by simp; omega) (fun k hk => (hown.lt k hk).1)) hgrow
    rw [flatL_snoc, List.length_append]
    exact hown'
/-- The events of a cart that count, in memory. -/
def mineM (name : ByteArray) (xs : List EvM) : List EvM := xs.filter fun x => decide (x.e.cart = name)
def countM (name : ByteArray) (xs : List EvM) : List EvM := firstsM (standM (mineM name xs))
theorem countM_e (name : ByteArray) (xs : List EvM) : (countM name xs).map (·.e) = countOf name (xs.map (·.e)) := by
  unfold countM countOf ofCart
  rw [firstsM_e, standM_e]
  have := filter_map_e (fun e => decide (e.cart = name)) xs
  unfold mineM
  rw [this]
theorem firstsM_sub (xs : List EvM) : ∀ x ∈ firstsM xs, x ∈ xs := selTo_sub _ xs xs.length (Nat.le_refl _)
theorem firstsM_len (xs : List EvM) : (firstsM xs).length ≤ xs.length := selTo_len _ _ _
theorem standM_sub (xs : List EvM) : ∀ x ∈ standM xs, x ∈ xs := fun _ hx => (List.mem_filter.1 hx).1
theorem standM_len (xs : List EvM) : (standM xs).length ≤ xs.length := List.length_filter_le _ _
theorem mineM_sub (name : ByteArray) (xs : List EvM) : ∀ x ∈ mineM name xs, x ∈ xs := fun _ hx => (List.mem_filter.1 hx).1
theorem mineM_len (name : ByteArray) (xs : List EvM) : (mineM name xs).length ≤ xs.length := List.length_filter_le _ _
theorem countM_sub (name : ByteArray) (xs : List EvM) : ∀ x ∈ countM name xs, x ∈ xs := fun x hx => mineM_sub name xs x (standM_sub _ x (firstsM_sub _ x hx))
theorem countM_len (name : ByteArray) (xs : List EvM) : (countM name xs).length ≤ xs.length := Nat.le_trans (firstsM_len _) (Nat.le_trans (standM_len _) (mineM_len _ _))
/-- What a call that makes lines leaves. -/
def MadeL (w : World) (f : ByteArray → Int) (e : Ending) (w' : World) : Prop :=
  ∃ v ls, e = .returned v ∧ LinesOf f ls ∧ ls.length ≤ 4194304 ∧ w'.ownsRow w.heap.size 57 2 v ls.length (flatL ls) ∧ Below w.heap.size w w'
/-- While the sums are made. -/
def Summing (w : World) (m : Nat) (v : Value) (c : Nat) (ys : List EvM) (k : Nat) (wr : World) : Prop :=
  (∃ D, SumsAt wr m k D ((ys.take k).map (·.e))) ∧ wr.ownsRow w.heap.size 34 8 v c (flatE ys) ∧ Below w.heap.size w wr
/-- While the sums are gone over. -/
def Going (w : World) (m r N : Nat) (D : DataW Value) (a : Value) (wr : World) : Prop :=
  ∃ left cnt ss, wr.ranges Try.prog 9 valR m r N D left cnt ∧ CollS D left ss ∧ wr.ownsRow w.heap.size 57 2 a (ss.filter posL).length (flatL (ss.filter posL)) ∧ Below w.heap.size w wr ∧ ss.length + cnt ≤ Maps.size D
set_option maxRecDepth 1000000 in
set_option maxHeartbeats 4000000 in
theorem lines_any (w : World) (ao : Option Addr) (cap : Nat) (xs : List EvM) (n : Nat) (hn : xs.length = n) (h : HeldE w ao xs) (hl : n ≤ 4194304) (hd : ∀ x ∈ xs, x.e.deps.length ≤ 1048576) (hq : ∀ x ∈ xs, 0 ≤ x.e.qty ∧ x.e.qty ≤ 1000) (name : ByteArray) :
    Calls Try.prog 22 #[.slice ao n cap, .string name] w (MadeL w (linesQ name (xs.map (·.e)))) := by
  have hmm := @run_makeMap Try.prog
  have HN := hid hn
  have H := hid h
  have HD := hid hd
  have HQ := hid hq
  have HL := hid hl
  obtain ⟨w1, hw1⟩ : ∃ W, W = w.alloc (.cells #[.string name] 9) := ⟨_, rfl⟩
  have HB1 : Hid (Below w.heap.size w w1) := by rw [hw1]; exact (Below.refl _ _).alloc (Nat.le_refl _) _
  have HP1 : Hid (Blk w1 w.heap.size 9 [.string name]) := by rw [hw1]; exact Blk.new w _ _
  have HW1 := hid hw1
  clear hn h hd hq hw1
  have HCH := hid (chosen_any (w0 := w) (w := w1) HB1.out (F := 37) (.inl rfl) w.heap.size ao cap xs n HN.out H.out (by omega) (fun _ => False) (fun _ h => h.elim)
    (fun _ V => Blk V w.heap.size 9 [.string name]) (fun i => decide ((xs.getD i zeroEM).e.cart = name)) HP1.out
    (fun _ V V' hI hT => hT.blk hI (by have := HP1.out.lt; omega))
    (fun k hk V hI hV => by
      have e : xs.getD k zeroEM = xs[k] := by simp [List.getD, List.getElem?_eq_getElem hk]
      refine (lines1_any V xs[k] w.heap.size name hI).mono ?_
      rintro e1 V' ⟨rfl, hb'⟩
      exact ⟨by rw [e], hI.below hb' hI.lt, Turns.of_below hb' (Nat.le_refl _)⟩))
  have HSEL : Hid (selTo (fun i => decide ((xs.getD i zeroEM).e.cart = name)) xs n = mineM name xs) := by
    show _ = _
    rw [selTo_filter (fun x => decide (x.e.cart = name)) xs n (by rw [HN.out]; exact Nat.le_refl _), List.take_of_length_le (by rw [HN.out]; exact Nat.le_refl _)]
    rfl
  rw [HSEL.out] at HCH
  obtain ⟨mn, HMN⟩ : ∃ m, Hid ((mineM name xs).length = m) := ⟨_, hid rfl⟩
  have hmn : mn ≤ 4194304 := by have := mineM_len name xs; rw [HMN.out, HN.out] at this; omega
  go_enter Try.func22, Try.ntmps22
  go_wp2_with fail
  rw [← HW1.out]
  refine HCH.out.mono ?_
  rintro e w2 ⟨v1, rfl, hrow, _, hb2⟩
  rw [HMN.out] at hrow
  obtain ⟨ao1, cap1, rfl, _, hh1⟩ := heldE_of_own HMN.out hrow (fun x hx => (H.out.1 x (mineM_sub _ _ x hx)).below hb2)
  have HH1 := hid hh1
  have HB2 := hid hb2
  clear hrow hb2 hh1 HCH
  obtain ⟨w3, hw3⟩ : ∃ W, W = w2.alloc (.map #[] 0) := ⟨_, rfl⟩
  have HB23 : Hid (Below w2.heap.size w2 w3) := by rw [hw3]; exact (Below.refl _ _).alloc (Nat.le_refl _) _
  have HS3 : Hid (SumsAt w3 w2.heap.size 0 (.map []) []) := by rw [hw3]; exact SumsAt.new w2
  have HSTD := hid (standing_any w3 ao1 cap1 (mineM name xs) mn HMN.out (HH1.out.below HB23.out) hmn (fun x hx => HD.out x (mineM_sub _ _ x hx)))
  have HW3 := hid hw3
  clear hw3
  go_wp2_with fail
  rw [← HW3.out]
  clear hmm
  refine HSTD.out.mono ?_
  rintro e w4 ⟨v2, rfl, hrow, hb4⟩
  obtain ⟨sn, HSN⟩ : ∃ m, Hid ((standM (mineM name xs)).length = m) := ⟨_, hid rfl⟩
  rw [HSN.out] at hrow
  have HB4 := hid (bt (bt HB2.out HB23.out) hb4)
  obtain ⟨ao2, cap2, rfl, _, hh2⟩ := heldE_of_own HSN.out hrow (fun x hx => (H.out.1 x (mineM_sub _ _ x (standM_sub _ x hx))).below HB4.out)
  have HS4 := hid (HS3.out.below hb4)
  have HFST := hid (firsts_any w4 ao2 cap2 (standM (mineM name xs)) sn HSN.out hh2 (by have := standM_len (mineM name xs); rw [HSN.out, HMN.out] at this; omega))
  clear hrow hb4 hh2 HSTD
  go_wp2_with fail
  refine HFST.out.mono ?_
  rintro e w5 ⟨v3, rfl, hrow, hb5⟩
  obtain ⟨cn, HCN⟩ : ∃ m, Hid ((countM name xs).length = m) := ⟨_, hid rfl⟩
  change w5.ownsRow w4.heap.size 34 8 v3 (countM name xs).length (flatE (countM name xs)) at hrow
  rw [HCN.out] at hrow
  have HB5 := hid (bt HB4.out hb5)
  have HR5 := hid (ownsRow_base hrow HB4.out.size)
  have HS5 := hid (HS4.out.below hb5)
  have hcn : cn ≤ 4194304 := by have := countM_len name xs; rw [HCN.out, HN.out] at this; omega
  clear hrow hb5 HFST
  obtain ⟨eo3, cap3, hv3⟩ := own_slice' HR5.out
  subst hv3
  obtain ⟨m, hm⟩ : ∃ m, m = w2.heap.size := ⟨_, rfl⟩
  rw [← hm] at HS5 ⊢
  have HMW : Hid (w.heap.size ≤ m) := by rw [hm]; exact HB2.out.size
  clear hm
  go_wp2
  go_loopw [20] (fun i wr => ∃ k : Nat, k ≤ cn ∧ i = .int .i64 k ∧ Hid (Summing w m (.slice eo3 cn cap3) cn (countM name xs) k wr)) (fun i _ => cn - (intOf i).toNat)
  case atStart => exact ⟨0, Nat.zero_le _, rfl, ⟨_, HS5.out⟩, HR5.out, HB5.out⟩
  case round =>
    obtain ⟨k, hk, rfl, HR⟩ := hrel
    by_cases hlt : k < cn
    · have hlt' : (k : Int) < (cn : Int) := by omega
      have hkx : Hid (k < (countM name xs).length) := (by rw [HCN.out]; exact hlt : k < (countM name xs).length)
      obtain ⟨eo', cap', he', _, hc'⟩ := own_form8 HR.out.2.1
      obtain ⟨g, hg, hgw, _, hcell⟩ := hc' (by omega)
      cases he'
      subst hg
      have hgs := fun c u => flatE_get (countM name xs) k hkx.out c u
      have HXM := hid (countM_sub name xs _ (List.getElem_mem hkx.out))
      have HTK : Hid (((countM name xs).take (k + 1)).map (·.e) = ((countM name xs).take k).map (·.e) ++ [((countM name xs)[k]'hkx.out).e]) := by
        show _ = _
        rw [List.take_succ_eq_append_getElem hkx.out, List.map_append]
        rfl
      obtain ⟨X, HX⟩ : ∃ X, Hid ((countM name xs)[k]'hkx.out = X) := ⟨_, hid rfl⟩
      rw [HX.out] at hgs HXM HTK
      have g0 : wr.cell? ⟨g, k * 8, none⟩ = some (.int .i64 X.e.o) := hcell _ _ (hgs 0 _ rfl)
      have g1 : wr.cell? ⟨g, k * 8 + 1, none⟩ = some (.int .i64 X.e.s) := hcell _ _ (hgs 1 _ rfl)
      have g2 : wr.cell? ⟨g, k * 8 + 2, none⟩ = some (.slice X.ao X.e.deps.length X.cap) := hcell _ _ (hgs 2 _ rfl)
      have g3 : wr.cell? ⟨g, k * 8 + 3, none⟩ = some (.string X.e.cart) := hcell _ _ (hgs 3 _ rfl)
      have g4 : wr.cell? ⟨g, k * 8 + 4, none⟩ = some (.int .i64 X.e.epoch) := hcell _ _ (hgs 4 _ rfl)
      have g5 : wr.cell? ⟨g, k * 8 + 5, none⟩ = some (.string X.e.sku) := hcell _ _ (hgs 5 _ rfl)
      have g6 : wr.cell? ⟨g, k * 8 + 6, none⟩ = some (.int .i64 X.e.qty) := hcell _ _ (hgs 6 _ rfl)
      have g7 : wr.cell? ⟨g, k * 8 + 7, none⟩ = some (.bool X.e.clears) := hcell _ _ (hgs 7 _ rfl)
      have HQ1 := HQ.out X HXM.out
      obtain ⟨hq0, hq1⟩ := HQ1
      have HSK := hid (H.out.1 X HXM.out).hs
      obtain ⟨D, hS⟩ := HR.out.1
      have HAL : Hid (∀ e ∈ ((countM name xs).take k).map (·.e), 0 ≤ e.qty ∧ e.qty ≤ 1000) := fun e he => by
        obtain ⟨y, hy, rfl⟩ := List.mem_map.1 he
        exact HQ.out y (countM_sub name xs y (List.mem_of_mem_take hy))
      have hy0 := qtyOf_nonneg (k := X.e.sku) (fun e he => (HAL.out e he).1)
      have hy1 := qtyOf_le (k := X.e.sku) HAL.out
      rw [List.length_map, List.length_take] at hy1
      have hy2 : qtyOf X.e.sku (((countM name xs).take k).map (·.e)) ≤ 4194304000 := by omega
      have hS1 := hS.below ((Below.refl wr.heap.size wr).alloc (Nat.le_refl _) (.cells #[.int .i64 X.e.o, .int .i64 X.e.s, .slice X.ao X.e.deps.length X.cap, .string X.e.cart, .int .i64 X.e.epoch, .string X.e.sku, .int .i64 X.e.qty, .bool X.e.clears] 34))
      have hlk := hS1.lookup HSK.out
      obtain ⟨w6, hrun, hS6, hT6⟩ := hS1.put (by unfold maxLen; omega) X.e HSK.out
      have HT : Hid (Turns (fun i => i = m) wr w6) := ((Turns.refl (fun i => i = m) wr).alloc _).trans hT6 (fun i hi => .inl hi)
      have HNXT : Hid (Summing w m (.slice (some ⟨g, 0, none⟩) cn cap3) cn (countM name xs) (k + 1) w6) := by
        obtain ⟨D', hD'⟩ := hS6
        refine ⟨⟨D', by rw [HTK.out]; exact hD'⟩, HT.out.row HR.out.2.1 (fun g' hg' e => ?_), HR.out.2.2.trans (HT.out.below (fun i hi => by subst hi; exact HMW.out) HR.out.2.2.size)⟩
        subst e
        exact row_not_map HR.out.2.1 hS.1 (by rw [hg'])
      have HKM : Hid (k + 1 ≤ cn) := (by omega : k + 1 ≤ cn)
      obtain ⟨Y, HY⟩ : ∃ Y, Hid (qtyOf X.e.sku (((countM name xs).take k).map (·.e)) = Y) := ⟨_, hid rfl⟩
      rw [HY.out] at hlk hrun hy0 hy2
      clear hc' hcell hgs hS hS1 hS6 hT6 hy1 hgw
      go_wp2
      go_roundw
      case rel => exact ⟨k + 1, HKM.out, by go_num, HNXT.out⟩
      case measure => simp [intOf]; have := HKM.out; omega
    · have hlt' : ¬ (k : Int) < (cn : Int) := by omega
      obtain rfl : k = cn := by omega
      obtain ⟨D, hS⟩ := HR.out.1
      have HS := hid hS
      clear hS
      go_wp2_with (at_range; refine wpList_range_own _ rfl _ 59 rfl 9 3 Try.keyedStr Try.underlying59 valR m _ D rfl HS.out.1 ?_; intro w0 hrg0 hg0 hs0)
      have HG0 : Hid (Going w m wr.heap.size k D (.slice none 0 0) w0) := by
        refine ⟨_, _, [], hrg0, CollS.start (allHeld_of HS.out.1), World.ownsRow_nil _ _ _ _, HR.out.2.2.grown hg0 HR.out.2.2.size (fun k hk => by cases hk), by simp⟩
      have HSZ := hid (size_le HS.out.1)
      clear hrg0 hg0 hs0
      obtain ⟨r, hr⟩ : ∃ r, r = wr.heap.size := ⟨_, rfl⟩
      rw [← hr] at HG0 ⊢
      have HRW : Hid (w.heap.size ≤ r) := by rw [hr]; exact HR.out.2.2.size
      clear hr
      go_loopw [9] (fun a wr => Hid (Going w m r k D a wr)) (fun _ wr => wr.rangeLeft m r)
      case atStart => exact HG0
      case round =>
        obtain ⟨left, cnt, ss, hrg, hC, hrow, hbel, hcnt⟩ := hrel.out
        have HRG := hid hrg
        have HC := hid hC
        have HROW := hid hrow
        have HB := hid hbel
        have HCNT := hid hcnt
        clear hrel hrg hC hrow hbel hcnt
        go_wp2_with (first | (at_next; refine wpList_next_str _ rfl _ rfl m r k D left cnt rfl HRG.out ?_ ?_) | fail)
        · intro _ hl0
          have HDN := hid (HC.out.done hl0)
          clear hl0
          have hsl : (ss.filter posL).length ≤ 4194304 := by
            have h1 := HCNT.out
            have h2 := HSZ.out
            have h3 := List.length_filter_le posL ss
            omega
          go_wp2_with fail
          refine (sortL_any HROW.out hsl).mono ?_
          rintro e w7 ⟨rfl, ls, hp, hw, hrow7, hg7⟩
          have HB7 : Hid (Below w.heap.size w w7) := HB.out.grown hg7 HB.out.size (fun g hg => (HROW.out.lt g hg).1)
          have HRES : Hid (LinesOf (linesQ name (xs.map (·.e))) ls ∧ ls.length ≤ 4194304 ∧ w7.ownsRow w.heap.size 57 2 u9 ls.length (flatL ls)) := by
            have hall : ((countM name xs).take k).map (·.e) = countOf name (xs.map (·.e)) := by rw [List.take_of_length_le (by rw [HCN.out]; exact Nat.le_refl _)]; exact countM_e name xs
            have hS := HS.out
            rw [hall] at hS
            have hsk : ∀ e ∈ countOf name (xs.map (·.e)), e.sku.size ≤ maxLen := fun e he => by
              rw [← countM_e] at he
              obtain ⟨y, hy, rfl⟩ := List.mem_map.1 he
              exact (H.out.1 y (countM_sub name xs y hy)).hs
            refine ⟨sums_lines hS hsk HDN.out HC.out.nodup hp hw, by rw [hp.length_eq]; exact hsl, ?_⟩
            rw [hp.length_eq]
            exact hrow7
          clear hp hw hrow7 hg7
          go_wp2
          go_ret
          exact ⟨_, ls, rfl, HRES.out.1, HRES.out.2.1, HRES.out.2.2, HB7.out⟩
        · intro s v w1 cnt1 hs hv hlf hrg1 hlt1 hgr hsz hen
          obtain ⟨q, rfl⟩ : ∃ q, v = .int .i64 q := by
            have h1 := HS.out.2 s hs
            rw [hv] at h1
            split at h1
            · exact ⟨_, Option.some.inj h1⟩
            · cases h1
          have HC1 := hid (HC.out.step hs hlf hv)
          have HROW1 : Hid (w1.ownsRow w.heap.size 57 2 u9 (ss.filter posL).length (flatL (ss.filter posL))) := HROW.out.kept hgr (.inr (row_not_iter HROW.out HRG.out).1.symm)
          have HB1' : Hid (Below w.heap.size w w1) := HB.out.grown hgr HB.out.size (fun g hg => by cases hg; exact HRW.out)
          have HR1 := hid hrg1
          have HLT := hid hlt1
          have HCN1 : Hid ((ss ++ [(s, q)]).length + cnt1 ≤ Maps.size D) := by have := HCNT.out; show _ ≤ _; simp; omega
          have HSL : Hid ((ss.filter posL).length ≤ 100000000) := by
            have h1 := HCNT.out
            have h2 := HSZ.out
            have h3 := List.length_filter_le posL ss
            show _ ≤ _
            omega
          clear hs hv hlf hrg1 hlt1 hgr hsz
          by_cases hp : 0 < q
          · have HF : Hid ((ss ++ [(s, q)]).filter posL = ss.filter posL ++ [(s, q)]) := by show _ = _; rw [List.filter_append]; simp [posL, hp]
            go_wp2_with (at_builtin; refine wpList_append_line w1 _ (s, q) rfl rfl _ _ rfl w.heap.size _ (ss.filter posL) rfl rfl HROW1.out HB1'.out.size HSL.out ?_; intro v' w3 hown hbel3 hgrow; have HO3 := hid hown; have HB3 := hid (HB1'.out.trans hbel3); have HG3 := hid hgrow; clear hown hbel3 hgrow)
            have hrow1 := row_not_iter HROW1.out HR1.out
            have HR4 : Hid (w3.ranges Try.prog 9 valR m r k D (fun z => left z && !z.sameKey (key s)) cnt1) := (HR1.out.alloc _).kept HG3.out hrow1.2 hrow1.1
            clear hrow1
            go_wp2
            go_roundw
            case rel => exact ⟨_, cnt1, ss ++ [(s, q)], HR4.out, HC1.out, by rw [HF.out]; exact HO3.out, HB3.out, HCN1.out⟩
            case measure => rw [HR4.out.left_eq, HRG.out.left_eq]; exact HLT.out
          · have HF : Hid ((ss ++ [(s, q)]).filter posL = ss.filter posL) := by show _ = _; rw [List.filter_append]; simp [posL, hp]
            go_wp2
            go_roundw
            case rel => exact ⟨_, cnt1, ss ++ [(s, q)], HR1.out, HC1.out, by rw [HF.out]; exact HROW1.out, HB1'.out, HCN1.out⟩
            case measure => rw [HR1.out.left_eq, HRG.out.left_eq]; exact HLT.out
end Go.Proofs.Ytkgfpnmifgifpaa
