/-
  Package cart: Cut.
-/
import Derived.Test.YtdfdgijaekhioaaCartO
namespace Go.Proofs.Ytdfdgijaekhioaa
open Go.RowKit Go.Maps

set_option maxRecDepth 1000000 in
set_option maxHeartbeats 2000000 in
theorem chosen_cut {w0 w : World} (hb0 : Below w0.heap.size w0 w) {F : Nat} (hF : F = 37) (p : Nat) (ao : Option Addr) (cap : Nat) (xs : List EvM) (n : Nat) (hn : xs.length = n) (h : HeldE w0 ao xs) (hl : n ≤ 1466015503700)
    (FT : Nat → Prop) (hFT : ∀ i, FT i → w0.heap.size ≤ i ∧ i < w.heap.size) (I : Nat → World → Prop) (b : Nat → Bool) (hI0 : I 0 w) (hst : ∀ k V V', I k V → Turns (fun i => w.heap.size ≤ i) V V' → I k V')
    (hcall : ∀ k (hk : k < xs.length) V, I k V → Below w0.heap.size w0 V → Calls Try.prog F #[xs[k].val, .pointer (some ⟨p, 0, none⟩)] V fun e w' => e = .returned (.bool (b k)) ∧ I (k + 1) w' ∧ Turns FT V w') :
    Calls Try.prog 24 #[.slice ao n cap, .func (.func F) #[] #[.pointer (some ⟨p, 0, none⟩)]] w (Chose w0 w FT (selTo b xs n)) := by
  have HN := hid hn
  have H := hid h
  have HB0 := hid hb0
  have HST := hid hst
  have HC := hid hcall
  have HFT := hid hFT
  have HS : Hid (ChRel w0 w FT I b xs (.slice none 0 0) 0 w) := ⟨hI0, World.ownsRow_nil _ _ _ _, Turns.refl _ _⟩
  clear hn h hb0 hst hcall hFT hI0
  have HBL : Hid (∀ V, Turns (fun i => FT i ∨ w.heap.size ≤ i) w V → Below w0.heap.size w0 V) := fun V hV => HB0.out.trans (hV.below (fun i hi => by rcases hi with hi | hi; exact (HFT.out i hi).1; exact Nat.le_trans HB0.out.size hi) HB0.out.size)
  subst hF
  all_goals
    go_enter Try.func24, Try.ntmps24
    go_wp2
    go_loopw [5, 7, 10] (fun out _ i wr => ∃ k : Nat, k ≤ n ∧ i = .int .i64 k ∧ Hid (ChRel w0 w FT I b xs out k wr)) (fun _ _ i _ => n - (intOf i).toNat)
    case atStart => exact ⟨0, Nat.zero_le _, rfl, HS⟩
    case round =>
      obtain ⟨k, hk, rfl, HR⟩ := hrel
      by_cases hlt : k < n
      · have hlt' : (k : Int) < (n : Int) := by omega
        have hkx : Hid (k < xs.length) := (by rw [HN.out]; exact hlt : k < xs.length)
        obtain ⟨bb, off, hao, hbb, g0, g1, g2, g3, g4, g5, g6, g7⟩ := (H.out.below (HBL.out _ HR.out.turn)).at hkx.out
        subst hao
        have HBX : Hid (Below w0.heap.size w0 (wr.alloc (.cells (xs[k]'hkx.out).cells.toArray 29))) := HBL.out _ (HR.out.turn.alloc _)
        have HCL := hid (HC.out k hkx.out (wr.alloc (.cells (xs[k]'hkx.out).cells.toArray 29)) (HST.out _ _ _ HR.out.inv ((Turns.refl _ wr).alloc _)) HBX.out)
        have HBK : Hid (Blk (wr.alloc (.cells (xs[k]'hkx.out).cells.toArray 29)) wr.heap.size 29 (xs[k]'hkx.out).cells) := Blk.new wr _ _
        have HROW1 : Hid ((wr.alloc (.cells (xs[k]'hkx.out).cells.toArray 29)).ownsRow w.heap.size 29 8 u5 (selTo b xs k).length (flatE (selTo b xs k))) := HR.out.row.alloc _
        have HT1 : Hid (Turns (fun i => FT i ∨ w.heap.size ≤ i) w (wr.alloc (.cells (xs[k]'hkx.out).cells.toArray 29))) := HR.out.turn.alloc _
        have HSEL : Hid (∀ r, b k = r → selTo b xs (k + 1) = selTo b xs k ++ (if r = true then [(xs[k]'hkx.out)] else [])) := fun r hr => by
          cases r
          · rw [selTo_no hr, if_neg Bool.false_ne_true, List.append_nil]
          · rw [selTo_yes hr hkx.out, if_pos rfl]
        obtain ⟨X, HX⟩ : ∃ X, Hid ((xs[k]'hkx.out) = X) := ⟨_, hid rfl⟩
        obtain ⟨r, HBR⟩ : ∃ r, Hid (b k = r) := ⟨_, hid rfl⟩
        have HSL := hid (HSEL.out r HBR.out)
        rw [HX.out] at g0 g1 g2 g3 g4 g5 g6 g7 HCL HBK HROW1 HT1 HSL
        rw [HBR.out] at HCL
        have hwr := HR.out.turn.size
        have HKM : Hid (k + 1 ≤ n) := (by omega : k + 1 ≤ n)
        have HSN : Hid ((selTo b xs k).length < 1466015503701) := by have := selTo_len b xs k; show _ < _; omega
        clear HBX HSEL hbb
        simp only [EvM.cells] at HCL HBK HROW1 HT1
        simp only [EvM.val] at HCL
        obtain ⟨XN, HXN⟩ : ∃ m, Hid (X.e.deps.length = m) := ⟨_, hid rfl⟩
        rw [HXN.out] at g2 HCL HBK HROW1 HT1
        go_wp2_with fail
        generalize wr.alloc (.cells #[.int .i64 X.e.o, .int .i64 X.e.s, .slice X.ao XN X.cap, .string X.e.cart, .int .i64 X.e.epoch, .string X.e.sku, .int .i64 X.e.qty, .bool X.e.clears] 29) = w1 at *
        refine HCL.out.mono ?_
        rintro e w2 ⟨rfl, hI2, hT2⟩
        have HI2 := hid hI2
        have HFW : Hid (∀ i, w.heap.size ≤ i → ¬ FT i) := fun i hi hf => by have := (HFT.out i hf).2; omega
        have HBK2 := hT2.blk HBK.out (HFW.out _ hwr)
        have c0 := HBK2.cell (i := 0) rfl
        have c1 := HBK2.cell (i := 1) rfl
        have c2 := HBK2.cell (i := 2) rfl
        have c3 := HBK2.cell (i := 3) rfl
        have c4 := HBK2.cell (i := 4) rfl
        have c5 := HBK2.cell (i := 5) rfl
        have c6 := HBK2.cell (i := 6) rfl
        have c7 := HBK2.cell (i := 7) rfl
        have HROW2 := hid (hT2.row HROW1.out (fun g hg => HFW.out g (HROW1.out.lt g hg).1))
        have HT2 : Hid (Turns (fun i => FT i ∨ w.heap.size ≤ i) w w2) := HT1.out.trans hT2 (fun i hi => .inl (.inl hi))
        clear hI2 hT2 HBK2 g0 g1 g2 g3 g4 g5 g6 g7 HBK HROW1 HT1 HCL
        cases r
        · go_wp2
          go_roundw
          case rel =>
            have e : selTo b xs (k + 1) = selTo b xs k := by have := HSL.out; simpa using this
            refine ⟨k + 1, HKM.out, by go_num, HI2.out, ?_, HT2.out⟩
            rw [e]
            exact HROW2.out
          case measure => simp [intOf]; have := HKM.out; omega
        · go_wp2_with (at_builtin; refine wpList_append_ev w2 _ X ?_ rfl _ _ rfl w.heap.size _ (selTo b xs k) _ rfl rfl rfl HROW2.out HT2.out.size HSN.out ?_; (show _ = _; simp only [EvM.cells]; rw [HXN.out]); intro v' w3 hown hbel hgrow; have HO3 := hid hown; have HG3 := hid hgrow; clear hown hbel hgrow)
          go_wp2
          go_roundw
          case rel =>
            have e : selTo b xs (k + 1) = selTo b xs k ++ [X] := by have := HSL.out; simpa using this
            refine ⟨k + 1, HKM.out, by go_num, HST.out _ _ _ HI2.out (((Turns.refl _ w2).alloc _).grown HG3.out (fun g hg => .inl (HROW2.out.lt g hg).1)), ?_, (HT2.out.alloc _).grown HG3.out (fun g hg => .inl (.inr (HROW2.out.lt g hg).1))⟩
            rw [e, List.length_append]
            exact HO3.out
          case measure => simp [intOf]; have := HKM.out; omega
      · have hlt' : ¬ (k : Int) < (n : Int) := by omega
        obtain rfl : k = n := by omega
        go_wp2
        go_ret
        exact ⟨_, rfl, HR.out.row, HR.out.turn, HBL.out _ HR.out.turn⟩

theorem cut1_any (V : World) (x : EvM) (p : Nat) (vo : Option Addr) (vc : Nat) (v : List Int) (m : Nat) (hm : v.length = m) (hp : Blk V p 27 [.slice vo m vc]) (hv : HV V vo vc v) :
    Calls Try.prog 37 #[x.val, .pointer (some ⟨p, 0, none⟩)] V fun e w' => e = .returned (.bool (decide (HasV v x.e.o x.e.s))) ∧ Below V.heap.size V w' := by
  have HB1 : Hid (Below V.heap.size V (V.alloc (.cells x.cells.toArray 29))) := (Below.refl _ _).alloc (Nat.le_refl _) _
  have HH := hid (has_any (V.alloc (.cells x.cells.toArray 29)) vo vc v m hm (hv.below HB1.out) x.e.o x.e.s)
  have hc1 := (hp.alloc (.cells x.cells.toArray 29)).cell (i := 0) rfl
  obtain ⟨r, HR⟩ : ∃ r, Hid (decide (HasV v x.e.o x.e.s) = r) := ⟨_, hid rfl⟩
  rw [HR.out] at HH ⊢
  clear hp hv hm HR
  obtain ⟨⟨ox, sx, dx, cx, px, kx, qx, bx⟩, aox, capx⟩ := x
  simp only [EvM.cells] at HB1 HH hc1
  simp only [EvM.val]
  obtain ⟨nx, HNX⟩ : ∃ n, Hid (dx.length = n) := ⟨_, hid rfl⟩
  rw [HNX.out] at HB1 HH hc1 ⊢
  go_enter Try.func37, Try.ntmps37
  go_wp2_with fail
  refine HH.out.mono ?_
  rintro e w' ⟨rfl, hb⟩
  have HB2 := hid (bt HB1.out hb)
  clear hb
  go_wp2
  go_ret
  exact ⟨rfl, HB2.out⟩
/-- The events whose dots v has. -/
def cutM (v : List Int) (xs : List EvM) : List EvM := xs.filter fun x => decide (HasV v x.e.o x.e.s)
/-- What Cut leaves. -/
def CutP (w : World) (v : List Int) (xs : List EvM) (m : Nat) (e : Ending) (w' : World) : Prop :=
  ∃ bo cp ys, e = .returned (.slice bo m cp) ∧ ys.map (·.e) = (cutM v xs).map (·.e) ∧ HeldE w' bo ys ∧ Below w.heap.size w w'
set_option maxRecDepth 1000000 in
set_option maxHeartbeats 2000000 in
theorem ccut_any (w : World) (ao : Option Addr) (cap : Nat) (xs : List EvM) (n : Nat) (hn : xs.length = n) (h : HeldE w ao xs) (hl : n ≤ 4194304) (vo : Option Addr) (vc : Nat) (v : List Int) (vn : Nat) (hvn : v.length = vn) (hv : HV w vo vc v) (m : Nat) (hm : (cutM v xs).length = m) :
    Calls Try.prog 18 #[.slice ao n cap, .slice vo vn vc] w (CutP w v xs m) := by
  obtain ⟨w1, hw1⟩ : ∃ W, W = w.alloc (.cells #[.slice vo vn vc] 27) := ⟨_, rfl⟩
  have HB1 : Hid (Below w.heap.size w w1) := by rw [hw1]; exact (Below.refl _ _).alloc (Nat.le_refl _) _
  have HP1 : Hid (Blk w1 w.heap.size 27 [.slice vo vn vc]) := by rw [hw1]; exact Blk.new w _ _
  have HN := hid hn
  have H := hid h
  have HVN := hid hvn
  have HV0 := hid hv
  have HM := hid hm
  have HW1 := hid hw1
  have hml : m ≤ 4194304 := by have := List.length_filter_le (fun x : EvM => decide (HasV v x.e.o x.e.s)) xs; unfold cutM at hm; omega
  clear hn h hvn hv hm hw1
  have HSEL : Hid (selTo (fun i => decide (HasV v (xs.getD i zeroEM).e.o (xs.getD i zeroEM).e.s)) xs n = cutM v xs) := by
    show _ = _
    rw [selTo_filter (fun x => decide (HasV v x.e.o x.e.s)) xs n (by rw [HN.out]; exact Nat.le_refl _), List.take_of_length_le (by rw [HN.out]; exact Nat.le_refl _)]
    rfl
  have HCH := hid (chosen_cut (w0 := w) (w := w1) HB1.out (F := 37) rfl w.heap.size ao cap xs n HN.out H.out (by omega) (fun _ => False) (fun _ h => h.elim)
    (fun _ V => Blk V w.heap.size 27 [.slice vo vn vc]) (fun i => decide (HasV v (xs.getD i zeroEM).e.o (xs.getD i zeroEM).e.s)) HP1.out
    (fun _ V V' hI hT => hT.blk hI (by have := HP1.out.lt; omega))
    (fun k hk V hI hV => by
      have e : xs.getD k zeroEM = xs[k] := by simp [List.getD, List.getElem?_eq_getElem hk]
      refine (cut1_any V xs[k] w.heap.size vo vc v vn HVN.out hI (HV0.out.below hV)).mono ?_
      rintro e1 V' ⟨rfl, hb'⟩
      exact ⟨by rw [e], hI.below hb' hI.lt, Turns.of_below hb' (Nat.le_refl _)⟩))
  rw [HSEL.out] at HCH
  go_enter Try.func18, Try.ntmps18
  go_wp2_with fail
  rw [← HW1.out]
  refine HCH.out.mono ?_
  rintro e w2 ⟨v2, rfl, hrow, _, hb2⟩
  rw [HM.out] at hrow
  have HB2 := hid hb2
  have HSUB : Hid (∀ x ∈ cutM v xs, x ∈ xs) := fun x hx => (List.mem_filter.1 hx).1
  have HLT := hid hrow.lt
  have HT := hid (told_any HM.out hml hrow (fun x hx => (H.out.1 x (HSUB.out x hx)).below HB2.out) (fun g hg x hx => evOff_of (H.out.1 x (HSUB.out x hx)) (Nat.le_trans HB1.out.size (HLT.out g hg).1)))
  obtain ⟨bo, cp, hv2⟩ := own_slice' hrow
  clear hrow hb2
  subst hv2
  go_wp2_with fail
  refine HT.out.mono ?_
  rintro e w3 ⟨ys, rfl, hsame, hrow3, hok3, ht3⟩
  have HB3 : Hid (Below w.heap.size w w3) := HB2.out.trans (ht3.below (fun i hi => Nat.le_trans HB1.out.size (HLT.out i hi).1) HB2.out.size)
  have hyl : ys.length = m := by
    have := congrArg List.length hsame
    simp at this
    rw [this, HM.out]
  obtain ⟨bo', cp', he, _, hh3⟩ := heldE_of_own hyl hrow3 hok3
  cases he
  have HH3 := hid hh3
  have HSM := hid hsame
  clear hsame hrow3 hok3 ht3 hh3 hyl
  go_wp2
  go_ret
  exact ⟨bo, cp, ys, rfl, HSM.out, HH3.out, HB3.out⟩
end Go.Proofs.Ytdfdgijaekhioaa
