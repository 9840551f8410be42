/-
  Package cart: chosen.
-/
import Derived.Test.YtkgfpnmifgifpaaCartA
namespace Go.Proofs.Ytkgfpnmifgifpaa
open Go.RowKit Go.Maps

/-- Those of the first k of xs for which b holds of their place. -/
def selTo (b : Nat → Bool) (xs : List EvM) : Nat → List EvM
  | 0 => []
  | k + 1 => selTo b xs k ++ (if b k = true then [xs.getD k zeroEM] else [])
theorem selTo_len (b : Nat → Bool) (xs : List EvM) : ∀ k, (selTo b xs k).length ≤ k
  | 0 => Nat.le_refl _
  | k + 1 => by
    have := selTo_len b xs k
    unfold selTo
    rw [List.length_append]
    split <;> simp <;> omega
theorem selTo_yes {b : Nat → Bool} {xs : List EvM} {k : Nat} (h : b k = true) (hk : k < xs.length) : selTo b xs (k + 1) = selTo b xs k ++ [xs[k]] := by
  rw [selTo, if_pos h]
  simp [List.getD, List.getElem?_eq_getElem hk]
theorem selTo_no {b : Nat → Bool} {xs : List EvM} {k : Nat} (h : b k = false) : selTo b xs (k + 1) = selTo b xs k := by
  rw [selTo, if_neg (by rw [h]; exact Bool.false_ne_true)]
  simp
theorem selTo_sub (b : Nat → Bool) (xs : List EvM) : ∀ k, k ≤ xs.length → ∀ x ∈ selTo b xs k, x ∈ xs
  | 0, _, x, h => by cases h
  | k + 1, hk, x, h => by
    unfold selTo at h
    rcases List.mem_append.1 h with h | h
    · exact selTo_sub b xs k (by omega) x h
    · split at h
      · obtain rfl := List.mem_singleton.1 h
        simp [List.getD, List.getElem?_eq_getElem (show k < xs.length by omega)]
      · cases h
theorem selTo_filter (f : EvM → Bool) (xs : List EvM) : ∀ k, k ≤ xs.length → selTo (fun i => f (xs.getD i zeroEM)) xs k = (xs.take k).filter f
  | 0, _ => by simp [selTo]
  | k + 1, hk => by
    rw [selTo, selTo_filter f xs k (by omega), List.take_succ_eq_append_getElem (show k < xs.length by omega), List.filter_append]
    congr 1
    have e : xs.getD k zeroEM = xs[k] := by simp [List.getD, List.getElem?_eq_getElem (show k < xs.length by omega)]
    rw [e]
    cases h : f xs[k] <;> simp [h]
def Chooser (F : Nat) : Prop := F = 37 ∨ F = 50 ∨ F = 52
/-- What chosen leaves. -/
def Chose (w0 w : World) (FT : Nat → Prop) (ys : List EvM) (e : Ending) (w' : World) : Prop :=
  ∃ v, e = .returned v ∧ w'.ownsRow w.heap.size 34 8 v ys.length (flatE ys) ∧ Turns (fun i => FT i ∨ w.heap.size ≤ i) w w' ∧ Below w0.heap.size w0 w'
structure ChRel (w0 w : World) (FT : Nat → Prop) (I : Nat → World → Prop) (b : Nat → Bool) (xs : List EvM) (out : Value) (k : Nat) (wr : World) : Prop where
  inv : I k wr
  row : wr.ownsRow w.heap.size 34 8 out (selTo b xs k).length (flatE (selTo b xs k))
  turn : Turns (fun i => FT i ∨ w.heap.size ≤ i) w wr
set_option maxRecDepth 1000000 in
set_option maxHeartbeats 2000000 in
theorem chosen_any {w0 w : World} (hb0 : Below w0.heap.size w0 w) {F : Nat} (hF : Chooser F) (p : Nat) (ao : Option Addr) (cap : Nat) (xs : List EvM) (n : Nat) (hn : xs.length = n) (h : HeldE w0 ao xs) (hl : n ≤ 1466015503700)
    (FT : Nat → Prop) (hFT : ∀ i, FT i → w0.heap.size ≤ i ∧ i < w.heap.size) (I : Nat → World → Prop) (b : Nat → Bool) (hI0 : I 0 w) (hst : ∀ k V V', I k V → Turns (fun i => w.heap.size ≤ i) V V' → I k V')
    (hcall : ∀ k (hk : k < xs.length) V, I k V → Below w0.heap.size w0 V → Calls Try.prog F #[xs[k].val, .pointer (some ⟨p, 0, none⟩)] V fun e w' => e = .returned (.bool (b k)) ∧ I (k + 1) w' ∧ Turns FT V w') :
    Calls Try.prog 36 #[.slice ao n cap, .func (.func F) #[] #[.pointer (some ⟨p, 0, none⟩)]] w (Chose w0 w FT (selTo b xs n)) := by
  have HN := hid hn
  have H := hid h
  have HB0 := hid hb0
  have HST := hid hst
  have HC := hid hcall
  have HFT := hid hFT
  have HS : Hid (ChRel w0 w FT I b xs (.slice none 0 0) 0 w) := ⟨hI0, World.ownsRow_nil _ _ _ _, Turns.refl _ _⟩
  clear hn h hb0 hst hcall hFT hI0
  have HBL : Hid (∀ V, Turns (fun i => FT i ∨ w.heap.size ≤ i) w V → Below w0.heap.size w0 V) := fun V hV => HB0.out.trans (hV.below (fun i hi => by rcases hi with hi | hi; exact (HFT.out i hi).1; exact Nat.le_trans HB0.out.size hi) HB0.out.size)
  rcases hF with rfl | rfl | rfl
  all_goals
    go_enter Try.func36, Try.ntmps36
    go_wp2
    go_loopw [5, 7, 10] (fun out _ i wr => ∃ k : Nat, k ≤ n ∧ i = .int .i64 k ∧ Hid (ChRel w0 w FT I b xs out k wr)) (fun _ _ i _ => n - (intOf i).toNat)
    case atStart => exact ⟨0, Nat.zero_le _, rfl, HS⟩
    case round =>
      obtain ⟨k, hk, rfl, HR⟩ := hrel
      by_cases hlt : k < n
      · have hlt' : (k : Int) < (n : Int) := by omega
        have hkx : Hid (k < xs.length) := (by rw [HN.out]; exact hlt : k < xs.length)
        obtain ⟨bb, off, hao, hbb, g0, g1, g2, g3, g4, g5, g6, g7⟩ := (H.out.below (HBL.out _ HR.out.turn)).at hkx.out
        subst hao
        have HBX : Hid (Below w0.heap.size w0 (wr.alloc (.cells (xs[k]'hkx.out).cells.toArray 34))) := HBL.out _ (HR.out.turn.alloc _)
        have HCL := hid (HC.out k hkx.out (wr.alloc (.cells (xs[k]'hkx.out).cells.toArray 34)) (HST.out _ _ _ HR.out.inv ((Turns.refl _ wr).alloc _)) HBX.out)
        have HBK : Hid (Blk (wr.alloc (.cells (xs[k]'hkx.out).cells.toArray 34)) wr.heap.size 34 (xs[k]'hkx.out).cells) := Blk.new wr _ _
        have HROW1 : Hid ((wr.alloc (.cells (xs[k]'hkx.out).cells.toArray 34)).ownsRow w.heap.size 34 8 u5 (selTo b xs k).length (flatE (selTo b xs k))) := HR.out.row.alloc _
        have HT1 : Hid (Turns (fun i => FT i ∨ w.heap.size ≤ i) w (wr.alloc (.cells (xs[k]'hkx.out).cells.toArray 34))) := HR.out.turn.alloc _
        have HSEL : Hid (∀ r, b k = r → selTo b xs (k + 1) = selTo b xs k ++ (if r = true then [(xs[k]'hkx.out)] else [])) := fun r hr => by
          cases r
          · rw [selTo_no hr, if_neg Bool.false_ne_true, List.append_nil]
          · rw [selTo_yes hr hkx.out, if_pos rfl]
        obtain ⟨X, HX⟩ : ∃ X, Hid ((xs[k]'hkx.out) = X) := ⟨_, hid rfl⟩
        obtain ⟨r, HBR⟩ : ∃ r, Hid (b k = r) := ⟨_, hid rfl⟩
        have HSL := hid (HSEL.out r HBR.out)
        rw [HX.out] at g0 g1 g2 g3 g4 g5 g6 g7 HCL HBK HROW1 HT1 HSL
        rw [HBR.out] at HCL
        have hwr := HR.out.turn.size
        have HKM : Hid (k + 1 ≤ n) := (by omega : k + 1 ≤ n)
        have HSN : Hid ((selTo b xs k).length < 1466015503701) := by have := selTo_len b xs k; show _ < _; omega
        clear HBX HSEL hbb
        simp only [EvM.cells] at HCL HBK HROW1 HT1
        simp only [EvM.val] at HCL
        obtain ⟨XN, HXN⟩ : ∃ m, Hid (X.e.deps.length = m) := ⟨_, hid rfl⟩
        rw [HXN.out] at g2 HCL HBK HROW1 HT1
        go_wp2_with fail
        generalize wr.alloc (.cells #[.int .i64 X.e.o, .int .i64 X.e.s, .slice X.ao XN X.cap, .string X.e.cart, .int .i64 X.e.epoch, .string X.e.sku, .int .i64 X.e.qty, .bool X.e.clears] 34) = w1 at *
        refine HCL.out.mono ?_
        rintro e w2 ⟨rfl, hI2, hT2⟩
        have HI2 := hid hI2
        have HFW : Hid (∀ i, w.heap.size ≤ i → ¬ FT i) := fun i hi hf => by have := (HFT.out i hf).2; omega
        have HBK2 := hT2.blk HBK.out (HFW.out _ hwr)
        have c0 := HBK2.cell (i := 0) rfl
        have c1 := HBK2.cell (i := 1) rfl
        have c2 := HBK2.cell (i := 2) rfl
        have c3 := HBK2.cell (i := 3) rfl
        have c4 := HBK2.cell (i := 4) rfl
        have c5 := HBK2.cell (i := 5) rfl
        have c6 := HBK2.cell (i := 6) rfl
        have c7 := HBK2.cell (i := 7) rfl
        have HROW2 := hid (hT2.row HROW1.out (fun g hg => HFW.out g (HROW1.out.lt g hg).1))
        have HT2 : Hid (Turns (fun i => FT i ∨ w.heap.size ≤ i) w w2) := HT1.out.trans hT2 (fun i hi => .inl (.inl hi))
        clear hI2 hT2 HBK2 g0 g1 g2 g3 g4 g5 g6 g7 HBK HROW1 HT1 HCL
        cases r
        · go_wp2
          go_roundw
          case rel =>
            have e : selTo b xs (k + 1) = selTo b xs k := by have := HSL.out; simpa using this
            refine ⟨k + 1, HKM.out, by go_num, HI2.out, ?_, HT2.out⟩
            rw [e]
            exact HROW2.out
          case measure => simp [intOf]; have := HKM.out; omega
        · go_wp2_with (at_builtin; refine wpList_append_ev w2 _ X ?_ rfl _ _ rfl w.heap.size _ (selTo b xs k) _ rfl rfl rfl HROW2.out HT2.out.size HSN.out ?_; (show _ = _; simp only [EvM.cells]; rw [HXN.out]); intro v' w3 hown hbel hgrow; have HO3 := hid hown; have HG3 := hid hgrow; clear hown hbel hgrow)
          go_wp2
          go_roundw
          case rel =>
            have e : selTo b xs (k + 1) = selTo b xs k ++ [X] := by have := HSL.out; simpa using this
            refine ⟨k + 1, HKM.out, by go_num, HST.out _ _ _ HI2.out (((Turns.refl _ w2).alloc _).grown HG3.out (fun g hg => .inl (HROW2.out.lt g hg).1)), ?_, (HT2.out.alloc _).grown HG3.out (fun g hg => .inl (.inr (HROW2.out.lt g hg).1))⟩
            rw [e, List.length_append]
            exact HO3.out
          case measure => simp [intOf]; have := HKM.out; omega
      · have hlt' : ¬ (k : Int) < (n : Int) := by omega
        obtain rfl : k = n := by omega
        go_wp2
        go_ret
        exact ⟨_, rfl, HR.out.row, HR.out.turn, HBL.out _ HR.out.turn⟩
end Go.Proofs.Ytkgfpnmifgifpaa
