/-
  The document's set of dots: Missing.
-/
import Derived.Test.YtplecopphddjhaaDotsB
import Derived.Test.YtplecopphddjhaaVvN
import Derived.Shelf.SlSortCmp.InsertionK
import Derived.Laws.AppendOwn
namespace Go.Proofs.Ytplecopphddjhaa
open Go.RowKit Go.Maps
set_option linter.unusedSimpArgs false

/-- Those of a list that the document's set has not. -/
def nopP (ps : List PairV) (l : List (Int × Int)) : List (Int × Int) := l.filter fun d => !(pget ps d.1 d.2).isSome
theorem nopP_snoc (ps : List PairV) {l : List (Int × Int)} {k : Nat} (hk : k < l.length) : nopP ps (l.take (k + 1)) = nopP ps (l.take k) ++ (if (pget ps l[k].1 l[k].2).isSome then [] else [l[k]]) := by
  unfold nopP
  rw [List.take_add_one, List.getElem?_eq_getElem hk, List.filter_append]
  congr 1
  simp only [Option.toList, List.filter_cons, List.filter_nil]
  generalize (pget ps l[k].1 l[k].2).isSome = b
  cases b <;> rfl
theorem nopP_full (ps : List PairV) (l : List (Int × Int)) {k : Nat} (h : (nopP ps (l.take k)).length = 4096) : (nopP ps l).take 4096 = nopP ps (l.take k) := by
  have hp : nopP ps (l.take k) <+: nopP ps l := by
    unfold nopP
    exact (List.take_prefix _ _).filter _
  rw [← take_full hp (by omega), List.take_of_length_le (by omega)]
def missP (ps : List PairV) (v : List Int) : List (Int × Int) := (nopP ps ((dotsAll [] v).take (ps.length + 4096))).take 4096
set_option maxRecDepth 1000000 in
set_option maxHeartbeats 2000000 in
theorem RsAt.missing {w : World} {B x : Nat} {ps : List PairV} {eo : Option Addr} {cap : Nat} (h : RsAt w B x ps eo cap) (vo : Option Addr) (vc : Nat) (v : List Int) (k0 : Nat) (hk0 : v.length = k0) (hv : HV w vo vc v) : Calls Try.prog 31 #[.pointer (some ⟨x, 0, none⟩), .slice vo k0 vc] w (ExtR w (missP ps v)) := by
  have H := hid h
  have HV0 := hid hv
  obtain ⟨n, HN⟩ : ∃ n, Hid (ps.length = n) := ⟨_, hid rfl⟩
  have HF : Hid (n ≤ 65536) := by rw [← HN.out]; exact h.few
  obtain ⟨M, HM⟩ : ∃ M, Hid (n + 4096 = M) := ⟨_, hid rfl⟩
  have HBT := hid (rbetween_any w none vo 0 vc [] v 0 k0 rfl hk0 (hv_nil w) hv M (by have := HM.out; have := HF.out; omega))
  have c0 := h.blk.cell (i := 0) rfl
  rw [HN.out] at c0
  have hw : wrap64 ((n : Int) + 4096) = (M : Int) := by have := HM.out; have := HF.out; rw [wrapN (by omega) (by omega)]; omega
  obtain ⟨l, HL⟩ : ∃ l, Hid ((dotsAll [] v).take M = l) := ⟨_, hid rfl⟩
  rw [HL.out] at HBT
  have HMP : Hid (missP ps v = (nopP ps l).take 4096) := by show _ = _; unfold missP; rw [HN.out, HM.out, HL.out]
  clear h hv hk0
  go_enter Try.func31, Try.ntmps31
  go_wp2_with fail
  refine HBT.out.mono ?_
  rintro e w0 ⟨lv, rfl, hown, hb0⟩
  obtain ⟨lo, lc, rfl⟩ := own_slice hown
  obtain ⟨L, HLL⟩ : ∃ L, Hid (l.length = L) := ⟨_, hid rfl⟩
  rw [HLL.out] at hown ⊢
  have HLB : Hid (L ≤ 900000) := by
    rw [← HLL.out, ← HL.out, List.length_take]
    have h1 := HM.out
    have h2 := HF.out
    exact (by omega : min M (dotsAll [] v).length ≤ 900000)
  have HROW := hid hown
  have HB0 := hid hb0
  clear hown hb0 hw c0
  go_wp2
  go_loopw [5, 7, 8, 9] (fun u i _ _ wr => ∃ k : Nat, i = .int .i64 k ∧ Hid (k ≤ L) ∧ Hid ((nopP ps (l.take k)).length ≤ 4096) ∧ Hid (wr.ownsRow w0.heap.size 25 2 u (nopP ps (l.take k)).length (flatD (nopP ps (l.take k))) ∧ Below w0.heap.size w0 wr)) (fun _ i _ _ _ => L - (intOf i).toNat)
  case atStart => exact ⟨0, rfl, Nat.zero_le _, (Nat.zero_le _ : (0 : Nat) ≤ 4096), World.ownsRow_nil _ _ _ _, Below.refl _ _⟩
  case round =>
    obtain ⟨k, rfl, HK, HLE, HR⟩ := hrel
    have HO := hid HR.out.1
    have HBV := hid HR.out.2
    have HB := hid (btN HB0.out HR.out.2)
    obtain ⟨uo, uc, rfl⟩ := own_slice HR.out.1
    obtain ⟨c, HC⟩ : ∃ c, Hid ((nopP ps (l.take k)).length = c) := ⟨_, hid rfl⟩
    have HO1 := hid HO.out
    rw [HC.out] at HO1 ⊢
    clear HR
    by_cases hlt : k < L
    · have hlt' : (k : Int) < (L : Int) := by omega
      by_cases hc : c < 4096
      · have hc' : (c : Int) < 4096 := by omega
        have HKX : Hid (k < l.length) := by rw [HLL.out]; exact hlt
        have HKM : Hid (k + 1 ≤ L) := (by omega : k + 1 ≤ L)
        have hwk : wrap64 ((k : Int) + 1) = (k : Int) + 1 := wrapN (by omega) (by have := HLB.out; omega)
        have HST := hid (nopP_snoc ps HKX.out)
        obtain ⟨q, HQ⟩ : ∃ q, Hid (l[k]'HKX.out = q) := ⟨_, hid rfl⟩
        have hrow := (Turns.of_below (F := fun _ => False) HBV.out (Nat.le_refl _)).row HROW.out (fun _ _ h => h)
        have HCW : Hid (c < 4096) := hc
        obtain ⟨b, hlo, _, _, hcd⟩ := dots_cells (n := L) (ds := l) (by rw [HLL.out]; exact hrow) (by have := HKX.out; omega)
        have HGD : Hid (l.getD k (0, 0) = q) := by show _ = _; rw [List.getD_eq_getElem?_getD, List.getElem?_eq_getElem HKX.out]; exact HQ.out
        obtain ⟨a0, a1⟩ := hcd k HKX.out
        rw [HGD.out] at a0 a1
        rw [HQ.out] at HST
        obtain ⟨qo, qs⟩ := q
        simp only at a0 a1 HST
        subst hlo
        have hk0 : (0 : Int) ≤ (k : Int) := by omega
        have HGET := hid ((H.out.below HB.out).get qo qs)
        clear hlt hrow hcd hc
        by_cases hs : (pget ps qo qs).isSome = true
        · rw [if_pos hs, List.append_nil] at HST
          rw [hs] at HGET
          clear hs
          go_wp2_with fail
          refine HGET.out.mono ?_
          rintro e w3 ⟨rfl, hb3⟩
          have HBV3 := hid (btN HBV.out hb3)
          have HO3 := hid ((Turns.of_below (F := fun _ => False) hb3 (Nat.le_refl _)).row HO.out (fun _ _ h => h))
          have HO4 : Hid (w3.ownsRow w0.heap.size 25 2 (.slice uo c uc) (nopP ps (l.take k)).length (flatD (nopP ps (l.take k)))) := by
            have h1 := HO3.out
            have h2 : Hid (Value.slice uo (nopP ps (l.take k)).length uc = Value.slice uo c uc) := by rw [HC.out]; exact hid rfl
            rw [← h2.out]
            exact h1
          clear hb3 a0 a1
          go_wp2
          go_roundw
          case rel => exact ⟨k + 1, by go_num, HKM.out, by rw [HST.out]; exact HLE.out, by rw [HST.out]; exact ⟨HO4.out, HBV3.out⟩⟩
          case measure => first | exact measNW HKM.out hwk | exact measN1 HKM.out
        · have hs : (pget ps qo qs).isSome = false := by simpa using hs
          rw [hs, if_neg (by decide)] at HST
          rw [hs] at HGET
          clear hs
          go_wp2_with fail
          refine HGET.out.mono ?_
          rintro e w3 ⟨rfl, hb3⟩
          have HB3 := hid (btN HB.out hb3)
          have HBV3 := hid (btN HBV.out hb3)
          have hrow3 := (Turns.of_below (F := fun _ => False) HBV3.out (Nat.le_refl _)).row HROW.out (fun _ _ h => h)
          obtain ⟨b2, hlo2, _, _, hcd2⟩ := dots_cells (n := L) (ds := l) (by rw [HLL.out]; exact hrow3) (by have := HKX.out; omega)
          obtain ⟨d0, d1⟩ := hcd2 k HKX.out
          cases hlo2
          rw [HGD.out] at d0 d1
          simp only at d0 d1
          have HO3 := hid ((Turns.of_below (F := fun _ => False) hb3 (Nat.le_refl _)).row HO.out (fun _ _ h => h))
          have HCL : Hid ((nopP ps (l.take k)).length ≤ 1000000) := (by have := HC.out; have := HCW.out; omega : (nopP ps (l.take k)).length ≤ 1000000)
          have HO4 : Hid (w3.ownsRow w0.heap.size 25 2 (.slice uo c uc) (nopP ps (l.take k)).length (flatD (nopP ps (l.take k)))) := by
            have h1 := HO3.out
            have h2 : Hid (Value.slice uo (nopP ps (l.take k)).length uc = Value.slice uo c uc) := by rw [HC.out]; exact hid rfl
            rw [← h2.out]
            exact h1
          have HL2 : Hid ((nopP ps (l.take (k + 1))).length ≤ 4096) := by
            show _ ≤ _
            rw [HST.out, List.length_append, HC.out, List.length_singleton]
            have := HCW.out
            omega
          clear hb3 a0 a1 hrow3 hcd2
          go_wp2_with (first | (at_builtin; refine wpList_append_dot w3 _ (qo, qs) rfl rfl _ _ rfl w0.heap.size _ (nopP ps (l.take k)) rfl rfl HO4.out HBV3.out.size HCL.out ?_; intro v' w5 hown hb5; have HO5 := hid hown; have HBV5 := hid (HBV3.out.trans hb5); clear hown hb5) | fail)
          go_roundw
          case rel => exact ⟨k + 1, by go_num, HKM.out, HL2.out, by rw [HST.out]; exact ⟨HO5.out, HBV5.out⟩⟩
          case measure => first | exact measNW HKM.out hwk | exact measN1 HKM.out
      · have hc' : ¬ (c : Int) < 4096 := by omega
        have HE : Hid ((nopP ps l).take 4096 = nopP ps (l.take k)) := nopP_full ps l (by have := HC.out; have := HLE.out; omega)
        clear hc hlt
        go_wp2
        go_ret
        refine ⟨_, rfl, ?_, HB.out⟩
        rw [HMP.out, HE.out, HC.out]
        have h1 := HO1.out
        exact ownsRow_baseN h1 HB0.out.size
    · have hlt' : ¬ (k : Int) < (L : Int) := by omega
      have HE : Hid ((nopP ps l).take 4096 = nopP ps (l.take k)) := by
        show _ = _
        have h1 : l.take k = l := List.take_of_length_le (by have := HLL.out; omega)
        rw [h1] at HLE ⊢
        exact List.take_of_length_le HLE.out
      clear hlt
      go_wp2
      go_ret
      refine ⟨_, rfl, ?_, HB.out⟩
      rw [HMP.out, HE.out, HC.out]
      have h1 := HO1.out
      exact ownsRow_baseN h1 HB0.out.size
end Go.Proofs.Ytplecopphddjhaa
/-
  A row of elements of k cells, and the world that slices.SortFunc leaves ('sortWorldK'). No function of the program is named here.
-/
namespace Go.Proofs.Ytplecopphddjhaa
open Go.RowKit Go.Sort

section
variable {α : Type} [Inhabited α] {enc : α → List Value} {k : Nat}

omit [Inhabited α] in
theorem rflat_len (hk : ∀ x, (enc x).length = k) : ∀ gs : List α, (gs.flatMap enc).length = gs.length * k
  | [] => by simp
  | x :: r => by
    rw [List.flatMap_cons, List.length_append, hk, rflat_len hk r, List.length_cons, Nat.succ_mul]
    omega
theorem rflat_get (hk : ∀ x, (enc x).length = k) (h0 : 0 < k) : ∀ (gs : List α) (j : Nat), j < gs.length * k → (gs.flatMap enc)[j]? = some (enc gs[j / k]!)[j % k]!
  | [], j, h => by simp at h
  | x :: r, j, h => by
    rw [List.flatMap_cons]
    by_cases hj : j < k
    · rw [List.getElem?_append_left (by rw [hk]; exact hj), Nat.div_eq_of_lt hj, Nat.mod_eq_of_lt hj]
      have hl : j < (enc x).length := by rw [hk]; exact hj
      simp [List.getElem?_eq_getElem hl, getElem!_pos (enc x) j hl]
    · obtain ⟨i, rfl⟩ : ∃ i, j = i + k := ⟨j - k, by omega⟩
      have hi : i < r.length * k := by rw [List.length_cons, Nat.succ_mul] at h; omega
      rw [List.getElem?_append_right (by rw [hk]; omega), hk, Nat.add_sub_cancel, rflat_get hk h0 r i hi, Nat.add_div_right _ h0, Nat.add_mod_right]
      simp

theorem flatK_list (hk : ∀ x, (enc x).length = k) (h0 : 0 < k) (gs : List α) (j : Nat) (hj : j < gs.length * k) : (gs.flatMap enc)[j]? = some (flatK enc k gs.toArray)[j]! := by
  rw [rflat_get hk h0 gs j hj, get_flatK enc k gs.toArray j (by simpa using hj)]
  simp

variable {w : World} {B e g cap : Nat} {gs : List α}
theorem holdsK_of_row (hk : ∀ x, (enc x).length = k) (h0 : 0 < k) (hown : w.ownsRow B e k (.slice (some ⟨g, 0, none⟩) gs.length cap) gs.length (gs.flatMap enc)) : HoldsK enc k w g 0 gs.toArray ∧ g < w.heap.size := by
  rcases hown.2 with ⟨h, _⟩ | ⟨g', cap', cur, he, _, hg, hn, _, hsz, htk⟩
  · cases h
  · cases he
    refine ⟨fun j hj => ?_, (Array.getElem?_eq_some_iff.1 hg).1⟩
    have hj' : j < gs.length * k := by simpa using hj
    have h1 : cur.toList[j]? = (gs.flatMap enc)[j]? := by rw [← htk, List.getElem?_take_of_lt hj']
    rw [flatK_list hk h0 gs j hj'] at h1
    constructor
    · simp only [World.cell?, hg, Nat.zero_add]
      simpa using h1
    · simp [World.frozen?, hg]

theorem row_of_sort (hk : ∀ x, (enc x).length = k) (h0 : 0 < k) (hown : w.ownsRow B e k (.slice (some ⟨g, 0, none⟩) gs.length cap) gs.length (gs.flatMap enc)) (hs : List α) (hl : hs.length = gs.length) (n : Nat) (os : Array Obj) :
    (sortWorldK enc k w g 0 n hs.toArray os).ownsRow B e k (.slice (some ⟨g, 0, none⟩) gs.length cap) gs.length (hs.flatMap enc) ∧ w.grownBy (sortWorldK enc k w g 0 n hs.toArray os) (some g) := by
  have hsize : ∀ i, i < w.heap.size → i < (putRowK enc k (Sort.ahead w n) g 0 hs.toArray).heap.size := fun i hi => by
    simpa [putRowK, putRow, mapBlock, Sort.ahead] using hi
  constructor
  · rcases hown.2 with ⟨h, _⟩ | ⟨g', cap', cur, he, hB, hg, hn, hm, hsz, htk⟩
    · cases h
    · cases he
      have hgl := (Array.getElem?_eq_some_iff.1 hg).1
      refine ⟨by rw [rflat_len hk, hl], .inr ⟨g, cap, putCells id 0 (flatK enc k hs.toArray) cur, rfl, hB, ?_, hn, hm, by simpa [putCells] using hsz, ?_⟩⟩
      · unfold sortWorldK
        rw [heap_grow_old _ _ (hsize g hgl)]
        show ((Sort.ahead w n).heap.modify g _)[g]? = _
        rw [Array.getElem?_modify]
        have hg' : (Sort.ahead w n).heap[g]? = some (.cells cur e (0, 0)) := hg
        rw [if_pos rfl, hg']
        rfl
      · apply List.ext_getElem?
        intro j
        by_cases hj : j < gs.length * k
        · rw [List.getElem?_take_of_lt hj, flatK_list hk h0 hs j (by rw [hl]; exact hj)]
          have hc : j < cur.size := by rw [hsz]; exact Nat.lt_of_lt_of_le hj (Nat.mul_le_mul_right k hn)
          have hf : j < (flatK enc k hs.toArray).size := by simpa [hl] using hj
          simp only [putCells, Array.getElem?_toList, Array.getElem?_mapIdx, Nat.zero_le, true_and, Nat.zero_add, Nat.sub_zero, id, hf, if_true]
          rw [Array.getElem?_eq_getElem hc]
          rfl
        · rw [List.getElem?_eq_none (by rw [List.length_take]; omega), List.getElem?_eq_none (by rw [rflat_len hk, hl]; omega)]
  · refine ⟨rfl, rfl, rfl, ?_, fun i hi hne => ?_⟩
    · have : (putRowK enc k (Sort.ahead w n) g 0 hs.toArray).heap.size = w.heap.size := by simp [putRowK, putRow, mapBlock, Sort.ahead]
      unfold sortWorldK grow
      simp [this]
    · unfold sortWorldK
      rw [heap_grow_old _ _ (hsize i hi)]
      show ((Sort.ahead w n).heap.modify g _)[i]? = _
      rw [Array.getElem?_modify, if_neg (fun e => hne (by rw [e]))]
      rfl
end
end Go.Proofs.Ytplecopphddjhaa
