/-
  pannierref16: the document's acceptor in memory ('RaAt'); find, Above.
-/
import Derived.Test.YtfmnbehopdmahaaGreatAcH
import Derived.Test.YtfmnbehopdmahaaGreatVoOpen
import Derived.Deep.QuietTactic
import Derived.BigQuiet
import Derived.Deep.RegionHeld3
import Derived.Deep.AppendLies
import Derived.Deep.RegionLaw
namespace Go.Proofs.YtfmnbehopdmahaaGreat
open Go.RowKit Go.Maps

/-- The cuts of these votes lie ahead of B. -/
def LowV (B : Nat) (xs : List VoM) : Prop := ∀ y ∈ xs, ∀ b off, y.en.ao = some ⟨b, off, none⟩ → y.en.e.cut ≠ [] → b < B
/-- The document's acceptor: its block x, its row of votes behind B. -/
structure RaAt (w : World) (B x : Nat) (nd : Int) (pr : Int × Int) (xs : List VoM) (eo : Option Addr) (cap : Nat) : Prop where
  blk : Blk w x 51 [.int .i64 nd, .int .i64 pr.1, .int .i64 pr.2, .slice eo xs.length cap]
  row : w.ownsRow B 73 8 (.slice eo xs.length cap) xs.length (flatVo xs)
  ok : AllVo w xs
  few : xs.length ≤ 4096
  low : LowV B xs
  bx : B ≤ x
theorem RaAt.below {w w' : World} {B x : Nat} {nd : Int} {pr : Int × Int} {xs : List VoM} {eo : Option Addr} {cap : Nat} (h : RaAt w B x nd pr xs eo cap) (hb : Below w.heap.size w w') : RaAt w' B x nd pr xs eo cap :=
  ⟨h.blk.below hb h.blk.lt, (Turns.of_below (F := fun _ => False) hb (Nat.le_refl _)).row h.row (fun _ _ h => h), h.ok.below hb, h.few, h.low, h.bx⟩
theorem RaAt.held {w : World} {B x : Nat} {nd : Int} {pr : Int × Int} {xs : List VoM} {eo : Option Addr} {cap : Nat} (h : RaAt w B x nd pr xs eo cap) : HeldVo w eo xs := by
  obtain ⟨ao, c, e, _, hh⟩ := heldVo_of_own rfl h.row h.ok
  cases e
  exact hh
theorem measWV {n k : Nat} (h : k + 1 ≤ n) (hw : wrap64 ((k : Int) + 1) = (k : Int) + 1) : n - (intOf (.int .i64 (wrap64 ((k : Int) + 1)))).toNat < n - (intOf (.int .i64 (k : Int))).toNat := by
  rw [hw]
  simp [intOf]
  omega
theorem meas1V {n k : Nat} (h : k + 1 ≤ n) : n - (intOf (.int .i64 ((k : Int) + 1))).toNat < n - (intOf (.int .i64 (k : Int))).toNat := by
  simp [intOf]
  omega
/-- Where the slot's vote lies, counted from k on; below 0: nowhere. -/
def findV : List VoM → Int → Nat → Int
  | [], _, _ => -1
  | x :: r, s, k => if x.slot = s then (k : Int) else findV r s (k + 1)
theorem findV_step {xs : List VoM} {s : Int} {k : Nat} (hk : k < xs.length) : findV (xs.drop k) s k = if (xs.getD k default).slot = s then (k : Int) else findV (xs.drop (k + 1)) s (k + 1) := by
  rw [List.drop_eq_getElem_cons hk, vo_getD hk]
  rfl
set_option maxRecDepth 100000 in
theorem RaAt.find {w : World} {B x : Nat} {nd : Int} {pr : Int × Int} {xs : List VoM} {eo : Option Addr} {cap : Nat} (h : RaAt w B x nd pr xs eo cap) (s : Int) : Calls Tryz.prog 22 #[.pointer (some ⟨x, 0, none⟩), .int .i64 s] w fun e w' => e = .returned (.int .i64 (findV xs s 0)) ∧ w' = w := by
  have c0 := h.blk.cell (i := 3) rfl
  obtain ⟨n, HN⟩ : ∃ n, Hid (xs.length = n) := ⟨_, hid rfl⟩
  rw [HN.out] at c0
  have HH := hid h.held
  have HF : Hid (n ≤ 4096) := by rw [← HN.out]; exact h.few
  obtain ⟨P, HP⟩ : ∃ P, Hid (findV xs s 0 = P) := ⟨_, hid rfl⟩
  rw [HP.out]
  clear h
  go_enter Tryz.func22, Tryz.ntmps22
  go_wp2
  go_loop [5] (fun i => ∃ k : Nat, k ≤ n ∧ i = .int .i64 k ∧ Hid (findV (xs.drop k) s k = P)) (fun i => n - (intOf i).toNat)
  case atStart => exact ⟨0, Nat.zero_le _, rfl, by rw [List.drop_zero]; exact HP.out⟩
  case round =>
    obtain ⟨k, hk, rfl, HR⟩ := hrel
    by_cases hlt : k < n
    · have hlt' : (k : Int) < (n : Int) := by omega
      have HKX : Hid (k < xs.length) := by rw [HN.out]; exact hlt
      have HKM : Hid (k + 1 ≤ n) := (by omega : k + 1 ≤ n)
      have HPS := hid (findV_step (s := s) HKX.out)
      have hwk : wrap64 ((k : Int) + 1) = (k : Int) + 1 := wrapS (by omega) (by have := HF.out; omega)
      obtain ⟨b, off, hao, _, d0, _⟩ := HH.out.cellsD HKX.out
      obtain ⟨sl, HSL⟩ : ∃ z, Hid ((xs.getD k default).slot = z) := ⟨_, hid rfl⟩
      rw [HSL.out] at d0 HPS
      subst hao
      by_cases he : sl = s
      · have HE : Hid (P = k) := by
          have h1 := HR.out
          rw [HPS.out, if_pos he] at h1
          exact h1.symm
        have he2 : (sl == s) = true := beq_iff_eq.2 he
        clear HPS HR
        go_wp2
        go_ret
        exact ⟨by rw [HE.out]; first | done | rfl, rfl⟩
      · have HE : Hid (findV (xs.drop (k + 1)) s (k + 1) = P) := by
          have h1 := HR.out
          rw [HPS.out, if_neg he] at h1
          exact h1
        have he2 : (sl == s) = false := beq_eq_false_iff_ne.2 he
        clear HPS HR
        go_wp2
        go_round
        case rel => exact ⟨k + 1, HKM.out, by go_num, HE.out⟩
        case measure => first | exact measWV HKM.out hwk | exact meas1V HKM.out
    · have hlt' : ¬ (k : Int) < (n : Int) := by omega
      have HE : Hid (P = -1) := by
        have h1 := HR.out
        rw [List.drop_eq_nil_of_le (by have := HN.out; omega)] at h1
        exact h1.symm
      go_wp2
      go_ret
      exact ⟨by rw [HE.out]; first | done | rfl, rfl⟩
/-- The votes of a slot and above, among the first k. -/
def aboveV (xs : List VoM) (s : Int) (k : Nat) : List VoM := (xs.take k).filter (fun x => decide (s ≤ x.slot))
theorem aboveV_no {xs : List VoM} {s : Int} {k : Nat} (hk : k < xs.length) (h : ¬ s ≤ (xs.getD k default).slot) : aboveV xs s (k + 1) = aboveV xs s k := by
  rw [vo_getD hk] at h
  unfold aboveV
  rw [List.take_succ_eq_append_getElem hk, List.filter_append]
  simp [h]
theorem aboveV_yes {xs : List VoM} {s : Int} {k : Nat} (hk : k < xs.length) (h : s ≤ (xs.getD k default).slot) : aboveV xs s (k + 1) = aboveV xs s k ++ [xs.getD k default] := by
  rw [vo_getD hk] at h ⊢
  unfold aboveV
  rw [List.take_succ_eq_append_getElem hk, List.filter_append]
  simp [h]
theorem aboveV_len (xs : List VoM) (s : Int) (k : Nat) : (aboveV xs s k).length ≤ xs.length :=
  Nat.le_trans (List.length_filter_le _ _) (by rw [List.length_take]; exact Nat.min_le_right _ _)
theorem aboveV_mem {xs : List VoM} {s : Int} {k : Nat} {x : VoM} (h : x ∈ aboveV xs s k) : x ∈ xs := List.mem_of_mem_take (List.mem_filter.1 h).1
/-- What Above answers: a row of its own. -/
def AbvR (w : World) (ys : List VoM) (e : Ending) (w' : World) : Prop := ∃ ao cap, e = .returned (.slice ao ys.length cap) ∧ w'.ownsRow w.heap.size 73 8 (.slice ao ys.length cap) ys.length (flatVo ys) ∧ Below w.heap.size w w'
theorem own_sliceV {w : World} {B : Nat} {v : Value} {xs : List VoM} (h : w.ownsRow B 73 8 v xs.length (flatVo xs)) : ∃ ao cap, v = .slice ao xs.length cap := by
  rcases h.2 with ⟨rfl, h0⟩ | ⟨g, cap, cur, rfl, _⟩
  · exact ⟨none, 0, by rw [h0]⟩
  · exact ⟨_, _, rfl⟩
set_option maxRecDepth 100000 in
set_option maxHeartbeats 2000000 in
theorem RaAt.above {w : World} {B x : Nat} {nd : Int} {pr : Int × Int} {xs : List VoM} {eo : Option Addr} {cap : Nat} (h : RaAt w B x nd pr xs eo cap) (s : Int) : Calls Tryz.prog 14 #[.pointer (some ⟨x, 0, none⟩), .int .i64 s] w (AbvR w (aboveV xs s xs.length)) := by
  obtain ⟨n, HN⟩ : ∃ n, Hid (xs.length = n) := ⟨_, hid rfl⟩
  have HF : Hid (n ≤ 4096) := by rw [← HN.out]; exact h.few
  have HH := hid h
  rw [HN.out]
  clear h
  go_enter Tryz.func14, Tryz.ntmps14
  go_wp2
  go_loopw [5, 6] (fun v i wr => ∃ k : Nat, k ≤ n ∧ i = .int .i64 k ∧ Hid (wr.ownsRow w.heap.size 73 8 v (aboveV xs s k).length (flatVo (aboveV xs s k)) ∧ Below w.heap.size w wr)) (fun _ i _ => n - (intOf i).toNat)
  case atStart => exact ⟨0, Nat.zero_le _, rfl, World.ownsRow_nil _ _ _ _, Below.refl _ _⟩
  case round =>
    obtain ⟨k, hk, rfl, HR⟩ := hrel
    have HHR := hid (HH.out.below HR.out.2)
    have hc0 := HHR.out.blk.cell (i := 3) rfl
    rw [HN.out] at hc0
    by_cases hlt : k < n
    · have hlt' : (k : Int) < (n : Int) := by omega
      have HKM : Hid (k + 1 ≤ n) := (by omega : k + 1 ≤ n)
      have hwk : wrap64 ((k : Int) + 1) = (k : Int) + 1 := wrapS (by omega) (by have := HF.out; omega)
      have HCX : Hid (k < xs.length) := by rw [HN.out]; exact hlt
      obtain ⟨b, off, hao, _, d0, d1, d2, d3, d4, d5, d6, d7⟩ := HHR.out.held.cellsD HCX.out
      obtain ⟨Y, HY⟩ : ∃ y, Hid (xs.getD k default = y) := ⟨_, hid rfl⟩
      rw [HY.out] at d0 d1 d2 d3 d4 d5 d6 d7
      have HNO : Hid (¬ s ≤ Y.slot → aboveV xs s (k + 1) = aboveV xs s k) := fun hc => aboveV_no HCX.out (by rw [HY.out]; exact hc)
      have HYES : Hid (s ≤ Y.slot → aboveV xs s (k + 1) = aboveV xs s k ++ [Y]) := fun hc => by rw [aboveV_yes HCX.out (by rw [HY.out]; exact hc), HY.out]
      obtain ⟨sl, ⟨br, bn⟩, ⟨⟨np, tk, ct, ep, dp⟩, yo, yc⟩⟩ := Y
      simp only at d0 d1 d2 d3 d4 d5 d6 d7
      obtain ⟨XN, HXN⟩ : ∃ z, Hid (dp.length = z) := ⟨_, hid rfl⟩
      rw [HXN.out] at d7
      subst hao
      have HROW := hid HR.out.1
      have HB := hid HR.out.2
      clear HR hlt
      by_cases hs : s ≤ sl
      · have HNX := hid (HYES.out hs)
        have hs' : decide (sl ≥ s) = true := decide_eq_true hs
        have HLN : Hid ((aboveV xs s k).length < 1466015503701) := by
          have := aboveV_len xs s k
          have := HN.out
          have := HF.out
          exact (by omega : (aboveV xs s k).length < 1466015503701)
        clear HNO HYES
        go_wp2_with (at_builtin; refine wpList_append_voG wr _ ⟨sl, (br, bn), ⟨⟨np, tk, ct, ep, dp⟩, yo, yc⟩⟩ (by simp only [VoM.cells]; rw [HXN.out]) rfl _ _ rfl w.heap.size _ (aboveV xs s k) _ rfl _ rfl rfl rfl HROW.out HB.out.size HLN.out ?_; intro v' w7 hown hbel hgrow; have HO7 := hid hown; have HB7 := hid (HB.out.trans hbel); clear hown hbel hgrow)
        go_roundw
        case rel => exact ⟨k + 1, HKM.out, by go_num, by rw [HNX.out, List.length_append]; exact ⟨HO7.out, HB7.out⟩⟩
        case measure => first | exact measWV HKM.out hwk | exact meas1V HKM.out
      · have HNX := hid (HNO.out hs)
        have hs' : decide (sl ≥ s) = false := decide_eq_false hs
        clear HNO HYES
        go_wp2
        go_roundw
        case rel => exact ⟨k + 1, HKM.out, by go_num, by rw [HNX.out]; exact ⟨HROW.out, HB.out⟩⟩
        case measure => first | exact measWV HKM.out hwk | exact meas1V HKM.out
    · have hlt' : ¬ (k : Int) < (n : Int) := by omega
      obtain rfl : k = n := by omega
      obtain ⟨ao, cp, hv⟩ := own_sliceV HR.out.1
      subst hv
      have HROW := hid HR.out.1
      have HB := hid HR.out.2
      clear HR
      go_wp2
      go_ret
      exact ⟨_, _, rfl, HROW.out, HB.out⟩
end Go.Proofs.YtfmnbehopdmahaaGreat
/-
  pannierref16.sameEntry of any two.
-/
namespace Go.Proofs.YtfmnbehopdmahaaGreat
open Go.RowKit Go.Maps
attribute [local go_sem] undef

theorem str_ne {a b : ByteArray} (h : a ≠ b) : (a.toList == b.toList) = false ∧ ¬ a.toList = b.toList := by
  have h1 : ¬ a.toList = b.toList := fun hh => h (by
    rw [ByteArray.toList_eq, ByteArray.toList_eq] at hh
    exact ByteArray.ext (Array.ext' hh))
  exact ⟨beq_eq_false_iff_ne.2 h1, h1⟩
def CutTo (a b : List Int) (k : Nat) : Prop := ∀ j, j < k → a.getD j 0 = b.getD j 0
theorem cut_eq {a b : List Int} (hl : a.length = b.length) (h : CutTo a b a.length) : a = b := by
  refine List.ext_getElem hl (fun j h1 h2 => ?_)
  have := h j h1
  simpa [List.getD, List.getElem?_eq_getElem h1, List.getElem?_eq_getElem h2] using this
set_option maxRecDepth 100000 in
set_option maxHeartbeats 1000000 in
theorem sameEntry_R (w : World) (x y : EnM) (hx : EnOk w x) (hy : EnOk w y) : Calls Tryz.prog 43 #[x.val, y.val] w fun e w' => e = .returned (.bool (decide (x.e = y.e))) ∧ Below w.heap.size w w' := by
  obtain ⟨⟨xn, xt, xc, xe, xd⟩, xo, xcap⟩ := x
  obtain ⟨⟨yn, yt, yc, ye, yd⟩, yo, ycap⟩ := y
  obtain ⟨XL, HXL⟩ : ∃ z, Hid (xd.length = z) := ⟨_, hid rfl⟩
  obtain ⟨YL, HYL⟩ : ∃ z, Hid (yd.length = z) := ⟨_, hid rfl⟩
  simp only [EnM.val]
  rw [HXL.out, HYL.out]
  obtain ⟨W, hW⟩ : ∃ W, W = (w.alloc (.cells #[.bool xn, .string xt, .string xc, .int .i64 xe, .slice xo XL xcap] 39)).alloc (.cells #[.bool yn, .string yt, .string yc, .int .i64 ye, .slice yo YL ycap] 39) := ⟨_, rfl⟩
  have HB : Hid (Below w.heap.size w W) := by rw [hW]; exact ((Below.refl _ _).alloc (Nat.le_refl _) _).alloc (by simp) _
  have HX : Hid (Blk W w.heap.size 39 [.bool xn, .string xt, .string xc, .int .i64 xe, .slice xo XL xcap]) := by rw [hW]; exact (Blk.new w _ _).alloc _
  have HY : Hid (Blk W (w.heap.size + 1) 39 [.bool yn, .string yt, .string yc, .int .i64 ye, .slice yo YL ycap]) := by
    have := Blk.new (w.alloc (.cells #[.bool xn, .string xt, .string xc, .int .i64 xe, .slice xo XL xcap] 39)) 39 [.bool yn, .string yt, .string yc, .int .i64 ye, .slice yo YL ycap]
    rw [World.size_alloc] at this
    rw [hW]
    exact this
  have HVX := hid (hx.cut.below HB.out)
  have HVY := hid (hy.cut.below HB.out)
  have HFX : Hid (XL ≤ 17592186044416) := by rw [← HXL.out]; exact hx.cut.few
  obtain ⟨Z, HZ⟩ : ∃ z, Hid (decide ((⟨xn, xt, xc, xe, xd⟩ : En) = ⟨yn, yt, yc, ye, yd⟩) = z) := ⟨_, hid rfl⟩
  rw [HZ.out]
  have HNE : Hid ((xn ≠ yn ∨ xt ≠ yt ∨ xc ≠ yc ∨ xe ≠ ye ∨ xd ≠ yd) → Z = false) := fun hh => by
    rw [← HZ.out]
    refine decide_eq_false (fun he => ?_)
    simp only [En.mk.injEq] at he
    rcases hh with h | h | h | h | h
    · exact h he.1
    · exact h he.2.1
    · exact h he.2.2.1
    · exact h he.2.2.2.1
    · exact h he.2.2.2.2
  have HEQ : Hid (xn = yn → xt = yt → xc = yc → xe = ye → xd = yd → Z = true) := fun h1 h2 h3 h4 h5 => by
    rw [← HZ.out]
    exact decide_eq_true (by rw [h1, h2, h3, h4, h5])
  obtain ⟨q, HQ⟩ : ∃ q, Hid (q = w.heap.size) := ⟨_, hid rfl⟩
  rw [← HQ.out] at HX HY
  have HW := hid hW
  clear hx hy HZ hW
  have c0 := HX.out.cell (i := 0) rfl
  have c1 := HX.out.cell (i := 1) rfl
  have c2 := HX.out.cell (i := 2) rfl
  have c3 := HX.out.cell (i := 3) rfl
  have c4 := HX.out.cell (i := 4) rfl
  have d0 := HY.out.cell (i := 0) rfl
  have d1 := HY.out.cell (i := 1) rfl
  have d2 := HY.out.cell (i := 2) rfl
  have d3 := HY.out.cell (i := 3) rfl
  have d4 := HY.out.cell (i := 4) rfl

  by_cases e1 : xn = yn
  rotate_left 1
  · have HF : Hid (Z = false) := HNE.out (.inl e1)
    clear HNE HEQ
    have b1 : (xn != yn) = true := bne_iff_ne.2 e1
    go_enter Tryz.func43, Tryz.ntmps43
    go_wp2
    go_ret
    exact ⟨by rw [HF.out]; rfl, by rw [← HW.out]; exact HB.out⟩
  have HE1 := hid e1
  subst e1
  by_cases e2 : xt = yt
  rotate_left 1
  · have HF : Hid (Z = false) := HNE.out (.inr (.inl e2))
    clear HNE HEQ
    obtain ⟨b2, b2n⟩ := str_ne e2
    go_enter Tryz.func43, Tryz.ntmps43
    go_wp2
    go_ret
    exact ⟨by rw [HF.out]; rfl, by rw [← HW.out]; exact HB.out⟩
  subst e2
  by_cases e3 : xc = yc
  rotate_left 1
  · have HF : Hid (Z = false) := HNE.out (.inr (.inr (.inl e3)))
    clear HNE HEQ
    obtain ⟨b3, b3n⟩ := str_ne e3
    go_enter Tryz.func43, Tryz.ntmps43
    go_wp2
    go_ret
    exact ⟨by rw [HF.out]; rfl, by rw [← HW.out]; exact HB.out⟩
  subst e3
  by_cases e4 : xe = ye
  rotate_left 1
  · have HF : Hid (Z = false) := HNE.out (.inr (.inr (.inr (.inl e4))))
    clear HNE HEQ
    have b4 : (xe != ye) = true := bne_iff_ne.2 e4
    go_enter Tryz.func43, Tryz.ntmps43
    go_wp2
    go_ret
    exact ⟨by rw [HF.out]; rfl, by rw [← HW.out]; exact HB.out⟩
  subst e4
  by_cases e5 : XL = YL
  rotate_left 1
  · have HF : Hid (Z = false) := HNE.out (.inr (.inr (.inr (.inr (fun h => e5 (by rw [← HXL.out, ← HYL.out, h]))))))
    clear HNE HEQ
    have b5 : ((XL : Int) != (YL : Int)) = true := bne_iff_ne.2 (by omega)
    go_enter Tryz.func43, Tryz.ntmps43
    go_wp2
    go_ret
    exact ⟨by rw [HF.out]; rfl, by rw [← HW.out]; exact HB.out⟩
  subst e5
  have HLX : Hid (xd.length = yd.length) := by rw [HXL.out, HYL.out]; exact hid rfl
  have HEQ2 : Hid (xd = yd → Z = true) := fun h => HEQ.out rfl rfl rfl rfl h
  have HNE2 : Hid (xd ≠ yd → Z = false) := fun h => HNE.out (.inr (.inr (.inr (.inr h))))
  clear HEQ HNE
  go_enter Tryz.func43, Tryz.ntmps43
  go_wp2
  rw [← HW.out, ← HQ.out]
  go_loopw [5] (fun i wr => ∃ k : Nat, k ≤ XL ∧ i = .int .i64 k ∧ Hid (Below W.heap.size W wr ∧ CutTo xd yd k)) (fun i _ => XL - (intOf i).toNat)
  case atStart => exact ⟨0, Nat.zero_le _, rfl, Below.refl _ _, fun j hj => (by omega)⟩
  case round =>
    obtain ⟨k, hk, rfl, HR⟩ := hrel
    have f4 := (HR.out.1.cell (p := ⟨q, 4, none⟩) HX.out.lt).trans c4
    have g4 := (HR.out.1.cell (p := ⟨q + 1, 4, none⟩) HY.out.lt).trans d4
    clear c0 c1 c2 c3 c4 d0 d1 d2 d3 d4
    by_cases hlt : k < XL
    · have hlt' : (k : Int) < (XL : Int) := by omega
      have HKM : Hid (k + 1 ≤ XL) := (by omega : k + 1 ≤ XL)
      have hwk : wrap64 ((k : Int) + 1) = (k : Int) + 1 := wrapS (by omega) (by have := HFX.out; omega)
      obtain ⟨b1, o1, hb1, hc1⟩ := (HVX.out.below HR.out.1).held.cellAt (k := k) (by rw [HXL.out]; exact hlt)
      obtain ⟨b2, o2, hb2, hc2⟩ := (HVY.out.below HR.out.1).held.cellAt (k := k) (by rw [HYL.out]; exact hlt)
      have x0 := hc1 k (by rw [HXL.out]; exact hlt)
      have y0 := hc2 k (by rw [HYL.out]; exact hlt)
      obtain ⟨a1, HA1⟩ : ∃ z, Hid (xd.getD k 0 = z) := ⟨_, hid rfl⟩
      obtain ⟨a2, HA2⟩ : ∃ z, Hid (yd.getD k 0 = z) := ⟨_, hid rfl⟩
      rw [HA1.out] at x0
      rw [HA2.out] at y0
      subst hb1
      subst hb2
      clear hc1 hc2 hlt
      by_cases he : a1 = a2
      · have HG : Hid (CutTo xd yd (k + 1)) := fun j hj => by
          by_cases e : j = k
          · subst e
            rw [HA1.out, HA2.out]
            exact he
          · exact HR.out.2 j (by omega)
        subst he
        clear HNE2 HEQ2
        go_wp2
        go_big_quiet (fail)
        go_wp2
        go_roundw
        case rel => exact ⟨k + 1, HKM.out, by go_num, below_dn HR.out.1 _, HG.out⟩
        case measure => first | exact measWV HKM.out hwk | exact meas1V HKM.out
      · have HF : Hid (Z = false) := HNE2.out (fun h => he (by rw [← HA1.out, ← HA2.out, h]))
        have he2 : (a1 != a2) = true := bne_iff_ne.2 he
        clear HNE2 HEQ2
        go_wp2
        go_big_quiet (fail)
        go_wp2
        go_ret
        exact ⟨by rw [HF.out]; rfl, below_dn (bt' HB.out HR.out.1) _⟩
    · have hlt' : ¬ (k : Int) < (XL : Int) := by omega
      have HF : Hid (Z = true) := HEQ2.out (cut_eq HLX.out (fun j hj => HR.out.2 j (by have := HXL.out; omega)))
      have HBF := hid (bt' HB.out HR.out.1)
      clear HNE2 HEQ2 HR
      go_wp2
      go_ret
      exact ⟨by rw [HF.out]; rfl, HBF.out⟩
end Go.Proofs.YtfmnbehopdmahaaGreat
/-
  Votes appended in a drawn region, by the cells alone; a row of votes with one more, with one turned.
-/
namespace Go.Proofs.YtfmnbehopdmahaaGreat
open Go.RowKit Go.Maps

/-- The cells of a row of slots. -/
def HeldV8 (w : World) (ao : Option Addr) (xs : List VoM) : Prop :=
  xs = [] ∨ ∃ b off, ao = some ⟨b, off, none⟩ ∧ b < w.heap.size ∧ ∀ j (hj : j < xs.length) c u, xs[j].cells[c]? = some u → w.cell? ⟨b, off + j * 8 + c, none⟩ = some u
theorem HeldV8.below {w w' : World} {ao : Option Addr} {xs : List VoM} (h : HeldV8 w ao xs) (hb : Below w.heap.size w w') : HeldV8 w' ao xs := by
  rcases h with h0 | ⟨b, off, h1, h2, h3⟩
  · exact .inl h0
  · exact .inr ⟨b, off, h1, Nat.lt_of_lt_of_le h2 hb.size, fun j hj c u hu => (hb.cell (p := ⟨b, off + j * 8 + c, none⟩) h2).trans (h3 j hj c u hu)⟩
theorem HeldVo.v8 {w : World} {ao : Option Addr} {xs : List VoM} (h : HeldVo w ao xs) : HeldV8 w ao xs := h.2
theorem HeldV8.take {w : World} {ao : Option Addr} {xs : List VoM} (h : HeldV8 w ao xs) (k : Nat) : HeldV8 w ao (xs.take k) := by
  rcases h with h0 | ⟨b, off, h1, h2, h3⟩
  · left; rw [h0]; simp
  · refine .inr ⟨b, off, h1, h2, fun j hj c u hu => ?_⟩
    rw [List.length_take] at hj
    exact h3 j (by omega) c u (by rw [List.getElem_take] at hu; exact hu)
theorem HeldV8.drop {w : World} {b off : Nat} {xs : List VoM} (h : HeldV8 w (some ⟨b, off, none⟩) xs) (k : Nat) : HeldV8 w (some ⟨b, off + k * 8, none⟩) (xs.drop k) := by
  rcases h with h0 | ⟨b', off', h1, h2, h3⟩
  · left; rw [h0]; simp
  · cases h1
    refine .inr ⟨b, off + k * 8, rfl, h2, fun j hj c u hu => ?_⟩
    rw [List.length_drop] at hj
    have := h3 (k + j) (by omega) c u (by rw [List.getElem_drop] at hu; exact hu)
    rw [show off + (k + j) * 8 + c = off + k * 8 + j * 8 + c by rw [Nat.add_mul]; omega] at this
    exact this
theorem heldV8_of_own {w : World} {B : Nat} {v : Value} {xs : List VoM} {n : Nat} (hn : xs.length = n) (h : w.ownsRow B 73 8 v n (flatVo xs)) : ∃ ao cap, v = .slice ao n cap ∧ n ≤ cap ∧ HeldV8 w ao xs := by
  subst hn
  obtain ⟨eo, cap, rfl, hnc, hc⟩ := own_form8 h
  refine ⟨eo, cap, rfl, hnc, ?_⟩
  by_cases h0 : xs = []
  · exact .inl h0
  · obtain ⟨g, rfl, _, hg, hcell⟩ := hc (List.length_pos_iff.2 h0)
    refine .inr ⟨g, 0, rfl, hg, fun j hj c u hu => ?_⟩
    rw [Nat.zero_add]
    exact hcell _ _ (flatVo_get xs j hj c u hu)
theorem HeldV8.news {w : World} {ad : Addr} {xs : List VoM} (h : HeldV8 w (some ad) xs) : ∀ j u, (flatVo xs)[j]? = some u → w.cell? (ad.add j) = some u := by
  intro i u hu
  have hlt := (List.getElem?_eq_some_iff.1 hu).1
  rw [flatVo_len] at hlt
  rcases h with h0 | ⟨b, off, e, _, h3⟩
  · subst h0
    simp at hlt
  · cases e
    have hj : i / 8 < xs.length := by omega
    have hc : xs[i / 8].cells[i % 8]? = some u := by
      have hlen : i % 8 < xs[i / 8].cells.length := by show _ < 8; omega
      have h4 := flatVo_get xs (i / 8) hj (i % 8) _ (List.getElem?_eq_getElem hlen)
      rw [show i / 8 * 8 + i % 8 = i by omega] at h4
      rw [hu] at h4
      rw [List.getElem?_eq_getElem hlen, h4]
    have h5 := h3 (i / 8) hj (i % 8) u hc
    rw [Addr.add_lit]
    rw [show off + i / 8 * 8 + i % 8 = off + i by omega] at h5
    exact h5
theorem flatV8_one (xs : List VoM) : ∀ u ∈ flatVo xs, u.oneCell' = true := by
  intro u hu
  obtain ⟨x, _, hx⟩ := List.mem_flatMap.1 hu
  exact vo_one x u hx
/-- append of orders to a row of the call's own, in a region that draws its order. -/
theorem step_append_v8 {ops : Array Oper} {o : Oper} {a : Act} {w : World} {K : Act → World → Prop} {Q : Exit → Act → World → Prop} {E : Prop} (hgd : o.guard = none) (s x : Operand)
    (ho : o.op = .call { callee := .builtin .append, args := #[s, x], argTypes := #[40, 40] })
    (base : Nat) (v : Value) (n : Nat) (ds : List VoM) (hn : ds.length = n) (hs : a.eval s = v) (hown : w.ownsRow base 73 8 v n (flatVo ds))
    (ao : Option Addr) (m c : Nat) (xs : List VoM) (hm : xs.length = m) (hx : a.eval x = .slice ao m c) (hh : HeldV8 w ao xs) (hsum : n + m ≤ 100000000) (hbase : base ≤ w.heap.size)
    (h : ∀ bo cp w', w'.ownsRow base 73 8 (.slice bo (n + m) cp) (n + m) (flatVo (ds ++ xs)) → Below base w w' → w.grownBy w' v.ownBlock → K (a.put o.dst (.slice bo (n + m) cp)) w') :
    if Region.wanted o (yielded ops a.tmps) = true then Oper.wp Tryz.prog o a w K Q else E := by
  have hw : Region.wanted o (yielded ops a.tmps) = true := by simp [Region.wanted, hgd]
  rw [if_pos hw]
  obtain ⟨iI, hj, hy0, hy1, hy2⟩ := info_parts Tryz.infoVo
  cases ao with
  | none =>
    have hx0 : xs = [] := by
      rcases hh with h0 | ⟨b, off, e, _⟩
      · exact h0
      · cases e
    subst hx0
    obtain rfl : 0 = m := hm
    have hr := run_append_noneI (P := Tryz.prog) w base 40 o.type 73 iI 8 Tryz.underlying40 hj v n c _ hown
    rw [List.append_nil] at h
    simp only [Nat.add_zero] at h
    obtain ⟨eo, cap, hv, _, _⟩ := heldV8_of_own hn hown
    unfold Oper.wp execOp
    simp only [ho, resolve, invoke, builtin, Sem.run_bind, Sem.run_pure, Result.andThen_ok, List.map_toArray, List.map_cons, List.map_nil, hs, hx, hr]
    have := h eo cap w (by rw [← hv]; exact hown) (Below.refl _ _) (World.grownBy.refl _ _)
    rw [← hv] at this
    exact this
  | some ad =>
    obtain ⟨v', w', hr, hown', hgrow, _, _⟩ := run_append_own_at (P := Tryz.prog) w base 40 o.type 73 iI _ 8 96 Tryz.underlying40 hj hy0 hy1 hy2 rfl (by decide) v n (flatVo ds) hown ad m c (flatVo xs) (by rw [flatVo_len, hm]) hh.news (flatV8_one xs) (by unfold maxLen; omega) (by omega) hbase
    unfold Oper.wp execOp
    simp only [ho, resolve, invoke, builtin, Sem.run_bind, Sem.run_pure, Result.andThen_ok, List.map_toArray, List.map_cons, List.map_nil, hs, hx, hr]
    rw [show flatVo ds ++ flatVo xs = flatVo (ds ++ xs) by simp [flatVo]] at hown'
    have hb : Below base w w' := (Below.refl _ _).grown hgrow hbase (fun k hk => (hown.lt k hk).1)
    obtain ⟨bo, cp, rfl, _, _⟩ := heldV8_of_own (by rw [List.length_append, hn, hm]) hown'
    exact h bo cp w' hown' hb hgrow
theorem step_copy_v8 {ops : Array Oper} {o : Oper} {a : Act} {w : World} {K : Act → World → Prop} {Q : Exit → Act → World → Prop} {E : Prop} (hgd : o.guard = none) (s x : Operand)
    (ho : o.op = .call { callee := .builtin .append, args := #[s, x], argTypes := #[40, 40] })
    (base : Nat) (g : Nat) (hs : a.eval s = .slice (some ⟨g, 0, none⟩) 0 0) (hown : w.ownsRow base 73 8 (.slice (some ⟨g, 0, none⟩) 0 0) 0 (flatVo []))
    (ao : Option Addr) (m c : Nat) (xs : List VoM) (hm : xs.length = m) (hx : a.eval x = .slice ao m c) (hh : HeldV8 w ao xs) (hsum : m ≤ 100000000) (hbase : base ≤ w.heap.size)
    (h : ∀ bo cp w', w'.ownsRow base 73 8 (.slice bo m cp) m (flatVo xs) → Below base w w' → w.grownBy w' (some g) → K (a.put o.dst (.slice bo m cp)) w') :
    if Region.wanted o (yielded ops a.tmps) = true then Oper.wp Tryz.prog o a w K Q else E := by
  refine step_append_v8 hgd s x ho base _ 0 [] rfl hs hown ao m c xs hm hx hh (by omega) hbase ?_
  intro bo cp w' h1 h2 h3
  rw [Nat.zero_add] at h1 ⊢
  exact h bo cp w' h1 h2 h3
theorem ownV8_made (w : World) (B : Nat) (hB : B ≤ w.heap.size) : (w.alloc (.cells #[] 73)).ownsRow B 73 8 (.slice (some ⟨w.heap.size, 0, none⟩) 0 0) 0 (flatVo []) :=
  ⟨rfl, .inr ⟨w.heap.size, 0, #[], rfl, hB, World.alloc_heap_new w _, Nat.le_refl _, Nat.zero_le _, rfl, rfl⟩⟩
theorem ownV8_made2 (w : World) (o : Obj) (B : Nat) (hB : B ≤ w.heap.size) : ((w.alloc o).alloc (.cells #[] 73)).ownsRow B 73 8 (.slice (some ⟨w.heap.size + 1, 0, none⟩) 0 0) 0 (flatVo []) := by
  have := ownV8_made (w.alloc o) B (by simp; omega)
  rw [World.size_alloc] at this
  exact this
theorem held_newV8 (V : World) (x : VoM) : HeldV8 (V.alloc (.cells x.cells.toArray 73)) (some ⟨V.heap.size, 0, none⟩) [x] := .inr ⟨V.heap.size, 0, rfl, by simp, fun j hj c u hu => by
  have hj0 : j = 0 := by simp at hj; exact hj
  subst hj0
  have h1 := (Blk.new V 73 x.cells).cell hu
  simpa using h1⟩
theorem held_grownV8 {w w' : World} {b g : Nat} {xs : List VoM} (h : HeldV8 w (some ⟨b, 0, none⟩) xs) (hg : w.grownBy w' (some g)) (hne : b ≠ g) : HeldV8 w' (some ⟨b, 0, none⟩) xs := by
  rcases h with h0 | ⟨b', off, e, h2, h3⟩
  · exact .inl h0
  · cases e
    refine .inr ⟨b, 0, rfl, Nat.lt_of_lt_of_le h2 hg.size, fun j hj c u hu => ?_⟩
    have h4 := h3 j hj c u hu
    have h5 := hg.block b h2 (by simpa using hne)
    unfold World.cell? at h4 ⊢
    rw [h5]
    exact h4

theorem ScL.grown {W V U : World} (h : ScL W V) (hb : Below W.heap.size V U) : ScL W U := ⟨h.out.trans hb⟩
theorem ScL.size {W V : World} (h : ScL W V) : W.heap.size ≤ V.heap.size := h.out.size
theorem enOk_turned {F : Nat → Prop} {w w' : World} {x : EnM} (h : EnOk w x) (ht : Turns F w w') (ho : ∀ b off, x.ao = some ⟨b, off, none⟩ → x.e.cut ≠ [] → ¬ F b) : EnOk w' x :=
  ⟨⟨h.cut.held.turned ht ho, h.cut.room, h.cut.few⟩, h.ie, h.ht, h.hc⟩
theorem voOk_turned {F : Nat → Prop} {w w' : World} {x : VoM} (h : VoOk w x) (ht : Turns F w w') (ho : ∀ b off, x.en.ao = some ⟨b, off, none⟩ → x.en.e.cut ≠ [] → ¬ F b) : VoOk w' x := ⟨enOk_turned h.en ht ho, h.is, h.i1, h.i2⟩
/-- How many of the first votes lie before the slot. -/
def leadV : List VoM → Int → Nat
  | [], _ => 0
  | x :: r, s => if x.slot < s then leadV r s + 1 else 0
def insV (xs : List VoM) (k : Nat) (v : VoM) : List VoM := xs.take k ++ [v] ++ xs.drop k
def voteV (xs : List VoM) (v : VoM) : List VoM := if 0 ≤ findV xs v.slot 0 then xs.set (findV xs v.slot 0).toNat v else insV xs (leadV xs v.slot) v
def chgV (xs : List VoM) (v : VoM) : Bool := if 0 ≤ findV xs v.slot 0 then !(decide ((xs.getD (findV xs v.slot 0).toNat default).bal = v.bal) && decide ((xs.getD (findV xs v.slot 0).toNat default).en.e = v.en.e)) else true
theorem leadV_le : ∀ (xs : List VoM) (s : Int), leadV xs s ≤ xs.length
  | [], _ => Nat.le_refl _
  | x :: r, s => by
    unfold leadV
    have := leadV_le r s
    rw [List.length_cons]
    split <;> omega
theorem leadV_step {xs : List VoM} {s : Int} {k : Nat} (hk : k < xs.length) : leadV (xs.drop k) s = if (xs.getD k default).slot < s then leadV (xs.drop (k + 1)) s + 1 else 0 := by
  rw [List.drop_eq_getElem_cons hk, vo_getD hk]
  rfl
theorem findV_or : ∀ (xs : List VoM) (s : Int) (k : Nat), findV xs s k = -1 ∨ ∃ j, j < xs.length ∧ findV xs s k = ((k + j : Nat) : Int) ∧ (xs.getD j default).slot = s
  | [], _, _ => .inl rfl
  | x :: r, s, k => by
    by_cases h : x.slot = s
    · exact .inr ⟨0, by simp, by simp [findV, h], by simpa using h⟩
    · rcases findV_or r s (k + 1) with h1 | ⟨j, h1, h2, h3⟩
      · exact .inl (by simp [findV, h, h1])
      · exact .inr ⟨j + 1, by simpa using h1, by simp only [findV, if_neg h, h2]; omega, by simpa using h3⟩
/-- What vote turns: the block, the row where it lay. -/
def FootR (x : Nat) (eo : Option Addr) (i : Nat) : Prop := i = x ∨ ∃ off, eo = some ⟨i, off, none⟩
/-- What vote leaves. -/
def VotR (B : Nat) (w : World) (x : Nat) (nd : Int) (pr : Int × Int) (eo : Option Addr) (ys : List VoM) (w' : World) : Prop :=
  ∃ eo' cap', RaAt w' B x nd pr ys eo' cap' ∧ Turns (FootR x eo) w w' ∧ (∀ a, eo' = some a → eo = some a ∨ w.heap.size ≤ a.block)
theorem ra_cap {w : World} {B x : Nat} {nd : Int} {pr : Int × Int} {xs : List VoM} {eo : Option Addr} {cap : Nat} (h : RaAt w B x nd pr xs eo cap) : xs.length ≤ cap := by
  obtain ⟨_, _, he, hnc, _⟩ := own_form8 h.row
  cases he
  exact hnc
theorem ra_addr {w : World} {B x : Nat} {nd : Int} {pr : Int × Int} {xs : List VoM} {ad : Addr} {cap : Nat} (h : RaAt w B x nd pr xs (some ad) cap) : ∃ g, ad = ⟨g, 0, none⟩ ∧ B ≤ g ∧ g < w.heap.size := by
  rcases h.row.2 with ⟨he, _⟩ | ⟨g, c, cur, he, h1, h2, _⟩
  · cases he
  · cases he
    exact ⟨g, rfl, h1, (Array.getElem?_eq_some_iff.1 h2).1⟩
theorem ra_none {w : World} {B x : Nat} {nd : Int} {pr : Int × Int} {xs : List VoM} {cap : Nat} (h : RaAt w B x nd pr xs none cap) : xs.length = 0 := by
  rcases h.row.2 with ⟨_, h0⟩ | ⟨g, c, cur, he, _⟩
  · exact h0
  · cases he
theorem held_dropV8 {w : World} {b off cap : Nat} {xs : List VoM} (h : HeldV8 w (some ⟨b, off, none⟩) xs) (k : Nat) (hc : xs.length ≤ cap) : HeldV8 w (if cap = k then some ⟨b, off, none⟩ else some ⟨b, off + k * 8, none⟩) (xs.drop k) := by
  split
  · exact .inl (List.drop_eq_nil_of_le (by omega))
  · exact h.drop k
theorem insV_len {xs : List VoM} {k : Nat} (hk : k ≤ xs.length) (v : VoM) : (insV xs k v).length = xs.length + 1 := by
  unfold insV
  simp
  omega
theorem insV_mem {xs : List VoM} {k : Nat} {v z : VoM} (h : z ∈ insV xs k v) : z ∈ xs ∨ z = v := by
  unfold insV at h
  rcases List.mem_append.1 h with h1 | h1
  · rcases List.mem_append.1 h1 with h2 | h2
    · exact .inl (List.mem_of_mem_take h2)
    · exact .inr (List.mem_singleton.1 h2)
  · exact .inl (List.mem_of_mem_drop h1)
/-- A new row of votes in its block. -/
theorem ra_newrow {B : Nat} {W9 w5 W : World} {x : Nat} {nd : Int} {pr : Int × Int} {xs ys : List VoM} {eo bo : Option Addr} {cap cp r : Nat} (h : RaAt W9 B x nd pr xs eo cap) (hB : B ≤ W9.heap.size) (hr : r = ys.length) (hf : r ≤ 4096) (hy : AllVo W9 ys) (hl : LowV B ys) (hb : Below W9.heap.size W9 w5) (hown : w5.ownsRow W9.heap.size 73 8 (.slice bo r cp) r (flatVo ys)) (hW : W = w5.setCell ⟨x, 3, none⟩ (.slice bo r cp)) :
    VotR B W9 x nd pr eo ys W := by
  subst hr
  have hxlt : x < W9.heap.size := h.blk.lt
  have t1 : Turns (fun i => i = x) w5 W := by rw [hW]; exact (Turns.refl (fun i => i = x) w5).setCell (p := ⟨x, 3, none⟩) (.inl rfl) _
  have t2 : Turns (fun i => i = x) W9 W := (Turns.of_below (F := fun i => i = x) hb (Nat.le_refl _)).trans t1 (fun i hi => .inl hi)
  refine ⟨bo, cp, ⟨?_, ?_, fun z hz => voOk_turned (hy z hz) t2 (fun b off e hne hf => by have := hl z hz b off e hne; have := h.bx; omega), hf, hl, h.bx⟩, t2.mono (fun i hi => .inl hi), ?_⟩
  · rw [hW]
    exact (h.blk.below hb hxlt).set 3 _
  · refine t1.row (ownsRow_base hown hB) (fun k hk e => ?_)
    have := (hown.lt k hk).1
    omega
  · intro a ha
    subst ha
    rcases hown.2 with ⟨he, h0⟩ | ⟨g, c, cur, he, hg, _⟩
    · cases he
    · cases he
      exact .inr hg
theorem row_setV {w : World} {B e size g n cap : Nat} {xs : List Value} (h : w.ownsRow B e size (.slice (some ⟨g, 0, none⟩) n cap) n xs) {j : Nat} (u : Value) : (w.setCell ⟨g, j, none⟩ u).ownsRow B e size (.slice (some ⟨g, 0, none⟩) n cap) n (xs.set j u) := by
  refine ⟨by rw [List.length_set]; exact h.1, ?_⟩
  rcases h.2 with ⟨h0, _⟩ | ⟨g', cap', cur, he, hB, hg, hn, hm, hsz, htk⟩
  · cases h0
  · cases he
    have hb : Blk w g e cur.toList := hg
    refine .inr ⟨g, cap, (cur.toList.set j u).toArray, rfl, hB, hb.set j u, hn, hm, by simp [hsz], ?_⟩
    show (cur.toList.set j u).take (n * size) = xs.set j u
    rw [← htk, List.take_set]
theorem row_frozenV {w : World} {B e size g n cap : Nat} {xs : List Value} (h : w.ownsRow B e size (.slice (some ⟨g, 0, none⟩) n cap) n xs) (j : Nat) : w.frozen? ⟨g, j, none⟩ = false := by
  rcases h.2 with ⟨h0, _⟩ | ⟨g', cap', cur, he, hB, hg, _⟩
  · cases h0
  · cases he
    exact (show Blk w g e cur.toList from hg).frozen j
/-- Eight cells of a block stored anew. -/
def st8 (w : World) (g o : Nat) (v : VoM) : World :=
  (((((((w.setCell ⟨g, o, none⟩ (.int .i64 v.slot)).setCell ⟨g, o + 1, none⟩ (.int .i64 v.bal.1)).setCell ⟨g, o + 2, none⟩ (.int .i64 v.bal.2)).setCell ⟨g, o + 3, none⟩ (.bool v.en.e.noop)).setCell ⟨g, o + 4, none⟩ (.string v.en.e.tok)).setCell ⟨g, o + 5, none⟩ (.string v.en.e.cart)).setCell ⟨g, o + 6, none⟩ (.int .i64 v.en.e.ep)).setCell ⟨g, o + 7, none⟩ (.slice v.en.ao v.en.e.cut.length v.en.cap)
theorem set8 (a0 a1 a2 a3 a4 a5 a6 a7 : Value) (r : List Value) (b0 b1 b2 b3 b4 b5 b6 b7 : Value) : (((((((([a0, a1, a2, a3, a4, a5, a6, a7] ++ r).set 0 b0).set 1 b1).set 2 b2).set 3 b3).set 4 b4).set 5 b5).set 6 b6).set 7 b7 = [b0, b1, b2, b3, b4, b5, b6, b7] ++ r := rfl
theorem set_shift (c xs : List Value) (j : Nat) (u : Value) : (c ++ xs).set (c.length + j) u = c ++ xs.set j u := by
  rw [List.set_append, if_neg (by omega), show c.length + j - c.length = j by omega]
theorem flatVo_set8 : ∀ (xs : List VoM) (k : Nat) (_ : k < xs.length) (v : VoM), ((((((((flatVo xs).set (k * 8) (.int .i64 v.slot)).set (k * 8 + 1) (.int .i64 v.bal.1)).set (k * 8 + 2) (.int .i64 v.bal.2)).set (k * 8 + 3) (.bool v.en.e.noop)).set (k * 8 + 4) (.string v.en.e.tok)).set (k * 8 + 5) (.string v.en.e.cart)).set (k * 8 + 6) (.int .i64 v.en.e.ep)).set (k * 8 + 7) (.slice v.en.ao v.en.e.cut.length v.en.cap) = flatVo (xs.set k v)
  | [], k, hk, _ => by cases hk
  | _ :: _, 0, _, v => by
    unfold flatVo
    simp only [List.flatMap_cons, List.set_cons_zero, VoM.cells]
    rfl
  | x :: r, k + 1, hk, v => by
    have := flatVo_set8 r k (by simpa using hk) v
    have hl : x.cells.length = 8 := rfl
    have e : ∀ j, (k + 1) * 8 + j = x.cells.length + (k * 8 + j) := fun j => by rw [hl]; omega
    have e0 : (k + 1) * 8 = x.cells.length + k * 8 := by rw [hl]; omega
    unfold flatVo at this ⊢
    simp only [List.set_cons_succ, List.flatMap_cons]
    rw [e 1, e 2, e 3, e 4, e 5, e 6, e 7, e0, set_shift, set_shift, set_shift, set_shift, set_shift, set_shift, set_shift, set_shift, this]
theorem st8_row {w : World} {B g n cap : Nat} {xs : List VoM} (h : w.ownsRow B 73 8 (.slice (some ⟨g, 0, none⟩) n cap) n (flatVo xs)) {k : Nat} (hk : k < xs.length) (v : VoM) : (st8 w g (k * 8) v).ownsRow B 73 8 (.slice (some ⟨g, 0, none⟩) n cap) n (flatVo (xs.set k v)) := by
  rw [← flatVo_set8 xs k hk v]
  exact row_setV (row_setV (row_setV (row_setV (row_setV (row_setV (row_setV (row_setV h _) _) _) _) _) _) _) _
theorem turns_ownR {w V : World} {b i : Nat} {v : Value} (h : Turns (fun k => k = b) w V) : Turns (fun k => k = b) w (V.setCell ⟨b, i, none⟩ v) := h.setCell (p := ⟨b, i, none⟩) (.inl rfl) v
theorem st8_turns (w : World) (g o : Nat) (v : VoM) : Turns (fun i => i = g) w (st8 w g o v) :=
  turns_ownR (turns_ownR (turns_ownR (turns_ownR (turns_ownR (turns_ownR (turns_ownR (turns_ownR (Turns.refl _ _))))))))
/-- A vote stored where another was. -/
theorem ra_set {B : Nat} {W9 W : World} {x g : Nat} {nd : Int} {pr : Int × Int} {xs : List VoM} {cap k : Nat} {v : VoM} (h : RaAt W9 B x nd pr xs (some ⟨g, 0, none⟩) cap) (hk : k < xs.length) (hv : VoOk W9 v) (hl : ∀ b off, v.en.ao = some ⟨b, off, none⟩ → v.en.e.cut ≠ [] → b < B) (hW : W = st8 W9 g (k * 8) v) :
    VotR B W9 x nd pr (some ⟨g, 0, none⟩) (xs.set k v) W := by
  subst hW
  have t := st8_turns W9 g (k * 8) v
  obtain ⟨g', e, hBg, hg⟩ := ra_addr h
  cases e
  have hne : x ≠ g := by
    rcases h.row.2 with ⟨h0, _⟩ | ⟨g', cap', cur, he, _, hgg, _⟩
    · cases h0
    · cases he
      exact blk_neH h.blk (show Blk W9 g 73 cur.toList from hgg) (by decide)
  have hlow : LowV B (xs.set k v) := fun z hz b off e hne => by
    rcases List.mem_or_eq_of_mem_set hz with h1 | h1
    · exact h.low z h1 b off e hne
    · subst h1; exact hl b off e hne
  refine ⟨_, cap, ⟨?_, ?_, fun z hz => ?_, by rw [List.length_set]; exact h.few, hlow, h.bx⟩, t.mono (fun i hi => .inr ⟨0, by rw [hi]⟩), fun a e => .inl e⟩
  · rw [List.length_set]
    exact t.blk h.blk hne
  · rw [List.length_set]
    exact st8_row h.row hk v
  · have hz' : VoOk W9 z := by
      rcases List.mem_or_eq_of_mem_set hz with h1 | h1
      · exact h.ok z h1
      · subst h1; exact hv
    exact voOk_turned hz' t (fun b off e hne hf => by have := hlow z hz b off e hne; omega)
end Go.Proofs.YtfmnbehopdmahaaGreat
