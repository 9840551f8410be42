/-
  pannierref18.SameEntry of any two.
-/
import Derived.Test.YtgghfmdciohinaaLdB
import Derived.Deep.QuietTactic
import Derived.BigQuiet
namespace Go.Proofs.Ytgghfmdciohinaa
open Go.RowKit Go.Maps
attribute [local go_sem] undef

theorem str_ne {a b : ByteArray} (h : a ≠ b) : (a.toList == b.toList) = false ∧ ¬ a.toList = b.toList := by
  have h1 : ¬ a.toList = b.toList := fun hh => h (by
    rw [ByteArray.toList_eq, ByteArray.toList_eq] at hh
    exact ByteArray.ext (Array.ext' hh))
  exact ⟨beq_eq_false_iff_ne.2 h1, h1⟩
def CutTo (a b : List Int) (k : Nat) : Prop := ∀ j, j < k → a.getD j 0 = b.getD j 0
theorem cut_eq {a b : List Int} (hl : a.length = b.length) (h : CutTo a b a.length) : a = b := by
  refine List.ext_getElem hl (fun j h1 h2 => ?_)
  have := h j h1
  simpa [List.getD, List.getElem?_eq_getElem h1, List.getElem?_eq_getElem h2] using this
set_option maxRecDepth 100000 in
set_option maxHeartbeats 1000000 in
theorem sameEntry_R (w : World) (x y : EnM) (hx : EnOk w x) (hy : EnOk w y) : Calls Try.prog 24 #[x.val, y.val] w fun e w' => e = .returned (.bool (decide (x.e = y.e))) ∧ Below w.heap.size w w' := by
  obtain ⟨⟨xn, xt, xc, xe, xd⟩, xo, xcap⟩ := x
  obtain ⟨⟨yn, yt, yc, ye, yd⟩, yo, ycap⟩ := y
  obtain ⟨XL, HXL⟩ : ∃ z, Hid (xd.length = z) := ⟨_, hid rfl⟩
  obtain ⟨YL, HYL⟩ : ∃ z, Hid (yd.length = z) := ⟨_, hid rfl⟩
  simp only [EnM.val]
  rw [HXL.out, HYL.out]
  obtain ⟨W, hW⟩ : ∃ W, W = (w.alloc (.cells #[.bool xn, .string xt, .string xc, .int .i64 xe, .slice xo XL xcap] 33)).alloc (.cells #[.bool yn, .string yt, .string yc, .int .i64 ye, .slice yo YL ycap] 33) := ⟨_, rfl⟩
  have HB : Hid (Below w.heap.size w W) := by rw [hW]; exact ((Below.refl _ _).alloc (Nat.le_refl _) _).alloc (by simp) _
  have HX : Hid (Blk W w.heap.size 33 [.bool xn, .string xt, .string xc, .int .i64 xe, .slice xo XL xcap]) := by rw [hW]; exact (Blk.new w _ _).alloc _
  have HY : Hid (Blk W (w.heap.size + 1) 33 [.bool yn, .string yt, .string yc, .int .i64 ye, .slice yo YL ycap]) := by
    have := Blk.new (w.alloc (.cells #[.bool xn, .string xt, .string xc, .int .i64 xe, .slice xo XL xcap] 33)) 33 [.bool yn, .string yt, .string yc, .int .i64 ye, .slice yo YL ycap]
    rw [World.size_alloc] at this
    rw [hW]
    exact this
  have HVX := hid (hx.cut.below HB.out)
  have HVY := hid (hy.cut.below HB.out)
  have HFX : Hid (XL ≤ 17592186044416) := by rw [← HXL.out]; exact hx.cut.few
  obtain ⟨Z, HZ⟩ : ∃ z, Hid (decide ((⟨xn, xt, xc, xe, xd⟩ : En) = ⟨yn, yt, yc, ye, yd⟩) = z) := ⟨_, hid rfl⟩
  rw [HZ.out]
  have HNE : Hid ((xn ≠ yn ∨ xt ≠ yt ∨ xc ≠ yc ∨ xe ≠ ye ∨ xd ≠ yd) → Z = false) := fun hh => by
    rw [← HZ.out]
    refine decide_eq_false (fun he => ?_)
    simp only [En.mk.injEq] at he
    rcases hh with h | h | h | h | h
    · exact h he.1
    · exact h he.2.1
    · exact h he.2.2.1
    · exact h he.2.2.2.1
    · exact h he.2.2.2.2
  have HEQ : Hid (xn = yn → xt = yt → xc = yc → xe = ye → xd = yd → Z = true) := fun h1 h2 h3 h4 h5 => by
    rw [← HZ.out]
    exact decide_eq_true (by rw [h1, h2, h3, h4, h5])
  obtain ⟨q, HQ⟩ : ∃ q, Hid (q = w.heap.size) := ⟨_, hid rfl⟩
  rw [← HQ.out] at HX HY
  have HW := hid hW
  clear hx hy HZ hW
  have c0 := HX.out.cell (i := 0) rfl
  have c1 := HX.out.cell (i := 1) rfl
  have c2 := HX.out.cell (i := 2) rfl
  have c3 := HX.out.cell (i := 3) rfl
  have c4 := HX.out.cell (i := 4) rfl
  have d0 := HY.out.cell (i := 0) rfl
  have d1 := HY.out.cell (i := 1) rfl
  have d2 := HY.out.cell (i := 2) rfl
  have d3 := HY.out.cell (i := 3) rfl
  have d4 := HY.out.cell (i := 4) rfl

  by_cases e1 : xn = yn
  rotate_left 1
  · have HF : Hid (Z = false) := HNE.out (.inl e1)
    clear HNE HEQ
    have b1 : (xn != yn) = true := bne_iff_ne.2 e1
    go_enter Try.func24, Try.ntmps24
    go_wp2
    go_ret
    exact ⟨by rw [HF.out]; rfl, by rw [← HW.out]; exact HB.out⟩
  have HE1 := hid e1
  subst e1
  by_cases e2 : xt = yt
  rotate_left 1
  · have HF : Hid (Z = false) := HNE.out (.inr (.inl e2))
    clear HNE HEQ
    obtain ⟨b2, b2n⟩ := str_ne e2
    go_enter Try.func24, Try.ntmps24
    go_wp2
    go_ret
    exact ⟨by rw [HF.out]; rfl, by rw [← HW.out]; exact HB.out⟩
  subst e2
  by_cases e3 : xc = yc
  rotate_left 1
  · have HF : Hid (Z = false) := HNE.out (.inr (.inr (.inl e3)))
    clear HNE HEQ
    obtain ⟨b3, b3n⟩ := str_ne e3
    go_enter Try.func24, Try.ntmps24
    go_wp2
    go_ret
    exact ⟨by rw [HF.out]; rfl, by rw [← HW.out]; exact HB.out⟩
  subst e3
  by_cases e4 : xe = ye
  rotate_left 1
  · have HF : Hid (Z = false) := HNE.out (.inr (.inr (.inr (.inl e4))))
    clear HNE HEQ
    have b4 : (xe != ye) = true := bne_iff_ne.2 e4
    go_enter Try.func24, Try.ntmps24
    go_wp2
    go_ret
    exact ⟨by rw [HF.out]; rfl, by rw [← HW.out]; exact HB.out⟩
  subst e4
  by_cases e5 : XL = YL
  rotate_left 1
  · have HF : Hid (Z = false) := HNE.out (.inr (.inr (.inr (.inr (fun h => e5 (by rw [← HXL.out, ← HYL.out, h]))))))
    clear HNE HEQ
    have b5 : ((XL : Int) != (YL : Int)) = true := bne_iff_ne.2 (by omega)
    go_enter Try.func24, Try.ntmps24
    go_wp2
    go_ret
    exact ⟨by rw [HF.out]; rfl, by rw [← HW.out]; exact HB.out⟩
  subst e5
  have HLX : Hid (xd.length = yd.length) := by rw [HXL.out, HYL.out]; exact hid rfl
  have HEQ2 : Hid (xd = yd → Z = true) := fun h => HEQ.out rfl rfl rfl rfl h
  have HNE2 : Hid (xd ≠ yd → Z = false) := fun h => HNE.out (.inr (.inr (.inr (.inr h))))
  clear HEQ HNE
  go_enter Try.func24, Try.ntmps24
  go_wp2
  rw [← HW.out, ← HQ.out]
  go_loopw [5] (fun i wr => ∃ k : Nat, k ≤ XL ∧ i = .int .i64 k ∧ Hid (Below W.heap.size W wr ∧ CutTo xd yd k)) (fun i _ => XL - (intOf i).toNat)
  case atStart => exact ⟨0, Nat.zero_le _, rfl, Below.refl _ _, fun j hj => (by omega)⟩
  case round =>
    obtain ⟨k, hk, rfl, HR⟩ := hrel
    have f4 := (HR.out.1.cell (p := ⟨q, 4, none⟩) HX.out.lt).trans c4
    have g4 := (HR.out.1.cell (p := ⟨q + 1, 4, none⟩) HY.out.lt).trans d4
    clear c0 c1 c2 c3 c4 d0 d1 d2 d3 d4
    by_cases hlt : k < XL
    · have hlt' : (k : Int) < (XL : Int) := by omega
      have HKM : Hid (k + 1 ≤ XL) := (by omega : k + 1 ≤ XL)
      have hwk : wrap64 ((k : Int) + 1) = (k : Int) + 1 := wrapS (by omega) (by have := HFX.out; omega)
      obtain ⟨b1, o1, hb1, hc1⟩ := (HVX.out.below HR.out.1).held.cellAt (k := k) (by rw [HXL.out]; exact hlt)
      obtain ⟨b2, o2, hb2, hc2⟩ := (HVY.out.below HR.out.1).held.cellAt (k := k) (by rw [HYL.out]; exact hlt)
      have x0 := hc1 k (by rw [HXL.out]; exact hlt)
      have y0 := hc2 k (by rw [HYL.out]; exact hlt)
      obtain ⟨a1, HA1⟩ : ∃ z, Hid (xd.getD k 0 = z) := ⟨_, hid rfl⟩
      obtain ⟨a2, HA2⟩ : ∃ z, Hid (yd.getD k 0 = z) := ⟨_, hid rfl⟩
      rw [HA1.out] at x0
      rw [HA2.out] at y0
      subst hb1
      subst hb2
      clear hc1 hc2 hlt
      by_cases he : a1 = a2
      · have HG : Hid (CutTo xd yd (k + 1)) := fun j hj => by
          by_cases e : j = k
          · subst e
            rw [HA1.out, HA2.out]
            exact he
          · exact HR.out.2 j (by omega)
        subst he
        clear HNE2 HEQ2
        go_wp2
        go_big_quiet (fail)
        go_wp2
        go_roundw
        case rel => exact ⟨k + 1, HKM.out, by go_num, below_dn HR.out.1 _, HG.out⟩
        case measure => first | exact measWD HKM.out hwk | exact meas1D HKM.out
      · have HF : Hid (Z = false) := HNE2.out (fun h => he (by rw [← HA1.out, ← HA2.out, h]))
        have he2 : (a1 != a2) = true := bne_iff_ne.2 he
        clear HNE2 HEQ2
        go_wp2
        go_big_quiet (fail)
        go_wp2
        go_ret
        exact ⟨by rw [HF.out]; rfl, below_dn (bt' HB.out HR.out.1) _⟩
    · have hlt' : ¬ (k : Int) < (XL : Int) := by omega
      have HF : Hid (Z = true) := HEQ2.out (cut_eq HLX.out (fun j hj => HR.out.2 j (by have := HXL.out; omega)))
      have HBF := hid (bt' HB.out HR.out.1)
      clear HNE2 HEQ2 HR
      go_wp2
      go_ret
      exact ⟨by rw [HF.out]; rfl, HBF.out⟩
end Go.Proofs.Ytgghfmdciohinaa
/-
  pannierref18.Extras: the slots beyond the prefix.
-/
namespace Go.Proofs.Ytgghfmdciohinaa
open Go.RowKit Go.Maps

def numsR (xs : List StM) (a k : Nat) : List Int := ((xs.drop a).take k).map (·.n)
theorem numsR_next {xs : List StM} {a k : Nat} (h : a + k < xs.length) : numsR xs a (k + 1) = numsR xs a k ++ [(xs.getD (a + k) default).n] := by
  unfold numsR
  rw [List.take_succ_eq_append_getElem (by rw [List.length_drop]; omega), List.map_append, List.getElem_drop, st_getD h]
  rfl
theorem numsR_len {xs : List StM} {a k : Nat} (h : a + k ≤ xs.length) : (numsR xs a k).length = k := by
  unfold numsR
  rw [List.length_map, List.length_take, List.length_drop]
  omega
theorem preR_le : ∀ (k : Nat) (xs : List StM), preR k xs ≤ xs.length
  | _, [] => Nat.le_refl _
  | k, x :: r => by
    unfold preR
    have := preR_le (k + 1) r
    rw [List.length_cons]
    split <;> omega
def ExtR (w : World) (ys : List Int) (e : Ending) (w' : World) : Prop := ∃ v, e = .returned v ∧ w'.ownsRow w.heap.size 3 1 v ys.length (ints ys) ∧ Below w.heap.size w w'
set_option maxRecDepth 100000 in
theorem RlAt.extras {w : World} {B x : Nat} {xs : List StM} {eo : Option Addr} {cap : Nat} (h : RlAt w B x xs eo cap) : Calls Try.prog 29 #[.pointer (some ⟨x, 0, none⟩)] w (ExtR w (numsR xs (preR 0 xs) (xs.length - preR 0 xs))) := by
  have HPF := hid h.prefix
  obtain ⟨P, HP⟩ : ∃ P, Hid (preR 0 xs = P) := ⟨_, hid rfl⟩
  rw [HP.out] at HPF ⊢
  obtain ⟨n, HN⟩ : ∃ n, Hid (xs.length = n) := ⟨_, hid rfl⟩
  have HPN : Hid (P ≤ n) := by rw [← HP.out, ← HN.out]; exact preR_le 0 xs
  have HF : Hid (n ≤ 65536) := by rw [← HN.out]; exact h.few
  have HH := hid h
  rw [HN.out]
  clear h
  go_enter Try.func29, Try.ntmps29
  go_wp2_with fail
  refine HPF.out.mono ?_
  rintro e w1 ⟨rfl, hw1⟩
  rw [hw1]
  clear hw1 w1
  go_wp2
  go_loopw [3, 4] (fun s3 i wr => ∃ k c : Nat, i = .int .i64 c ∧ Hid (c = P + k ∧ P + k ≤ n) ∧ Hid (wr.ownsRow w.heap.size 3 1 s3 (numsR xs P k).length (ints (numsR xs P k)) ∧ Below w.heap.size w wr)) (fun _ i _ => n - (intOf i).toNat)
  case atStart => exact ⟨0, P, rfl, ⟨rfl, HPN.out⟩, World.ownsRow_nil _ _ _ _, Below.refl _ _⟩
  case round =>
    obtain ⟨k, c, rfl, HC, HR⟩ := hrel
    have hc0 := (HH.out.below HR.out.2).blk.cell (i := 0) rfl
    rw [HN.out] at hc0
    by_cases hlt : c < n
    · have hlt' : (c : Int) < (n : Int) := by omega
      have HKM : Hid (c + 1 ≤ n) := (by omega : c + 1 ≤ n)
      have hwk : wrap64 ((c : Int) + 1) = (c : Int) + 1 := wrapS (by omega) (by have := HF.out; omega)
      have HCX : Hid (c < xs.length) := by rw [HN.out]; exact hlt
      obtain ⟨b, off, hao, _, d0, _⟩ := (HH.out.below HR.out.2).held.cellsD HCX.out
      obtain ⟨sl, HSL⟩ : ∃ z, Hid ((xs.getD c default).n = z) := ⟨_, hid rfl⟩
      rw [HSL.out] at d0
      have HNX : Hid (numsR xs P (k + 1) = numsR xs P k ++ [sl]) := by
        have h1 := numsR_next (xs := xs) (a := P) (k := k) (by rw [HN.out, ← HC.out.1]; exact hlt)
        rw [← HC.out.1, HSL.out] at h1
        exact hid h1
      have HLN : Hid ((numsR xs P k).length < 17592186044416) := by
        have := numsR_len (xs := xs) (a := P) (k := k) (by rw [HN.out]; exact HC.out.2)
        have := HF.out
        have := HC.out
        exact (by omega : (numsR xs P k).length < 17592186044416)
      have HROW := hid HR.out.1
      have HB := hid HR.out.2
      subst hao
      clear hlt HR
      go_wp2_with (at_builtin; refine wpList_append_one wr _ sl rfl rfl _ _ rfl w.heap.size _ (numsR xs P k) rfl rfl HROW.out HB.out.size HLN.out ?_; intro v' w5 hown hb5; have HO5 := hid hown; have HB5 := hid (HB.out.trans hb5); clear hown hb5)
      go_roundw
      case rel => exact ⟨k + 1, c + 1, by go_num, ⟨by have := HC.out; omega, by have := HC.out; have := HKM.out; omega⟩, by rw [HNX.out]; exact ⟨HO5.out, HB5.out⟩⟩
      case measure => first | exact measWD HKM.out hwk | exact meas1D HKM.out
    · have hlt' : ¬ (c : Int) < (n : Int) := by omega
      have HE : Hid (k = n - P) := by have := HC.out; exact (by omega : k = n - P)
      have HROW := hid HR.out.1
      have HB := hid HR.out.2
      clear HR
      go_wp2
      go_ret
      refine ⟨_, rfl, ?_, HB.out⟩
      rw [← HE.out]
      exact HROW.out
end Go.Proofs.Ytgghfmdciohinaa
/-
  What the document's rising slots and the program's learner have in common: no memory in it.
-/
namespace Go.Proofs.Ytgghfmdciohinaa
open Go.RowKit Go.Maps

/-- Rising slots tell what a learner has. -/
structure Twin (xs : List StM) (g : Lr) : Prop where
  ns : xs.map (·.n) = g.ks
  fs : ∀ x ∈ xs, g.f x.n = some x.en.e
theorem Twin.nil : Twin [] noLr := ⟨rfl, fun x hx => (by cases hx)⟩
theorem Twin.len {xs : List StM} {g : Lr} (h : Twin xs g) : xs.length = g.ks.length := by
  rw [← h.ns, List.length_map]
theorem Twin.find {xs : List StM} {g : Lr} (h : Twin xs g) (hg : LrOk g) (s : Int) : (findR xs s).map (·.en.e) = g.f s := by
  cases hf : findR xs s with
  | some x =>
    unfold findR at hf
    have h1 := List.mem_of_find?_eq_some hf
    have h2 := List.find?_some hf
    simp at h2
    have := h.fs x h1
    rw [h2] at this
    rw [this]
    rfl
  | none =>
    unfold findR at hf
    rw [List.find?_eq_none] at hf
    have hn : s ∉ g.ks := fun hm => by
      rw [← h.ns] at hm
      obtain ⟨x, hx, he⟩ := List.mem_map.1 hm
      have := hf x hx
      simp at this
      exact this he
    have h3 := hg.has s
    cases hs : g.f s with
    | none => rfl
    | some e => rw [hs] at h3; exact absurd (h3.2 rfl) hn
theorem preR_pre : ∀ (k : Nat) (xs : List StM), Rises (xs.map (·.n)) → (∀ x ∈ xs, (k : Int) ≤ x.n) → (∀ s : Int, (k : Int) ≤ s → s < ((k + preR k xs : Nat) : Int) → s ∈ xs.map (·.n)) ∧ ((k + preR k xs : Nat) : Int) ∉ xs.map (·.n) ∧ (xs.drop (preR k xs)).map (·.n) = (xs.map (·.n)).filter (fun x => decide (((k + preR k xs : Nat) : Int) ≤ x))
  | k, [], _, _ => by
    refine ⟨fun s h1 h2 => ?_, by simp, by simp [preR]⟩
    simp only [preR, Nat.add_zero] at h2
    omega
  | k, x :: r, hr, hk => by
    simp only [List.map_cons] at hr
    unfold Rises at hr
    rw [List.pairwise_cons] at hr
    have hx := hk x (by simp)
    by_cases e : x.n = (k : Int)
    · have hle : ∀ y ∈ r, ((k + 1 : Nat) : Int) ≤ y.n := fun y hy => by
        have := hr.1 y.n (List.mem_map.2 ⟨y, hy, rfl⟩)
        omega
      obtain ⟨h1, h2, h3⟩ := preR_pre (k + 1) r hr.2 hle
      have hp : preR k (x :: r) = preR (k + 1) r + 1 := by
        show (if x.n = (k : Int) then preR (k + 1) r + 1 else 0) = _
        rw [if_pos e]
      have he : k + (preR (k + 1) r + 1) = k + 1 + preR (k + 1) r := by omega
      rw [hp, he]
      refine ⟨fun s hs1 hs2 => ?_, ?_, ?_⟩
      · by_cases hs : s = (k : Int)
        · rw [List.map_cons, e, hs]; simp
        · rw [List.map_cons]
          exact List.mem_cons_of_mem _ (h1 s (by omega) hs2)
      · rw [List.map_cons, List.mem_cons]
        rintro (h | h)
        · omega
        · exact h2 h
      · rw [List.drop_succ_cons, h3, List.map_cons, List.filter_cons, if_neg (by simp; omega)]
    · have hp : preR k (x :: r) = 0 := by
        show (if x.n = (k : Int) then preR (k + 1) r + 1 else 0) = _
        rw [if_neg e]
      rw [hp, Nat.add_zero]
      refine ⟨fun s h1 h2 => by omega, ?_, ?_⟩
      · rw [List.map_cons, List.mem_cons]
        rintro (h | h)
        · exact e h.symm
        · have := hr.1 _ h
          omega
      · rw [List.drop_zero, eq_comm, List.filter_eq_self]
        intro y hy
        rw [List.map_cons, List.mem_cons] at hy
        rcases hy with h | h
        · simp; omega
        · have := hr.1 _ h
          simp; omega
theorem Twin.pre {xs : List StM} {g : Lr} (h : Twin xs g) (hg : LrOk g) : IsPre g.ks (preR 0 xs) := by
  have h0 : ∀ x ∈ xs, ((0 : Nat) : Int) ≤ x.n := fun x hx => (hg.slot x.n (by rw [← h.ns]; exact List.mem_map.2 ⟨x, hx, rfl⟩)).1
  obtain ⟨h1, h2, _⟩ := preR_pre 0 xs (by rw [h.ns]; exact hg.rise) h0
  rw [h.ns, Nat.zero_add] at h1 h2
  exact ⟨fun s hs1 hs2 => h1 s (by omega) hs2, h2⟩
theorem Twin.extra {xs : List StM} {g : Lr} (h : Twin xs g) (hg : LrOk g) : numsR xs (preR 0 xs) (xs.length - preR 0 xs) = extraL g.ks (preR 0 xs) := by
  have h0 : ∀ x ∈ xs, ((0 : Nat) : Int) ≤ x.n := fun x hx => (hg.slot x.n (by rw [← h.ns]; exact List.mem_map.2 ⟨x, hx, rfl⟩)).1
  obtain ⟨_, _, h3⟩ := preR_pre 0 xs (by rw [h.ns]; exact hg.rise) h0
  rw [h.ns, Nat.zero_add] at h3
  unfold numsR extraL
  rw [List.take_of_length_le (by rw [List.length_drop]; omega), h3]
/-- A slot put in at its place. -/
def insR (xs : List StM) (k : Nat) (x : StM) : List StM := xs.take k ++ [x] ++ xs.drop k
theorem Twin.put {xs : List StM} {g : Lr} (h : Twin xs g) (hg : LrOk g) {x : StM} (hn : g.f x.n = none) : Twin (insR xs (aheadOf g.ks x.n) x) (putL g x.n x.en.e) := by
  have hns : x.n ∉ g.ks := fun hm => by have := (hg.has x.n).1 hm; rw [hn] at this; cases this
  refine ⟨?_, fun y hy => ?_⟩
  · show _ = putS g.ks x.n
    unfold putS insR
    rw [if_pos]
    · rw [List.map_append, List.map_append, List.map_take, List.map_drop, h.ns]; rfl
    · by_cases e : aheadOf g.ks x.n = g.ks.length
      · exact .inl e
      · refine .inr (fun e2 => hns ?_)
        have hl : aheadOf g.ks x.n < g.ks.length := by have := aheadOf_le g.ks x.n; omega
        rw [show g.ks.getD (aheadOf g.ks x.n) 0 = g.ks[aheadOf g.ks x.n] by simp [List.getD, List.getElem?_eq_getElem hl]] at e2
        rw [← e2]
        exact List.getElem_mem hl
  · show (if y.n = x.n then some x.en.e else g.f y.n) = _
    unfold insR at hy
    have hy' : y ∈ xs ∨ y = x := by
      rcases List.mem_append.1 hy with h1 | h1
      · rcases List.mem_append.1 h1 with h2 | h2
        · exact .inl (List.mem_of_mem_take h2)
        · exact .inr (List.mem_singleton.1 h2)
      · exact .inl (List.mem_of_mem_drop h1)
    rcases hy' with h1 | h1
    · have hne : y.n ≠ x.n := fun e => hns (by rw [← e, ← h.ns]; exact List.mem_map.2 ⟨y, h1, rfl⟩)
      rw [if_neg hne]
      exact h.fs y h1
    · rw [h1, if_pos rfl]
/-- The gaps from 0 on are those behind the prefix. -/
theorem gaps_from {ks : List Int} {a z : Nat} (h : ∀ s : Int, 0 ≤ s → s < a → s ∈ ks) (haz : a ≤ z) : gapsL ks 0 z = gapsL ks a (z - a) := by
  have h1 : ∀ k, k ≤ a → gapsL ks 0 k = [] := fun k hk => by
    induction k with
    | zero => rfl
    | succ k ih => rw [gaps_in _ _ _ (h _ (by omega) (by omega)), ih (by omega)]
  obtain ⟨d, rfl⟩ : ∃ d, z = a + d := ⟨z - a, by omega⟩
  rw [Nat.add_sub_cancel_left]
  clear haz
  induction d with
  | zero => rw [Nat.add_zero, h1 a (Nat.le_refl _)]; rfl
  | succ d ih =>
    by_cases hm : ((a + d : Nat) : Int) ∈ ks
    · rw [gaps_in ks a d hm, ← ih]
      exact gaps_in ks 0 (a + d) (by rw [Nat.zero_add]; exact hm)
    · rw [gaps_out ks a d hm, ← ih]
      have := gaps_out ks 0 (a + d) (by rw [Nat.zero_add]; exact hm)
      rw [Nat.zero_add] at this
      exact this
/-- Between two slots of Missing: s is behind the first i ones, not behind the others; behind one that is there. -/
structure Beh (xs : List StM) (i s : Nat) : Prop where
  lo : ∀ j (h : j < xs.length), j < i → xs[j].n < (s : Int)
  hi : ∀ j (h : j < xs.length), i ≤ j → (s : Int) ≤ xs[j].n
  top : s = 0 ∨ ((s : Int) - 1) ∈ xs.map (·.n)
theorem rises_at {xs : List StM} (h : Rises (xs.map (·.n))) {i j : Nat} (hi : i < xs.length) (hj : j < xs.length) (hij : i < j) : xs[i].n < xs[j].n := by
  have := List.pairwise_iff_getElem.1 h i j (by simpa using hi) (by simpa using hj) hij
  simpa using this
theorem Beh.start {xs : List StM} (h : ∀ x ∈ xs, 0 ≤ x.n) : Beh xs 0 0 := ⟨fun j _ h => (by omega), fun j hj _ => h _ (List.getElem_mem hj), .inl rfl⟩
theorem Beh.next {xs : List StM} (hr : Rises (xs.map (·.n))) {i : Nat} (hi : i < xs.length) {t : Nat} (ht : xs[i].n = (t : Int)) : Beh xs (i + 1) (t + 1) := by
  refine ⟨fun j hj hij => ?_, fun j hj hij => ?_, .inr ?_⟩
  · by_cases e : j = i
    · subst e; omega
    · have := rises_at hr hj hi (by omega)
      omega
  · have := rises_at hr hi hj (by omega)
    omega
  · rw [show ((t + 1 : Nat) : Int) - 1 = xs[i].n by omega]
    exact List.mem_map.2 ⟨_, List.getElem_mem hi, rfl⟩
theorem Beh.gap {xs : List StM} (hr : Rises (xs.map (·.n))) {i s : Nat} (h : Beh xs i s) (hi : i < xs.length) {t : Int} (h1 : (s : Int) ≤ t) (h2 : t < xs[i].n) : t ∉ xs.map (·.n) := by
  intro hm
  obtain ⟨y, hy, he⟩ := List.mem_map.1 hm
  obtain ⟨j, hj, rfl⟩ := List.mem_iff_getElem.1 hy
  by_cases hji : j < i
  · have := h.lo j hj hji; omega
  · by_cases e : j = i
    · subst e; omega
    · have := rises_at hr hi hj (by omega); omega
theorem Beh.fin {xs : List StM} {s : Nat} (h : Beh xs xs.length s) : IsEnd (xs.map (·.n)) s := by
  refine ⟨fun t ht => ?_, h.top⟩
  obtain ⟨y, hy, rfl⟩ := List.mem_map.1 ht
  obtain ⟨j, hj, rfl⟩ := List.mem_iff_getElem.1 hy
  exact h.lo j hj hj
/-- What Missing of the document has made, up to slot s: the gaps, at most M. -/
def gapsTo (ks : List Int) (M s : Nat) : List Int := (gapsL ks 0 s).take M
theorem gapsTo_in {ks : List Int} {M s : Nat} (h : (s : Int) ∈ ks) : gapsTo ks M (s + 1) = gapsTo ks M s := by
  unfold gapsTo
  rw [gaps_in _ _ _ (by rw [Nat.zero_add]; exact h)]
theorem gapsTo_out {ks : List Int} {M s : Nat} (h : (s : Int) ∉ ks) (hl : (gapsTo ks M s).length < M) : gapsTo ks M (s + 1) = gapsTo ks M s ++ [(s : Int)] := by
  unfold gapsTo at hl ⊢
  rw [List.length_take] at hl
  have e1 : (gapsL ks 0 s).take M = gapsL ks 0 s := List.take_of_length_le (by omega)
  have e2 : (gapsL ks 0 s ++ [(s : Int)]).take M = gapsL ks 0 s ++ [(s : Int)] := List.take_of_length_le (by rw [List.length_append]; simp; omega)
  rw [gaps_out _ _ _ (by rw [Nat.zero_add]; exact h), Nat.zero_add, e1, e2]
theorem gapsTo_full {ks : List Int} {M s t : Nat} (hst : s ≤ t) (hl : ¬ (gapsTo ks M s).length < M) : gapsTo ks M t = gapsTo ks M s := by
  unfold gapsTo at hl ⊢
  rw [List.length_take] at hl
  obtain ⟨r, hr⟩ := gaps_prefix ks 0 hst
  rw [← hr, List.take_append_of_le_length (by omega)]
theorem gapsTo_le (ks : List Int) (M s : Nat) : (gapsTo ks M s).length ≤ M := by
  unfold gapsTo
  rw [List.length_take]
  omega
theorem Twin.missing {xs : List StM} {g : Lr} (h : Twin xs g) (hg : LrOk g) {s pre z : Nat} (hb : Beh xs xs.length s) (hp : IsPre g.ks pre) (hz : IsEnd g.ks z) (hpz : pre ≤ z) (most : Int) : gapsTo g.ks (min most 4096).toNat s = missL g.ks pre z most := by
  have he : s = z := by
    have := hb.fin
    rw [h.ns] at this
    exact this.unique (fun s hs => (hg.slot s hs).1) hz
  subst he
  unfold gapsTo missL
  rw [gaps_from hp.all hpz]
end Go.Proofs.Ytgghfmdciohinaa
