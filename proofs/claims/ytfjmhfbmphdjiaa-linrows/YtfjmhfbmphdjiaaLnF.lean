/-
  Package lin: moments (the moments of the sights of which all questions hold).
-/
import Derived.Test.YtfjmhfbmphdjiaaLnE
namespace Go.Proofs.Ytfjmhfbmphdjiaa
open Go.RowKit Go.Maps

/-- Which moment is asked for. -/
def momOf (en : Bool) (s : Sn) : Int := if en then s.e else s.b
def momFn (en : Bool) : Value := if en then .func (.func 29) #[] #[] else .func (.func 21) #[] #[]
def momsOf (en : Bool) (qs : List Qf) (xs : List Sn) : List Int := (xs.filter fun s => !qs.any fun q => !q.sem s).map (momOf en)
theorem moms_take {en : Bool} {qs : List Qf} {xs : List Sn} {k : Nat} (hk : k < xs.length) : momsOf en qs (xs.take (k + 1)) = momsOf en qs (xs.take k) ++ (if (qs.any fun q => !q.sem xs[k]) = false then [momOf en xs[k]] else []) := by
  unfold momsOf
  rw [List.take_succ_eq_append_getElem hk, List.filter_append, List.map_append]
  congr 1
  cases h : (qs.any fun q => !q.sem xs[k]) <;> simp [h]
theorem moms_len (en : Bool) (qs : List Qf) (xs : List Sn) : (momsOf en qs xs).length ≤ xs.length := by
  unfold momsOf
  rw [List.length_map]
  exact List.length_filter_le _ _
theorem moms_ok {en : Bool} {qs : List Qf} {xs : List Sn} (h : AllSn xs) : ∀ x ∈ momsOf en qs xs, -9223372036854775808 ≤ x ∧ x ≤ 9223372036854775807 := by
  intro x hx
  unfold momsOf at hx
  obtain ⟨s, hs, rfl⟩ := List.mem_map.1 hx
  have := h s (List.mem_filter.1 hs).1
  unfold momOf
  split
  · exact this.ie
  · exact this.ib
/-- A new row of numbers. -/
def MadeI (w : World) (ys : List Int) (e : Ending) (w' : World) : Prop :=
  ∃ v, e = .returned v ∧ w'.ownsRow w.heap.size 3 1 v ys.length (ints ys) ∧ Below w.heap.size w w'
theorem mom_any (en : Bool) (w : World) (s : Sn) : Calls Try.prog (if en then 29 else 21) #[s.val] w (SaysI w (momOf en s)) := by
  cases en
  · exact begin_any w s
  · exact end_any w s
set_option maxRecDepth 100000 in
set_option maxHeartbeats 1000000 in
theorem moments_false (w : World) (lo : Option Addr) (lc : Nat) (xs : List Sn) (n : Nat) (hn : xs.length = n) (hx : HeldSn w lo xs) (hlx : n ≤ 2932031007402) (g cap : Nat) (qs : List Qf) (hq : HeldQ w g qs) (m : Nat) (hm : qs.length = m) (hlq : m ≤ 100) :
    Calls Try.prog 20 #[.slice lo n lc, .func (.func 21) #[] #[], .slice (some ⟨g, 0, none⟩) m cap] w (MadeI w (momsOf false qs xs)) := by
  have HN := hid hn
  have HM := hid hm
  have H := hid hx
  have HQ := hid hq
  clear hn hx hq hm
  go_enter Try.func20, Try.ntmps20
  go_wp2
  go_loopw [7, 9, 12] (fun out _ i wr => ∃ k : Nat, k ≤ n ∧ i = .int .i64 k ∧ Hid (wr.ownsRow w.heap.size 3 1 out (momsOf false qs (xs.take k)).length (ints (momsOf false qs (xs.take k))) ∧ Below w.heap.size w wr)) (fun _ _ i _ => n - (intOf i).toNat)
  case atStart => exact ⟨0, Nat.zero_le _, rfl, ownI_nil _ _, Below.refl _ _⟩
  case round =>
    obtain ⟨k, hk, rfl, HR⟩ := hrel
    by_cases hlt : k < n
    · have hlt' : (k : Int) < (n : Int) := by omega
      have hkx : Hid (k < xs.length) := (by rw [HN.out]; exact hlt : k < xs.length)
      obtain ⟨bb, off, hlo, _, g0, g1, g2, g3, g4⟩ := (H.out.below HR.out.2).at hkx.out
      have HKM : Hid (k + 1 ≤ n) := (by omega : k + 1 ≤ n)
      have HTK := hid (moms_take (en := false) (qs := qs) hkx.out)
      have HFL : Hid ((momsOf false qs (xs.take k)).length < 17592186044416) := by
        have h1 := moms_len false qs (xs.take k)
        rw [List.length_take] at h1
        show _ < _
        omega
      subst hlo
      obtain ⟨X, HX⟩ : ∃ X, Hid (xs[k]'hkx.out = X) := ⟨_, hid rfl⟩
      rw [HX.out] at g0 g1 g2 g3 g4 HTK
      obtain ⟨W1, hW1⟩ : ∃ W, W = wr.alloc (.cells X.cells.toArray 31) := ⟨_, rfl⟩
      have HB1 : Hid (Below wr.heap.size wr W1) := by rw [hW1]; exact one_new _ _
      have HK1 : Hid (Blk W1 wr.heap.size 31 X.cells) := by rw [hW1]; exact Blk.new wr _ _
      have HCQ := hid (containsQ_any W1 g cap qs ((HQ.out.below HR.out.2).below HB1.out) (by rw [HM.out]; exact hlq) X wr.heap.size HK1.out)
      rw [HM.out] at HCQ
      have HMO : Hid (∀ V, Calls Try.prog 21 #[X.val] V (SaysI V (momOf false X))) := fun V => begin_any V X
      obtain ⟨MO, HMM⟩ : ∃ m, Hid (momOf false X = m) := ⟨_, hid rfl⟩
      rw [HMM.out] at HMO HTK
      obtain ⟨r, HRR⟩ : ∃ r, Hid ((qs.any fun q => !q.sem X) = r) := ⟨_, hid rfl⟩
      rw [HRR.out] at HCQ HTK
      have HOW := hid HR.out.1
      obtain ⟨ys, HYS⟩ : ∃ ys, Hid (momsOf false qs (xs.take k) = ys) := ⟨_, hid rfl⟩
      rw [HYS.out] at HTK HFL HOW
      have HW1 := hid hW1
      clear hW1
      obtain ⟨co, tok, sb, se, id⟩ := X
      simp only [Sn.val, Sn.cells] at g0 g1 g2 g3 g4 HK1 HMO HW1
      cases r with
      | true =>
        go_wp2_with fail
        rw [← HW1.out]
        obtain ⟨q, hq⟩ : ∃ q, q = wr.heap.size := ⟨_, rfl⟩
        rw [← hq] at HCQ ⊢
        refine HCQ.out.mono ?_
        rintro e w' ⟨rfl, hb⟩
        have HBB := hid (bt' HB1.out hb)
        clear hb hq
        go_wp2
        go_roundw
        case rel => exact ⟨k + 1, HKM.out, by go_num, by
          rw [HTK.out]
          simp only [Bool.true_eq_false, if_false, List.append_nil]
          exact ownsRow_below HOW.out HBB.out (Nat.le_refl _), bt' HR.out.2 HBB.out⟩
        case measure => simp [intOf]; have := HKM.out; omega
      | false =>
        go_wp2_with fail
        rw [← HW1.out]
        obtain ⟨q, hq⟩ : ∃ q, q = wr.heap.size := ⟨_, rfl⟩
        rw [← hq] at HCQ HK1 ⊢
        refine HCQ.out.mono ?_
        rintro e w2 ⟨rfl, hb2⟩
        have HB2 := hid (bt' HB1.out hb2)
        have hk2 := HK1.out.below hb2 HK1.out.lt
        have c0 := hk2.cell (i := 0) rfl
        have c1 := hk2.cell (i := 1) rfl
        have c2 := hk2.cell (i := 2) rfl
        have c3 := hk2.cell (i := 3) rfl
        have c4 := hk2.cell (i := 4) rfl
        have HM2 := hid (HMO.out w2)
        clear hb2 hk2 hq
        go_wp2_with fail
        refine HM2.out.mono ?_
        rintro e w3 ⟨rfl, hb3⟩
        have HB3 := hid (bt' HB2.out hb3)
        have HO3 := hid (ownsRow_below HOW.out HB3.out (Nat.le_refl _))
        have HS3 : Hid (w.heap.size ≤ w3.heap.size) := (bt' HR.out.2 HB3.out).size
        clear hb3 c0 c1 c2 c3 c4
        go_wp2_with (at_builtin; refine wpList_append_one w3 _ MO rfl rfl _ _ rfl w.heap.size u7 ys rfl rfl HO3.out HS3.out HFL.out ?_; intro v' w4 hown4 hb4; have HO4 := hid hown4; have HB4 := hid hb4; clear hown4 hb4)
        go_wp2
        go_roundw
        case rel => exact ⟨k + 1, HKM.out, by go_num, by
          rw [HTK.out]
          rw [if_pos (by trivial)]
          exact HO4.out, (bt' HR.out.2 HB3.out).trans HB4.out⟩
        case measure => simp [intOf]; have := HKM.out; omega
    · have hlt' : ¬ (k : Int) < (n : Int) := by omega
      have HKE : Hid (xs.take k = xs) := List.take_of_length_le (by have := HN.out; omega)
      have HOW := hid HR.out.1
      rw [HKE.out] at HOW
      go_wp2
      go_ret
      exact ⟨_, rfl, HOW.out, HR.out.2⟩
set_option maxRecDepth 100000 in
set_option maxHeartbeats 1000000 in
theorem moments_true (w : World) (lo : Option Addr) (lc : Nat) (xs : List Sn) (n : Nat) (hn : xs.length = n) (hx : HeldSn w lo xs) (hlx : n ≤ 2932031007402) (g cap : Nat) (qs : List Qf) (hq : HeldQ w g qs) (m : Nat) (hm : qs.length = m) (hlq : m ≤ 100) :
    Calls Try.prog 20 #[.slice lo n lc, .func (.func 29) #[] #[], .slice (some ⟨g, 0, none⟩) m cap] w (MadeI w (momsOf true qs xs)) := by
  have HN := hid hn
  have HM := hid hm
  have H := hid hx
  have HQ := hid hq
  clear hn hx hq hm
  go_enter Try.func20, Try.ntmps20
  go_wp2
  go_loopw [7, 9, 12] (fun out _ i wr => ∃ k : Nat, k ≤ n ∧ i = .int .i64 k ∧ Hid (wr.ownsRow w.heap.size 3 1 out (momsOf true qs (xs.take k)).length (ints (momsOf true qs (xs.take k))) ∧ Below w.heap.size w wr)) (fun _ _ i _ => n - (intOf i).toNat)
  case atStart => exact ⟨0, Nat.zero_le _, rfl, ownI_nil _ _, Below.refl _ _⟩
  case round =>
    obtain ⟨k, hk, rfl, HR⟩ := hrel
    by_cases hlt : k < n
    · have hlt' : (k : Int) < (n : Int) := by omega
      have hkx : Hid (k < xs.length) := (by rw [HN.out]; exact hlt : k < xs.length)
      obtain ⟨bb, off, hlo, _, g0, g1, g2, g3, g4⟩ := (H.out.below HR.out.2).at hkx.out
      have HKM : Hid (k + 1 ≤ n) := (by omega : k + 1 ≤ n)
      have HTK := hid (moms_take (en := true) (qs := qs) hkx.out)
      have HFL : Hid ((momsOf true qs (xs.take k)).length < 17592186044416) := by
        have h1 := moms_len true qs (xs.take k)
        rw [List.length_take] at h1
        show _ < _
        omega
      subst hlo
      obtain ⟨X, HX⟩ : ∃ X, Hid (xs[k]'hkx.out = X) := ⟨_, hid rfl⟩
      rw [HX.out] at g0 g1 g2 g3 g4 HTK
      obtain ⟨W1, hW1⟩ : ∃ W, W = wr.alloc (.cells X.cells.toArray 31) := ⟨_, rfl⟩
      have HB1 : Hid (Below wr.heap.size wr W1) := by rw [hW1]; exact one_new _ _
      have HK1 : Hid (Blk W1 wr.heap.size 31 X.cells) := by rw [hW1]; exact Blk.new wr _ _
      have HCQ := hid (containsQ_any W1 g cap qs ((HQ.out.below HR.out.2).below HB1.out) (by rw [HM.out]; exact hlq) X wr.heap.size HK1.out)
      rw [HM.out] at HCQ
      have HMO : Hid (∀ V, Calls Try.prog 29 #[X.val] V (SaysI V (momOf true X))) := fun V => end_any V X
      obtain ⟨MO, HMM⟩ : ∃ m, Hid (momOf true X = m) := ⟨_, hid rfl⟩
      rw [HMM.out] at HMO HTK
      obtain ⟨r, HRR⟩ : ∃ r, Hid ((qs.any fun q => !q.sem X) = r) := ⟨_, hid rfl⟩
      rw [HRR.out] at HCQ HTK
      have HOW := hid HR.out.1
      obtain ⟨ys, HYS⟩ : ∃ ys, Hid (momsOf true qs (xs.take k) = ys) := ⟨_, hid rfl⟩
      rw [HYS.out] at HTK HFL HOW
      have HW1 := hid hW1
      clear hW1
      obtain ⟨co, tok, sb, se, id⟩ := X
      simp only [Sn.val, Sn.cells] at g0 g1 g2 g3 g4 HK1 HMO HW1
      cases r with
      | true =>
        go_wp2_with fail
        rw [← HW1.out]
        obtain ⟨q, hq⟩ : ∃ q, q = wr.heap.size := ⟨_, rfl⟩
        rw [← hq] at HCQ ⊢
        refine HCQ.out.mono ?_
        rintro e w' ⟨rfl, hb⟩
        have HBB := hid (bt' HB1.out hb)
        clear hb hq
        go_wp2
        go_roundw
        case rel => exact ⟨k + 1, HKM.out, by go_num, by
          rw [HTK.out]
          simp only [Bool.true_eq_false, if_false, List.append_nil]
          exact ownsRow_below HOW.out HBB.out (Nat.le_refl _), bt' HR.out.2 HBB.out⟩
        case measure => simp [intOf]; have := HKM.out; omega
      | false =>
        go_wp2_with fail
        rw [← HW1.out]
        obtain ⟨q, hq⟩ : ∃ q, q = wr.heap.size := ⟨_, rfl⟩
        rw [← hq] at HCQ HK1 ⊢
        refine HCQ.out.mono ?_
        rintro e w2 ⟨rfl, hb2⟩
        have HB2 := hid (bt' HB1.out hb2)
        have hk2 := HK1.out.below hb2 HK1.out.lt
        have c0 := hk2.cell (i := 0) rfl
        have c1 := hk2.cell (i := 1) rfl
        have c2 := hk2.cell (i := 2) rfl
        have c3 := hk2.cell (i := 3) rfl
        have c4 := hk2.cell (i := 4) rfl
        have HM2 := hid (HMO.out w2)
        clear hb2 hk2 hq
        go_wp2_with fail
        refine HM2.out.mono ?_
        rintro e w3 ⟨rfl, hb3⟩
        have HB3 := hid (bt' HB2.out hb3)
        have HO3 := hid (ownsRow_below HOW.out HB3.out (Nat.le_refl _))
        have HS3 : Hid (w.heap.size ≤ w3.heap.size) := (bt' HR.out.2 HB3.out).size
        clear hb3 c0 c1 c2 c3 c4
        go_wp2_with (at_builtin; refine wpList_append_one w3 _ MO rfl rfl _ _ rfl w.heap.size u7 ys rfl rfl HO3.out HS3.out HFL.out ?_; intro v' w4 hown4 hb4; have HO4 := hid hown4; have HB4 := hid hb4; clear hown4 hb4)
        go_wp2
        go_roundw
        case rel => exact ⟨k + 1, HKM.out, by go_num, by
          rw [HTK.out]
          rw [if_pos (by trivial)]
          exact HO4.out, (bt' HR.out.2 HB3.out).trans HB4.out⟩
        case measure => simp [intOf]; have := HKM.out; omega
    · have hlt' : ¬ (k : Int) < (n : Int) := by omega
      have HKE : Hid (xs.take k = xs) := List.take_of_length_le (by have := HN.out; omega)
      have HOW := hid HR.out.1
      rw [HKE.out] at HOW
      go_wp2
      go_ret
      exact ⟨_, rfl, HOW.out, HR.out.2⟩
end Go.Proofs.Ytfjmhfbmphdjiaa
