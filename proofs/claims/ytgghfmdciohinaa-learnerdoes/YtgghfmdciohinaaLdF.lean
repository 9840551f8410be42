/-
  pannierref18.Missing.
-/
import Derived.Test.YtgghfmdciohinaaLdE
namespace Go.Proofs.Ytgghfmdciohinaa
open Go.RowKit Go.Maps

theorem measMN {n k : Nat} (h : k + 1 ≤ n) (hw : wrap64 ((k : Int) + 1) = (k : Int) + 1) : n - (intOf (.int .i64 (wrap64 ((k : Int) + 1)))).toNat < n - (intOf (.int .i64 (k : Int))).toNat := measWD h hw
theorem natTo {t M : Nat} {mm : Int} (hm : mm.toNat = M) (h : (t : Int) < mm) : t < M := by omega
theorem natNot {t M : Nat} {mm : Int} (hm : mm.toNat = M) (h : ¬ (t : Int) < mm) : ¬ t < M := by omega
def MissP (w : World) (ys : List Int) (e : Ending) (w' : World) : Prop := ∃ v, e = .returned v ∧ w'.ownsRow w.heap.size 3 1 v ys.length (ints ys) ∧ Below w.heap.size w w'
set_option maxRecDepth 100000 in
set_option maxHeartbeats 1000000 in
theorem RlAt.missing {w : World} {B x : Nat} {xs : List StM} {eo : Option Addr} {cap : Nat} (h : RlAt w B x xs eo cap) (hr : Rises (xs.map (·.n))) (h0 : ∀ y ∈ xs, 0 ≤ y.n ∧ y.n ≤ 2147483647) (most : Int) : Calls Try.prog 30 #[.pointer (some ⟨x, 0, none⟩), .int .i64 most] w fun e w' => ∃ s, Beh xs xs.length s ∧ MissP w (gapsTo (xs.map (·.n)) (min most 4096).toNat s) e w' := by
  obtain ⟨n, HN⟩ : ∃ n, Hid (xs.length = n) := ⟨_, hid rfl⟩
  have HF : Hid (n ≤ 65536) := by rw [← HN.out]; exact h.few
  have HH := hid h
  have HR := hid hr
  have H0 := hid h0
  obtain ⟨ks, HKS⟩ : ∃ ks, Hid (xs.map (·.n) = ks) := ⟨_, hid rfl⟩
  obtain ⟨mm, HMM⟩ : ∃ mm, Hid (min most 4096 = mm) := ⟨_, hid rfl⟩
  obtain ⟨M, HM⟩ : ∃ M, Hid (mm.toNat = M) := ⟨_, hid rfl⟩
  have HMC : Hid (M ≤ 4096) := by have h1 := HM.out; have h2 := HMM.out; exact (by omega : M ≤ 4096)
  rw [HMM.out, HM.out, HKS.out]
  clear h hr h0
  by_cases hbig : 4096 < most
  · have hmm : Hid (mm = 4096) := by have := HMM.out; exact (by omega : mm = 4096)
    have hb' : decide ((4096 : Int) < most) = true := decide_eq_true hbig
    go_enter Try.func30, Try.ntmps30
    go_wp2
    rw [← hmm.out]
    clear hbig hb' hmm
    go_loopw [5, 6, 7] (fun v sv iv wr => ∃ k s : Nat, iv = .int .i64 k ∧ sv = .int .i64 s ∧ Hid (k ≤ n) ∧ Hid (s ≤ 2147483648) ∧ Hid (Beh xs k s) ∧ Hid (MissR w xs M s v wr)) (fun _ _ iv _ => n - (intOf iv).toNat)
    case atStart => exact ⟨0, 0, rfl, rfl, Nat.zero_le _, Nat.zero_le _, Beh.start (fun y hy => (H0.out y hy).1), by unfold MissR; rw [gapsTo_zero]; exact ⟨World.ownsRow_nil _ _ _ _, Below.refl _ _⟩⟩
    case round =>
      obtain ⟨k, s, rfl, rfl, HK, HS, HBE, HMR⟩ := hrel
      have hc0 := (HH.out.below HMR.out.2).blk.cell (i := 0) rfl
      rw [HN.out] at hc0
      by_cases hlt : k < n
      · have hlt' : (k : Int) < (n : Int) := by omega
        have HKM : Hid (k + 1 ≤ n) := (by omega : k + 1 ≤ n)
        have HKX : Hid (k < xs.length) := by rw [HN.out]; exact hlt
        have hwk : wrap64 ((k : Int) + 1) = (k : Int) + 1 := wrapS (by omega) (by have := HF.out; omega)
        obtain ⟨sl, HSL⟩ : ∃ z : Nat, Hid ((xs[k]'HKX.out).n = (z : Int)) := ⟨(xs[k]'HKX.out).n.toNat, by have := (H0.out _ (List.getElem_mem HKX.out)).1; show _ = _; omega⟩
        have HSB : Hid (sl ≤ 2147483647) := by have := (H0.out _ (List.getElem_mem HKX.out)).2; have h2 := HSL.out; exact (by omega : sl ≤ 2147483647)
        have HSE : Hid (s ≤ sl) := by have := HBE.out.hi k HKX.out (Nat.le_refl _); have h2 := HSL.out; exact (by omega : s ≤ sl)
        have HLOAD : Hid (∀ V, Below w.heap.size w V → ∃ b off, eo = some ⟨b, off, none⟩ ∧ V.cell? ⟨b, off + k * 6, none⟩ = some (.int .i64 (sl : Int)) ∧ V.cell? ⟨x, 0, none⟩ = some (.slice eo n cap)) := fun V hV => by
          obtain ⟨b, off, hao, _, d0, _⟩ := (HH.out.below hV).held.cellsD HKX.out
          rw [st_getD HKX.out, HSL.out] at d0
          have h1 := (HH.out.below hV).blk.cell (i := 0) rfl
          rw [HN.out] at h1
          exact ⟨b, off, hao, d0, h1⟩
        have HMR0 := hid HMR.out
        clear hlt HMR
        go_wp2
        go_loopw [5, 6] (fun v sv wq => ∃ t : Nat, sv = .int .i64 t ∧ Hid (s ≤ t ∧ t ≤ sl) ∧ Hid (MissR w xs M t v wq)) (fun _ sv _ => sl - (intOf sv).toNat)
        case atStart => exact ⟨s, rfl, ⟨Nat.le_refl _, HSE.out⟩, HMR0.out⟩
        case round =>
          obtain ⟨t, rfl, HT, HQ⟩ := hrel
          obtain ⟨L, HLL⟩ : ∃ L, Hid ((gapsTo (xs.map (·.n)) M t).length = L) := ⟨_, hid rfl⟩
          have hrow := HQ.out.1
          obtain ⟨vo, vc, hv⟩ := own_sliceC hrow
          rw [HLL.out] at hv
          subst hv
          have HROW := hid hrow
          have HB := hid HQ.out.2
          obtain ⟨b, off, hao, d0, hc1⟩ := HLOAD.out _ HQ.out.2
          have hkn : (k : Int) < (n : Int) := by have := HKM.out; omega
          have hLM : L ≤ 4096 := by have h1 := gapsTo_le (xs.map (·.n)) M t; have h2 := HLL.out; have h3 := HMC.out; omega
          have HLM := hid hLM
          subst hao
          clear hrow HQ hc0 hLM
          by_cases h1 : t < sl
          · have h1' : decide ((t : Int) < (sl : Int)) = true := decide_eq_true (by omega)
            have h1n : decide (t < sl) = true := decide_eq_true h1
            have hwt : wrap64 ((t : Int) + 1) = (t : Int) + 1 := wrapS (by omega) (by have := HSB.out; omega)
            by_cases h2 : (L : Int) < mm
            · have h2' : decide ((L : Int) < mm) = true := decide_eq_true h2
              have HGO : Hid (gapsTo (xs.map (·.n)) M (t + 1) = gapsTo (xs.map (·.n)) M t ++ [(t : Int)]) := gapsTo_out (HBE.out.gap HR.out HKX.out (t := t) (by have := HT.out; omega) (by rw [HSL.out]; omega)) (by rw [HLL.out]; exact natTo HM.out h2)
              have HFEW : Hid ((gapsTo (xs.map (·.n)) M t).length < 17592186044416) := by rw [HLL.out]; have := HLM.out; exact (by omega : L < 17592186044416)
              have HTM : Hid (t + 1 ≤ sl) := h1
              clear h1 h2
              go_wp2_with (at_builtin; refine wpList_append_one wr _ (t : Int) rfl rfl _ _ rfl w.heap.size _ (gapsTo (List.map StM.n xs) M t) rfl rfl HROW.out HB.out.size HFEW.out ?_; intro v' w5 hown hb5; have HO5 := hid hown; have HB5 := hid (HB.out.trans hb5); clear hown hb5)
              go_roundw
              case rel => exact ⟨t + 1, by go_num, ⟨by have := HT.out; omega, HTM.out⟩, by unfold MissR; rw [HGO.out]; exact ⟨HO5.out, HB5.out⟩⟩
              case measure => first | exact measWD HTM.out hwt | exact meas1D HTM.out
            · have h2' : decide ((L : Int) < mm) = false := decide_eq_false h2
              have HGF : Hid (gapsTo (xs.map (·.n)) M (sl + 1) = gapsTo (xs.map (·.n)) M t) := gapsTo_full (by omega) (by rw [HLL.out]; exact natNot HM.out h2)
              have hws : wrap64 ((sl : Int) + 1) = (sl : Int) + 1 := wrapS (by omega) (by have := HSB.out; omega)
              clear h1 h2
              go_wp2
              go_roundw
              case rel => exact ⟨k + 1, sl + 1, by go_num, by go_num, HKM.out, by have := HSB.out; show _ ≤ _; omega, Beh.next HR.out HKX.out HSL.out, by unfold MissR; rw [HGF.out]; exact ⟨HROW.out, HB.out⟩⟩
              case measure => first | exact measWD HKM.out hwk | exact meas1D HKM.out
          · have h1' : decide ((t : Int) < (sl : Int)) = false := decide_eq_false (by omega)
            have h1n : decide (t < sl) = false := decide_eq_false h1
            have HTS : Hid (t = sl) := by have := HT.out; exact (by omega : t = sl)
            have HGF : Hid (gapsTo (xs.map (·.n)) M (sl + 1) = gapsTo (xs.map (·.n)) M t) := by
              rw [HTS.out]
              exact gapsTo_in (by rw [← HSL.out]; exact List.mem_map.2 ⟨_, List.getElem_mem HKX.out, rfl⟩)
            have hws : wrap64 ((sl : Int) + 1) = (sl : Int) + 1 := wrapS (by omega) (by have := HSB.out; omega)
            clear h1
            go_wp2
            go_roundw
            case rel => exact ⟨k + 1, sl + 1, by go_num, by go_num, HKM.out, by have := HSB.out; show _ ≤ _; omega, Beh.next HR.out HKX.out HSL.out, by unfold MissR; rw [HGF.out]; exact ⟨HROW.out, HB.out⟩⟩
            case measure => first | exact measWD HKM.out hwk | exact meas1D HKM.out
      · have hlt' : ¬ (k : Int) < (n : Int) := by omega
        have HKE : Hid (k = xs.length) := by have h1 := HN.out; have h2 := HK.out; exact (by omega : k = xs.length)
        have HROW := hid HMR.out.1
        have HB := hid HMR.out.2
        clear HMR
        go_wp2
        go_ret
        have hbe := HBE.out
        rw [HKE.out] at hbe
        refine ⟨s, hbe, _, rfl, ?_, HB.out⟩
        rw [← HKS.out]
        exact HROW.out
  · have hmm : Hid (mm = most) := by have := HMM.out; exact (by omega : mm = most)
    have hb' : decide ((4096 : Int) < most) = false := decide_eq_false hbig
    go_enter Try.func30, Try.ntmps30
    go_wp2
    rw [← hmm.out]
    clear hbig hb' hmm
    go_loopw [5, 6, 7] (fun v sv iv wr => ∃ k s : Nat, iv = .int .i64 k ∧ sv = .int .i64 s ∧ Hid (k ≤ n) ∧ Hid (s ≤ 2147483648) ∧ Hid (Beh xs k s) ∧ Hid (MissR w xs M s v wr)) (fun _ _ iv _ => n - (intOf iv).toNat)
    case atStart => exact ⟨0, 0, rfl, rfl, Nat.zero_le _, Nat.zero_le _, Beh.start (fun y hy => (H0.out y hy).1), by unfold MissR; rw [gapsTo_zero]; exact ⟨World.ownsRow_nil _ _ _ _, Below.refl _ _⟩⟩
    case round =>
      obtain ⟨k, s, rfl, rfl, HK, HS, HBE, HMR⟩ := hrel
      have hc0 := (HH.out.below HMR.out.2).blk.cell (i := 0) rfl
      rw [HN.out] at hc0
      by_cases hlt : k < n
      · have hlt' : (k : Int) < (n : Int) := by omega
        have HKM : Hid (k + 1 ≤ n) := (by omega : k + 1 ≤ n)
        have HKX : Hid (k < xs.length) := by rw [HN.out]; exact hlt
        have hwk : wrap64 ((k : Int) + 1) = (k : Int) + 1 := wrapS (by omega) (by have := HF.out; omega)
        obtain ⟨sl, HSL⟩ : ∃ z : Nat, Hid ((xs[k]'HKX.out).n = (z : Int)) := ⟨(xs[k]'HKX.out).n.toNat, by have := (H0.out _ (List.getElem_mem HKX.out)).1; show _ = _; omega⟩
        have HSB : Hid (sl ≤ 2147483647) := by have := (H0.out _ (List.getElem_mem HKX.out)).2; have h2 := HSL.out; exact (by omega : sl ≤ 2147483647)
        have HSE : Hid (s ≤ sl) := by have := HBE.out.hi k HKX.out (Nat.le_refl _); have h2 := HSL.out; exact (by omega : s ≤ sl)
        have HLOAD : Hid (∀ V, Below w.heap.size w V → ∃ b off, eo = some ⟨b, off, none⟩ ∧ V.cell? ⟨b, off + k * 6, none⟩ = some (.int .i64 (sl : Int)) ∧ V.cell? ⟨x, 0, none⟩ = some (.slice eo n cap)) := fun V hV => by
          obtain ⟨b, off, hao, _, d0, _⟩ := (HH.out.below hV).held.cellsD HKX.out
          rw [st_getD HKX.out, HSL.out] at d0
          have h1 := (HH.out.below hV).blk.cell (i := 0) rfl
          rw [HN.out] at h1
          exact ⟨b, off, hao, d0, h1⟩
        have HMR0 := hid HMR.out
        clear hlt HMR
        go_wp2
        go_loopw [5, 6] (fun v sv wq => ∃ t : Nat, sv = .int .i64 t ∧ Hid (s ≤ t ∧ t ≤ sl) ∧ Hid (MissR w xs M t v wq)) (fun _ sv _ => sl - (intOf sv).toNat)
        case atStart => exact ⟨s, rfl, ⟨Nat.le_refl _, HSE.out⟩, HMR0.out⟩
        case round =>
          obtain ⟨t, rfl, HT, HQ⟩ := hrel
          obtain ⟨L, HLL⟩ : ∃ L, Hid ((gapsTo (xs.map (·.n)) M t).length = L) := ⟨_, hid rfl⟩
          have hrow := HQ.out.1
          obtain ⟨vo, vc, hv⟩ := own_sliceC hrow
          rw [HLL.out] at hv
          subst hv
          have HROW := hid hrow
          have HB := hid HQ.out.2
          obtain ⟨b, off, hao, d0, hc1⟩ := HLOAD.out _ HQ.out.2
          have hkn : (k : Int) < (n : Int) := by have := HKM.out; omega
          have hLM : L ≤ 4096 := by have h1 := gapsTo_le (xs.map (·.n)) M t; have h2 := HLL.out; have h3 := HMC.out; omega
          have HLM := hid hLM
          subst hao
          clear hrow HQ hc0 hLM
          by_cases h1 : t < sl
          · have h1' : decide ((t : Int) < (sl : Int)) = true := decide_eq_true (by omega)
            have h1n : decide (t < sl) = true := decide_eq_true h1
            have hwt : wrap64 ((t : Int) + 1) = (t : Int) + 1 := wrapS (by omega) (by have := HSB.out; omega)
            by_cases h2 : (L : Int) < mm
            · have h2' : decide ((L : Int) < mm) = true := decide_eq_true h2
              have HGO : Hid (gapsTo (xs.map (·.n)) M (t + 1) = gapsTo (xs.map (·.n)) M t ++ [(t : Int)]) := gapsTo_out (HBE.out.gap HR.out HKX.out (t := t) (by have := HT.out; omega) (by rw [HSL.out]; omega)) (by rw [HLL.out]; exact natTo HM.out h2)
              have HFEW : Hid ((gapsTo (xs.map (·.n)) M t).length < 17592186044416) := by rw [HLL.out]; have := HLM.out; exact (by omega : L < 17592186044416)
              have HTM : Hid (t + 1 ≤ sl) := h1
              clear h1 h2
              go_wp2_with (at_builtin; refine wpList_append_one wr _ (t : Int) rfl rfl _ _ rfl w.heap.size _ (gapsTo (List.map StM.n xs) M t) rfl rfl HROW.out HB.out.size HFEW.out ?_; intro v' w5 hown hb5; have HO5 := hid hown; have HB5 := hid (HB.out.trans hb5); clear hown hb5)
              go_roundw
              case rel => exact ⟨t + 1, by go_num, ⟨by have := HT.out; omega, HTM.out⟩, by unfold MissR; rw [HGO.out]; exact ⟨HO5.out, HB5.out⟩⟩
              case measure => first | exact measWD HTM.out hwt | exact meas1D HTM.out
            · have h2' : decide ((L : Int) < mm) = false := decide_eq_false h2
              have HGF : Hid (gapsTo (xs.map (·.n)) M (sl + 1) = gapsTo (xs.map (·.n)) M t) := gapsTo_full (by omega) (by rw [HLL.out]; exact natNot HM.out h2)
              have hws : wrap64 ((sl : Int) + 1) = (sl : Int) + 1 := wrapS (by omega) (by have := HSB.out; omega)
              clear h1 h2
              go_wp2
              go_roundw
              case rel => exact ⟨k + 1, sl + 1, by go_num, by go_num, HKM.out, by have := HSB.out; show _ ≤ _; omega, Beh.next HR.out HKX.out HSL.out, by unfold MissR; rw [HGF.out]; exact ⟨HROW.out, HB.out⟩⟩
              case measure => first | exact measWD HKM.out hwk | exact meas1D HKM.out
          · have h1' : decide ((t : Int) < (sl : Int)) = false := decide_eq_false (by omega)
            have h1n : decide (t < sl) = false := decide_eq_false h1
            have HTS : Hid (t = sl) := by have := HT.out; exact (by omega : t = sl)
            have HGF : Hid (gapsTo (xs.map (·.n)) M (sl + 1) = gapsTo (xs.map (·.n)) M t) := by
              rw [HTS.out]
              exact gapsTo_in (by rw [← HSL.out]; exact List.mem_map.2 ⟨_, List.getElem_mem HKX.out, rfl⟩)
            have hws : wrap64 ((sl : Int) + 1) = (sl : Int) + 1 := wrapS (by omega) (by have := HSB.out; omega)
            clear h1
            go_wp2
            go_roundw
            case rel => exact ⟨k + 1, sl + 1, by go_num, by go_num, HKM.out, by have := HSB.out; show _ ≤ _; omega, Beh.next HR.out HKX.out HSL.out, by unfold MissR; rw [HGF.out]; exact ⟨HROW.out, HB.out⟩⟩
            case measure => first | exact measWD HKM.out hwk | exact meas1D HKM.out
      · have hlt' : ¬ (k : Int) < (n : Int) := by omega
        have HKE : Hid (k = xs.length) := by have h1 := HN.out; have h2 := HK.out; exact (by omega : k = xs.length)
        have HROW := hid HMR.out.1
        have HB := hid HMR.out.2
        clear HMR
        go_wp2
        go_ret
        have hbe := HBE.out
        rw [HKE.out] at hbe
        refine ⟨s, hbe, _, rfl, ?_, HB.out⟩
        rw [← HKS.out]
        exact HROW.out
end Go.Proofs.Ytgghfmdciohinaa
