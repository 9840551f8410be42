/-
  The document's Between.
-/
import Derived.Test.YtplecopphddjhaaVvM
namespace Go.Proofs.Ytplecopphddjhaa
open Go.RowKit Go.Maps

theorem own_slice {w : World} {B e n sz : Nat} {v : Value} {xs : List Value} (h : w.ownsRow B e sz v n xs) : ∃ eo cap, v = .slice eo n cap := by
  rcases h.2 with ⟨rfl, rfl⟩ | ⟨g, cap, cur, rfl, _⟩
  · exact ⟨none, 0, rfl⟩
  · exact ⟨_, cap, rfl⟩
theorem wrap_nx {H Y nv : Int} {j : Nat} (h : nv < Y) (hn : nv = H + (j : Int)) (h0 : 0 ≤ H) (hY : Y ≤ 9223372036854775807) : wrap64 (nv + 1) = nv + 1 := wrapS (by omega) (by omega)
theorem nx_val {H nv : Int} {j : Nat} (h : nv = H + (j : Int)) : nv + 1 = H + ((j + 1 : Nat) : Int) := by omega
theorem nx_meas {Y nv : Int} (h1 : nv < Y) (h : wrap64 (nv + 1) = nv + 1) : (Y - intOf (.int .i64 (wrap64 (nv + 1)))).toNat < (Y - intOf (.int .i64 nv)).toNat := by
  rw [h]
  simp only [intOf]
  omega
def AnsD (w : World) (ds : List (Int × Int)) (e : Ending) (w' : World) : Prop := ∃ v, e = .returned v ∧ w'.ownsRow w.heap.size 25 2 v ds.length (flatD ds) ∧ Below w.heap.size w w'
theorem part_more {ds P : List (Int × Int)} {x : Int × Int} {M : Nat} (h : ds = P.take M) (hl : ds.length < M) : ds ++ [x] = (P ++ [x]).take M := by
  have hP : P.length < M := by
    rw [h, List.length_take] at hl
    omega
  rw [List.take_of_length_le (by omega)] at h
  rw [h, List.take_of_length_le (by simp; omega)]
theorem more_lt {Y H : Int} (hH : 0 ≤ H) (j : Nat) (h : H + (j : Int) < Y) : j < (max Y 0 - H).toNat := by omega
theorem more_nlt {Y H : Int} (hH : 0 ≤ H) (j : Nat) (h : ¬ H + (j : Int) < Y) : (max Y 0 - H).toNat ≤ j := by omega

set_option maxRecDepth 100000 in
set_option maxHeartbeats 2000000 in
theorem rbetween_any (w : World) (ao bo : Option Addr) (ca cb : Nat) (a b : List Int) (m k0 : Nat) (hm : a.length = m) (hn : b.length = k0) (ha : HV w ao ca a) (hb : HV w bo cb b) (M : Nat) (hM : M ≤ 900000) :
    Calls Try.prog 45 #[.slice ao m ca, .slice bo k0 cb, .int .i64 (M : Int)] w (AnsD w ((dotsAll a b).take M)) := by
  have hfb := hb.few
  rw [hn] at hfb
  have HA := hid ha
  have HB := hid hb
  have HM := hid hm
  have HK := hid hn
  clear ha hb hm hn
  go_enter Try.func45, Try.ntmps45
  go_wp2
  go_loopw [7, 8, 9, 10] (fun u i _ _ wr => ∃ k : Nat, k ≤ k0 ∧ i = .int .i64 k ∧ Hid (∃ ds, wr.ownsRow w.heap.size 25 2 u ds.length (flatD ds) ∧ ds = (partD a b k 0).take M ∧ Below w.heap.size w wr)) (fun _ i _ _ _ => k0 - (intOf i).toNat)
  case atStart => exact ⟨0, Nat.zero_le _, rfl, [], ⟨rfl, .inl ⟨rfl, rfl⟩⟩, by simp [partD, rowOf], Below.refl _ _⟩
  case round =>
    obtain ⟨k, hk, rfl, HR⟩ := hrel
    by_cases hlt : k < k0
    · have hlt' : (k : Int) < (k0 : Int) := by omega
      have hbel0 : Below w.heap.size w wr := by obtain ⟨_, _, _, h⟩ := HR.out; exact h
      have hkb : k < b.length := by rw [HK.out]; exact hlt
      have HOF := hid (rof_any wr ao ca a m HM.out (k : Int) (HA.out.below hbel0).held)
      rw [ofV_nat] at HOF
      have hrb := HB.out.held.rng k
      rcases HB.out.held.2 with h0 | ⟨bb, off, rfl, hbb, hc⟩
      · rw [h0] at hkb; cases hkb
      have cY := hc k hkb
      have HBB := hid hbb
      obtain ⟨X, HX⟩ : ∃ X, Hid (a.getD k 0 = X) := ⟨_, hid rfl⟩
      obtain ⟨Y, HY⟩ : ∃ X, Hid (b.getD k 0 = X) := ⟨_, hid rfl⟩
      rw [HX.out] at HOF
      rw [HY.out] at cY hrb
      have HY1 := hid hrb.2
      clear hc hbb hkb hrb hbel0
      go_wp2_with fail
      refine HOF.out.mono ?_
      rintro e w' ⟨rfl, rfl⟩
      obtain ⟨H, HHd⟩ : ∃ H, Hid (max X 0 = H) := ⟨_, hid rfl⟩
      have HH0 : Hid (0 ≤ H) := (by have := HHd.out; omega : 0 ≤ H)
      have HHE : Hid (hadOf a k = H) := by show _ = _; unfold hadOf; rw [HX.out, HHd.out]
      have HME : Hid (moreOf a b k = max Y 0 - H) := by show _ = _; unfold moreOf; rw [HHE.out, HY.out]
      have HMJ : Hid (∀ j : Nat, H + (j : Int) < Y → j < (moreOf a b k).toNat) := fun j h => by rw [HME.out]; exact more_lt HH0.out j h
      have HMN : Hid (∀ j : Nat, ¬ H + (j : Int) < Y → (moreOf a b k).toNat ≤ j) := fun j h => by rw [HME.out]; exact more_nlt HH0.out j h
      by_cases hx : X < 0
      · have HST : Hid ((0 : Int) = H + ((0 : Nat) : Int)) := (by have := HHd.out; omega : (0 : Int) = H + ((0 : Nat) : Int))
        go_wp2
        go_loopw [7, 10] (fun u nn wi => ∃ (j : Nat) (nv : Int), nn = .int .i64 nv ∧ Hid (nv = H + (j : Int) ∧ ∃ ds, wi.ownsRow w.heap.size 25 2 u ds.length (flatD ds) ∧ ds = (partD a b k j).take M ∧ Below w.heap.size w wi)) (fun _ nn _ => (Y - intOf nn).toNat)
        case atStart => exact ⟨0, _, rfl, HST.out, HR.out⟩
        case round =>
          obtain ⟨j, nv, rfl, HI⟩ := hrel
          obtain ⟨hnv, ds, hown, hds, hbel⟩ := HI.out
          obtain ⟨eo, cap, rfl⟩ := own_slice hown
          have cbj : wr.cell? ⟨bb, off + k, none⟩ = some (.int .i64 Y) := (hbel.cell (by simpa using HBB.out)).trans cY
          have HNV := hid hnv
          have HO := hid hown
          have HDS := hid hds
          have HBL := hid hbel
          obtain ⟨N, HN⟩ : ∃ N, Hid (ds.length = N) := ⟨_, hid rfl⟩
          rw [HN.out] at HO
          rw [HN.out]
          clear hown hds hbel hnv
          by_cases h1 : nv < Y
          · have hjm : Hid (j < (moreOf a b k).toNat) := HMJ.out j (by rw [← HNV.out]; exact h1)
            by_cases h2 : N < M
            · have h2' : (N : Int) < (M : Int) := by omega
              have w2 : wrap64 (nv + 1) = nv + 1 := wrap_nx h1 HNV.out HH0.out HY1.out
              have HO' : Hid (wr.ownsRow w.heap.size 25 2 (.slice eo N cap) ds.length (flatD ds)) := by rw [HN.out]; exact HO.out
              have hNs : ds.length ≤ 1000000 := by rw [HN.out]; omega
              go_wp2_with (at_builtin; refine wpList_append_dot _ _ ((k : Int), nv + 1) rfl rfl _ _ rfl w.heap.size _ ds rfl rfl HO'.out HBL.out.size hNs ?_; intro v' w5 hown5 hb5; have HO5 := hid hown5; have HB5 := hid hb5; clear hown5 hb5)
              go_wp2
              go_roundw
              case rel =>
                refine ⟨j + 1, nv + 1, by rw [w2], nx_val HNV.out, ds ++ [((k : Int), nv + 1)], HO5.out, ?_, HBL.out.trans HB5.out⟩
                rw [partD_step a b k hjm.out, HHE.out, ← HNV.out]
                exact part_more HDS.out (by rw [HN.out]; exact h2)
              case measure => exact nx_meas h1 w2
            · have h2' : ¬ (N : Int) < (M : Int) := by omega
              go_wp2
              go_roundw
              case rel =>
                refine ⟨k + 1, by omega, by go_num, ds, by rw [HN.out]; exact HO.out, ?_, HBL.out⟩
                have hle : M ≤ (partD a b k j).length := by
                  have h3 := HN.out
                  rw [HDS.out, List.length_take] at h3
                  omega
                rw [HDS.out]
                exact take_full (partD_pre a b k j) hle
              case measure => simp [intOf]; omega
          · go_wp2
            go_roundw
            case rel =>
              refine ⟨k + 1, by omega, by go_num, ds, by rw [HN.out]; exact HO.out, ?_, HBL.out⟩
              rw [HDS.out, partD_row a b k (HMN.out j (by rw [← HNV.out]; omega))]
            case measure => simp [intOf]; omega
      · have HST : Hid (X = H + ((0 : Nat) : Int)) := (by have := HHd.out; omega : X = H + ((0 : Nat) : Int))
        go_wp2
        go_loopw [7, 10] (fun u nn wi => ∃ (j : Nat) (nv : Int), nn = .int .i64 nv ∧ Hid (nv = H + (j : Int) ∧ ∃ ds, wi.ownsRow w.heap.size 25 2 u ds.length (flatD ds) ∧ ds = (partD a b k j).take M ∧ Below w.heap.size w wi)) (fun _ nn _ => (Y - intOf nn).toNat)
        case atStart => exact ⟨0, _, rfl, HST.out, HR.out⟩
        case round =>
          obtain ⟨j, nv, rfl, HI⟩ := hrel
          obtain ⟨hnv, ds, hown, hds, hbel⟩ := HI.out
          obtain ⟨eo, cap, rfl⟩ := own_slice hown
          have cbj : wr.cell? ⟨bb, off + k, none⟩ = some (.int .i64 Y) := (hbel.cell (by simpa using HBB.out)).trans cY
          have HNV := hid hnv
          have HO := hid hown
          have HDS := hid hds
          have HBL := hid hbel
          obtain ⟨N, HN⟩ : ∃ N, Hid (ds.length = N) := ⟨_, hid rfl⟩
          rw [HN.out] at HO
          rw [HN.out]
          clear hown hds hbel hnv
          by_cases h1 : nv < Y
          · have hjm : Hid (j < (moreOf a b k).toNat) := HMJ.out j (by rw [← HNV.out]; exact h1)
            by_cases h2 : N < M
            · have h2' : (N : Int) < (M : Int) := by omega
              have w2 : wrap64 (nv + 1) = nv + 1 := wrap_nx h1 HNV.out HH0.out HY1.out
              have HO' : Hid (wr.ownsRow w.heap.size 25 2 (.slice eo N cap) ds.length (flatD ds)) := by rw [HN.out]; exact HO.out
              have hNs : ds.length ≤ 1000000 := by rw [HN.out]; omega
              go_wp2_with (at_builtin; refine wpList_append_dot _ _ ((k : Int), nv + 1) rfl rfl _ _ rfl w.heap.size _ ds rfl rfl HO'.out HBL.out.size hNs ?_; intro v' w5 hown5 hb5; have HO5 := hid hown5; have HB5 := hid hb5; clear hown5 hb5)
              go_wp2
              go_roundw
              case rel =>
                refine ⟨j + 1, nv + 1, by rw [w2], nx_val HNV.out, ds ++ [((k : Int), nv + 1)], HO5.out, ?_, HBL.out.trans HB5.out⟩
                rw [partD_step a b k hjm.out, HHE.out, ← HNV.out]
                exact part_more HDS.out (by rw [HN.out]; exact h2)
              case measure => exact nx_meas h1 w2
            · have h2' : ¬ (N : Int) < (M : Int) := by omega
              go_wp2
              go_roundw
              case rel =>
                refine ⟨k + 1, by omega, by go_num, ds, by rw [HN.out]; exact HO.out, ?_, HBL.out⟩
                have hle : M ≤ (partD a b k j).length := by
                  have h3 := HN.out
                  rw [HDS.out, List.length_take] at h3
                  omega
                rw [HDS.out]
                exact take_full (partD_pre a b k j) hle
              case measure => simp [intOf]; omega
          · go_wp2
            go_roundw
            case rel =>
              refine ⟨k + 1, by omega, by go_num, ds, by rw [HN.out]; exact HO.out, ?_, HBL.out⟩
              rw [HDS.out, partD_row a b k (HMN.out j (by rw [← HNV.out]; omega))]
            case measure => simp [intOf]; omega
    · have hlt' : ¬ (k : Int) < (k0 : Int) := by omega
      obtain ⟨ds, hown, hds, hbel⟩ := HR.out
      have hke : k = b.length := by rw [HK.out]; omega
      rw [hke, partD_all] at hds
      subst hds
      have HO := hid hown
      have HBL := hid hbel
      clear hown hbel hke
      go_wp2
      go_ret
      exact ⟨_, rfl, HO.out, HBL.out⟩
end Go.Proofs.Ytplecopphddjhaa
