/-
  The document's Keeps, of one tick and of all.
-/
import Derived.Test.YtpbhboecpgdgaaaClkM
namespace Go.Proofs.Ytpbhboecpgdgaaa
open Go.RowKit Go.Maps

theorem keep_facts {r t a : Int} (ht : Right t) (ha : Right a) (h0 : 0 ≤ r) (h1 : r ≤ 999) :
    wrap64 (1000 * a) = 1000 * a ∧ wrap64 ((1000 - r) * t) = (1000 - r) * t ∧ wrap64 ((1000 + r) * t) = (1000 + r) * t := by
  unfold Right at ht ha
  have p1 : 0 ≤ (1000 - r) * t := Int.mul_nonneg (by omega) ht.1
  have p2 : (1000 - r) * t ≤ 1000 * t := Int.mul_le_mul_of_nonneg_right (by omega) ht.1
  have p3 : 0 ≤ (1000 + r) * t := Int.mul_nonneg (by omega) ht.1
  have p4 : (1000 + r) * t ≤ 1999 * t := Int.mul_le_mul_of_nonneg_right (by omega) ht.1
  exact ⟨wrapS (by omega) (by omega), wrapS (by omega) (by omega), wrapS (by omega) (by omega)⟩

section
variable (w : World) (t : Int) (ao : Option Addr) (cap : Nat) (xs : List Int) (r : Int)
set_option maxRecDepth 100000 in
set_option maxHeartbeats 1000000 in
theorem rkeeps_any (h : HeldInt w ao xs) (hl : xs.length ≤ 140737488355328) :
    Calls Try.prog 15 #[.int .i64 t, .slice ao xs.length cap, .int .i64 r] w fun e w' => e = .returned (.bool (decide (KeepsAll t xs r))) ∧ w' = w := by
  have H := hid h
  have HI : Hid (KeepsAll t xs r ↔ Right t ∧ (∀ a ∈ xs, Right a) ∧ (0 ≤ r ∧ r ≤ 999) ∧ ∀ a ∈ xs, Keeps1 t a r) := keepsAll_iff
  have HT := hid (right_any w t)
  clear h
  obtain ⟨n, hn⟩ : ∃ n, n = xs.length := ⟨_, rfl⟩
  have HN := hid hn
  rw [← hn] at hl ⊢
  clear hn
  by_cases h0 : r < 0
  · rw [decide_eq_false (fun h => by have := (HI.out.1 h).2.2.1.1; omega)]
    go_enter Try.func15, Try.ntmps15
    go_wp2
    go_ret
    exact ⟨rfl, rfl⟩
  by_cases h1 : 999 < r
  · rw [decide_eq_false (fun h => by have := (HI.out.1 h).2.2.1.2; omega)]
    go_enter Try.func15, Try.ntmps15
    go_wp2
    go_ret
    exact ⟨rfl, rfl⟩
  have h0b : decide (r < 0) = false := by simp; omega
  have h1b : decide (999 < r) = false := by simp; omega
  by_cases ht : Right t
  · rw [decide_eq_true ht] at HT
    have HR := hid ht
    clear ht
    go_enter Try.func15, Try.ntmps15
    go_wp2_with fail
    refine HT.out.mono ?_
    rintro e w' ⟨rfl, rfl⟩
    go_wp2
    go_loop [7] (fun i => ∃ k : Nat, k ≤ n ∧ i = .int .i64 k ∧ Hid (∀ x ∈ xs.take k, Right x ∧ Keeps1 t x r)) (fun i => n - (intOf i).toNat)
    case atStart => exact ⟨0, by omega, rfl, fun x hx => (by simp at hx)⟩
    case round =>
      obtain ⟨k, hk, rfl, HA⟩ := hrel
      by_cases hlt : k < n
      · have hlt' : (k : Int) < (n : Int) := by omega
        have hkx : Hid (k < xs.length) := (HN.out ▸ hlt : k < xs.length)
        obtain ⟨b, off, rfl, hc⟩ := H.out.cellAt hkx.out
        have hcell := hc k hkx.out
        clear hc
        have HNX : Hid (Right (xs.getD k 0) ∧ Keeps1 t (xs.getD k 0) r → ∀ x ∈ xs.take (k + 1), Right x ∧ Keeps1 t x r) := (fun hh => take_succ_all hkx.out HA.out hh : Right (xs.getD k 0) ∧ Keeps1 t (xs.getD k 0) r → ∀ x ∈ xs.take (k + 1), Right x ∧ Keeps1 t x r)
        have HBD : Hid (¬ (Right (xs.getD k 0) ∧ Keeps1 t (xs.getD k 0) r) → ¬ KeepsAll t xs r) := (fun hh hka => hh ⟨(HI.out.1 hka).2.1 _ (getD_mem hkx.out), (HI.out.1 hka).2.2.2 _ (getD_mem hkx.out)⟩ : ¬ (Right (xs.getD k 0) ∧ Keeps1 t (xs.getD k 0) r) → ¬ KeepsAll t xs r)
        generalize xs.getD k 0 = X at *
        have HW := hid (right_any w' X)
        by_cases hr : Right X
        · rw [decide_eq_true hr] at HW
          have HF := hid (keep_facts HR.out hr (by omega : 0 ≤ r) (by omega))
          have HRX := hid hr
          clear hr
          by_cases g1 : wrap64 (1000 * X) < wrap64 ((1000 - r) * t)
          · go_wp2_with fail
            refine HW.out.mono ?_
            rintro e w' ⟨rfl, rfl⟩
            go_wp2
            go_ret
            exact ⟨ret_bool (decide_eq_false (HBD.out (fun hh => by
              have h5 := hh.2.1
              rw [HF.out.1, HF.out.2.1] at g1
              omega))).symm, rfl⟩
          · by_cases g2 : wrap64 ((1000 + r) * t) < wrap64 (1000 * X)
            · go_wp2_with fail
              refine HW.out.mono ?_
              rintro e w' ⟨rfl, rfl⟩
              go_wp2
              go_ret
              exact ⟨ret_bool (decide_eq_false (HBD.out (fun hh => by
                have h5 := hh.2.2
                rw [HF.out.1, HF.out.2.2] at g2
                omega))).symm, rfl⟩
            · have HK : Hid (Keeps1 t X r) := by
                rw [HF.out.1, HF.out.2.1] at g1
                rw [HF.out.1, HF.out.2.2] at g2
                exact ⟨by omega, by omega⟩
              go_wp2_with fail
              refine HW.out.mono ?_
              rintro e w' ⟨rfl, rfl⟩
              go_wp2
              go_round
              case rel => exact ⟨k + 1, by omega, by go_num, HNX.out ⟨HRX.out, HK.out⟩⟩
              case measure => simp [intOf]; omega
        · rw [decide_eq_false hr] at HW
          have HRX := hid hr
          clear hr
          go_wp2_with fail
          refine HW.out.mono ?_
          rintro e w' ⟨rfl, rfl⟩
          go_wp2
          go_ret
          exact ⟨ret_bool (decide_eq_false (HBD.out (fun hh => HRX.out hh.1))).symm, rfl⟩
      · have hlt' : ¬ (k : Int) < (n : Int) := by omega
        have hk' : Hid (k = xs.length) := (by have := HN.out; omega : k = xs.length)
        have HE : Hid (KeepsAll t xs r) := by
          have h5 := HA.out
          rw [hk'.out, List.take_length] at h5
          exact HI.out.2 ⟨HR.out, fun a ha => (h5 a ha).1, ⟨by omega, by omega⟩, fun a ha => (h5 a ha).2⟩
        go_wp2
        go_ret
        exact ⟨ret_bool (decide_eq_true HE.out).symm, rfl⟩
  · rw [decide_eq_false (fun h => ht (HI.out.1 h).1)]
    rw [decide_eq_false ht] at HT
    clear ht
    go_enter Try.func15, Try.ntmps15
    go_wp2_with fail
    refine HT.out.mono ?_
    rintro e w' ⟨rfl, rfl⟩
    go_wp2
    go_ret
    exact ⟨rfl, rfl⟩
end

set_option maxRecDepth 100000 in
set_option maxHeartbeats 1000000 in
theorem rkeepsC_any {w : World} {x nodes : Nat} {v : Value} {ts : List TickV} (h : RfAt w x v nodes ts) (hl : ts.length ≤ 4398046511104) (r : Int) :
    Calls Try.prog 21 #[.pointer (some ⟨x, 0, none⟩), .int .i64 r] w fun e w' => e = .returned (.bool (decide ((0 ≤ r ∧ r ≤ 999) ∧ ∀ t ∈ ts, KeepsAll t.time t.on r))) ∧ ∃ q, w' = w.drewN q := by
  obtain ⟨D, hD⟩ : ∃ D, D = decide ((0 ≤ r ∧ r ≤ 999) ∧ ∀ t ∈ ts, KeepsAll t.time t.on r) := ⟨_, rfl⟩
  rw [← hD]
  have HD := hid hD
  clear hD
  obtain ⟨eo, cap, rfl, hcl⟩ := h.form
  have H := hid h
  have HCL := hid hcl
  obtain ⟨n, hn⟩ : ∃ n, n = ts.length := ⟨_, rfl⟩
  rw [← hn] at hl
  have HN := hid hn
  have hc1 := h.blk.cell (i := 1) rfl
  rw [← hn] at hc1
  have HC1 := hid hc1
  clear h hcl hn hc1
  go_enter Try.func21, Try.ntmps21
  go_wp2
  go_loopg [5] n (fun gg i wr => ∃ j : Nat, j ≤ n ∧ n - j ≤ gg ∧ i = .int .i64 j ∧ Hid (∃ q, wr = w.drewN q) ∧ Hid (∀ t ∈ ts.take j, KeepsAll t.time t.on r))
  case atStart => exact ⟨0, by omega, by omega, rfl, ⟨0, rfl⟩, fun x hx => (by simp at hx)⟩
  case round =>
    obtain ⟨j, hj, hgg, rfl, HQ, HA⟩ := hrel
    have HFC : Hid (∀ p, wr.cell? p = w.cell? p) := by
      obtain ⟨q, hq⟩ := HQ.out
      intro p
      rw [hq]
      rfl
    have c1 := HC1.out
    rw [← HFC.out] at c1
    by_cases hlt : j < n
    · have hlt' : (j : Int) < (n : Int) := by omega
      have hjt : Hid (j < ts.length) := (HN.out ▸ hlt : j < ts.length)
      obtain ⟨g, rfl, hcells⟩ := HCL.out (by have := hjt.out; omega)
      obtain ⟨d0, d1⟩ := hcells j hjt.out
      rw [← HFC.out] at d0 d1
      clear hcells
      have HOK : Hid (TkOk wr nodes (ts[j]'hjt.out)) := by
        obtain ⟨q, hq⟩ := HQ.out
        exact (H.out.on _ (List.getElem_mem hjt.out)).keep (fun b cs hb _ => by rw [hq]; exact hb)
      have HM : Hid (ts[j]'hjt.out ∈ ts) := List.getElem_mem hjt.out
      have HTA : Hid (ts.take (j + 1) = ts.take j ++ [ts[j]'hjt.out]) := List.take_succ_eq_append_getElem hjt.out
      generalize ts[j]'hjt.out = X at *
      have HKP := hid (fun (q' : Nat) => rkeeps_any (wr.drewN q') X.time X.ao X.cap X.on r ⟨HOK.out.held.1, HOK.out.held.2⟩ (by have h5 := HOK.out.len; have h6 := H.out.few; omega))
      have HQ2 : Hid (∀ nq, ∃ q, wr.drewN nq = w.drewN q) := by
        obtain ⟨q, hq⟩ := HQ.out
        intro nq
        rw [hq]
        exact ⟨q + nq, drewN_add _ _ _⟩
      by_cases hkk : KeepsAll X.time X.on r
      · rw [decide_eq_true hkk] at HKP
        have HKK := hid hkk
        clear hkk
        go_upto_region 4 with fail
        go_quiet (first | (go_at_call 15; refine Calls.quiet_of_same (HKP.out _)))
        go_wp2_with fail
        go_roundg (n - (j + 1))
        case measure => omega
        case rel =>
          refine ⟨j + 1, by omega, by omega, by go_num, HQ2.out _, ?_⟩
          show ∀ t ∈ ts.take (j + 1), _
          rw [HTA.out]
          intro t ht
          rcases List.mem_append.1 ht with h1 | h1
          · exact HA.out t h1
          · simp at h1
            subst h1
            exact HKK.out
      · rw [decide_eq_false hkk] at HKP
        have HKK := hid hkk
        clear hkk
        go_upto_region 4 with fail
        go_quiet (first | (go_at_call 15; refine Calls.quiet_of_same (HKP.out _)))
        go_wp2
        go_ret
        exact ⟨ret_bool (by rw [HD.out]; exact (decide_eq_false (fun hh => HKK.out (hh.2 X HM.out))).symm), HQ2.out _⟩
    · have hlt' : ¬ (j : Int) < (n : Int) := by omega
      have hj' : Hid (j = ts.length) := (by have := HN.out; omega : j = ts.length)
      have HE : Hid (∀ t ∈ ts, KeepsAll t.time t.on r) := by
        have h5 := HA.out
        rw [hj'.out, List.take_length] at h5
        exact h5
      by_cases h0 : 0 ≤ r
      · by_cases h1 : r ≤ 999
        · go_wp2
          go_ret
          exact ⟨ret_bool (by rw [HD.out]; exact (decide_eq_true ⟨⟨h0, h1⟩, HE.out⟩).symm), HQ.out⟩
        · go_wp2
          go_ret
          exact ⟨ret_bool (by rw [HD.out]; exact (decide_eq_false (fun hh => by have := hh.1.2; omega)).symm), HQ.out⟩
      · go_wp2
        go_ret
        exact ⟨ret_bool (by rw [HD.out]; exact (decide_eq_false (fun hh => by have := hh.1.1; omega)).symm), HQ.out⟩
end Go.Proofs.Ytpbhboecpgdgaaa
