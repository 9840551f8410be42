/-
  Package lin: slices.IndexFunc, ContainsFunc over sights (at the closures of Check and of Ids) and over questions (at that of moments); some.
-/
import Derived.Test.YtfjmhfbmphdjiaaLnD
namespace Go.Proofs.Ytfjmhfbmphdjiaa
open Go.RowKit Go.Maps

set_option maxRecDepth 100000 in
theorem indexC_any (w : World) (lo : Option Addr) (lc : Nat) (xs : List Sn) (hx : HeldSn w lo xs) (hlx : xs.length ≤ 140737488355328) :
    Calls Try.prog 38 #[.slice lo xs.length lc, .func (.func 14) #[] #[]] w fun e w' => (∃ r : Int, e = .returned (.int .i64 r) ∧ Hid (decide (0 ≤ r) = xs.any (fun s => !mayS s))) ∧ Below w.heap.size w w' := by
  have H := hid hx
  have HCT : Hid (∀ V, Below w.heap.size w V → ∀ s, Calls Try.prog 14 #[s.val] V (SaysB V (!mayS s))) := fun V hV s => check1_any V s
  clear hx 
  obtain ⟨n, hn⟩ : ∃ n, n = xs.length := ⟨_, rfl⟩
  have HN := hid hn
  rw [← hn] at hlx ⊢
  clear hn
  obtain ⟨A, HA⟩ : ∃ A, Hid (xs.any (fun s => !mayS s) = A) := ⟨_, hid rfl⟩
  rw [HA.out]
  go_enter Try.func38, Try.ntmps38
  go_wp2
  go_loopw [5, 8] (fun _ i wr => ∃ k : Nat, k ≤ n ∧ i = .int .i64 k ∧ Hid ((∀ x ∈ xs.take k, (fun s => !mayS s) x = false) ∧ Below w.heap.size w wr)) (fun _ i _ => n - (intOf i).toNat)
  case atStart => exact ⟨0, by omega, rfl, fun x hx => (by simp at hx), Below.refl _ _⟩
  case round =>
    obtain ⟨k, hk, rfl, HR⟩ := hrel
    by_cases hlt : k < n
    · have hlt' : (k : Int) < (n : Int) := by omega
      have hkx : Hid (k < xs.length) := (HN.out ▸ hlt : k < xs.length)
      obtain ⟨b, off, hlo, _, g0, g1, g2, g3, g4⟩ := (H.out.below HR.out.2).at hkx.out
      have HKM : Hid (k + 1 ≤ n) := (by omega : k + 1 ≤ n)
      have HMX : Hid (xs[k]'hkx.out ∈ xs) := List.getElem_mem hkx.out
      have HC := hid (HCT.out wr HR.out.2 (xs[k]'hkx.out))
      have HTK : Hid (∀ x ∈ xs.take (k + 1), x ∈ xs.take k ∨ x = xs[k]'hkx.out) := fun x hx => by
        rw [List.take_succ_eq_append_getElem hkx.out] at hx
        rcases List.mem_append.1 hx with h | h
        · exact .inl h
        · exact .inr (List.mem_singleton.1 h)
      subst hlo
      obtain ⟨X, HX⟩ : ∃ X, Hid (xs[k]'hkx.out = X) := ⟨_, hid rfl⟩
      rw [HX.out] at g0 g1 g2 g3 g4 HC HMX HTK
      obtain ⟨r, HRR⟩ : ∃ r, Hid ((fun s => !mayS s) X = r) := ⟨_, hid rfl⟩
      have HRR2 := HRR
      simp only at HRR2
      rw [HRR2.out] at HC
      clear HRR2
      obtain ⟨co, tok, sb, se, id⟩ := X
      simp only [Sn.val] at g0 g1 g2 g3 g4 HC
      cases r with
      | false =>
        go_wp2_with fail
        refine HC.out.mono ?_
        rintro e w' ⟨rfl, hb⟩
        have HBB := hid (bt' HR.out.2 hb)
        clear hb
        go_wp2
        go_roundw
        case rel => exact ⟨k + 1, HKM.out, by go_num, fun x hx => by
          rcases HTK.out x hx with h | h
          · exact HR.out.1 x h
          · rw [h]; exact HRR.out, HBB.out⟩
        case measure => simp [intOf]; have := HKM.out; omega
      | true =>
        go_wp2_with fail
        refine HC.out.mono ?_
        rintro e w' ⟨rfl, hb⟩
        have HBB := hid (bt' HR.out.2 hb)
        have HAT : Hid (A = true) := by
          rw [← HA.out]
          exact List.any_eq_true.2 ⟨_, HMX.out, HRR.out⟩
        clear hb
        go_wp2
        go_ret
        refine ⟨⟨_, rfl, ?_⟩, HBB.out⟩
        rw [HAT.out]
        show decide _ = _
        simp
    · have hlt' : ¬ (k : Int) < (n : Int) := by omega
      have HAF : Hid (A = false) := by
        rw [← HA.out]
        have hk' : k = xs.length := by have := HN.out; omega
        have := HR.out.1
        rw [hk', List.take_length] at this
        exact List.any_eq_false.2 (fun x hx => by simp only [this x hx]; simp)
      go_wp2
      go_ret
      refine ⟨⟨_, rfl, ?_⟩, HR.out.2⟩
      rw [HAF.out]
      show decide _ = _
      simp
theorem containsC_any (w : World) (lo : Option Addr) (lc : Nat) (xs : List Sn) (hx : HeldSn w lo xs) (hlx : xs.length ≤ 140737488355328) :
    Calls Try.prog 32 #[.slice lo xs.length lc, .func (.func 14) #[] #[]] w (SaysB w (xs.any (fun s => !mayS s))) := by
  have H := hid (indexC_any w lo lc xs hx hlx)
  clear hx hlx 
  generalize xs.any (fun s => !mayS s) = A at *
  go_enter Try.func32, Try.ntmps32
  go_wp2_with fail
  refine H.out.mono ?_
  rintro e w' ⟨⟨r, rfl, hr⟩, hb⟩
  have HB := hid hb
  clear hb
  go_wp2
  go_ret
  exact ⟨ret_bool hr.out, HB.out⟩
theorem someC_any (w : World) (lo : Option Addr) (lc : Nat) (xs : List Sn) (hx : HeldSn w lo xs) (hlx : xs.length ≤ 140737488355328) :
    Calls Try.prog 13 #[.slice lo xs.length lc, .func (.func 14) #[] #[]] w (SaysB w (xs.any (fun s => !mayS s))) := by
  have H := hid (containsC_any w lo lc xs hx hlx)
  clear hx hlx 
  generalize xs.any (fun s => !mayS s) = A at *
  go_enter Try.func13, Try.ntmps13
  go_wp2_with fail
  refine H.out.mono ?_
  rintro e w' ⟨rfl, hb⟩
  have HB := hid hb
  clear hb
  go_wp2
  go_ret
  exact ⟨rfl, HB.out⟩

set_option maxRecDepth 100000 in
theorem indexI_any (w : World) (lo : Option Addr) (lc : Nat) (xs : List Sn) (hx : HeldSn w lo xs) (hlx : xs.length ≤ 140737488355328) (p : Nat) (ao : Option Addr) (cap : Nat) (ts : List ByteArray) (hp : Blk w p 23 [.slice ao ts.length cap]) (h : HeldStr w ao ts) (hl : ts.length ≤ 140737488355328) :
    Calls Try.prog 38 #[.slice lo xs.length lc, .func (.func 30) #[] #[.pointer (some ⟨p, 0, none⟩)]] w fun e w' => (∃ r : Int, e = .returned (.int .i64 r) ∧ Hid (decide (0 ≤ r) = xs.any (fun s => wrongS ts s))) ∧ Below w.heap.size w w' := by
  have H := hid hx
  have HCT : Hid (∀ V, Below w.heap.size w V → ∀ s, Calls Try.prog 30 #[s.val, .pointer (some ⟨p, 0, none⟩)] V (SaysB V (wrongS ts s))) := fun V hV s => ids1_any V s p ao cap ts (hp.below hV hp.lt) (h.below hV) hl
  clear hx hp h hl
  obtain ⟨n, hn⟩ : ∃ n, n = xs.length := ⟨_, rfl⟩
  have HN := hid hn
  rw [← hn] at hlx ⊢
  clear hn
  obtain ⟨A, HA⟩ : ∃ A, Hid (xs.any (fun s => wrongS ts s) = A) := ⟨_, hid rfl⟩
  rw [HA.out]
  go_enter Try.func38, Try.ntmps38
  go_wp2
  go_loopw [5, 8] (fun _ i wr => ∃ k : Nat, k ≤ n ∧ i = .int .i64 k ∧ Hid ((∀ x ∈ xs.take k, (fun s => wrongS ts s) x = false) ∧ Below w.heap.size w wr)) (fun _ i _ => n - (intOf i).toNat)
  case atStart => exact ⟨0, by omega, rfl, fun x hx => (by simp at hx), Below.refl _ _⟩
  case round =>
    obtain ⟨k, hk, rfl, HR⟩ := hrel
    by_cases hlt : k < n
    · have hlt' : (k : Int) < (n : Int) := by omega
      have hkx : Hid (k < xs.length) := (HN.out ▸ hlt : k < xs.length)
      obtain ⟨b, off, hlo, _, g0, g1, g2, g3, g4⟩ := (H.out.below HR.out.2).at hkx.out
      have HKM : Hid (k + 1 ≤ n) := (by omega : k + 1 ≤ n)
      have HMX : Hid (xs[k]'hkx.out ∈ xs) := List.getElem_mem hkx.out
      have HC := hid (HCT.out wr HR.out.2 (xs[k]'hkx.out))
      have HTK : Hid (∀ x ∈ xs.take (k + 1), x ∈ xs.take k ∨ x = xs[k]'hkx.out) := fun x hx => by
        rw [List.take_succ_eq_append_getElem hkx.out] at hx
        rcases List.mem_append.1 hx with h | h
        · exact .inl h
        · exact .inr (List.mem_singleton.1 h)
      subst hlo
      obtain ⟨X, HX⟩ : ∃ X, Hid (xs[k]'hkx.out = X) := ⟨_, hid rfl⟩
      rw [HX.out] at g0 g1 g2 g3 g4 HC HMX HTK
      obtain ⟨r, HRR⟩ : ∃ r, Hid ((fun s => wrongS ts s) X = r) := ⟨_, hid rfl⟩
      have HRR2 := HRR
      simp only at HRR2
      rw [HRR2.out] at HC
      clear HRR2
      obtain ⟨co, tok, sb, se, id⟩ := X
      simp only [Sn.val] at g0 g1 g2 g3 g4 HC
      cases r with
      | false =>
        go_wp2_with fail
        refine HC.out.mono ?_
        rintro e w' ⟨rfl, hb⟩
        have HBB := hid (bt' HR.out.2 hb)
        clear hb
        go_wp2
        go_roundw
        case rel => exact ⟨k + 1, HKM.out, by go_num, fun x hx => by
          rcases HTK.out x hx with h | h
          · exact HR.out.1 x h
          · rw [h]; exact HRR.out, HBB.out⟩
        case measure => simp [intOf]; have := HKM.out; omega
      | true =>
        go_wp2_with fail
        refine HC.out.mono ?_
        rintro e w' ⟨rfl, hb⟩
        have HBB := hid (bt' HR.out.2 hb)
        have HAT : Hid (A = true) := by
          rw [← HA.out]
          exact List.any_eq_true.2 ⟨_, HMX.out, HRR.out⟩
        clear hb
        go_wp2
        go_ret
        refine ⟨⟨_, rfl, ?_⟩, HBB.out⟩
        rw [HAT.out]
        show decide _ = _
        simp
    · have hlt' : ¬ (k : Int) < (n : Int) := by omega
      have HAF : Hid (A = false) := by
        rw [← HA.out]
        have hk' : k = xs.length := by have := HN.out; omega
        have := HR.out.1
        rw [hk', List.take_length] at this
        exact List.any_eq_false.2 (fun x hx => by simp only [this x hx]; simp)
      go_wp2
      go_ret
      refine ⟨⟨_, rfl, ?_⟩, HR.out.2⟩
      rw [HAF.out]
      show decide _ = _
      simp
theorem containsI_any (w : World) (lo : Option Addr) (lc : Nat) (xs : List Sn) (hx : HeldSn w lo xs) (hlx : xs.length ≤ 140737488355328) (p : Nat) (ao : Option Addr) (cap : Nat) (ts : List ByteArray) (hp : Blk w p 23 [.slice ao ts.length cap]) (h : HeldStr w ao ts) (hl : ts.length ≤ 140737488355328) :
    Calls Try.prog 32 #[.slice lo xs.length lc, .func (.func 30) #[] #[.pointer (some ⟨p, 0, none⟩)]] w (SaysB w (xs.any (fun s => wrongS ts s))) := by
  have H := hid (indexI_any w lo lc xs hx hlx p ao cap ts hp h hl)
  clear hx hlx hp h hl
  generalize xs.any (fun s => wrongS ts s) = A at *
  go_enter Try.func32, Try.ntmps32
  go_wp2_with fail
  refine H.out.mono ?_
  rintro e w' ⟨⟨r, rfl, hr⟩, hb⟩
  have HB := hid hb
  clear hb
  go_wp2
  go_ret
  exact ⟨ret_bool hr.out, HB.out⟩
theorem someI_any (w : World) (lo : Option Addr) (lc : Nat) (xs : List Sn) (hx : HeldSn w lo xs) (hlx : xs.length ≤ 140737488355328) (p : Nat) (ao : Option Addr) (cap : Nat) (ts : List ByteArray) (hp : Blk w p 23 [.slice ao ts.length cap]) (h : HeldStr w ao ts) (hl : ts.length ≤ 140737488355328) :
    Calls Try.prog 13 #[.slice lo xs.length lc, .func (.func 30) #[] #[.pointer (some ⟨p, 0, none⟩)]] w (SaysB w (xs.any (fun s => wrongS ts s))) := by
  have H := hid (containsI_any w lo lc xs hx hlx p ao cap ts hp h hl)
  clear hx hlx hp h hl
  generalize xs.any (fun s => wrongS ts s) = A at *
  go_enter Try.func13, Try.ntmps13
  go_wp2_with fail
  refine H.out.mono ?_
  rintro e w' ⟨rfl, hb⟩
  have HB := hid hb
  clear hb
  go_wp2
  go_ret
  exact ⟨rfl, HB.out⟩

/-- Questions in a block of their own. -/
structure HeldQ (w : World) (g : Nat) (qs : List Qf) : Prop where
  blk : Blk w g 38 (qs.map Qf.val)
  ins : ∀ q ∈ qs, q.In w
theorem HeldQ.below {w w' : World} {g : Nat} {qs : List Qf} (h : HeldQ w g qs) (hb : Below w.heap.size w w') : HeldQ w' g qs := ⟨h.blk.below hb h.blk.lt, fun q hq => (h.ins q hq).below hb⟩
set_option maxRecDepth 100000 in
theorem indexQ_any (w : World) (g cap : Nat) (qs : List Qf) (hq : HeldQ w g qs) (hlq : qs.length ≤ 100) (s : Sn) (p : Nat) (hp : Blk w p 31 s.cells) :
    Calls Try.prog 39 #[.slice (some ⟨g, 0, none⟩) qs.length cap, .func (.func 35) #[] #[.pointer (some ⟨p, 0, none⟩)]] w fun e w' => (∃ r : Int, e = .returned (.int .i64 r) ∧ Hid (decide (0 ≤ r) = qs.any (fun q => !q.sem s))) ∧ Below w.heap.size w w' := by
  have H := hid hq
  have HCT : Hid (∀ V, Below w.heap.size w V → ∀ q ∈ qs, Calls Try.prog 35 #[q.val, .pointer (some ⟨p, 0, none⟩)] V (SaysB V (!q.sem s))) := fun V hV q hqm => moments1_any V q ((hq.ins q hqm).below hV) s p (hp.below hV hp.lt)
  clear hq hp
  obtain ⟨n, hn⟩ : ∃ n, n = qs.length := ⟨_, rfl⟩
  have HN := hid hn
  rw [← hn] at hlq ⊢
  clear hn
  obtain ⟨A, HA⟩ : ∃ A, Hid (qs.any (fun q => !q.sem s) = A) := ⟨_, hid rfl⟩
  rw [HA.out]
  go_enter Try.func39, Try.ntmps39
  go_wp2
  go_loopw [5, 8] (fun _ i wr => ∃ k : Nat, k ≤ n ∧ i = .int .i64 k ∧ Hid ((∀ x ∈ qs.take k, (!x.sem s) = false) ∧ Below w.heap.size w wr)) (fun _ i _ => n - (intOf i).toNat)
  case atStart => exact ⟨0, by omega, rfl, fun x hx => (by simp at hx), Below.refl _ _⟩
  case round =>
    obtain ⟨k, hk, rfl, HR⟩ := hrel
    by_cases hlt : k < n
    · have hlt' : (k : Int) < (n : Int) := by omega
      have hkx : Hid (k < qs.length) := (HN.out ▸ hlt : k < qs.length)
      have g0 := (H.out.below HR.out.2).blk.cell (i := k) (v := (qs[k]'hkx.out).val) (by simp [List.getElem?_eq_getElem hkx.out])
      have HKM : Hid (k + 1 ≤ n) := (by omega : k + 1 ≤ n)
      have HMX : Hid (qs[k]'hkx.out ∈ qs) := List.getElem_mem hkx.out
      have HC := hid (HCT.out wr HR.out.2 (qs[k]'hkx.out) HMX.out)
      have HTK : Hid (∀ x ∈ qs.take (k + 1), x ∈ qs.take k ∨ x = qs[k]'hkx.out) := fun x hx => by
        rw [List.take_succ_eq_append_getElem hkx.out] at hx
        rcases List.mem_append.1 hx with h | h
        · exact .inl h
        · exact .inr (List.mem_singleton.1 h)
      obtain ⟨X, HX⟩ : ∃ X, Hid (qs[k]'hkx.out = X) := ⟨_, hid rfl⟩
      rw [HX.out] at g0 HC HMX HTK
      obtain ⟨r, HRR⟩ : ∃ r, Hid ((!X.sem s) = r) := ⟨_, hid rfl⟩
      rw [HRR.out] at HC
      obtain ⟨V, HV⟩ : ∃ V, Hid (X.val = V) := ⟨_, hid rfl⟩
      rw [HV.out] at g0 HC
      cases r with
      | false =>
        go_wp2_with fail
        refine HC.out.mono ?_
        rintro e w' ⟨rfl, hb⟩
        have HBB := hid (bt' HR.out.2 hb)
        clear hb
        go_wp2
        go_roundw
        case rel => exact ⟨k + 1, HKM.out, by go_num, fun x hx => by
          rcases HTK.out x hx with h | h
          · exact HR.out.1 x h
          · rw [h]; exact HRR.out, HBB.out⟩
        case measure => simp [intOf]; have := HKM.out; omega
      | true =>
        go_wp2_with fail
        refine HC.out.mono ?_
        rintro e w' ⟨rfl, hb⟩
        have HBB := hid (bt' HR.out.2 hb)
        have HAT : Hid (A = true) := by
          rw [← HA.out]
          exact List.any_eq_true.2 ⟨_, HMX.out, HRR.out⟩
        clear hb
        go_wp2
        go_ret
        refine ⟨⟨_, rfl, ?_⟩, HBB.out⟩
        rw [HAT.out]
        show decide _ = _
        simp
    · have hlt' : ¬ (k : Int) < (n : Int) := by omega
      have HAF : Hid (A = false) := by
        rw [← HA.out]
        have hk' : k = qs.length := by have := HN.out; omega
        have := HR.out.1
        rw [hk', List.take_length] at this
        exact List.any_eq_false.2 (fun x hx => by simp only [this x hx]; simp)
      go_wp2
      go_ret
      refine ⟨⟨_, rfl, ?_⟩, HR.out.2⟩
      rw [HAF.out]
      show decide _ = _
      simp
theorem containsQ_any (w : World) (g cap : Nat) (qs : List Qf) (hq : HeldQ w g qs) (hlq : qs.length ≤ 100) (s : Sn) (p : Nat) (hp : Blk w p 31 s.cells) :
    Calls Try.prog 34 #[.slice (some ⟨g, 0, none⟩) qs.length cap, .func (.func 35) #[] #[.pointer (some ⟨p, 0, none⟩)]] w (SaysB w (qs.any (fun q => !q.sem s))) := by
  have H := hid (indexQ_any w g cap qs hq hlq s p hp)
  clear hq hlq hp
  generalize qs.any (fun q => !q.sem s) = A at *
  go_enter Try.func34, Try.ntmps34
  go_wp2_with fail
  refine H.out.mono ?_
  rintro e w' ⟨⟨r, rfl, hr⟩, hb⟩
  have HB := hid hb
  clear hb
  go_wp2
  go_ret
  exact ⟨ret_bool hr.out, HB.out⟩
end Go.Proofs.Ytfjmhfbmphdjiaa
