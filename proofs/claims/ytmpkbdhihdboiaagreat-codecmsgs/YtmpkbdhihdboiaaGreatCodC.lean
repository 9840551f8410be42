/-
  Package codec: lists of votes and of events: whether they may be.
-/
import Derived.Test.YtmpkbdhihdboiaaGreatCodB
namespace Go.Proofs.YtmpkbdhihdboiaaGreat
open Go.RowKit Go.Maps

theorem HeldVo.at8 {w : World} {ao : Option Addr} {xs : List VoM} (h : HeldVo w ao xs) {j : Nat} (hj : j < xs.length) : ∃ b off, ao = some ⟨b, off, none⟩ ∧ b < w.heap.size ∧ w.cell? ⟨b, off + j * 8, none⟩ = some (.int .i64 xs[j].slot) ∧ w.cell? ⟨b, off + j * 8 + 1, none⟩ = some (.int .i64 xs[j].bal.1) ∧ w.cell? ⟨b, off + j * 8 + 2, none⟩ = some (.int .i64 xs[j].bal.2) ∧
    w.cell? ⟨b, off + j * 8 + 3, none⟩ = some (.bool xs[j].en.e.noop) ∧ w.cell? ⟨b, off + j * 8 + 4, none⟩ = some (.string xs[j].en.e.tok) ∧ w.cell? ⟨b, off + j * 8 + 5, none⟩ = some (.string xs[j].en.e.cart) ∧ w.cell? ⟨b, off + j * 8 + 6, none⟩ = some (.int .i64 xs[j].en.e.ep) ∧
    w.cell? ⟨b, off + j * 8 + 7, none⟩ = some (.slice xs[j].en.ao xs[j].en.e.cut.length xs[j].en.cap) := by
  obtain ⟨b, off, h1, h2, h3⟩ := h.at hj
  exact ⟨b, off, h1, h2, h3 0 _ rfl, h3 1 _ rfl, h3 2 _ rfl, h3 3 _ rfl, h3 4 _ rfl, h3 5 _ rfl, h3 6 _ rfl, h3 7 _ rfl⟩
set_option maxRecDepth 100000 in
set_option maxHeartbeats 1000000 in
theorem every_VoC (w : World) (ao : Option Addr) (cap : Nat) (v : List VoM) (n : Nat) (hn : v.length = n) (h : HeldVo w ao v) (hl : n ≤ 1466015503701) :
    Calls Tryz.prog 67 #[.slice ao n cap, .func (.func 28) #[] #[]] w fun e w' => e = .returned (.bool (v.all fun x => RightVo x)) ∧ Below w.heap.size w w' := by
  have HN := hid hn
  have H := hid h
  clear hn h
  go_enter Tryz.func67, Tryz.ntmps67
  go_wp2
  go_loopw [6, 9] (fun _ x wz => ∃ k : Nat, k ≤ n ∧ x = .int .i64 k ∧ Hid ((∀ a (ha : a < v.length), a < k → (fun x => RightVo x) v[a] = true) ∧ Below w.heap.size w wz)) (fun _ x _ => n - (intOf x).toNat)
  case atStart => exact ⟨0, Nat.zero_le _, rfl, fun a _ ha => absurd ha (Nat.not_lt_zero _), Below.refl _ _⟩
  case round =>
    obtain ⟨k, hk, rfl, HA⟩ := hrel
    by_cases hlt : k < n
    · have hlt' : (k : Int) < (n : Int) := by omega
      have hkx : Hid (k < v.length) := (by rw [HN.out]; exact hlt : k < v.length)
      have HKM : Hid (k + 1 ≤ n) := (by omega : k + 1 ≤ n)
      have HH := hid (H.out.below HA.out.2)
      obtain ⟨b, off, hao, hb, c0, c1, c2, c3, c4, c5, c6, c7⟩ := HH.out.at8 hkx.out
      subst hao
      have HOX := hid (HH.out.1 _ (List.getElem_mem hkx.out))
      obtain ⟨X, HX⟩ : ∃ X, Hid (v[k]'hkx.out = X) := ⟨_, hid rfl⟩
      rw [HX.out] at c0 c1 c2 c3 c4 c5 c6 c7 HOX
      obtain ⟨r, HR⟩ : ∃ r, Hid ((fun x : VoM => RightVo x) X = r) := ⟨_, hid rfl⟩
      obtain ⟨W2, hW2⟩ : ∃ W, W = wr.alloc (.cells X.cells.toArray 63) := ⟨_, rfl⟩
      have HB2 : Hid (Below wr.heap.size wr W2) := by rw [hW2]; exact (Below.refl _ _).alloc (Nat.le_refl _) _
      have HM := hid (mayVoted_C W2 X (HOX.out.below HB2.out))
      have HR' : Hid (RightVo X = r) := HR.out
      rw [HR'.out] at HM
      have HBW : Hid (Below w.heap.size w W2) := bt' HA.out.2 HB2.out
      obtain ⟨sl, ⟨b1, b2⟩, ⟨np, tk, ct, ep, cut⟩, ao1, cap1⟩ := X
      obtain ⟨XN, HXN⟩ : ∃ m, Hid (cut.length = m) := ⟨_, hid rfl⟩
      simp only [VoM.val] at c0 c1 c2 c3 c4 c5 c6 c7 HM
      simp only [VoM.cells] at hW2
      rw [HXN.out] at c7 HM hW2
      have HW2 : Hid (W2 = wr.alloc (.cells #[.int .i64 sl, .int .i64 b1, .int .i64 b2, .bool np, .string tk, .string ct, .int .i64 ep, .slice ao1 XN cap1] 63)) := hW2
      clear hW2 HOX
      go_wp2_with fail
      rw [← HW2.out]
      refine HM.out.mono ?_
      rintro e w' ⟨rfl, hb'⟩
      have HBX := hid (bt' HBW.out hb')
      clear hb' HM c0 c1 c2 c3 c4 c5 c6 c7
      cases r with
      | true =>
        go_wp2
        go_roundw
        case rel =>
          refine ⟨k + 1, HKM.out, by go_num, fun a hav hak => ?_, HBX.out⟩
          by_cases e : a = k
          · subst e
            rw [HX.out]
            exact HR.out
          · exact HA.out.1 a hav (by omega)
        case measure => simp [intOf]; have := HKM.out; omega
      | false =>
        have HV0 : Hid ((v.all fun x => RightVo x) = false) := by
          show _ = _
          rw [List.all_eq_false]
          exact ⟨_, List.getElem_mem hkx.out, by rw [HX.out, HR'.out]; decide⟩
        go_wp2
        go_ret
        exact ⟨by rw [HV0.out]; rfl, HBX.out⟩
    · have hlt' : ¬ (k : Int) < (n : Int) := by omega
      have HIN : Hid ((v.all fun x => RightVo x) = true) := by
        show _ = _
        rw [List.all_eq_true]
        intro x hx
        obtain ⟨a, ha, rfl⟩ := List.mem_iff_getElem.1 hx
        exact HA.out.1 a ha (by have := HN.out; omega)
      have HBX := hid HA.out.2
      go_wp2
      go_ret
      exact ⟨by rw [HIN.out]; rfl, HBX.out⟩
theorem mayList_VoC (w : World) (ao : Option Addr) (cap : Nat) (v : List VoM) (n : Nat) (hn : v.length = n) (h : HeldVo w ao v) (hl : n ≤ 1466015503701) :
    Calls Tryz.prog 27 #[.slice ao n cap, .int .i64 4096, .func (.func 28) #[] #[]] w fun e w' => e = .returned (.bool (decide (n ≤ 4096) && (v.all fun x => RightVo x))) ∧ Below w.heap.size w w' := by
  have H := hid (every_VoC w ao cap v n hn h hl)
  clear hn h
  obtain ⟨r, HR⟩ : ∃ r, Hid ((v.all fun x => RightVo x) = r) := ⟨_, hid rfl⟩
  rw [HR.out] at H ⊢
  by_cases h7 : n ≤ 4096
  · have h7' : (n : Int) ≤ 4096 := by omega
    rw [decide_eq_true h7, Bool.true_and]
    clear h7
    go_enter Tryz.func27, Tryz.ntmps27
    go_wp2_with fail
    refine H.out.mono ?_
    rintro e w' ⟨rfl, hb⟩
    have HB := hid hb
    clear hb
    go_wp2
    go_ret
    exact ⟨rfl, HB.out⟩
  · have h7' : ¬ (n : Int) ≤ 4096 := by omega
    rw [decide_eq_false h7, Bool.false_and]
    clear h7
    go_enter Tryz.func27, Tryz.ntmps27
    go_wp2
    go_ret
    exact ⟨rfl, Below.refl _ _⟩
set_option maxRecDepth 100000 in
set_option maxHeartbeats 1000000 in
theorem every_EvC (w : World) (ao : Option Addr) (cap : Nat) (v : List EvM) (n : Nat) (hn : v.length = n) (h : HeldE w ao v) (hl : n ≤ 1466015503701) :
    Calls Tryz.prog 71 #[.slice ao n cap, .func (.func 31) #[] #[]] w fun e w' => e = .returned (.bool (v.all fun x => RightEvC x.e)) ∧ Below w.heap.size w w' := by
  have HN := hid hn
  have H := hid h
  clear hn h
  go_enter Tryz.func71, Tryz.ntmps71
  go_wp2
  go_loopw [6, 9] (fun _ x wz => ∃ k : Nat, k ≤ n ∧ x = .int .i64 k ∧ Hid ((∀ a (ha : a < v.length), a < k → (fun x => RightEvC x.e) v[a] = true) ∧ Below w.heap.size w wz)) (fun _ x _ => n - (intOf x).toNat)
  case atStart => exact ⟨0, Nat.zero_le _, rfl, fun a _ ha => absurd ha (Nat.not_lt_zero _), Below.refl _ _⟩
  case round =>
    obtain ⟨k, hk, rfl, HA⟩ := hrel
    by_cases hlt : k < n
    · have hlt' : (k : Int) < (n : Int) := by omega
      have hkx : Hid (k < v.length) := (by rw [HN.out]; exact hlt : k < v.length)
      have HKM : Hid (k + 1 ≤ n) := (by omega : k + 1 ≤ n)
      have HH := hid (H.out.below HA.out.2)
      obtain ⟨b, off, hao, hb, c0, c1, c2, c3, c4, c5, c6, c7⟩ := HH.out.at hkx.out
      subst hao
      have HOX := hid (HH.out.1 _ (List.getElem_mem hkx.out))
      obtain ⟨X, HX⟩ : ∃ X, Hid (v[k]'hkx.out = X) := ⟨_, hid rfl⟩
      rw [HX.out] at c0 c1 c2 c3 c4 c5 c6 c7 HOX
      obtain ⟨r, HR⟩ : ∃ r, Hid ((fun x : EvM => RightEvC x.e) X = r) := ⟨_, hid rfl⟩
      obtain ⟨W2, hW2⟩ : ∃ W, W = wr.alloc (.cells X.cells.toArray 70) := ⟨_, rfl⟩
      have HB2 : Hid (Below wr.heap.size wr W2) := by rw [hW2]; exact (Below.refl _ _).alloc (Nat.le_refl _) _
      have HM := hid (mayEvent_C W2 X (HOX.out.below HB2.out))
      have HR' : Hid (RightEvC X.e = r) := HR.out
      rw [HR'.out] at HM
      have HBW : Hid (Below w.heap.size w W2) := bt' HA.out.2 HB2.out
      obtain ⟨⟨o, s, dp, ct, ep, sk, qt, cl⟩, ao1, cap1⟩ := X
      obtain ⟨XN, HXN⟩ : ∃ m, Hid (dp.length = m) := ⟨_, hid rfl⟩
      simp only [EvM.val] at c0 c1 c2 c3 c4 c5 c6 c7 HM
      simp only [EvM.cells] at hW2
      rw [HXN.out] at c2 HM hW2
      have HW2 : Hid (W2 = wr.alloc (.cells #[.int .i64 o, .int .i64 s, .slice ao1 XN cap1, .string ct, .int .i64 ep, .string sk, .int .i64 qt, .bool cl] 70)) := hW2
      clear hW2 HOX
      go_wp2_with fail
      rw [← HW2.out]
      refine HM.out.mono ?_
      rintro e w' ⟨rfl, hb'⟩
      have HBX := hid (bt' HBW.out hb')
      clear hb' HM c0 c1 c2 c3 c4 c5 c6 c7
      cases r with
      | true =>
        go_wp2
        go_roundw
        case rel =>
          refine ⟨k + 1, HKM.out, by go_num, fun a hav hak => ?_, HBX.out⟩
          by_cases e : a = k
          · subst e
            rw [HX.out]
            exact HR.out
          · exact HA.out.1 a hav (by omega)
        case measure => simp [intOf]; have := HKM.out; omega
      | false =>
        have HV0 : Hid ((v.all fun x => RightEvC x.e) = false) := by
          show _ = _
          rw [List.all_eq_false]
          exact ⟨_, List.getElem_mem hkx.out, by rw [HX.out, HR'.out]; decide⟩
        go_wp2
        go_ret
        exact ⟨by rw [HV0.out]; rfl, HBX.out⟩
    · have hlt' : ¬ (k : Int) < (n : Int) := by omega
      have HIN : Hid ((v.all fun x => RightEvC x.e) = true) := by
        show _ = _
        rw [List.all_eq_true]
        intro x hx
        obtain ⟨a, ha, rfl⟩ := List.mem_iff_getElem.1 hx
        exact HA.out.1 a ha (by have := HN.out; omega)
      have HBX := hid HA.out.2
      go_wp2
      go_ret
      exact ⟨by rw [HIN.out]; rfl, HBX.out⟩
theorem mayList_EvC (w : World) (ao : Option Addr) (cap : Nat) (v : List EvM) (n : Nat) (hn : v.length = n) (h : HeldE w ao v) (hl : n ≤ 1466015503701) :
    Calls Tryz.prog 30 #[.slice ao n cap, .int .i64 4096, .func (.func 31) #[] #[]] w fun e w' => e = .returned (.bool (decide (n ≤ 4096) && (v.all fun x => RightEvC x.e))) ∧ Below w.heap.size w w' := by
  have H := hid (every_EvC w ao cap v n hn h hl)
  clear hn h
  obtain ⟨r, HR⟩ : ∃ r, Hid ((v.all fun x => RightEvC x.e) = r) := ⟨_, hid rfl⟩
  rw [HR.out] at H ⊢
  by_cases h7 : n ≤ 4096
  · have h7' : (n : Int) ≤ 4096 := by omega
    rw [decide_eq_true h7, Bool.true_and]
    clear h7
    go_enter Tryz.func30, Tryz.ntmps30
    go_wp2_with fail
    refine H.out.mono ?_
    rintro e w' ⟨rfl, hb⟩
    have HB := hid hb
    clear hb
    go_wp2
    go_ret
    exact ⟨rfl, HB.out⟩
  · have h7' : ¬ (n : Int) ≤ 4096 := by omega
    rw [decide_eq_false h7, Bool.false_and]
    clear h7
    go_enter Tryz.func30, Tryz.ntmps30
    go_wp2
    go_ret
    exact ⟨rfl, Below.refl _ _⟩
end Go.Proofs.YtmpkbdhihdboiaaGreat
