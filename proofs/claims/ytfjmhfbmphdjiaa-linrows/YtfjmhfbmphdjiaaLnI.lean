/-
  Package lin: twice, Ids.
-/
import Derived.Test.YtfjmhfbmphdjiaaLnH
import Derived.Sort.MapsRangeIn
namespace Go.Proofs.Ytfjmhfbmphdjiaa
open Go.RowKit Go.Maps

theorem tidyS {w : World} {m n : Nat} {D : DataW Value} (h : w.ownsMap Try.prog 9 valR m n D) : Tidy D := by
  obtain ⟨es, e, hp, _⟩ := h.entries Try.keyedStr
  exact ⟨es, e, hp⟩
/-- A map of counts of ts. -/
structure CntMap (w : World) (m N : Nat) (D : DataW Value) (ts : List ByteArray) : Prop where
  map : w.ownsMap Try.prog 9 valR m N D
  has : ∀ t, (look D (key t)).isSome = true ↔ t ∈ ts
  num : ∀ t v, look D (key t) = some v → ∃ c : Nat, v = .int .i64 (c : Int) ∧ c ≤ ts.length
  few : Maps.size D ≤ ts.length
  all : Maps.size D = ts.length ↔ ts.Nodup
section
variable {w : World} {m N : Nat} {D : DataW Value} {ts : List ByteArray}
theorem CntMap.new (w : World) : CntMap (w.alloc (.map #[] 0)) w.heap.size 0 (.map []) [] :=
  ⟨World.ownsMap_made w _ _ _, fun t => (by rw [look_empty]; simp), fun t v hv => (by rw [look_empty] at hv; cases hv), Nat.le_refl _, by simp [Maps.size]⟩
theorem Try.zeroIntT (w : World) : (zeroValue 3).run Try.prog w = .ok (.int .i64 0) w := by kernel_rfl
theorem CntMap.lookup (h : CntMap w m N D ts) {t : ByteArray} (ht : t.size ≤ maxLen) : ∃ c : Nat, c ≤ ts.length ∧ (Instr.lookup 49 (.map (some m)) (.string t) false).run Try.prog w = .ok (.int .i64 (c : Int)) w := by
  have := run_look h.map Try.keyedStr Try.underlying49 (Try.zeroIntT w) (Try.keyStr ht)
  cases hl : look D (key t) with
  | none =>
    rw [hl] at this
    exact ⟨0, Nat.zero_le _, this⟩
  | some v =>
    obtain ⟨c, rfl, hc⟩ := h.num t v hl
    rw [hl] at this
    exact ⟨c, hc, this⟩
theorem nodup_snoc {α : Type} {ts : List α} {t : α} : (ts ++ [t]).Nodup ↔ ts.Nodup ∧ t ∉ ts := by
  rw [List.nodup_append]
  constructor
  · rintro ⟨h1, _, h3⟩
    exact ⟨h1, fun h => h3 t h t (by simp) rfl⟩
  · rintro ⟨h1, h2⟩
    refine ⟨h1, by simp, fun a ha b hb e => ?_⟩
    rw [List.mem_singleton.1 hb] at e
    exact h2 (e ▸ ha)
theorem CntMap.put (h : CntMap w m N D ts) (hN : N < maxLen) {t : ByteArray} (ht : t.size ≤ maxLen) (c : Nat) (hc : c ≤ ts.length + 1) :
    ∃ w', (Instr.mapUpdate 49 (.map (some m)) (.string t) (.int .i64 (c : Int))).run Try.prog w = .ok () w' ∧ (∃ D', CntMap w' m (N + 1) D' (ts ++ [t])) ∧ Turns (fun k => k = m) w w' := by
  obtain ⟨w', hrun, hown, hturn⟩ := h.map.store Try.keyedStr Try.underlying49 hN (Try.keyStr ht) (show valR (.int .i64 (c : Int)) = some (.held (.int .i64 (c : Int)), []) from rfl)
  have h1 := size_put (k := key t) (tidyS h.map) (.held (.int .i64 (c : Int)))
  rw [has_look (allHeld_of h.map)] at h1
  have hk := Try.keyedStr.key (Try.keyStr ht)
  refine ⟨w', hrun, ⟨_, hown, fun u => ?_, fun u v hu => ?_, ?_, ?_⟩, Turns.of_grown (F := fun k => k = m) hturn.grown (fun k hk => by cases hk; rfl)⟩
  · by_cases e : u = t
    · subst e
      rw [look_put_same h.map.isMap hk]
      simp
    · rw [look_put_other (fun k => e (key_inj k)), h.has u]
      simp [e]
  · by_cases e : u = t
    · subst e
      rw [look_put_same h.map.isMap hk] at hu
      cases hu
      exact ⟨c, rfl, by simpa using hc⟩
    · rw [look_put_other (fun k => e (key_inj k))] at hu
      obtain ⟨c', h2, h3⟩ := h.num u v hu
      exact ⟨c', h2, by simp; omega⟩
  · rw [h1, List.length_append]
    have := h.few
    show _ ≤ _ + 1
    split <;> omega
  · rw [h1, List.length_append, nodup_snoc, ← h.all]
    have := h.few
    by_cases e : t ∈ ts
    · rw [if_pos ((h.has t).2 e)]
      constructor
      · intro h2
        simp at h2
        omega
      · intro h2
        exact absurd e h2.2
    · rw [if_neg (fun h2 => e ((h.has t).1 h2))]
      simp [e]
end
set_option maxRecDepth 100000 in
theorem twice_any (w : World) (ao : Option Addr) (cap : Nat) (ts : List ByteArray) (n : Nat) (hn : ts.length = n) (h : HeldStr w ao ts) (hl : n ≤ 8796093022208) :
    Calls Try.prog 16 #[.slice ao n cap] w (SaysB w (!decide ts.Nodup)) := by
  have hmm := @run_makeMap Try.prog
  have HN := hid hn
  have H := hid h
  have HL := hid hl
  obtain ⟨W0, hW0⟩ : ∃ W, W = w.alloc (.map #[] 0) := ⟨_, rfl⟩
  have HB0 : Hid (Below w.heap.size w W0) := by rw [hW0]; exact one_new _ _
  have HM0 : Hid (CntMap W0 w.heap.size 0 (.map []) []) := by rw [hW0]; exact CntMap.new w
  have HW0 := hid hW0
  clear hn h hW0
  go_enter Try.func16, Try.ntmps16
  go_wp2
  rw [← HW0.out]
  obtain ⟨mm, hmmm⟩ : ∃ p, p = w.heap.size := ⟨_, rfl⟩
  rw [← hmmm] at HM0 ⊢
  have HMM := hid hmmm
  clear hmmm
  go_loopw [5, 9] (fun _ i wr => ∃ k : Nat, k ≤ n ∧ i = .int .i64 k ∧ Hid ((∃ D N, N ≤ k ∧ CntMap wr mm N D (ts.take k)) ∧ Below w.heap.size w wr)) (fun _ i _ => n - (intOf i).toNat)
  case atStart => exact ⟨0, Nat.zero_le _, rfl, ⟨_, 0, Nat.le_refl _, HM0.out⟩, HB0.out⟩
  case round =>
    obtain ⟨k, hk, rfl, HR⟩ := hrel
    by_cases hlt : k < n
    · have hlt' : (k : Int) < (n : Int) := by omega
      have hkx : Hid (k < ts.length) := (by rw [HN.out]; exact hlt : k < ts.length)
      obtain ⟨bb, off, hao, _, g0⟩ := (H.out.below HR.out.2).at hkx.out
      have HSZ := hid (H.out.sizeD hkx.out)
      have HKM : Hid (k + 1 ≤ n) := (by omega : k + 1 ≤ n)
      have HTK : Hid (ts.take (k + 1) = ts.take k ++ [ts.getD k ByteArray.empty]) := by
        rw [List.take_succ_eq_append_getElem hkx.out]
        simp [List.getD, List.getElem?_eq_getElem hkx.out, Hid]
      subst hao
      obtain ⟨T, HT⟩ : ∃ T, Hid (ts.getD k ByteArray.empty = T) := ⟨_, hid rfl⟩
      rw [HT.out] at g0 HTK HSZ
      obtain ⟨D, N, hNk, hcm⟩ := HR.out.1
      obtain ⟨c, hc, hlk⟩ := hcm.lookup HSZ.out
      have hc2 : c ≤ k := by rw [List.length_take] at hc; omega
      obtain ⟨w2, hput, ⟨D', hcm2⟩, ht2⟩ := hcm.put (by unfold maxLen; omega) HSZ.out (c + 1) (by omega)
      have hw1 : wrap64 ((c : Int) + 1) = ((c + 1 : Nat) : Int) := by rw [show ((c + 1 : Nat) : Int) = (c : Int) + 1 by omega]; exact wrapS (by omega) (by omega)
      rw [show ((c + 1 : Nat) : Int) = (c : Int) + 1 by omega] at hput hw1
      have HCM := hid hcm2
      have HNK : Hid (N + 1 ≤ k + 1) := (by omega : N + 1 ≤ k + 1)
      have HB2 : Hid (Below w.heap.size w w2) := HR.out.2.trans (ht2.below (fun i hi => by rw [hi, HMM.out]; exact Nat.le_refl _) HR.out.2.size)
      clear hNk hcm hc hcm2 ht2
      have hc3 : (c : Int) ≤ 8796093022208 := by have := HL.out; omega
      clear hc2
      go_wp2
      go_roundw
      case rel => exact ⟨k + 1, HKM.out, by go_num, ⟨D', N + 1, HNK.out, by rw [HTK.out]; exact HCM.out⟩, HB2.out⟩
      case measure => simp [intOf]; have := HKM.out; omega
    · have hlt' : ¬ (k : Int) < (n : Int) := by omega
      have HKE : Hid (ts.take k = ts) := List.take_of_length_le (by have := HN.out; omega)
      obtain ⟨D, N, _, hcm⟩ := HR.out.1
      rw [HKE.out] at hcm
      have hlen := fun ty => hcm.map.len Try.underlying49 ty
      have HA := hid hcm.all
      have HF := hid hcm.few
      rw [HN.out] at HA HF
      obtain ⟨sz, HS⟩ : ∃ s, Hid (Maps.size D = s) := ⟨_, hid rfl⟩
      rw [HS.out] at hlen HA HF
      clear hcm
      go_wp2
      go_ret
      refine ⟨ret_bool ?_, HR.out.2⟩
      by_cases e : ts.Nodup
      · have h1 := HA.out.2 e
        rw [decide_eq_true e]
        show decide _ = false
        rw [decide_eq_false (by omega)]
      · have h1 : ¬ sz = n := fun h => e (HA.out.1 h)
        have h2 := HF.out
        rw [decide_eq_false e]
        show decide _ = true
        rw [decide_eq_true (by omega)]
/-- Were all told their token's order? -/
def idsL (xs : List Sn) (ts : List ByteArray) : Bool := !xs.any (fun s => wrongS ts s)
theorem ids_any (w : World) (lo : Option Addr) (lc : Nat) (xs : List Sn) (hx : HeldSn w lo xs) (hlx : xs.length ≤ 140737488355328) (ao : Option Addr) (cap : Nat) (ts : List ByteArray) (h : HeldStr w ao ts) (hl : ts.length ≤ 140737488355328) :
    Calls Try.prog 12 #[.slice lo xs.length lc, .slice ao ts.length cap] w (SaysB w (idsL xs ts)) := by
  obtain ⟨W, hW⟩ : ∃ W, W = w.alloc (.cells #[.slice ao ts.length cap] 23) := ⟨_, rfl⟩
  have HB : Hid (Below w.heap.size w W) := by rw [hW]; exact one_new _ _
  have HP : Hid (Blk W w.heap.size 23 [.slice ao ts.length cap]) := by rw [hW]; exact Blk.new w _ _
  have HS := hid (someI_any W lo lc xs (hx.below HB.out) hlx w.heap.size ao cap ts HP.out (h.below HB.out) hl)
  have HW := hid hW
  unfold idsL
  generalize xs.any (fun s => wrongS ts s) = A at *
  clear hx h hW hl hlx
  go_enter Try.func12, Try.ntmps12
  go_wp2_with fail
  rw [← HW.out]
  refine HS.out.mono ?_
  rintro e w' ⟨rfl, hb⟩
  have HBB := hid (bt' HB.out hb)
  clear hb
  go_wp2
  go_ret
  exact ⟨rfl, HBB.out⟩
end Go.Proofs.Ytfjmhfbmphdjiaa
