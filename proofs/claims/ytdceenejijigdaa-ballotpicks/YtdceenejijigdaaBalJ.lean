/-
  Package ballot: Slots answers the slots, rising, each once.
-/
import Derived.Test.YtdceenejijigdaaBalI
import Derived.Deep.OwnRows
namespace Go.Proofs.Ytdceenejijigdaa
open Go.RowKit Go.Maps

def slotsL (xs : List VoM) : List Int := xs.map (·.slot)
theorem slotsL_snoc {xs : List VoM} {k : Nat} (hk : k < xs.length) : slotsL (xs.take (k + 1)) = slotsL (xs.take k) ++ [(xs.getD k default).slot] := by
  unfold slotsL
  rw [vo_getD hk, List.take_succ_eq_append_getElem hk, List.map_append]
  rfl
/-- append(out, n) of an owned row, n in a block of whatever spelling. -/
theorem wpList_append_oneB {ops : Array Oper} {rest : List Oper} {o : Oper} {a : Act} {Q : Exit → Act → World → Prop} (W0 W : World) (c : Int) (hW : W = W0.alloc (.cells #[.int .i64 c] 3)) (hgd : o.guard = none) (s x : Operand)
    (ho : o.op = .call { callee := .builtin .append, args := #[s, x], argTypes := #[32, 32] }) (B : Nat) (v : Value) (xs : List Int) (g : Nat) (hg : g = W0.heap.size)
    (hs : a.eval s = v) (hx : a.eval x = .slice (some ⟨g, 0, none⟩) 1 1) (hown : W0.ownsRow B 3 1 v xs.length (ints xs)) (hB : B ≤ W0.heap.size) (hl : xs.length < 17592186044416)
    (h : ∀ v' w', w'.ownsRow B 3 1 v' (xs ++ [c]).length (ints (xs ++ [c])) → Below B W0 w' → wpList Try.prog ops Q rest (a.put o.dst v') w') :
    wpList Try.prog ops Q (o :: rest) a W := by
  subst hg
  exact wpList_append_one W0 W c hW hgd s x ho B v xs hs hx hown hB hl h
theorem slots_i64 {w : World} {xs : List VoM} (h : AllVo w xs) : ∀ x ∈ slotsL xs, -9223372036854775808 ≤ x ∧ x ≤ 9223372036854775807 := by
  intro x hx
  obtain ⟨v, hv, rfl⟩ := List.mem_map.1 hx
  have := (h v hv).is
  unfold I64 at this
  exact this
/-- What Slots answers. -/
def SlotsP (w : World) (xs : List VoM) (e : Ending) (w' : World) : Prop := ∃ ao cap, e = .returned (.slice ao (putAll (slotsL xs)).length cap) ∧ HeldInt w' ao (putAll (slotsL xs)) ∧ Below w.heap.size w w'
set_option maxRecDepth 100000 in
set_option maxHeartbeats 1000000 in
theorem slotsBal (w : World) (ao : Option Addr) (cap : Nat) (xs : List VoM) (n : Nat) (hn : xs.length = n) (h : HeldVo w ao xs) (hl : n ≤ 1466015503701) : Calls Try.prog 18 #[.slice ao n cap] w (SlotsP w xs) := by
  have H := hid h
  have HN := hid hn
  obtain ⟨i0, hi, hz0, hz1, hz2⟩ := info_parts Try.infoInt
  obtain ⟨M, hM⟩ : ∃ M, M = madeCells (Value.int .i64 0).cells ((n : Int).toNat * i0.size) := ⟨_, rfl⟩
  have hmk : ∀ W : World, (Instr.makeSlice 32 (.int .i64 0) (.int .i64 (n : Int))).run Try.prog W = .ok (.slice (some ⟨W.heap.size, 0, none⟩) 0 n) (W.alloc (.cells M 3)) := fun W => by
    have h := run_make (P := Try.prog) W 32 3 i0 _ Try.underlying32 hi hz0 .i64 .i64 0 (n : Int) (by omega) (by omega) (by rw [hz2]; omega) (by omega)
    rw [← hM] at h
    simpa using h
  have hMs : M.size = n * 1 := by rw [hM, size_madeCells, hz1]; simp
  have HR0 : Hid ((w.alloc (.cells M 3)).ownsRow w.heap.size 3 1 (.slice (some ⟨w.heap.size, 0, none⟩) 0 n) 0 (ints [])) := ⟨rfl, .inr ⟨w.heap.size, n, M, rfl, Nat.le_refl _, World.alloc_heap_new w _, Nat.zero_le _, by unfold maxLen; omega, hMs, by simp [ints]⟩⟩
  clear hM hi hz0 hz1 hz2 hMs h hn
  have HB0 : Hid (Below w.heap.size w (w.alloc (.cells M 3))) := (Below.refl _ _).alloc (Nat.le_refl _) _
  go_enter Try.func18, Try.ntmps18
  go_wp2
  clear hmk
  go_loopw [3, 5, 11] (fun v _ i wz => ∃ k g cp : Nat, k ≤ n ∧ i = .int .i64 k ∧ v = .slice (some ⟨g, 0, none⟩) k cp ∧ Hid (wz.ownsRow w.heap.size 3 1 v k (ints (slotsL (xs.take k))) ∧ Below w.heap.size w wz)) (fun _ _ i _ => n - (intOf i).toNat)
  case atStart => exact ⟨0, _, n, by omega, rfl, rfl, ⟨by simpa [slotsL] using HR0.out, HB0.out⟩⟩
  case round =>
    obtain ⟨k, g, cp, hk, rfl, rfl, HR⟩ := hrel
    have HLK : Hid ((slotsL (xs.take k)).length = k) := by show _ = _; have := HN.out; simp [slotsL]; omega
    by_cases hlt : k < n
    · have hlt' : (k : Int) < (n : Int) := by omega
      have hkx : Hid (k < xs.length) := (HN.out ▸ hlt : k < xs.length)
      have HH := hid (H.out.below HR.out.2)
      obtain ⟨bb, off, rfl, hbb, c0, c1, c2, c3, c4, c5, c6, c7⟩ := HH.out.cellsD hkx.out
      have HSN := hid (slotsL_snoc hkx.out)
      obtain ⟨X, hX⟩ : ∃ X, X = xs.getD k default := ⟨_, rfl⟩
      rw [← hX] at c0 c1 c2 c3 c4 c5 c6 c7 HSN
      clear hX
      obtain ⟨sl, ⟨b1, b2⟩, ⟨np, tk, ct, ep, dp⟩, ao1, cap1⟩ := X
      simp only at c0 c1 c2 c3 c4 c5 c6 c7 HSN
      obtain ⟨XN, HXN⟩ : ∃ m, Hid (dp.length = m) := ⟨_, hid rfl⟩
      rw [HXN.out] at c7
      have HW2 : Hid ((wr.alloc (.cells #[.int .i64 sl, .int .i64 b1, .int .i64 b2, .bool np, .string tk, .string ct, .int .i64 ep, .slice ao1 XN cap1] 55)).ownsRow w.heap.size 3 1 (.slice (some ⟨g, 0, none⟩) k cp) (slotsL (xs.take k)).length (ints (slotsL (xs.take k)))) := by rw [HLK.out]; exact HR.out.1.alloc _
      have HB2 : Hid (Below w.heap.size w (wr.alloc (.cells #[.int .i64 sl, .int .i64 b1, .int .i64 b2, .bool np, .string tk, .string ct, .int .i64 ep, .slice ao1 XN cap1] 55))) := HR.out.2.alloc HR.out.2.size _
      go_wp2_with (at_builtin; refine wpList_append_oneB (wr.alloc (.cells #[.int .i64 sl, .int .i64 b1, .int .i64 b2, .bool np, .string tk, .string ct, .int .i64 ep, .slice ao1 XN cap1] 55)) _ sl rfl rfl _ _ rfl w.heap.size _ (slotsL (xs.take k)) (wr.heap.size + 1) (by simp) rfl rfl HW2.out HB2.out.size (by rw [HLK.out]; omega) ?_; intro v' w5 hown hb5; have HO5 := hid hown; have HB5 := hid (HB2.out.trans hb5); clear hown hb5)
      have HO6 : Hid (w5.ownsRow w.heap.size 3 1 v' (k + 1) (ints (slotsL (xs.take (k + 1))))) := by
        have := HO5.out
        rw [List.length_append, HLK.out, ← HSN.out] at this
        exact this
      obtain ⟨g', cp', rest, hv', _, _⟩ := own_blk HO6.out (by omega)
      subst hv'
      go_wp2
      go_roundw
      case rel => exact ⟨k + 1, g', cp', by omega, by go_num, rfl, ⟨HO6.out, HB5.out⟩⟩
      case measure => simp [intOf]; omega
    · have hlt' : ¬ (k : Int) < (n : Int) := by omega
      obtain rfl : k = n := by omega
      have HTK : Hid (xs.take k = xs) := by show _ = _; rw [← HN.out]; exact List.take_length
      obtain ⟨zs, hzs⟩ : ∃ z, z = slotsL xs := ⟨_, rfl⟩
      have HZL : Hid (zs.length = k) := by show _ = _; rw [hzs, ← HN.out]; simp [slotsL]
      have HZI : Hid (∀ x ∈ zs, -9223372036854775808 ≤ x ∧ x ≤ 9223372036854775807) := by rw [hzs]; exact slots_i64 H.out.1
      have HRZ : Hid (wr.ownsRow w.heap.size 3 1 (.slice (some ⟨g, 0, none⟩) k cp) k (ints zs)) := by have := HR.out.1; rw [HTK.out, ← hzs] at this; exact this
      have HSO := hid (sortI_row (zs := zs) (by rw [HZL.out]; exact HRZ.out) (by rw [HZL.out]; omega))
      rw [HZL.out] at HSO
      have hgb : w.heap.size ≤ g := (HRZ.out.lt g rfl).1
      have HZS := hid hzs
      clear hzs
      go_wp2_with fail
      refine HSO.out.mono ?_
      rintro e w2 ⟨rfl, hr2, ht2⟩
      have HB2 : Hid (Below w.heap.size w w2) := HR.out.2.trans (ht2.below (fun i hi => by omega) HR.out.2.size)
      have HR2 := hid hr2
      clear hr2 ht2 HSO
      obtain ⟨ss, hss⟩ : ∃ z, z = zs.mergeSort fun x y => decide (x ≤ y) := ⟨_, rfl⟩
      rw [← hss] at HR2
      have HSL : Hid (ss.length = k) := by show _ = _; rw [hss, List.length_mergeSort, HZL.out]
      have HCO := hid (compactI_row (zs := ss) (by rw [HSL.out]; exact HR2.out) (by rw [HSL.out]; omega) (fun x hx => HZI.out x (by rw [hss] at hx; exact List.mem_mergeSort.1 hx)))
      rw [HSL.out] at HCO
      have HFI : Hid (Lib.compact ss = putAll (slotsL xs)) := by show _ = _; rw [hss, compact_putAll, HZS.out]
      clear hss
      go_wp2_with fail
      refine HCO.out.mono ?_
      rintro e w3 ⟨rfl, hh3, ht3⟩
      have HB3 : Hid (Below w.heap.size w w3) := HB2.out.trans (ht3.below (fun i hi => by omega) HB2.out.size)
      have HH3 := hid hh3
      clear hh3 ht3 HCO
      rw [HFI.out] at HH3 ⊢
      go_wp2
      go_ret
      exact ⟨_, _, rfl, HH3.out, HB3.out⟩
end Go.Proofs.Ytdceenejijigdaa
