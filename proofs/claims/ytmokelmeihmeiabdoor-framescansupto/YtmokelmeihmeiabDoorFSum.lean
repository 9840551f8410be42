/-
  The check sums: frame.sumOn (bytes and strings), frame.finished, frame.Sum and frame.frameSum answer 'crc' of any bytes, in whatever memory in which the table of remainders lies; they write nothing.
-/
import Derived.Test.YtmokelmeihmeiabDoorRows
import Derived.Test.YtmokelmeihmeiabDoorApps
import Derived.Test.YtmokelmeihmeiabDoorFMath
namespace Go.Proofs.YtmokelmeihmeiabDoor
open Go.RowKit

theorem Tryd.info5 : (Tryd.prog.info? 5).map (fun i => (i.zero, i.size, i.bytes)) = some (some (.int .u8 0), 1, 1) := by kernel_rfl
theorem Tryd.size5 : ∀ w, (Go.sizeOf 5).run Tryd.prog w = .ok 1 w := by
  intro w
  obtain ⟨i0, hi, hz0, hz1, hz2⟩ := info_parts Tryd.info5
  simp [Go.sizeOf, typeInfo, hi, hz1]

theorem ret_int {k : IntKind} {a b : Int} (h : a = b) : Ending.returned (.int k a) = .returned (.int k b) := by rw [h]
/-- The table lies in block 0. -/
def Tab (w : World) : Prop := 0 < w.heap.size ∧ ∀ i, i < 16 → w.cell? ⟨0, i, none⟩ = some (.int .u32 (tab i))
theorem Tab.below {w w' : World} {B : Nat} (h : Tab w) (hb : Below B w w') (hB : 0 < B) : Tab w' := by
  refine ⟨Nat.lt_of_lt_of_le h.1 hb.size, fun i hi => ?_⟩
  rw [hb.cell (p := ⟨0, i, none⟩) hB]
  exact h.2 i hi
theorem Tab.here {w w' : World} (h : Tab w) (hb : Below w.heap.size w w') : Tab w' := h.below hb h.1

theorem xor32 {a b : Nat} (ha : a < 4294967296) (hb : b < 4294967296) : bits .xor .u32 (a : Int) (b : Int) = ((a ^^^ b : Nat) : Int) := u32_xor_nat a b ha hb
theorem and15 {a : Nat} (ha : a < 4294967296) : bits .and .u32 (a : Int) 15 = ((a % 16 : Nat) : Int) := by
  have := u32_and_nat a 15 ha (by decide)
  rw [show ((15 : Nat) : Int) = 15 from rfl] at this
  rw [this, show (15 : Nat) = 2 ^ 4 - 1 from rfl, Nat.and_two_pow_sub_one_eq_mod]

/-- What the table's look makes of a state. -/
theorem look {x : Nat} (h : x < 4294967296) : bits .xor .u32 (tab (x % 16) : Int) ((x : Int) / 16) = (step4 x : Int) := by
  rw [step4_tab, ← xor32 (tab_lt _ (by omega)) (by omega)]
  congr 1

set_option maxHeartbeats 400000 in
theorem sumOnB_full (st b off len cap : Nat) (bs : List Int) (w : World) (hs : st < 4294967296) (ht : Tab w) (hlen : bs.length = len) (hb : AllB bs) (hmax : len ≤ 9223372036854775807)
    (hc : ∀ j, j < len → w.cell? ⟨b, off + j, none⟩ = some (.int .u8 (bs.getD j 0))) :
    Calls Tryd.prog 19 #[.int .u32 st, .slice (some ⟨b, off, none⟩) len cap] w fun e w' => e = .returned (.int .u32 (crcL st bs)) ∧ w' = w := by
  go_enter Tryd.func19, Tryd.ntmps19
  go_wp2
  go_loop [0, 8] (fun x i => ∃ k : Nat, k ≤ len ∧ i = .int .i64 k ∧ x = .int .u32 (crcL st (bs.take k))) (fun _ i => len - (intOf i).toNat)
  case atStart => exact ⟨0, by omega, rfl, rfl⟩
  case round =>
    obtain ⟨k, hk, rfl, rfl⟩ := hrel
    by_cases hkl : k < len
    · have hlt : crcL st (bs.take k) < 4294967296 := crcL_lt _ _ hs (hb.take k)
      obtain ⟨s, hse⟩ : ∃ s, s = crcL st (bs.take k) := ⟨_, rfl⟩
      have HSE := hid hse
      rw [← hse] at hlt ⊢
      have hrk := hb.getD k
      obtain ⟨c, HC⟩ : ∃ c : Nat, Hid ((c : Int) = bs[k]?.getD 0) := ⟨(bs[k]?.getD 0).toNat, hid (by omega)⟩
      have hcell : w.cell? ⟨b, off + k, none⟩ = some (.int .u8 (c : Int)) := by rw [HC.out, hc k hkl]; simp [List.getD]
      have hcb : c < 256 := by have := HC.out; omega
      obtain ⟨y, hy⟩ : ∃ y, y = s ^^^ c := ⟨_, rfl⟩
      have hyl : y < 4294967296 := by rw [hy]; exact xor_lt32 hlt (by omega)
      have hx1 : bits .xor .u32 (s : Int) (c : Int) = (y : Int) := by rw [hy]; exact xor32 hlt (by omega)
      have ha1 := and15 hyl
      have hl1 := look hyl
      have ht1 := ht.2 (y % 16) (by omega)
      obtain ⟨z, hz⟩ : ∃ z, z = step4 y := ⟨_, rfl⟩
      have hzl : z < 4294967296 := by rw [hz]; exact step4_lt hyl
      rw [← hz] at hl1
      have ha2 := and15 hzl
      have hl2 := look hzl
      have ht2 := ht.2 (z % 16) (by omega)
      have HF : Hid (step4 z = crcL st (bs.take (k + 1))) := by
        show _ = _
        rw [List.take_succ_eq_append_getElem (by omega), crcL_snoc, hz, hy, hse]
        have : c = (bs[k]'(by omega)).toNat := by
          have := HC.out
          rw [List.getElem?_eq_getElem (by omega)] at this
          simp only [Option.getD_some] at this
          omega
        rw [this]
        rfl
      have hy16 : (0 : Int) ≤ ((y % 16 : Nat) : Int) ∧ ((y % 16 : Nat) : Int) < 16 := by omega
      have hz16 : (0 : Int) ≤ ((z % 16 : Nat) : Int) ∧ ((z % 16 : Nat) : Int) < 16 := by omega
      obtain ⟨hy0, hy1⟩ := hy16
      obtain ⟨hz0, hz1⟩ := hz16
      clear hse hy hz hc hrk
      go_wp2
      go_round
      case rel => exact ⟨k + 1, by omega, by go_num, by rw [HF.out]⟩
      case measure => simp [intOf]; omega
    · have hke : k = len := by omega
      have HF : Hid (crcL st (bs.take k) = crcL st bs) := by
        show _ = _
        rw [List.take_of_length_le (by omega)]
      clear hke hc
      go_wp2
      go_ret
      exact ⟨ret_int (by rw [HF.out]), rfl⟩

theorem sumOnB_none (st cap : Nat) (ao : Option Addr) (w : World) :
    Calls Tryd.prog 19 #[.int .u32 st, .slice ao 0 cap] w fun e w' => e = .returned (.int .u32 st) ∧ w' = w := by
  go_enter Tryd.func19, Tryd.ntmps19
  go_wp2
  refine wp_loop_rounds 1 ?_
  rw [rounds_succ]
  go_wp2
  go_ret
  exact ⟨rfl, rfl⟩

theorem sumOnB_any (st : Nat) (ao : Option Addr) (len cap : Nat) (bs : List Int) (w : World) (hs : st < 4294967296) (ht : Tab w) (h : Held w ao len cap bs) :
    Calls Tryd.prog 19 #[.int .u32 st, .slice ao len cap] w fun e w' => e = .returned (.int .u32 (crcL st bs)) ∧ w' = w := by
  by_cases hp : 0 < len
  · obtain ⟨b, off, rfl, _, hc⟩ := h.at hp
    exact sumOnB_full st b off len cap bs w hs ht h.hlen h.byte (by have := h.hmax; have := h.hcap; unfold maxLen at *; omega) hc
  · obtain rfl : len = 0 := by omega
    have : bs = [] := List.eq_nil_of_length_eq_zero h.hlen
    subst this
    exact sumOnB_none st cap ao w

set_option maxHeartbeats 400000 in
theorem sumOnS_any (st : Nat) (p : ByteArray) (w : World) (hs : st < 4294967296) (ht : Tab w) (hmax : p.size ≤ 9223372036854775807) :
    Calls Tryd.prog 23 #[.int .u32 st, .string p] w fun e w' => e = .returned (.int .u32 (crcL st (strNums p))) ∧ w' = w := by
  have hlen := strNums_len p
  have hb := strNums_byte p
  go_enter Tryd.func23, Tryd.ntmps23
  go_wp2
  go_loop [0, 8] (fun x i => ∃ k : Nat, k ≤ p.size ∧ i = .int .i64 k ∧ x = .int .u32 (crcL st ((strNums p).take k))) (fun _ i => p.size - (intOf i).toNat)
  case atStart => exact ⟨0, by omega, rfl, rfl⟩
  case round =>
    obtain ⟨k, hk, rfl, rfl⟩ := hrel
    by_cases hkl : k < p.size
    · have hlt : crcL st ((strNums p).take k) < 4294967296 := crcL_lt _ _ hs (hb.take k)
      obtain ⟨s, hse⟩ : ∃ s, s = crcL st ((strNums p).take k) := ⟨_, rfl⟩
      have HSE := hid hse
      rw [← hse] at hlt ⊢
      have hcb : p[k].toNat < 256 := p[k].toNat_lt
      obtain ⟨y, hy⟩ : ∃ y, y = s ^^^ p[k].toNat := ⟨_, rfl⟩
      have hyl : y < 4294967296 := by rw [hy]; exact xor_lt32 hlt (by omega)
      have hx1 : bits .xor .u32 (s : Int) (p[k].toNat : Int) = (y : Int) := by rw [hy]; exact xor32 hlt (by omega)
      have ha1 := and15 hyl
      have hl1 := look hyl
      have ht1 := ht.2 (y % 16) (by omega)
      obtain ⟨z, hz⟩ : ∃ z, z = step4 y := ⟨_, rfl⟩
      have hzl : z < 4294967296 := by rw [hz]; exact step4_lt hyl
      rw [← hz] at hl1
      have ha2 := and15 hzl
      have hl2 := look hzl
      have ht2 := ht.2 (z % 16) (by omega)
      have HF : Hid (step4 z = crcL st ((strNums p).take (k + 1))) := by
        show _ = _
        rw [List.take_succ_eq_append_getElem (by omega), crcL_snoc, hz, hy, hse]
        have h3 : k < p.data.size := hkl
        have : (strNums p)[k]'(by omega) = ((p[k].toNat : Nat) : Int) := by
          simp [strNums]
          rfl
        rw [this]
        rfl
      have hy16 : (0 : Int) ≤ ((y % 16 : Nat) : Int) ∧ ((y % 16 : Nat) : Int) < 16 := by omega
      have hz16 : (0 : Int) ≤ ((z % 16 : Nat) : Int) ∧ ((z % 16 : Nat) : Int) < 16 := by omega
      obtain ⟨hy0, hy1⟩ := hy16
      obtain ⟨hz0, hz1⟩ := hz16
      clear hse hy hz
      go_wp2
      go_round
      case rel => exact ⟨k + 1, by omega, by go_num, by rw [HF.out]⟩
      case measure => simp [intOf]; omega
    · have HF : Hid (crcL st ((strNums p).take k) = crcL st (strNums p)) := by
        show _ = _
        rw [List.take_of_length_le (by omega)]
      go_wp2
      go_ret
      exact ⟨ret_int (by rw [HF.out]), rfl⟩

theorem finished_any (x : Nat) (w : World) (hx32 : x < 4294967296) : Calls Tryd.prog 18 #[.int .u32 x] w fun e w' => e = .returned (.int .u32 ((x ^^^ 4294967295 : Nat) : Int)) ∧ w' = w := by
  go_enter Tryd.func18, Tryd.ntmps18
  go_wp2
  go_ret
  refine ⟨ret_int ?_, rfl⟩
  rw [Nat.xor_comm]
  exact xor32 (a := 4294967295) (by decide) hx32

theorem sum_any (ao : Option Addr) (len cap : Nat) (bs : List Int) (w : World) (ht : Tab w) (h : Held w ao len cap bs) :
    Calls Tryd.prog 9 #[.slice ao len cap] w fun e w' => e = .returned (.int .u32 (crc bs)) ∧ w' = w := by
  have H1 := hid (sumOnB_any 4294967295 ao len cap bs w (by decide) ht h)
  have H2 := hid (finished_any (crcL 4294967295 bs) w (crcL_lt _ _ (by decide) h.byte))
  clear h
  go_enter Tryd.func9, Tryd.ntmps9
  go_wp2_with fail
  refine H1.out.mono ?_
  rintro e w' ⟨rfl, rfl⟩
  go_wp2_with fail
  refine H2.out.mono ?_
  rintro e w' ⟨rfl, rfl⟩
  go_wp2
  go_ret
  exact ⟨rfl, rfl⟩

theorem frameSum_any (ao : Option Addr) (len cap : Nat) (bs : List Int) (p : ByteArray) (w : World) (ht : Tab w) (h : Held w ao len cap bs) (hp : p.size ≤ 9223372036854775807) :
    Calls Tryd.prog 16 #[.slice ao len cap, .string p] w fun e w' => e = .returned (.int .u32 (crc (bs ++ strNums p))) ∧ w' = w := by
  have hl := crcL_lt bs 4294967295 (by decide) h.byte
  have H1 := hid (sumOnB_any 4294967295 ao len cap bs w (by decide) ht h)
  have H2 := hid (sumOnS_any (crcL 4294967295 bs) p w hl ht hp)
  have H3 := hid (finished_any (crcL (crcL 4294967295 bs) (strNums p)) w (crcL_lt _ _ hl (strNums_byte p)))
  clear h
  go_enter Tryd.func16, Tryd.ntmps16
  go_wp2_with fail
  refine H1.out.mono ?_
  rintro e w' ⟨rfl, rfl⟩
  go_wp2_with fail
  refine H2.out.mono ?_
  rintro e w' ⟨rfl, rfl⟩
  go_wp2_with fail
  refine H3.out.mono ?_
  rintro e w' ⟨rfl, rfl⟩
  go_wp2
  go_ret
  exact ⟨ret_int (by rw [crc, crcL_append]), rfl⟩
end Go.Proofs.YtmokelmeihmeiabDoor
