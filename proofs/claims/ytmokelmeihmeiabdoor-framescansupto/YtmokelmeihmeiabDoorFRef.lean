/-
  The document's own side: pannierref02.Sum, four and Put answer as 'crc', 'be4' and 'frameOf' say; conditions: lengths are at most 1000000000000.
-/
import Derived.Test.YtmokelmeihmeiabDoorFPut
namespace Go.Proofs.YtmokelmeihmeiabDoor
open Go.RowKit

theorem step1_odd {x : Nat} (h : x % 2 = 1) : step1 x = (x / 2) ^^^ 2197175160 := by rw [step1, h, Nat.one_mul]
theorem step1_ev {x : Nat} (h : x % 2 = 0) : step1 x = x / 2 := by rw [step1, h, Nat.zero_mul, Nat.xor_zero]

set_option maxHeartbeats 800000 in
theorem refSum_full (b off len cap : Nat) (bs : List Int) (w : World) (hlen : bs.length = len) (hb : AllB bs) (hmax : len ≤ 9223372036854775807)
    (hc : ∀ j, j < len → w.cell? ⟨b, off + j, none⟩ = some (.int .u8 (bs.getD j 0))) :
    Calls Tryd.prog 10 #[.slice (some ⟨b, off, none⟩) len cap] w fun e w' => e = .returned (.int .u32 (crc bs)) ∧ w' = w := by
  go_enter Tryd.func10, Tryd.ntmps10
  go_wp2
  go_loop [3, 4] (fun x i => ∃ k : Nat, k ≤ len ∧ i = .int .i64 k ∧ x = .int .u32 (crcL 4294967295 (bs.take k))) (fun _ i => len - (intOf i).toNat)
  case atStart => exact ⟨0, by omega, rfl, rfl⟩
  case round =>
    obtain ⟨k, hk, rfl, rfl⟩ := hrel
    by_cases hkl : k < len
    · have hlt : crcL 4294967295 (bs.take k) < 4294967296 := crcL_lt _ _ (by decide) (hb.take k)
      obtain ⟨s, hse⟩ : ∃ s, s = crcL 4294967295 (bs.take k) := ⟨_, rfl⟩
      have HSE := hid hse
      rw [← hse] at hlt ⊢
      have hrk := hb.getD k
      obtain ⟨c, HC⟩ : ∃ c : Nat, Hid ((c : Int) = bs[k]?.getD 0) := ⟨(bs[k]?.getD 0).toNat, hid (by omega)⟩
      have hcell : w.cell? ⟨b, off + k, none⟩ = some (.int .u8 (c : Int)) := by rw [HC.out, hc k hkl]; simp [List.getD]
      have hcb : c < 256 := by have := HC.out; omega
      obtain ⟨y, hy⟩ : ∃ y, y = s ^^^ c := ⟨_, rfl⟩
      have hyl : y < 4294967296 := by rw [hy]; exact xor_lt32 hlt (by omega)
      have hx1 : bits .xor .u32 (s : Int) (c : Int) = (y : Int) := by rw [hy]; exact xor32 hlt (by omega)
      have HF : Hid (stepN 8 y = crcL 4294967295 (bs.take (k + 1))) := by
        show _ = _
        rw [List.take_succ_eq_append_getElem (by omega), crcL_snoc, hy, hse]
        have : c = (bs[k]'(by omega)).toNat := by
          have := HC.out
          rw [List.getElem?_eq_getElem (by omega)] at this
          simp only [Option.getD_some] at this
          omega
        rw [this]
        rfl
      clear hse hy hc hrk
      go_wp2
      go_loop [3, 5] (fun x i => ∃ j : Nat, j ≤ 8 ∧ i = .int .i64 j ∧ x = .int .u32 (stepN j y)) (fun _ i => 8 - (intOf i).toNat)
      case atStart => exact ⟨0, by omega, rfl, rfl⟩
      case round =>
        obtain ⟨j, hj, rfl, rfl⟩ := hrel
        have hnl := stepN_lt j y hyl
        have hnx : stepN (j + 1) y = step1 (stepN j y) := rfl
        have HNX := hid hnx
        clear hnx
        obtain ⟨t, HT⟩ : ∃ t, Hid (stepN j y = t) := ⟨_, hid rfl⟩
        rw [HT.out] at hnl ⊢
        by_cases hj8 : j < 8
        · by_cases hod : t % 2 = 1
          · have hodI : ((t : Int) % 2 == 1) = true := by rw [beq_iff_eq]; omega
            have hx2 : bits .xor .u32 ((t : Int) / 2) 2197175160 = ((t / 2 ^^^ 2197175160 : Nat) : Int) := by
              have := xor32 (a := t / 2) (b := 2197175160) (by omega) (by decide)
              rw [← this]
              rfl
            have HS := hid (step1_odd hod)
            clear hod
            go_wp2
            go_round
            case rel => exact ⟨j + 1, by omega, by go_num, by rw [HNX.out, HT.out, HS.out]⟩
            case measure => simp [intOf]; omega
          · have hodI : ((t : Int) % 2 == 1) = false := by rw [beq_eq_false_iff_ne]; omega
            have HS := hid (step1_ev (x := t) (by omega))
            clear hod
            go_wp2
            go_round
            case rel => exact ⟨j + 1, by omega, by go_num, by rw [HNX.out, HT.out, HS.out]; go_num⟩
            case measure => simp [intOf]; omega
        · have hj9 : j = 8 := by omega
          subst hj9
          have HT8 : Hid (t = crcL 4294967295 (bs.take (k + 1))) := by show _ = _; rw [← HT.out, HF.out]
          go_wp2
          go_round
          case rel => exact ⟨k + 1, by omega, by go_num, by rw [HT8.out]⟩
          case measure => simp [intOf]; omega
    · have hke : k = len := by omega
      have hfl := crcL_lt bs 4294967295 (by decide) hb
      have htk : crcL 4294967295 (bs.take k) = crcL 4294967295 bs := by rw [List.take_of_length_le (by omega)]
      rw [htk]
      obtain ⟨v, hv⟩ : ∃ v, v = crcL 4294967295 bs := ⟨_, rfl⟩
      rw [← hv] at hfl ⊢
      have hx2 : bits .xor .u32 (v : Int) 4294967295 = ((v ^^^ 4294967295 : Nat) : Int) := by
        have := xor32 (a := v) (b := 4294967295) hfl (by decide)
        rw [← this]
        rfl
      have HV : Hid (crc bs = v ^^^ 4294967295) := by show _ = _; rw [crc, hv]
      clear hke hc htk hv
      go_wp2
      go_ret
      exact ⟨ret_int (by rw [HV.out]), rfl⟩

theorem refSum_none (ao : Option Addr) (cap : Nat) (w : World) :
    Calls Tryd.prog 10 #[.slice ao 0 cap] w fun e w' => e = .returned (.int .u32 (crc [])) ∧ w' = w := by
  have hx2 : bits .xor .u32 4294967295 4294967295 = 0 := by decide
  go_enter Tryd.func10, Tryd.ntmps10
  go_wp2
  refine wp_loop_rounds 1 ?_
  rw [rounds_succ]
  go_wp2
  go_ret
  exact ⟨rfl, rfl⟩

theorem refSum_any (ao : Option Addr) (len cap : Nat) (bs : List Int) (w : World) (h : Held w ao len cap bs) :
    Calls Tryd.prog 10 #[.slice ao len cap] w fun e w' => e = .returned (.int .u32 (crc bs)) ∧ w' = w := by
  by_cases hp : 0 < len
  · obtain ⟨b, off, rfl, _, hc⟩ := h.at hp
    exact refSum_full b off len cap bs w h.hlen h.byte (by have := h.hmax; have := h.hcap; unfold maxLen at *; omega) hc
  · obtain rfl : len = 0 := by omega
    have : bs = [] := List.eq_nil_of_length_eq_zero h.hlen
    subst this
    exact refSum_none ao cap w
theorem four_any (x : Nat) (w : World) (hx : x < 4294967296) :
    Calls Tryd.prog 17 #[.int .u32 x] w fun e w' => ∃ bo, e = .returned (.slice bo 4 4) ∧ Held w' bo 4 4 (be4 x) ∧ Below w.heap.size w w' := by
  have hw2 : IntKind.u8.wrap ((x : Int) / 65536) = (x : Int) / 65536 % 256 := by rw [IntKind.wrap_u8]
  have hw3 : IntKind.u8.wrap ((x : Int) / 256) = (x : Int) / 256 % 256 := by rw [IntKind.wrap_u8]
  have hw4 : IntKind.u8.wrap (x : Int) = (x : Int) % 256 := by rw [IntKind.wrap_u8]
  have hh := held_new w (be4 x) #[.int .u8 ((x : Int) / 16777216), .int .u8 ((x : Int) / 65536 % 256), .int .u8 ((x : Int) / 256 % 256), .int .u8 ((x : Int) % 256)] 5 rfl (be4_byte hx) (by rw [be4_len]; decide)
  have HH := hid hh
  clear hh
  go_enter Tryd.func17, Tryd.ntmps17
  go_wp2
  go_ret
  exact ⟨_, rfl, HH.out, (Below.refl _ w).alloc (Nat.le_refl _) _⟩

theorem refPut_long (v : Value) (p : ByteArray) (w : World) (hp : 65536 < p.size) (hmax : p.size ≤ 9223372036854775807) :
    Calls Tryd.prog 7 #[v, .string p] w fun e w' => e = .returned (.tuple #[.slice none 0 0, .int .i64 20]) ∧ w' = w := by
  have hp' : (65536 : Int) < (p.size : Int) := by omega
  go_enter Tryd.func7, Tryd.ntmps7
  go_wp2
  go_ret2
  exact ⟨rfl, rfl⟩

set_option maxHeartbeats 800000 in
theorem refPut_any (ao : Option Addr) (len cap : Nat) (bs : List Int) (p : ByteArray) (w : World) (h : Held w ao len cap bs) (hl : len ≤ 1000000000000) (hp : p.size ≤ 65536) :
    Calls Tryd.prog 7 #[.slice ao len cap, .string p] w fun e w' => ∃ bo N cp, e = .returned (.tuple #[.slice bo N cp, .int .i64 0]) ∧ Held w' bo N cp (bs ++ frameOf (strNums p)) ∧ Below w.heap.size w w' := by
  obtain ⟨i0, hi, hz0, hz1, hz2⟩ := info_parts Tryd.info5
  have hp' : ¬ (65536 : Int) < (p.size : Int) := by omega
  have HH := hid h
  have hpl : (strNums p).length = p.size := strNums_len p
  clear h
  go_enter Tryd.func7, Tryd.ntmps7
  go_wp2_with fail
  refine (four_any p.size w (by omega)).mono ?_
  rintro e w1 ⟨o1, rfl, hh1, hb1⟩
  have HH1 := hid hh1
  have HB1 := hid hb1
  have s1 := hb1.size
  clear hh1 hb1
  have hba : Below w1.heap.size w1 (w1.alloc (.cells #[] 5)) := (Below.refl _ w1).alloc (Nat.le_refl _) _
  go_wp2_with (at_builtin; refine wpList_append_held _ rfl _ _ 22 rfl w1.heap.size 5 i0 Tryd.underlying22 hi hz0 hz1 hz2 _ 0 [] rfl (own_made w1 _ (Nat.le_refl _)) allb_nil ao len cap bs rfl ((HH.out.below HB1.out (Nat.le_refl _)).below hba (Nat.le_refl _)) (by omega) (by simp) ?_)
  intro o2 c2 w2 hown2 hheld2 hb2 _
  have HO2 : Hid (w2.ownsRow w1.heap.size 5 1 (.slice o2 len c2) len (nums bs)) := hid (by simpa using hown2)
  have HB2 : Hid (Below w1.heap.size w1 w2) := hba.trans hb2
  have s2 := HB2.out.size
  clear hown2 hheld2 hb2 hba
  go_wp2_with (at_builtin; refine wpList_append_held _ rfl _ _ 22 rfl w1.heap.size 5 i0 Tryd.underlying22 hi hz0 hz1 hz2 _ len bs rfl HO2.out HH.out.byte o1 4 4 (be4 p.size) rfl (HH1.out.below HB2.out (Nat.le_refl _)) (by omega) (by omega) ?_)
  intro o3 c3 w3 hown3 hheld3 hb3 _
  have HO3 := hid hown3
  have HB3 : Hid (Below w1.heap.size w1 w3) := HB2.out.trans hb3
  have s3 := HB3.out.size
  clear hown3 hheld3 hb3
  have hba3 : Below w3.heap.size w3 (w3.alloc (.cells #[] 5)) := (Below.refl _ w3).alloc (Nat.le_refl _) _
  go_wp2_with (at_builtin; refine wpList_append_held _ rfl _ _ 22 rfl w3.heap.size 5 i0 Tryd.underlying22 hi hz0 hz1 hz2 _ 0 [] rfl (own_made w3 _ (Nat.le_refl _)) allb_nil o1 4 4 (be4 p.size) rfl ((HH1.out.below HB3.out (Nat.le_refl _)).below hba3 (Nat.le_refl _)) (by omega) (by simp) ?_)
  intro o4 c4 w4 hown4 hheld4 hb4 _
  have HO4 : Hid (w4.ownsRow w3.heap.size 5 1 (.slice o4 4 c4) 4 (nums (be4 p.size))) := hid (by simpa using hown4)
  have HB4 : Hid (Below w3.heap.size w3 w4) := hba3.trans hb4
  have s4 := HB4.out.size
  clear hown4 hheld4 hb4 hba3
  have hbe : AllB (be4 p.size) := be4_byte (by omega)
  go_wp2_with (at_builtin; refine wpList_append_str _ rfl _ _ 22 9 rfl w3.heap.size 5 i0 Tryd.underlying22 Tryd.underlying9 hi hz0 hz1 hz2 _ 4 (be4 p.size) rfl HO4.out hbe p rfl (by omega) (by omega) ?_)
  intro o5 c5 w5 hown5 hh5 hb5
  have HH5 := hid hh5
  have HB5 : Hid (Below w3.heap.size w3 w5) := HB4.out.trans hb5
  have s5 := HB5.out.size
  clear hown5 hh5 hb5
  go_wp2_with fail
  refine (refSum_any o5 (4 + p.size) c5 (be4 p.size ++ strNums p) w5 HH5.out).mono ?_
  rintro e w5 ⟨rfl, rfl⟩
  have hcl : crc (be4 p.size ++ strNums p) < 4294967296 := crc_lt ((be4_byte (by omega)).append (strNums_byte p))
  obtain ⟨r, HR⟩ : ∃ r, Hid (crc (be4 p.size ++ strNums p) = r) := ⟨_, hid rfl⟩
  rw [HR.out] at hcl ⊢
  go_wp2_with fail
  refine (four_any r w5 hcl).mono ?_
  rintro e w6 ⟨o6, rfl, hh6, hb6⟩
  have HH6 := hid hh6
  have HB6 : Hid (Below w3.heap.size w3 w6) := HB5.out.trans (hb6.mono s5)
  have s6 := HB6.out.size
  clear hh6 hb6
  have HAB : Hid (AllB (bs ++ be4 p.size)) := HH.out.byte.append hbe
  go_wp2_with (at_builtin; refine wpList_append_held _ rfl _ _ 22 rfl w1.heap.size 5 i0 Tryd.underlying22 hi hz0 hz1 hz2 _ (len + 4) (bs ++ be4 p.size) rfl (ownsRow_below HO3.out HB6.out (Nat.le_refl _)) HAB.out o6 4 4 (be4 r) rfl HH6.out (by omega) (by omega) ?_)
  intro o7 c7 w7 hown7 hheld7 hb7 _
  have HO7 := hid hown7
  have HAB2 := hid hheld7.byte
  have HB7 : Hid (Below w1.heap.size w1 w7) := (HB3.out.trans (HB6.out.mono s3)).trans hb7
  have s7 := HB7.out.size
  clear hown7 hheld7 hb7
  go_wp2_with (at_builtin; refine wpList_append_str _ rfl _ _ 22 9 rfl w1.heap.size 5 i0 Tryd.underlying22 Tryd.underlying9 hi hz0 hz1 hz2 _ _ _ rfl HO7.out HAB2.out p rfl (by omega) (by omega) ?_)
  intro o8 c8 w8 hown8 hh8 hb8
  have HE : Hid (bs ++ be4 p.size ++ be4 r ++ strNums p = bs ++ frameOf (strNums p)) := by
    show _ = _
    unfold frameOf
    rw [hpl, HR.out]
    simp only [List.append_assoc]
  have hE := HE.out
  simp only [List.append_assoc] at hE hh8
  rw [hE] at hh8
  have HH8 := hid hh8
  have HB8 : Hid (Below w.heap.size w w8) := HB1.out.trans ((HB7.out.trans hb8).mono s1)
  clear hown8 hh8 hb8 hE
  go_wp2
  go_ret2
  exact ⟨o8, _, c8, rfl, HH8.out, HB8.out⟩
end Go.Proofs.YtmokelmeihmeiabDoor
