/-
  codec.rightEnd and codec.ReadUint: for any bytes the reader answers what 'dec' tells, and writes nothing.
-/
import Derived.Test.YtjjgojjllbdpkaaRows
import Derived.Test.YtjjgojjllbdpkaaBase
namespace Go.Proofs.Ytjjgojjllbdpkaa
open Go.RowKit

theorem rightEnd_any (c : Int) (k : Nat) (w : World) (h0 : 0 ≤ c) (h1 : c ≤ 255) (hk : k ≤ 9) :
    Calls Try.prog 38 #[.int .u8 c, .int .i64 k] w fun e w' => e = .returned (.bool (rightB c k)) ∧ w' = w := by
  by_cases hk0 : 0 < k
  · have hk0' : (0 : Int) < (k : Int) := by omega
    by_cases hc0 : c = 0
    · subst hc0
      have e : rightB 0 k = false := by simp [rightB, hk0]
      rw [e]
      go_enter Try.func38, Try.ntmps38
      go_wp2
      go_ret
      exact ⟨rfl, rfl⟩
    · have hc0' : (c == 0) = false := beq_eq_false_iff_ne.2 hc0
      by_cases hk9 : k < 9
      · have hk9' : (k : Int) < 9 := by omega
        have e : rightB c k = true := by simp [rightB, hc0', hk9]
        rw [e]
        go_enter Try.func38, Try.ntmps38
        go_wp2
        go_ret
        exact ⟨rfl, rfl⟩
      · have hk9' : ¬ (k : Int) < 9 := by omega
        have e : rightB c k = decide (c ≤ 1) := by simp [rightB, hc0', hk9]
        rw [e]
        go_enter Try.func38, Try.ntmps38
        go_wp2
        go_ret
        exact ⟨rfl, rfl⟩
  · have hk0' : k = 0 := by omega
    subst hk0'
    have e : rightB c 0 = true := by simp [rightB]
    rw [e]
    go_enter Try.func38, Try.ntmps38
    go_wp2
    go_ret
    exact ⟨rfl, rfl⟩

theorem readUint_full (b off len cap : Nat) (bs : List Int) (w : World) (hlen : bs.length = len) (hp : 0 < len) (hcap : len ≤ cap) (hmax : cap ≤ 9223372036854775807) (hb : AllB bs)
    (hc : ∀ j, j < len → w.cell? ⟨b, off + j, none⟩ = some (.int .u8 (bs.getD j 0))) :
    Calls Try.prog 15 #[.slice (some ⟨b, off, none⟩) len cap] w fun e w' => e = .returned (.tuple #[.int .u64 (dec 0 0 bs).1, .int .i64 (dec 0 0 bs).2.1, .int .i64 (dec 0 0 bs).2.2]) ∧ w' = w := by
  by_cases h10 : len ≤ 10
  · have h10' : (len : Int) ≤ 10 := by omega
    go_enter Try.func15, Try.ntmps15
    go_wp2
    go_loop [5, 14] (fun x i => ∃ (k : Nat) (Y : Int), k ≤ len ∧ i = .int .i64 k ∧ x = .int .u64 Y ∧ ((k = 10 ∧ dec 0 0 bs = (0, 0, 10)) ∨ (k < 10 ∧ ∃ X : Nat, Y = (X : Int) ∧ X < 128 ^ k ∧ dec 0 0 bs = dec X k (bs.drop k)))) (fun _ i => len - (intOf i).toNat)
    case atStart => exact ⟨0, 0, by omega, rfl, rfl, .inr ⟨by omega, 0, rfl, by simp, rfl⟩⟩
    case round =>
      obtain ⟨k, Y, hk, rfl, rfl, hrel⟩ := hrel
      by_cases hkm : k < len
      · obtain ⟨hk9, X, rfl, hX, hd⟩ : k < 10 ∧ ∃ X : Nat, Y = (X : Int) ∧ X < 128 ^ k ∧ dec 0 0 bs = dec X k (bs.drop k) := by
          rcases hrel with h | h
          · omega
          · exact h
        have hcell : w.cell? ⟨b, off + k, none⟩ = some (.int .u8 (bs[k]?.getD 0)) := by simpa [List.getD] using hc k (by omega)
        have hrk := hb.getD k
        obtain ⟨c, HC⟩ : ∃ c, Hid (c = bs[k]?.getD 0) := ⟨_, rfl⟩
        rw [← HC.out] at hcell hrk
        obtain ⟨hc0, hc1⟩ := hrk
        have HD : Hid (dec 0 0 bs = dec X k (bs.drop k)) := hd
        have HX : Hid (X < 128 ^ k) := hX
        clear hd hc hb hrel hX
        have hmask := and127b hc0 hc1
        have hhigh := and128b hc0 hc1
        by_cases hc128 : c < 128
        · have hz : c / 128 = 0 := by omega
          have hmod : c % 128 = c := by omega
          rw [hmod] at hmask
          clear hmod
          have hlast := dec_last (X := X) (hlen ▸ (by omega : k < len)) hk9 HC.out hc128
          by_cases hr : rightB c k = true
          · have hre := rightEnd_any c k w hc0 hc1 (by omega)
            rw [hr] at hre
            have hv : dec 0 0 bs = (X + c.toNat * 128 ^ k, k + 1, 0) := by rw [HD.out, hlast, if_pos hr]
            have hx : bits .or .u64 (X : Int) (IntKind.u64.wrap (c * 2 ^ (7 * k))) = ((X + c.toNat * 128 ^ k : Nat) : Int) := by
              rw [or_shl HX.out (by omega) hc0, Nat.mod_eq_of_lt (small_sum HX.out (by omega) (by omega) (by have := rightB_small hr; omega))]
            have HV : Hid (dec 0 0 bs = (X + c.toNat * 128 ^ k, k + 1, 0)) := hv
            have HX2 : Hid (bits .or .u64 (X : Int) (IntKind.u64.wrap (c * 2 ^ (7 * k))) = ((X + c.toNat * 128 ^ k : Nat) : Int)) := hx
            have HR := hid hre
            clear hv hx hre hlast hr HD
            go_wp2_with fail
            refine HR.out.mono ?_
            rintro e w' ⟨rfl, rfl⟩
            go_wp2
            go_ret3
            exact ⟨ret3 (by rw [HV.out]; exact HX2.out) (by rw [HV.out]; go_num) (by rw [HV.out]), rfl⟩
          · have hre := rightEnd_any c k w hc0 hc1 (by omega)
            rw [Bool.eq_false_iff.2 hr] at hre
            have hv : dec 0 0 bs = (0, 0, 10) := by rw [HD.out, hlast, if_neg hr]
            have HV : Hid (dec 0 0 bs = (0, 0, 10)) := hv
            have HR := hid hre
            clear hv hre hlast hr HD
            go_wp2_with fail
            refine HR.out.mono ?_
            rintro e w' ⟨rfl, rfl⟩
            go_wp2
            go_ret3
            exact ⟨by rw [HV.out]; rfl, rfl⟩
        · have hz : c / 128 = 1 := by omega
          have hmod : c % 128 = c - 128 := by omega
          rw [hmod] at hmask
          clear hmod
          have hmore := dec_more (X := X) (hlen ▸ (by omega : k < len)) hk9 HC.out hc128
          have HM : Hid (dec 0 0 bs = dec (X + (c.toNat - 128) * 128 ^ k) (k + 1) (bs.drop (k + 1))) := by show _ = _; rw [HD.out, hmore]
          clear hmore HD
          go_wp2
          go_round
          case rel =>
            refine ⟨k + 1, _, by omega, by go_num, rfl, ?_⟩
            by_cases hlast : k = 9
            · refine .inl ⟨by omega, ?_⟩
              rw [HM.out, hlast]
              exact dec_ten _ _
            · refine .inr ⟨by omega, X + (c.toNat - 128) * 128 ^ k, ?_, next_sum HX.out (by omega), HM.out⟩
              rw [or_shl HX.out (by omega) (by omega), show (c - 128).toNat = c.toNat - 128 by omega, Nat.mod_eq_of_lt (small_sum HX.out (by omega) (by omega) (by omega))]
          case measure => simp [intOf]; omega
      · have hv : dec 0 0 bs = (0, 0, 10) := by
          rcases hrel with ⟨_, h⟩ | ⟨_, X, _, _, h⟩
          · exact h
          · rw [h, dec_end (by omega)]
        have HV : Hid (dec 0 0 bs = (0, 0, 10)) := hv
        clear hv hrel hc hb
        go_wp2
        go_ret3
        exact ⟨by rw [HV.out]; rfl, rfl⟩
  · have h10' : ¬ (len : Int) ≤ 10 := by omega
    have hgt : (10 : Int) < (len : Int) := by omega
    go_enter Try.func15, Try.ntmps15
    go_wp2
    go_loop [5, 14] (fun x i => ∃ (k : Nat) (Y : Int), k ≤ 10 ∧ i = .int .i64 k ∧ x = .int .u64 Y ∧ ((k = 10 ∧ dec 0 0 bs = (0, 0, 10)) ∨ (k < 10 ∧ ∃ X : Nat, Y = (X : Int) ∧ X < 128 ^ k ∧ dec 0 0 bs = dec X k (bs.drop k)))) (fun _ i => 10 - (intOf i).toNat)
    case atStart => exact ⟨0, 0, by omega, rfl, rfl, .inr ⟨by omega, 0, rfl, by simp, rfl⟩⟩
    case round =>
      obtain ⟨k, Y, hk, rfl, rfl, hrel⟩ := hrel
      by_cases hkm : k < 10
      · obtain ⟨hk9, X, rfl, hX, hd⟩ : k < 10 ∧ ∃ X : Nat, Y = (X : Int) ∧ X < 128 ^ k ∧ dec 0 0 bs = dec X k (bs.drop k) := by
          rcases hrel with h | h
          · omega
          · exact h
        have hcell : w.cell? ⟨b, off + k, none⟩ = some (.int .u8 (bs[k]?.getD 0)) := by simpa [List.getD] using hc k (by omega)
        have hrk := hb.getD k
        obtain ⟨c, HC⟩ : ∃ c, Hid (c = bs[k]?.getD 0) := ⟨_, rfl⟩
        rw [← HC.out] at hcell hrk
        obtain ⟨hc0, hc1⟩ := hrk
        have HD : Hid (dec 0 0 bs = dec X k (bs.drop k)) := hd
        have HX : Hid (X < 128 ^ k) := hX
        clear hd hc hb hrel hX
        have hmask := and127b hc0 hc1
        have hhigh := and128b hc0 hc1
        by_cases hc128 : c < 128
        · have hz : c / 128 = 0 := by omega
          have hmod : c % 128 = c := by omega
          rw [hmod] at hmask
          clear hmod
          have hlast := dec_last (X := X) (hlen ▸ (by omega : k < len)) hk9 HC.out hc128
          by_cases hr : rightB c k = true
          · have hre := rightEnd_any c k w hc0 hc1 (by omega)
            rw [hr] at hre
            have hv : dec 0 0 bs = (X + c.toNat * 128 ^ k, k + 1, 0) := by rw [HD.out, hlast, if_pos hr]
            have hx : bits .or .u64 (X : Int) (IntKind.u64.wrap (c * 2 ^ (7 * k))) = ((X + c.toNat * 128 ^ k : Nat) : Int) := by
              rw [or_shl HX.out (by omega) hc0, Nat.mod_eq_of_lt (small_sum HX.out (by omega) (by omega) (by have := rightB_small hr; omega))]
            have HV : Hid (dec 0 0 bs = (X + c.toNat * 128 ^ k, k + 1, 0)) := hv
            have HX2 : Hid (bits .or .u64 (X : Int) (IntKind.u64.wrap (c * 2 ^ (7 * k))) = ((X + c.toNat * 128 ^ k : Nat) : Int)) := hx
            have HR := hid hre
            clear hv hx hre hlast hr HD
            go_wp2_with fail
            refine HR.out.mono ?_
            rintro e w' ⟨rfl, rfl⟩
            go_wp2
            go_ret3
            exact ⟨ret3 (by rw [HV.out]; exact HX2.out) (by rw [HV.out]; go_num) (by rw [HV.out]), rfl⟩
          · have hre := rightEnd_any c k w hc0 hc1 (by omega)
            rw [Bool.eq_false_iff.2 hr] at hre
            have hv : dec 0 0 bs = (0, 0, 10) := by rw [HD.out, hlast, if_neg hr]
            have HV : Hid (dec 0 0 bs = (0, 0, 10)) := hv
            have HR := hid hre
            clear hv hre hlast hr HD
            go_wp2_with fail
            refine HR.out.mono ?_
            rintro e w' ⟨rfl, rfl⟩
            go_wp2
            go_ret3
            exact ⟨by rw [HV.out]; rfl, rfl⟩
        · have hz : c / 128 = 1 := by omega
          have hmod : c % 128 = c - 128 := by omega
          rw [hmod] at hmask
          clear hmod
          have hmore := dec_more (X := X) (hlen ▸ (by omega : k < len)) hk9 HC.out hc128
          have HM : Hid (dec 0 0 bs = dec (X + (c.toNat - 128) * 128 ^ k) (k + 1) (bs.drop (k + 1))) := by show _ = _; rw [HD.out, hmore]
          clear hmore HD
          go_wp2
          go_round
          case rel =>
            refine ⟨k + 1, _, by omega, by go_num, rfl, ?_⟩
            by_cases hlast : k = 9
            · refine .inl ⟨by omega, ?_⟩
              rw [HM.out, hlast]
              exact dec_ten _ _
            · refine .inr ⟨by omega, X + (c.toNat - 128) * 128 ^ k, ?_, next_sum HX.out (by omega), HM.out⟩
              rw [or_shl HX.out (by omega) (by omega), show (c - 128).toNat = c.toNat - 128 by omega, Nat.mod_eq_of_lt (small_sum HX.out (by omega) (by omega) (by omega))]
          case measure => simp [intOf]; omega
      · have hv : dec 0 0 bs = (0, 0, 10) := by
          rcases hrel with ⟨_, h⟩ | ⟨_, X, _, _, h⟩
          · exact h
          · rw [h, dec_end (by omega)]
        have HV : Hid (dec 0 0 bs = (0, 0, 10)) := hv
        clear hv hrel hc hb
        go_wp2
        go_ret3
        exact ⟨by rw [HV.out]; rfl, rfl⟩

theorem readUint_empty (ao : Option Addr) (cap : Nat) (w : World) :
    Calls Try.prog 15 #[.slice ao 0 cap] w fun e w' => e = .returned (.tuple #[.int .u64 0, .int .i64 0, .int .i64 10]) ∧ w' = w := by
  go_enter Try.func15, Try.ntmps15
  go_wp2
  refine wp_loop_rounds 1 ?_
  rw [rounds_succ]
  go_wp2
  go_ret3
  exact ⟨rfl, rfl⟩

theorem readUint_any (ao : Option Addr) (len cap : Nat) (bs : List Int) (w : World) (h : Held w ao len cap bs) :
    Calls Try.prog 15 #[.slice ao len cap] w fun e w' => e = .returned (.tuple #[.int .u64 (dec 0 0 bs).1, .int .i64 (dec 0 0 bs).2.1, .int .i64 (dec 0 0 bs).2.2]) ∧ w' = w := by
  by_cases hp : 0 < len
  · obtain ⟨b, off, rfl, hb, hc⟩ := h.at hp
    exact readUint_full b off len cap bs w h.hlen hp h.hcap (by have := h.hmax; unfold maxLen at this; omega) h.byte hc
  · obtain rfl : len = 0 := by omega
    have : bs = [] := List.eq_nil_of_length_eq_zero h.hlen
    subst this
    exact readUint_empty ao cap w
end Go.Proofs.Ytjjgojjllbdpkaa
