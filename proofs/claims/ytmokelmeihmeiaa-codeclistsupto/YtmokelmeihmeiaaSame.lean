/-
  pannierref01.same tells whether two slices of bytes hold the same, and pannierref01.ReadUint answers what 'dec' tells of any bytes, as codec.ReadUint does; both write nothing that was there.
-/
import Derived.Test.YtmokelmeihmeiaaPuts
import Derived.Test.YtmokelmeihmeiaaReads
import Derived.Deep.QuietTactic
import Derived.BigQuiet
import Derived.Deep.RegionWith
namespace Go.Proofs.Ytmokelmeihmeiaa
open Go.RowKit

theorem take_snoc {l : List Int} {k : Nat} (h : k < l.length) : l.take (k + 1) = l.take k ++ [l.getD k 0] := by
  rw [List.take_succ_eq_append_getElem h]
  simp [List.getD, List.getElem?_eq_getElem h]

theorem same_full (a b : Nat) (offa offb n capa capb : Nat) (xs ys : List Int) (w : World) (hx : xs.length = n) (hy : ys.length = n) (hp : 0 < n) (hmax : n ≤ 9223372036854775807)
    (hca : ∀ j, j < n → w.cell? ⟨a, offa + j, none⟩ = some (.int .u8 (xs.getD j 0))) (hcb : ∀ j, j < n → w.cell? ⟨b, offb + j, none⟩ = some (.int .u8 (ys.getD j 0))) :
    Calls Try.prog 34 #[.slice (some ⟨a, offa, none⟩) n capa, .slice (some ⟨b, offb, none⟩) n capb] w fun e w' => e = .returned (.bool (xs == ys)) ∧ ∃ q, w' = w.drewN q := by
  go_enter Try.func34, Try.ntmps34
  go_wp2
  go_loopw [5] (fun i wr => ∃ k : Nat, k ≤ n ∧ i = .int .i64 k ∧ xs.take k = ys.take k ∧ ∃ q, wr = w.drewN q) (fun i _ => n - (intOf i).toNat)
  case atStart => exact ⟨0, by omega, rfl, rfl, 0, rfl⟩
  case round =>
    obtain ⟨k, hk, rfl, htk, q, rfl⟩ := hrel
    by_cases hkn : k < n
    · obtain ⟨c, HC⟩ : ∃ c, Hid (c = xs.getD k 0) := ⟨_, rfl⟩
      obtain ⟨d, HD⟩ : ∃ d, Hid (d = ys.getD k 0) := ⟨_, rfl⟩
      have hc1 : w.cell? ⟨a, offa + k, none⟩ = some (.int .u8 c) := by rw [HC.out]; exact hca k hkn
      have hc2 : w.cell? ⟨b, offb + k, none⟩ = some (.int .u8 d) := by rw [HD.out]; exact hcb k hkn
      have hk0 : (0 : Int) ≤ (k : Int) := by omega
      have hkI : (k : Int) < (n : Int) := by omega
      have HT : Hid (xs.take k = ys.take k) := htk
      clear hca hcb htk
      by_cases hcd : c = d
      · subst hcd
        have HE : Hid (xs.take (k + 1) = ys.take (k + 1)) := by
          show _ = _
          rw [take_snoc (by omega), take_snoc (by omega), HT.out, ← HC.out, ← HD.out]
        have hne : (c != c) = false := by simp
        go_wp2
        go_quiet (fail)
        go_wp2
        go_roundw
        case rel => exact ⟨k + 1, by omega, by go_num, HE.out, _, rfl⟩
        case measure => simp [intOf]; omega
      · have hne : (c != d) = true := by simpa using hcd
        have HV : Hid ((xs == ys) = false) := by
          show _ = _
          rw [beq_eq_false_iff_ne]
          intro he
          apply hcd
          rw [HC.out, HD.out, he]
        clear hcd
        go_wp2
        go_quiet (fail)
        go_wp2
        go_ret
        exact ⟨ret_bool HV.out.symm, _, drewN_add _ _ _⟩
    · have HV : Hid ((xs == ys) = true) := by
        show _ = _
        rw [beq_iff_eq]
        have hkn' : k = n := by omega
        rw [hkn', List.take_of_length_le (by omega), List.take_of_length_le (by omega)] at htk
        exact htk
      clear hca hcb htk
      go_wp2
      go_ret
      exact ⟨ret_bool HV.out.symm, _, rfl⟩

theorem same_len (ao bo : Option Addr) (n m capa capb : Nat) (w : World) (h : n ≠ m) :
    Calls Try.prog 34 #[.slice ao n capa, .slice bo m capb] w fun e w' => e = .returned (.bool false) ∧ ∃ q, w' = w.drewN q := by
  have hne : ((n : Int) != (m : Int)) = true := by simp; omega
  go_enter Try.func34, Try.ntmps34
  go_wp2
  go_ret
  exact ⟨rfl, 0, rfl⟩

theorem same_zero (ao bo : Option Addr) (capa capb : Nat) (w : World) :
    Calls Try.prog 34 #[.slice ao 0 capa, .slice bo 0 capb] w fun e w' => e = .returned (.bool true) ∧ ∃ q, w' = w.drewN q := by
  go_enter Try.func34, Try.ntmps34
  go_wp2
  refine wp_loop_rounds 1 ?_
  rw [rounds_succ]
  go_wp2
  go_ret
  exact ⟨rfl, 0, rfl⟩

theorem same_any (ao bo : Option Addr) (n m capa capb : Nat) (xs ys : List Int) (w : World) (hx : Held w ao n capa xs) (hy : Held w bo m capb ys) :
    Calls Try.prog 34 #[.slice ao n capa, .slice bo m capb] w fun e w' => e = .returned (.bool (xs == ys)) ∧ ∃ q, w' = w.drewN q := by
  by_cases hnm : n = m
  · subst hnm
    by_cases hp : 0 < n
    · obtain ⟨a, offa, rfl, _, hca⟩ := hx.at hp
      obtain ⟨b, offb, rfl, _, hcb⟩ := hy.at hp
      exact same_full a b offa offb n capa capb xs ys w hx.hlen hy.hlen hp (by have := hx.hmax; have := hx.hcap; unfold maxLen at *; omega) hca hcb
    · obtain rfl : n = 0 := by omega
      have e1 : xs = [] := List.eq_nil_of_length_eq_zero hx.hlen
      have e2 : ys = [] := List.eq_nil_of_length_eq_zero hy.hlen
      subst e1 e2
      exact same_zero ao bo capa capb w
  · have e : (xs == ys) = false := by
      rw [beq_eq_false_iff_ne]
      intro he
      have h1 := hx.hlen
      have h2 := hy.hlen
      rw [he] at h1
      omega
    rw [e]
    exact same_len ao bo n m capa capb w hnm

/-- Uint's answer, read as a slice. -/
theorem refUint_held (x : Int) (w : World) (h0 : 0 ≤ x) (hx : x < 18446744073709551616) :
    Calls Try.prog 9 #[.int .u64 x] w fun e w' => ∃ ao cap, e = .returned (.slice ao (enc x.toNat).length cap) ∧ Held w' ao (enc x.toNat).length cap (enc x.toNat) ∧ w'.ownsRow w.heap.size 5 1 (.slice ao (enc x.toNat).length cap) (enc x.toNat).length (nums (enc x.toNat)) ∧ Below w.heap.size w w' := by
  refine (refUint_any x w h0 hx).mono ?_
  rintro e w' ⟨v, rfl, hown, hb⟩
  obtain ⟨ao, cap, rfl, hh⟩ := held_of_own hown (enc_byte _)
  exact ⟨ao, cap, rfl, hh, hown, hb⟩

theorem refUint_heldN (x : Nat) (w : World) (hx : x < 18446744073709551616) :
    Calls Try.prog 9 #[.int .u64 x] w fun e w' => ∃ ao cap, e = .returned (.slice ao (enc x).length cap) ∧ Held w' ao (enc x).length cap (enc x) ∧ w'.ownsRow w.heap.size 5 1 (.slice ao (enc x).length cap) (enc x).length (nums (enc x)) ∧ Below w.heap.size w w' := by
  have := refUint_held x w (by omega) (by omega)
  rwa [Int.toNat_natCast] at this

theorem refRead_full (b off len cap : Nat) (bs : List Int) (w : World) (hh : Held w (some ⟨b, off, none⟩) len cap bs) (hp : 0 < len)
    (hc : ∀ j, j < len → w.cell? ⟨b, off + j, none⟩ = some (.int .u8 (bs.getD j 0))) :
    Calls Try.prog 12 #[.slice (some ⟨b, off, none⟩) len cap] w fun e w' => e = .returned (.tuple #[.int .u64 (dec 0 0 bs).1, .int .i64 (dec 0 0 bs).2.1, .int .i64 (dec 0 0 bs).2.2]) ∧ Below w.heap.size w w' := by
  have hlen := hh.hlen
  have hb := hh.byte
  have hcap := hh.hcap
  have hmax := hh.hmax
  unfold maxLen at hmax
  have HH : Hid (Held w (some ⟨b, off, none⟩) len cap bs) := hh
  clear hh
  go_enter Try.func12, Try.ntmps12
  go_wp2
  go_loop [5, 6] (fun x i => ∃ (k : Nat) (Y : Int), k ≤ len ∧ k ≤ 10 ∧ i = .int .i64 k ∧ x = .int .u64 Y ∧ ((k = 10 ∧ dec 0 0 bs = (0, 0, 10)) ∨ (k < 10 ∧ ∃ X : Nat, Y = (X : Int) ∧ X < 128 ^ k ∧ bs.take k = contB k X ∧ dec 0 0 bs = dec X k (bs.drop k)))) (fun _ i => len - (intOf i).toNat)
  case atStart => exact ⟨0, 0, by omega, by omega, rfl, rfl, .inr ⟨by omega, 0, rfl, by simp, rfl, rfl⟩⟩
  case round =>
    obtain ⟨k, Y, hk, hk10, rfl, rfl, hrel⟩ := hrel
    by_cases hkm : k < len ∧ k < 10
    · obtain ⟨hkl, hk9⟩ := hkm
      obtain ⟨X, rfl, hX, htk, hd⟩ : ∃ X : Nat, Y = (X : Int) ∧ X < 128 ^ k ∧ bs.take k = contB k X ∧ dec 0 0 bs = dec X k (bs.drop k) := by
        rcases hrel with h | h
        · omega
        · exact h.2
      have hcell : w.cell? ⟨b, off + k, none⟩ = some (.int .u8 (bs[k]?.getD 0)) := by simpa [List.getD] using hc k (by omega)
      have hrk := hb.getD k
      obtain ⟨c, HC⟩ : ∃ c, Hid (c = bs[k]?.getD 0) := ⟨_, rfl⟩
      rw [← HC.out] at hcell hrk
      obtain ⟨hc0, hc1⟩ := hrk
      have HD : Hid (dec 0 0 bs = dec X k (bs.drop k)) := hd
      have HX : Hid (X < 128 ^ k) := hX
      have HT : Hid (bs.take k = contB k X) := htk
      have hsn : bs.take (k + 1) = contB k X ++ [c] := by rw [take_snoc (by omega), htk, HC.out]; simp [List.getD]
      have HS : Hid (bs.take (k + 1) = contB k X ++ [c]) := hsn
      have hkI : (k : Int) < (len : Int) := by omega
      have hk0 : (0 : Int) ≤ (k : Int) := by omega
      have hk1 : (0 : Int) ≤ (k : Int) + 1 := by omega
      have hk2 : (k : Int) + 1 ≤ (cap : Int) := by omega
      have hwr : IntKind.i64.wrap ((k : Int) + 1) = (k : Int) + 1 := by rw [IntKind.wrap_i64]; omega
      have hsl := fun W => run_cut_h (P := Try.prog) W 23 5 Try.underlying23 Try.size5 (some ⟨b, off, none⟩) len cap (k + 1) ((k : Int) + 1) (by omega) (by omega)
      clear hd hc hb hrel hX htk hsn
      by_cases hc128 : c < 128
      · have hmod : c % 128 = c := by omega
        have hlast := dec_last (X := X) (hlen ▸ (by omega : k < len)) hk9 HC.out hc128
        obtain ⟨M, HM⟩ : ∃ M : Nat, Hid (M = (X + c.toNat * 128 ^ k) % 18446744073709551616) := ⟨_, rfl⟩
        have hM : M < 18446744073709551616 := by rw [HM.out]; exact Nat.mod_lt _ (by decide)
        have hx : bits .or .u64 (X : Int) (IntKind.u64.wrap (c * 2 ^ (7 * k))) = (M : Int) := by rw [or_shl HX.out (by omega) hc0, HM.out]
        have hsame : (enc M == bs.take (k + 1)) = rightB c k := by
          rw [HS.out, HM.out]
          obtain ⟨d, rfl⟩ := Int.eq_ofNat_of_zero_le hc0
          have := enc_iff (k := k) (X := X) (c := d) (by omega) HX.out (by omega)
          rw [Bool.eq_iff_iff, beq_iff_eq]
          simpa using this
        by_cases hr : rightB c k = true
        · rw [hr] at hsame
          rw [if_pos hr] at hlast
          have HV : Hid (dec 0 0 bs = (X + c.toNat * 128 ^ k, k + 1, 0)) := by show _ = _; rw [HD.out, hlast]
          have HMX : Hid (M = X + c.toNat * 128 ^ k) := by show _ = _; rw [HM.out, Nat.mod_eq_of_lt (small_sum HX.out (by omega) (by omega) (by have := rightB_small hr; omega))]
          have HSA : Hid ((enc M == bs.take (k + 1)) = true) := hsame
          clear hlast hsame hr HD
          go_wp2
          go_region_with (first | (go_at_call 9; refine (refUint_heldN M _ hM).mono ?_; rintro e w1 ⟨ao, cp, rfl, hh1, hown1, hb1⟩) | (go_at_call 34; refine (same_any _ _ _ _ _ _ (enc M) (List.take (k + 1) bs) _ ?_ ?_).mono ?_; exact hh1; exact ((HH.out.take (n := k + 1) (by omega)).drew.below hb1 (Nat.le_refl _)); rintro e w2 ⟨rfl, q, rfl⟩; rw [HSA.out]))
          all_goals
            go_wp2
            go_ret3
            exact ⟨ret3 (by rw [HV.out, HMX.out]) (by rw [HV.out]; go_num) (by rw [HV.out]), below_dn (below_from_drew hb1) _⟩
        · rw [Bool.eq_false_iff.2 hr] at hsame
          rw [if_neg hr] at hlast
          have HV : Hid (dec 0 0 bs = (0, 0, 10)) := by show _ = _; rw [HD.out, hlast]
          have HSA : Hid ((enc M == bs.take (k + 1)) = false) := hsame
          clear hlast hsame hr HD
          go_wp2
          go_region_with (first | (go_at_call 9; refine (refUint_heldN M _ hM).mono ?_; rintro e w1 ⟨ao, cp, rfl, hh1, hown1, hb1⟩) | (go_at_call 34; refine (same_any _ _ _ _ _ _ (enc M) (List.take (k + 1) bs) _ ?_ ?_).mono ?_; exact hh1; exact ((HH.out.take (n := k + 1) (by omega)).drew.below hb1 (Nat.le_refl _)); rintro e w2 ⟨rfl, q, rfl⟩; rw [HSA.out]))
          all_goals
            go_wp2
            go_ret3
            exact ⟨by rw [HV.out]; rfl, below_dn (below_from_drew hb1) _⟩
      · have hmod : c % 128 = c - 128 := by omega
        have hmore := dec_more (X := X) (hlen ▸ (by omega : k < len)) hk9 HC.out hc128
        have HM : Hid (dec 0 0 bs = dec (X + (c.toNat - 128) * 128 ^ k) (k + 1) (bs.drop (k + 1))) := by show _ = _; rw [HD.out, hmore]
        have hc128' : ¬ c < 128 := hc128
        clear hmore HD hsl
        go_wp2
        go_round
        case rel =>
          refine ⟨k + 1, _, by omega, by omega, by go_num, rfl, ?_⟩
          by_cases hlast : k = 9
          · refine .inl ⟨by omega, ?_⟩
            rw [HM.out, hlast]
            exact dec_ten _ _
          · refine .inr ⟨by omega, X + (c.toNat - 128) * 128 ^ k, ?_, next_sum HX.out (by omega), ?_, HM.out⟩
            · rw [or_shl HX.out (by omega) (by omega), show (c - 128).toNat = c.toNat - 128 by omega, Nat.mod_eq_of_lt (small_sum HX.out (by omega) (by omega) (by omega))]
            · rw [HS.out, contB_snoc k X (c.toNat - 128) HX.out (by omega)]
              have : ((c.toNat - 128 + 128 : Nat) : Int) = c := by omega
              rw [this]
        case measure => simp [intOf]; omega
    · have hv : dec 0 0 bs = (0, 0, 10) := by
        rcases hrel with ⟨_, h⟩ | ⟨_, X, _, _, _, h⟩
        · exact h
        · rw [h, dec_end (by omega)]
      have HV : Hid (dec 0 0 bs = (0, 0, 10)) := hv
      clear hv hrel hc hb
      by_cases hkl : k < len
      · have hkI : (k : Int) < (len : Int) := by omega
        have hk9 : ¬ (k : Int) < 10 := by omega
        go_wp2
        go_ret3
        exact ⟨by rw [HV.out]; rfl, Below.refl _ _⟩
      · have hkI : ¬ (k : Int) < (len : Int) := by omega
        go_wp2
        go_ret3
        exact ⟨by rw [HV.out]; rfl, Below.refl _ _⟩

theorem refRead_empty (ao : Option Addr) (cap : Nat) (w : World) :
    Calls Try.prog 12 #[.slice ao 0 cap] w fun e w' => e = .returned (.tuple #[.int .u64 0, .int .i64 0, .int .i64 10]) ∧ Below w.heap.size w w' := by
  go_enter Try.func12, Try.ntmps12
  go_wp2
  refine wp_loop_rounds 1 ?_
  rw [rounds_succ]
  go_wp2
  go_ret3
  exact ⟨rfl, Below.refl _ _⟩

theorem refRead_any (ao : Option Addr) (len cap : Nat) (bs : List Int) (w : World) (h : Held w ao len cap bs) :
    Calls Try.prog 12 #[.slice ao len cap] w fun e w' => e = .returned (.tuple #[.int .u64 (dec 0 0 bs).1, .int .i64 (dec 0 0 bs).2.1, .int .i64 (dec 0 0 bs).2.2]) ∧ Below w.heap.size w w' := by
  by_cases hp : 0 < len
  · obtain ⟨b, off, rfl, hb, hc⟩ := h.at hp
    exact refRead_full b off len cap bs w h hp hc
  · obtain rfl : len = 0 := by omega
    have : bs = [] := List.eq_nil_of_length_eq_zero h.hlen
    subst this
    exact refRead_empty ao cap w
end Go.Proofs.Ytmokelmeihmeiaa
