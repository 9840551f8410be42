/-
  pannierref01.same tells whether two slices of bytes hold the same, and pannierref01.ReadUint answers what 'dec' tells of any bytes, as codec.ReadUint does; both write nothing that was there.
-/
import Derived.Test.YtfmnbehopdmahaaGreatTexts
import Derived.Test.YtfmnbehopdmahaaGreatRdB
import Derived.Deep.QuietTactic
import Derived.BigQuiet
import Derived.Deep.RegionWith
import Derived.Test.YtfmnbehopdmahaaGreatCartMath
namespace Go.Proofs.YtfmnbehopdmahaaGreat
open Go.RowKit

theorem take_snoc {l : List Int} {k : Nat} (h : k < l.length) : l.take (k + 1) = l.take k ++ [l.getD k 0] := by
  rw [List.take_succ_eq_append_getElem h]
  simp [List.getD, List.getElem?_eq_getElem h]

theorem same_full (a b : Nat) (offa offb n capa capb : Nat) (xs ys : List Int) (w : World) (hx : xs.length = n) (hy : ys.length = n) (hp : 0 < n) (hmax : n ≤ 9223372036854775807)
    (hca : ∀ j, j < n → w.cell? ⟨a, offa + j, none⟩ = some (.int .u8 (xs.getD j 0))) (hcb : ∀ j, j < n → w.cell? ⟨b, offb + j, none⟩ = some (.int .u8 (ys.getD j 0))) :
    Calls Tryz.prog 133 #[.slice (some ⟨a, offa, none⟩) n capa, .slice (some ⟨b, offb, none⟩) n capb] w fun e w' => e = .returned (.bool (xs == ys)) ∧ ∃ q, w' = w.drewN q := by
  go_enter Tryz.func133, Tryz.ntmps133
  go_wp2
  go_loopw [5] (fun i wr => ∃ k : Nat, k ≤ n ∧ i = .int .i64 k ∧ xs.take k = ys.take k ∧ ∃ q, wr = w.drewN q) (fun i _ => n - (intOf i).toNat)
  case atStart => exact ⟨0, by omega, rfl, rfl, 0, rfl⟩
  case round =>
    obtain ⟨k, hk, rfl, htk, q, rfl⟩ := hrel
    by_cases hkn : k < n
    · obtain ⟨c, HC⟩ : ∃ c, Hid (c = xs.getD k 0) := ⟨_, rfl⟩
      obtain ⟨d, HD⟩ : ∃ d, Hid (d = ys.getD k 0) := ⟨_, rfl⟩
      have hc1 : w.cell? ⟨a, offa + k, none⟩ = some (.int .u8 c) := by rw [HC.out]; exact hca k hkn
      have hc2 : w.cell? ⟨b, offb + k, none⟩ = some (.int .u8 d) := by rw [HD.out]; exact hcb k hkn
      have hk0 : (0 : Int) ≤ (k : Int) := by omega
      have hkI : (k : Int) < (n : Int) := by omega
      have HT : Hid (xs.take k = ys.take k) := htk
      clear hca hcb htk
      by_cases hcd : c = d
      · subst hcd
        have HE : Hid (xs.take (k + 1) = ys.take (k + 1)) := by
          show _ = _
          rw [take_snoc (by omega), take_snoc (by omega), HT.out, ← HC.out, ← HD.out]
        have hne : (c != c) = false := by simp
        go_wp2
        go_quiet (fail)
        go_wp2
        go_roundw
        case rel => exact ⟨k + 1, by omega, by go_num, HE.out, _, rfl⟩
        case measure => simp [intOf]; omega
      · have hne : (c != d) = true := by simpa using hcd
        have HV : Hid ((xs == ys) = false) := by
          show _ = _
          rw [beq_eq_false_iff_ne]
          intro he
          apply hcd
          rw [HC.out, HD.out, he]
        clear hcd
        go_wp2
        go_quiet (fail)
        go_wp2
        go_ret
        exact ⟨ret_bool HV.out.symm, _, drewN_add _ _ _⟩
    · have HV : Hid ((xs == ys) = true) := by
        show _ = _
        rw [beq_iff_eq]
        have hkn' : k = n := by omega
        rw [hkn', List.take_of_length_le (by omega), List.take_of_length_le (by omega)] at htk
        exact htk
      clear hca hcb htk
      go_wp2
      go_ret
      exact ⟨ret_bool HV.out.symm, _, rfl⟩

theorem same_len (ao bo : Option Addr) (n m capa capb : Nat) (w : World) (h : n ≠ m) :
    Calls Tryz.prog 133 #[.slice ao n capa, .slice bo m capb] w fun e w' => e = .returned (.bool false) ∧ ∃ q, w' = w.drewN q := by
  have hne : ((n : Int) != (m : Int)) = true := by simp; omega
  go_enter Tryz.func133, Tryz.ntmps133
  go_wp2
  go_ret
  exact ⟨rfl, 0, rfl⟩

theorem same_zero (ao bo : Option Addr) (capa capb : Nat) (w : World) :
    Calls Tryz.prog 133 #[.slice ao 0 capa, .slice bo 0 capb] w fun e w' => e = .returned (.bool true) ∧ ∃ q, w' = w.drewN q := by
  go_enter Tryz.func133, Tryz.ntmps133
  go_wp2
  refine wp_loop_rounds 1 ?_
  rw [rounds_succ]
  go_wp2
  go_ret
  exact ⟨rfl, 0, rfl⟩

theorem same_any (ao bo : Option Addr) (n m capa capb : Nat) (xs ys : List Int) (w : World) (hx : Held w ao n capa xs) (hy : Held w bo m capb ys) :
    Calls Tryz.prog 133 #[.slice ao n capa, .slice bo m capb] w fun e w' => e = .returned (.bool (xs == ys)) ∧ ∃ q, w' = w.drewN q := by
  by_cases hnm : n = m
  · subst hnm
    by_cases hp : 0 < n
    · obtain ⟨a, offa, rfl, _, hca⟩ := hx.at hp
      obtain ⟨b, offb, rfl, _, hcb⟩ := hy.at hp
      exact same_full a b offa offb n capa capb xs ys w hx.hlen hy.hlen hp (by have := hx.hmax; have := hx.hcap; unfold maxLen at *; omega) hca hcb
    · obtain rfl : n = 0 := by omega
      have e1 : xs = [] := List.eq_nil_of_length_eq_zero hx.hlen
      have e2 : ys = [] := List.eq_nil_of_length_eq_zero hy.hlen
      subst e1 e2
      exact same_zero ao bo capa capb w
  · have e : (xs == ys) = false := by
      rw [beq_eq_false_iff_ne]
      intro he
      have h1 := hx.hlen
      have h2 := hy.hlen
      rw [he] at h1
      omega
    rw [e]
    exact same_len ao bo n m capa capb w hnm

/-- Uint's answer, read as a slice. -/
theorem refUint_held (x : Int) (w : World) (h0 : 0 ≤ x) (hx : x < 18446744073709551616) :
    Calls Tryz.prog 67 #[.int .u64 x] w fun e w' => ∃ ao cap, e = .returned (.slice ao (enc x.toNat).length cap) ∧ Held w' ao (enc x.toNat).length cap (enc x.toNat) ∧ w'.ownsRow w.heap.size 5 1 (.slice ao (enc x.toNat).length cap) (enc x.toNat).length (nums (enc x.toNat)) ∧ Below w.heap.size w w' := by
  refine (refUint_any x w h0 hx).mono ?_
  rintro e w' ⟨v, rfl, hown, hb⟩
  obtain ⟨ao, cap, rfl, hh⟩ := held_of_own hown (enc_byte _)
  exact ⟨ao, cap, rfl, hh, hown, hb⟩

theorem refUint_heldN (x : Nat) (w : World) (hx : x < 18446744073709551616) :
    Calls Tryz.prog 67 #[.int .u64 x] w fun e w' => ∃ ao cap, e = .returned (.slice ao (enc x).length cap) ∧ Held w' ao (enc x).length cap (enc x) ∧ w'.ownsRow w.heap.size 5 1 (.slice ao (enc x).length cap) (enc x).length (nums (enc x)) ∧ Below w.heap.size w w' := by
  have := refUint_held x w (by omega) (by omega)
  rwa [Int.toNat_natCast] at this

theorem refRead_full (b off len cap : Nat) (bs : List Int) (w : World) (hh : Held w (some ⟨b, off, none⟩) len cap bs) (hp : 0 < len)
    (hc : ∀ j, j < len → w.cell? ⟨b, off + j, none⟩ = some (.int .u8 (bs.getD j 0))) :
    Calls Tryz.prog 81 #[.slice (some ⟨b, off, none⟩) len cap] w fun e w' => e = .returned (.tuple #[.int .u64 (dec 0 0 bs).1, .int .i64 (dec 0 0 bs).2.1, .int .i64 (dec 0 0 bs).2.2]) ∧ Below w.heap.size w w' := by
  have hlen := hh.hlen
  have hb := hh.byte
  have hcap := hh.hcap
  have hmax := hh.hmax
  unfold maxLen at hmax
  have HH : Hid (Held w (some ⟨b, off, none⟩) len cap bs) := hh
  clear hh
  go_enter Tryz.func81, Tryz.ntmps81
  go_wp2
  go_loop [5, 6] (fun x i => ∃ (k : Nat) (Y : Int), k ≤ len ∧ k ≤ 10 ∧ i = .int .i64 k ∧ x = .int .u64 Y ∧ ((k = 10 ∧ dec 0 0 bs = (0, 0, 10)) ∨ (k < 10 ∧ ∃ X : Nat, Y = (X : Int) ∧ X < 128 ^ k ∧ bs.take k = contB k X ∧ dec 0 0 bs = dec X k (bs.drop k)))) (fun _ i => len - (intOf i).toNat)
  case atStart => exact ⟨0, 0, by omega, by omega, rfl, rfl, .inr ⟨by omega, 0, rfl, by simp, rfl, rfl⟩⟩
  case round =>
    obtain ⟨k, Y, hk, hk10, rfl, rfl, hrel⟩ := hrel
    by_cases hkm : k < len ∧ k < 10
    · obtain ⟨hkl, hk9⟩ := hkm
      obtain ⟨X, rfl, hX, htk, hd⟩ : ∃ X : Nat, Y = (X : Int) ∧ X < 128 ^ k ∧ bs.take k = contB k X ∧ dec 0 0 bs = dec X k (bs.drop k) := by
        rcases hrel with h | h
        · omega
        · exact h.2
      have hcell : w.cell? ⟨b, off + k, none⟩ = some (.int .u8 (bs[k]?.getD 0)) := hc k (by omega)
      have hrk := hb.getD k
      obtain ⟨c, HC⟩ : ∃ c, Hid (c = bs[k]?.getD 0) := ⟨_, rfl⟩
      rw [← HC.out] at hcell hrk
      obtain ⟨hc0, hc1⟩ := hrk
      have HD : Hid (dec 0 0 bs = dec X k (bs.drop k)) := hd
      have HX : Hid (X < 128 ^ k) := hX
      have HT : Hid (bs.take k = contB k X) := htk
      have hsn : bs.take (k + 1) = contB k X ++ [c] := by rw [take_snoc (by omega), htk, HC.out]; simp [List.getD]
      have HS : Hid (bs.take (k + 1) = contB k X ++ [c]) := hsn
      have hkI : (k : Int) < (len : Int) := by omega
      have hk0 : (0 : Int) ≤ (k : Int) := by omega
      have hk1 : (0 : Int) ≤ (k : Int) + 1 := by omega
      have hk2 : (k : Int) + 1 ≤ (cap : Int) := by omega
      have hwr : IntKind.i64.wrap ((k : Int) + 1) = (k : Int) + 1 := by rw [IntKind.wrap_i64]; omega
      have hsl := fun W => run_cut_h (P := Tryz.prog) W 66 5 Tryz.underlying66 Tryz.size5 (some ⟨b, off, none⟩) len cap (k + 1) ((k : Int) + 1) (by omega) (by omega)
      clear hd hc hb hrel hX htk hsn
      by_cases hc128 : c < 128
      · have hmod : c % 128 = c := by omega
        have hlast := dec_last (X := X) (hlen ▸ (by omega : k < len)) hk9 HC.out hc128
        obtain ⟨M, HM⟩ : ∃ M : Nat, Hid (M = (X + c.toNat * 128 ^ k) % 18446744073709551616) := ⟨_, rfl⟩
        have hM : M < 18446744073709551616 := by rw [HM.out]; exact Nat.mod_lt _ (by decide)
        have hx : bits .or .u64 (X : Int) (IntKind.u64.wrap (c * 2 ^ (7 * k))) = (M : Int) := by rw [or_shl HX.out (by omega) hc0, HM.out]
        have hsame : (enc M == bs.take (k + 1)) = rightB c k := by
          rw [HS.out, HM.out]
          obtain ⟨d, rfl⟩ := Int.eq_ofNat_of_zero_le hc0
          have := enc_iff (k := k) (X := X) (c := d) (by omega) HX.out (by omega)
          rw [Bool.eq_iff_iff, beq_iff_eq]
          simpa using this
        by_cases hr : rightB c k = true
        · rw [hr] at hsame
          rw [if_pos hr] at hlast
          have HV : Hid (dec 0 0 bs = (X + c.toNat * 128 ^ k, k + 1, 0)) := by show _ = _; rw [HD.out, hlast]
          have HMX : Hid (M = X + c.toNat * 128 ^ k) := by show _ = _; rw [HM.out, Nat.mod_eq_of_lt (small_sum HX.out (by omega) (by omega) (by have := rightB_small hr; omega))]
          have HSA : Hid ((enc M == bs.take (k + 1)) = true) := hsame
          clear hlast hsame hr HD
          go_wp2
          go_region_with (first | (go_at_call 67; refine (refUint_heldN M _ hM).mono ?_; rintro e w1 ⟨ao, cp, rfl, hh1, hown1, hb1⟩) | (go_at_call 133; refine (same_any _ _ _ _ _ _ (enc M) (List.take (k + 1) bs) _ ?_ ?_).mono ?_; exact hh1; exact ((HH.out.take (n := k + 1) (by omega)).drew.below hb1 (Nat.le_refl _)); rintro e w2 ⟨rfl, q, rfl⟩; rw [HSA.out]))
          all_goals
            go_wp2
            go_ret3
            exact ⟨ret3 (by rw [HV.out, HMX.out]) (by rw [HV.out]; go_num) (by rw [HV.out]), below_dn (below_from_drew hb1) _⟩
        · rw [Bool.eq_false_iff.2 hr] at hsame
          rw [if_neg hr] at hlast
          have HV : Hid (dec 0 0 bs = (0, 0, 10)) := by show _ = _; rw [HD.out, hlast]
          have HSA : Hid ((enc M == bs.take (k + 1)) = false) := hsame
          clear hlast hsame hr HD
          go_wp2
          go_region_with (first | (go_at_call 67; refine (refUint_heldN M _ hM).mono ?_; rintro e w1 ⟨ao, cp, rfl, hh1, hown1, hb1⟩) | (go_at_call 133; refine (same_any _ _ _ _ _ _ (enc M) (List.take (k + 1) bs) _ ?_ ?_).mono ?_; exact hh1; exact ((HH.out.take (n := k + 1) (by omega)).drew.below hb1 (Nat.le_refl _)); rintro e w2 ⟨rfl, q, rfl⟩; rw [HSA.out]))
          all_goals
            go_wp2
            go_ret3
            exact ⟨by rw [HV.out]; rfl, below_dn (below_from_drew hb1) _⟩
      · have hmod : c % 128 = c - 128 := by omega
        have hmore := dec_more (X := X) (hlen ▸ (by omega : k < len)) hk9 HC.out hc128
        have HM : Hid (dec 0 0 bs = dec (X + (c.toNat - 128) * 128 ^ k) (k + 1) (bs.drop (k + 1))) := by show _ = _; rw [HD.out, hmore]
        have hc128' : ¬ c < 128 := hc128
        clear hmore HD hsl
        go_wp2
        go_round
        case rel =>
          refine ⟨k + 1, _, by omega, by omega, by go_num, rfl, ?_⟩
          by_cases hlast : k = 9
          · refine .inl ⟨by omega, ?_⟩
            rw [HM.out, hlast]
            exact dec_ten _ _
          · refine .inr ⟨by omega, X + (c.toNat - 128) * 128 ^ k, ?_, next_sum HX.out (by omega), ?_, HM.out⟩
            · rw [or_shl HX.out (by omega) (by omega), show (c - 128).toNat = c.toNat - 128 by omega, Nat.mod_eq_of_lt (small_sum HX.out (by omega) (by omega) (by omega))]
            · rw [HS.out, contB_snoc k X (c.toNat - 128) HX.out (by omega)]
              have : ((c.toNat - 128 + 128 : Nat) : Int) = c := by omega
              rw [this]
        case measure => simp [intOf]; omega
    · have hv : dec 0 0 bs = (0, 0, 10) := by
        rcases hrel with ⟨_, h⟩ | ⟨_, X, _, _, _, h⟩
        · exact h
        · rw [h, dec_end (by omega)]
      have HV : Hid (dec 0 0 bs = (0, 0, 10)) := hv
      clear hv hrel hc hb
      by_cases hkl : k < len
      · have hkI : (k : Int) < (len : Int) := by omega
        have hk9 : ¬ (k : Int) < 10 := by omega
        go_wp2
        go_ret3
        exact ⟨by rw [HV.out]; rfl, Below.refl _ _⟩
      · have hkI : ¬ (k : Int) < (len : Int) := by omega
        go_wp2
        go_ret3
        exact ⟨by rw [HV.out]; rfl, Below.refl _ _⟩

theorem refRead_empty (ao : Option Addr) (cap : Nat) (w : World) :
    Calls Tryz.prog 81 #[.slice ao 0 cap] w fun e w' => e = .returned (.tuple #[.int .u64 0, .int .i64 0, .int .i64 10]) ∧ Below w.heap.size w w' := by
  go_enter Tryz.func81, Tryz.ntmps81
  go_wp2
  refine wp_loop_rounds 1 ?_
  rw [rounds_succ]
  go_wp2
  go_ret3
  exact ⟨rfl, Below.refl _ _⟩

theorem refRead_any (ao : Option Addr) (len cap : Nat) (bs : List Int) (w : World) (h : Held w ao len cap bs) :
    Calls Tryz.prog 81 #[.slice ao len cap] w fun e w' => e = .returned (.tuple #[.int .u64 (dec 0 0 bs).1, .int .i64 (dec 0 0 bs).2.1, .int .i64 (dec 0 0 bs).2.2]) ∧ Below w.heap.size w w' := by
  by_cases hp : 0 < len
  · obtain ⟨b, off, rfl, hb, hc⟩ := h.at hp
    exact refRead_full b off len cap bs w h hp hc
  · obtain rfl : len = 0 := by omega
    have : bs = [] := List.eq_nil_of_length_eq_zero h.hlen
    subst this
    exact refRead_empty ao cap w
end Go.Proofs.YtfmnbehopdmahaaGreat
/-
  codec.readCount, codec.ReadText and pannierref01.ReadText: what any bytes begin with, as 'cntOf' and 'rdText' tell it; nothing that was there is written.
-/
namespace Go.Proofs.YtfmnbehopdmahaaGreat
open Go.RowKit

/-- The count with which bytes begin, if it is at most 'most'. -/
def cntOf (bs : List Int) (most : Int) : Nat × Nat × Int := if (dec 0 0 bs).2.2 = 0 ∧ 0 ≤ most ∧ ((dec 0 0 bs).1 : Int) ≤ most then dec 0 0 bs else (0, 0, 10)
/-- The text of at most 'most' bytes with which bytes begin. -/
def rdText (bs : List Int) (most : Int) : ByteArray × Nat × Int := if (cntOf bs most).2.2 = 0 ∧ (cntOf bs most).2.1 + (cntOf bs most).1 ≤ bs.length then (strOfNums ((bs.take ((cntOf bs most).2.1 + (cntOf bs most).1)).drop (cntOf bs most).2.1), (cntOf bs most).2.1 + (cntOf bs most).1, 0) else (ByteArray.empty, 0, 10)

theorem cnt_cases {bs : List Int} (hb : AllB bs) (most : Int) : cntOf bs most = (0, 0, 10) ∨ ∃ x n, cntOf bs most = (x, n, 0) ∧ dec 0 0 bs = (x, n, 0) ∧ 0 ≤ most ∧ (x : Int) ≤ most ∧ n ≤ bs.length ∧ 1 ≤ n := by
  unfold cntOf
  split
  · rename_i h
    rcases dec_cases bs 0 0 with hd | ⟨x, n, hd⟩
    · rw [hd] at h
      simp at h
    · have hk := dec_back hb hd
      rw [hd] at h ⊢
      exact .inr ⟨x, n, rfl, rfl, h.2.1, h.2.2, hk.2.2.1, hk.2.2.2⟩
  · exact .inl rfl

theorem readCount_any (ao : Option Addr) (len cap : Nat) (bs : List Int) (most : Int) (w : World) (h : Held w ao len cap bs) (h0 : -9223372036854775808 ≤ most) (h1 : most ≤ 9223372036854775807) :
    Calls Tryz.prog 155 #[.slice ao len cap, .int .i64 most] w fun e w' => e = .returned (.tuple #[.int .i64 (cntOf bs most).1, .int .i64 (cntOf bs most).2.1, .int .i64 (cntOf bs most).2.2]) ∧ w' = w := by
  have hrd := readUint_any ao len cap bs w h
  rcases dec_cases bs 0 0 with hd | ⟨x, n, hd⟩
  · have e : cntOf bs most = (0, 0, 10) := by simp [cntOf, hd]
    rw [e]
    rw [hd] at hrd
    have HRD := hid hrd
    clear hrd hd e h
    go_enter Tryz.func155, Tryz.ntmps155
    go_wp2_with fail
    refine HRD.out.mono ?_
    rintro e w' ⟨rfl, rfl⟩
    go_wp2
    go_ret3
    exact ⟨rfl, rfl⟩
  · have hx := (dec_back h.byte hd).2.1
    by_cases hm : most < 0
    · have e : cntOf bs most = (0, 0, 10) := by
        unfold cntOf
        rw [if_neg (by omega)]
      rw [e]
      rw [hd] at hrd
      have HRD := hid hrd
      clear hrd hd e h
      go_enter Tryz.func155, Tryz.ntmps155
      go_wp2_with fail
      refine HRD.out.mono ?_
      rintro e w' ⟨rfl, rfl⟩
      go_wp2
      go_ret3
      exact ⟨rfl, rfl⟩
    · have hm' : 0 ≤ most := by omega
      by_cases hxm : most < (x : Int)
      · have e : cntOf bs most = (0, 0, 10) := by
          unfold cntOf
          rw [hd, if_neg (by simp; omega)]
        rw [e]
        rw [hd] at hrd
        have HRD := hid hrd
        clear hrd hd e h
        go_enter Tryz.func155, Tryz.ntmps155
        go_wp2_with fail
        refine HRD.out.mono ?_
        rintro e w' ⟨rfl, rfl⟩
        go_wp2
        go_ret3
        exact ⟨rfl, rfl⟩
      · have hxm' : (x : Int) ≤ most := by omega
        have e : cntOf bs most = (x, n, 0) := by
          unfold cntOf
          rw [hd, if_pos (by simp; omega)]
        rw [e]
        rw [hd] at hrd
        have HRD := hid hrd
        clear hrd hd e h
        go_enter Tryz.func155, Tryz.ntmps155
        go_wp2_with fail
        refine HRD.out.mono ?_
        rintro e w' ⟨rfl, rfl⟩
        go_wp2
        go_ret3
        exact ⟨rfl, rfl⟩

theorem ret_s {s t : ByteArray} {k2 k3 : IntKind} {b c b' c' : Int} (h1 : s = t) (h2 : b = b') (h3 : c = c') : Ending.returned (.tuple #[.string s, .int k2 b, .int k3 c]) = .returned (.tuple #[.string t, .int k2 b', .int k3 c']) := by rw [h1, h2, h3]

set_option maxRecDepth 100000 in
set_option maxHeartbeats 400000 in
theorem readText_any (ao : Option Addr) (len cap : Nat) (bs : List Int) (most : Int) (w : World) (h : Held w ao len cap bs) (h0 : -9223372036854775808 ≤ most) (h1 : most ≤ 9223372036854775807) :
    Calls Tryz.prog 163 #[.slice ao len cap, .int .i64 most] w fun e w' => e = .returned (.tuple #[.string (rdText bs most).1, .int .i64 (rdText bs most).2.1, .int .i64 (rdText bs most).2.2]) ∧ w' = w := by
  have hrd := readCount_any ao len cap bs most w h h0 h1
  have hlen := h.hlen
  have hcap := h.hcap
  have hmax := h.hmax
  unfold maxLen at hmax
  rcases cnt_cases h.byte most with hd | ⟨x, n, hd, _, hm0, hxm, hn, hn1⟩
  · have e : rdText bs most = (ByteArray.empty, 0, 10) := by simp [rdText, hd]
    rw [e]
    rw [hd] at hrd
    have HRD := hid hrd
    clear hrd hd e h
    go_enter Tryz.func163, Tryz.ntmps163
    go_wp2_with fail
    refine HRD.out.mono ?_
    rintro e w' ⟨rfl, rfl⟩
    go_wp2
    go_ret3
    exact ⟨rfl, rfl⟩
  · rw [hd] at hrd
    have HRD := hid hrd
    by_cases hx : (len : Int) - (n : Int) < (x : Int)
    · have e : rdText bs most = (ByteArray.empty, 0, 10) := by
        unfold rdText
        rw [hd, if_neg (by simp only; omega)]
      rw [e]
      clear hrd hd e h
      go_enter Tryz.func163, Tryz.ntmps163
      go_wp2_with fail
      refine HRD.out.mono ?_
      rintro e w' ⟨rfl, rfl⟩
      go_wp2
      go_ret3
      exact ⟨rfl, rfl⟩
    · have e : rdText bs most = (strOfNums ((bs.take (n + x)).drop n), n + x, 0) := by
        unfold rdText
        rw [hd, if_pos ⟨rfl, by simp only; omega⟩]
      rw [e]
      have hsl : ∀ W, (Instr.slice 66 (.slice ao len cap) (some (.int .i64 (n : Int))) (some (.int .i64 ((n : Int) + (x : Int)))) none).run Tryz.prog W = .ok (.slice (cutAt ao cap n) x (cap - n)) W := by
        intro W
        have := run_cut_lh (P := Tryz.prog) W 66 5 Tryz.underlying66 Tryz.size5 ao len cap n (n + x) n ((n : Int) + (x : Int)) rfl (by omega) (by omega) (by omega)
        rwa [Nat.add_sub_cancel_left] at this
      have hcut := h.cut (l := n) (u := n + x) (by omega) (by omega)
      rw [Nat.add_sub_cancel_left] at hcut
      have hcv := run_convert_held (P := Tryz.prog) hcut 66 5 9 Tryz.underlying66 Tryz.underlying5 Tryz.underlying9
      obtain ⟨S, hS⟩ : ∃ S, S = strOfNums ((bs.take (n + x)).drop n) := ⟨_, rfl⟩
      rw [← hS] at hcv ⊢
      clear hrd hd e h hcut hS
      go_enter Tryz.func163, Tryz.ntmps163
      go_wp2_with fail
      refine HRD.out.mono ?_
      rintro e w' ⟨rfl, rfl⟩
      go_wp2
      go_ret3
      exact ⟨ret_s rfl (by go_num) rfl, rfl⟩

set_option maxRecDepth 100000 in
set_option maxHeartbeats 400000 in
theorem refText_read (ao : Option Addr) (len cap : Nat) (bs : List Int) (most : Int) (w : World) (h : Held w ao len cap bs) (h0 : -9223372036854775808 ≤ most) (h1 : most ≤ 9223372036854775807) :
    Calls Tryz.prog 134 #[.slice ao len cap, .int .i64 most] w fun e w' => e = .returned (.tuple #[.string (rdText bs most).1, .int .i64 (rdText bs most).2.1, .int .i64 (rdText bs most).2.2]) ∧ Below w.heap.size w w' := by
  have hrd := refRead_any ao len cap bs w h
  have hlen := h.hlen
  have hcap := h.hcap
  have hmax := h.hmax
  unfold maxLen at hmax
  rcases dec_cases bs 0 0 with hd | ⟨x, n, hd⟩
  · have e : rdText bs most = (ByteArray.empty, 0, 10) := by simp [rdText, cntOf, hd]
    rw [e]
    rw [hd] at hrd
    have HRD := hid hrd
    clear hrd hd e h
    go_enter Tryz.func134, Tryz.ntmps134
    go_wp2_with fail
    refine HRD.out.mono ?_
    rintro e w' ⟨rfl, hb⟩
    have HB := hid hb
    clear hb
    go_wp2
    go_ret3
    exact ⟨rfl, HB.out⟩
  · have hk := dec_back h.byte hd
    have hx64 := hk.2.1
    have hn := hk.2.2.1
    have hn1 := hk.2.2.2
    by_cases hm : most < 0
    · have e : rdText bs most = (ByteArray.empty, 0, 10) := by
        have : cntOf bs most = (0, 0, 10) := by unfold cntOf; rw [if_neg (by omega)]
        simp [rdText, this]
      rw [e]
      rw [hd] at hrd
      have HRD := hid hrd
      clear hrd hd e h hk
      go_enter Tryz.func134, Tryz.ntmps134
      go_wp2_with fail
      refine HRD.out.mono ?_
      rintro e w' ⟨rfl, hb⟩
      have HB := hid hb
      clear hb
      go_wp2
      go_ret3
      exact ⟨rfl, HB.out⟩
    · have hm' : 0 ≤ most := by omega
      by_cases hxm : most < (x : Int)
      · have e : rdText bs most = (ByteArray.empty, 0, 10) := by
          have : cntOf bs most = (0, 0, 10) := by unfold cntOf; rw [hd, if_neg (by simp; omega)]
          simp [rdText, this]
        rw [e]
        rw [hd] at hrd
        have HRD := hid hrd
        clear hrd hd e h hk
        go_enter Tryz.func134, Tryz.ntmps134
        go_wp2_with fail
        refine HRD.out.mono ?_
        rintro e w' ⟨rfl, hb⟩
        have HB := hid hb
        clear hb
        go_wp2
        go_ret3
        exact ⟨rfl, HB.out⟩
      · have hxm' : (x : Int) ≤ most := by omega
        have hc : cntOf bs most = (x, n, 0) := by unfold cntOf; rw [hd, if_pos (by simp; omega)]
        by_cases hx : (len : Int) - (n : Int) < (x : Int)
        · have e : rdText bs most = (ByteArray.empty, 0, 10) := by
            unfold rdText
            rw [hc, if_neg (by simp only; omega)]
          rw [e]
          rw [hd] at hrd
          have HRD := hid hrd
          clear hrd hd e h hk hc
          go_enter Tryz.func134, Tryz.ntmps134
          go_wp2_with fail
          refine HRD.out.mono ?_
          rintro e w' ⟨rfl, hb⟩
          have HB := hid hb
          clear hb
          go_wp2
          go_ret3
          exact ⟨rfl, HB.out⟩
        · have e : rdText bs most = (strOfNums ((bs.take (n + x)).drop n), n + x, 0) := by
            unfold rdText
            rw [hc, if_pos ⟨rfl, by simp only; omega⟩]
          rw [e]
          rw [hd] at hrd
          have HRD := hid hrd
          have HH := hid h
          have hsl : ∀ W, (Instr.slice 66 (.slice ao len cap) (some (.int .i64 (n : Int))) (some (.int .i64 ((n : Int) + (x : Int)))) none).run Tryz.prog W = .ok (.slice (cutAt ao cap n) x (cap - n)) W := by
            intro W
            have := run_cut_lh (P := Tryz.prog) W 66 5 Tryz.underlying66 Tryz.size5 ao len cap n (n + x) n ((n : Int) + (x : Int)) rfl (by omega) (by omega) (by omega)
            rwa [Nat.add_sub_cancel_left] at this
          obtain ⟨S, hS⟩ : ∃ S, S = strOfNums ((bs.take (n + x)).drop n) := ⟨_, rfl⟩
          rw [← hS]
          have HS := hid hS
          clear hrd hd e h hk hc hS
          go_enter Tryz.func134, Tryz.ntmps134
          go_wp2_with fail
          refine HRD.out.mono ?_
          rintro e w1 ⟨rfl, hb⟩
          have hcut := (HH.out.below hb (Nat.le_refl _)).cut (l := n) (u := n + x) (by omega) (by omega)
          rw [Nat.add_sub_cancel_left] at hcut
          have hcv := run_convert_held (P := Tryz.prog) hcut 66 5 9 Tryz.underlying66 Tryz.underlying5 Tryz.underlying9
          rw [← HS.out] at hcv
          have HB := hid hb
          clear hb hcut
          go_wp2
          go_ret3
          exact ⟨ret_s rfl (by go_num) rfl, HB.out⟩
end Go.Proofs.YtfmnbehopdmahaaGreat
/-
  Package codec: a reader's names.
-/
namespace Go.Proofs.YtfmnbehopdmahaaGreat
open Go.RowKit Go.Maps

set_option maxRecDepth 1000000 in
set_option maxHeartbeats 4000000 in
theorem RdAt.takeS {w : World} {rb : Nat} {ao : Option Addr} {len cap : Nat} {bs : List Int} {st : Option (List Int)}  (h : RdAt w rb ao len cap bs st) (p : Rdr (ByteArray)) (hread : ∀ (at' : Nat) (co : Option Addr) (L C : Nat), Held w co L C (bs.drop at') → L = (bs.drop at').length → ∀ V, ScL w V → Calls Tryz.prog 162 #[.slice co L C] V (fun e w' => ∃ (y : ByteArray) (n : Nat) (E : Int), e = .returned (.tuple #[.string y, .int .i64 (n : Int), .int .i64 E]) ∧ Hid ((E = 0 ∧ n ≤ L ∧ p (bs.drop at') = some (y, (bs.drop at').drop n)) ∨ (E = 10 ∧ p (bs.drop at') = none)) ∧ Hid ((y : ByteArray).size ≤ 32) ∧ ScL w w')) : Calls Tryz.prog 161 #[.pointer (some ⟨rb, 0, none⟩), .func (.func 162) #[] #[]] w fun e w' => (∃ (y : ByteArray), e = .returned (.string y) ∧ Got st p y ∧ (y : ByteArray).size ≤ 32) ∧ RdAt w' rb ao len cap bs (nxt st p) ∧ Turns (fun i => i = rb) w w' := by
  obtain ⟨at', er, hk, hat, hst⟩ := h.blk
  have HH := hid h
  have HK := hid hk
  have c0 := hk.cell (i := 0) rfl
  have c1 := hk.cell (i := 1) rfl
  have c2 := hk.cell (i := 2) rfl
  have f1 := hk.frozen 1
  have f2 := hk.frozen 2
  rcases hst with ⟨rfl, rfl⟩ | ⟨rfl, rfl⟩
  · have hcut : ∀ W, (Instr.slice 66 (.slice ao len cap) (some (.int .i64 (at' : Int))) none none).run Tryz.prog W = .ok (.slice (cutAt ao cap at') (len - at') (cap - at')) W := fun W => run_cut_l W 66 5 Tryz.underlying66 size1R ao len cap at' _ rfl hat
    obtain ⟨co, hco⟩ : ∃ q, q = cutAt ao cap at' := ⟨_, rfl⟩
    obtain ⟨L, hL⟩ : ∃ q, q = len - at' := ⟨_, rfl⟩
    obtain ⟨C, hC⟩ : ∃ q, q = cap - at' := ⟨_, rfl⟩
    have hhc : Held w co L C (bs.drop at') := by rw [hco, hL, hC]; exact h.held.cutl hat
    rw [← hco, ← hL, ← hC] at hcut
    have HRD := hid (hread at' co L C hhc (by rw [hL, List.length_drop, h.held.hlen]))
    have HSA : Hid (∀ V, ScL w V → (ScL w V ∧ V.cell? ⟨rb, 0, none⟩ = some (.slice ao len cap) ∧ V.cell? ⟨rb, 1, none⟩ = some (.int .i64 (at' : Int)))) := fun V hV => ⟨hV, (hV.out.cell (p := ⟨rb, 0, none⟩) HK.out.lt).trans c0, (hV.out.cell (p := ⟨rb, 1, none⟩) HK.out.lt).trans c1⟩
    have HLE0 : Hid (at' + L = len) := hid (by omega)
    have HMX : Hid (len ≤ 9223372036854775807) := by have h1 := h.held.hcap; have h2 := h.held.hmax; unfold maxLen at h2; exact hid (by omega)
    clear hread hhc hco hL hC h hk
    go_enter Tryz.func161, Tryz.ntmps161
    go_wp2
    go_region_held3 (fun V => ScL w V ∧ V.cell? ⟨rb, 0, none⟩ = some (.slice ao len cap) ∧ V.cell? ⟨rb, 1, none⟩ = some (.int .i64 (at' : Int)))
      (first | (refine HSA.out _ ?_; (repeat (first | with_reducible assumption | with_reducible exact ScL.start _ | with_reducible apply ScL.dr)); done))
      ((go_at_call 162; with_reducible refine (HRD.out _ (by (repeat (first | assumption | exact ScL.start _ | apply ScL.dr)))).mono ?_; rintro e w5 ⟨y, n, E, rfl, HOR, HVL, hs5⟩))
    all_goals
      rcases HOR.out with ⟨rfl, hn, hp⟩ | ⟨rfl, hp⟩
      · have HLE : Hid (at' + n ≤ len) := by have h1 := HLE0.out; exact hid (by omega)
        clear HOR hn
        have hk5 := HK.out.below hs5.out HK.out.lt
        have d1 := hk5.cell (i := 1) rfl
        have g1 := hk5.frozen 1
        have hsum : IntKind.i64.wrap ((at' : Int) + (n : Int)) = (at' : Int) + (n : Int) := by rw [IntKind.wrap_i64]; have h1 := HLE.out; have h2 := HMX.out; omega
        obtain ⟨W3, hW3⟩ : ∃ V, V = w5.setCell ⟨rb, 1, none⟩ (.int .i64 ((at' : Int) + (n : Int))) := ⟨_, rfl⟩
        have hT : Turns (fun i => i = rb) w5 W3 := by rw [hW3]; exact (Turns.refl (fun i => i = rb) w5).setCell (p := ⟨rb, 1, none⟩) (.inl rfl) _
        have HF : Hid (RdAt W3 rb ao len cap bs (nxt (some (bs.drop at')) p)) := by
          refine ⟨(HH.out.held.below hs5.out (Nat.le_refl _)).turned hT (held_off (HH.out.held.below hs5.out (Nat.le_refl _)) hk5), at' + n, 0, by rw [hW3]; exact hk5.set 1 _, by have h1 := HLE.out; omega, .inl ⟨?_, rfl⟩⟩
          unfold nxt
          rw [Option.bind_some, hp, ← List.drop_drop]
          rfl
        have HT : Hid (Turns (fun i => i = rb) w W3) := (Turns.of_below (F := fun i => i = rb) hs5.out (Nat.le_refl _)).trans hT (fun i hi => .inl hi)
        have HVF : Hid ((y : ByteArray).size ≤ 32) := HVL
        have HP := hid hp
        clear hk5 hT hs5 hp
        go_wp2
        rw [← hW3]
        go_ret
        exact ⟨⟨y, rfl, (fun x r hx => by rw [Option.bind_some, HP.out] at hx; cases hx; rfl), HVF.out⟩, HF.out, HT.out⟩
      · clear HOR
        have hk5 := HK.out.below hs5.out HK.out.lt
        have d2 := hk5.cell (i := 2) rfl
        have g2 := hk5.frozen 2
        obtain ⟨W3, hW3⟩ : ∃ V, V = w5.setCell ⟨rb, 2, none⟩ (.int .i64 10) := ⟨_, rfl⟩
        have hT : Turns (fun i => i = rb) w5 W3 := by rw [hW3]; exact (Turns.refl (fun i => i = rb) w5).setCell (p := ⟨rb, 2, none⟩) (.inl rfl) _
        have HF : Hid (RdAt W3 rb ao len cap bs (nxt (some (bs.drop at')) p)) := by
          refine ⟨(HH.out.held.below hs5.out (Nat.le_refl _)).turned hT (held_off (HH.out.held.below hs5.out (Nat.le_refl _)) hk5), at', 10, by rw [hW3]; exact hk5.set 2 _, hat, .inr ⟨?_, rfl⟩⟩
          unfold nxt
          rw [Option.bind_some, hp]
          rfl
        have HT : Hid (Turns (fun i => i = rb) w W3) := (Turns.of_below (F := fun i => i = rb) hs5.out (Nat.le_refl _)).trans hT (fun i hi => .inl hi)
        have HVF : Hid ((⟨#[]⟩ : ByteArray).size ≤ 32) := (by show _ ≤ _; decide)
        have HP := hid hp
        clear hk5 hT hs5 hp
        go_wp2
        rw [← hW3]
        go_ret
        exact ⟨⟨⟨#[]⟩, rfl, (fun x r hx => by rw [Option.bind_some, HP.out] at hx; cases hx), HVF.out⟩, HF.out, HT.out⟩
  · clear hk h hread
    go_enter Tryz.func161, Tryz.ntmps161
    go_wp2
    go_ret
    exact ⟨⟨⟨#[]⟩, rfl, fun x r hx => (by cases hx), (by show _ ≤ _; decide)⟩, HH.out, Turns.refl _ _⟩
theorem rdText_size {b : List Int} (hb : AllB b) : (rdText b 32).1.size ≤ 32 := by
  rcases cnt_cases hb 32 with h0 | ⟨x, n, h0, hd, _, hx, hn, _⟩
  · unfold rdText
    rw [h0, if_neg (fun hh => absurd hh.1 (by decide))]
    decide
  · unfold rdText
    rw [h0]
    by_cases hc : n + x ≤ b.length
    · rw [if_pos ⟨rfl, hc⟩]
      show (strOfNums ((b.take (n + x)).drop n)).size ≤ 32
      rw [strOfNums_size, List.length_drop, List.length_take]
      omega
    · rw [if_neg (fun hh => hc hh.2)]
      decide
theorem rdText_p {b : List Int} (hb : AllB b) : (pText 32 b = none ∧ rdText b 32 = (⟨#[]⟩, 0, 10)) ∨ ∃ s n, rdText b 32 = (s, n, 0) ∧ n ≤ b.length ∧ pText 32 b = some (s, b.drop n) := by
  rcases cnt_cases hb 32 with h0 | ⟨x, n, h0, hd, _, hx, hn, _⟩
  · left
    refine ⟨?_, ?_⟩
    · unfold pText pNum
      unfold cntOf at h0
      by_cases hc : (dec 0 0 b).2.2 = 0 ∧ (dec 0 0 b).1 ≤ 32
      · rw [if_pos ⟨hc.1, by omega, by omega⟩] at h0
        rw [h0] at hc
        exact absurd hc.1 (by decide)
      · rw [if_neg hc]
        rfl
    · unfold rdText
      rw [h0]
      rfl
  · have hp : pNum 32 b = some ((x : Int), b.drop n) := by
      unfold pNum
      rw [hd]
      exact if_pos ⟨rfl, by show x ≤ 32; omega⟩
    by_cases hc : n + x ≤ b.length
    · right
      refine ⟨strOfNums ((b.take (n + x)).drop n), n + x, ?_, hc, ?_⟩
      · unfold rdText
        rw [h0]
        exact if_pos ⟨rfl, hc⟩
      · unfold pText
        rw [hp]
        show (if (x : Int).toNat ≤ (b.drop n).length then some (strOfNums ((b.drop n).take (x : Int).toNat), (b.drop n).drop (x : Int).toNat) else none) = _
        rw [Int.toNat_natCast, if_pos (by rw [List.length_drop]; omega), List.drop_drop, List.drop_take]
        have e : n + x - n = x := by omega
        rw [e]
    · left
      refine ⟨?_, ?_⟩
      · unfold pText
        rw [hp]
        show (if (x : Int).toNat ≤ (b.drop n).length then some (strOfNums ((b.drop n).take (x : Int).toNat), (b.drop n).drop (x : Int).toNat) else none) = _
        rw [Int.toNat_natCast, if_neg (by rw [List.length_drop]; omega)]
      · unfold rdText
        rw [h0]
        exact if_neg (fun hh => hc hh.2)
theorem name1_any (ao : Option Addr) (len cap : Nat) (bs : List Int) (w : World) (h : Held w ao len cap bs) : Calls Tryz.prog 162 #[.slice ao len cap] w fun e w' => e = .returned (.tuple #[.string (rdText bs 32).1, .int .i64 (rdText bs 32).2.1, .int .i64 (rdText bs 32).2.2]) ∧ w' = w := by
  have HR := hid (readText_any ao len cap bs 32 w h (by decide) (by decide))
  obtain ⟨s, n, E, hd⟩ : ∃ s n E, rdText bs 32 = (s, n, E) := ⟨_, _, _, rfl⟩
  rw [hd] at HR ⊢
  clear hd h
  go_enter Tryz.func162, Tryz.ntmps162
  go_wp2_with fail
  refine HR.out.mono ?_
  rintro e w1 ⟨rfl, rfl⟩
  go_wp2
  go_ret3
  exact ⟨rfl, rfl⟩
theorem RdAt.takeName {w : World} {rb : Nat} {ao : Option Addr} {len cap : Nat} {bs : List Int} {st : Option (List Int)} (h : RdAt w rb ao len cap bs st) : Calls Tryz.prog 161 #[.pointer (some ⟨rb, 0, none⟩), .func (.func 162) #[] #[]] w fun e w' => (∃ y : ByteArray, e = .returned (.string y) ∧ Got st (pText 32) y ∧ y.size ≤ 32) ∧ RdAt w' rb ao len cap bs (nxt st (pText 32)) ∧ Turns (fun i => i = rb) w w' := by
  refine h.takeS (pText 32) (fun at' co L C hc hL V hV => ?_)
  refine (name1_any co L C (bs.drop at') V (hc.below hV.out (Nat.le_refl _))).mono ?_
  rintro e w' ⟨rfl, rfl⟩
  have hsz := rdText_size hc.byte
  rcases rdText_p hc.byte with ⟨h1, h2⟩ | ⟨s, n, h1, h2, h3⟩
  · rw [h2] at hsz ⊢
    exact ⟨_, _, _, rfl, .inr ⟨rfl, h1⟩, hsz, hV⟩
  · rw [h1] at hsz ⊢
    exact ⟨_, _, _, rfl, .inl ⟨rfl, by rw [hL]; exact h2, h3⟩, hsz, hV⟩
theorem nxt_if {α : Type} {st : Option (List Int)} {p : Rdr α} {y : α} (c : α → Bool) (h : Got st p y) : (if c y = true then nxt st p else none) = nxt st (pIf c p) := by
  unfold nxt pIf
  cases st with
  | none => simp
  | some b =>
    simp only [Option.bind_some]
    cases hp : p b with
    | none => simp
    | some r =>
      obtain ⟨x, s⟩ := r
      have hy : y = x := h x s (by rw [Option.bind_some]; exact hp)
      subst hy
      by_cases hc : c y = true
      · simp [hc]
      · simp [hc]
theorem got_if {α : Type} {st : Option (List Int)} {p : Rdr α} {y : α} (c : α → Bool) (h : Got st p y) : Got st (pIf c p) y := by
  intro x r hx
  cases st with
  | none => cases hx
  | some b =>
    simp only [Option.bind_some, pIf] at hx
    cases hp : p b with
    | none => rw [hp] at hx; cases hx
    | some t =>
      obtain ⟨z, s⟩ := t
      rw [hp] at hx
      change (if c z = true then some (z, s) else none) = some (x, r) at hx
      split at hx
      · cases hx
        exact h _ _ (by rw [Option.bind_some]; exact hp)
      · cases hx
set_option maxRecDepth 1000000 in
theorem RdAt.name {w : World} {rb : Nat} {ao : Option Addr} {len cap : Nat} {bs : List Int} {st : Option (List Int)} (h : RdAt w rb ao len cap bs st) : Calls Tryz.prog 132 #[.pointer (some ⟨rb, 0, none⟩)] w fun e w' => (∃ y : ByteArray, e = .returned (.string y) ∧ Got st pName y ∧ y.size ≤ 32) ∧ RdAt w' rb ao len cap bs (nxt st pName) ∧ Turns (fun i => i = rb) w w' := by
  have HTK := hid h.takeName
  clear h
  go_enter Tryz.func132, Tryz.ntmps132
  go_wp2_with fail
  refine HTK.out.mono ?_
  rintro e w1 ⟨⟨y, rfl, hgot, hsz⟩, hrd, ht⟩
  have HG := hid hgot
  have HT := hid ht
  have HZ := hid hsz
  have HNM := hid (codecName_any y w1 (Nat.le_trans hsz (by decide)))
  have HDM := hid (hrd.demand (nameS y))
  rw [nxt_if nameS hgot] at HDM
  obtain ⟨b, HBB⟩ : ∃ b, Hid (nameS y = b) := ⟨_, hid rfl⟩
  rw [HBB.out] at HNM HDM
  clear hgot hrd ht hsz HTK
  go_wp2_with fail
  refine HNM.out.mono ?_
  rintro e w2 ⟨rfl, rfl⟩
  go_wp2_with fail
  refine HDM.out.mono ?_
  rintro e w3 ⟨rfl, hr3, ht3⟩
  have HR3 := hid hr3
  have HT3 := hid (turns_one HT.out ht3)
  clear hr3 ht3 HDM HNM
  go_wp2
  go_ret
  exact ⟨⟨y, rfl, got_if nameS HG.out, HZ.out⟩, HR3.out, HT3.out⟩
end Go.Proofs.YtfmnbehopdmahaaGreat
/-
  Package codec: readBy over a part that reads a number; the parts of a vector.
-/
namespace Go.Proofs.YtfmnbehopdmahaaGreat
open Go.RowKit Go.Maps

/-- What a part of a reader does, that answers a number. -/
def PartI (f : FuncId) (p : Rdr Int) : Prop := ∀ (w : World) (rb : Nat) (ao : Option Addr) (len cap : Nat) (bs : List Int) (st : Option (List Int)), RdAt w rb ao len cap bs st → Calls Tryz.prog f #[.pointer (some ⟨rb, 0, none⟩)] w fun e w' => (∃ y : Int, e = .returned (.int .i64 y) ∧ I64 y ∧ Got st p y) ∧ RdAt w' rb ao len cap bs (nxt st p) ∧ Turns (fun i => i = rb) w w'
/-- What a read answers. -/
def ReadI (w : World) (len : Nat) (bs : List Int) (p : Rdr Int) (e : Ending) (w' : World) : Prop := ∃ (y : Int) (n : Nat) (E : Int), e = .returned (.tuple #[.int .i64 y, .int .i64 (n : Int), .int .i64 E]) ∧ I64 y ∧ ((E = 0 ∧ n ≤ len ∧ p bs = some (y, bs.drop n)) ∨ (E = 10 ∧ p bs = none)) ∧ Below w.heap.size w w'
theorem vector1_part : PartI 125 (pNum 2147483647) := by
  intro w rb ao len cap bs st h
  have HN := hid (h.number 2147483647 (by decide))
  clear h
  go_enter Tryz.func125, Tryz.ntmps125
  go_wp2_with fail
  refine HN.out.mono ?_
  rintro e w1 ⟨⟨y, rfl, hi, hg⟩, hr, ht⟩
  have HA := hid (And.intro hi hg)
  have HR := hid hr
  have HT := hid ht
  clear hi hg hr ht HN
  go_wp2
  go_ret
  exact ⟨⟨y, rfl, HA.out.1, HA.out.2⟩, HR.out, HT.out⟩
set_option maxRecDepth 1000000 in
set_option maxHeartbeats 2000000 in
theorem readByI {p : Rdr Int} (hf : PartI 125 p) (ao : Option Addr) (len cap : Nat) (bs : List Int) (w : World) (h : Held w ao len cap bs) : Calls Tryz.prog 160 #[.slice ao len cap, .func (.func 125) #[] #[]] w (ReadI w len bs p) := by
  obtain ⟨W, hW⟩ : ∃ W, W = w.alloc (.cells #[.slice ao len cap, .int .i64 0, .int .i64 0] 158) := ⟨_, rfl⟩
  have HB : Hid (Below w.heap.size w W) := by rw [hW]; exact (Below.refl _ _).alloc (Nat.le_refl _) _
  obtain ⟨rb, hrb⟩ : ∃ q, q = w.heap.size := ⟨_, rfl⟩
  have hk : Blk W rb 158 [.slice ao len cap, .int .i64 0, .int .i64 0] := by rw [hrb, hW]; exact Blk.new w _ _
  have HRD : Hid (RdAt W rb ao len cap bs (some bs)) := ⟨h.below HB.out (Nat.le_refl _), 0, 0, hk, Nat.zero_le _, .inl ⟨rfl, rfl⟩⟩
  have HPT := hid (hf W rb ao len cap bs (some bs) HRD.out)
  have HW := hid hW
  have HRB := hid hrb
  have HLN : Hid (bs.length = len) := h.hlen
  clear hf h hk hW hrb
  go_enter Tryz.func160, Tryz.ntmps160
  go_wp2_with fail
  rw [← HW.out, ← HRB.out]
  refine HPT.out.mono ?_
  rintro e w1 ⟨⟨y, rfl, hi, hg⟩, hr, ht⟩
  have HI := hid hi
  have HG := hid hg
  have HB1 : Hid (Below w.heap.size w w1) := hid (HB.out.trans (ht.below (fun i hh => by rw [hh, HRB.out]; exact Nat.le_refl _) HB.out.size))
  obtain ⟨at', er, hk1, hat, hst⟩ := hr.blk
  have c1 := hk1.cell (i := 1) rfl
  have c2 := hk1.cell (i := 2) rfl
  have HAT := hid hat
  clear hi hg hr ht hk1 hat HPT
  rcases hst with ⟨h1, rfl⟩ | ⟨h1, rfl⟩
  · have HP : Hid (p bs = some (y, bs.drop at')) := by
      unfold nxt at h1
      rw [Option.bind_some] at h1
      cases hp : p bs with
      | none => rw [hp] at h1; cases h1
      | some t =>
        obtain ⟨x, r⟩ := t
        rw [hp] at h1
        cases h1
        have := HG.out x (bs.drop at') (by rw [Option.bind_some]; exact hp)
        rw [this]
        exact hid rfl
    clear h1
    go_wp2
    go_quiet (fail)
    go_wp2
    go_ret3
    exact ⟨y, at', 0, rfl, HI.out, .inl ⟨rfl, HAT.out, HP.out⟩, below_dn HB1.out _⟩
  · have HP : Hid (p bs = none) := by
      unfold nxt at h1
      rw [Option.bind_some] at h1
      cases hp : p bs with
      | none => exact hid rfl
      | some t => rw [hp] at h1; cases h1
    clear h1
    go_wp2
    go_quiet (fail)
    go_wp2
    go_ret3
    exact ⟨0, 0, 10, rfl, by unfold I64; decide, .inr ⟨rfl, HP.out⟩, below_dn HB1.out _⟩
set_option maxRecDepth 1000000 in
theorem listI11 {p : Rdr Int} (hf : PartI 125 p) (ao : Option Addr) (len cap : Nat) (bs : List Int) (w : World) (pb : Nat) (h : Held w ao len cap bs) (hk : Blk w pb 170 [.func (.func 125) #[] #[]]) : Calls Tryz.prog 159 #[.slice ao len cap, .pointer (some ⟨pb, 0, none⟩)] w (ReadI w len bs p) := by
  have HR := hid (readByI hf ao len cap bs w h)
  have c0 := hk.cell (i := 0) rfl
  clear hf h hk
  go_enter Tryz.func159, Tryz.ntmps159
  go_wp2_with fail
  refine HR.out.mono ?_
  rintro e w1 ⟨y, n, E, rfl, hi, hor, hb⟩
  have HA := hid (And.intro hi (And.intro hor hb))
  clear hi hor hb HR
  go_wp2
  go_ret3
  exact ⟨y, n, E, rfl, HA.out.1, HA.out.2.1, HA.out.2.2⟩
end Go.Proofs.YtfmnbehopdmahaaGreat
