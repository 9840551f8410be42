/-
  The writers of numbers: codec.ownCopy, codec.appendUint, codec.Uint and pannierref01.Uint write the one form 'enc' behind what was there, in memory of their own, for every uint64; conditions: the lengths stay below 2^47.
-/
import Derived.Test.YtjjgojjllbdpkaaRows
import Derived.Test.YtjjgojjllbdpkaaApps
namespace Go.Proofs.Ytjjgojjllbdpkaa
open Go.RowKit

theorem Try.info5 : (Try.prog.info? 5).map (fun i => (i.zero, i.size, i.bytes)) = some (some (.int .u8 0), 1, 1) := by kernel_rfl

theorem Try.size5 : ∀ w, (Go.sizeOf 5).run Try.prog w = .ok 1 w := by
  intro w
  obtain ⟨i0, hi, hz0, hz1, hz2⟩ := info_parts Try.info5
  simp [Go.sizeOf, typeInfo, hi, hz1]

theorem appendUint_any (v : Value) (n : Nat) (bs : List Int) (x B : Nat) (w : World) (hx : x < 18446744073709551616) (hown : w.ownsRow B 5 1 v n (nums bs)) (hB : B ≤ w.heap.size) (hn : n ≤ 140737488355000) :
    Calls Try.prog 49 #[v, .int .u64 x] w fun e w' => ∃ v', e = .returned v' ∧ w'.ownsRow B 5 1 v' (n + (enc x).length) (nums (bs ++ enc x)) ∧ Grew w w' v v' := by
  obtain ⟨i0, hi, hz0, hz1, hz2⟩ := info_parts Try.info5
  go_enter Try.func49, Try.ntmps49
  go_wp2
  go_loopw [0, 1] (fun b t wr => ∃ (y m : Nat) (cs : List Int), t = .int .u64 y ∧ y < 18446744073709551616 ∧ wr.ownsRow B 5 1 b m (nums cs) ∧ m ≤ n + 10 ∧ cs ++ enc y = bs ++ enc x ∧ Grew w wr v b) (fun _ t _ => (intOf t).toNat)
  case atStart => exact ⟨x, n, bs, rfl, hx, hown, by omega, rfl, Grew.refl _ _⟩
  case round =>
    obtain ⟨y, m, cs, rfl, hy, hownr, hm, hcs, hgr⟩ := hrel
    have hl := congrArg List.length hcs
    simp only [List.length_append] at hl
    have hcl : cs.length = m := by simpa [nums] using hownr.1
    have hbl : bs.length = n := by simpa [nums] using hown.1
    have h10 := enc_le10 hx
    have hyp := enc_pos y
    have hsz : w.heap.size ≤ wr.heap.size := hgr.1.size
    have HC : Hid (cs ++ enc y = bs ++ enc x) := hcs
    have HG : Hid (Grew w wr v u0) := hgr
    have hsum : m + (enc y).length ≤ n + 10 := by omega
    clear hcs hgr hcl hl
    by_cases hlt : 128 ≤ y
    · have hy1 : (127 : Int) < (y : Int) := by omega
      have ha := and127 hy
      have ho := or128 (c := (y : Int) % 128) (by omega) (by omega)
      go_wp2_with (at_builtin; refine wpList_append_own_at _ rfl _ _ 37 rfl B 5 i0 (.int .u8 0) 1 1 Try.underlying37 hi hz0 hz1 hz2 rfl (by decide) _ _ _ rfl (hownr.alloc _) ⟨wr.heap.size, 0, none⟩ 1 1 [.int .u8 ((y : Int) % 128 + 128)] rfl rfl (cell_one_new _ _ _) (one_int _ _) (by unfold maxLen; omega) (by omega) (by simp; omega) ?_)
      · intro v' w1 hown' hgrow _ hat
        have hg2 : Grew w w1 v v' := HG.out.trans ((Grew.alloc _ _ _).trans (Grew.of hgrow (by simpa using hat)))
        have HG2 : Hid (Grew w w1 v v') := hg2
        have HO : Hid (w1.ownsRow B 5 1 v' (m + 1) (nums (cs ++ [(y : Int) % 128 + 128]))) := by rw [nums_append]; exact hown'
        clear hown' hgrow hat hg2 HG hownr
        go_wp2
        go_roundw
        case rel => exact ⟨y / 128, m + 1, cs ++ [(y : Int) % 128 + 128], by go_num, by omega, HO.out, by omega, by rw [← HC.out, enc_ge hlt, List.append_assoc]; rfl, HG2.out⟩
        case measure => simp [intOf]; omega
    · have hy1 : ¬ (127 : Int) < (y : Int) := by omega
      go_wp2_with (at_builtin; refine wpList_append_own_at _ rfl _ _ 37 rfl B 5 i0 (.int .u8 0) 1 1 Try.underlying37 hi hz0 hz1 hz2 rfl (by decide) _ _ _ rfl (hownr.alloc _) ⟨wr.heap.size, 0, none⟩ 1 1 [.int .u8 (y : Int)] rfl rfl (cell_one_new _ _ _) (one_int _ _) (by unfold maxLen; omega) (by omega) (by simp; omega) ?_)
      · intro v' w1 hown' hgrow _ hat
        have hg2 : Grew w w1 v v' := HG.out.trans ((Grew.alloc _ _ _).trans (Grew.of hgrow (by simpa using hat)))
        have he : bs ++ enc x = cs ++ [(y : Int)] := by rw [← HC.out, enc_lt (by omega)]
        have hlen : n + (enc x).length = m + 1 := by
          have h2 := congrArg List.length he
          have h3 := hownr.1
          simp [nums] at h2 h3
          omega
        have HO : Hid (w1.ownsRow B 5 1 v' (n + (enc x).length) (nums (bs ++ enc x))) := by rw [he, nums_append, hlen]; exact hown'
        have HG2 : Hid (Grew w w1 v v') := hg2
        clear hown' hgrow hat hg2 HG hownr he hlen
        go_wp2
        go_ret
        exact ⟨v', rfl, HO.out, HG2.out⟩


/-- The same, in words that a caller wants who holds nothing from B on but this row. -/
theorem appendUint_own (v : Value) (n : Nat) (bs : List Int) (x : Int) (B : Nat) (w : World) (h0 : 0 ≤ x) (hx : x < 18446744073709551616) (hown : w.ownsRow B 5 1 v n (nums bs)) (hB : B ≤ w.heap.size) (hn : n ≤ 140737488355000) :
    Calls Try.prog 49 #[v, .int .u64 x] w fun e w' => ∃ v', e = .returned v' ∧ w'.ownsRow B 5 1 v' (n + (enc x.toNat).length) (nums (bs ++ enc x.toNat)) ∧ Below B w w' := by
  obtain ⟨y, rfl⟩ := Int.eq_ofNat_of_zero_le h0
  refine (appendUint_any v n bs y B w (by omega) hown hB hn).mono ?_
  rintro e w' ⟨v', rfl, h1, h2⟩
  exact ⟨v', rfl, by simpa using h1, h2.below (Below.refl _ _) hB (own_lt hown)⟩

theorem ownCopy_any (ao : Option Addr) (len cap : Nat) (bs : List Int) (more : Int) (w : World) (h : Held w ao len cap bs) (h0 : 0 ≤ more) (hm : len + more ≤ 281474976710656) :
    Calls Try.prog 39 #[.slice ao len cap, .int .i64 more] w fun e w' => ∃ v, e = .returned v ∧ w'.ownsRow w.heap.size 5 1 v len (nums bs) ∧ Below w.heap.size w w' := by
  obtain ⟨i0, hi, hz0, hz1, hz2⟩ := info_parts Try.info5
  obtain ⟨m, rfl⟩ := Int.eq_ofNat_of_zero_le h0
  have hlen := h.hlen
  have hnil := h.nil
  have hcap := h.hcap
  have HH : Hid (Held w ao len cap bs) := h
  have hml : len + m ≤ 281474976710656 := by omega
  clear h hm
  go_enter Try.func39, Try.ntmps39
  go_wp2_with (at_make; refine wpList_make_own _ rfl _ _ 37 rfl w.heap.size 5 i0 (.int .u8 0) 1 Try.underlying37 hi hz0 hz1 _ _ _ (len + m) rfl rfl (by omega) (by rw [hz2]; omega) (by unfold maxLen; omega) (by omega) ?_)
  intro w1 hown1 hgrow1
  have hb1 : Below w.heap.size w w1 := (Below.refl _ _).grown hgrow1 (Nat.le_refl _) (by simp)
  have hheld := HH.out.below hb1 (Nat.le_refl _)
  go_wp2_with (at_builtin; refine wpList_append_fits_any _ rfl _ _ 37 rfl w.heap.size 5 i0 1 Try.underlying37 hi hz1 w.heap.size 0 (len + m) [] rfl hown1 ao len cap (nums bs) rfl (by simp [nums, hlen]) (by intro ha; have := hnil ha; omega) hheld.news (nums_one bs) (by omega) ?_)
  intro w2 hown2 hgrow2
  have hb2 : Below w.heap.size w w2 := hb1.grown hgrow2 hb1.size (by intro k hk; simp at hk; omega)
  have HO : Hid (w2.ownsRow w.heap.size 5 1 (.slice (some ⟨w.heap.size, 0, none⟩) len (len + m)) len (nums bs)) := hown2
  have HB : Hid (Below w.heap.size w w2) := hb2
  clear hown1 hgrow1 hb1 hheld hown2 hgrow2 hb2 HH
  go_wp2
  go_ret
  exact ⟨_, rfl, HO.out, HB.out⟩

end Go.Proofs.Ytjjgojjllbdpkaa
