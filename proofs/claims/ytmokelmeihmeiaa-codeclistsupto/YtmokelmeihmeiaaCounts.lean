/-
  codec.readCount, codec.ReadText and pannierref01.ReadText: what any bytes begin with, as 'cntOf' and 'rdText' tell it; nothing that was there is written.
-/
import Derived.Test.YtmokelmeihmeiaaTexts
import Derived.Test.YtmokelmeihmeiaaSame
namespace Go.Proofs.Ytmokelmeihmeiaa
open Go.RowKit

/-- The count with which bytes begin, if it is at most 'most'. -/
def cntOf (bs : List Int) (most : Int) : Nat × Nat × Int := if (dec 0 0 bs).2.2 = 0 ∧ 0 ≤ most ∧ ((dec 0 0 bs).1 : Int) ≤ most then dec 0 0 bs else (0, 0, 10)
/-- The text of at most 'most' bytes with which bytes begin. -/
def rdText (bs : List Int) (most : Int) : ByteArray × Nat × Int := if (cntOf bs most).2.2 = 0 ∧ (cntOf bs most).2.1 + (cntOf bs most).1 ≤ bs.length then (strOfNums ((bs.take ((cntOf bs most).2.1 + (cntOf bs most).1)).drop (cntOf bs most).2.1), (cntOf bs most).2.1 + (cntOf bs most).1, 0) else (ByteArray.empty, 0, 10)

theorem cnt_cases {bs : List Int} (hb : AllB bs) (most : Int) : cntOf bs most = (0, 0, 10) ∨ ∃ x n, cntOf bs most = (x, n, 0) ∧ dec 0 0 bs = (x, n, 0) ∧ 0 ≤ most ∧ (x : Int) ≤ most ∧ n ≤ bs.length ∧ 1 ≤ n := by
  unfold cntOf
  split
  · rename_i h
    rcases dec_cases bs 0 0 with hd | ⟨x, n, hd⟩
    · rw [hd] at h
      simp at h
    · have hk := dec_back hb hd
      rw [hd] at h ⊢
      exact .inr ⟨x, n, rfl, rfl, h.2.1, h.2.2, hk.2.2.1, hk.2.2.2⟩
  · exact .inl rfl

theorem readCount_any (ao : Option Addr) (len cap : Nat) (bs : List Int) (most : Int) (w : World) (h : Held w ao len cap bs) (h0 : -9223372036854775808 ≤ most) (h1 : most ≤ 9223372036854775807) :
    Calls Try.prog 35 #[.slice ao len cap, .int .i64 most] w fun e w' => e = .returned (.tuple #[.int .i64 (cntOf bs most).1, .int .i64 (cntOf bs most).2.1, .int .i64 (cntOf bs most).2.2]) ∧ w' = w := by
  have hrd := readUint_any ao len cap bs w h
  rcases dec_cases bs 0 0 with hd | ⟨x, n, hd⟩
  · have e : cntOf bs most = (0, 0, 10) := by simp [cntOf, hd]
    rw [e]
    rw [hd] at hrd
    have HRD := hid hrd
    clear hrd hd e h
    go_enter Try.func35, Try.ntmps35
    go_wp2_with fail
    refine HRD.out.mono ?_
    rintro e w' ⟨rfl, rfl⟩
    go_wp2
    go_ret3
    exact ⟨rfl, rfl⟩
  · have hx := (dec_back h.byte hd).2.1
    by_cases hm : most < 0
    · have e : cntOf bs most = (0, 0, 10) := by
        unfold cntOf
        rw [if_neg (by omega)]
      rw [e]
      rw [hd] at hrd
      have HRD := hid hrd
      clear hrd hd e h
      go_enter Try.func35, Try.ntmps35
      go_wp2_with fail
      refine HRD.out.mono ?_
      rintro e w' ⟨rfl, rfl⟩
      go_wp2
      go_ret3
      exact ⟨rfl, rfl⟩
    · have hm' : 0 ≤ most := by omega
      by_cases hxm : most < (x : Int)
      · have e : cntOf bs most = (0, 0, 10) := by
          unfold cntOf
          rw [hd, if_neg (by simp; omega)]
        rw [e]
        rw [hd] at hrd
        have HRD := hid hrd
        clear hrd hd e h
        go_enter Try.func35, Try.ntmps35
        go_wp2_with fail
        refine HRD.out.mono ?_
        rintro e w' ⟨rfl, rfl⟩
        go_wp2
        go_ret3
        exact ⟨rfl, rfl⟩
      · have hxm' : (x : Int) ≤ most := by omega
        have e : cntOf bs most = (x, n, 0) := by
          unfold cntOf
          rw [hd, if_pos (by simp; omega)]
        rw [e]
        rw [hd] at hrd
        have HRD := hid hrd
        clear hrd hd e h
        go_enter Try.func35, Try.ntmps35
        go_wp2_with fail
        refine HRD.out.mono ?_
        rintro e w' ⟨rfl, rfl⟩
        go_wp2
        go_ret3
        exact ⟨rfl, rfl⟩

theorem ret_s {s t : ByteArray} {k2 k3 : IntKind} {b c b' c' : Int} (h1 : s = t) (h2 : b = b') (h3 : c = c') : Ending.returned (.tuple #[.string s, .int k2 b, .int k3 c]) = .returned (.tuple #[.string t, .int k2 b', .int k3 c']) := by rw [h1, h2, h3]

set_option maxRecDepth 100000 in
set_option maxHeartbeats 400000 in
theorem readText_any (ao : Option Addr) (len cap : Nat) (bs : List Int) (most : Int) (w : World) (h : Held w ao len cap bs) (h0 : -9223372036854775808 ≤ most) (h1 : most ≤ 9223372036854775807) :
    Calls Try.prog 13 #[.slice ao len cap, .int .i64 most] w fun e w' => e = .returned (.tuple #[.string (rdText bs most).1, .int .i64 (rdText bs most).2.1, .int .i64 (rdText bs most).2.2]) ∧ w' = w := by
  have hrd := readCount_any ao len cap bs most w h h0 h1
  have hlen := h.hlen
  have hcap := h.hcap
  have hmax := h.hmax
  unfold maxLen at hmax
  rcases cnt_cases h.byte most with hd | ⟨x, n, hd, _, hm0, hxm, hn, hn1⟩
  · have e : rdText bs most = (ByteArray.empty, 0, 10) := by simp [rdText, hd]
    rw [e]
    rw [hd] at hrd
    have HRD := hid hrd
    clear hrd hd e h
    go_enter Try.func13, Try.ntmps13
    go_wp2_with fail
    refine HRD.out.mono ?_
    rintro e w' ⟨rfl, rfl⟩
    go_wp2
    go_ret3
    exact ⟨rfl, rfl⟩
  · rw [hd] at hrd
    have HRD := hid hrd
    by_cases hx : (len : Int) - (n : Int) < (x : Int)
    · have e : rdText bs most = (ByteArray.empty, 0, 10) := by
        unfold rdText
        rw [hd, if_neg (by simp only; omega)]
      rw [e]
      clear hrd hd e h
      go_enter Try.func13, Try.ntmps13
      go_wp2_with fail
      refine HRD.out.mono ?_
      rintro e w' ⟨rfl, rfl⟩
      go_wp2
      go_ret3
      exact ⟨rfl, rfl⟩
    · have e : rdText bs most = (strOfNums ((bs.take (n + x)).drop n), n + x, 0) := by
        unfold rdText
        rw [hd, if_pos ⟨rfl, by simp only; omega⟩]
      rw [e]
      have hsl : ∀ W, (Instr.slice 23 (.slice ao len cap) (some (.int .i64 (n : Int))) (some (.int .i64 ((n : Int) + (x : Int)))) none).run Try.prog W = .ok (.slice (cutAt ao cap n) x (cap - n)) W := by
        intro W
        have := run_cut_lh (P := Try.prog) W 23 5 Try.underlying23 Try.size5 ao len cap n (n + x) n ((n : Int) + (x : Int)) rfl (by omega) (by omega) (by omega)
        rwa [Nat.add_sub_cancel_left] at this
      have hcut := h.cut (l := n) (u := n + x) (by omega) (by omega)
      rw [Nat.add_sub_cancel_left] at hcut
      have hcv := run_convert_held (P := Try.prog) hcut 23 5 9 Try.underlying23 Try.underlying5 Try.underlying9
      obtain ⟨S, hS⟩ : ∃ S, S = strOfNums ((bs.take (n + x)).drop n) := ⟨_, rfl⟩
      rw [← hS] at hcv ⊢
      clear hrd hd e h hcut hS
      go_enter Try.func13, Try.ntmps13
      go_wp2_with fail
      refine HRD.out.mono ?_
      rintro e w' ⟨rfl, rfl⟩
      go_wp2
      go_ret3
      exact ⟨ret_s rfl (by go_num) rfl, rfl⟩

set_option maxRecDepth 100000 in
set_option maxHeartbeats 400000 in
theorem refText_read (ao : Option Addr) (len cap : Nat) (bs : List Int) (most : Int) (w : World) (h : Held w ao len cap bs) (h0 : -9223372036854775808 ≤ most) (h1 : most ≤ 9223372036854775807) :
    Calls Try.prog 14 #[.slice ao len cap, .int .i64 most] w fun e w' => e = .returned (.tuple #[.string (rdText bs most).1, .int .i64 (rdText bs most).2.1, .int .i64 (rdText bs most).2.2]) ∧ Below w.heap.size w w' := by
  have hrd := refRead_any ao len cap bs w h
  have hlen := h.hlen
  have hcap := h.hcap
  have hmax := h.hmax
  unfold maxLen at hmax
  rcases dec_cases bs 0 0 with hd | ⟨x, n, hd⟩
  · have e : rdText bs most = (ByteArray.empty, 0, 10) := by simp [rdText, cntOf, hd]
    rw [e]
    rw [hd] at hrd
    have HRD := hid hrd
    clear hrd hd e h
    go_enter Try.func14, Try.ntmps14
    go_wp2_with fail
    refine HRD.out.mono ?_
    rintro e w' ⟨rfl, hb⟩
    have HB := hid hb
    clear hb
    go_wp2
    go_ret3
    exact ⟨rfl, HB.out⟩
  · have hk := dec_back h.byte hd
    have hx64 := hk.2.1
    have hn := hk.2.2.1
    have hn1 := hk.2.2.2
    by_cases hm : most < 0
    · have e : rdText bs most = (ByteArray.empty, 0, 10) := by
        have : cntOf bs most = (0, 0, 10) := by unfold cntOf; rw [if_neg (by omega)]
        simp [rdText, this]
      rw [e]
      rw [hd] at hrd
      have HRD := hid hrd
      clear hrd hd e h hk
      go_enter Try.func14, Try.ntmps14
      go_wp2_with fail
      refine HRD.out.mono ?_
      rintro e w' ⟨rfl, hb⟩
      have HB := hid hb
      clear hb
      go_wp2
      go_ret3
      exact ⟨rfl, HB.out⟩
    · have hm' : 0 ≤ most := by omega
      by_cases hxm : most < (x : Int)
      · have e : rdText bs most = (ByteArray.empty, 0, 10) := by
          have : cntOf bs most = (0, 0, 10) := by unfold cntOf; rw [hd, if_neg (by simp; omega)]
          simp [rdText, this]
        rw [e]
        rw [hd] at hrd
        have HRD := hid hrd
        clear hrd hd e h hk
        go_enter Try.func14, Try.ntmps14
        go_wp2_with fail
        refine HRD.out.mono ?_
        rintro e w' ⟨rfl, hb⟩
        have HB := hid hb
        clear hb
        go_wp2
        go_ret3
        exact ⟨rfl, HB.out⟩
      · have hxm' : (x : Int) ≤ most := by omega
        have hc : cntOf bs most = (x, n, 0) := by unfold cntOf; rw [hd, if_pos (by simp; omega)]
        by_cases hx : (len : Int) - (n : Int) < (x : Int)
        · have e : rdText bs most = (ByteArray.empty, 0, 10) := by
            unfold rdText
            rw [hc, if_neg (by simp only; omega)]
          rw [e]
          rw [hd] at hrd
          have HRD := hid hrd
          clear hrd hd e h hk hc
          go_enter Try.func14, Try.ntmps14
          go_wp2_with fail
          refine HRD.out.mono ?_
          rintro e w' ⟨rfl, hb⟩
          have HB := hid hb
          clear hb
          go_wp2
          go_ret3
          exact ⟨rfl, HB.out⟩
        · have e : rdText bs most = (strOfNums ((bs.take (n + x)).drop n), n + x, 0) := by
            unfold rdText
            rw [hc, if_pos ⟨rfl, by simp only; omega⟩]
          rw [e]
          rw [hd] at hrd
          have HRD := hid hrd
          have HH := hid h
          have hsl : ∀ W, (Instr.slice 23 (.slice ao len cap) (some (.int .i64 (n : Int))) (some (.int .i64 ((n : Int) + (x : Int)))) none).run Try.prog W = .ok (.slice (cutAt ao cap n) x (cap - n)) W := by
            intro W
            have := run_cut_lh (P := Try.prog) W 23 5 Try.underlying23 Try.size5 ao len cap n (n + x) n ((n : Int) + (x : Int)) rfl (by omega) (by omega) (by omega)
            rwa [Nat.add_sub_cancel_left] at this
          obtain ⟨S, hS⟩ : ∃ S, S = strOfNums ((bs.take (n + x)).drop n) := ⟨_, rfl⟩
          rw [← hS]
          have HS := hid hS
          clear hrd hd e h hk hc hS
          go_enter Try.func14, Try.ntmps14
          go_wp2_with fail
          refine HRD.out.mono ?_
          rintro e w1 ⟨rfl, hb⟩
          have hcut := (HH.out.below hb (Nat.le_refl _)).cut (l := n) (u := n + x) (by omega) (by omega)
          rw [Nat.add_sub_cancel_left] at hcut
          have hcv := run_convert_held (P := Try.prog) hcut 23 5 9 Try.underlying23 Try.underlying5 Try.underlying9
          rw [← HS.out] at hcv
          have HB := hid hb
          clear hb hcut
          go_wp2
          go_ret3
          exact ⟨ret_s rfl (by go_num) rfl, HB.out⟩
end Go.Proofs.Ytmokelmeihmeiaa
