/-
  Package codec: a reader's number and truth.
-/
import Derived.Test.YtmpkbdhihdboiaaGreatRdA
import Derived.Test.YtmpkbdhihdboiaaGreatPuts
import Derived.Deep.QuietTactic
import Derived.BigQuiet
import Derived.Deep.RegionWith
import Derived.Test.YtmpkbdhihdboiaaGreatNames
namespace Go.Proofs.YtmpkbdhihdboiaaGreat
open Go.RowKit Go.Maps

theorem nxt_num {st : Option (List Int)} {y most : Nat} (h : Got st pU y) : (if decide (y ≤ most) = true then nxt st pU else none) = nxt st (pNum most) := by
  unfold nxt
  cases st with
  | none => simp
  | some b =>
    simp only [Option.bind_some]
    rw [pU_num]
    cases hp : pU b with
    | none => simp
    | some r =>
      obtain ⟨x, s⟩ := r
      have hy : y = x := h x s (by rw [Option.bind_some]; exact hp)
      subst hy
      by_cases hc : y ≤ most
      · simp [hc]
      · simp [hc]
theorem got_num {st : Option (List Int)} {y most : Nat} (h : Got st pU y) : Got st (pNum most) (y : Int) := by
  intro x r hx
  cases st with
  | none => cases hx
  | some b =>
    rw [Option.bind_some, pU_num] at hx
    cases hp : pU b with
    | none => rw [hp] at hx; cases hx
    | some t =>
      obtain ⟨z, s⟩ := t
      have hy : y = z := h z s (by rw [Option.bind_some]; exact hp)
      subst hy
      rw [hp] at hx
      change (if y ≤ most then some ((y : Int), s) else none) = some (x, r) at hx
      split at hx
      · cases hx; rfl
      · cases hx
theorem got_no {st : Option (List Int)} {y most : Nat} (h : Got st pU y) (hc : ¬ y ≤ most) (z : Int) : Got st (pNum most) z := by
  intro x r hx
  cases st with
  | none => cases hx
  | some b =>
    rw [Option.bind_some, pU_num] at hx
    cases hp : pU b with
    | none => rw [hp] at hx; cases hx
    | some t =>
      obtain ⟨u, s⟩ := t
      have hy : y = u := h u s (by rw [Option.bind_some]; exact hp)
      subst hy
      rw [hp] at hx
      change (if y ≤ most then some ((y : Int), s) else none) = some (x, r) at hx
      rw [if_neg hc] at hx
      cases hx
theorem turns_one {rb : Nat} {a b c : World} (h : Turns (fun i => i = rb) a b) (k : Turns (fun i => i = rb) b c) : Turns (fun i => i = rb) a c := h.trans k (fun _ hi => .inl hi)
set_option maxRecDepth 1000000 in
set_option maxHeartbeats 2000000 in
theorem RdAt.number {w : World} {rb : Nat} {ao : Option Addr} {len cap : Nat} {bs : List Int} {st : Option (List Int)} (h : RdAt w rb ao len cap bs st) (most : Nat) (hm : most ≤ 4611686018427387904) : Calls Tryz.prog 55 #[.pointer (some ⟨rb, 0, none⟩), .int .u64 (most : Int)] w fun e w' => (∃ y : Int, e = .returned (.int .i64 y) ∧ I64 y ∧ Got st (pNum most) y) ∧ RdAt w' rb ao len cap bs (nxt st (pNum most)) ∧ Turns (fun i => i = rb) w w' := by
  have HTK := hid h.takeU
  have HM := hid hm
  clear h hm
  go_enter Tryz.func55, Tryz.ntmps55
  go_wp2_with fail
  refine HTK.out.mono ?_
  rintro e w1 ⟨⟨y, rfl, hy64, hgot⟩, hrd, ht⟩
  have HG := hid hgot
  have HR := hid hrd
  have HT := hid ht
  have HY := hid hy64
  clear hgot hrd ht hy64 HTK
  by_cases hc : y ≤ most
  · have hcI : ((y : Int) ≤ (most : Int)) := by omega
    have hwr : IntKind.i64.wrap (y : Int) = (y : Int) := by rw [IntKind.wrap_i64]; have h1 := HM.out; omega
    have HI : Hid (I64 (y : Int)) := by unfold I64; have h1 := HM.out; exact hid ⟨by omega, by omega⟩
    have HDM : Hid (Calls Tryz.prog 82 #[.pointer (some ⟨rb, 0, none⟩), .bool true] w1 fun e w' => e = .returned (.tuple #[]) ∧ RdAt w' rb ao len cap bs (nxt st (pNum most)) ∧ Turns (fun i => i = rb) w1 w') := by
      have h1 := HR.out.demand true
      rw [← nxt_num (most := most) HG.out, decide_eq_true hc]
      exact h1
    go_wp2_with fail
    refine HDM.out.mono ?_
    rintro e w2 ⟨rfl, hr2, ht2⟩
    have HR2 := hid hr2
    have HT2 := hid (turns_one HT.out ht2)
    clear hr2 ht2 HDM
    go_wp2
    go_ret
    exact ⟨⟨(y : Int), rfl, HI.out, got_num HG.out⟩, HR2.out, HT2.out⟩
  · have hcI : ¬ ((y : Int) ≤ (most : Int)) := by omega
    obtain ⟨z, HZ⟩ : ∃ z, Hid (IntKind.i64.wrap (y : Int) = z) := ⟨_, hid rfl⟩
    have hz := HZ.out
    have HI : Hid (I64 z) := by rw [← HZ.out, IntKind.wrap_i64]; unfold I64; exact hid ⟨by omega, by omega⟩
    have HDM : Hid (Calls Tryz.prog 82 #[.pointer (some ⟨rb, 0, none⟩), .bool false] w1 fun e w' => e = .returned (.tuple #[]) ∧ RdAt w' rb ao len cap bs (nxt st (pNum most)) ∧ Turns (fun i => i = rb) w1 w') := by
      have h1 := HR.out.demand false
      rw [← nxt_num (most := most) HG.out, decide_eq_false hc]
      exact h1
    go_wp2_with fail
    refine HDM.out.mono ?_
    rintro e w2 ⟨rfl, hr2, ht2⟩
    have HR2 := hid hr2
    have HT2 := hid (turns_one HT.out ht2)
    clear hr2 ht2 HDM
    go_wp2
    go_ret
    exact ⟨⟨z, rfl, HI.out, got_no HG.out hc z⟩, HR2.out, HT2.out⟩
theorem nxt_map {α β : Type} (st : Option (List Int)) (f : α → β) (p : Rdr α) : nxt st (pMap f p) = nxt st p := by
  unfold nxt pMap
  cases st with
  | none => rfl
  | some b => simp only [Option.bind_some]; cases p b <;> rfl
theorem got_map {α β : Type} {st : Option (List Int)} (f : α → β) {p : Rdr α} {y : α} (h : Got st p y) : Got st (pMap f p) (f y) := by
  intro x r hx
  cases st with
  | none => cases hx
  | some b =>
    simp only [Option.bind_some, pMap] at hx
    cases hp : p b with
    | none => rw [hp] at hx; cases hx
    | some t =>
      obtain ⟨z, s⟩ := t
      rw [hp] at hx
      cases hx
      rw [h z s (by rw [Option.bind_some]; exact hp)]
set_option maxRecDepth 1000000 in
theorem RdAt.truth {w : World} {rb : Nat} {ao : Option Addr} {len cap : Nat} {bs : List Int} {st : Option (List Int)} (h : RdAt w rb ao len cap bs st) : Calls Tryz.prog 83 #[.pointer (some ⟨rb, 0, none⟩)] w fun e w' => (∃ t : Bool, e = .returned (.bool t) ∧ Got st pBool t) ∧ RdAt w' rb ao len cap bs (nxt st pBool) ∧ Turns (fun i => i = rb) w w' := by
  have HN := hid (h.number 1 (by decide))
  clear h
  go_enter Tryz.func83, Tryz.ntmps83
  go_wp2_with fail
  refine HN.out.mono ?_
  rintro e w1 ⟨⟨y, rfl, _, hgot⟩, hrd, ht⟩
  have HG := hid (got_map (fun x => decide (x = 1)) hgot)
  have HR : Hid (RdAt w1 rb ao len cap bs (nxt st pBool)) := by unfold pBool; rw [nxt_map]; exact hrd
  have HT := hid ht
  clear hgot hrd ht HN
  by_cases hy : y = 1
  · subst hy
    go_wp2
    go_ret
    exact ⟨⟨true, rfl, HG.out⟩, HR.out, HT.out⟩
  · have hd : (y == 1) = false := by simpa using hy
    have HG' : Hid (Got st pBool false) := by have := HG.out; simp only [decide_eq_false hy] at this; exact hid this
    go_wp2
    go_ret
    exact ⟨⟨false, rfl, HG'.out⟩, HR.out, HT.out⟩
end Go.Proofs.YtmpkbdhihdboiaaGreat
/-
  pannierref01.same tells whether two slices of bytes hold the same, and pannierref01.ReadUint answers what 'dec' tells of any bytes, as codec.ReadUint does; both write nothing that was there.
-/
namespace Go.Proofs.YtmpkbdhihdboiaaGreat
open Go.RowKit

theorem take_snoc {l : List Int} {k : Nat} (h : k < l.length) : l.take (k + 1) = l.take k ++ [l.getD k 0] := by
  rw [List.take_succ_eq_append_getElem h]
  simp [List.getD, List.getElem?_eq_getElem h]

/-- Uint's answer, read as a slice. -/
theorem refUint_held (x : Int) (w : World) (h0 : 0 ≤ x) (hx : x < 18446744073709551616) :
    Calls Tryz.prog 45 #[.int .u64 x] w fun e w' => ∃ ao cap, e = .returned (.slice ao (enc x.toNat).length cap) ∧ Held w' ao (enc x.toNat).length cap (enc x.toNat) ∧ w'.ownsRow w.heap.size 5 1 (.slice ao (enc x.toNat).length cap) (enc x.toNat).length (nums (enc x.toNat)) ∧ Below w.heap.size w w' := by
  refine (refUint_any x w h0 hx).mono ?_
  rintro e w' ⟨v, rfl, hown, hb⟩
  obtain ⟨ao, cap, rfl, hh⟩ := held_of_own hown (enc_byte _)
  exact ⟨ao, cap, rfl, hh, hown, hb⟩

theorem refUint_heldN (x : Nat) (w : World) (hx : x < 18446744073709551616) :
    Calls Tryz.prog 45 #[.int .u64 x] w fun e w' => ∃ ao cap, e = .returned (.slice ao (enc x).length cap) ∧ Held w' ao (enc x).length cap (enc x) ∧ w'.ownsRow w.heap.size 5 1 (.slice ao (enc x).length cap) (enc x).length (nums (enc x)) ∧ Below w.heap.size w w' := by
  have := refUint_held x w (by omega) (by omega)
  rwa [Int.toNat_natCast] at this

end Go.Proofs.YtmpkbdhihdboiaaGreat
/-
  codec.readCount, codec.ReadText and pannierref01.ReadText: what any bytes begin with, as 'cntOf' and 'rdText' tell it; nothing that was there is written.
-/
namespace Go.Proofs.YtmpkbdhihdboiaaGreat
open Go.RowKit

/-- The count with which bytes begin, if it is at most 'most'. -/
def cntOf (bs : List Int) (most : Int) : Nat × Nat × Int := if (dec 0 0 bs).2.2 = 0 ∧ 0 ≤ most ∧ ((dec 0 0 bs).1 : Int) ≤ most then dec 0 0 bs else (0, 0, 10)
/-- The text of at most 'most' bytes with which bytes begin. -/
def rdText (bs : List Int) (most : Int) : ByteArray × Nat × Int := if (cntOf bs most).2.2 = 0 ∧ (cntOf bs most).2.1 + (cntOf bs most).1 ≤ bs.length then (strOfNums ((bs.take ((cntOf bs most).2.1 + (cntOf bs most).1)).drop (cntOf bs most).2.1), (cntOf bs most).2.1 + (cntOf bs most).1, 0) else (ByteArray.empty, 0, 10)

theorem cnt_cases {bs : List Int} (hb : AllB bs) (most : Int) : cntOf bs most = (0, 0, 10) ∨ ∃ x n, cntOf bs most = (x, n, 0) ∧ dec 0 0 bs = (x, n, 0) ∧ 0 ≤ most ∧ (x : Int) ≤ most ∧ n ≤ bs.length ∧ 1 ≤ n := by
  unfold cntOf
  split
  · rename_i h
    rcases dec_cases bs 0 0 with hd | ⟨x, n, hd⟩
    · rw [hd] at h
      simp at h
    · have hk := dec_back hb hd
      rw [hd] at h ⊢
      exact .inr ⟨x, n, rfl, rfl, h.2.1, h.2.2, hk.2.2.1, hk.2.2.2⟩
  · exact .inl rfl

theorem readCount_any (ao : Option Addr) (len cap : Nat) (bs : List Int) (most : Int) (w : World) (h : Held w ao len cap bs) (h0 : -9223372036854775808 ≤ most) (h1 : most ≤ 9223372036854775807) :
    Calls Tryz.prog 99 #[.slice ao len cap, .int .i64 most] w fun e w' => e = .returned (.tuple #[.int .i64 (cntOf bs most).1, .int .i64 (cntOf bs most).2.1, .int .i64 (cntOf bs most).2.2]) ∧ w' = w := by
  have hrd := readUint_any ao len cap bs w h
  rcases dec_cases bs 0 0 with hd | ⟨x, n, hd⟩
  · have e : cntOf bs most = (0, 0, 10) := by simp [cntOf, hd]
    rw [e]
    rw [hd] at hrd
    have HRD := hid hrd
    clear hrd hd e h
    go_enter Tryz.func99, Tryz.ntmps99
    go_wp2_with fail
    refine HRD.out.mono ?_
    rintro e w' ⟨rfl, rfl⟩
    go_wp2
    go_ret3
    exact ⟨rfl, rfl⟩
  · have hx := (dec_back h.byte hd).2.1
    by_cases hm : most < 0
    · have e : cntOf bs most = (0, 0, 10) := by
        unfold cntOf
        rw [if_neg (by omega)]
      rw [e]
      rw [hd] at hrd
      have HRD := hid hrd
      clear hrd hd e h
      go_enter Tryz.func99, Tryz.ntmps99
      go_wp2_with fail
      refine HRD.out.mono ?_
      rintro e w' ⟨rfl, rfl⟩
      go_wp2
      go_ret3
      exact ⟨rfl, rfl⟩
    · have hm' : 0 ≤ most := by omega
      by_cases hxm : most < (x : Int)
      · have e : cntOf bs most = (0, 0, 10) := by
          unfold cntOf
          rw [hd, if_neg (by simp; omega)]
        rw [e]
        rw [hd] at hrd
        have HRD := hid hrd
        clear hrd hd e h
        go_enter Tryz.func99, Tryz.ntmps99
        go_wp2_with fail
        refine HRD.out.mono ?_
        rintro e w' ⟨rfl, rfl⟩
        go_wp2
        go_ret3
        exact ⟨rfl, rfl⟩
      · have hxm' : (x : Int) ≤ most := by omega
        have e : cntOf bs most = (x, n, 0) := by
          unfold cntOf
          rw [hd, if_pos (by simp; omega)]
        rw [e]
        rw [hd] at hrd
        have HRD := hid hrd
        clear hrd hd e h
        go_enter Tryz.func99, Tryz.ntmps99
        go_wp2_with fail
        refine HRD.out.mono ?_
        rintro e w' ⟨rfl, rfl⟩
        go_wp2
        go_ret3
        exact ⟨rfl, rfl⟩

theorem ret_s {s t : ByteArray} {k2 k3 : IntKind} {b c b' c' : Int} (h1 : s = t) (h2 : b = b') (h3 : c = c') : Ending.returned (.tuple #[.string s, .int k2 b, .int k3 c]) = .returned (.tuple #[.string t, .int k2 b', .int k3 c']) := by rw [h1, h2, h3]

set_option maxRecDepth 100000 in
set_option maxHeartbeats 400000 in
theorem readText_any (ao : Option Addr) (len cap : Nat) (bs : List Int) (most : Int) (w : World) (h : Held w ao len cap bs) (h0 : -9223372036854775808 ≤ most) (h1 : most ≤ 9223372036854775807) :
    Calls Tryz.prog 107 #[.slice ao len cap, .int .i64 most] w fun e w' => e = .returned (.tuple #[.string (rdText bs most).1, .int .i64 (rdText bs most).2.1, .int .i64 (rdText bs most).2.2]) ∧ w' = w := by
  have hrd := readCount_any ao len cap bs most w h h0 h1
  have hlen := h.hlen
  have hcap := h.hcap
  have hmax := h.hmax
  unfold maxLen at hmax
  rcases cnt_cases h.byte most with hd | ⟨x, n, hd, _, hm0, hxm, hn, hn1⟩
  · have e : rdText bs most = (ByteArray.empty, 0, 10) := by simp [rdText, hd]
    rw [e]
    rw [hd] at hrd
    have HRD := hid hrd
    clear hrd hd e h
    go_enter Tryz.func107, Tryz.ntmps107
    go_wp2_with fail
    refine HRD.out.mono ?_
    rintro e w' ⟨rfl, rfl⟩
    go_wp2
    go_ret3
    exact ⟨rfl, rfl⟩
  · rw [hd] at hrd
    have HRD := hid hrd
    by_cases hx : (len : Int) - (n : Int) < (x : Int)
    · have e : rdText bs most = (ByteArray.empty, 0, 10) := by
        unfold rdText
        rw [hd, if_neg (by simp only; omega)]
      rw [e]
      clear hrd hd e h
      go_enter Tryz.func107, Tryz.ntmps107
      go_wp2_with fail
      refine HRD.out.mono ?_
      rintro e w' ⟨rfl, rfl⟩
      go_wp2
      go_ret3
      exact ⟨rfl, rfl⟩
    · have e : rdText bs most = (strOfNums ((bs.take (n + x)).drop n), n + x, 0) := by
        unfold rdText
        rw [hd, if_pos ⟨rfl, by simp only; omega⟩]
      rw [e]
      have hsl : ∀ W, (Instr.slice 33 (.slice ao len cap) (some (.int .i64 (n : Int))) (some (.int .i64 ((n : Int) + (x : Int)))) none).run Tryz.prog W = .ok (.slice (cutAt ao cap n) x (cap - n)) W := by
        intro W
        have := run_cut_lh (P := Tryz.prog) W 33 5 Tryz.underlying33 Tryz.size5 ao len cap n (n + x) n ((n : Int) + (x : Int)) rfl (by omega) (by omega) (by omega)
        rwa [Nat.add_sub_cancel_left] at this
      have hcut := h.cut (l := n) (u := n + x) (by omega) (by omega)
      rw [Nat.add_sub_cancel_left] at hcut
      have hcv := run_convert_held (P := Tryz.prog) hcut 33 5 9 Tryz.underlying33 Tryz.underlying5 Tryz.underlying9
      obtain ⟨S, hS⟩ : ∃ S, S = strOfNums ((bs.take (n + x)).drop n) := ⟨_, rfl⟩
      rw [← hS] at hcv ⊢
      clear hrd hd e h hcut hS
      go_enter Tryz.func107, Tryz.ntmps107
      go_wp2_with fail
      refine HRD.out.mono ?_
      rintro e w' ⟨rfl, rfl⟩
      go_wp2
      go_ret3
      exact ⟨ret_s rfl (by go_num) rfl, rfl⟩

end Go.Proofs.YtmpkbdhihdboiaaGreat
