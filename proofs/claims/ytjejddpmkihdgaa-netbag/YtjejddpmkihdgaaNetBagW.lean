/-
  pannierlaw04.NetBag answers true at every input.
-/
import Derived.Test.YtjejddpmkihdgaaNetF
import Derived.Test.YtjejddpmkihdgaaSlOpen
import Derived.Deep.QuietTactic
import Derived.BigQuiet
import Derived.Laws.StructEq
namespace Go.Proofs.Ytjejddpmkihdgaa
open Go.RowKit Go.Maps

/-- A packet that was sent so. -/
def Known (ls : List ByteArray) (q : Pk) : Prop := ∃ fr j : Nat, fr ≤ 2 ∧ q.frm = fr ∧ q.dst = ((fr : Int) + 1) % 3 ∧ j < ls.length ∧ j % 3 = fr ∧ ls.getD j ByteArray.empty = q.body
def Good (ls : List ByteArray) (ps : List Pk) : Prop := ∀ q ∈ ps, Known ls q
theorem Good.snoc {ls : List ByteArray} {ps : List Pk} {q : Pk} (h : Good ls ps) (hq : Known ls q) : Good ls (ps ++ [q]) := by
  intro r hr
  rcases List.mem_append.1 hr with hr | hr
  · exact h r hr
  · simp at hr
    subst hr
    exact hq
theorem Good.erase {ls : List ByteArray} {ps : List Pk} (h : Good ls ps) (k : Nat) : Good ls (ps.eraseIdx k) := fun q hq => h q ((List.eraseIdx_sublist _ _).subset hq)

/-- Have the bodies of sender fr so far this one among them? -/
def seen (ls : List ByteArray) (fr : Nat) (s : ByteArray) (m : Nat) : Bool := (List.range m).any fun i => ls.getD (fr + 3 * i) ByteArray.empty == s
theorem seen_succ (ls : List ByteArray) (fr : Nat) (s : ByteArray) (m : Nat) : seen ls fr s (m + 1) = (seen ls fr s m || (ls.getD (fr + 3 * m) ByteArray.empty == s)) := by
  simp [seen, List.range_succ]
theorem seen_all {ls : List ByteArray} {fr j m : Nat} {s : ByteArray} (hj : j < ls.length) (h3 : j % 3 = fr) (hs : ls.getD j ByteArray.empty = s) (hm : ls.length ≤ fr + 3 * m) : seen ls fr s m = true := by
  unfold seen
  rw [List.any_eq_true]
  refine ⟨j / 3, List.mem_range.2 (by omega), ?_⟩
  have e : fr + 3 * (j / 3) = j := by omega
  show (ls.getD (fr + 3 * (j / 3)) ByteArray.empty == s) = true
  rw [e, hs]
  exact (MapKept.bytes_beq _ _).2 rfl

theorem step3 {idx fr m : Nat} (h : idx = fr + 3 * m) : Value.int .i64 ((idx : Int) + 3) = .int .i64 ((fr + 3 * (m + 1) : Nat) : Int) := by
  have : (idx : Int) + 3 = ((fr + 3 * (m + 1) : Nat) : Int) := by omega
  rw [this]
theorem drewN_zero (w : World) : w.drewN 0 = w := rfl
theorem NetIn.drewN {B : Nat} {w0 w : World} {p bm : Nat} {nodes last : Int} {ps : List Pk} (h : NetIn B w0 w p bm nodes last ps) (q : Nat) : NetIn B w0 (w.drewN q) p bm nodes last ps := by
  obtain ⟨v, D, hn, hF, hb, hB⟩ := h
  exact ⟨v, D, hn.drewN q, hF, below_dn hb q, hB⟩

set_option maxRecDepth 100000 in
set_option maxHeartbeats 4000000 in
theorem netBag_walk (ao : Option Addr) (cap : Nat) (ls : List ByteArray) (bo : Option Addr) (cap2 : Nat) (xs : List Int) (w : World) (h : HeldStr w ao ls) (hlen : ls.length ≤ 140737488355328) (h2 : HeldInt w bo xs) (hlen2 : xs.length ≤ 140737488355328) :
    Calls Try.prog 8 #[.slice ao ls.length cap, .slice bo xs.length cap2] w fun e w' => e = .returned (.bool true) ∧ Below w.heap.size w w' := by
  have HH := hid h
  have HI := hid h2
  clear h h2
  obtain ⟨n, hn⟩ : ∃ n, n = ls.length := ⟨_, rfl⟩
  have HN := hid hn
  rw [← hn] at hlen ⊢
  clear hn
  obtain ⟨n2, hn2⟩ : ∃ n2, n2 = xs.length := ⟨_, rfl⟩
  have HN2 := hid hn2
  rw [← hn2] at hlen2 ⊢
  clear hn2
  go_enter Try.func8, Try.ntmps8
  go_wp2_with fail
  refine (new_good w 3 (by decide) (by decide)).mono ?_
  rintro e w1 ⟨rfl, h'⟩
  have HA1 : Hid (NetIn w.heap.size w w1 (w.heap.size + 1) w.heap.size 3 0 []) := by subst h'; exact NetIn.new w 3
  clear h'
  generalize hp : w.heap.size + 1 = p at *
  clear hp
  go_wp2_with fail
  refine (lives_any _).mono ?_
  rintro e w2 ⟨rfl, hb⟩
  have HA2 := hid (HA1.out.later hb)
  clear hb HA1
  go_wp2
  go_loopw [7, 8] (fun a b wr => ∃ (i : Nat) (ps : List Pk), i ≤ n ∧ i ≤ 60000 ∧ b = .int .i64 i ∧ a = .int .i64 ps.length ∧ ps.length ≤ i ∧ Good ls ps ∧ NetIn w.heap.size w wr p w.heap.size 3 ps.length ps) (fun _ b _ => n - (intOf b).toNat)
  case atStart => exact ⟨0, [], by omega, by omega, rfl, rfl, by simp, fun q hq => (by cases hq), HA2.out⟩
  case round =>
    obtain ⟨i, ps, hi, hi6, rfl, rfl, hli, hgood, hnet⟩ := hrel
    have HNET := hid hnet
    have HG := hid hgood
    clear hnet hgood
    by_cases hlt : i < n ∧ i < 60000
    · obtain ⟨hlt, hlt6⟩ := hlt
      have hlt' : (i : Int) < (n : Int) := by omega
      have hlt6' : (i : Int) < 60000 := by omega
      have hi0 : (0 : Int) ≤ (i : Int) := by omega
      obtain ⟨b, off, hao, hbw, hcs⟩ : ∃ b off, ao = some ⟨b, off, none⟩ ∧ b < w.heap.size ∧ ∀ j, j < ls.length → w.cell? ⟨b, off + j, none⟩ = some (.string (ls.getD j ByteArray.empty)) := by
        rcases HH.out.2 with h0 | h0
        · have := HN.out
          rw [h0] at this
          simp at this
          omega
        · exact h0
      subst hao
      obtain ⟨s, hs⟩ : ∃ s, s = ls.getD i ByteArray.empty := ⟨_, rfl⟩
      have g0 : wr.cell? ⟨b, off + i, none⟩ = some (.string s) := by
        rw [HNET.out.bel.cell (p := ⟨b, off + i, none⟩) hbw, hs]
        exact hcs i (by have := HN.out; omega)
      have hsm : s.size ≤ 9223372036854775807 := by
        have hi' : i < ls.length := by have := HN.out; omega
        have := HH.out.1 s (by rw [hs, List.getD_eq_getElem?_getD, List.getElem?_eq_getElem hi']; exact List.getElem_mem hi')
        unfold maxLen at this
        exact this
      have HKN : Hid (Known ls ⟨ps.length + 1, (i : Int) % 3, ((i : Int) + 1) % 3, s⟩) := ⟨i % 3, i, by omega, by simp, by simp, by have := HN.out; omega, rfl, hs.symm⟩
      have hm1 : 0 ≤ (i : Int) % 3 := by omega
      have hm2 : (i : Int) % 3 < 3 := by omega
      have hm3 : 0 ≤ ((i : Int) + 1) % 3 := by omega
      have hm4 : ((i : Int) + 1) % 3 < 3 := by omega
      clear hcs hs
      by_cases hs : 65536 < s.size
      · have hs' : ¬ (s.size : Int) ≤ 65536 := by omega
        go_wp2_with fail
        obtain ⟨v, D, hn, hF, hb, hB⟩ := HNET.out
        refine (send_long hn _ _ s hm1 hm2 hm3 hm4 hs).mono ?_
        rintro e w3 ⟨rfl, h'⟩
        subst h'
        have hd : decide ((s.size : Int) ≤ 65536) = false := by rw [decide_eq_false_iff_not]; omega
        clear hn hF hb hB hs hs'
        go_wp2
        go_roundw
        case rel => exact ⟨i + 1, ps, by omega, by omega, by go_num, rfl, by omega, HG.out, HNET.out⟩
        case measure => simp [intOf]; omega
      · go_wp2_with fail
        obtain ⟨v, D, hn, hF, hb, hB⟩ := HNET.out
        refine (send_ok hn _ _ s hm1 hm2 hm3 hm4 hs (by omega) (by omega)).mono ?_
        rintro e w3 ⟨rfl, hg⟩
        have HN3 := hid (NetIn.gave hF hb hB hg)
        clear hn hF hb hB hg
        go_wp2
        go_roundw
        case rel => exact ⟨i + 1, ps ++ [⟨ps.length + 1, (i : Int) % 3, ((i : Int) + 1) % 3, s⟩], by omega, by omega, by go_num, by simp, by simp; omega, HG.out.snoc HKN.out, by simpa using HN3.out⟩
        case measure => simp [intOf]; omega
    · have hsmall : ps.length ≤ 60000 := by omega
      have hex : (¬ (i : Int) < (n : Int)) ∨ ((i : Int) < (n : Int) ∧ ¬ (i : Int) < 60000) := by omega
      clear hlt
      rcases hex with hln' | ⟨hln', hln6⟩
      all_goals
        go_wp2
        go_loopw [11, 12, 13] (fun a b c wr => ∃ (j dbl tkn : Nat) (ps2 : List Pk) (lst : Int), j ≤ n2 ∧ j ≤ 5000 ∧ a = .int .i64 dbl ∧ b = .int .i64 tkn ∧ c = .int .i64 j ∧ dbl ≤ j ∧ tkn ≤ j ∧ ps2.length + tkn = ps.length + dbl ∧ lst ≤ 60000 + j ∧ Good ls ps2 ∧ NetIn w.heap.size w wr p w.heap.size 3 lst ps2) (fun _ _ c _ => n2 - (intOf c).toNat)
        case atStart => exact ⟨0, 0, 0, ps, ps.length, by omega, by omega, rfl, rfl, rfl, by omega, by omega, by omega, by omega, HG.out, HNET.out⟩
        case round =>
          obtain ⟨j, dbl, tkn, ps2, lst, hj, hj5, rfl, rfl, rfl, hdj, htj, hsum, hlst, hgood2, hnet2⟩ := hrel
          have HNET2 := hid hnet2
          have HG2 := hid hgood2
          have HSUM := hid hsum
          have hl2 : ps2.length ≤ 65000 := by omega
          have hfin : ((ps2.length : Int) == (ps.length : Int) + (dbl : Int) - (tkn : Int)) = true := by rw [beq_iff_eq]; omega
          clear hnet2 hgood2 hsum
          by_cases hlt : j < n2 ∧ j < 5000
          · obtain ⟨hlt, hlt5⟩ := hlt
            have hlt' : (j : Int) < (n2 : Int) := by omega
            have hlt5' : (j : Int) < 5000 := by omega
            have hj0 : (0 : Int) ≤ (j : Int) := by omega
            obtain ⟨b, off, hbo, hbw, hcs⟩ : ∃ b off, bo = some ⟨b, off, none⟩ ∧ b < w.heap.size ∧ ∀ j, j < xs.length → w.cell? ⟨b, off + j, none⟩ = some (.int .i64 (xs.getD j 0)) := by
              rcases HI.out.2 with h0 | h0
              · have := HN2.out
                rw [h0] at this
                simp at this
                omega
              · exact h0
            subst hbo
            obtain ⟨x, hx⟩ : ∃ x, x = xs.getD j 0 := ⟨_, rfl⟩
            have g0 : wr.cell? ⟨b, off + j, none⟩ = some (.int .i64 x) := by
              rw [HNET2.out.bel.cell (p := ⟨b, off + j, none⟩) hbw, hx]
              exact hcs j (by have := HN2.out; omega)
            clear hcs hx
            by_cases hem : ps2.length = 0
            · have HEM := hid hem
              clear hem
              go_wp2_with fail
              obtain ⟨v, D, hn, hF, hb, hB⟩ := HNET2.out
              refine (at_empty hn x HEM.out).mono ?_
              rintro e w3 ⟨rfl, h'⟩
              subst h'
              have HA := hid hn
              have HB := hid hb
              clear hn hF hb hB
              go_wp2_with fail
              refine (len_any HA.out).mono ?_
              rintro e w4 ⟨rfl, h'⟩
              subst h'
              go_wp2
              go_ret
              exact ⟨rfl, HB.out⟩
            · have hk0 := Int.emod_nonneg x (show (ps2.length : Int) ≠ 0 by omega)
              have hk1 := Int.emod_lt_of_pos x (show (0 : Int) < ps2.length by omega)
              obtain ⟨k, hkx⟩ : ∃ k : Nat, (k : Int) = x % ps2.length := ⟨(x % ps2.length).toNat, by omega⟩
              have hk : k < ps2.length := by omega
              have HKX := hid hkx
              clear hk0 hk1 hkx
              have hin := HNET2.out
              obtain ⟨v, D, hn, hF, hb, hB⟩ := hin
              have hid1 := (hn.ids ps2[k] (List.getElem_mem hk)).1
              have hid2 := (hn.ids ps2[k] (List.getElem_mem hk)).2
              have HAT := hid (at_any hn x k hk HKX.out)
              have HNA := hid hn
              have HF := hid hF
              have HB := hid hb
              have HBs := hid hB
              obtain ⟨q, hq⟩ : ∃ q, q = ps2[k] := ⟨_, rfl⟩
              have HQ := hid hq
              rw [← hq] at HAT hid1 hid2
              obtain ⟨fr, jj, hfr, hqf, hqd, hjl, hj3, hjs⟩ := HG2.out q (by rw [hq]; exact List.getElem_mem hk)
              have HFND : Hid (found ps2 q.id = some q) := by show _ = _; rw [hq]; exact found_at hn.rise hk
              clear hn hF hb hB hq
              by_cases h3 : (j : Int) % 3 = 0
              · have h3' : ((j : Int) % 3 == 0) = true := by rw [beq_iff_eq]; exact h3
                clear h3
                go_wp2_with fail
                refine HAT.out.mono ?_
                rintro e w3 ⟨rfl, h'⟩
                subst h'
                go_wp2_with fail
                refine (twice_ok HNA.out q.id (by omega) (by omega) HFND.out (by omega) (by omega)).mono ?_
                rintro e w4 ⟨rfl, hg⟩
                have HN4 := hid (NetIn.gave HF.out HB.out HBs.out hg)
                have HKN : Hid (Known ls ⟨lst + 1, q.frm, q.dst, q.body⟩) := ⟨fr, jj, hfr, hqf, hqd, hjl, hj3, hjs⟩
                clear hg hqf hqd hjs
                go_wp2
                go_roundw
                case rel => exact ⟨j + 1, dbl + 1, tkn, ps2 ++ [⟨lst + 1, q.frm, q.dst, q.body⟩], lst + 1, by omega, by omega, by go_num, rfl, by go_num, by omega, by omega, by have := HSUM.out; simp; omega, by omega, HG2.out.snoc HKN.out, HN4.out⟩
                case measure => simp [intOf]; omega
              · have h3' : ((j : Int) % 3 == 0) = false := by rw [beq_eq_false_iff_ne]; exact h3
                clear h3
                have htk := take_ok HNA.out hk (by omega)
                rw [← HQ.out] at htk
                have HTK := hid htk
                clear htk
                go_wp2_with fail
                refine HAT.out.mono ?_
                rintro e w3 ⟨rfl, h'⟩
                subst h'
                go_wp2_with fail
                refine HTK.out.mono ?_
                rintro e w4 ⟨rfl, hg⟩
                have HN4 := hid (NetIn.took HF.out HB.out HBs.out hg)
                have HG4 := hid (HG2.out.erase k)
                have HL4 : Hid ((ps2.eraseIdx k).length + 1 = ps2.length) := by show _ = _; rw [List.length_eraseIdx_of_lt hk]; omega
                have HD : Hid (q.dst = ((fr : Int) + 1) % 3) := hqd
                have HS : Hid (ls.getD jj ByteArray.empty = q.body) := hjs
                have hd1 : (q.id != q.id) = false := by simp
                have hd2 : ((q.frm + 1) % 3 != q.dst) = false := by rw [hqd, hqf]; simp
                have hf0 : 0 ≤ q.frm := by omega
                have hf2 : q.frm ≤ 2 := by omega
                have HFR := hid hqf
                clear hg hqd hjs hqf
                unfold Pk.val
                go_wp2
                have HN5 := hid (HN4.out.later ((Below.refl _ w4).alloc (Nat.le_refl _) (.cells #[.int .i64 q.id, .int .i64 q.frm, .int .i64 q.dst, .string q.body] 68)))
                have HP5 := hid (Blk.new w4 68 [.int .i64 q.id, .int .i64 q.frm, .int .i64 q.dst, .string q.body])
                generalize hW5 : w4.alloc (.cells #[.int .i64 q.id, .int .i64 q.frm, .int .i64 q.dst, .string q.body] 68) = W5 at *
                have HP5' : Hid (Blk W5 w4.heap.size 68 [.int .i64 q.id, .int .i64 q.frm, .int .i64 q.dst, .string q.body]) := HP5.out
                clear hW5 HP5 HTK HAT
                go_loopw [20, 21] (fun a b wr' => ∃ (m nq : Nat), fr + 3 * m ≤ n + 3 ∧ b = .int .i64 ((fr + 3 * m : Nat) : Int) ∧ a = .bool (seen ls fr q.body m) ∧ wr' = W5.drewN nq) (fun _ b _ => n + 3 - (intOf b).toNat)
                case atStart => exact ⟨0, 0, by omega, by rw [HFR.out]; rfl, rfl, rfl⟩
                case round =>
                  obtain ⟨m, nq, hm, rfl, rfl, rfl⟩ := hrel
                  by_cases hmn : fr + 3 * m < n
                  · obtain ⟨b2, off2, hao, hbw2, hcs2⟩ : ∃ b off, ao = some ⟨b, off, none⟩ ∧ b < w.heap.size ∧ ∀ j, j < ls.length → w.cell? ⟨b, off + j, none⟩ = some (.string (ls.getD j ByteArray.empty)) := by
                      rcases HH.out.2 with h0 | h0
                      · have := HN.out
                        rw [h0] at this
                        simp at this
                        omega
                      · exact h0
                    subst hao
                    obtain ⟨idx, hidx⟩ : ∃ idx, idx = fr + 3 * m := ⟨_, rfl⟩
                    obtain ⟨t, ht⟩ : ∃ t, t = ls.getD idx ByteArray.empty := ⟨_, rfl⟩
                    have g2 : W5.cell? ⟨b2, off2 + idx, none⟩ = some (.string t) := by
                      rw [HN5.out.bel.cell (p := ⟨b2, off2 + idx, none⟩) hbw2, ht]
                      exact hcs2 idx (by have := HN.out; omega)
                    have g3 := HP5'.out.cell (i := 3) rfl
                    have HSC : Hid (seen ls fr q.body (m + 1) = (seen ls fr q.body m || (t == q.body))) := by show _ = _; rw [seen_succ, ht, hidx]
                    have HIX := hid hidx
                    rw [← hidx] at hmn hm ⊢
                    have hmn' : (idx : Int) < (n : Int) := by omega
                    have hm0' : (0 : Int) ≤ (idx : Int) := by omega
                    obtain ⟨kb, hkb⟩ : ∃ kb, kb = seen ls fr q.body m := ⟨_, rfl⟩
                    rw [← hkb] at HSC ⊢
                    clear hcs2 ht hidx hkb
                    cases kb with
                    | true =>
                      go_wp2
                      go_quiet (fail)
                      go_wp2
                      go_roundw
                      case rel => exact ⟨m + 1, _, by have := HIX.out; omega, step3 HIX.out, by rw [HSC.out]; rfl, rfl⟩
                      case measure => simp [intOf]; omega
                    | false =>
                      go_wp2
                      go_quiet (fail)
                      go_wp2
                      go_roundw
                      case rel => exact ⟨m + 1, _, by have := HIX.out; omega, step3 HIX.out, by rw [HSC.out, beq_toListBytes]; rfl, rfl⟩
                      case measure => simp [intOf]; omega
                  · have hse : seen ls fr q.body m = true := seen_all hjl hj3 HS.out (by have := HN.out; omega)
                    have hmn' : ¬ ((fr + 3 * m : Nat) : Int) < (n : Int) := by omega
                    rw [hse]
                    clear hse
                    obtain ⟨idx, hidx⟩ : ∃ idx, idx = fr + 3 * m := ⟨_, rfl⟩
                    rw [← hidx] at hmn' ⊢
                    clear hidx hmn hm
                    go_wp2
                    go_roundw
                    case rel => exact ⟨j + 1, dbl, tkn + 1, ps2.eraseIdx k, lst, by omega, by omega, rfl, by go_num, by go_num, by omega, by omega, by have := HSUM.out; have := HL4.out; omega, by omega, HG4.out, HN5.out.drewN _⟩
                    case measure => simp [intOf]; omega
          · have hex : (¬ (j : Int) < (n2 : Int)) ∨ ((j : Int) < (n2 : Int) ∧ ¬ (j : Int) < 5000) := by omega
            clear hlt
            rcases hex with hln' | ⟨hln', hln6⟩
            all_goals
              go_wp2_with fail
              obtain ⟨v, D, hn, hF, hb, hB⟩ := HNET2.out
              refine (len_any hn).mono ?_
              rintro e w4 ⟨rfl, h'⟩
              subst h'
              have HB := hid hb
              clear hn hF hb hB
              go_wp2
              go_ret
              exact ⟨rfl, HB.out⟩
end Go.Proofs.Ytjejddpmkihdgaa
