/-
  pannierlaw02.FrameTurned answers true for any texts of bulk at most 1048576 and any numbers, in whatever memory in which the table of remainders lies; it writes nothing that was there.
-/
import Derived.Test.YtmokelmeihmeiacDoorFInts
import Derived.Test.YtmokelmeihmeiacDoorFLives
import Derived.Test.YtmokelmeihmeiacDoorFSame
import Derived.Test.YtmokelmeihmeiacDoorFTurn
import Derived.BigRegion
namespace Go.Proofs.YtmokelmeihmeiacDoor
open Go.RowKit
attribute [local go_sem ↓] Go.wp_at_zero Go.wp_at_succ

theorem frames_split {ls : List ByteArray} {k : Nat} (h : k < ls.length) : framesOf ls = framesOf (ls.take k) ++ (frameOf (strNums (ls.getD k ByteArray.empty)) ++ framesOf (ls.drop (k + 1))) := by
  conv => lhs; rw [← List.take_append_drop (k + 1) ls, framesOf_append, framesOf_snoc h]
  rw [List.append_assoc]

theorem pays_turned {ls : List ByteArray} {k i : Nat} {d : Int} (h : k < ls.length) (hs : ∀ s ∈ ls, s.size ≤ 65536) (h4 : 4 ≤ i) (hi : i < 8 + (ls.getD k ByteArray.empty).size) (hd : 0 ≤ d ∧ d ≤ 255)
    (hne : (framesOf ls).getD ((framesOf (ls.take k)).length + i) 0 ≠ d) :
    pays ((framesOf ls).set ((framesOf (ls.take k)).length + i) d) = ls.take k ∧ endP ((framesOf ls).set ((framesOf (ls.take k)).length + i) d) = (framesOf (ls.take k)).length := by
  obtain ⟨c, hc⟩ : ∃ c, ls.getD k ByteArray.empty = c := ⟨_, rfl⟩
  have hcs : c.size ≤ 65536 := by
    rw [← hc]
    apply hs
    simp [List.getD, List.getElem?_eq_getElem h]
  have hsp := frames_split h
  rw [hc] at hsp hi
  have hlen : i < (frameOf (strNums c)).length := by rw [frameOf_len, strNums_len]; exact hi
  have hset : (framesOf ls).set ((framesOf (ls.take k)).length + i) d = framesOf (ls.take k) ++ ((frameOf (strNums c)).set i d ++ framesOf (ls.drop (k + 1))) := by
    conv => lhs; rw [hsp]
    rw [List.set_append_right _ _ (by omega), Nat.add_sub_cancel_left, List.set_append_left _ _ hlen]
  have hget : (framesOf ls).getD ((framesOf (ls.take k)).length + i) 0 = (frameOf (strNums c)).getD i 0 := by
    conv => lhs; rw [hsp]
    simp only [List.getD]
    rw [List.getElem?_append_right (by omega), Nat.add_sub_cancel_left, List.getElem?_append_left hlen]
  rw [hget] at hne
  have hn := pays_none (fst_turned (r := framesOf (ls.drop (k + 1))) (strNums_byte c) (by rw [strNums_len]; exact hcs) h4 (by rw [strNums_len]; exact hi) hd hne)
  have hj := pays_join (ls.take k) ((frameOf (strNums c)).set i d ++ framesOf (ls.drop (k + 1))) (fun s hs' => hs s (List.mem_of_mem_take hs'))
  rw [hset, hj.1, hj.2, hn.1, hn.2]
  simp

theorem at_mod (x : Int) (M : Nat) (hM : 0 < M) : ∃ (κ : Nat) (t : Int), κ < M ∧ x.tmod (M : Int) = t ∧ ((0 ≤ t ∧ t = κ) ∨ (t < 0 ∧ t + M = κ ∧ -(M : Int) < t)) := by
  have h1 := Int.tmod_lt_of_pos x (show (0 : Int) < (M : Int) by omega)
  have h2 : -(M : Int) < x.tmod (M : Int) := by
    have := Int.lt_tmod_of_pos x (show (0 : Int) < (M : Int) by omega)
    simpa using this
  by_cases h0 : 0 ≤ x.tmod (M : Int)
  · exact ⟨(x.tmod (M : Int)).toNat, _, by omega, rfl, .inl ⟨h0, by omega⟩⟩
  · exact ⟨(x.tmod (M : Int) + M).toNat, _, by omega, rfl, .inr ⟨by omega, by omega, h2⟩⟩

theorem Held.put {w : World} {b off len cap : Nat} {bs : List Int} (h : Held w (some ⟨b, off, none⟩) len cap bs) {p : Nat} (hp : p < len) {d : Int} (hd : 0 ≤ d ∧ d ≤ 255) :
    Held (w.setCell ⟨b, off + p, none⟩ (.int .u8 d)) (some ⟨b, off, none⟩) len cap (bs.set p d) := by
  have hl := h.hlen
  refine ⟨by simpa using hl, h.hcap, h.hmax, h.nil, ?_, fun ad ha j hj => ?_, fun ad ha hp' => ?_⟩
  · intro c hc
    rcases List.mem_or_eq_of_mem_set hc with h' | h'
    · exact h.byte c h'
    · subst h'; exact hd
  · obtain rfl := Option.some.inj ha
    have hcj := h.cell _ rfl j hj
    have hcp := h.cell _ rfl p hp
    rw [Addr.add_lit] at hcj hcp ⊢
    by_cases e : j = p
    · subst e
      rw [World.cell?_setCell_same _ _ _ hcp]
      simp [List.getD, hl, hj]
    · rw [World.cell?_setCell_other _ _ _ _ (by simp), hcj]
      simp [List.getD, List.getElem?_set_ne (Ne.symm e)]
  · have := h.old ad ha hp'
    simpa [World.setCell] using this

/-- One bit of a byte, turned. -/
theorem bit_turned (c s : Nat) (hc : c < 256) (hs : s < 8) : c ^^^ 2 ^ s < 256 ∧ c ^^^ 2 ^ s ≠ c := by
  have h2 : 2 ^ s < 2 ^ 8 := Nat.pow_lt_pow_right (by decide) hs
  refine ⟨Nat.xor_lt_two_pow (n := 8) hc h2, fun h => ?_⟩
  have h0 : 2 ^ s = 0 := by
    have := congrArg (fun x => c ^^^ x) h
    simp only [Nat.xor_self, ← Nat.xor_assoc, Nat.zero_xor] at this
    exact this
  have := Nat.pow_pos (n := s) (show 0 < 2 by decide)
  omega

set_option maxHeartbeats 6400000 in
theorem frameTurned_walk (lo : Option Addr) (m mc : Nat) (ls : List ByteArray) (at_ bit : Int) (w : World) (ht : Tab w) (hS : HeldS w lo m mc ls) (hfr : (framesOf ls).length ≤ 100000000) (hm : m ≤ 1048576) (_hat : -9223372036854775808 ≤ at_ ∧ at_ ≤ 9223372036854775807) (_hbit : -9223372036854775808 ≤ bit ∧ bit ≤ 9223372036854775807) :
    Calls Tryd.prog 3 #[.slice lo m mc, .int .i64 at_, .int .i64 bit] w fun e w' => e = .returned (.bool true) ∧ Below w.heap.size w w' := by
  obtain ⟨iI, hj, hy0, hy1, hy2⟩ := info_parts Tryd.infoI
  have hml := hS.hlen
  have hmcc := hS.hcap
  have HT := hid ht
  have HS := hid hS
  clear ht hS
  go_enter Tryd.func3, Tryd.ntmps3
  go_wp2
  go_loopw [7, 8, 9] (fun b begins i wr => ∃ (k : Nat) (bo : Option Addr) (N cp : Nat), k ≤ m ∧ i = .int .i64 k ∧ b = .slice bo N cp ∧ Held wr bo N cp (framesOf (ls.take k)) ∧ (∀ s ∈ ls.take k, s.size ≤ 65536) ∧ Below w.heap.size w wr ∧ wr.ownsRow w.heap.size 3 1 begins k (beginsV ls k) ∧ (∀ ad, bo = some ad → w.heap.size ≤ ad.block ∧ begins.ownBlock ≠ some ad.block ∧ ∀ o, wr.frozen? ⟨ad.block, o, none⟩ = false)) (fun _ _ i _ => m - (intOf i).toNat)
  case atStart => exact ⟨0, none, 0, 0, by omega, rfl, rfl, held_nil _, by simp, Below.refl _ _, World.ownsRow_nil _ _ _ _, fun ad h => by cases h⟩
  case round =>
    obtain ⟨k, bo, N, cp, hk, rfl, rfl, hb, hsm, hbl, hrow, hown⟩ := hrel
    have HB := hid hb
    have HBL := hid hbl
    have HSM := hid hsm
    have HR := hid hrow
    have HOW := hid hown
    have hN := hb.hlen
    have hNl := frames_len_bulk ls k
    clear hb hbl hsm hrow hown
    by_cases hkm : k < m
    · obtain ⟨c, HC⟩ : ∃ c, Hid (ls.getD k ByteArray.empty = c) := ⟨_, hid rfl⟩
      obtain ⟨b0, off0, hmo, _, _⟩ := HS.out.at (by omega : 0 < m)
      have hc1 : wr.cell? ⟨b0, off0 + k, none⟩ = some (.string c) := by rw [← HC.out]; exact HS.out.item HBL.out hkm hmo
      have hk0 : (0 : Int) ≤ (k : Int) := by omega
      have hkI : (k : Int) < (m : Int) := by omega
      by_cases hcs : c.size ≤ 65536
      · rw [hmo]
        go_wp2_with fail
        refine (put_own bo N cp (framesOf (ls.take k)) c wr (HT.out.here HBL.out) HB.out (by omega) hcs).mono ?_
        rintro e w3 ⟨bo3, N3, cp3, rfl, hh3, hb3, hn3⟩
        have HH3 : Hid (Held w3 bo3 N3 cp3 (framesOf (ls.take (k + 1)))) := by
          show Held _ _ _ _ _
          rw [framesOf_snoc (by omega), HC.out]; exact hh3
        have HB3 : Hid (Below w.heap.size w w3) := HBL.out.trans (hb3.mono HBL.out.size)
        have HSM3 : Hid (∀ s ∈ ls.take (k + 1), s.size ≤ 65536) := take_small (by omega) HSM.out (by rw [HC.out]; exact hcs)
        have HR3 : Hid (w3.ownsRow w.heap.size 3 1 u8 k (beginsV ls k)) := ownsRow_below HR.out hb3 (Nat.le_refl _)
        have HN3 := hid hn3
        have hN3 : 0 < N3 := by
          rw [← HH3.out.hlen, frames_len_take ls k (by omega)]; omega
        have s3 := HB3.out.size
        have sr := HBL.out.size
        clear hh3 hb3 hn3
        go_wp2_with (at_builtin; refine wpList_append_own_at _ rfl _ _ 24 rfl w.heap.size 3 iI (.int .i64 0) 1 8 Tryd.underlying24 hj hy0 hy1 hy2 rfl (by decide) _ _ _ rfl (HR3.out.alloc _) ⟨w3.heap.size, 0, none⟩ 1 1 [.int .i64 (N : Int)] rfl rfl (cell_one_new _ _ _) (by simp [Value.oneCell']) (by unfold maxLen; omega) (by omega) (by simp; omega) ?_)
        intro v' w4 hown4 hgrow4 _ hat4
        have HR4 : Hid (w4.ownsRow w.heap.size 3 1 v' (k + 1) (beginsV ls (k + 1))) := by
          show World.ownsRow _ _ _ _ _ _ _
          rw [beginsV_succ, hN]; exact hown4
        have HB4 : Hid (Below w.heap.size w w4) := (HB3.out.alloc s3 _).grown hgrow4 (by simp; omega) (own_lt HR3.out)
        have hne3 : ∀ ad, bo3 = some ad → some ad.block ≠ Value.ownBlock u8 := fun ad ha e => by
          have h1 := (HN3.out ad ha).1
          have h2 := (HR.out.lt ad.block e.symm).2
          omega
        have HH4 : Hid (Held w4 bo3 N3 cp3 (framesOf (ls.take (k + 1)))) := (HH3.out.below ((Below.refl _ w3).alloc (Nat.le_refl _) _) (Nat.le_refl _)).grown hgrow4 hne3
        have HOW4 : Hid (∀ ad, bo3 = some ad → w.heap.size ≤ ad.block ∧ v'.ownBlock ≠ some ad.block ∧ ∀ o, w4.frozen? ⟨ad.block, o, none⟩ = false) := by
          intro ad ha
          have h1 := (HN3.out ad ha).1
          have h2 := HH3.out.old ad ha hN3
          refine ⟨by omega, ?_, fun o => ?_⟩
          rotate_left
          · rw [World.frozen?_of_block (w := w3) (a := ⟨ad.block, o, none⟩) ((hgrow4.block ad.block (by simp; omega) (hne3 ad ha)).trans (Below.heap_alloc w3 _ ad.block h2))]
            exact (HN3.out ad ha).2 o
          rcases hat4 with e | e
          · rw [e]; exact fun h => hne3 ad ha h.symm
          · rw [e]
            intro h
            have h3 := Option.some.inj h
            omega
        clear hown4 hgrow4 hat4 hne3
        go_wp2
        go_roundw
        case rel =>
          exact ⟨k + 1, bo3, N3, cp3, by omega, by go_num, rfl, HH4.out, HSM3.out, HB4.out, HR4.out, HOW4.out⟩
        case measure => simp [intOf]; omega
      · have hcmax : c.size ≤ 9223372036854775807 := by
          have := frames_len_take ls k (by omega)
          have h2 := frames_len_bulk ls (k + 1)
          rw [HC.out] at this
          omega
        have hcl : (65536 : Int) < (c.size : Int) := by omega
        rw [hmo]
        go_wp2_with fail
        refine (put_long _ c wr (by omega) hcmax).mono ?_
        rintro e w3 ⟨rfl, rfl⟩
        go_wp2_with fail
        refine (lives_any _ (HT.out.here HBL.out)).mono ?_
        rintro e w4 ⟨rfl, hb4⟩
        have HB4 : Hid (Below w.heap.size w w4) := HBL.out.trans (hb4.mono HBL.out.size)
        have hc4 : w4.cell? ⟨b0, off0 + k, none⟩ = some (.string c) := by rw [← HC.out]; exact HS.out.item HB4.out hkm hmo
        clear hb4 hc1
        go_wp2
        go_ret
        exact ⟨rfl, HB4.out⟩
    · have hkm' : k = m := by omega
      subst hkm'
      by_cases hk0 : k = 0
      · subst hk0
        go_wp2_with fail
        refine (lives_any _ (HT.out.here HBL.out)).mono ?_
        rintro e w4 ⟨rfl, hb4⟩
        have HB4 : Hid (Below w.heap.size w w4) := HBL.out.trans (hb4.mono HBL.out.size)
        clear hb4
        go_wp2
        go_ret
        exact ⟨rfl, HB4.out⟩
      · have hX : Held wr bo N cp (framesOf ls) := by
          have := HB.out
          rw [List.take_of_length_le (by omega)] at this
          exact this
        have hsmall : ∀ s ∈ ls, s.size ≤ 65536 := by
          have := HSM.out
          rw [List.take_of_length_le (by omega)] at this
          exact this
        have HX := hid hX
        have HSM' := hid hsmall
        have hNN := hX.hlen
        have sr := HBL.out.size
        clear hX hsmall HB HSM hN hNl
        obtain ⟨g, ec, rfl, hgB, hgs, hcells⟩ := own_at HR.out (by omega)
        have HCE := hid hcells
        clear hcells HR
        obtain ⟨κ, t, hκ, htm, ht2⟩ := at_mod at_ k (by omega)
        obtain ⟨c, HC⟩ : ∃ c, Hid (ls.getD κ ByteArray.empty = c) := ⟨_, hid rfl⟩
        obtain ⟨b0, off0, hmo, _, _⟩ := HS.out.at (by omega : 0 < k)
        have hc1 : wr.cell? ⟨b0, off0 + κ, none⟩ = some (.string c) := by rw [← HC.out]; exact HS.out.item HBL.out hκ hmo
        have hcs : c.size ≤ 65536 := by
          rw [← HC.out]
          apply HSM'.out
          have : κ < ls.length := by omega
          simp [List.getD, List.getElem?_eq_getElem this]
        obtain ⟨ν, t2, hν, htm2, ht3⟩ := at_mod bit (8 * (4 + c.size)) (by omega)
        obtain ⟨B, HBg⟩ : ∃ B : Nat, Hid ((framesOf (ls.take κ)).length = B) := ⟨_, hid rfl⟩
        have hBN : B + (8 + c.size) ≤ N := by
          have h1 := frames_len_take ls κ (by omega)
          have h2 := frames_len_bulk ls (κ + 1)
          rw [HBg.out, HC.out] at h1
          omega
        have hcb : wr.cell? ⟨g, κ, none⟩ = some (.int .i64 (B : Int)) := by rw [← HBg.out]; exact HCE.out κ _ (beginsV_get hκ)
        have hκ0 : (0 : Int) ≤ (κ : Int) := by omega
        have hκI : (κ : Int) < (k : Int) := by omega
        have hdv : (ν : Int).tdiv 8 = ((ν / 8 : Nat) : Int) := by rw [Int.tdiv_eq_ediv_of_nonneg (by omega)]; omega
        have hmd : (ν : Int).tmod 8 = ((ν % 8 : Nat) : Int) := by rw [Int.tmod_eq_emod_of_nonneg (by omega)]; omega
        obtain ⟨q, HQ⟩ : ∃ q : Nat, Hid (ν / 8 = q) := ⟨_, hid rfl⟩
        obtain ⟨s, HSs⟩ : ∃ s : Nat, Hid (ν % 8 = s) := ⟨_, hid rfl⟩
        rw [HQ.out] at hdv
        rw [HSs.out] at hmd
        have hq : q < 4 + c.size := by have := HQ.out; omega
        have hs8 : s < 8 := by have := HSs.out; omega
        obtain ⟨bb, ob, hbo, hbb, hbc⟩ := HX.out.at (by omega : 0 < N)
        subst hbo
        obtain ⟨x, hx, HXx⟩ : ∃ x : Nat, x < 256 ∧ Hid ((framesOf ls).getD (B + 4 + q) 0 = (x : Int)) := by
          have := HX.out.byte.getD (B + 4 + q)
          refine ⟨((framesOf ls).getD (B + 4 + q) 0).toNat, ?_, ?_⟩
          · simp only [List.getD]; omega
          · show _ = _
            simp only [List.getD]; omega
        have hbc' : wr.cell? ⟨bb, ob + (B + 4 + q), none⟩ = some (.int .u8 (x : Int)) := by rw [hbc _ (by omega), HXx.out]
        clear hbc
        have htm3 : bit.tmod (8 * (4 + (c.size : Int))) = t2 := by have := htm2; simpa using this
        have ht4 : (0 ≤ t2 ∧ t2 = ν) ∨ (t2 < 0 ∧ t2 + 8 * (4 + (c.size : Int)) = ν ∧ -(8 * (4 + (c.size : Int))) < t2) := by
          rcases ht3 with h | ⟨h, h', h''⟩
          · exact .inl h
          · exact .inr ⟨h, by simpa using h', by simpa using h''⟩
        clear htm2 ht3
        have hp0 : (0 : Int) ≤ (B : Int) + 4 + q := by omega
        have hpI : (B : Int) + 4 + q < (N : Int) := by omega
        have hpN : ((B : Int) + 4 + q).toNat = B + 4 + q := by omega
        have hfz := (HOW.out _ rfl).2.2 (ob + (B + 4 + q))
        have hbt := bit_turned x s hx hs8
        have hdD : bits .xor .u8 (x : Int) (2 ^ s % 256) = ((x ^^^ 2 ^ s : Nat) : Int) := by
          have h2 : 2 ^ s < 256 := (Nat.pow_lt_pow_right (by decide) hs8 : 2 ^ s < 2 ^ 8)
          have h3 : ((2 : Int) ^ s % 256) = ((2 ^ s : Nat) : Int) := by
            have h4 : (2 : Int) ^ s = ((2 ^ s : Nat) : Int) := by simp
            rw [h4]
            generalize (2 ^ s : Nat) = P at h2 ⊢
            omega
          rw [h3]
          exact u8_xor_nat x (2 ^ s) hx h2
        have HS0 : Hid (HeldS w (some ⟨b0, off0, none⟩) k mc ls) := by
          show HeldS _ _ _ _ _
          rw [← hmo]; exact HS.out
        subst hmo
        obtain ⟨D, HD⟩ : ∃ D : Nat, Hid (x ^^^ 2 ^ s = D) := ⟨_, hid rfl⟩
        rw [HD.out] at hdD hbt
        have HX1 : Hid (Held ((wr.setCell ⟨bb, ob + (B + 4 + q), none⟩ (.int .u8 (D : Int))).drew) (some ⟨bb, ob, none⟩) N cp ((framesOf ls).set (B + 4 + q) (D : Int))) := (HX.out.put (by omega) (by omega)).drew
        have HB1 : Hid (Below w.heap.size w ((wr.setCell ⟨bb, ob + (B + 4 + q), none⟩ (.int .u8 (D : Int))).drew)) := (HBL.out.setCell (p := ⟨bb, ob + (B + 4 + q), none⟩) (HOW.out _ rfl).1 _).drew
        have hgb : g ≠ bb := by
          intro e
          exact (HOW.out _ rfl).2.1 (by rw [e]; rfl)
        have HG1 : Hid (((wr.setCell ⟨bb, ob + (B + 4 + q), none⟩ (.int .u8 (D : Int))).drew).cell? ⟨g, κ, none⟩ = some (.int .i64 (B : Int))) := by
          show World.cell? (wr.setCell _ _) _ = _
          rw [World.cell?_setCell_other _ _ _ _ (by intro e; exact hgb (congrArg Addr.block e).symm)]
          exact hcb
        have HPT : Hid (pays ((framesOf ls).set (B + 4 + q) (D : Int)) = ls.take κ ∧ endP ((framesOf ls).set (B + 4 + q) (D : Int)) = B) := by
          show _ ∧ _
          have := pays_turned (ls := ls) (k := κ) (i := 4 + q) (d := (D : Int)) (by omega) HSM'.out (by omega) (by rw [HC.out]; omega) (by omega) (by rw [HBg.out, ← Nat.add_assoc, HXx.out]; omega)
          rw [HBg.out, ← Nat.add_assoc] at this
          exact this
        have hgs1 : g < ((wr.setCell ⟨bb, ob + (B + 4 + q), none⟩ (.int .u8 (D : Int))).drew).heap.size := by simpa [World.setCell, World.drew] using hgs
        clear hgb
        rcases ht2 with ⟨h0, rfl⟩ | ⟨h0, h1, h2⟩ <;> rcases ht4 with ⟨h3, rfl⟩ | ⟨h3, h4, h5⟩
        all_goals
          go_wp2
          go_region
          generalize (wr.setCell ⟨bb, ob + (B + 4 + q), none⟩ (.int .u8 (D : Int))).drew = W1 at *
          clear hdD hfz hbc' hcb hc1
          have hsl2 := fun W => run_cut_h (P := Tryd.prog) W 22 9 Tryd.underlying22 Tryd.size9 (some ⟨b0, off0, none⟩) k mc κ κ rfl (by omega)
          have hscan := scan_plain _ N cp _ W1 (HT.out.here HB1.out) HX1.out (by omega)
          rw [HPT.out.1, HPT.out.2] at hscan
          have HSC := hid hscan
          clear hscan
          go_wp2_with fail
          refine HSC.out.mono ?_
          rintro e w3 ⟨mo, n3, c3, rfl, hs3, hb3⟩
          have HS3 := hid hs3
          have HB13 := hid hb3
          have s13 := hb3.size
          have HB3 : Hid (Below w.heap.size w w3) := HB1.out.trans (hb3.mono HB1.out.size)
          clear hs3 hb3
          go_wp2_with fail
          refine (lives_any _ (HT.out.here HB3.out)).mono ?_
          rintro e w4 ⟨rfl, hb4⟩
          have HB4 : Hid (Below w.heap.size w w4) := HB3.out.trans (hb4.mono HB3.out.size)
          have HB14 : Hid (Below W1.heap.size W1 w4) := HB13.out.trans (hb4.mono s13)
          have HS4 : Hid (HeldS w4 mo n3 c3 (ls.take κ)) := HS3.out.below hb4 (Nat.le_refl _)
          clear hb4
          go_wp2_with fail
          refine (sameTexts_eq mo (some ⟨b0, off0, none⟩) n3 κ c3 mc (ls.take κ) w4 HS4.out ((HS0.out.below HB4.out (Nat.le_refl _)).take (by omega))).mono ?_
          rintro e w5 ⟨rfl, q5, rfl⟩
          have hcl : w4.cell? ⟨g, κ, none⟩ = some (.int .i64 (B : Int)) := by rw [HB14.out.cell (by simpa using hgs1)]; exact HG1.out
          clear hsl2
          go_wp2
          go_ret
          exact ⟨rfl, below_dn HB4.out _⟩
end Go.Proofs.YtmokelmeihmeiacDoor
