/-
  codec.ReadList over strings, with CodecLists's own item reader: refused ahead, stopped at an item, or all items read; nothing that was there is written but the counter.
-/
import Derived.Test.YtmokelmeihmeiaaListsC
namespace Go.Proofs.Ytmokelmeihmeiaa
open Go.RowKit
attribute [local go_sem ↓] Go.wp_at_zero Go.wp_at_succ

theorem Try.info9 : (Try.prog.info? 9).map (fun i => (i.zero, i.size, i.bytes)) = some (some (.string ⟨#[]⟩), 1, 16) := by kernel_rfl
theorem read_there (a s : Addr) (W : World) : (binOp .eql 42 (.func (Fn.func 22) #[] #[.pointer (some a), .pointer (some s)]) .nilFunc).run Try.prog W = .ok (.bool false) W := by kernel_rfl

theorem heldS_of_own {w : World} {B e : Nat} {v : Value} {n : Nat} {ls : List ByteArray} (hown : w.ownsRow B e 1 v n (ls.map Value.string)) : ∃ ao cap, v = .slice ao n cap ∧ HeldS w ao n cap ls := by
  have hn : ls.length = n := by have := hown.1; simpa using this
  rcases hown.2 with ⟨rfl, rfl⟩ | ⟨g, cap, cur, rfl, hbg, hg, hnc, hcm, hcs, htake⟩
  · exact ⟨none, 0, rfl, hn, Nat.le_refl _, Nat.zero_le _, fun ad h => (by cases h), fun h => (by omega)⟩
  · refine ⟨some ⟨g, 0, none⟩, cap, rfl, hn, hnc, hcm, fun ad h j hj => ?_, fun _ => ⟨_, rfl⟩⟩
    obtain rfl := Option.some.inj h
    refine hown.cells (g := g) rfl j _ ?_
    have hj' : j < ls.length := by omega
    simp [List.getD, List.getElem?_eq_getElem hj']

theorem readList_few (ao : Option Addr) (blen bcap : Nat) (bs : List Int) (most : Int) (ga gs : Nat) (w : World) (h : Held w ao blen bcap bs) (h0 : -9223372036854775808 ≤ most) (h1 : most ≤ 9223372036854775807) (hc : cntOf bs most = (0, 0, 10)) :
    Calls Try.prog 21 #[.slice ao blen bcap, .int .i64 most, .func (Fn.func 22) #[] #[.pointer (some ⟨ga, 0, none⟩), .pointer (some ⟨gs, 0, none⟩)]] w fun e w' => e = .returned (.tuple #[.slice none 0 0, .int .i64 0, .int .i64 10]) ∧ w' = w := by
  have hrc := readCount_any ao blen bcap bs most w h h0 h1
  rw [hc] at hrc
  have HR := hid hrc
  clear hrc hc h
  go_enter Try.func21, Try.ntmps21
  go_wp2_with fail
  refine HR.out.mono ?_
  rintro e w' ⟨rfl, rfl⟩
  go_wp2
  go_ret3
  exact ⟨rfl, rfl⟩

/-- Where the k-th item begins. -/
def pos (ls : List ByteArray) (k : Nat) : Nat := (enc ls.length).length + (encAll (ls.take k)).length
theorem pos_succ {ls : List ByteArray} {k : Nat} (h : k < ls.length) : pos ls (k + 1) = pos ls k + (encText (ls.getD k ByteArray.empty)).length := by
  unfold pos
  rw [encAll_snoc h, List.length_append]
  omega
theorem drop_pos {ls : List ByteArray} {k : Nat} (h : k < ls.length) : (enc ls.length ++ encAll ls).drop (pos ls k) = encText (ls.getD k ByteArray.empty) ++ encAll (ls.drop (k + 1)) := by
  unfold pos
  rw [← List.drop_drop, List.drop_left]
  conv => lhs; arg 2; rw [← List.take_append_drop k ls, encAll_append]
  rw [List.drop_left, List.drop_eq_getElem_cons h]
  simp [encAll, List.getD, List.getElem?_eq_getElem h]
theorem pos_end (ls : List ByteArray) : pos ls ls.length = (enc ls.length ++ encAll ls).length := by
  unfold pos
  rw [List.take_of_length_le (Nat.le_refl _), List.length_append]

set_option maxRecDepth 100000 in
set_option maxHeartbeats 1000000 in
theorem readList_run (ao : Option Addr) (blen bcap : Nat) (ls : List ByteArray) (len : Nat) (most St : Int) (ga gs : Nat) (w : World) (h : Held w ao blen bcap (enc ls.length ++ encAll ls)) (hlen : ls.length = len)
    (h1 : most ≤ 9223372036854775807) (hm : (len : Int) ≤ most) (hsmall : blen ≤ 1000000000) (hmany : len ≤ 1048576)
    (hgg : ga ≠ gs) (hao : ∀ ad, ao = some ad → ad.block ≠ ga) (ha : w.heap[ga]? = some (.cells #[.int .i64 0] 3 (0, 0))) (hs : w.heap[gs]? = some (.cells #[.int .i64 St] 3 (0, 0))) :
    Calls Try.prog 21 #[.slice ao blen bcap, .int .i64 most, .func (Fn.func 22) #[] #[.pointer (some ⟨ga, 0, none⟩), .pointer (some ⟨gs, 0, none⟩)]] w fun e w' =>
      (0 ≤ St ∧ St < len ∧ e = .returned (.tuple #[.slice none 0 0, .int .i64 0, .int .i64 5]) ∧ w.grownBy w' (some ga) ∧ w'.heap[ga]? = some (.cells #[.int .i64 St] 3 (0, 0))) ∨
      (¬ (0 ≤ St ∧ St < len) ∧ ∃ mo mc, e = .returned (.tuple #[.slice mo len mc, .int .i64 blen, .int .i64 0]) ∧ HeldS w' mo len mc ls ∧ w.grownBy w' (some ga)) := by
  obtain ⟨i9, hi, hz0, hz1, hz2⟩ := info_parts Try.info9
  have hbl := h.hlen
  have hbc := h.hcap
  have hpe := pos_end ls
  rw [hbl, hlen] at hpe
  have hc : cntOf (enc ls.length ++ encAll ls) most = (len, (enc ls.length).length, 0) := by
    unfold cntOf
    rw [dec_enc (x := ls.length) (by omega), if_pos ⟨rfl, by omega, by simp only; omega⟩, hlen]
  have hrc := readCount_any ao blen bcap _ most w h (by omega) h1
  rw [hc] at hrc
  have HR := hid hrc
  have HH := hid h
  have HA := hid ha
  have HS := hid hs
  have HPE := hid hpe
  have hgl : ga < w.heap.size := lt_of_block ha
  have hnf := read_there ⟨ga, 0, none⟩ ⟨gs, 0, none⟩
  have hp0 : (enc ls.length).length = pos ls 0 := by simp [pos, encAll]
  rw [hp0] at HR
  clear hrc hc h ha hs hpe hp0
  go_enter Try.func21, Try.ntmps21
  go_wp2_with fail
  refine HR.out.mono ?_
  rintro e w' ⟨rfl, rfl⟩
  go_wp2
  go_loopw [10, 12, 33] (fun p l i wr => ∃ k : Nat, k ≤ len ∧ i = .int .i64 k ∧ p = .int .i64 (pos ls k) ∧ wr.ownsRow w'.heap.size 9 1 l k ((ls.take k).map Value.string) ∧ wr.heap[ga]? = some (.cells #[.int .i64 (k : Int)] 3 (0, 0)) ∧ w'.grownBy wr (some ga) ∧ (∀ j : Nat, j < k → (j : Int) ≠ St)) (fun _ _ i _ => len - (intOf i).toNat)
  case atStart => exact ⟨0, by omega, rfl, rfl, World.ownsRow_nil _ _ _ _, HA.out, World.grownBy.refl _ _, fun j hj => by omega⟩
  case round =>
    obtain ⟨k, hk, rfl, rfl, hown, hat, hgr, hno⟩ := hrel
    have HO := hid hown
    have HAT := hid hat
    have HG := hid hgr
    have HN := hid hno
    have hsz := hgr.size
    clear hown hat hgr hno
    by_cases hkl : k < len
    · have hps := pos_succ (ls := ls) (k := k) (by omega)
      have hle : pos ls (k + 1) ≤ blen := by
        have h3 := encAll_take_le ls (k + 1)
        have h4 := hbl
        simp only [List.length_append] at h4
        unfold pos
        omega
      obtain ⟨s, hs⟩ : ∃ s, s = ls.getD k ByteArray.empty := ⟨_, rfl⟩
      rw [← hs] at hps
      have hsize := encText_size s
      have hpl : pos ls k ≤ blen := by omega
      have hss : s.size ≤ 1000000000 := by omega
      have hsl := fun W => run_cut_lhm (P := Try.prog) W 23 5 Try.underlying23 Try.size5 ao blen bcap (pos ls k) (pos ls k) rfl hpl hbc
      have HGS : Hid (wr.heap[gs]? = some (.cells #[.int .i64 St] 3 (0, 0))) := one_kept HS.out HG.out (by intro e; exact hgg (Option.some.inj e).symm)
      have HPS := hid hps
      have HSK := hid hs
      clear hs hps
      by_cases hst : (k : Int) = St
      · have hcl := read_stop (cutAt ao blen (pos ls k)) (blen - pos ls k) (blen - pos ls k) ga gs k wr HAT.out (by rw [hst]; exact HGS.out)
        have HCL := hid hcl
        have HST := hid hst
        clear hcl hst
        go_wp2_with fail
        refine HCL.out.mono ?_
        rintro e w2 ⟨rfl, rfl⟩
        go_wp2
        go_ret3
        exact .inl ⟨by have := HST.out; omega, by have := HST.out; omega, rfl, HG.out, by rw [← HST.out]; exact HAT.out⟩
      · have HST := hid hst
        have hheld : Held (wr.setCell ⟨ga, 0, none⟩ (.int .i64 ((k : Int) + 1))) (cutAt ao blen (pos ls k)) (blen - pos ls k) (blen - pos ls k) ((enc ls.length ++ encAll ls).drop (pos ls k)) :=
          ((HH.out.grown (grown_set HG.out _) hao).shrink).cutl hpl
        have hcl := read_go (cutAt ao blen (pos ls k)) (blen - pos ls k) (blen - pos ls k) ga gs _ k St wr HAT.out HGS.out hst (by omega) (by omega) hheld
        rw [drop_pos (by omega), ← HSK.out, rdText_enc s _ _ (by omega), if_neg (by omega)] at hcl
        have HCL := hid hcl
        obtain ⟨L, hL⟩ : ∃ L, L = (encText s).length := ⟨_, rfl⟩
        have hLp : pos ls k + L ≤ blen := by have := HPS.out; omega
        have HLE := hid hL
        rw [← hL] at HCL
        have hgw : wr.grownBy (wr.setCell ⟨ga, 0, none⟩ (.int .i64 ((k : Int) + 1))) (some ga) := grown_set (World.grownBy.refl _ _) _
        have hnb : u12.ownBlock = none ∨ u12.ownBlock ≠ some ga := by
          cases hv : u12.ownBlock with
          | none => exact .inl rfl
          | some g => right; intro e; have := own_lt HO.out g hv; cases e; omega
        have hown2 := HO.out.kept hgw hnb
        have HAT2 : Hid ((wr.setCell ⟨ga, 0, none⟩ (.int .i64 ((k : Int) + 1))).heap[ga]? = some (.cells #[.int .i64 ((k : Int) + 1)] 3 (0, 0))) := one_setCell HAT.out
        have HG2 : Hid (w'.grownBy (wr.setCell ⟨ga, 0, none⟩ (.int .i64 ((k : Int) + 1))) (some ga)) := grown_set HG.out _
        have hsz2 : w'.heap.size ≤ (wr.setCell ⟨ga, 0, none⟩ (.int .i64 ((k : Int) + 1))).heap.size := HG2.out.size
        clear hcl hst hL hheld hgw hnb
        generalize wr.setCell ⟨ga, 0, none⟩ (.int .i64 ((k : Int) + 1)) = w2 at *
        go_wp2_with fail
        refine HCL.out.mono ?_
        rintro e w3 ⟨rfl, rfl⟩
        go_wp2_with (at_builtin; refine wpList_append_own_at _ rfl _ _ 38 rfl w'.heap.size 9 i9 (.string ⟨#[]⟩) 1 16 Try.underlying38 hi hz0 hz1 hz2 rfl (by decide) _ _ _ rfl (hown2.alloc _) ⟨w3.heap.size, 0, none⟩ 1 1 [.string s] rfl rfl (cell_one_new _ _ _) (by intro u hu; simp at hu; subst hu; rfl) (by unfold maxLen; omega) (by omega) (by simp; omega) ?_)
        intro v' w4 hown4 hgrow4 _ hat4
        have HO4 : Hid (w4.ownsRow w'.heap.size 9 1 v' (k + 1) ((ls.take (k + 1)).map Value.string)) := by
          show World.ownsRow _ _ _ _ _ _ _
          rw [List.take_succ_eq_append_getElem (by omega), List.map_append]
          have e : ls[k]'(by omega) = s := by
            rw [HSK.out]
            simp [List.getD, List.getElem?_eq_getElem (show k < ls.length by omega)]
          simp only [List.map_cons, List.map_nil, e, List.map_take]
          exact hown4
        have hrow : ∀ r, u12.ownBlock = some r → w'.heap.size ≤ r := own_lt hown2
        have HG4 : Hid (w'.grownBy w4 (some ga)) := grown_then (grown_then HG2.out (World.grownBy_alloc _ _ none) (by intro r hr; cases hr)) hgrow4 hrow
        have HAT4 : Hid (w4.heap[ga]? = some (.cells #[.int .i64 ((k : Int) + 1)] 3 (0, 0))) := one_kept (one_kept HAT2.out (World.grownBy_alloc _ _ none) (by intro e; cases e)) hgrow4 (by intro e; have := hrow ga e.symm; omega)
        clear hown4 hgrow4 hat4 hown2 hrow
        go_wp2
        go_roundw
        case rel =>
          refine ⟨k + 1, by omega, by go_num, ?_, HO4.out, HAT4.out, HG4.out, ?_⟩
          · rw [HPS.out, HLE.out]
            go_num
          · intro j hj
            by_cases e : j = k
            · subst e; exact HST.out
            · exact HN.out j (by omega)
        case measure => simp [intOf]; omega
    · have hke : k = len := by omega
      subst hke
      have hfin := heldS_of_own (ls := ls.take k) HO.out
      rw [List.take_of_length_le (by omega)] at hfin
      obtain ⟨mo, mc, hv, hh⟩ := hfin
      have HV := hid hv
      have HHS := hid hh
      clear hv hh
      go_wp2
      go_ret3
      refine .inr ⟨fun hc => ?_, mo, mc, ?_, HHS.out, HG.out⟩
      · have := HN.out St.toNat (by omega)
        omega
      · rw [← HV.out, ← HPE.out]
        rfl
end Go.Proofs.Ytmokelmeihmeiaa
