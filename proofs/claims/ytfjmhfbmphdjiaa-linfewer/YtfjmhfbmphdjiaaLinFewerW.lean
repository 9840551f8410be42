/-
  LinFewer: the walk.
-/
import Derived.Test.YtfjmhfbmphdjiaaLnN
namespace Go.Proofs.Ytfjmhfbmphdjiaa
open Go.RowKit Go.Maps

theorem wrap_suc {k : Nat} (h : k < 2932031007402) : wrap64 ((k : Int) + 1) = (k : Int) + 1 := wrapS (by omega) (by omega)
theorem wrapI_suc {k : Nat} (h : k < 2932031007402) : IntKind.i64.wrap ((k : Int) + 1) = (k : Int) + 1 := by
  rw [IntKind.wrap_i64]
  omega
theorem wrap_nat {k : Nat} (h : k < 2932031007402) : wrap64 (k : Int) = (k : Int) := wrapS (by omega) (by omega)
set_option maxRecDepth 1000000 in
set_option maxHeartbeats 2000000 in
theorem linFewer_walk (ao : Option Addr) (cap : Nat) (xs : List Sn) (bo : Option Addr) (cb : Nat) (ts : List ByteArray) (at_ : Int) (w : World) (h : HeldSn w ao xs ∧ xs.length ≤ cap) (hl : xs.length ≤ 2932031007402) (hs : HeldStr w bo ts) (hls : ts.length ≤ 8796093022208) (_ha : -9223372036854775808 ≤ at_ ∧ at_ ≤ 9223372036854775807) :
    Calls Try.prog 4 #[.slice ao xs.length cap, .slice bo ts.length cb, .int .i64 at_] w fun e w' => e = .returned (.bool true) ∧ Below w.heap.size w w' := by
  obtain ⟨n, hn⟩ : ∃ n, xs.length = n := ⟨_, rfl⟩
  obtain ⟨m, hm⟩ : ∃ m, ts.length = m := ⟨_, rfl⟩
  have HL := hid (lives25 w)
  have HCK : Hid (∀ V, Below w.heap.size w V → ∀ yo yc (ys : List Sn) k, ys.length = k → HeldSn V yo ys → k ≤ 2932031007402 → Calls Try.prog 9 #[.slice yo k yc, .slice bo m cb] V (SaysI V (checkL ys ts))) := fun V hV yo yc ys k hk hy hly => check_any V yo yc ys k hk hy hly bo cb ts m hm (hs.below hV) (by rw [← hm]; exact hls)
  have H := hid h.1
  have HC := hid h.2
  have HNN : Hid (n ≤ 2932031007402) := by rw [← hn]; exact hl
  have HN := hid hn
  rw [hn] at HC ⊢
  rw [hm]
  clear h hs hls hn hm hl
  go_enter Try.func4, Try.ntmps4
  go_wp2_with fail
  refine HL.out.mono ?_
  rintro e w1 ⟨rfl, hb1⟩
  have HB1 := hid hb1
  clear hb1 HL
  have HC1 := hid (HCK.out w1 HB1.out ao cap xs n HN.out (H.out.below HB1.out) HNN.out)
  obtain ⟨c, HCC⟩ : ∃ c, Hid (checkL xs ts = c) := ⟨_, hid rfl⟩
  rw [HCC.out] at HC1
  go_wp2_with fail
  refine HC1.out.mono ?_
  rintro e w2 ⟨rfl, hb2⟩
  have HB2 : Hid (Below w.heap.size w w2) := bt' HB1.out hb2
  clear hb2 HC1
  by_cases hc : c = 0
  · subst hc
    by_cases hn0 : n = 0
    · subst hn0
      go_wp2
      go_ret
      exact ⟨rfl, HB2.out⟩
    · have hn1 : ¬ (n : Int) = 0 := by omega
      have hnb : ((n : Int) == 0) = false := by simpa using hn0
      obtain ⟨t, k, ht, hkn, hcase⟩ := rem_place at_ (show 0 < n by omega)
      have HKX : Hid (k < xs.length) := by rw [HN.out]; exact hkn
      obtain ⟨b, off, hao, hbl, g0, _⟩ := (H.out.below HB2.out).at HKX.out
      have HRW := hid (check_ok.1 HCC.out)
      have HSP := hid (split_at HKX.out)
      rw [HSP.out] at HRW
      obtain ⟨co, HCO⟩ : ∃ c, Hid ((xs[k]'HKX.out).co = c) := ⟨_, hid rfl⟩
      rw [HCO.out] at g0
      have HFE : Hid (co = false → checkL (xs.take k ++ xs.drop (k + 1)) ts = 0) := fun hco => check_ok.2 (HRW.out.fewer (HCO.out.trans hco))
      have HTL : Hid ((xs.take k).length = k) := by show _ = _; have := HN.out; simp; omega
      have HDL : Hid ((xs.drop (k + 1)).length = n - (k + 1)) := by show _ = _; have := HN.out; simp; omega
      have HTK : Hid (∀ V, ScS w2 V → HeldSn V ao (xs.take k)) := fun V hV => ((H.out.below HB2.out).below hV.out).sub k
      have HDR : Hid (∀ V, ScS w2 V → HeldSn V (cutN ao cap (k + 1)) (xs.drop (k + 1))) := fun V hV => ((H.out.below HB2.out).below hV.out).drop (by rw [HN.out]; exact HC.out)
      have HSZ : Hid (∀ V, ScS w2 V → w2.heap.size ≤ V.heap.size) := fun V hV => hV.size
      have HGR : Hid (∀ V U, ScS w2 V → Below w2.heap.size V U → ScS w2 U) := fun V U hV hb => hV.grown hb
      have HAT : Hid (AllSn (xs.take k)) := fun x hx => H.out.1 x (List.mem_of_mem_take hx)
      have hs1 := fun W => run_cutNh W ao n cap k (k : Int) rfl (Nat.le_trans (Nat.le_of_lt hkn) HC.out)
      have hs2 := fun W => run_cutNl W ao n cap (k + 1) ((k : Int) + 1) (Int.natCast_succ k).symm hkn
      have HSUM : Hid (k + (n - (k + 1)) ≤ 2932031007402) := by have := HNN.out; show _ ≤ _; omega
      have HK0 : Hid (k ≤ 2932031007402) := by have := HNN.out; show _ ≤ _; omega
      have hw1 : wrap64 ((k : Int) + 1) = (k : Int) + 1 := wrap_suc (Nat.lt_of_lt_of_le hkn HNN.out)
      have hw2 : IntKind.i64.wrap ((k : Int) + 1) = (k : Int) + 1 := wrapI_suc (Nat.lt_of_lt_of_le hkn HNN.out)
      have HALL : Hid ((xs.take k ++ xs.drop (k + 1)).length = k + (n - (k + 1))) := by rw [List.length_append, HTL.out, HDL.out]; exact rfl
      obtain ⟨AA, HAA⟩ : ∃ A, Hid (xs.take k = A) := ⟨_, hid rfl⟩
      obtain ⟨DD, HDD⟩ : ∃ A, Hid (xs.drop (k + 1) = A) := ⟨_, hid rfl⟩
      rw [HAA.out] at HTL HTK HAT HFE HALL
      rw [HDD.out] at HDL HDR HFE HALL
      obtain ⟨M, hM⟩ : ∃ M, M = n - (k + 1) := ⟨_, rfl⟩
      rw [← hM] at HDL hs2 HSUM HALL
      clear hM HRW HSP HAA HDD
      have HWK : Hid (IntKind.i64.wrap ((k : Int) + 1) = (k : Int) + 1) := hw2
      have HEND : Hid (co = false → ∀ V yo yc, Below w.heap.size w V → HeldSn V yo (AA ++ DD) → Calls Try.prog 9 #[.slice yo (k + M) yc, .slice bo m cb] V (SaysI V 0)) := fun hco V yo yc hV hy => by
        have := HCK.out V hV yo yc (AA ++ DD) (k + M) HALL.out hy HSUM.out
        rwa [HFE.out hco] at this
      clear HFE HCK hw2
      rcases hcase with ⟨ht0, htk⟩ | ⟨ht0, htk⟩
      · subst hao
        have hkk : (k : Int) < (n : Int) := by omega
        have hwk : wrap64 (k : Int) = (k : Int) := wrap_nat (Nat.lt_of_lt_of_le hkn HNN.out)
        clear hw1
        cases co with
        | true =>
          go_wp2
          go_ret
          exact ⟨rfl, HB2.out⟩
        | false =>
          have HE := hid (HEND.out rfl)
          have hw2 := HWK.out
          go_wp2
          go_region_held3 (fun V => ScS w2 V) (first | assumption | (repeat (first | assumption | exact ScS.start _ | apply ScS.dr | apply ScS.alloc)))
            (first
              | (refine step_copy_sns rfl _ _ rfl w2.heap.size _ rfl ?_ _ k cap AA HTL.out rfl ?_ HK0.out ?_ ?_
                 · first | exact ownN_made w2 _ (Nat.le_refl _) | exact (ownN_made w2 _ (Nat.le_refl _)).alloc _
                 · refine HTK.out _ ?_; (repeat (first | assumption | exact ScS.start _ | apply ScS.dr | apply ScS.alloc))
                 · refine HSZ.out _ ?_; (repeat (first | assumption | exact ScS.start _ | apply ScS.dr | apply ScS.alloc))
                 intro b3 c3 w3 hown3 hh3 hb3 hg3
                 have hsc3 : ScS w2 w3 := HGR.out _ _ (by (repeat (first | assumption | exact ScS.start _ | apply ScS.dr | apply ScS.alloc))) hb3
                 clear hb3 hg3 hh3)
              | (refine step_append_sns rfl _ _ rfl w2.heap.size _ k AA HTL.out HAT.out rfl ?_ (cutN (some ⟨b, off, none⟩) cap (k + 1)) M (cap - (k + 1)) DD HDL.out rfl ?_ HSUM.out ?_ ?_
                 · exact hown3
                 · refine HDR.out _ ?_; (repeat (first | assumption | exact ScS.start _ | apply ScS.dr | apply ScS.alloc))
                 · refine HSZ.out _ ?_; (repeat (first | assumption | exact ScS.start _ | apply ScS.dr | apply ScS.alloc))
                 intro b4 c4 w4 hown4 hh4 hb4 hg4
                 have hsc4 : ScS w2 w4 := HGR.out _ _ (by (repeat (first | assumption | exact ScS.start _ | apply ScS.dr | apply ScS.alloc))) hb4
                 clear hb4 hg4 hown4)
              | fail)
          have HB4 : Hid (Below w.heap.size w w4) := bt' HB2.out hsc4.out
          have HC4 := hid (HE.out w4 b4 c4 HB4.out hh4)
          clear hsc4 hh4
          go_wp2_with fail
          refine HC4.out.mono ?_
          rintro e w5 ⟨rfl, hb5⟩
          have HB5 : Hid (Below w.heap.size w w5) := bt' HB4.out hb5
          clear hb5
          go_wp2
          go_ret
          exact ⟨rfl, HB5.out⟩
      · subst hao
        subst htk
        have hkk : (k : Int) < (n : Int) := by omega
        clear hw1
        cases co with
        | true =>
          go_wp2
          go_ret
          exact ⟨rfl, HB2.out⟩
        | false =>
          have HE := hid (HEND.out rfl)
          have hw2 := HWK.out
          go_wp2
          go_region_held3 (fun V => ScS w2 V) (first | assumption | (repeat (first | assumption | exact ScS.start _ | apply ScS.dr | apply ScS.alloc)))
            (first
              | (refine step_copy_sns rfl _ _ rfl w2.heap.size _ rfl ?_ _ k cap AA HTL.out rfl ?_ HK0.out ?_ ?_
                 · first | exact ownN_made w2 _ (Nat.le_refl _) | exact (ownN_made w2 _ (Nat.le_refl _)).alloc _
                 · refine HTK.out _ ?_; (repeat (first | assumption | exact ScS.start _ | apply ScS.dr | apply ScS.alloc))
                 · refine HSZ.out _ ?_; (repeat (first | assumption | exact ScS.start _ | apply ScS.dr | apply ScS.alloc))
                 intro b3 c3 w3 hown3 hh3 hb3 hg3
                 have hsc3 : ScS w2 w3 := HGR.out _ _ (by (repeat (first | assumption | exact ScS.start _ | apply ScS.dr | apply ScS.alloc))) hb3
                 clear hb3 hg3 hh3)
              | (refine step_append_sns rfl _ _ rfl w2.heap.size _ k AA HTL.out HAT.out rfl ?_ (cutN (some ⟨b, off, none⟩) cap (k + 1)) M (cap - (k + 1)) DD HDL.out rfl ?_ HSUM.out ?_ ?_
                 · exact hown3
                 · refine HDR.out _ ?_; (repeat (first | assumption | exact ScS.start _ | apply ScS.dr | apply ScS.alloc))
                 · refine HSZ.out _ ?_; (repeat (first | assumption | exact ScS.start _ | apply ScS.dr | apply ScS.alloc))
                 intro b4 c4 w4 hown4 hh4 hb4 hg4
                 have hsc4 : ScS w2 w4 := HGR.out _ _ (by (repeat (first | assumption | exact ScS.start _ | apply ScS.dr | apply ScS.alloc))) hb4
                 clear hb4 hg4 hown4)
              | fail)
          have HB4 : Hid (Below w.heap.size w w4) := bt' HB2.out hsc4.out
          have HC4 := hid (HE.out w4 b4 c4 HB4.out hh4)
          clear hsc4 hh4
          go_wp2_with fail
          refine HC4.out.mono ?_
          rintro e w5 ⟨rfl, hb5⟩
          have HB5 : Hid (Below w.heap.size w w5) := bt' HB4.out hb5
          clear hb5
          go_wp2
          go_ret
          exact ⟨rfl, HB5.out⟩
  · have hcn : (c != 0) = true := by simpa using hc
    go_wp2
    go_ret
    exact ⟨rfl, HB2.out⟩
end Go.Proofs.Ytfjmhfbmphdjiaa
