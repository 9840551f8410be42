/-
  pannierlaw09.DotsDoes answers true for whatever dots come.
-/
import Derived.Test.YtplecopphddjhaaDdT
import Derived.Test.YtplecopphddjhaaOrdK
namespace Go.Proofs.Ytplecopphddjhaa
open Go.RowKit Go.Maps
set_option linter.unusedSimpArgs false

def bsOther : ByteArray := { data := #[111, 116, 104, 101, 114] }
set_option maxRecDepth 1000000 in
set_option maxHeartbeats 4000000 in
theorem dotsDoes_walk (lo : Option Addr) (lc : Nat) (l : List PairV) (vo : Option Addr) (vc : Nat) (v : List Int) (o s : Int) (w : World) (hl : HeldPr w lo l) (hll : l.length ≤ 140737488355328) (hv : HV w vo vc v) :
    Calls Try.prog 3 #[.slice lo l.length lc, .slice vo v.length vc, .agg #[.int .i64 o, .int .i64 s]] w fun e w' => e = .returned (.bool true) ∧ Below w.heap.size w w' := by
  obtain ⟨n, HN⟩ : ∃ n, Hid (l.length = n) := ⟨_, hid rfl⟩
  obtain ⟨k0, HK0⟩ : ∃ n, Hid (v.length = n) := ⟨_, hid rfl⟩
  rw [HN.out] at hll ⊢
  rw [HK0.out]
  have HL := hid hl
  have HV0 := hid hv
  have HLEN := hid hll
  clear hl hv hll
  obtain ⟨W0, hW0⟩ : ∃ V, V = w.alloc (.cells #[.int .i64 o, .int .i64 s] 25) := ⟨_, rfl⟩
  obtain ⟨ab, HAB⟩ : ∃ q, Hid (q = w.heap.size) := ⟨_, hid rfl⟩
  have hb0 : Below w.heap.size w W0 := by rw [hW0]; exact (Below.refl _ _).alloc (Nat.le_refl _) _
  have HABX : Hid (Blk W0 ab 25 [.int .i64 o, .int .i64 s]) := by rw [hW0, HAB.out]; exact Blk.new _ _ _
  have HB0 := hid hb0
  have HNEW := hid (new_any W0)
  have HW0 := hid hW0
  clear hW0 hb0
  go_enter Try.func3, Try.ntmps3
  go_wp2_with fail
  rw [← HW0.out, ← HAB.out]
  refine HNEW.out.mono ?_
  rintro e w1 ⟨rfl, hd1, hb1⟩
  obtain ⟨p0, HP0⟩ : ∃ q, Hid (q = W0.heap.size + 1) := ⟨_, hid rfl⟩
  rw [← HP0.out] at hd1 ⊢
  obtain ⟨x, HX⟩ : ∃ q, Hid (q = w1.heap.size) := ⟨_, hid rfl⟩
  obtain ⟨W2, hW2⟩ : ∃ V, V = w1.alloc (.cells #[.slice none 0 0] 30) := ⟨_, rfl⟩
  have hb2 : Below w1.heap.size w1 W2 := by rw [hW2]; exact (Below.refl _ _).alloc (Nat.le_refl _) _
  have HD2 : Hid (DuX W0 x (.pointer (some ⟨p0, 0, none⟩)) W2) := by
    refine ⟨p0, W0.heap.size, _, _, _, _, 0, [], none, 0, rfl, hd1.below hb2, ⟨by rw [hW2, HX.out]; exact Blk.new _ _ _, World.ownsRow_nil _ _ _ _, by simp⟩, SameP.nil, ?_, by rw [HX.out]; exact hb1.size, btN hb1 hb2⟩
    rintro i (rfl | rfl | ⟨j, _, hj⟩)
    · have := HP0.out; omega
    · exact Nat.le_refl _
    · simp [Value.ownBlock] at hj
  have HW2 := hid hW2
  have HLV := hid (livesD_any W2)
  clear hd1 hb1 hb2 hW2 HNEW
  go_wp2_with fail
  rw [← HW2.out, ← HX.out]
  refine HLV.out.mono ?_
  rintro e w3 ⟨rfl, hb3⟩
  have HD3 : Hid (DuX W0 x (.pointer (some ⟨p0, 0, none⟩)) w3) := by
    obtain ⟨p, m, rs, R, D, S, N, ps, eo, cap, e1, h1⟩ := HD2.out
    exact ⟨p, m, rs, R, D, S, N, ps, eo, cap, e1, h1.below hb3⟩
  clear hb3 HLV HD2 HW2
  go_wp2
  go_loopw [7, 9, 10] (fun u i _ wr => ∃ k : Nat, k ≤ n ∧ i = .int .i64 k ∧ (∃ p, u = .pointer (some ⟨p, 0, none⟩)) ∧ Hid (DuX W0 x u wr)) (fun _ i _ _ => n - (intOf i).toNat)
  case atStart => exact ⟨0, Nat.zero_le _, rfl, ⟨p0, rfl⟩, HD3.out⟩
  case round =>
    obtain ⟨k, hk, rfl, ⟨p, hu⟩, HR⟩ := hrel
    subst hu
    obtain ⟨p', m, rs, R, D, S, N, ps, eo, cap, hpe, hdu⟩ := HR.out
    have hpp : p' = p := by injection hpe with h1; injection h1 with h1; injection h1 with h1; exact h1.symm
    subst hpp
    have HD := hid hdu
    clear hpe hdu HR HD3
    by_cases hlt : k < n
    · have hlt' : (k : Int) < (n : Int) := by omega
      have hk0 : (0 : Int) ≤ (k : Int) := by omega
      have HKM : Hid (k + 1 ≤ n) := (by omega : k + 1 ≤ n)
      have hwk : wrap64 ((k : Int) + 1) = (k : Int) + 1 := wrapN (by omega) (by have := HLEN.out; omega)
      have HKX : Hid (k < l.length) := by rw [HN.out]; exact hlt
      obtain ⟨b, off, hlo, g0, g1, g2⟩ := HL.out.at HKX.out
      obtain ⟨q, HQ⟩ : ∃ q, Hid (l[k]'HKX.out = q) := ⟨_, hid rfl⟩
      rw [HQ.out] at g0 g1 g2
      obtain ⟨qo, qs, qt⟩ := q
      simp only at g0 g1 g2
      subst hlo
      have HG := hid (And.intro g0 (And.intro g1 g2))
      have HGL : Hid (b < w.heap.size) := World.block_lt_of_cell? _ _ g0
      have HSA : Hid (∀ V, ScN W0 V → (ScN W0 V ∧ V.cell? ⟨b, off + k * 3, none⟩ = some (.int .i64 qo) ∧ V.cell? ⟨b, off + k * 3 + 1, none⟩ = some (.int .i64 qs) ∧ V.cell? ⟨b, off + k * 3 + 2, none⟩ = some (.string qt))) := fun V hV => by
        have hb := btN HB0.out hV.out
        exact ⟨hV, (hb.cell (p := ⟨b, _, none⟩) HGL.out).trans HG.out.1, (hb.cell (p := ⟨b, _, none⟩) HGL.out).trans HG.out.2.1, (hb.cell (p := ⟨b, _, none⟩) HGL.out).trans HG.out.2.2⟩
      obtain ⟨c, HC⟩ : ∃ c, Hid (raddC ps qo qs = c) := ⟨_, hid rfl⟩
      have HS0 : Hid (ScN W0 wr) := ⟨HD.out.bel⟩
      have HC1 : Hid (∀ V, ScN wr V → Calls Try.prog 6 #[.pointer (some ⟨p', 0, none⟩), .agg #[.int .i64 qo, .int .i64 qs], .string qt] V fun e w' => e = .returned (.int .i64 c) ∧ Hid (Below wr.heap.size wr V ∧ AdTo V w' p' m rs (addSD S N qo qs (.string qt)) (addND S N qo qs)) ∧ ScN W0 w') := fun V hV => by
        refine ((HD.out.da.below hV.out).addTo qo qs qt).mono ?_
        rintro e w' ⟨rfl, h1⟩
        refine ⟨by rw [HD.out.same.code, HC.out], ⟨hV.out, h1⟩, ?_⟩
        obtain ⟨_, _, _, _, ht, _⟩ := h1
        exact ⟨(btN HD.out.bel hV.out).trans (ht.below HD.out.foot (btN HD.out.bel hV.out).size)⟩
      have HC2 : Hid (∀ V V1, Below wr.heap.size wr V ∧ AdTo V V1 p' m rs (addSD S N qo qs (.string qt)) (addND S N qo qs) → Calls Try.prog 7 #[.pointer (some ⟨x, 0, none⟩), .agg #[.int .i64 qo, .int .i64 qs], .string qt] V1 fun e w' => e = .returned (.int .i64 c) ∧ Hid (DuX W0 x (.pointer (some ⟨p', 0, none⟩)) w') ∧ ScN W0 w') := fun V V1 ⟨hV, h1⟩ => by
        have hduV := HD.out.below hV
        have h1' := h1
        obtain ⟨_, _, _, hd, ht, _⟩ := h1
        have hr := rs_keptD hduV.da hduV.rn ht
        have hB : W0.heap.size ≤ V1.heap.size := Nat.le_trans hduV.bel.size ht.size
        refine (hr.add hB qo qs qt).mono ?_
        rintro e w' ⟨rfl, h2⟩
        have h3 := hduV.both h1' h2 (hduV.same.put qo qs qt)
        refine ⟨by rw [HC.out], h3, ?_⟩
        obtain ⟨_, _, _, _, _, _, _, _, _, _, _, h4⟩ := h3
        exact ⟨h4.bel⟩
      have hcc : ((c : Int) != c) = false := by simp
      clear hlt hk
      go_wp2
      go_region_held3 (fun V => ScN W0 V ∧ V.cell? ⟨b, off + k * 3, none⟩ = some (.int .i64 qo) ∧ V.cell? ⟨b, off + k * 3 + 1, none⟩ = some (.int .i64 qs) ∧ V.cell? ⟨b, off + k * 3 + 2, none⟩ = some (.string qt))
        ((refine HSA.out _ ?_; (first | with_reducible assumption | exact HS0.out.dr | exact HS0.out)))
        (first
          | (go_at_call 6; with_reducible refine (HC1.out _ (by first | exact (ScN.start _).dr | exact ScN.start _)).mono ?_; rintro e w5 ⟨rfl, HA5, hs5⟩)
          | (go_at_call 7; with_reducible refine (HC2.out _ _ HA5.out).mono ?_; rintro e w6 ⟨rfl, HA6, hs6⟩)
          | fail)
      clear g0 g1 g2 hs5 hs6 hcc HC1 HC2 HSA HA5
      by_cases h5 : (k : Int) % 5 = 4
      · have h5' : ((k : Int) % 5 == 4) = true := by simp [h5]
        obtain ⟨p6, m6, rs6, R6, D6, S6, N6, ps6, eo6, cap6, hpe6, hdu6⟩ := HA6.out
        have hpp : p6 = p' := by injection hpe6 with h1; injection h1 with h1; injection h1 with h1; exact h1.symm
        subst hpp
        have HD6 := hid hdu6
        have HFK := hid hdu6.da.fork
        clear hpe6 hdu6 h5 HA6
        go_wp2_with fail
        refine HFK.out.mono ?_
        rintro e w7 ⟨p7, m7, rs7, rfl, hf7⟩
        have HF7 := hid hf7
        have HAD := hid ((HD6.out.below hf7.2.1).da.addTo 6 9 bsOther)
        clear hf7 HFK
        go_wp2_with fail
        refine HAD.out.mono ?_
        rintro e w8 ⟨rfl, _, _, _, _, ht8, _⟩
        have HN8 := hid (HD6.out.forked HF7.out ht8)
        clear ht8 HAD
        go_wp2
        go_roundw
        case rel => exact ⟨k + 1, HKM.out, by go_num, ⟨p7, rfl⟩, HN8.out⟩
        case measure => first | exact measNW HKM.out hwk | exact measN1 HKM.out
      · have h5' : ((k : Int) % 5 == 4) = false := by simp [h5]
        clear h5
        go_wp2
        go_roundw
        case rel => exact ⟨k + 1, HKM.out, by go_num, ⟨p', rfl⟩, HA6.out⟩
        case measure => first | exact measNW HKM.out hwk | exact measN1 HKM.out
    · have hlt' : ¬ (k : Int) < (n : Int) := by omega
      have HAK := hid (HABX.out.below HD.out.bel HABX.out.lt)
      have q0 := HAK.out.cell (i := 0) rfl
      have q1 := HAK.out.cell (i := 1) rfl
      obtain ⟨T, HT⟩ : ∃ T, Hid (pget ps o s = T) := ⟨_, hid rfl⟩
      have HG1 := hid (get_any HD.out.da.pre o s)
      have HST : Hid (S o s = T.map Value.string) := by rw [← HT.out]; exact HD.out.same.get o s
      rw [HST.out] at HG1
      have HTV : Hid ((T.map Value.string).getD zeroE = .string (T.getD ⟨#[]⟩)) := by cases T <;> rfl
      have HTS : Hid ((T.map Value.string).isSome = T.isSome) := by cases T <;> rfl
      rw [HTV.out, HTS.out] at HG1
      obtain ⟨tt, HTT⟩ : ∃ tt, Hid (T.getD ⟨#[]⟩ = tt) := ⟨_, hid rfl⟩
      obtain ⟨tb, HTB⟩ : ∃ tb, Hid (T.isSome = tb) := ⟨_, hid rfl⟩
      rw [HTT.out, HTB.out] at HG1
      clear hlt hk
      go_wp2_with fail
      refine HG1.out.mono ?_
      rintro e w5 ⟨rfl, hb5⟩
      have HD5 := hid (HD.out.below hb5)
      have HAK5 := hid (HAK.out.below hb5 HAK.out.lt)
      have r0 := HAK5.out.cell (i := 0) rfl
      have r1 := HAK5.out.cell (i := 1) rfl
      have HG2 := hid (HD5.out.rn.get o s)
      rw [HT.out, HTT.out, HTB.out] at HG2
      clear hb5 q0 q1 HG1
      go_wp2_with fail
      refine HG2.out.mono ?_
      rintro e w6 ⟨rfl, hb6⟩
      have HD6 := hid (HD5.out.below hb6)
      have HVV := hid (HV0.out.below (btN HB0.out HD6.out.bel))
      have HLK := hid (looks_dots HD6.out.da HD6.out.rn HD6.out.same vo vc v k0 HK0.out HVV.out)
      have HB6 := hid (btN HB0.out HD6.out.bel)
      clear hb6 r0 r1 HG2
      have hsb : (tt.toList == tt.toList) = true := by simp
      have hbb : (tb == tb) = true := by simp
      go_wp2_with fail
      refine HLK.out.mono ?_
      rintro e w7 ⟨rfl, hb7⟩
      have HB7 := hid (btN HB6.out hb7)
      clear hb7 HLK
      go_wp2
      go_ret
      exact ⟨rfl, HB7.out⟩
end Go.Proofs.Ytplecopphddjhaa
