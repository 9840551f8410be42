/-
  pannierlaw04.NetDoes answers true for whatever calls.
-/
import Derived.Test.YtoacfdicjpoohaaNdI
namespace Go.Proofs.Ytoacfdicjpoohaa
open Go.RowKit Go.Maps

def DoN (w : World) (x k : Nat) (u : Value) (wr : World) : Prop := ∃ p bm v D g eo cap, u = .pointer (some ⟨p, 0, none⟩) ∧ DuS w wr p bm x v D g eo cap k
set_option maxRecDepth 1000000 in
set_option maxHeartbeats 4000000 in
theorem netDoes_walk (nodes : Int) (ao : Option Addr) (cap : Nat) (os : List OpV) (w : World) (_ : -9223372036854775808 ≤ nodes ∧ nodes ≤ 9223372036854775807) (h : HeldO w ao os) (hlen : os.length ≤ 140737488355328) :
    Calls Try.prog 3 #[.int .i64 nodes, .slice ao os.length cap] w fun e w' => e = .returned (.bool true) ∧ Below w.heap.size w w' := by
  have HH := hid h
  obtain ⟨n, HN⟩ : ∃ n, Hid (os.length = n) := ⟨_, hid rfl⟩
  rw [HN.out] at hlen ⊢
  have HLEN := hid hlen
  clear h hlen
  by_cases hbad : nodes < 1 ∨ 7 < nodes
  · have HBAD := hid hbad
    have HNB := hid (new_bad w nodes hbad)
    have HLV := hid (lives_any w)
    clear hbad
    go_enter Try.func3, Try.ntmps3
    go_wp2_with fail
    refine HNB.out.mono ?_
    rintro e w1 ⟨rfl, rfl⟩
    go_wp2_with fail
    refine (newRef w1 nodes).mono ?_
    rintro e w2 (⟨rfl, rfl, _⟩ | ⟨rfl, _, hno⟩)
    · go_wp2_with fail
      refine HLV.out.mono ?_
      rintro e w3 ⟨rfl, hb3⟩
      have HB3 := hid hb3
      clear hb3
      go_wp2
      go_loop [9] (fun i => i = .int .i64 0) (fun _ => 0)
      case atStart => exact rfl
      case round =>
        obtain rfl := hrel
        by_cases hn0 : (0 : Int) < (n : Int)
        · go_wp2
          go_ret
          exact ⟨rfl, HB3.out⟩
        · go_wp2
          go_ret
          exact ⟨rfl, HB3.out⟩
    · exact absurd HBAD.out hno
  have h1 : ¬ nodes < 1 := fun e => hbad (.inl e)
  have h7 : ¬ 7 < nodes := fun e => hbad (.inr e)
  have HNG := hid (new_good w nodes h1 h7)
  have HBAD := hid hbad
  have HND : Hid (1 ≤ nodes ∧ nodes ≤ 7) := (by omega : 1 ≤ nodes ∧ nodes ≤ 7)
  clear hbad h1 h7
  go_enter Try.func3, Try.ntmps3
  go_wp2_with fail
  refine HNG.out.mono ?_
  rintro e w1 ⟨rfl, hw1⟩
  obtain ⟨p0, hp0⟩ : ∃ q, q = w.heap.size + 1 := ⟨_, rfl⟩
  rw [← hp0]
  have HNA : Hid (NetAt w1 p0 w.heap.size (.slice none 0 0) nodes 0 [] (.map [])) := by rw [hw1, hp0]; exact NetAt.new w nodes
  have HB1 : Hid (Below w.heap.size w w1) := by rw [hw1]; exact ((Below.refl _ _).alloc (Nat.le_refl _) _).alloc (by simp) _
  have HP0 := hid hp0
  clear hw1 hp0 HNG
  go_wp2_with fail
  refine (newRef w1 nodes).mono ?_
  rintro e w2 (⟨rfl, _, hb⟩ | ⟨rfl, hw2, _⟩)
  · exact absurd hb HBAD.out
  obtain ⟨x, hx⟩ : ∃ q, q = w1.heap.size := ⟨_, rfl⟩
  rw [← hx]
  have hb2 : Below w1.heap.size w1 w2 := by rw [hw2]; exact (Below.refl _ _).alloc (Nat.le_refl _) _
  have HD2 : Hid (DuS w w2 p0 w.heap.size x (.slice none 0 0) (.map []) ⟨nodes, 0, []⟩ none 0 0) := by
    refine ⟨HNA.out.below hb2 (Nat.le_refl _), ⟨by rw [hw2, hx]; exact Blk.new _ _ _, World.ownsRow_nil _ _ _ _, by simp, ⟨HND.out, fun q hq => (by cases hq)⟩⟩, ?_, by rw [hx]; exact HB1.out.size, btN HB1.out hb2, Int.le_refl _⟩
    rintro i (rfl | rfl | hi)
    · have := HP0.out; omega
    · exact Nat.le_refl _
    · cases hi
  have HLV := hid (lives_any w2)
  clear hw2 hx hb2 HNA HB1
  go_wp2_with fail
  refine HLV.out.mono ?_
  rintro e w3 ⟨rfl, hb3⟩
  have HC1 : Hid (DoN w x 0 (.pointer (some ⟨p0, 0, none⟩)) w3) := ⟨p0, _, _, _, _, _, _, rfl, HD2.out.below hb3⟩
  clear hb3 HLV HD2
  go_wp2
  go_loopw [5, 9, 10, 11, 12, 13, 14, 15, 16, 17, 18, 19, 20, 21, 22, 23, 24, 25, 26, 27, 28] (fun u i _ _ _ _ _ _ _ _ _ _ _ _ _ _ _ _ _ _ _ wr => ∃ k : Nat, k ≤ n ∧ i = .int .i64 k ∧ (∃ p, u = .pointer (some ⟨p, 0, none⟩)) ∧ Hid (DoN w x k u wr)) (fun _ i _ _ _ _ _ _ _ _ _ _ _ _ _ _ _ _ _ _ _ _ => n - (intOf i).toNat)
  case atStart => exact ⟨0, Nat.zero_le _, rfl, ⟨p0, rfl⟩, HC1.out⟩
  case round =>
    obtain ⟨k, hk, rfl, ⟨p, hu⟩, HR⟩ := hrel
    subst hu
    obtain ⟨p', bm, v, D, g, eo, cap, hpe, hdoes⟩ := HR.out
    have hpp : p' = p := by injection hpe with h1; injection h1 with h1; injection h1 with h1; exact h1.symm
    subst hpp
    have HD := hid hdoes
    clear hpe hdoes HR
    by_cases hlt : k < n
    · have hlt' : (k : Int) < (n : Int) := by omega
      have HKM : Hid (k + 1 ≤ n) := (by omega : k + 1 ≤ n)
      have HKB : Hid (k + 1 ≤ 140737488355328) := by have := HLEN.out; exact (by omega : k + 1 ≤ 140737488355328)
      have hwk : wrap64 ((k : Int) + 1) = (k : Int) + 1 := wrapN (by omega) (by have := HKB.out; omega)
      have HKX : Hid (k < os.length) := by rw [HN.out]; exact hlt
      obtain ⟨b, off, hao, hbw, hcs⟩ : ∃ b off, ao = some ⟨b, off, none⟩ ∧ b < w.heap.size ∧ ∀ c u, (os[k]'HKX.out).cells[c]? = some u → w.cell? ⟨b, off + k * 5 + c, none⟩ = some u := by
        rcases HH.out.2 with h0 | ⟨b, off, e, hb, hc⟩
        · have := HKX.out
          rw [h0] at this
          cases this
        · exact ⟨b, off, e, hb, fun c u hu => hc k HKX.out c u hu⟩
      subst hao
      have HOK : Hid ((os[k]'HKX.out).Ok) := HH.out.1 _ (List.getElem_mem HKX.out)
      obtain ⟨o, ho⟩ : ∃ o, o = os[k]'HKX.out := ⟨_, rfl⟩
      rw [← ho] at hcs HOK
      obtain ⟨o0, o1, o2, o3, o4⟩ := o
      have hbl : Below w.heap.size w wr := HD.out.bel
      have g0 : wr.cell? ⟨b, off + k * 5, none⟩ = some (.int .i64 o0) := (hbl.cell (p := ⟨b, off + k * 5, none⟩) hbw).trans (hcs 0 _ rfl)
      have g1 : wr.cell? ⟨b, off + k * 5 + 1, none⟩ = some (.int .i64 o1) := (hbl.cell (p := ⟨b, _, none⟩) hbw).trans (hcs 1 _ rfl)
      have g2 : wr.cell? ⟨b, off + k * 5 + 2, none⟩ = some (.int .i64 o2) := (hbl.cell (p := ⟨b, _, none⟩) hbw).trans (hcs 2 _ rfl)
      have g3 : wr.cell? ⟨b, off + k * 5 + 3, none⟩ = some (.int .i64 o3) := (hbl.cell (p := ⟨b, _, none⟩) hbw).trans (hcs 3 _ rfl)
      have g4 : wr.cell? ⟨b, off + k * 5 + 4, none⟩ = some (.string o4) := (hbl.cell (p := ⟨b, _, none⟩) hbw).trans (hcs 4 _ rfl)
      have HOB : Hid (In64 o3) := HOK.out.2.2.2.1
      obtain ⟨qe, hqe⟩ : ∃ q, q = wr.heap.size := ⟨_, rfl⟩
      obtain ⟨W1, hW1⟩ : ∃ V, V = wr.alloc (.cells #[.int .i64 o0, .int .i64 o1, .int .i64 o2, .int .i64 o3, .string o4] 32) := ⟨_, rfl⟩
      have hb1 : Below wr.heap.size wr W1 := by rw [hW1]; exact (Below.refl _ _).alloc (Nat.le_refl _) _
      have HBX : Hid (Blk W1 qe 32 [.int .i64 o0, .int .i64 o1, .int .i64 o2, .int .i64 o3, .string o4]) := by rw [hW1, hqe]; exact Blk.new _ _ _
      have HD1 := hid (HD.out.below hb1)
      have HQF : Hid (∀ i, Foot p' bm v i ∨ FootX x eo i → i ≠ qe) := fun i hi => by
        have h2 : i < wr.heap.size := by
          rcases hi with h | h
          · exact HD.out.na.foot_lt i h
          · exact (HD.out.rowb i h).2
        omega
      have HL0 : Hid (0 ≤ g.last ∧ g.last ≤ 4611686018427387904) := by
        have h1 := HD.out.na.zero
        have h2 := HD.out.last
        have h3 := HKB.out
        exact (⟨h1, by omega⟩ : 0 ≤ g.last ∧ g.last ≤ 4611686018427387904)
      have HGL : Hid (g.last ≤ (k : Int)) := HD.out.last
      have HW1 := hid hW1
      have HQE := hid hqe
      have b0 := HBX.out.cell (i := 0) rfl
      have b1 := HBX.out.cell (i := 1) rfl
      have b2 := HBX.out.cell (i := 2) rfl
      have b3 := HBX.out.cell (i := 3) rfl
      have b4 := HBX.out.cell (i := 4) rfl
      rw [hW1] at b0 b1 b2 b3 b4
      clear hcs ho hbl hb1 hW1 hqe hbw hlt hk HC1
      by_cases hk1 : o0 = 1
      · have K1 : (o0 == 1) = true := by rw [beq_iff_eq]; exact hk1
        clear hk1
        have HC := hid (send_all HD1.out.na HL0.out.2 o1 o2 o4)
        go_wp2_with fail
        rw [← HW1.out, ← HQE.out]
        refine HC.out.mono ?_
        rintro e w2 ⟨rfl, hto⟩
        have HTO := hid hto
        obtain ⟨v2, D2, hn2, ht2, _⟩ := hto
        have hB2 : w.heap.size ≤ w2.heap.size := Nat.le_trans HD1.out.bel.size ht2.size
        have hbx2 := ht2.blk HBX.out (fun hi => HQF.out qe (.inl hi) rfl)
        have HRC := hid ((rn_kept HD1.out.na HD1.out.rn ht2).send hB2 HL0.out.1 HL0.out.2 o1 o2 o4)
        have HBX2 := hid hbx2
        clear hn2 ht2 hB2 hbx2 HC b0 b1 b2 b3 b4 g0 g1 g2 g3 g4
        obtain ⟨I0, HI0⟩ : ∃ z, Hid (sendI g o1 o2 o4 = z) := ⟨_, hid rfl⟩
        obtain ⟨C0, HC0⟩ : ∃ z, Hid (sendC g o1 o2 o4 = z) := ⟨_, hid rfl⟩
        rw [HI0.out, HC0.out] at HRC ⊢
        have x1 := HBX2.out.cell (i := 1) rfl
        have x2 := HBX2.out.cell (i := 2) rfl
        have x3 := HBX2.out.cell (i := 3) rfl
        have x4 := HBX2.out.cell (i := 4) rfl
        go_wp2_with fail
        refine HRC.out.mono ?_
        rintro e w5 ⟨rfl, hrt⟩
        have HD9 := hid (HD1.out.both HTO.out hrt (by have h1 := sendN_last g o1 o2 o4; have h2 := HGL.out; omega))
        obtain ⟨eo5, cap5, _, ht5⟩ := hrt
        have hbx9 := ht5.blk HBX2.out (fun hi => HQF.out qe (.inr hi) rfl)
        clear ht5 x1 x2 x3 x4 HRC HTO
        have hie : (I0 == I0) = true := by simp
        have hce : (C0 == C0) = true := by simp
        obtain ⟨v9, D9, eo9, cap9, hd9⟩ := HD9.out
        have HBX9 := hid hbx9
        have HLK := hid (looks_net hd9.na (Int.le_trans hd9.last (by have := HKB.out; omega)) hd9.rn o2)
        have cx2 := HBX9.out.cell (i := 2) rfl
        have HD10 := hid hd9
        clear hd9 hbx9 HD9
        go_wp2_with fail
        refine HLK.out.mono ?_
        rintro e w10 ⟨rfl, hb10⟩
        have HRX : Hid (DoN w x (k + 1) (.pointer (some ⟨p', 0, none⟩)) w10) := ⟨p', _, _, _, _, _, _, rfl, HD10.out.below hb10⟩
        clear hb10 HLK cx2
        go_wp2
        go_roundw
        case rel => exact ⟨k + 1, HKM.out, by go_num, ⟨p', rfl⟩, HRX.out⟩
        case measure => first | exact measNW HKM.out hwk | exact measN1 HKM.out
      by_cases hk2 : o0 = 2
      · have K1 : (o0 == 1) = false := by rw [beq_eq_false_iff_ne]; exact hk1
        have K2 : (o0 == 2) = true := by rw [beq_iff_eq]; exact hk2
        clear hk1 hk2
        have HC := hid (take_all HD1.out.na HL0.out.2 o3 HOB.out.1 HOB.out.2)
        obtain ⟨⟨ti, tf, td, tb⟩, HTV⟩ : ∃ q, Hid (takeV g o3 = q) := ⟨_, hid rfl⟩
        obtain ⟨C0, HC0⟩ : ∃ z, Hid (takeC g o3 = z) := ⟨_, hid rfl⟩
        rw [HC0.out, HTV.out] at HC
        simp only [Pk.val] at HC
        go_wp2_with fail
        rw [← HW1.out, ← HQE.out]
        refine HC.out.mono ?_
        rintro e w2 ⟨rfl, hto⟩
        obtain ⟨W4, hW4⟩ : ∃ V, V = w2.alloc (.cells #[.int .i64 ti, .int .i64 tf, .int .i64 td, .string tb] 36) := ⟨_, rfl⟩
        obtain ⟨qa, hqa⟩ : ∃ q, q = w2.heap.size := ⟨_, rfl⟩
        have hb4 : Below w2.heap.size w2 W4 := by rw [hW4]; exact (Below.refl _ _).alloc (Nat.le_refl _) _
        have HA4 : Hid (Blk W4 qa 36 [.int .i64 ti, .int .i64 tf, .int .i64 td, .string tb]) := by rw [hW4, hqa]; exact Blk.new _ _ _
        have HTO := hid (NetTo.alloc hto hb4)
        obtain ⟨v0, D0, hn0, ht0, ho0⟩ := hto
        obtain ⟨v2, D2, hn2, ht2, ho2⟩ := HTO.out
        have hB2 : w.heap.size ≤ W4.heap.size := Nat.le_trans HD1.out.bel.size ht2.size
        have hbx2 := ht2.blk HBX.out (fun hi => HQF.out qe (.inl hi) rfl)
        have HRC := hid ((rn_kept HD1.out.na HD1.out.rn ht2).take hB2 o3)
        have HQA : Hid (¬ FootX x eo qa) := fun hi => by
          have h1 := (HD1.out.rowb qa hi).2
          have h2 := ht0.size
          omega
        have HBX2 := hid hbx2
        have x3 := HBX2.out.cell (i := 3) rfl
        rw [hW4] at x3
        have HW4 := hid hW4
        have HQ4 := hid hqa
        rw [HC0.out, HTV.out] at HRC
        simp only [Pk.val] at HRC
        clear hn2 ht2 hB2 hbx2 HC b0 b1 b2 b3 b4 g0 g1 g2 g3 g4 hW4 hqa hb4 hn0 ht0 ho0 ho2
        go_wp2_with fail
        rw [← HW4.out, ← HQ4.out]
        refine HRC.out.mono ?_
        rintro e w5 ⟨rfl, hrt⟩
        obtain ⟨W6, hW6⟩ : ∃ V, V = w5.alloc (.cells #[.int .i64 ti, .int .i64 tf, .int .i64 td, .string tb] 36) := ⟨_, rfl⟩
        obtain ⟨qb, hqb⟩ : ∃ q, q = w5.heap.size := ⟨_, rfl⟩
        have hb6 : Below w5.heap.size w5 W6 := by rw [hW6]; exact (Below.refl _ _).alloc (Nat.le_refl _) _
        have hB6 : Blk W6 qb 36 [.int .i64 ti, .int .i64 tf, .int .i64 td, .string tb] := by rw [hW6, hqb]; exact Blk.new _ _ _
        have hD5 := HD1.out.both HTO.out hrt (by have h1 := takeN_last g o3; have h2 := HGL.out; omega)
        have HD9 : Hid (∃ v' D' eo' cap', DuS w W6 p' bm x v' D' (takeN g o3) eo' cap' (k + 1)) := by
          obtain ⟨v', D', eo', cap', h5⟩ := hD5
          exact ⟨v', D', eo', cap', h5.below hb6⟩
        obtain ⟨eo5, cap5, _, ht5⟩ := hrt
        have hbx5 := ht5.blk HBX2.out (fun hi => HQF.out qe (.inr hi) rfl)
        have hA5 := ht5.blk HA4.out HQA.out
        have hbx9 := hbx5.below hb6 hbx5.lt
        have hA6 := hA5.below hb6 hA5.lt
        have HEQ := eql_pk W6 ti tf td tb
        have c0 := hA6.cell (i := 0) rfl
        have c1 := hA6.cell (i := 1) rfl
        have c2 := hA6.cell (i := 2) rfl
        have c3 := hA6.cell (i := 3) rfl
        have d0 := hB6.cell (i := 0) rfl
        have d1 := hB6.cell (i := 1) rfl
        have d2 := hB6.cell (i := 2) rfl
        have d3 := hB6.cell (i := 3) rfl
        rw [hW6] at c0 c1 c2 c3 d0 d1 d2 d3 HEQ
        rw [hqb] at d0 d1 d2 d3
        have HW6 := hid hW6
        have hce : (C0 == C0) = true := by simp
        clear ht5 x3 HRC HTO hA6 hB6 hA5 hbx5 hb6 hqb hW6 hD5
        obtain ⟨v9, D9, eo9, cap9, hd9⟩ := HD9.out
        have HBX9 := hid hbx9
        have HLK := hid (looks_net hd9.na (Int.le_trans hd9.last (by have := HKB.out; omega)) hd9.rn o2)
        have cx2 := HBX9.out.cell (i := 2) rfl
        rw [HW6.out] at cx2
        have HD10 := hid hd9
        clear hd9 hbx9 HD9
        go_wp2_with fail
        rw [← HW6.out]
        refine HLK.out.mono ?_
        rintro e w10 ⟨rfl, hb10⟩
        have HRX : Hid (DoN w x (k + 1) (.pointer (some ⟨p', 0, none⟩)) w10) := ⟨p', _, _, _, _, _, _, rfl, HD10.out.below hb10⟩
        clear hb10 HLK cx2 c0 c1 c2 c3 d0 d1 d2 d3
        go_wp2
        go_roundw
        case rel => exact ⟨k + 1, HKM.out, by go_num, ⟨p', rfl⟩, HRX.out⟩
        case measure => first | exact measNW HKM.out hwk | exact measN1 HKM.out
      by_cases hk3 : o0 = 3
      · have K1 : (o0 == 1) = false := by rw [beq_eq_false_iff_ne]; exact hk1
        have K2 : (o0 == 2) = false := by rw [beq_eq_false_iff_ne]; exact hk2
        have K3 : (o0 == 3) = true := by rw [beq_iff_eq]; exact hk3
        clear hk1 hk2 hk3
        have HC := hid (twice_all HD1.out.na HD1.out.rn.ok HL0.out.2 o3 HOB.out.1 HOB.out.2)
        go_wp2_with fail
        rw [← HW1.out, ← HQE.out]
        refine HC.out.mono ?_
        rintro e w2 ⟨rfl, hto⟩
        have HTO := hid hto
        obtain ⟨v2, D2, hn2, ht2, _⟩ := hto
        have hB2 : w.heap.size ≤ w2.heap.size := Nat.le_trans HD1.out.bel.size ht2.size
        have hbx2 := ht2.blk HBX.out (fun hi => HQF.out qe (.inl hi) rfl)
        have HRC := hid ((rn_kept HD1.out.na HD1.out.rn ht2).twice hB2 HL0.out.1 HL0.out.2 o3)
        have HBX2 := hid hbx2
        clear hn2 ht2 hB2 hbx2 HC b0 b1 b2 b3 b4 g0 g1 g2 g3 g4
        obtain ⟨I0, HI0⟩ : ∃ z, Hid (twiceI g o3 = z) := ⟨_, hid rfl⟩
        obtain ⟨C0, HC0⟩ : ∃ z, Hid (twiceC g o3 = z) := ⟨_, hid rfl⟩
        rw [HI0.out, HC0.out] at HRC ⊢
        have x1 := HBX2.out.cell (i := 1) rfl
        have x2 := HBX2.out.cell (i := 2) rfl
        have x3 := HBX2.out.cell (i := 3) rfl
        have x4 := HBX2.out.cell (i := 4) rfl
        go_wp2_with fail
        refine HRC.out.mono ?_
        rintro e w5 ⟨rfl, hrt⟩
        have HD9 := hid (HD1.out.both HTO.out hrt (by have h1 := twiceN_last g o3; have h2 := HGL.out; omega))
        obtain ⟨eo5, cap5, _, ht5⟩ := hrt
        have hbx9 := ht5.blk HBX2.out (fun hi => HQF.out qe (.inr hi) rfl)
        clear ht5 x1 x2 x3 x4 HRC HTO
        have hie : (I0 == I0) = true := by simp
        have hce : (C0 == C0) = true := by simp
        obtain ⟨v9, D9, eo9, cap9, hd9⟩ := HD9.out
        have HBX9 := hid hbx9
        have HLK := hid (looks_net hd9.na (Int.le_trans hd9.last (by have := HKB.out; omega)) hd9.rn o2)
        have cx2 := HBX9.out.cell (i := 2) rfl
        have HD10 := hid hd9
        clear hd9 hbx9 HD9
        go_wp2_with fail
        refine HLK.out.mono ?_
        rintro e w10 ⟨rfl, hb10⟩
        have HRX : Hid (DoN w x (k + 1) (.pointer (some ⟨p', 0, none⟩)) w10) := ⟨p', _, _, _, _, _, _, rfl, HD10.out.below hb10⟩
        clear hb10 HLK cx2
        go_wp2
        go_roundw
        case rel => exact ⟨k + 1, HKM.out, by go_num, ⟨p', rfl⟩, HRX.out⟩
        case measure => first | exact measNW HKM.out hwk | exact measN1 HKM.out
      by_cases hk4 : o0 = 4
      · have K1 : (o0 == 1) = false := by rw [beq_eq_false_iff_ne]; exact hk1
        have K2 : (o0 == 2) = false := by rw [beq_eq_false_iff_ne]; exact hk2
        have K3 : (o0 == 3) = false := by rw [beq_eq_false_iff_ne]; exact hk3
        have K4 : (o0 == 4) = true := by rw [beq_iff_eq]; exact hk4
        clear hk1 hk2 hk3 hk4
        have HC := hid (at_all HD1.out.na o3)
        have HRC := hid (HD1.out.rn.at o3)
        obtain ⟨A0, HA0⟩ : ∃ z, Hid (atV g o3 = z) := ⟨_, hid rfl⟩
        obtain ⟨B0, HB0⟩ : ∃ z, Hid (decide (0 < g.ps.length) = z) := ⟨_, hid rfl⟩
        rw [HA0.out, HB0.out] at HC HRC
        have x3 := HBX.out.cell (i := 3) rfl
        go_wp2_with fail
        rw [← HW1.out, ← HQE.out]
        refine HC.out.mono ?_
        rintro e w2 ⟨rfl, hw2⟩
        rw [hw2]
        clear hw2 HC b0 b1 b2 b3 b4 g0 g1 g2 g3 g4
        go_wp2_with fail
        refine HRC.out.mono ?_
        rintro e w5 ⟨rfl, hw5⟩
        rw [hw5]
        have HD9 : Hid (∃ v' D' eo' cap', DuS w W1 p' bm x v' D' g eo' cap' (k + 1)) := ⟨v, D, eo, cap, HD1.out.na, HD1.out.rn, HD1.out.foot, HD1.out.bx, HD1.out.bel, by have := HGL.out; omega⟩
        have hbx9 := HBX.out
        clear x3 HRC hw5
        have hie : (A0 == A0) = true := by simp
        have hce : (B0 == B0) = true := by simp
        obtain ⟨v9, D9, eo9, cap9, hd9⟩ := HD9.out
        have HBX9 := hid hbx9
        have HLK := hid (looks_net hd9.na (Int.le_trans hd9.last (by have := HKB.out; omega)) hd9.rn o2)
        have cx2 := HBX9.out.cell (i := 2) rfl
        have HD10 := hid hd9
        clear hd9 hbx9 HD9
        go_wp2_with fail
        refine HLK.out.mono ?_
        rintro e w10 ⟨rfl, hb10⟩
        have HRX : Hid (DoN w x (k + 1) (.pointer (some ⟨p', 0, none⟩)) w10) := ⟨p', _, _, _, _, _, _, rfl, HD10.out.below hb10⟩
        clear hb10 HLK cx2 
        go_wp2
        go_roundw
        case rel => exact ⟨k + 1, HKM.out, by go_num, ⟨p', rfl⟩, HRX.out⟩
        case measure => first | exact measNW HKM.out hwk | exact measN1 HKM.out

      by_cases hk6 : o0 = 6
      · have K1 : (o0 == 1) = false := by rw [beq_eq_false_iff_ne]; exact hk1
        have K2 : (o0 == 2) = false := by rw [beq_eq_false_iff_ne]; exact hk2
        have K3 : (o0 == 3) = false := by rw [beq_eq_false_iff_ne]; exact hk3
        have K4 : (o0 == 4) = false := by rw [beq_eq_false_iff_ne]; exact hk4
        have K6 : (o0 == 6) = true := by rw [beq_iff_eq]; exact hk6
        clear hk1 hk2 hk3 hk4 hk6
        have HC := hid HD1.out.na.fork
        go_wp2_with fail
        rw [← HW1.out, ← HQE.out]
        refine HC.out.mono ?_
        rintro e w2 ⟨p2, bm2, v2, rfl, hfk⟩
        have HFK := hid hfk
        have HSD := hid (fun s => send_all (HD1.out.na.below hfk.2.1 (Nat.le_refl _)) HL0.out.2 0 0 s)
        have hbx2 := HBX.out.below hfk.2.1 HBX.out.lt
        have HBX2 := hid hbx2
        clear hfk hbx2 HC b0 b1 b2 b3 b4 g0 g1 g2 g3 g4
        go_wp2_with fail
        refine (HSD.out _).mono ?_
        rintro e w3 ⟨rfl, v3, D3, hn3, ht3, ho3⟩
        have HTK := hid (take_all hn3 (by have h1 := sendN_last g 0 0 ⟨#[111, 116, 104, 101, 114]⟩; have h2 := HGL.out; have h3 := HKB.out; omega) 1 (by decide) (by decide))
        have hbx3 := ht3.blk HBX2.out (fun hi => HQF.out qe (.inl hi) rfl)
        have HBX3 := hid hbx3
        have HQ3 : Hid (¬ Foot p' bm v3 qe) := off3 ho3 HBX2.out.lt (fun hi => HQF.out qe (.inl hi) rfl)
        have HN3 := hid hn3
        have HT3 := hid ht3
        have HO3 := hid ho3
        clear hn3 ht3 ho3 hbx3 HSD
        go_wp2_with fail
        refine HTK.out.mono ?_
        rintro e w4 ⟨rfl, v4, D4, hn4, ht4, ho4⟩
        have HD9 := hid (HD1.out.forked HFK.out HN3.out HT3.out HO3.out ht4)
        have hbx9 := ht4.blk HBX3.out HQ3.out
        clear ht4 ho4 hn4 HTK
        obtain ⟨v9, D9, eo9, cap9, hd9⟩ := HD9.out
        have HBX9 := hid hbx9
        have HLK := hid (looks_net hd9.na (Int.le_trans hd9.last (by have := HKB.out; omega)) hd9.rn o2)
        have cx2 := HBX9.out.cell (i := 2) rfl
        have HD10 := hid hd9
        clear hd9 hbx9 HD9
        go_wp2_with fail
        refine HLK.out.mono ?_
        rintro e w10 ⟨rfl, hb10⟩
        have HRX : Hid (DoN w x (k + 1) (.pointer (some ⟨p2, 0, none⟩)) w10) := ⟨p2, _, _, _, _, _, _, rfl, HD10.out.below hb10⟩
        clear hb10 HLK cx2 
        go_wp2
        go_roundw
        case rel => exact ⟨k + 1, HKM.out, by go_num, ⟨p2, rfl⟩, HRX.out⟩
        case measure => first | exact measNW HKM.out hwk | exact measN1 HKM.out
      have K1 : (o0 == 1) = false := by rw [beq_eq_false_iff_ne]; exact hk1
      have K2 : (o0 == 2) = false := by rw [beq_eq_false_iff_ne]; exact hk2
      have K3 : (o0 == 3) = false := by rw [beq_eq_false_iff_ne]; exact hk3
      have K4 : (o0 == 4) = false := by rw [beq_eq_false_iff_ne]; exact hk4
      have K6 : (o0 == 6) = false := by rw [beq_eq_false_iff_ne]; exact hk6
      clear hk1 hk2 hk3 hk4 hk6
      have HD9 : Hid (∃ v' D' eo' cap', DuS w W1 p' bm x v' D' g eo' cap' (k + 1)) := ⟨v, D, eo, cap, HD1.out.na, HD1.out.rn, HD1.out.foot, HD1.out.bx, HD1.out.bel, by have := HGL.out; omega⟩
      have hbx9 := HBX.out
      have HFLD : Hid (W1 = wr.alloc (.cells #[.int .i64 o0, .int .i64 o1, .int .i64 o2, .int .i64 o3, .string o4] 32)) := HW1.out
      obtain ⟨v9, D9, eo9, cap9, hd9⟩ := HD9.out
      have HBX9 := hid hbx9
      have HLK := hid (looks_net hd9.na (Int.le_trans hd9.last (by have := HKB.out; omega)) hd9.rn o2)
      have cx2 := b2
      have HD10 := hid hd9
      clear hd9 hbx9 HD9
      go_wp2_with fail
      rw [← HW1.out, ← HQE.out]
      refine HLK.out.mono ?_
      rintro e w10 ⟨rfl, hb10⟩
      have HRX : Hid (DoN w x (k + 1) (.pointer (some ⟨p', 0, none⟩)) w10) := ⟨p', _, _, _, _, _, _, rfl, HD10.out.below hb10⟩
      clear hb10 HLK cx2 b0 b1 b2 b3 b4 g0 g1 g2 g3 g4
      go_wp2
      go_roundw
      case rel => exact ⟨k + 1, HKM.out, by go_num, ⟨p', rfl⟩, HRX.out⟩
      case measure => first | exact measNW HKM.out hwk | exact measN1 HKM.out
    · have hkn : k = n := by omega
      subst hkn
      have hlt' : ¬ (k : Int) < (k : Int) := by omega
      have HBE := hid HD.out.bel
      clear hlt
      go_wp2
      go_ret
      exact ⟨rfl, HBE.out⟩
end Go.Proofs.Ytoacfdicjpoohaa
