/-
  The document's set of dots: Add, at the end.
-/
import Derived.Test.YtplecopphddjhaaDdC
namespace Go.Proofs.Ytplecopphddjhaa
open Go.RowKit Go.Maps
attribute [local go_sem] undef
set_option maxRecDepth 1000000 in
set_option maxHeartbeats 40000000 in
theorem RsAt.addEnd {w : World} {B x : Nat} {ps : List PairV} {eo : Option Addr} {cap : Nat} (h : RsAt w B x ps eo cap) (hB : B ≤ w.heap.size) (o s : Int) (t : ByteArray) {b off : Nat} (hao : eo = some ⟨b, off, none⟩) (hC : raddC ps o s = 0) (hpos : posP ps o s = ps.length) : Calls Try.prog 7 #[.pointer (some ⟨x, 0, none⟩), .agg #[.int .i64 o, .int .i64 s], .string t] w fun e w' => e = .returned (.int .i64 (raddC ps o s)) ∧ RsTo B w w' x (raddP ps o s t) := by
  have HAO := hid hao
  have HC : Hid (raddC ps o s = 0) := hC
  have HPO := hid hpos
  have hmay : MayD o s := by
    apply Classical.byContradiction
    intro h1
    unfold raddC at hC
    rw [if_neg h1] at hC
    cases hC
  have hhas' : (pget ps o s).isSome = false := by
    cases h2 : (pget ps o s).isSome with
    | false => rfl
    | true => unfold raddC at hC; rw [if_pos hmay, h2] at hC; cases hC
  have hfull0 : ¬ 65536 ≤ ps.length := by
    intro h1
    unfold raddC at hC
    rw [if_pos hmay, hhas', if_neg (by decide), if_pos h1] at hC
    cases hC
  have H := hid h
  have HBB := hid hB
  obtain ⟨W1, hW1⟩ : ∃ V, V = w.alloc (.cells #[.int .i64 o, .int .i64 s] 25) := ⟨_, rfl⟩
  have hb1 : Below w.heap.size w W1 := by rw [hW1]; exact (Below.refl _ _).alloc (Nat.le_refl _) _
  obtain ⟨pb, hpb⟩ : ∃ q, q = w.heap.size := ⟨_, rfl⟩
  have HK : Hid (Blk W1 pb 25 [.int .i64 o, .int .i64 s]) := by rw [hW1, hpb]; exact Blk.new _ _ _
  have HB1 := hid hb1
  have HPB := hid hpb
  have HMAY := hid (rmay_dot W1 o s)
  have c0 := HK.out.cell (i := 0) rfl
  have c1 := HK.out.cell (i := 1) rfl
  have HW1 := hid hW1
  rw [hW1] at c0 c1
  clear h hB hb1 hpb hW1 hC hpos hao
  rw [decide_eq_true hmay] at HMAY
  have HMD := hid hmay
  clear hmay
  go_enter Try.func7, Try.ntmps7
  go_wp2_with fail
  rw [← HW1.out]
  refine HMAY.out.mono ?_
  rintro e w2 ⟨rfl, hb2⟩
  have HB2 := hid (btN HB1.out hb2)
  have HK2 := hid (HK.out.below hb2 HK.out.lt)
  have HGET := hid ((H.out.below HB2.out).get o s)
  clear hb2 c0 c1 HMAY
  rw [← HPB.out]
  have k0 := HK2.out.cell (i := 0) rfl
  have k1 := HK2.out.cell (i := 1) rfl
  rw [hhas'] at HGET
  go_wp2_with fail
  refine HGET.out.mono ?_
  rintro e w3 ⟨rfl, hb3⟩
  have HB3 := hid (btN HB2.out hb3)
  have HK3 := hid (HK2.out.below hb3 HK2.out.lt)
  have H3 := hid (H.out.below HB3.out)
  obtain ⟨n, HN⟩ : ∃ n, Hid (ps.length = n) := ⟨_, hid rfl⟩
  have HNF : Hid (n ≤ 65536) := by rw [← HN.out]; exact H.out.few
  have a0 := H3.out.blk.cell (i := 0) rfl
  rw [HN.out] at a0
  have hfull : ¬ 65536 ≤ n := by rw [← HN.out]; exact hfull0
  clear hb3 k0 k1 hhas' HGET hfull0
  have hfull' : ¬ (65536 : Int) ≤ (n : Int) := by omega
  have HNL : Hid (n < 65536) := (by omega : n < 65536)
  have HCP : Hid (n ≤ cap) := by rw [← HN.out]; exact H.out.held.2
  clear hfull
  go_wp2
  clear a0
  go_loopw [9] (fun i wr => ∃ k : Nat, k ≤ n ∧ i = .int .i64 k ∧ Hid (Ahead ps o s k) ∧ Hid (Below w3.heap.size w3 wr)) (fun i _ => n - (intOf i).toNat)
  case atStart => exact ⟨0, Nat.zero_le _, rfl, fun j _ h => (by omega), Below.refl _ _⟩
  case round =>
    obtain ⟨k, hk, rfl, HLO, HBR⟩ := hrel
    have H4 := hid (H3.out.below HBR.out)
    have HB4 := hid (btN HB3.out HBR.out)
    have HK4 := hid (HK3.out.below HBR.out HK3.out.lt)
    have HKN : Hid (k ≤ n) := hk
    have e0 := H4.out.blk.cell (i := 0) rfl
    rw [HN.out] at e0
    have k0 := HK4.out.cell (i := 0) rfl
    have k1 := HK4.out.cell (i := 1) rfl
    have HFIN : Hid (∀ w5 W bo cp k r, ScN wr w5 → k = posP ps o s → r = n + 1 → w5.ownsRow wr.heap.size 35 3 (.slice bo r cp) r (flatPp (insP ps k ⟨o, s, t⟩)) → W = w5.setCell ⟨x, 0, none⟩ (.slice bo r cp) → RsTo B w W x (raddP ps o s t)) := fun w5 W bo cp k r e1 e2 e3 e4 e5 => rs_ins H.out HBB.out HC.out e2 (by rw [HN.out]; exact e3) (by have := HN.out; have := HNL.out; omega) HB4.out e1 e4 e5
    have HH3 : Hid (∀ V : World, HeldPp (V.alloc (.cells #[.int .i64 o, .int .i64 s, .string t] 35)) (some ⟨V.heap.size, 0, none⟩) [⟨o, s, t⟩]) := fun V => held_newPp V ⟨o, s, t⟩
    have HHX : Hid (∀ V, ScN wr V → HeldPp V eo ps) := fun V hV => (H4.out.below hV.out).held.1
    have HHA : Hid (∀ V : World, HeldPp ((V.alloc (.cells #[.int .i64 o, .int .i64 s, .string t] 35)).alloc (.cells #[] 35)).drew (some ⟨V.heap.size, 0, none⟩) [⟨o, s, t⟩]) := fun V => (HH3.out V).below (((Below.refl _ (V.alloc (.cells #[.int .i64 o, .int .i64 s, .string t] 35))).alloc (Nat.le_refl _) (.cells #[] 35)).drew)
    have HHB : Hid (∀ V : World, HeldPp ((V.alloc (.cells #[] 35)).alloc (.cells #[.int .i64 o, .int .i64 s, .string t] 35)).drew (some ⟨V.heap.size + 1, 0, none⟩) [⟨o, s, t⟩]) := fun V => by
      have h1 := HH3.out (V.alloc (.cells #[] 35))
      rw [World.size_alloc] at h1
      exact h1.below (Below.refl _ _).drew
    have HSA : Hid (∀ V, ScN wr V → (ScN wr V ∧ V.cell? ⟨x, 0, none⟩ = some (.slice eo n cap) ∧ V.cell? ⟨pb, 0, none⟩ = some (.int .i64 o) ∧ V.cell? ⟨pb, 1, none⟩ = some (.int .i64 s))) := fun V hV => by
      have h1 := (H4.out.below hV.out).blk.cell (i := 0) rfl
      rw [HN.out] at h1
      have h2 := HK4.out.below hV.out HK4.out.lt
      exact ⟨hV, h1, h2.cell rfl, h2.cell rfl⟩
    have hk0 : (0 : Int) ≤ (k : Int) := by omega
    have hkn : (k : Int) ≤ (n : Int) := by omega
    have hkc : (k : Int) ≤ (cap : Int) := by have := HCP.out; omega
    have hnc : (n : Int) ≤ (cap : Int) := by have := HCP.out; omega
    by_cases hlt : k < n
    · have hltn : (k : Int) < (n : Int) := by omega
      have hlt' : decide ((k : Int) < (n : Int)) = true := decide_eq_true (by omega)
      have HKX : Hid (k < ps.length) := by rw [HN.out]; exact hlt
      have HKM : Hid (k + 1 ≤ n) := (by omega : k + 1 ≤ n)
      have hwk : wrap64 ((k : Int) + 1) = (k : Int) + 1 := wrapN (by omega) (by have := HNF.out; omega)
      obtain ⟨b1, off1, hao, hbl, d0, d1, _⟩ := H4.out.held.1.cellsD HKX.out
      obtain ⟨⟨qo, qs, qt⟩, HQ⟩ : ∃ z, Hid (ps[k]'HKX.out = z) := ⟨_, hid rfl⟩
      rw [HQ.out] at d0 d1
      simp only at d0 d1
      subst hao
      have HSB : Hid (∀ V, ScN wr V → (ScN wr V ∧ V.cell? ⟨x, 0, none⟩ = some (.slice (some ⟨b1, off1, none⟩) n cap) ∧ V.cell? ⟨b1, off1 + k * 3, none⟩ = some (.int .i64 qo) ∧ V.cell? ⟨b1, off1 + k * 3 + 1, none⟩ = some (.int .i64 qs) ∧ V.cell? ⟨pb, 0, none⟩ = some (.int .i64 o) ∧ V.cell? ⟨pb, 1, none⟩ = some (.int .i64 s))) := fun V hV => by
        have h1 := (H4.out.below hV.out).blk.cell (i := 0) rfl
        rw [HN.out] at h1
        obtain ⟨b2, off2, e2, _, q0, q1, _⟩ := (H4.out.below hV.out).held.1.cellsD HKX.out
        cases e2
        rw [HQ.out] at q0 q1
        have h2 := HK4.out.below hV.out HK4.out.lt
        exact ⟨hV, h1, q0, q1, h2.cell rfl, h2.cell rfl⟩
      have HLS : Hid (∀ V, ScN wr V → Calls Try.prog 22 #[.agg #[.int .i64 qo, .int .i64 qs], .agg #[.int .i64 o, .int .i64 s]] V fun e w' => e = .returned (.bool (decide (LessD qo qs o s))) ∧ ScN wr w') := fun V hV => (rless_dot V qo qs o s).mono (fun e w' (hh : _ ∧ _) => And.intro hh.1 (hV.go hh.2))
      by_cases hls : LessD qo qs o s
      · rw [decide_eq_true hls] at HLS
        have HNX : Hid (Ahead ps o s (k + 1)) := fun j hj hjk => by
          by_cases e : j = k
          · subst e; rw [HQ.out]; exact hls
          · exact HLO.out j hj (by omega)
        clear hls hlt hk
        go_wp2
        go_region_held3 (fun V => ScN wr V ∧ V.cell? ⟨x, 0, none⟩ = some (.slice (some ⟨b1, off1, none⟩) n cap) ∧ V.cell? ⟨b1, off1 + k * 3, none⟩ = some (.int .i64 qo) ∧ V.cell? ⟨b1, off1 + k * 3 + 1, none⟩ = some (.int .i64 qs) ∧ V.cell? ⟨pb, 0, none⟩ = some (.int .i64 o) ∧ V.cell? ⟨pb, 1, none⟩ = some (.int .i64 s))
          ((refine HSB.out _ ?_; (repeat (first | with_reducible assumption | exact ScN.start _ | apply ScN.dr | apply ScN.alloc))))
          ((first | (go_at_call 22; with_reducible refine (HLS.out _ (by (repeat (first | with_reducible assumption | exact ScN.start _ | apply ScN.dr)))).mono ?_; rintro e w6 ⟨rfl, hs6⟩) | fail))
        all_goals
          have HB6 := hid (HBR.out.trans (show Below w3.heap.size wr w6 from (by first | exact hs6.out.mono HBR.out.size | exact hs6.out)))
          go_wp2
          go_roundw
          case rel => exact ⟨k + 1, HKM.out, by go_num, HNX.out, HB6.out⟩
          case measure => first | exact measNW HKM.out hwk | exact measN1 HKM.out
      · exfalso
        have h1 := posP_at HKX.out HLO.out (by rw [HQ.out]; exact hls)
        have h2 := HPO.out
        have h3 := HKX.out
        omega
    · have hltn : ¬ (k : Int) < (n : Int) := by omega
      have hlt' : decide ((k : Int) < (n : Int)) = false := decide_eq_false (by omega)
      have HKE : Hid (k = posP ps o s) := by
        have h1 : k = ps.length := by have := HN.out; omega
        show _ = _
        rw [h1]
        exact posP_end (by rw [← h1]; exact HLO.out)
      have hltd : decide (k < n) = false := decide_eq_false hlt
      have HDR : Hid (∀ q, ScN wr (wr.drewN q)) := fun q => ⟨below_dn (Below.refl _ _) q⟩
      clear hlt hk
      go_wp2
      go_quiet (fail)
      go_wp2
      obtain ⟨w6, hw6⟩ : ∃ V, V = wr.drewN nq := ⟨_, rfl⟩
      rw [← hw6]
      have hs6 : ScN wr w6 := by rw [hw6]; exact HDR.out nq
      clear hw6
      have hao := HAO.out
      subst hao
      refine wp_region_noPanic ?_
      refine wp_region_K 23 (fun V => ScN wr V ∧ V.cell? ⟨x, 0, none⟩ = some (.slice (some ⟨b, off, none⟩) n cap) ∧ V.cell? ⟨pb, 0, none⟩ = some (.int .i64 o) ∧ V.cell? ⟨pb, 1, none⟩ = some (.int .i64 s)) (by kernel_rfl) (HSA.out _ hs6.dr) (fun hHeld => ?_)
      have hs0 := hs6.dr
      refine wpAnyK_take (i := 0) (oi := { dst := some 47, op := Go.Op.move (Go.Operand.tmp 0), type := 28, pos := "ref.go:53", after := #[], guard := none }) (v := ?vq34) [] rfl (by kernel_rfl) (by kernel_rfl) (by kernel_rfl) (by kernel_rfl) (by kernel_rfl) (fun _ _ _ h => h) (Or.inl ⟨by rfl, ?hyq34⟩) (by assumption) ?restq34
      case hyq34 => (intro w0 hSw; (try dsimp only at hSw); go_simp; try with_reducible rfl)
      simp only [Act.put, List.setIfInBounds_toArray, List.set_cons_zero, List.set_cons_succ]
      refine wpAnyK_take (i := 2) (oi := { dst := some 49, op := Go.Op.move (Go.Operand.tmp 0), type := 28, pos := "ref.go:53", after := #[], guard := none }) (v := ?vq35) [] rfl (by kernel_rfl) (by kernel_rfl) (by kernel_rfl) (by kernel_rfl) (by kernel_rfl) (fun _ _ _ h => h) (Or.inl ⟨by rfl, ?hyq35⟩) (by assumption) ?restq35
      case hyq35 => (intro w0 hSw; (try dsimp only at hSw); go_simp; try with_reducible rfl)
      simp only [Act.put, List.setIfInBounds_toArray, List.set_cons_zero, List.set_cons_succ]
      refine wpAnyK_take (i := 3) (oi := { dst := some 50, op := Go.Op.nilCheck (Go.Operand.tmp 49), type := 0, pos := "ref.go:53", after := #[{ on := 2, ground := Go.Ground.data }], guard := none }) (v := ?vq36) [] rfl (by kernel_rfl) (by kernel_rfl) (by kernel_rfl) (by kernel_rfl) (by kernel_rfl) (fun _ _ _ h => h) (Or.inl ⟨by rfl, ?hyq36⟩) (by assumption) ?restq36
      case hyq36 => (intro w0 hSw; (try dsimp only at hSw); go_simp; try with_reducible rfl)
      simp only [Act.put, List.setIfInBounds_toArray, List.set_cons_zero, List.set_cons_succ]
      refine wpAnyK_take (i := 4) (oi := { dst := some 51, op := Go.Op.fieldAddr 30 (Go.Operand.tmp 50) 0, type := 0, pos := "ref.go:53", after := #[{ on := 3, ground := Go.Ground.data }], guard := none }) (v := ?vq37) [] rfl (by kernel_rfl) (by kernel_rfl) (by kernel_rfl) (by kernel_rfl) (by kernel_rfl) (fun _ _ _ h => h) (Or.inl ⟨by rfl, ?hyq37⟩) (by assumption) ?restq37
      case hyq37 => (intro w0 hSw; (try dsimp only at hSw); go_simp; try with_reducible rfl)
      simp only [Act.put, List.setIfInBounds_toArray, List.set_cons_zero, List.set_cons_succ]
      refine wpAnyK_take (i := 5) (oi := { dst := some 52, op := Go.Op.load 22 (Go.Operand.tmp 51), type := 22, pos := "ref.go:53", after := #[{ on := 4, ground := Go.Ground.data }], guard := none }) (v := ?vq38) [] rfl (by kernel_rfl) (by kernel_rfl) (by kernel_rfl) (by kernel_rfl) (by kernel_rfl) (fun _ _ _ h => h) (Or.inl ⟨by rfl, ?hyq38⟩) (by assumption) ?restq38
      case hyq38 => (intro w0 hSw; (try dsimp only at hSw); go_simp; try with_reducible rfl)
      simp only [Act.put, List.setIfInBounds_toArray, List.set_cons_zero, List.set_cons_succ]
      refine wpAnyK_take (i := 6) (oi := { dst := some 53, op := Go.Op.move (Go.Operand.tmp 9), type := 3, pos := "ref.go:53", after := #[], guard := none }) (v := ?vq39) [] rfl (by kernel_rfl) (by kernel_rfl) (by kernel_rfl) (by kernel_rfl) (by kernel_rfl) (fun _ _ _ h => h) (Or.inl ⟨by rfl, ?hyq39⟩) (by assumption) ?restq39
      case hyq39 => (intro w0 hSw; (try dsimp only at hSw); go_simp; try with_reducible rfl)
      simp only [Act.put, List.setIfInBounds_toArray, List.set_cons_zero, List.set_cons_succ]
      refine wpAnyK_take (i := 7) (oi := { dst := some 54, op := Go.Op.slice 22 (Go.Operand.tmp 52) none (some (Go.Operand.tmp 53)) none, type := 22, pos := "ref.go:53", after := #[{ on := 5, ground := Go.Ground.data }, { on := 6, ground := Go.Ground.data }], guard := none }) (v := ?vq40) [] rfl (by kernel_rfl) (by kernel_rfl) (by kernel_rfl) (by kernel_rfl) (by kernel_rfl) (fun _ _ _ h => h) (Or.inl ⟨by rfl, ?hyq40⟩) (by assumption) ?restq40
      case hyq40 => (intro w0 hSw; (try dsimp only at hSw); go_simp; try with_reducible rfl)
      simp only [Act.put, List.setIfInBounds_toArray, List.set_cons_zero, List.set_cons_succ]
      refine wpAnyK_take (i := 9) (oi := { dst := some 56, op := Go.Op.load 25 (Go.Operand.tmp 4), type := 25, pos := "ref.go:53", after := #[], guard := none }) (v := ?vq41) [] rfl (by kernel_rfl) (by kernel_rfl) (by kernel_rfl) (by kernel_rfl) (by kernel_rfl) (fun _ _ _ h => h) (Or.inl ⟨by rfl, ?hyq41⟩) (by assumption) ?restq41
      case hyq41 => (intro w0 hSw; (try dsimp only at hSw); go_simp; try with_reducible rfl)
      simp only [Act.put, List.setIfInBounds_toArray, List.set_cons_zero, List.set_cons_succ]
      refine wpAnyK_take (i := 10) (oi := { dst := some 57, op := Go.Op.move (Go.Operand.tmp 2), type := 9, pos := "ref.go:53", after := #[], guard := none }) (v := ?vq42) [] rfl (by kernel_rfl) (by kernel_rfl) (by kernel_rfl) (by kernel_rfl) (by kernel_rfl) (fun _ _ _ h => h) (Or.inl ⟨by rfl, ?hyq42⟩) (by assumption) ?restq42
      case hyq42 => (intro w0 hSw; (try dsimp only at hSw); go_simp; try with_reducible rfl)
      simp only [Act.put, List.setIfInBounds_toArray, List.set_cons_zero, List.set_cons_succ]
      refine wpAnyK_take (i := 11) (oi := { dst := some 58, op := Go.Op.build 35 #[(0, Go.Operand.tmp 56), (1, Go.Operand.tmp 57)], type := 35, pos := "ref.go:53", after := #[{ on := 9, ground := Go.Ground.data }, { on := 10, ground := Go.Ground.data }], guard := none }) (v := ?vq43) [] rfl (by kernel_rfl) (by kernel_rfl) (by kernel_rfl) (by kernel_rfl) (by kernel_rfl) (fun _ _ _ h => h) (Or.inl ⟨by rfl, ?hyq43⟩) (by assumption) ?restq43
      case hyq43 => (intro w0 hSw; (try dsimp only at hSw); go_simp; try with_reducible rfl)
      simp only [Act.put, List.setIfInBounds_toArray, List.set_cons_zero, List.set_cons_succ]
      refine wpAnyK_take (i := 14) (oi := { dst := some 61, op := Go.Op.move (Go.Operand.tmp 0), type := 28, pos := "ref.go:53", after := #[], guard := none }) (v := ?vq44) [] rfl (by kernel_rfl) (by kernel_rfl) (by kernel_rfl) (by kernel_rfl) (by kernel_rfl) (fun _ _ _ h => h) (Or.inl ⟨by rfl, ?hyq44⟩) (by assumption) ?restq44
      case hyq44 => (intro w0 hSw; (try dsimp only at hSw); go_simp; try with_reducible rfl)
      simp only [Act.put, List.setIfInBounds_toArray, List.set_cons_zero, List.set_cons_succ]
      refine wpAnyK_take (i := 15) (oi := { dst := some 62, op := Go.Op.nilCheck (Go.Operand.tmp 61), type := 0, pos := "ref.go:53", after := #[{ on := 14, ground := Go.Ground.data }], guard := none }) (v := ?vq45) [] rfl (by kernel_rfl) (by kernel_rfl) (by kernel_rfl) (by kernel_rfl) (by kernel_rfl) (fun _ _ _ h => h) (Or.inl ⟨by rfl, ?hyq45⟩) (by assumption) ?restq45
      case hyq45 => (intro w0 hSw; (try dsimp only at hSw); go_simp; try with_reducible rfl)
      simp only [Act.put, List.setIfInBounds_toArray, List.set_cons_zero, List.set_cons_succ]
      refine wpAnyK_take (i := 16) (oi := { dst := some 63, op := Go.Op.fieldAddr 30 (Go.Operand.tmp 62) 0, type := 0, pos := "ref.go:53", after := #[{ on := 15, ground := Go.Ground.data }], guard := none }) (v := ?vq46) [] rfl (by kernel_rfl) (by kernel_rfl) (by kernel_rfl) (by kernel_rfl) (by kernel_rfl) (fun _ _ _ h => h) (Or.inl ⟨by rfl, ?hyq46⟩) (by assumption) ?restq46
      case hyq46 => (intro w0 hSw; (try dsimp only at hSw); go_simp; try with_reducible rfl)
      simp only [Act.put, List.setIfInBounds_toArray, List.set_cons_zero, List.set_cons_succ]
      refine wpAnyK_take (i := 17) (oi := { dst := some 64, op := Go.Op.load 22 (Go.Operand.tmp 63), type := 22, pos := "ref.go:53", after := #[{ on := 16, ground := Go.Ground.data }], guard := none }) (v := ?vq47) [] rfl (by kernel_rfl) (by kernel_rfl) (by kernel_rfl) (by kernel_rfl) (by kernel_rfl) (fun _ _ _ h => h) (Or.inl ⟨by rfl, ?hyq47⟩) (by assumption) ?restq47
      case hyq47 => (intro w0 hSw; (try dsimp only at hSw); go_simp; try with_reducible rfl)
      simp only [Act.put, List.setIfInBounds_toArray, List.set_cons_zero, List.set_cons_succ]
      refine wpAnyK_take (i := 18) (oi := { dst := some 65, op := Go.Op.move (Go.Operand.tmp 9), type := 3, pos := "ref.go:53", after := #[], guard := none }) (v := ?vq48) [] rfl (by kernel_rfl) (by kernel_rfl) (by kernel_rfl) (by kernel_rfl) (by kernel_rfl) (fun _ _ _ h => h) (Or.inl ⟨by rfl, ?hyq48⟩) (by assumption) ?restq48
      case hyq48 => (intro w0 hSw; (try dsimp only at hSw); go_simp; try with_reducible rfl)
      simp only [Act.put, List.setIfInBounds_toArray, List.set_cons_zero, List.set_cons_succ]
      refine wpAnyK_take (i := 19) (oi := { dst := some 66, op := Go.Op.slice 22 (Go.Operand.tmp 64) (some (Go.Operand.tmp 65)) none none, type := 22, pos := "ref.go:53", after := #[{ on := 17, ground := Go.Ground.data }, { on := 18, ground := Go.Ground.data }], guard := none }) (v := ?vq49) [] rfl (by kernel_rfl) (by kernel_rfl) (by kernel_rfl) (by kernel_rfl) (by kernel_rfl) (fun _ _ _ h => h) (Or.inl ⟨by rfl, ?hyq49⟩) (by assumption) ?restq49
      case hyq49 => (intro w0 hSw; (try dsimp only at hSw); go_simp; try with_reducible rfl)
      simp only [Act.put, List.setIfInBounds_toArray, List.set_cons_zero, List.set_cons_succ]
      refine wpAnyK_ready (rs := [1, 12]) (by kernel_rfl) (by simp) ?_
      refine AllReadyK.cons (o := { dst := some 48, op := Go.Op.buildSlice 22 0 #[], type := 22, pos := "ref.go:53", after := #[], guard := none }) rfl (fun K hK => ?_) (AllReadyK.cons (o := { dst := some 59, op := Go.Op.buildSlice 22 1 #[(0, Go.Operand.tmp 58)], type := 22, pos := "ref.go:53", after := #[{ on := 11, ground := Go.Ground.data }], guard := none }) rfl (fun K hK => ?_) AllReadyK.nil)
      · go_simp
        refine hK.out _ _ (.inr (HSA.out _ (by (repeat (first | assumption | exact ScN.start _ | apply ScN.dr | apply ScN.alloc))))) (fun hHeld => ?_)
        have hHeld := hHeld.resolve_right (by decide)
        clear hK K
        try simp only [Act.put, List.setIfInBounds_toArray, List.set_cons_zero, List.set_cons_succ]
        refine wpAnyK_ready (rs := [8, 12]) (by kernel_rfl) (by simp) ?_
        refine AllReadyK.cons (o := { dst := some 55, op := Go.Op.call { callee := Go.Callee.builtin Go.Builtin.append, args := #[Go.Operand.tmp 48, Go.Operand.tmp 54], argTypes := #[22, 22] }, type := 22, pos := "ref.go:53", after := #[{ on := 1, ground := Go.Ground.data }, { on := 7, ground := Go.Ground.data }], guard := none }) rfl (fun K hK => ?_) (AllReadyK.cons (o := { dst := some 59, op := Go.Op.buildSlice 22 1 #[(0, Go.Operand.tmp 58)], type := 22, pos := "ref.go:53", after := #[{ on := 11, ground := Go.Ground.data }], guard := none }) rfl (fun K hK => ?_) AllReadyK.nil)
        · refine step_copy_pk rfl _ _ rfl wr.heap.size _ rfl ?ownz64 _ _ _ (ps.take k) ?hmz64 rfl ?hhz64 ?hsumz64 ?hbasez64 ?restz64
          case ownz64 => first | exact ownPk_made w6 _ (ScN.size hs6) | exact (ownPk_made w6 _ (ScN.size hs6)).alloc _ | exact ownPk_made2 w6 _ _ (ScN.size hs6)
          case hmz64 => have := HN.out; have := HKN.out; rw [List.length_take]; omega
          case hhz64 => first | exact (HHX.out _ (by (repeat (first | assumption | exact ScN.start _ | apply ScN.dr | apply ScN.alloc)))).take k | exact (.inl (by have := HN.out; have := HKN.out; exact List.take_eq_nil_iff.2 (.inl (by omega))))
          case hsumz64 => have := HKN.out; have := HNL.out; omega
          case hbasez64 => exact ScN.size (by (repeat (first | assumption | exact ScN.start _ | apply ScN.dr | apply ScN.alloc)))
          intro b3 c3 w5 hown3 hb3 hg3
          have hsc3 : ScN wr w5 := ScN.grown (by (repeat (first | assumption | exact ScN.start _ | apply ScN.dr | apply ScN.alloc))) hb3
          refine hK.out _ _ (.inr (HSA.out _ (by (repeat (first | assumption | exact ScN.start _ | apply ScN.dr | apply ScN.alloc))))) (fun hHeld => ?_)
          have hHeld := hHeld.resolve_right (by decide)
          clear hK K
          try simp only [Act.put, List.setIfInBounds_toArray, List.set_cons_zero, List.set_cons_succ]
          refine wpAnyK_ready (rs := [12]) (by kernel_rfl) (by simp) ?_
          refine AllReadyK.cons (o := { dst := some 59, op := Go.Op.buildSlice 22 1 #[(0, Go.Operand.tmp 58)], type := 22, pos := "ref.go:53", after := #[{ on := 11, ground := Go.Ground.data }], guard := none }) rfl (fun K hK => ?_) AllReadyK.nil
          go_simp
          refine hK.out _ _ (.inr (HSA.out _ (by (repeat (first | assumption | exact ScN.start _ | apply ScN.dr | apply ScN.alloc))))) (fun hHeld => ?_)
          have hHeld := hHeld.resolve_right (by decide)
          clear hK K
          try simp only [Act.put, List.setIfInBounds_toArray, List.set_cons_zero, List.set_cons_succ]
          refine wpAnyK_ready (rs := [13]) (by kernel_rfl) (by simp) ?_
          refine AllReadyK.cons (o := { dst := some 60, op := Go.Op.call { callee := Go.Callee.builtin Go.Builtin.append, args := #[Go.Operand.tmp 55, Go.Operand.tmp 59], argTypes := #[22, 22] }, type := 22, pos := "ref.go:53", after := #[{ on := 8, ground := Go.Ground.data }, { on := 12, ground := Go.Ground.data }, { on := 8, ground := Go.Ground.chain }], guard := none }) rfl (fun K hK => ?_) AllReadyK.nil
          refine step_append_pk rfl _ _ rfl wr.heap.size _ _ (ps.take k) ?hnz55 rfl (hown3.alloc _) _ 1 1 [(⟨o, s, t⟩ : PairV)] rfl rfl ?hhz55 ?hsumz55 ?hbasez55 ?restz55
          case hnz55 => have := HN.out; have := HKN.out; rw [List.length_take]; omega
          case hhz55 => exact HH3.out _
          case hsumz55 => have := HKN.out; have := HNL.out; omega
          case hbasez55 => exact ScN.size (by (repeat (first | assumption | exact ScN.start _ | apply ScN.dr | apply ScN.alloc)))
          intro b4 c4 w7 hown4 hb4 hg4
          have hsc4 : ScN wr w7 := ScN.grown (by (repeat (first | assumption | exact ScN.start _ | apply ScN.dr | apply ScN.alloc))) hb4
          refine hK.out _ _ (.inr (HSA.out _ (by (repeat (first | assumption | exact ScN.start _ | apply ScN.dr | apply ScN.alloc))))) (fun hHeld => ?_)
          have hHeld := hHeld.resolve_right (by decide)
          clear hK K
          try simp only [Act.put, List.setIfInBounds_toArray, List.set_cons_zero, List.set_cons_succ]
          refine wpAnyK_ready (rs := [20]) (by kernel_rfl) (by simp) ?_
          refine AllReadyK.cons (o := { dst := some 67, op := Go.Op.call { callee := Go.Callee.builtin Go.Builtin.append, args := #[Go.Operand.tmp 60, Go.Operand.tmp 66], argTypes := #[22, 22] }, type := 22, pos := "ref.go:53", after := #[{ on := 13, ground := Go.Ground.data }, { on := 19, ground := Go.Ground.data }, { on := 13, ground := Go.Ground.chain }], guard := none }) rfl (fun K hK => ?_) AllReadyK.nil
          refine step_append_pk rfl _ _ rfl wr.heap.size _ _ (ps.take k ++ [(⟨o, s, t⟩ : PairV)]) ?hnz56 rfl hown4 _ _ _ (ps.drop k) ?hmz56 rfl ?hhz56 ?hsumz56 ?hbasez56 ?restz56
          case hnz56 => have := HN.out; have := HKN.out; rw [List.length_append, List.length_take, List.length_singleton]; omega
          case hmz56 => have := HN.out; have := HKN.out; rw [List.length_drop]; omega
          case hhz56 => first | exact (HHX.out _ (by (repeat (first | assumption | exact ScN.start _ | apply ScN.dr | apply ScN.alloc)))).drop k | exact held_dropPp (HHX.out _ (by (repeat (first | assumption | exact ScN.start _ | apply ScN.dr | apply ScN.alloc)))) k (by have := HN.out; have := HCP.out; omega)
          case hsumz56 => have := HKN.out; have := HNL.out; omega
          case hbasez56 => exact ScN.size (by (repeat (first | assumption | exact ScN.start _ | apply ScN.dr | apply ScN.alloc)))
          intro b5 c5 w8 hown5 hb5 hg5
          have hsc5 : ScN wr w8 := ScN.grown (by (repeat (first | assumption | exact ScN.start _ | apply ScN.dr | apply ScN.alloc))) hb5
          refine hK.out _ _ (.inr (HSA.out _ (by (repeat (first | assumption | exact ScN.start _ | apply ScN.dr | apply ScN.alloc))))) (fun hHeld => ?_)
          have hHeld := hHeld.resolve_right (by decide)
          clear hK K
          try simp only [Act.put, List.setIfInBounds_toArray, List.set_cons_zero, List.set_cons_succ]
          have hpk5 := (H4.out.below hsc5.out).blk
          have f5 := hpk5.frozen 0
          have e5 := hpk5.cell (i := 0) rfl
          rw [HN.out] at e5
          refine wpAnyK_take (i := 21) (oi := { dst := some 68, op := Go.Op.nilCheck (Go.Operand.tmp 47), type := 0, pos := "ref.go:53", after := #[{ on := 0, ground := Go.Ground.data }, { on := 0, ground := Go.Ground.phase }, { on := 1, ground := Go.Ground.phase }, { on := 2, ground := Go.Ground.phase }, { on := 3, ground := Go.Ground.phase }, { on := 4, ground := Go.Ground.phase }, { on := 5, ground := Go.Ground.phase }, { on := 6, ground := Go.Ground.phase }, { on := 7, ground := Go.Ground.phase }, { on := 8, ground := Go.Ground.phase }, { on := 9, ground := Go.Ground.phase }, { on := 10, ground := Go.Ground.phase }, { on := 11, ground := Go.Ground.phase }, { on := 12, ground := Go.Ground.phase }, { on := 13, ground := Go.Ground.phase }, { on := 14, ground := Go.Ground.phase }, { on := 15, ground := Go.Ground.phase }, { on := 16, ground := Go.Ground.phase }, { on := 17, ground := Go.Ground.phase }, { on := 18, ground := Go.Ground.phase }, { on := 19, ground := Go.Ground.phase }, { on := 20, ground := Go.Ground.phase }], guard := none }) (v := ?vq57) [22] rfl (by kernel_rfl) (by kernel_rfl) (by kernel_rfl) (by kernel_rfl) (by kernel_rfl) (fun _ _ _ h => h) (Or.inl ⟨by rfl, ?hyq57⟩) (by assumption) ?restq57
          case hyq57 => (intro w0 hSw; (try dsimp only at hSw); go_simp; try with_reducible rfl)
          simp only [Act.put, List.setIfInBounds_toArray, List.set_cons_zero, List.set_cons_succ]
          refine wpAnyK_take (i := 22) (oi := { dst := some 69, op := Go.Op.fieldAddr 30 (Go.Operand.tmp 68) 0, type := 0, pos := "ref.go:53", after := #[{ on := 21, ground := Go.Ground.data }, { on := 0, ground := Go.Ground.phase }, { on := 1, ground := Go.Ground.phase }, { on := 2, ground := Go.Ground.phase }, { on := 3, ground := Go.Ground.phase }, { on := 4, ground := Go.Ground.phase }, { on := 5, ground := Go.Ground.phase }, { on := 6, ground := Go.Ground.phase }, { on := 7, ground := Go.Ground.phase }, { on := 8, ground := Go.Ground.phase }, { on := 9, ground := Go.Ground.phase }, { on := 10, ground := Go.Ground.phase }, { on := 11, ground := Go.Ground.phase }, { on := 12, ground := Go.Ground.phase }, { on := 13, ground := Go.Ground.phase }, { on := 14, ground := Go.Ground.phase }, { on := 15, ground := Go.Ground.phase }, { on := 16, ground := Go.Ground.phase }, { on := 17, ground := Go.Ground.phase }, { on := 18, ground := Go.Ground.phase }, { on := 19, ground := Go.Ground.phase }, { on := 20, ground := Go.Ground.phase }], guard := none }) (v := ?vq58) [] rfl (by kernel_rfl) (by kernel_rfl) (by kernel_rfl) (by kernel_rfl) (by kernel_rfl) (fun _ _ _ h => h) (Or.inl ⟨by rfl, ?hyq58⟩) (by assumption) ?restq58
          case hyq58 => (intro w0 hSw; (try dsimp only at hSw); go_simp; try with_reducible rfl)
          simp only [Act.put, List.setIfInBounds_toArray, List.set_cons_zero, List.set_cons_succ]
          refine wpAnyK_ready (rs := [23]) (by kernel_rfl) (by simp) ?_
          refine AllReadyK.cons (o := { dst := none, op := Go.Op.store 22 (Go.Operand.tmp 69) (Go.Operand.tmp 67), type := 0, pos := "ref.go:53", after := #[{ on := 22, ground := Go.Ground.data }, { on := 20, ground := Go.Ground.data }, { on := 20, ground := Go.Ground.chain }, { on := 0, ground := Go.Ground.phase }, { on := 1, ground := Go.Ground.phase }, { on := 2, ground := Go.Ground.phase }, { on := 3, ground := Go.Ground.phase }, { on := 4, ground := Go.Ground.phase }, { on := 5, ground := Go.Ground.phase }, { on := 6, ground := Go.Ground.phase }, { on := 7, ground := Go.Ground.phase }, { on := 8, ground := Go.Ground.phase }, { on := 9, ground := Go.Ground.phase }, { on := 10, ground := Go.Ground.phase }, { on := 11, ground := Go.Ground.phase }, { on := 12, ground := Go.Ground.phase }, { on := 13, ground := Go.Ground.phase }, { on := 14, ground := Go.Ground.phase }, { on := 15, ground := Go.Ground.phase }, { on := 16, ground := Go.Ground.phase }, { on := 17, ground := Go.Ground.phase }, { on := 18, ground := Go.Ground.phase }, { on := 19, ground := Go.Ground.phase }, { on := 20, ground := Go.Ground.phase }], guard := none }) rfl (fun K hK => ?_) AllReadyK.nil
          go_simp
          refine hK.out _ _ (.inl rfl) (fun _ => ?_)
          clear hK K
          try simp only [Act.put, List.setIfInBounds_toArray, List.set_cons_zero, List.set_cons_succ]
          refine wpAnyK_done (by kernel_rfl) ?_ _
          refine NoPanic.normal ?_
          have HEND := hid (HFIN.out w8 _ b5 c5 k _ hsc5 HKE.out (by have := HKN.out; omega) hown5 rfl)
          clear hown3 hown4 hown5 hsc3 hsc4 hsc5 hb3 hb4 hb5 hg3 hg4 hg5 hHeld hs0 f5 e5 hpk5
          go_wp2
          all_goals (go_ret; exact ⟨by rw [HC.out]; first | rfl | simp, HEND.out⟩)
        · go_simp
          refine hK.out _ _ (.inr (HSA.out _ (by (repeat (first | assumption | exact ScN.start _ | apply ScN.dr | apply ScN.alloc))))) (fun hHeld => ?_)
          have hHeld := hHeld.resolve_right (by decide)
          clear hK K
          try simp only [Act.put, List.setIfInBounds_toArray, List.set_cons_zero, List.set_cons_succ]
          refine wpAnyK_ready (rs := [8]) (by kernel_rfl) (by simp) ?_
          refine AllReadyK.cons (o := { dst := some 55, op := Go.Op.call { callee := Go.Callee.builtin Go.Builtin.append, args := #[Go.Operand.tmp 48, Go.Operand.tmp 54], argTypes := #[22, 22] }, type := 22, pos := "ref.go:53", after := #[{ on := 1, ground := Go.Ground.data }, { on := 7, ground := Go.Ground.data }], guard := none }) rfl (fun K hK => ?_) AllReadyK.nil
          refine step_copy_pk rfl _ _ rfl wr.heap.size _ rfl ?ownz50 _ _ _ (ps.take k) ?hmz50 rfl ?hhz50 ?hsumz50 ?hbasez50 ?restz50
          case ownz50 => first | exact ownPk_made w6 _ (ScN.size hs6) | exact (ownPk_made w6 _ (ScN.size hs6)).alloc _ | exact ownPk_made2 w6 _ _ (ScN.size hs6)
          case hmz50 => have := HN.out; have := HKN.out; rw [List.length_take]; omega
          case hhz50 => first | exact (HHX.out _ (by (repeat (first | assumption | exact ScN.start _ | apply ScN.dr | apply ScN.alloc)))).take k | exact (.inl (by have := HN.out; have := HKN.out; exact List.take_eq_nil_iff.2 (.inl (by omega))))
          case hsumz50 => have := HKN.out; have := HNL.out; omega
          case hbasez50 => exact ScN.size (by (repeat (first | assumption | exact ScN.start _ | apply ScN.dr | apply ScN.alloc)))
          intro b3 c3 w5 hown3 hb3 hg3
          have hsc3 : ScN wr w5 := ScN.grown (by (repeat (first | assumption | exact ScN.start _ | apply ScN.dr | apply ScN.alloc))) hb3
          refine hK.out _ _ (.inr (HSA.out _ (by (repeat (first | assumption | exact ScN.start _ | apply ScN.dr | apply ScN.alloc))))) (fun hHeld => ?_)
          have hHeld := hHeld.resolve_right (by decide)
          clear hK K
          try simp only [Act.put, List.setIfInBounds_toArray, List.set_cons_zero, List.set_cons_succ]
          refine wpAnyK_ready (rs := [13]) (by kernel_rfl) (by simp) ?_
          refine AllReadyK.cons (o := { dst := some 60, op := Go.Op.call { callee := Go.Callee.builtin Go.Builtin.append, args := #[Go.Operand.tmp 55, Go.Operand.tmp 59], argTypes := #[22, 22] }, type := 22, pos := "ref.go:53", after := #[{ on := 8, ground := Go.Ground.data }, { on := 12, ground := Go.Ground.data }, { on := 8, ground := Go.Ground.chain }], guard := none }) rfl (fun K hK => ?_) AllReadyK.nil
          refine step_append_pk rfl _ _ rfl wr.heap.size _ _ (ps.take k) ?hnz51 rfl (hown3) _ 1 1 [(⟨o, s, t⟩ : PairV)] rfl rfl ?hhz51 ?hsumz51 ?hbasez51 ?restz51
          case hnz51 => have := HN.out; have := HKN.out; rw [List.length_take]; omega
          case hhz51 => exact held_grownPp (show HeldPp _ (some ⟨w6.heap.size + 1, 0, none⟩) [⟨o, s, t⟩] from HHB.out _) hg3 (by simp)
          case hsumz51 => have := HKN.out; have := HNL.out; omega
          case hbasez51 => exact ScN.size (by (repeat (first | assumption | exact ScN.start _ | apply ScN.dr | apply ScN.alloc)))
          intro b4 c4 w7 hown4 hb4 hg4
          have hsc4 : ScN wr w7 := ScN.grown (by (repeat (first | assumption | exact ScN.start _ | apply ScN.dr | apply ScN.alloc))) hb4
          refine hK.out _ _ (.inr (HSA.out _ (by (repeat (first | assumption | exact ScN.start _ | apply ScN.dr | apply ScN.alloc))))) (fun hHeld => ?_)
          have hHeld := hHeld.resolve_right (by decide)
          clear hK K
          try simp only [Act.put, List.setIfInBounds_toArray, List.set_cons_zero, List.set_cons_succ]
          refine wpAnyK_ready (rs := [20]) (by kernel_rfl) (by simp) ?_
          refine AllReadyK.cons (o := { dst := some 67, op := Go.Op.call { callee := Go.Callee.builtin Go.Builtin.append, args := #[Go.Operand.tmp 60, Go.Operand.tmp 66], argTypes := #[22, 22] }, type := 22, pos := "ref.go:53", after := #[{ on := 13, ground := Go.Ground.data }, { on := 19, ground := Go.Ground.data }, { on := 13, ground := Go.Ground.chain }], guard := none }) rfl (fun K hK => ?_) AllReadyK.nil
          refine step_append_pk rfl _ _ rfl wr.heap.size _ _ (ps.take k ++ [(⟨o, s, t⟩ : PairV)]) ?hnz52 rfl hown4 _ _ _ (ps.drop k) ?hmz52 rfl ?hhz52 ?hsumz52 ?hbasez52 ?restz52
          case hnz52 => have := HN.out; have := HKN.out; rw [List.length_append, List.length_take, List.length_singleton]; omega
          case hmz52 => have := HN.out; have := HKN.out; rw [List.length_drop]; omega
          case hhz52 => first | exact (HHX.out _ (by (repeat (first | assumption | exact ScN.start _ | apply ScN.dr | apply ScN.alloc)))).drop k | exact held_dropPp (HHX.out _ (by (repeat (first | assumption | exact ScN.start _ | apply ScN.dr | apply ScN.alloc)))) k (by have := HN.out; have := HCP.out; omega)
          case hsumz52 => have := HKN.out; have := HNL.out; omega
          case hbasez52 => exact ScN.size (by (repeat (first | assumption | exact ScN.start _ | apply ScN.dr | apply ScN.alloc)))
          intro b5 c5 w8 hown5 hb5 hg5
          have hsc5 : ScN wr w8 := ScN.grown (by (repeat (first | assumption | exact ScN.start _ | apply ScN.dr | apply ScN.alloc))) hb5
          refine hK.out _ _ (.inr (HSA.out _ (by (repeat (first | assumption | exact ScN.start _ | apply ScN.dr | apply ScN.alloc))))) (fun hHeld => ?_)
          have hHeld := hHeld.resolve_right (by decide)
          clear hK K
          try simp only [Act.put, List.setIfInBounds_toArray, List.set_cons_zero, List.set_cons_succ]
          have hpk5 := (H4.out.below hsc5.out).blk
          have f5 := hpk5.frozen 0
          have e5 := hpk5.cell (i := 0) rfl
          rw [HN.out] at e5
          refine wpAnyK_take (i := 21) (oi := { dst := some 68, op := Go.Op.nilCheck (Go.Operand.tmp 47), type := 0, pos := "ref.go:53", after := #[{ on := 0, ground := Go.Ground.data }, { on := 0, ground := Go.Ground.phase }, { on := 1, ground := Go.Ground.phase }, { on := 2, ground := Go.Ground.phase }, { on := 3, ground := Go.Ground.phase }, { on := 4, ground := Go.Ground.phase }, { on := 5, ground := Go.Ground.phase }, { on := 6, ground := Go.Ground.phase }, { on := 7, ground := Go.Ground.phase }, { on := 8, ground := Go.Ground.phase }, { on := 9, ground := Go.Ground.phase }, { on := 10, ground := Go.Ground.phase }, { on := 11, ground := Go.Ground.phase }, { on := 12, ground := Go.Ground.phase }, { on := 13, ground := Go.Ground.phase }, { on := 14, ground := Go.Ground.phase }, { on := 15, ground := Go.Ground.phase }, { on := 16, ground := Go.Ground.phase }, { on := 17, ground := Go.Ground.phase }, { on := 18, ground := Go.Ground.phase }, { on := 19, ground := Go.Ground.phase }, { on := 20, ground := Go.Ground.phase }], guard := none }) (v := ?vq53) [22] rfl (by kernel_rfl) (by kernel_rfl) (by kernel_rfl) (by kernel_rfl) (by kernel_rfl) (fun _ _ _ h => h) (Or.inl ⟨by rfl, ?hyq53⟩) (by assumption) ?restq53
          case hyq53 => (intro w0 hSw; (try dsimp only at hSw); go_simp; try with_reducible rfl)
          simp only [Act.put, List.setIfInBounds_toArray, List.set_cons_zero, List.set_cons_succ]
          refine wpAnyK_take (i := 22) (oi := { dst := some 69, op := Go.Op.fieldAddr 30 (Go.Operand.tmp 68) 0, type := 0, pos := "ref.go:53", after := #[{ on := 21, ground := Go.Ground.data }, { on := 0, ground := Go.Ground.phase }, { on := 1, ground := Go.Ground.phase }, { on := 2, ground := Go.Ground.phase }, { on := 3, ground := Go.Ground.phase }, { on := 4, ground := Go.Ground.phase }, { on := 5, ground := Go.Ground.phase }, { on := 6, ground := Go.Ground.phase }, { on := 7, ground := Go.Ground.phase }, { on := 8, ground := Go.Ground.phase }, { on := 9, ground := Go.Ground.phase }, { on := 10, ground := Go.Ground.phase }, { on := 11, ground := Go.Ground.phase }, { on := 12, ground := Go.Ground.phase }, { on := 13, ground := Go.Ground.phase }, { on := 14, ground := Go.Ground.phase }, { on := 15, ground := Go.Ground.phase }, { on := 16, ground := Go.Ground.phase }, { on := 17, ground := Go.Ground.phase }, { on := 18, ground := Go.Ground.phase }, { on := 19, ground := Go.Ground.phase }, { on := 20, ground := Go.Ground.phase }], guard := none }) (v := ?vq54) [] rfl (by kernel_rfl) (by kernel_rfl) (by kernel_rfl) (by kernel_rfl) (by kernel_rfl) (fun _ _ _ h => h) (Or.inl ⟨by rfl, ?hyq54⟩) (by assumption) ?restq54
          case hyq54 => (intro w0 hSw; (try dsimp only at hSw); go_simp; try with_reducible rfl)
          simp only [Act.put, List.setIfInBounds_toArray, List.set_cons_zero, List.set_cons_succ]
          refine wpAnyK_ready (rs := [23]) (by kernel_rfl) (by simp) ?_
          refine AllReadyK.cons (o := { dst := none, op := Go.Op.store 22 (Go.Operand.tmp 69) (Go.Operand.tmp 67), type := 0, pos := "ref.go:53", after := #[{ on := 22, ground := Go.Ground.data }, { on := 20, ground := Go.Ground.data }, { on := 20, ground := Go.Ground.chain }, { on := 0, ground := Go.Ground.phase }, { on := 1, ground := Go.Ground.phase }, { on := 2, ground := Go.Ground.phase }, { on := 3, ground := Go.Ground.phase }, { on := 4, ground := Go.Ground.phase }, { on := 5, ground := Go.Ground.phase }, { on := 6, ground := Go.Ground.phase }, { on := 7, ground := Go.Ground.phase }, { on := 8, ground := Go.Ground.phase }, { on := 9, ground := Go.Ground.phase }, { on := 10, ground := Go.Ground.phase }, { on := 11, ground := Go.Ground.phase }, { on := 12, ground := Go.Ground.phase }, { on := 13, ground := Go.Ground.phase }, { on := 14, ground := Go.Ground.phase }, { on := 15, ground := Go.Ground.phase }, { on := 16, ground := Go.Ground.phase }, { on := 17, ground := Go.Ground.phase }, { on := 18, ground := Go.Ground.phase }, { on := 19, ground := Go.Ground.phase }, { on := 20, ground := Go.Ground.phase }], guard := none }) rfl (fun K hK => ?_) AllReadyK.nil
          go_simp
          refine hK.out _ _ (.inl rfl) (fun _ => ?_)
          clear hK K
          try simp only [Act.put, List.setIfInBounds_toArray, List.set_cons_zero, List.set_cons_succ]
          refine wpAnyK_done (by kernel_rfl) ?_ _
          refine NoPanic.normal ?_
          have HEND := hid (HFIN.out w8 _ b5 c5 k _ hsc5 HKE.out (by have := HKN.out; omega) hown5 rfl)
          clear hown3 hown4 hown5 hsc3 hsc4 hsc5 hb3 hb4 hb5 hg3 hg4 hg5 hHeld hs0 f5 e5 hpk5
          go_wp2
          all_goals (go_ret; exact ⟨by rw [HC.out]; first | rfl | simp, HEND.out⟩)
      · go_simp
        refine hK.out _ _ (.inr (HSA.out _ (by (repeat (first | assumption | exact ScN.start _ | apply ScN.dr | apply ScN.alloc))))) (fun hHeld => ?_)
        have hHeld := hHeld.resolve_right (by decide)
        clear hK K
        try simp only [Act.put, List.setIfInBounds_toArray, List.set_cons_zero, List.set_cons_succ]
        refine wpAnyK_ready (rs := [1]) (by kernel_rfl) (by simp) ?_
        refine AllReadyK.cons (o := { dst := some 48, op := Go.Op.buildSlice 22 0 #[], type := 22, pos := "ref.go:53", after := #[], guard := none }) rfl (fun K hK => ?_) AllReadyK.nil
        go_simp
        refine hK.out _ _ (.inr (HSA.out _ (by (repeat (first | assumption | exact ScN.start _ | apply ScN.dr | apply ScN.alloc))))) (fun hHeld => ?_)
        have hHeld := hHeld.resolve_right (by decide)
        clear hK K
        try simp only [Act.put, List.setIfInBounds_toArray, List.set_cons_zero, List.set_cons_succ]
        refine wpAnyK_ready (rs := [8]) (by kernel_rfl) (by simp) ?_
        refine AllReadyK.cons (o := { dst := some 55, op := Go.Op.call { callee := Go.Callee.builtin Go.Builtin.append, args := #[Go.Operand.tmp 48, Go.Operand.tmp 54], argTypes := #[22, 22] }, type := 22, pos := "ref.go:53", after := #[{ on := 1, ground := Go.Ground.data }, { on := 7, ground := Go.Ground.data }], guard := none }) rfl (fun K hK => ?_) AllReadyK.nil
        refine step_copy_pk rfl _ _ rfl wr.heap.size _ rfl ?ownz59 _ _ _ (ps.take k) ?hmz59 rfl ?hhz59 ?hsumz59 ?hbasez59 ?restz59
        case ownz59 => first | exact ownPk_made w6 _ (ScN.size hs6) | exact (ownPk_made w6 _ (ScN.size hs6)).alloc _ | exact ownPk_made2 w6 _ _ (ScN.size hs6)
        case hmz59 => have := HN.out; have := HKN.out; rw [List.length_take]; omega
        case hhz59 => first | exact (HHX.out _ (by (repeat (first | assumption | exact ScN.start _ | apply ScN.dr | apply ScN.alloc)))).take k | exact (.inl (by have := HN.out; have := HKN.out; exact List.take_eq_nil_iff.2 (.inl (by omega))))
        case hsumz59 => have := HKN.out; have := HNL.out; omega
        case hbasez59 => exact ScN.size (by (repeat (first | assumption | exact ScN.start _ | apply ScN.dr | apply ScN.alloc)))
        intro b3 c3 w5 hown3 hb3 hg3
        have hsc3 : ScN wr w5 := ScN.grown (by (repeat (first | assumption | exact ScN.start _ | apply ScN.dr | apply ScN.alloc))) hb3
        refine hK.out _ _ (.inr (HSA.out _ (by (repeat (first | assumption | exact ScN.start _ | apply ScN.dr | apply ScN.alloc))))) (fun hHeld => ?_)
        have hHeld := hHeld.resolve_right (by decide)
        clear hK K
        try simp only [Act.put, List.setIfInBounds_toArray, List.set_cons_zero, List.set_cons_succ]
        refine wpAnyK_ready (rs := [13]) (by kernel_rfl) (by simp) ?_
        refine AllReadyK.cons (o := { dst := some 60, op := Go.Op.call { callee := Go.Callee.builtin Go.Builtin.append, args := #[Go.Operand.tmp 55, Go.Operand.tmp 59], argTypes := #[22, 22] }, type := 22, pos := "ref.go:53", after := #[{ on := 8, ground := Go.Ground.data }, { on := 12, ground := Go.Ground.data }, { on := 8, ground := Go.Ground.chain }], guard := none }) rfl (fun K hK => ?_) AllReadyK.nil
        refine step_append_pk rfl _ _ rfl wr.heap.size _ _ (ps.take k) ?hnz60 rfl (hown3) _ 1 1 [(⟨o, s, t⟩ : PairV)] rfl rfl ?hhz60 ?hsumz60 ?hbasez60 ?restz60
        case hnz60 => have := HN.out; have := HKN.out; rw [List.length_take]; omega
        case hhz60 => exact held_grownPp (show HeldPp _ (some ⟨w6.heap.size, 0, none⟩) [⟨o, s, t⟩] from HHA.out _) hg3 (by simp)
        case hsumz60 => have := HKN.out; have := HNL.out; omega
        case hbasez60 => exact ScN.size (by (repeat (first | assumption | exact ScN.start _ | apply ScN.dr | apply ScN.alloc)))
        intro b4 c4 w7 hown4 hb4 hg4
        have hsc4 : ScN wr w7 := ScN.grown (by (repeat (first | assumption | exact ScN.start _ | apply ScN.dr | apply ScN.alloc))) hb4
        refine hK.out _ _ (.inr (HSA.out _ (by (repeat (first | assumption | exact ScN.start _ | apply ScN.dr | apply ScN.alloc))))) (fun hHeld => ?_)
        have hHeld := hHeld.resolve_right (by decide)
        clear hK K
        try simp only [Act.put, List.setIfInBounds_toArray, List.set_cons_zero, List.set_cons_succ]
        refine wpAnyK_ready (rs := [20]) (by kernel_rfl) (by simp) ?_
        refine AllReadyK.cons (o := { dst := some 67, op := Go.Op.call { callee := Go.Callee.builtin Go.Builtin.append, args := #[Go.Operand.tmp 60, Go.Operand.tmp 66], argTypes := #[22, 22] }, type := 22, pos := "ref.go:53", after := #[{ on := 13, ground := Go.Ground.data }, { on := 19, ground := Go.Ground.data }, { on := 13, ground := Go.Ground.chain }], guard := none }) rfl (fun K hK => ?_) AllReadyK.nil
        refine step_append_pk rfl _ _ rfl wr.heap.size _ _ (ps.take k ++ [(⟨o, s, t⟩ : PairV)]) ?hnz61 rfl hown4 _ _ _ (ps.drop k) ?hmz61 rfl ?hhz61 ?hsumz61 ?hbasez61 ?restz61
        case hnz61 => have := HN.out; have := HKN.out; rw [List.length_append, List.length_take, List.length_singleton]; omega
        case hmz61 => have := HN.out; have := HKN.out; rw [List.length_drop]; omega
        case hhz61 => first | exact (HHX.out _ (by (repeat (first | assumption | exact ScN.start _ | apply ScN.dr | apply ScN.alloc)))).drop k | exact held_dropPp (HHX.out _ (by (repeat (first | assumption | exact ScN.start _ | apply ScN.dr | apply ScN.alloc)))) k (by have := HN.out; have := HCP.out; omega)
        case hsumz61 => have := HKN.out; have := HNL.out; omega
        case hbasez61 => exact ScN.size (by (repeat (first | assumption | exact ScN.start _ | apply ScN.dr | apply ScN.alloc)))
        intro b5 c5 w8 hown5 hb5 hg5
        have hsc5 : ScN wr w8 := ScN.grown (by (repeat (first | assumption | exact ScN.start _ | apply ScN.dr | apply ScN.alloc))) hb5
        refine hK.out _ _ (.inr (HSA.out _ (by (repeat (first | assumption | exact ScN.start _ | apply ScN.dr | apply ScN.alloc))))) (fun hHeld => ?_)
        have hHeld := hHeld.resolve_right (by decide)
        clear hK K
        try simp only [Act.put, List.setIfInBounds_toArray, List.set_cons_zero, List.set_cons_succ]
        have hpk5 := (H4.out.below hsc5.out).blk
        have f5 := hpk5.frozen 0
        have e5 := hpk5.cell (i := 0) rfl
        rw [HN.out] at e5
        refine wpAnyK_take (i := 21) (oi := { dst := some 68, op := Go.Op.nilCheck (Go.Operand.tmp 47), type := 0, pos := "ref.go:53", after := #[{ on := 0, ground := Go.Ground.data }, { on := 0, ground := Go.Ground.phase }, { on := 1, ground := Go.Ground.phase }, { on := 2, ground := Go.Ground.phase }, { on := 3, ground := Go.Ground.phase }, { on := 4, ground := Go.Ground.phase }, { on := 5, ground := Go.Ground.phase }, { on := 6, ground := Go.Ground.phase }, { on := 7, ground := Go.Ground.phase }, { on := 8, ground := Go.Ground.phase }, { on := 9, ground := Go.Ground.phase }, { on := 10, ground := Go.Ground.phase }, { on := 11, ground := Go.Ground.phase }, { on := 12, ground := Go.Ground.phase }, { on := 13, ground := Go.Ground.phase }, { on := 14, ground := Go.Ground.phase }, { on := 15, ground := Go.Ground.phase }, { on := 16, ground := Go.Ground.phase }, { on := 17, ground := Go.Ground.phase }, { on := 18, ground := Go.Ground.phase }, { on := 19, ground := Go.Ground.phase }, { on := 20, ground := Go.Ground.phase }], guard := none }) (v := ?vq62) [22] rfl (by kernel_rfl) (by kernel_rfl) (by kernel_rfl) (by kernel_rfl) (by kernel_rfl) (fun _ _ _ h => h) (Or.inl ⟨by rfl, ?hyq62⟩) (by assumption) ?restq62
        case hyq62 => (intro w0 hSw; (try dsimp only at hSw); go_simp; try with_reducible rfl)
        simp only [Act.put, List.setIfInBounds_toArray, List.set_cons_zero, List.set_cons_succ]
        refine wpAnyK_take (i := 22) (oi := { dst := some 69, op := Go.Op.fieldAddr 30 (Go.Operand.tmp 68) 0, type := 0, pos := "ref.go:53", after := #[{ on := 21, ground := Go.Ground.data }, { on := 0, ground := Go.Ground.phase }, { on := 1, ground := Go.Ground.phase }, { on := 2, ground := Go.Ground.phase }, { on := 3, ground := Go.Ground.phase }, { on := 4, ground := Go.Ground.phase }, { on := 5, ground := Go.Ground.phase }, { on := 6, ground := Go.Ground.phase }, { on := 7, ground := Go.Ground.phase }, { on := 8, ground := Go.Ground.phase }, { on := 9, ground := Go.Ground.phase }, { on := 10, ground := Go.Ground.phase }, { on := 11, ground := Go.Ground.phase }, { on := 12, ground := Go.Ground.phase }, { on := 13, ground := Go.Ground.phase }, { on := 14, ground := Go.Ground.phase }, { on := 15, ground := Go.Ground.phase }, { on := 16, ground := Go.Ground.phase }, { on := 17, ground := Go.Ground.phase }, { on := 18, ground := Go.Ground.phase }, { on := 19, ground := Go.Ground.phase }, { on := 20, ground := Go.Ground.phase }], guard := none }) (v := ?vq63) [] rfl (by kernel_rfl) (by kernel_rfl) (by kernel_rfl) (by kernel_rfl) (by kernel_rfl) (fun _ _ _ h => h) (Or.inl ⟨by rfl, ?hyq63⟩) (by assumption) ?restq63
        case hyq63 => (intro w0 hSw; (try dsimp only at hSw); go_simp; try with_reducible rfl)
        simp only [Act.put, List.setIfInBounds_toArray, List.set_cons_zero, List.set_cons_succ]
        refine wpAnyK_ready (rs := [23]) (by kernel_rfl) (by simp) ?_
        refine AllReadyK.cons (o := { dst := none, op := Go.Op.store 22 (Go.Operand.tmp 69) (Go.Operand.tmp 67), type := 0, pos := "ref.go:53", after := #[{ on := 22, ground := Go.Ground.data }, { on := 20, ground := Go.Ground.data }, { on := 20, ground := Go.Ground.chain }, { on := 0, ground := Go.Ground.phase }, { on := 1, ground := Go.Ground.phase }, { on := 2, ground := Go.Ground.phase }, { on := 3, ground := Go.Ground.phase }, { on := 4, ground := Go.Ground.phase }, { on := 5, ground := Go.Ground.phase }, { on := 6, ground := Go.Ground.phase }, { on := 7, ground := Go.Ground.phase }, { on := 8, ground := Go.Ground.phase }, { on := 9, ground := Go.Ground.phase }, { on := 10, ground := Go.Ground.phase }, { on := 11, ground := Go.Ground.phase }, { on := 12, ground := Go.Ground.phase }, { on := 13, ground := Go.Ground.phase }, { on := 14, ground := Go.Ground.phase }, { on := 15, ground := Go.Ground.phase }, { on := 16, ground := Go.Ground.phase }, { on := 17, ground := Go.Ground.phase }, { on := 18, ground := Go.Ground.phase }, { on := 19, ground := Go.Ground.phase }, { on := 20, ground := Go.Ground.phase }], guard := none }) rfl (fun K hK => ?_) AllReadyK.nil
        go_simp
        refine hK.out _ _ (.inl rfl) (fun _ => ?_)
        clear hK K
        try simp only [Act.put, List.setIfInBounds_toArray, List.set_cons_zero, List.set_cons_succ]
        refine wpAnyK_done (by kernel_rfl) ?_ _
        refine NoPanic.normal ?_
        have HEND := hid (HFIN.out w8 _ b5 c5 k _ hsc5 HKE.out (by have := HKN.out; omega) hown5 rfl)
        clear hown3 hown4 hown5 hsc3 hsc4 hsc5 hb3 hb4 hb5 hg3 hg4 hg5 hHeld hs0 f5 e5 hpk5
        go_wp2
        all_goals (go_ret; exact ⟨by rw [HC.out]; first | rfl | simp, HEND.out⟩)
end Go.Proofs.Ytplecopphddjhaa
