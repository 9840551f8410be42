/-
  The document's disk: put, at the end.
-/
import Derived.Test.YtjfohnkfcfifeaaRxC
namespace Go.Proofs.Ytjfohnkfcfifeaa
open Go.RowKit Go.Maps
set_option linter.unusedSimpArgs false
set_option maxRecDepth 1000000 in
set_option maxHeartbeats 40000000 in
theorem XdAt.putEnd {w : World} {B x : Nat} {size : Int} {g : Xd} {eo : Option Addr} {cap : Nat} (h : XdAt w B x size g eo cap) (hB : B ≤ w.heap.size) (fn fb : ByteArray) (fs : Int) (hl : g.L.length < 64) (hroom : (rtotal g.L : Int) + fb.size ≤ size) {b off : Nat} (hao : eo = some ⟨b, off, none⟩) (hpos : rpos g.L fn = g.L.length) : Calls Try.prog 51 #[.pointer (some ⟨x, 0, none⟩), .agg #[.string fn, .string fb, .int .i64 fs]] w fun e w' => e = .returned (.tuple #[]) ∧ XdTo B w w' x size (FootZ x eo g.L.length cap) (putX g ⟨fn, fb, fs⟩) := by
  have HAO := hid hao
  have H := hid h
  have HBB := hid hB
  have HPO := hid hpos
  have HRM := hid hroom
  obtain ⟨n, HN⟩ : ∃ n, Hid (g.L.length = n) := ⟨_, hid rfl⟩
  have HNL : Hid (n < 64) := by rw [← HN.out]; exact hl
  have HCP : Hid (n ≤ cap) := by rw [← HN.out]; exact h.held.2
  obtain ⟨W1, hW1⟩ : ∃ V, V = w.alloc (.cells #[.string fn, .string fb, .int .i64 fs] 47) := ⟨_, rfl⟩
  have hb1 : Below w.heap.size w W1 := by rw [hW1]; exact (Below.refl _ _).alloc (Nat.le_refl _) _
  obtain ⟨pb, hpb⟩ : ∃ q, q = w.heap.size := ⟨_, rfl⟩
  have HK : Hid (Blk W1 pb 47 [.string fn, .string fb, .int .i64 fs]) := by rw [hW1, hpb]; exact Blk.new _ _ _
  have HB1 := hid hb1
  have HPB := hid hpb
  have HW1 := hid hW1
  clear h hB hb1 hpb hW1 hpos hl hroom hao
  go_enter Try.func51, Try.ntmps51
  go_wp2
  rw [← HW1.out, ← HPB.out]
  go_loopw [4] (fun i wr => ∃ k : Nat, k ≤ n ∧ i = .int .i64 k ∧ Hid (AheadF g.L fn k) ∧ Hid (Below W1.heap.size W1 wr)) (fun i _ => n - (intOf i).toNat)
  case atStart => exact ⟨0, Nat.zero_le _, rfl, fun j _ h => (by omega), Below.refl _ _⟩
  case round =>
    obtain ⟨k, hk, rfl, HLO, HBR⟩ := hrel
    have HB4 := hid (btN HB1.out HBR.out)
    have H4 := hid (H.out.below HB4.out)
    have HK4 := hid (HK.out.below HBR.out HK.out.lt)
    have HKN : Hid (k ≤ n) := hk
    have e0 := H4.out.blk.cell (i := 1) rfl
    rw [HN.out] at e0
    have k0 := HK4.out.cell (i := 0) rfl
    have hk0 : (0 : Int) ≤ (k : Int) := by omega
    have hkn : (k : Int) ≤ (n : Int) := by omega
    have hkc : (k : Int) ≤ (cap : Int) := by have := HCP.out; omega
    have hnc : (n : Int) ≤ (cap : Int) := by have := HCP.out; omega
    have HFIN : Hid (∀ w5 W bo cp k r, ScN wr w5 → k = rpos g.L fn → r = n + 1 → w5.ownsRow wr.heap.size 47 3 (.slice bo r cp) r (flatR (insF g.L k ⟨fn, fb, fs⟩)) → W = w5.setCell ⟨x, 1, none⟩ (.slice bo r cp) → XdTo B w W x size (FootZ x eo g.L.length cap) (putX g ⟨fn, fb, fs⟩)) := fun w5 W bo cp k r e1 e2 e3 e4 e5 => by
      subst e2
      have hlen := insF_len (rpos_le g.L fn) (⟨fn, fb, fs⟩ : Rf)
      have h9 := HNL.out
      have h8 := HN.out
      refine xd_new H.out HBB.out (insF g.L (rpos g.L fn) ⟨fn, fb, fs⟩) (by rw [hlen, e3, h8]) (by omega) ?_ HB4.out e1 e4 e5
      rw [rtotal_ins]
      have := HRM.out
      show ((rtotal g.L + fb.size : Nat) : Int) ≤ size
      omega
    have HH3 : Hid (∀ V : World, HeldFr (V.alloc (.cells #[.string fn, .string fb, .int .i64 fs] 47)) (some ⟨V.heap.size, 0, none⟩) [⟨fn, fb, fs⟩]) := fun V => held_newFr V ⟨fn, fb, fs⟩
    have HHX : Hid (∀ V, ScN wr V → HeldFr V eo g.L) := fun V hV => (H4.out.below hV.out).held.1
    have HHA : Hid (∀ V : World, HeldFr ((V.alloc (.cells #[.string fn, .string fb, .int .i64 fs] 47)).alloc (.cells #[] 47)).drew (some ⟨V.heap.size, 0, none⟩) [⟨fn, fb, fs⟩]) := fun V => (HH3.out V).below (((Below.refl _ (V.alloc (.cells #[.string fn, .string fb, .int .i64 fs] 47))).alloc (Nat.le_refl _) (.cells #[] 47)).drew)
    have HHB : Hid (∀ V : World, HeldFr ((V.alloc (.cells #[] 47)).alloc (.cells #[.string fn, .string fb, .int .i64 fs] 47)).drew (some ⟨V.heap.size + 1, 0, none⟩) [⟨fn, fb, fs⟩]) := fun V => by
      have h1 := HH3.out (V.alloc (.cells #[] 47))
      rw [World.size_alloc] at h1
      exact h1.below (Below.refl _ _).drew
    have HSA : Hid (∀ V, ScN wr V → (ScN wr V ∧ V.cell? ⟨x, 1, none⟩ = some (.slice eo n cap) ∧ V.cell? ⟨pb, 0, none⟩ = some (.string fn) ∧ V.cell? ⟨pb, 1, none⟩ = some (.string fb) ∧ V.cell? ⟨pb, 2, none⟩ = some (.int .i64 fs))) := fun V hV => by
      have h1 := (H4.out.below hV.out).blk.cell (i := 1) rfl
      rw [HN.out] at h1
      have h2 := HK4.out.below hV.out HK4.out.lt
      exact ⟨hV, h1, h2.cell rfl, h2.cell rfl, h2.cell rfl⟩
    have HDR : Hid (∀ q, ScN wr (wr.drewN q)) := fun q => ⟨below_dnX (Below.refl _ _) q⟩
    by_cases hlt : k < n
    · have hltn : (k : Int) < (n : Int) := by omega
      have hltd : decide ((k : Int) < (n : Int)) = true := decide_eq_true (by omega)
      have hlte : decide (k < n) = true := decide_eq_true hlt
      have HKX : Hid (k < g.L.length) := by rw [HN.out]; exact hlt
      have HKM : Hid (k + 1 ≤ n) := (by omega : k + 1 ≤ n)
      have hwk : wrap64 ((k : Int) + 1) = (k : Int) + 1 := wrapN (by omega) (by have := HNL.out; omega)
      obtain ⟨b1, off1, hao', hbl, d0, d1, d2⟩ := H4.out.held.1.cellsD HKX.out
      obtain ⟨⟨qn, qb, qs⟩, HQ⟩ : ∃ z, Hid (g.L[k]'HKX.out = z) := ⟨_, hid rfl⟩
      rw [HQ.out] at d0
      simp only at d0
      subst hao'
      clear d1 d2
      by_cases hls : lessB qn fn = true
      · have HNX : Hid (AheadF g.L fn (k + 1)) := fun j hj hjk => by
          by_cases e : j = k
          · subst e; rw [HQ.out]; exact hls
          · exact HLO.out j hj (by omega)
        have hbl2 : Op.bytesLess qn.toList fn.toList = true := hls
        clear hls hlt hk
        go_wp2
        go_quiet (fail)
        go_wp2
        go_roundw
        case rel => exact ⟨k + 1, HKM.out, by go_num, HNX.out, below_dnX HBR.out _⟩
        case measure => first | exact measNW HKM.out hwk | exact measN1 HKM.out
      · exfalso
        have h1 := rpos_at HKX.out HLO.out (by rw [HQ.out]; simpa using hls)
        have h2 := HPO.out
        have h3 := HKX.out
        omega
    · have hltn : ¬ (k : Int) < (n : Int) := by omega
      have hltd : decide ((k : Int) < (n : Int)) = false := decide_eq_false (by omega)
      have hlte : decide (k < n) = false := decide_eq_false hlt
      have HKE : Hid (k = rpos g.L fn) := by
        have h1 : k = g.L.length := by have := HN.out; omega
        show _ = _
        rw [h1]
        exact rpos_end (by rw [← h1]; exact HLO.out)
      clear hlt hk
      go_wp2
      go_quiet (fail)
      go_wp2
      obtain ⟨w6, hw6⟩ : ∃ V, V = wr.drewN nq := ⟨_, rfl⟩
      rw [← hw6]
      have hs6 : ScN wr w6 := by rw [hw6]; exact HDR.out nq
      clear hw6 e0 k0
      have hao := HAO.out
      subst hao
      refine wp_region_noPanic ?_
      refine wp_region_K 21 (fun V => ScN wr V ∧ V.cell? ⟨x, 1, none⟩ = some (.slice (some ⟨b, off, none⟩) n cap) ∧ V.cell? ⟨pb, 0, none⟩ = some (.string fn) ∧ V.cell? ⟨pb, 1, none⟩ = some (.string fb) ∧ V.cell? ⟨pb, 2, none⟩ = some (.int .i64 fs)) (by kernel_rfl) (HSA.out _ hs6.dr) (fun hHeld => ?_)
      have hs0 := hs6.dr
      refine wpAnyK_take (i := 0) (oi := { dst := some 27, op := Go.Op.move (Go.Operand.tmp 0), type := 27, pos := "ref.go:67", after := #[], guard := none }) (v := ?vq32) [] rfl (by kernel_rfl) (by kernel_rfl) (by kernel_rfl) (by kernel_rfl) (by kernel_rfl) (fun _ _ _ h => h) (Or.inl ⟨by rfl, ?hyq32⟩) (by assumption) ?restq32
      case hyq32 => (intro w0 hSw; (try dsimp only at hSw); go_simp; try with_reducible rfl)
      simp only [Act.put, List.setIfInBounds_toArray, List.set_cons_zero, List.set_cons_succ]
      refine wpAnyK_take (i := 2) (oi := { dst := some 29, op := Go.Op.move (Go.Operand.tmp 0), type := 27, pos := "ref.go:67", after := #[], guard := none }) (v := ?vq33) [] rfl (by kernel_rfl) (by kernel_rfl) (by kernel_rfl) (by kernel_rfl) (by kernel_rfl) (fun _ _ _ h => h) (Or.inl ⟨by rfl, ?hyq33⟩) (by assumption) ?restq33
      case hyq33 => (intro w0 hSw; (try dsimp only at hSw); go_simp; try with_reducible rfl)
      simp only [Act.put, List.setIfInBounds_toArray, List.set_cons_zero, List.set_cons_succ]
      refine wpAnyK_take (i := 3) (oi := { dst := some 30, op := Go.Op.nilCheck (Go.Operand.tmp 29), type := 0, pos := "ref.go:67", after := #[{ on := 2, ground := Go.Ground.data }], guard := none }) (v := ?vq34) [] rfl (by kernel_rfl) (by kernel_rfl) (by kernel_rfl) (by kernel_rfl) (by kernel_rfl) (fun _ _ _ h => h) (Or.inl ⟨by rfl, ?hyq34⟩) (by assumption) ?restq34
      case hyq34 => (intro w0 hSw; (try dsimp only at hSw); go_simp; try with_reducible rfl)
      simp only [Act.put, List.setIfInBounds_toArray, List.set_cons_zero, List.set_cons_succ]
      refine wpAnyK_take (i := 4) (oi := { dst := some 31, op := Go.Op.fieldAddr 43 (Go.Operand.tmp 30) 1, type := 0, pos := "ref.go:67", after := #[{ on := 3, ground := Go.Ground.data }], guard := none }) (v := ?vq35) [] rfl (by kernel_rfl) (by kernel_rfl) (by kernel_rfl) (by kernel_rfl) (by kernel_rfl) (fun _ _ _ h => h) (Or.inl ⟨by rfl, ?hyq35⟩) (by assumption) ?restq35
      case hyq35 => (intro w0 hSw; (try dsimp only at hSw); go_simp; try with_reducible rfl)
      simp only [Act.put, List.setIfInBounds_toArray, List.set_cons_zero, List.set_cons_succ]
      refine wpAnyK_take (i := 5) (oi := { dst := some 32, op := Go.Op.load 41 (Go.Operand.tmp 31), type := 41, pos := "ref.go:67", after := #[{ on := 4, ground := Go.Ground.data }], guard := none }) (v := ?vq36) [] rfl (by kernel_rfl) (by kernel_rfl) (by kernel_rfl) (by kernel_rfl) (by kernel_rfl) (fun _ _ _ h => h) (Or.inl ⟨by rfl, ?hyq36⟩) (by assumption) ?restq36
      case hyq36 => (intro w0 hSw; (try dsimp only at hSw); go_simp; try with_reducible rfl)
      simp only [Act.put, List.setIfInBounds_toArray, List.set_cons_zero, List.set_cons_succ]
      refine wpAnyK_take (i := 6) (oi := { dst := some 33, op := Go.Op.move (Go.Operand.tmp 4), type := 3, pos := "ref.go:67", after := #[], guard := none }) (v := ?vq37) [] rfl (by kernel_rfl) (by kernel_rfl) (by kernel_rfl) (by kernel_rfl) (by kernel_rfl) (fun _ _ _ h => h) (Or.inl ⟨by rfl, ?hyq37⟩) (by assumption) ?restq37
      case hyq37 => (intro w0 hSw; (try dsimp only at hSw); go_simp; try with_reducible rfl)
      simp only [Act.put, List.setIfInBounds_toArray, List.set_cons_zero, List.set_cons_succ]
      refine wpAnyK_take (i := 7) (oi := { dst := some 34, op := Go.Op.slice 41 (Go.Operand.tmp 32) none (some (Go.Operand.tmp 33)) none, type := 41, pos := "ref.go:67", after := #[{ on := 5, ground := Go.Ground.data }, { on := 6, ground := Go.Ground.data }], guard := none }) (v := ?vq38) [] rfl (by kernel_rfl) (by kernel_rfl) (by kernel_rfl) (by kernel_rfl) (by kernel_rfl) (fun _ _ _ h => h) (Or.inl ⟨by rfl, ?hyq38⟩) (by assumption) ?restq38
      case hyq38 => (intro w0 hSw; (try dsimp only at hSw); go_simp; try with_reducible rfl)
      simp only [Act.put, List.setIfInBounds_toArray, List.set_cons_zero, List.set_cons_succ]
      refine wpAnyK_take (i := 9) (oi := { dst := some 36, op := Go.Op.load 47 (Go.Operand.tmp 3), type := 47, pos := "ref.go:67", after := #[], guard := none }) (v := ?vq39) [] rfl (by kernel_rfl) (by kernel_rfl) (by kernel_rfl) (by kernel_rfl) (by kernel_rfl) (fun _ _ _ h => h) (Or.inl ⟨by rfl, ?hyq39⟩) (by assumption) ?restq39
      case hyq39 => (intro w0 hSw; (try dsimp only at hSw); go_simp; try with_reducible rfl)
      simp only [Act.put, List.setIfInBounds_toArray, List.set_cons_zero, List.set_cons_succ]
      refine wpAnyK_take (i := 12) (oi := { dst := some 39, op := Go.Op.move (Go.Operand.tmp 0), type := 27, pos := "ref.go:67", after := #[], guard := none }) (v := ?vq40) [] rfl (by kernel_rfl) (by kernel_rfl) (by kernel_rfl) (by kernel_rfl) (by kernel_rfl) (fun _ _ _ h => h) (Or.inl ⟨by rfl, ?hyq40⟩) (by assumption) ?restq40
      case hyq40 => (intro w0 hSw; (try dsimp only at hSw); go_simp; try with_reducible rfl)
      simp only [Act.put, List.setIfInBounds_toArray, List.set_cons_zero, List.set_cons_succ]
      refine wpAnyK_take (i := 13) (oi := { dst := some 40, op := Go.Op.nilCheck (Go.Operand.tmp 39), type := 0, pos := "ref.go:67", after := #[{ on := 12, ground := Go.Ground.data }], guard := none }) (v := ?vq41) [] rfl (by kernel_rfl) (by kernel_rfl) (by kernel_rfl) (by kernel_rfl) (by kernel_rfl) (fun _ _ _ h => h) (Or.inl ⟨by rfl, ?hyq41⟩) (by assumption) ?restq41
      case hyq41 => (intro w0 hSw; (try dsimp only at hSw); go_simp; try with_reducible rfl)
      simp only [Act.put, List.setIfInBounds_toArray, List.set_cons_zero, List.set_cons_succ]
      refine wpAnyK_take (i := 14) (oi := { dst := some 41, op := Go.Op.fieldAddr 43 (Go.Operand.tmp 40) 1, type := 0, pos := "ref.go:67", after := #[{ on := 13, ground := Go.Ground.data }], guard := none }) (v := ?vq42) [] rfl (by kernel_rfl) (by kernel_rfl) (by kernel_rfl) (by kernel_rfl) (by kernel_rfl) (fun _ _ _ h => h) (Or.inl ⟨by rfl, ?hyq42⟩) (by assumption) ?restq42
      case hyq42 => (intro w0 hSw; (try dsimp only at hSw); go_simp; try with_reducible rfl)
      simp only [Act.put, List.setIfInBounds_toArray, List.set_cons_zero, List.set_cons_succ]
      refine wpAnyK_take (i := 15) (oi := { dst := some 42, op := Go.Op.load 41 (Go.Operand.tmp 41), type := 41, pos := "ref.go:67", after := #[{ on := 14, ground := Go.Ground.data }], guard := none }) (v := ?vq43) [] rfl (by kernel_rfl) (by kernel_rfl) (by kernel_rfl) (by kernel_rfl) (by kernel_rfl) (fun _ _ _ h => h) (Or.inl ⟨by rfl, ?hyq43⟩) (by assumption) ?restq43
      case hyq43 => (intro w0 hSw; (try dsimp only at hSw); go_simp; try with_reducible rfl)
      simp only [Act.put, List.setIfInBounds_toArray, List.set_cons_zero, List.set_cons_succ]
      refine wpAnyK_take (i := 16) (oi := { dst := some 43, op := Go.Op.move (Go.Operand.tmp 4), type := 3, pos := "ref.go:67", after := #[], guard := none }) (v := ?vq44) [] rfl (by kernel_rfl) (by kernel_rfl) (by kernel_rfl) (by kernel_rfl) (by kernel_rfl) (fun _ _ _ h => h) (Or.inl ⟨by rfl, ?hyq44⟩) (by assumption) ?restq44
      case hyq44 => (intro w0 hSw; (try dsimp only at hSw); go_simp; try with_reducible rfl)
      simp only [Act.put, List.setIfInBounds_toArray, List.set_cons_zero, List.set_cons_succ]
      refine wpAnyK_take (i := 17) (oi := { dst := some 44, op := Go.Op.slice 41 (Go.Operand.tmp 42) (some (Go.Operand.tmp 43)) none none, type := 41, pos := "ref.go:67", after := #[{ on := 15, ground := Go.Ground.data }, { on := 16, ground := Go.Ground.data }], guard := none }) (v := ?vq45) [] rfl (by kernel_rfl) (by kernel_rfl) (by kernel_rfl) (by kernel_rfl) (by kernel_rfl) (fun _ _ _ h => h) (Or.inl ⟨by rfl, ?hyq45⟩) (by assumption) ?restq45
      case hyq45 => (intro w0 hSw; (try dsimp only at hSw); go_simp; try with_reducible rfl)
      simp only [Act.put, List.setIfInBounds_toArray, List.set_cons_zero, List.set_cons_succ]
      refine wpAnyK_ready (rs := [1, 10]) (by kernel_rfl) (by simp) ?_
      refine AllReadyK.cons (o := { dst := some 28, op := Go.Op.buildSlice 41 0 #[], type := 41, pos := "ref.go:67", after := #[], guard := none }) rfl (fun K hK => ?_) (AllReadyK.cons (o := { dst := some 37, op := Go.Op.buildSlice 41 1 #[(0, Go.Operand.tmp 36)], type := 41, pos := "ref.go:67", after := #[{ on := 9, ground := Go.Ground.data }], guard := none }) rfl (fun K hK => ?_) AllReadyK.nil)
      · go_simp
        refine hK.out _ _ (.inr (HSA.out _ (by (repeat (first | assumption | exact ScN.start _ | apply ScN.dr | apply ScN.alloc))))) (fun hHeld => ?_)
        have hHeld := hHeld.resolve_right (by decide)
        clear hK K
        try simp only [Act.put, List.setIfInBounds_toArray, List.set_cons_zero, List.set_cons_succ]
        refine wpAnyK_ready (rs := [8, 10]) (by kernel_rfl) (by simp) ?_
        refine AllReadyK.cons (o := { dst := some 35, op := Go.Op.call { callee := Go.Callee.builtin Go.Builtin.append, args := #[Go.Operand.tmp 28, Go.Operand.tmp 34], argTypes := #[41, 41] }, type := 41, pos := "ref.go:67", after := #[{ on := 1, ground := Go.Ground.data }, { on := 7, ground := Go.Ground.data }], guard := none }) rfl (fun K hK => ?_) (AllReadyK.cons (o := { dst := some 37, op := Go.Op.buildSlice 41 1 #[(0, Go.Operand.tmp 36)], type := 41, pos := "ref.go:67", after := #[{ on := 9, ground := Go.Ground.data }], guard := none }) rfl (fun K hK => ?_) AllReadyK.nil)
        · refine step_copy_fr rfl _ _ rfl wr.heap.size _ rfl ?ownz60 _ _ _ (g.L.take k) ?hmz60 rfl ?hhz60 ?hsumz60 ?hbasez60 ?restz60
          case ownz60 => first | exact ownFr_made w6 _ (ScN.size hs6) | exact (ownFr_made w6 _ (ScN.size hs6)).alloc _ | exact ownFr_made2 w6 _ _ (ScN.size hs6)
          case hmz60 => have := HN.out; have := HKN.out; rw [List.length_take]; omega
          case hhz60 => first | exact (HHX.out _ (by (repeat (first | assumption | exact ScN.start _ | apply ScN.dr | apply ScN.alloc)))).take k | exact (.inl (by have := HN.out; have := HKN.out; exact List.take_eq_nil_iff.2 (.inl (by omega))))
          case hsumz60 => have := HKN.out; have := HNL.out; omega
          case hbasez60 => exact ScN.size (by (repeat (first | assumption | exact ScN.start _ | apply ScN.dr | apply ScN.alloc)))
          intro b3 c3 w5 hown3 hb3 hg3
          have hsc3 : ScN wr w5 := ScN.grown (by (repeat (first | assumption | exact ScN.start _ | apply ScN.dr | apply ScN.alloc))) hb3
          refine hK.out _ _ (.inr (HSA.out _ (by (repeat (first | assumption | exact ScN.start _ | apply ScN.dr | apply ScN.alloc))))) (fun hHeld => ?_)
          have hHeld := hHeld.resolve_right (by decide)
          clear hK K
          try simp only [Act.put, List.setIfInBounds_toArray, List.set_cons_zero, List.set_cons_succ]
          refine wpAnyK_ready (rs := [10]) (by kernel_rfl) (by simp) ?_
          refine AllReadyK.cons (o := { dst := some 37, op := Go.Op.buildSlice 41 1 #[(0, Go.Operand.tmp 36)], type := 41, pos := "ref.go:67", after := #[{ on := 9, ground := Go.Ground.data }], guard := none }) rfl (fun K hK => ?_) AllReadyK.nil
          go_simp
          refine hK.out _ _ (.inr (HSA.out _ (by (repeat (first | assumption | exact ScN.start _ | apply ScN.dr | apply ScN.alloc))))) (fun hHeld => ?_)
          have hHeld := hHeld.resolve_right (by decide)
          clear hK K
          try simp only [Act.put, List.setIfInBounds_toArray, List.set_cons_zero, List.set_cons_succ]
          refine wpAnyK_ready (rs := [11]) (by kernel_rfl) (by simp) ?_
          refine AllReadyK.cons (o := { dst := some 38, op := Go.Op.call { callee := Go.Callee.builtin Go.Builtin.append, args := #[Go.Operand.tmp 35, Go.Operand.tmp 37], argTypes := #[41, 41] }, type := 41, pos := "ref.go:67", after := #[{ on := 8, ground := Go.Ground.data }, { on := 10, ground := Go.Ground.data }, { on := 8, ground := Go.Ground.chain }], guard := none }) rfl (fun K hK => ?_) AllReadyK.nil
          refine step_append_fr rfl _ _ rfl wr.heap.size _ _ (g.L.take k) ?hnz51 rfl (hown3.alloc _) _ 1 1 [(⟨fn, fb, fs⟩ : Rf)] rfl rfl ?hhz51 ?hsumz51 ?hbasez51 ?restz51
          case hnz51 => have := HN.out; have := HKN.out; rw [List.length_take]; omega
          case hhz51 => exact HH3.out _
          case hsumz51 => have := HKN.out; have := HNL.out; omega
          case hbasez51 => exact ScN.size (by (repeat (first | assumption | exact ScN.start _ | apply ScN.dr | apply ScN.alloc)))
          intro b4 c4 w7 hown4 hb4 hg4
          have hsc4 : ScN wr w7 := ScN.grown (by (repeat (first | assumption | exact ScN.start _ | apply ScN.dr | apply ScN.alloc))) hb4
          refine hK.out _ _ (.inr (HSA.out _ (by (repeat (first | assumption | exact ScN.start _ | apply ScN.dr | apply ScN.alloc))))) (fun hHeld => ?_)
          have hHeld := hHeld.resolve_right (by decide)
          clear hK K
          try simp only [Act.put, List.setIfInBounds_toArray, List.set_cons_zero, List.set_cons_succ]
          refine wpAnyK_ready (rs := [18]) (by kernel_rfl) (by simp) ?_
          refine AllReadyK.cons (o := { dst := some 45, op := Go.Op.call { callee := Go.Callee.builtin Go.Builtin.append, args := #[Go.Operand.tmp 38, Go.Operand.tmp 44], argTypes := #[41, 41] }, type := 41, pos := "ref.go:67", after := #[{ on := 11, ground := Go.Ground.data }, { on := 17, ground := Go.Ground.data }, { on := 11, ground := Go.Ground.chain }], guard := none }) rfl (fun K hK => ?_) AllReadyK.nil
          refine step_append_fr rfl _ _ rfl wr.heap.size _ _ (g.L.take k ++ [(⟨fn, fb, fs⟩ : Rf)]) ?hnz52 rfl hown4 _ _ _ (g.L.drop k) ?hmz52 rfl ?hhz52 ?hsumz52 ?hbasez52 ?restz52
          case hnz52 => have := HN.out; have := HKN.out; rw [List.length_append, List.length_take, List.length_singleton]; omega
          case hmz52 => have := HN.out; have := HKN.out; rw [List.length_drop]; omega
          case hhz52 => first | exact (HHX.out _ (by (repeat (first | assumption | exact ScN.start _ | apply ScN.dr | apply ScN.alloc)))).drop k | exact held_dropFr (HHX.out _ (by (repeat (first | assumption | exact ScN.start _ | apply ScN.dr | apply ScN.alloc)))) k (by have := HN.out; have := HCP.out; omega)
          case hsumz52 => have := HKN.out; have := HNL.out; omega
          case hbasez52 => exact ScN.size (by (repeat (first | assumption | exact ScN.start _ | apply ScN.dr | apply ScN.alloc)))
          intro b5 c5 w8 hown5 hb5 hg5
          have hsc5 : ScN wr w8 := ScN.grown (by (repeat (first | assumption | exact ScN.start _ | apply ScN.dr | apply ScN.alloc))) hb5
          refine hK.out _ _ (.inr (HSA.out _ (by (repeat (first | assumption | exact ScN.start _ | apply ScN.dr | apply ScN.alloc))))) (fun hHeld => ?_)
          have hHeld := hHeld.resolve_right (by decide)
          clear hK K
          try simp only [Act.put, List.setIfInBounds_toArray, List.set_cons_zero, List.set_cons_succ]
          have hpk5 := (H4.out.below hsc5.out).blk
          have f5 := hpk5.frozen 1
          have e5 := hpk5.cell (i := 1) rfl
          rw [HN.out] at e5
          refine wpAnyK_take (i := 19) (oi := { dst := some 46, op := Go.Op.nilCheck (Go.Operand.tmp 27), type := 0, pos := "ref.go:67", after := #[{ on := 0, ground := Go.Ground.data }, { on := 0, ground := Go.Ground.phase }, { on := 1, ground := Go.Ground.phase }, { on := 2, ground := Go.Ground.phase }, { on := 3, ground := Go.Ground.phase }, { on := 4, ground := Go.Ground.phase }, { on := 5, ground := Go.Ground.phase }, { on := 6, ground := Go.Ground.phase }, { on := 7, ground := Go.Ground.phase }, { on := 8, ground := Go.Ground.phase }, { on := 9, ground := Go.Ground.phase }, { on := 10, ground := Go.Ground.phase }, { on := 11, ground := Go.Ground.phase }, { on := 12, ground := Go.Ground.phase }, { on := 13, ground := Go.Ground.phase }, { on := 14, ground := Go.Ground.phase }, { on := 15, ground := Go.Ground.phase }, { on := 16, ground := Go.Ground.phase }, { on := 17, ground := Go.Ground.phase }, { on := 18, ground := Go.Ground.phase }], guard := none }) (v := ?vq53) [20] rfl (by kernel_rfl) (by kernel_rfl) (by kernel_rfl) (by kernel_rfl) (by kernel_rfl) (fun _ _ _ h => h) (Or.inl ⟨by rfl, ?hyq53⟩) (by assumption) ?restq53
          case hyq53 => (intro w0 hSw; (try dsimp only at hSw); go_simp; try with_reducible rfl)
          simp only [Act.put, List.setIfInBounds_toArray, List.set_cons_zero, List.set_cons_succ]
          refine wpAnyK_take (i := 20) (oi := { dst := some 47, op := Go.Op.fieldAddr 43 (Go.Operand.tmp 46) 1, type := 0, pos := "ref.go:67", after := #[{ on := 19, ground := Go.Ground.data }, { on := 0, ground := Go.Ground.phase }, { on := 1, ground := Go.Ground.phase }, { on := 2, ground := Go.Ground.phase }, { on := 3, ground := Go.Ground.phase }, { on := 4, ground := Go.Ground.phase }, { on := 5, ground := Go.Ground.phase }, { on := 6, ground := Go.Ground.phase }, { on := 7, ground := Go.Ground.phase }, { on := 8, ground := Go.Ground.phase }, { on := 9, ground := Go.Ground.phase }, { on := 10, ground := Go.Ground.phase }, { on := 11, ground := Go.Ground.phase }, { on := 12, ground := Go.Ground.phase }, { on := 13, ground := Go.Ground.phase }, { on := 14, ground := Go.Ground.phase }, { on := 15, ground := Go.Ground.phase }, { on := 16, ground := Go.Ground.phase }, { on := 17, ground := Go.Ground.phase }, { on := 18, ground := Go.Ground.phase }], guard := none }) (v := ?vq54) [] rfl (by kernel_rfl) (by kernel_rfl) (by kernel_rfl) (by kernel_rfl) (by kernel_rfl) (fun _ _ _ h => h) (Or.inl ⟨by rfl, ?hyq54⟩) (by assumption) ?restq54
          case hyq54 => (intro w0 hSw; (try dsimp only at hSw); go_simp; try with_reducible rfl)
          simp only [Act.put, List.setIfInBounds_toArray, List.set_cons_zero, List.set_cons_succ]
          refine wpAnyK_ready (rs := [21]) (by kernel_rfl) (by simp) ?_
          refine AllReadyK.cons (o := { dst := none, op := Go.Op.store 41 (Go.Operand.tmp 47) (Go.Operand.tmp 45), type := 0, pos := "ref.go:67", after := #[{ on := 20, ground := Go.Ground.data }, { on := 18, ground := Go.Ground.data }, { on := 18, ground := Go.Ground.chain }, { on := 0, ground := Go.Ground.phase }, { on := 1, ground := Go.Ground.phase }, { on := 2, ground := Go.Ground.phase }, { on := 3, ground := Go.Ground.phase }, { on := 4, ground := Go.Ground.phase }, { on := 5, ground := Go.Ground.phase }, { on := 6, ground := Go.Ground.phase }, { on := 7, ground := Go.Ground.phase }, { on := 8, ground := Go.Ground.phase }, { on := 9, ground := Go.Ground.phase }, { on := 10, ground := Go.Ground.phase }, { on := 11, ground := Go.Ground.phase }, { on := 12, ground := Go.Ground.phase }, { on := 13, ground := Go.Ground.phase }, { on := 14, ground := Go.Ground.phase }, { on := 15, ground := Go.Ground.phase }, { on := 16, ground := Go.Ground.phase }, { on := 17, ground := Go.Ground.phase }, { on := 18, ground := Go.Ground.phase }], guard := none }) rfl (fun K hK => ?_) AllReadyK.nil
          go_simp
          refine hK.out _ _ (.inl rfl) (fun _ => ?_)
          clear hK K
          try simp only [Act.put, List.setIfInBounds_toArray, List.set_cons_zero, List.set_cons_succ]
          refine wpAnyK_done (by kernel_rfl) ?_ _
          refine NoPanic.normal ?_
          have HEND := hid (HFIN.out w8 _ b5 c5 k _ hsc5 HKE.out (by have := HKN.out; omega) hown5 rfl)
          clear hown3 hown4 hown5 hsc3 hsc4 hsc5 hb3 hb4 hb5 hg3 hg4 hg5 hHeld hs0 f5 e5 hpk5
          go_wp2
          all_goals (go_end0; exact ⟨rfl, HEND.out⟩)
        · go_simp
          refine hK.out _ _ (.inr (HSA.out _ (by (repeat (first | assumption | exact ScN.start _ | apply ScN.dr | apply ScN.alloc))))) (fun hHeld => ?_)
          have hHeld := hHeld.resolve_right (by decide)
          clear hK K
          try simp only [Act.put, List.setIfInBounds_toArray, List.set_cons_zero, List.set_cons_succ]
          refine wpAnyK_ready (rs := [8]) (by kernel_rfl) (by simp) ?_
          refine AllReadyK.cons (o := { dst := some 35, op := Go.Op.call { callee := Go.Callee.builtin Go.Builtin.append, args := #[Go.Operand.tmp 28, Go.Operand.tmp 34], argTypes := #[41, 41] }, type := 41, pos := "ref.go:67", after := #[{ on := 1, ground := Go.Ground.data }, { on := 7, ground := Go.Ground.data }], guard := none }) rfl (fun K hK => ?_) AllReadyK.nil
          refine step_copy_fr rfl _ _ rfl wr.heap.size _ rfl ?ownz46 _ _ _ (g.L.take k) ?hmz46 rfl ?hhz46 ?hsumz46 ?hbasez46 ?restz46
          case ownz46 => first | exact ownFr_made w6 _ (ScN.size hs6) | exact (ownFr_made w6 _ (ScN.size hs6)).alloc _ | exact ownFr_made2 w6 _ _ (ScN.size hs6)
          case hmz46 => have := HN.out; have := HKN.out; rw [List.length_take]; omega
          case hhz46 => first | exact (HHX.out _ (by (repeat (first | assumption | exact ScN.start _ | apply ScN.dr | apply ScN.alloc)))).take k | exact (.inl (by have := HN.out; have := HKN.out; exact List.take_eq_nil_iff.2 (.inl (by omega))))
          case hsumz46 => have := HKN.out; have := HNL.out; omega
          case hbasez46 => exact ScN.size (by (repeat (first | assumption | exact ScN.start _ | apply ScN.dr | apply ScN.alloc)))
          intro b3 c3 w5 hown3 hb3 hg3
          have hsc3 : ScN wr w5 := ScN.grown (by (repeat (first | assumption | exact ScN.start _ | apply ScN.dr | apply ScN.alloc))) hb3
          refine hK.out _ _ (.inr (HSA.out _ (by (repeat (first | assumption | exact ScN.start _ | apply ScN.dr | apply ScN.alloc))))) (fun hHeld => ?_)
          have hHeld := hHeld.resolve_right (by decide)
          clear hK K
          try simp only [Act.put, List.setIfInBounds_toArray, List.set_cons_zero, List.set_cons_succ]
          refine wpAnyK_ready (rs := [11]) (by kernel_rfl) (by simp) ?_
          refine AllReadyK.cons (o := { dst := some 38, op := Go.Op.call { callee := Go.Callee.builtin Go.Builtin.append, args := #[Go.Operand.tmp 35, Go.Operand.tmp 37], argTypes := #[41, 41] }, type := 41, pos := "ref.go:67", after := #[{ on := 8, ground := Go.Ground.data }, { on := 10, ground := Go.Ground.data }, { on := 8, ground := Go.Ground.chain }], guard := none }) rfl (fun K hK => ?_) AllReadyK.nil
          refine step_append_fr rfl _ _ rfl wr.heap.size _ _ (g.L.take k) ?hnz47 rfl (hown3) _ 1 1 [(⟨fn, fb, fs⟩ : Rf)] rfl rfl ?hhz47 ?hsumz47 ?hbasez47 ?restz47
          case hnz47 => have := HN.out; have := HKN.out; rw [List.length_take]; omega
          case hhz47 => exact held_grownFr (show HeldFr _ (some ⟨w6.heap.size + 1, 0, none⟩) [⟨fn, fb, fs⟩] from HHB.out _) hg3 (by simp)
          case hsumz47 => have := HKN.out; have := HNL.out; omega
          case hbasez47 => exact ScN.size (by (repeat (first | assumption | exact ScN.start _ | apply ScN.dr | apply ScN.alloc)))
          intro b4 c4 w7 hown4 hb4 hg4
          have hsc4 : ScN wr w7 := ScN.grown (by (repeat (first | assumption | exact ScN.start _ | apply ScN.dr | apply ScN.alloc))) hb4
          refine hK.out _ _ (.inr (HSA.out _ (by (repeat (first | assumption | exact ScN.start _ | apply ScN.dr | apply ScN.alloc))))) (fun hHeld => ?_)
          have hHeld := hHeld.resolve_right (by decide)
          clear hK K
          try simp only [Act.put, List.setIfInBounds_toArray, List.set_cons_zero, List.set_cons_succ]
          refine wpAnyK_ready (rs := [18]) (by kernel_rfl) (by simp) ?_
          refine AllReadyK.cons (o := { dst := some 45, op := Go.Op.call { callee := Go.Callee.builtin Go.Builtin.append, args := #[Go.Operand.tmp 38, Go.Operand.tmp 44], argTypes := #[41, 41] }, type := 41, pos := "ref.go:67", after := #[{ on := 11, ground := Go.Ground.data }, { on := 17, ground := Go.Ground.data }, { on := 11, ground := Go.Ground.chain }], guard := none }) rfl (fun K hK => ?_) AllReadyK.nil
          refine step_append_fr rfl _ _ rfl wr.heap.size _ _ (g.L.take k ++ [(⟨fn, fb, fs⟩ : Rf)]) ?hnz48 rfl hown4 _ _ _ (g.L.drop k) ?hmz48 rfl ?hhz48 ?hsumz48 ?hbasez48 ?restz48
          case hnz48 => have := HN.out; have := HKN.out; rw [List.length_append, List.length_take, List.length_singleton]; omega
          case hmz48 => have := HN.out; have := HKN.out; rw [List.length_drop]; omega
          case hhz48 => first | exact (HHX.out _ (by (repeat (first | assumption | exact ScN.start _ | apply ScN.dr | apply ScN.alloc)))).drop k | exact held_dropFr (HHX.out _ (by (repeat (first | assumption | exact ScN.start _ | apply ScN.dr | apply ScN.alloc)))) k (by have := HN.out; have := HCP.out; omega)
          case hsumz48 => have := HKN.out; have := HNL.out; omega
          case hbasez48 => exact ScN.size (by (repeat (first | assumption | exact ScN.start _ | apply ScN.dr | apply ScN.alloc)))
          intro b5 c5 w8 hown5 hb5 hg5
          have hsc5 : ScN wr w8 := ScN.grown (by (repeat (first | assumption | exact ScN.start _ | apply ScN.dr | apply ScN.alloc))) hb5
          refine hK.out _ _ (.inr (HSA.out _ (by (repeat (first | assumption | exact ScN.start _ | apply ScN.dr | apply ScN.alloc))))) (fun hHeld => ?_)
          have hHeld := hHeld.resolve_right (by decide)
          clear hK K
          try simp only [Act.put, List.setIfInBounds_toArray, List.set_cons_zero, List.set_cons_succ]
          have hpk5 := (H4.out.below hsc5.out).blk
          have f5 := hpk5.frozen 1
          have e5 := hpk5.cell (i := 1) rfl
          rw [HN.out] at e5
          refine wpAnyK_take (i := 19) (oi := { dst := some 46, op := Go.Op.nilCheck (Go.Operand.tmp 27), type := 0, pos := "ref.go:67", after := #[{ on := 0, ground := Go.Ground.data }, { on := 0, ground := Go.Ground.phase }, { on := 1, ground := Go.Ground.phase }, { on := 2, ground := Go.Ground.phase }, { on := 3, ground := Go.Ground.phase }, { on := 4, ground := Go.Ground.phase }, { on := 5, ground := Go.Ground.phase }, { on := 6, ground := Go.Ground.phase }, { on := 7, ground := Go.Ground.phase }, { on := 8, ground := Go.Ground.phase }, { on := 9, ground := Go.Ground.phase }, { on := 10, ground := Go.Ground.phase }, { on := 11, ground := Go.Ground.phase }, { on := 12, ground := Go.Ground.phase }, { on := 13, ground := Go.Ground.phase }, { on := 14, ground := Go.Ground.phase }, { on := 15, ground := Go.Ground.phase }, { on := 16, ground := Go.Ground.phase }, { on := 17, ground := Go.Ground.phase }, { on := 18, ground := Go.Ground.phase }], guard := none }) (v := ?vq49) [20] rfl (by kernel_rfl) (by kernel_rfl) (by kernel_rfl) (by kernel_rfl) (by kernel_rfl) (fun _ _ _ h => h) (Or.inl ⟨by rfl, ?hyq49⟩) (by assumption) ?restq49
          case hyq49 => (intro w0 hSw; (try dsimp only at hSw); go_simp; try with_reducible rfl)
          simp only [Act.put, List.setIfInBounds_toArray, List.set_cons_zero, List.set_cons_succ]
          refine wpAnyK_take (i := 20) (oi := { dst := some 47, op := Go.Op.fieldAddr 43 (Go.Operand.tmp 46) 1, type := 0, pos := "ref.go:67", after := #[{ on := 19, ground := Go.Ground.data }, { on := 0, ground := Go.Ground.phase }, { on := 1, ground := Go.Ground.phase }, { on := 2, ground := Go.Ground.phase }, { on := 3, ground := Go.Ground.phase }, { on := 4, ground := Go.Ground.phase }, { on := 5, ground := Go.Ground.phase }, { on := 6, ground := Go.Ground.phase }, { on := 7, ground := Go.Ground.phase }, { on := 8, ground := Go.Ground.phase }, { on := 9, ground := Go.Ground.phase }, { on := 10, ground := Go.Ground.phase }, { on := 11, ground := Go.Ground.phase }, { on := 12, ground := Go.Ground.phase }, { on := 13, ground := Go.Ground.phase }, { on := 14, ground := Go.Ground.phase }, { on := 15, ground := Go.Ground.phase }, { on := 16, ground := Go.Ground.phase }, { on := 17, ground := Go.Ground.phase }, { on := 18, ground := Go.Ground.phase }], guard := none }) (v := ?vq50) [] rfl (by kernel_rfl) (by kernel_rfl) (by kernel_rfl) (by kernel_rfl) (by kernel_rfl) (fun _ _ _ h => h) (Or.inl ⟨by rfl, ?hyq50⟩) (by assumption) ?restq50
          case hyq50 => (intro w0 hSw; (try dsimp only at hSw); go_simp; try with_reducible rfl)
          simp only [Act.put, List.setIfInBounds_toArray, List.set_cons_zero, List.set_cons_succ]
          refine wpAnyK_ready (rs := [21]) (by kernel_rfl) (by simp) ?_
          refine AllReadyK.cons (o := { dst := none, op := Go.Op.store 41 (Go.Operand.tmp 47) (Go.Operand.tmp 45), type := 0, pos := "ref.go:67", after := #[{ on := 20, ground := Go.Ground.data }, { on := 18, ground := Go.Ground.data }, { on := 18, ground := Go.Ground.chain }, { on := 0, ground := Go.Ground.phase }, { on := 1, ground := Go.Ground.phase }, { on := 2, ground := Go.Ground.phase }, { on := 3, ground := Go.Ground.phase }, { on := 4, ground := Go.Ground.phase }, { on := 5, ground := Go.Ground.phase }, { on := 6, ground := Go.Ground.phase }, { on := 7, ground := Go.Ground.phase }, { on := 8, ground := Go.Ground.phase }, { on := 9, ground := Go.Ground.phase }, { on := 10, ground := Go.Ground.phase }, { on := 11, ground := Go.Ground.phase }, { on := 12, ground := Go.Ground.phase }, { on := 13, ground := Go.Ground.phase }, { on := 14, ground := Go.Ground.phase }, { on := 15, ground := Go.Ground.phase }, { on := 16, ground := Go.Ground.phase }, { on := 17, ground := Go.Ground.phase }, { on := 18, ground := Go.Ground.phase }], guard := none }) rfl (fun K hK => ?_) AllReadyK.nil
          go_simp
          refine hK.out _ _ (.inl rfl) (fun _ => ?_)
          clear hK K
          try simp only [Act.put, List.setIfInBounds_toArray, List.set_cons_zero, List.set_cons_succ]
          refine wpAnyK_done (by kernel_rfl) ?_ _
          refine NoPanic.normal ?_
          have HEND := hid (HFIN.out w8 _ b5 c5 k _ hsc5 HKE.out (by have := HKN.out; omega) hown5 rfl)
          clear hown3 hown4 hown5 hsc3 hsc4 hsc5 hb3 hb4 hb5 hg3 hg4 hg5 hHeld hs0 f5 e5 hpk5
          go_wp2
          all_goals (go_end0; exact ⟨rfl, HEND.out⟩)
      · go_simp
        refine hK.out _ _ (.inr (HSA.out _ (by (repeat (first | assumption | exact ScN.start _ | apply ScN.dr | apply ScN.alloc))))) (fun hHeld => ?_)
        have hHeld := hHeld.resolve_right (by decide)
        clear hK K
        try simp only [Act.put, List.setIfInBounds_toArray, List.set_cons_zero, List.set_cons_succ]
        refine wpAnyK_ready (rs := [1]) (by kernel_rfl) (by simp) ?_
        refine AllReadyK.cons (o := { dst := some 28, op := Go.Op.buildSlice 41 0 #[], type := 41, pos := "ref.go:67", after := #[], guard := none }) rfl (fun K hK => ?_) AllReadyK.nil
        go_simp
        refine hK.out _ _ (.inr (HSA.out _ (by (repeat (first | assumption | exact ScN.start _ | apply ScN.dr | apply ScN.alloc))))) (fun hHeld => ?_)
        have hHeld := hHeld.resolve_right (by decide)
        clear hK K
        try simp only [Act.put, List.setIfInBounds_toArray, List.set_cons_zero, List.set_cons_succ]
        refine wpAnyK_ready (rs := [8]) (by kernel_rfl) (by simp) ?_
        refine AllReadyK.cons (o := { dst := some 35, op := Go.Op.call { callee := Go.Callee.builtin Go.Builtin.append, args := #[Go.Operand.tmp 28, Go.Operand.tmp 34], argTypes := #[41, 41] }, type := 41, pos := "ref.go:67", after := #[{ on := 1, ground := Go.Ground.data }, { on := 7, ground := Go.Ground.data }], guard := none }) rfl (fun K hK => ?_) AllReadyK.nil
        refine step_copy_fr rfl _ _ rfl wr.heap.size _ rfl ?ownz55 _ _ _ (g.L.take k) ?hmz55 rfl ?hhz55 ?hsumz55 ?hbasez55 ?restz55
        case ownz55 => first | exact ownFr_made w6 _ (ScN.size hs6) | exact (ownFr_made w6 _ (ScN.size hs6)).alloc _ | exact ownFr_made2 w6 _ _ (ScN.size hs6)
        case hmz55 => have := HN.out; have := HKN.out; rw [List.length_take]; omega
        case hhz55 => first | exact (HHX.out _ (by (repeat (first | assumption | exact ScN.start _ | apply ScN.dr | apply ScN.alloc)))).take k | exact (.inl (by have := HN.out; have := HKN.out; exact List.take_eq_nil_iff.2 (.inl (by omega))))
        case hsumz55 => have := HKN.out; have := HNL.out; omega
        case hbasez55 => exact ScN.size (by (repeat (first | assumption | exact ScN.start _ | apply ScN.dr | apply ScN.alloc)))
        intro b3 c3 w5 hown3 hb3 hg3
        have hsc3 : ScN wr w5 := ScN.grown (by (repeat (first | assumption | exact ScN.start _ | apply ScN.dr | apply ScN.alloc))) hb3
        refine hK.out _ _ (.inr (HSA.out _ (by (repeat (first | assumption | exact ScN.start _ | apply ScN.dr | apply ScN.alloc))))) (fun hHeld => ?_)
        have hHeld := hHeld.resolve_right (by decide)
        clear hK K
        try simp only [Act.put, List.setIfInBounds_toArray, List.set_cons_zero, List.set_cons_succ]
        refine wpAnyK_ready (rs := [11]) (by kernel_rfl) (by simp) ?_
        refine AllReadyK.cons (o := { dst := some 38, op := Go.Op.call { callee := Go.Callee.builtin Go.Builtin.append, args := #[Go.Operand.tmp 35, Go.Operand.tmp 37], argTypes := #[41, 41] }, type := 41, pos := "ref.go:67", after := #[{ on := 8, ground := Go.Ground.data }, { on := 10, ground := Go.Ground.data }, { on := 8, ground := Go.Ground.chain }], guard := none }) rfl (fun K hK => ?_) AllReadyK.nil
        refine step_append_fr rfl _ _ rfl wr.heap.size _ _ (g.L.take k) ?hnz56 rfl (hown3) _ 1 1 [(⟨fn, fb, fs⟩ : Rf)] rfl rfl ?hhz56 ?hsumz56 ?hbasez56 ?restz56
        case hnz56 => have := HN.out; have := HKN.out; rw [List.length_take]; omega
        case hhz56 => exact held_grownFr (show HeldFr _ (some ⟨w6.heap.size, 0, none⟩) [⟨fn, fb, fs⟩] from HHA.out _) hg3 (by simp)
        case hsumz56 => have := HKN.out; have := HNL.out; omega
        case hbasez56 => exact ScN.size (by (repeat (first | assumption | exact ScN.start _ | apply ScN.dr | apply ScN.alloc)))
        intro b4 c4 w7 hown4 hb4 hg4
        have hsc4 : ScN wr w7 := ScN.grown (by (repeat (first | assumption | exact ScN.start _ | apply ScN.dr | apply ScN.alloc))) hb4
        refine hK.out _ _ (.inr (HSA.out _ (by (repeat (first | assumption | exact ScN.start _ | apply ScN.dr | apply ScN.alloc))))) (fun hHeld => ?_)
        have hHeld := hHeld.resolve_right (by decide)
        clear hK K
        try simp only [Act.put, List.setIfInBounds_toArray, List.set_cons_zero, List.set_cons_succ]
        refine wpAnyK_ready (rs := [18]) (by kernel_rfl) (by simp) ?_
        refine AllReadyK.cons (o := { dst := some 45, op := Go.Op.call { callee := Go.Callee.builtin Go.Builtin.append, args := #[Go.Operand.tmp 38, Go.Operand.tmp 44], argTypes := #[41, 41] }, type := 41, pos := "ref.go:67", after := #[{ on := 11, ground := Go.Ground.data }, { on := 17, ground := Go.Ground.data }, { on := 11, ground := Go.Ground.chain }], guard := none }) rfl (fun K hK => ?_) AllReadyK.nil
        refine step_append_fr rfl _ _ rfl wr.heap.size _ _ (g.L.take k ++ [(⟨fn, fb, fs⟩ : Rf)]) ?hnz57 rfl hown4 _ _ _ (g.L.drop k) ?hmz57 rfl ?hhz57 ?hsumz57 ?hbasez57 ?restz57
        case hnz57 => have := HN.out; have := HKN.out; rw [List.length_append, List.length_take, List.length_singleton]; omega
        case hmz57 => have := HN.out; have := HKN.out; rw [List.length_drop]; omega
        case hhz57 => first | exact (HHX.out _ (by (repeat (first | assumption | exact ScN.start _ | apply ScN.dr | apply ScN.alloc)))).drop k | exact held_dropFr (HHX.out _ (by (repeat (first | assumption | exact ScN.start _ | apply ScN.dr | apply ScN.alloc)))) k (by have := HN.out; have := HCP.out; omega)
        case hsumz57 => have := HKN.out; have := HNL.out; omega
        case hbasez57 => exact ScN.size (by (repeat (first | assumption | exact ScN.start _ | apply ScN.dr | apply ScN.alloc)))
        intro b5 c5 w8 hown5 hb5 hg5
        have hsc5 : ScN wr w8 := ScN.grown (by (repeat (first | assumption | exact ScN.start _ | apply ScN.dr | apply ScN.alloc))) hb5
        refine hK.out _ _ (.inr (HSA.out _ (by (repeat (first | assumption | exact ScN.start _ | apply ScN.dr | apply ScN.alloc))))) (fun hHeld => ?_)
        have hHeld := hHeld.resolve_right (by decide)
        clear hK K
        try simp only [Act.put, List.setIfInBounds_toArray, List.set_cons_zero, List.set_cons_succ]
        have hpk5 := (H4.out.below hsc5.out).blk
        have f5 := hpk5.frozen 1
        have e5 := hpk5.cell (i := 1) rfl
        rw [HN.out] at e5
        refine wpAnyK_take (i := 19) (oi := { dst := some 46, op := Go.Op.nilCheck (Go.Operand.tmp 27), type := 0, pos := "ref.go:67", after := #[{ on := 0, ground := Go.Ground.data }, { on := 0, ground := Go.Ground.phase }, { on := 1, ground := Go.Ground.phase }, { on := 2, ground := Go.Ground.phase }, { on := 3, ground := Go.Ground.phase }, { on := 4, ground := Go.Ground.phase }, { on := 5, ground := Go.Ground.phase }, { on := 6, ground := Go.Ground.phase }, { on := 7, ground := Go.Ground.phase }, { on := 8, ground := Go.Ground.phase }, { on := 9, ground := Go.Ground.phase }, { on := 10, ground := Go.Ground.phase }, { on := 11, ground := Go.Ground.phase }, { on := 12, ground := Go.Ground.phase }, { on := 13, ground := Go.Ground.phase }, { on := 14, ground := Go.Ground.phase }, { on := 15, ground := Go.Ground.phase }, { on := 16, ground := Go.Ground.phase }, { on := 17, ground := Go.Ground.phase }, { on := 18, ground := Go.Ground.phase }], guard := none }) (v := ?vq58) [20] rfl (by kernel_rfl) (by kernel_rfl) (by kernel_rfl) (by kernel_rfl) (by kernel_rfl) (fun _ _ _ h => h) (Or.inl ⟨by rfl, ?hyq58⟩) (by assumption) ?restq58
        case hyq58 => (intro w0 hSw; (try dsimp only at hSw); go_simp; try with_reducible rfl)
        simp only [Act.put, List.setIfInBounds_toArray, List.set_cons_zero, List.set_cons_succ]
        refine wpAnyK_take (i := 20) (oi := { dst := some 47, op := Go.Op.fieldAddr 43 (Go.Operand.tmp 46) 1, type := 0, pos := "ref.go:67", after := #[{ on := 19, ground := Go.Ground.data }, { on := 0, ground := Go.Ground.phase }, { on := 1, ground := Go.Ground.phase }, { on := 2, ground := Go.Ground.phase }, { on := 3, ground := Go.Ground.phase }, { on := 4, ground := Go.Ground.phase }, { on := 5, ground := Go.Ground.phase }, { on := 6, ground := Go.Ground.phase }, { on := 7, ground := Go.Ground.phase }, { on := 8, ground := Go.Ground.phase }, { on := 9, ground := Go.Ground.phase }, { on := 10, ground := Go.Ground.phase }, { on := 11, ground := Go.Ground.phase }, { on := 12, ground := Go.Ground.phase }, { on := 13, ground := Go.Ground.phase }, { on := 14, ground := Go.Ground.phase }, { on := 15, ground := Go.Ground.phase }, { on := 16, ground := Go.Ground.phase }, { on := 17, ground := Go.Ground.phase }, { on := 18, ground := Go.Ground.phase }], guard := none }) (v := ?vq59) [] rfl (by kernel_rfl) (by kernel_rfl) (by kernel_rfl) (by kernel_rfl) (by kernel_rfl) (fun _ _ _ h => h) (Or.inl ⟨by rfl, ?hyq59⟩) (by assumption) ?restq59
        case hyq59 => (intro w0 hSw; (try dsimp only at hSw); go_simp; try with_reducible rfl)
        simp only [Act.put, List.setIfInBounds_toArray, List.set_cons_zero, List.set_cons_succ]
        refine wpAnyK_ready (rs := [21]) (by kernel_rfl) (by simp) ?_
        refine AllReadyK.cons (o := { dst := none, op := Go.Op.store 41 (Go.Operand.tmp 47) (Go.Operand.tmp 45), type := 0, pos := "ref.go:67", after := #[{ on := 20, ground := Go.Ground.data }, { on := 18, ground := Go.Ground.data }, { on := 18, ground := Go.Ground.chain }, { on := 0, ground := Go.Ground.phase }, { on := 1, ground := Go.Ground.phase }, { on := 2, ground := Go.Ground.phase }, { on := 3, ground := Go.Ground.phase }, { on := 4, ground := Go.Ground.phase }, { on := 5, ground := Go.Ground.phase }, { on := 6, ground := Go.Ground.phase }, { on := 7, ground := Go.Ground.phase }, { on := 8, ground := Go.Ground.phase }, { on := 9, ground := Go.Ground.phase }, { on := 10, ground := Go.Ground.phase }, { on := 11, ground := Go.Ground.phase }, { on := 12, ground := Go.Ground.phase }, { on := 13, ground := Go.Ground.phase }, { on := 14, ground := Go.Ground.phase }, { on := 15, ground := Go.Ground.phase }, { on := 16, ground := Go.Ground.phase }, { on := 17, ground := Go.Ground.phase }, { on := 18, ground := Go.Ground.phase }], guard := none }) rfl (fun K hK => ?_) AllReadyK.nil
        go_simp
        refine hK.out _ _ (.inl rfl) (fun _ => ?_)
        clear hK K
        try simp only [Act.put, List.setIfInBounds_toArray, List.set_cons_zero, List.set_cons_succ]
        refine wpAnyK_done (by kernel_rfl) ?_ _
        refine NoPanic.normal ?_
        have HEND := hid (HFIN.out w8 _ b5 c5 k _ hsc5 HKE.out (by have := HKN.out; omega) hown5 rfl)
        clear hown3 hown4 hown5 hsc3 hsc4 hsc5 hb3 hb4 hb5 hg3 hg4 hg5 hHeld hs0 f5 e5 hpk5
        go_wp2
        all_goals (go_end0; exact ⟨rfl, HEND.out⟩)
end Go.Proofs.Ytjfohnkfcfifeaa
