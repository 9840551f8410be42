/-
  The document's disk: put, in the midst.
-/
import Derived.Test.YtjfohnkfcfifeaaRxC
namespace Go.Proofs.Ytjfohnkfcfifeaa
open Go.RowKit Go.Maps
set_option linter.unusedSimpArgs false
set_option maxRecDepth 1000000 in
set_option maxHeartbeats 40000000 in
theorem XdAt.putMid {w : World} {B x : Nat} {size : Int} {g : Xd} {eo : Option Addr} {cap : Nat} (h : XdAt w B x size g eo cap) (hB : B ≤ w.heap.size) (fn fb : ByteArray) (fs : Int) (hl : g.L.length < 64) (hroom : (rtotal g.L : Int) + fb.size ≤ size) (hpos : rpos g.L fn < g.L.length) : Calls Try.prog 51 #[.pointer (some ⟨x, 0, none⟩), .agg #[.string fn, .string fb, .int .i64 fs]] w fun e w' => e = .returned (.tuple #[]) ∧ XdTo B w w' x size (FootZ x eo g.L.length cap) (putX g ⟨fn, fb, fs⟩) := by
  have H := hid h
  have HBB := hid hB
  have HPO := hid hpos
  have HRM := hid hroom
  obtain ⟨n, HN⟩ : ∃ n, Hid (g.L.length = n) := ⟨_, hid rfl⟩
  have HNL : Hid (n < 64) := by rw [← HN.out]; exact hl
  have HCP : Hid (n ≤ cap) := by rw [← HN.out]; exact h.held.2
  obtain ⟨W1, hW1⟩ : ∃ V, V = w.alloc (.cells #[.string fn, .string fb, .int .i64 fs] 47) := ⟨_, rfl⟩
  have hb1 : Below w.heap.size w W1 := by rw [hW1]; exact (Below.refl _ _).alloc (Nat.le_refl _) _
  obtain ⟨pb, hpb⟩ : ∃ q, q = w.heap.size := ⟨_, rfl⟩
  have HK : Hid (Blk W1 pb 47 [.string fn, .string fb, .int .i64 fs]) := by rw [hW1, hpb]; exact Blk.new _ _ _
  have HB1 := hid hb1
  have HPB := hid hpb
  have HW1 := hid hW1
  clear h hB hb1 hpb hW1 hpos hl hroom
  go_enter Try.func51, Try.ntmps51
  go_wp2
  rw [← HW1.out, ← HPB.out]
  go_loopw [4] (fun i wr => ∃ k : Nat, k ≤ n ∧ i = .int .i64 k ∧ Hid (AheadF g.L fn k) ∧ Hid (Below W1.heap.size W1 wr)) (fun i _ => n - (intOf i).toNat)
  case atStart => exact ⟨0, Nat.zero_le _, rfl, fun j _ h => (by omega), Below.refl _ _⟩
  case round =>
    obtain ⟨k, hk, rfl, HLO, HBR⟩ := hrel
    have HB4 := hid (btN HB1.out HBR.out)
    have H4 := hid (H.out.below HB4.out)
    have HK4 := hid (HK.out.below HBR.out HK.out.lt)
    have HKN : Hid (k ≤ n) := hk
    have e0 := H4.out.blk.cell (i := 1) rfl
    rw [HN.out] at e0
    have k0 := HK4.out.cell (i := 0) rfl
    have hk0 : (0 : Int) ≤ (k : Int) := by omega
    have hkn : (k : Int) ≤ (n : Int) := by omega
    have hkc : (k : Int) ≤ (cap : Int) := by have := HCP.out; omega
    have hnc : (n : Int) ≤ (cap : Int) := by have := HCP.out; omega
    have HFIN : Hid (∀ w5 W bo cp k r, ScN wr w5 → k = rpos g.L fn → r = n + 1 → w5.ownsRow wr.heap.size 47 3 (.slice bo r cp) r (flatR (insF g.L k ⟨fn, fb, fs⟩)) → W = w5.setCell ⟨x, 1, none⟩ (.slice bo r cp) → XdTo B w W x size (FootZ x eo g.L.length cap) (putX g ⟨fn, fb, fs⟩)) := fun w5 W bo cp k r e1 e2 e3 e4 e5 => by
      subst e2
      have hlen := insF_len (rpos_le g.L fn) (⟨fn, fb, fs⟩ : Rf)
      have h9 := HNL.out
      have h8 := HN.out
      refine xd_new H.out HBB.out (insF g.L (rpos g.L fn) ⟨fn, fb, fs⟩) (by rw [hlen, e3, h8]) (by omega) ?_ HB4.out e1 e4 e5
      rw [rtotal_ins]
      have := HRM.out
      show ((rtotal g.L + fb.size : Nat) : Int) ≤ size
      omega
    have HH3 : Hid (∀ V : World, HeldFr (V.alloc (.cells #[.string fn, .string fb, .int .i64 fs] 47)) (some ⟨V.heap.size, 0, none⟩) [⟨fn, fb, fs⟩]) := fun V => held_newFr V ⟨fn, fb, fs⟩
    have HHX : Hid (∀ V, ScN wr V → HeldFr V eo g.L) := fun V hV => (H4.out.below hV.out).held.1
    have HHA : Hid (∀ V : World, HeldFr ((V.alloc (.cells #[.string fn, .string fb, .int .i64 fs] 47)).alloc (.cells #[] 47)).drew (some ⟨V.heap.size, 0, none⟩) [⟨fn, fb, fs⟩]) := fun V => (HH3.out V).below (((Below.refl _ (V.alloc (.cells #[.string fn, .string fb, .int .i64 fs] 47))).alloc (Nat.le_refl _) (.cells #[] 47)).drew)
    have HHB : Hid (∀ V : World, HeldFr ((V.alloc (.cells #[] 47)).alloc (.cells #[.string fn, .string fb, .int .i64 fs] 47)).drew (some ⟨V.heap.size + 1, 0, none⟩) [⟨fn, fb, fs⟩]) := fun V => by
      have h1 := HH3.out (V.alloc (.cells #[] 47))
      rw [World.size_alloc] at h1
      exact h1.below (Below.refl _ _).drew
    have HSA : Hid (∀ V, ScN wr V → (ScN wr V ∧ V.cell? ⟨x, 1, none⟩ = some (.slice eo n cap) ∧ V.cell? ⟨pb, 0, none⟩ = some (.string fn) ∧ V.cell? ⟨pb, 1, none⟩ = some (.string fb) ∧ V.cell? ⟨pb, 2, none⟩ = some (.int .i64 fs))) := fun V hV => by
      have h1 := (H4.out.below hV.out).blk.cell (i := 1) rfl
      rw [HN.out] at h1
      have h2 := HK4.out.below hV.out HK4.out.lt
      exact ⟨hV, h1, h2.cell rfl, h2.cell rfl, h2.cell rfl⟩
    have HDR : Hid (∀ q, ScN wr (wr.drewN q)) := fun q => ⟨below_dnX (Below.refl _ _) q⟩
    by_cases hlt : k < n
    · have hltn : (k : Int) < (n : Int) := by omega
      have hltd : decide ((k : Int) < (n : Int)) = true := decide_eq_true (by omega)
      have hlte : decide (k < n) = true := decide_eq_true hlt
      have HKX : Hid (k < g.L.length) := by rw [HN.out]; exact hlt
      have HKM : Hid (k + 1 ≤ n) := (by omega : k + 1 ≤ n)
      have hwk : wrap64 ((k : Int) + 1) = (k : Int) + 1 := wrapN (by omega) (by have := HNL.out; omega)
      obtain ⟨b, off, hao', hbl, d0, d1, d2⟩ := H4.out.held.1.cellsD HKX.out
      obtain ⟨⟨qn, qb, qs⟩, HQ⟩ : ∃ z, Hid (g.L[k]'HKX.out = z) := ⟨_, hid rfl⟩
      rw [HQ.out] at d0
      simp only at d0
      subst hao'
      clear d1 d2
      by_cases hls : lessB qn fn = true
      · have HNX : Hid (AheadF g.L fn (k + 1)) := fun j hj hjk => by
          by_cases e : j = k
          · subst e; rw [HQ.out]; exact hls
          · exact HLO.out j hj (by omega)
        have hbl2 : Op.bytesLess qn.toList fn.toList = true := hls
        clear hls hlt hk
        go_wp2
        go_quiet (fail)
        go_wp2
        go_roundw
        case rel => exact ⟨k + 1, HKM.out, by go_num, HNX.out, below_dnX HBR.out _⟩
        case measure => first | exact measNW HKM.out hwk | exact measN1 HKM.out
      · have HKE : Hid (k = rpos g.L fn) := rpos_at HKX.out HLO.out (by rw [HQ.out]; simpa using hls)
        have hbl2 : Op.bytesLess qn.toList fn.toList = false := by simpa [lessB] using hls
        clear hls hlt hk
        go_wp2
        go_quiet (fail)
        go_wp2
        obtain ⟨w6, hw6⟩ : ∃ V, V = wr.drewN nq := ⟨_, rfl⟩
        rw [← hw6]
        have hs6 : ScN wr w6 := by rw [hw6]; exact HDR.out nq
        clear hw6 d0 e0 k0
        refine wp_region_noPanic ?_
        refine wp_region_K 21 (fun V => ScN wr V ∧ V.cell? ⟨x, 1, none⟩ = some (.slice (some ⟨b, off, none⟩) n cap) ∧ V.cell? ⟨pb, 0, none⟩ = some (.string fn) ∧ V.cell? ⟨pb, 1, none⟩ = some (.string fb) ∧ V.cell? ⟨pb, 2, none⟩ = some (.int .i64 fs)) (by kernel_rfl) (HSA.out _ hs6.dr) (fun hHeld => ?_)
        have hs0 := hs6.dr
        refine wpAnyK_take (i := 0) (oi := { dst := some 27, op := Go.Op.move (Go.Operand.tmp 0), type := 27, pos := "ref.go:67", after := #[], guard := none }) (v := ?vq1) [] rfl (by kernel_rfl) (by kernel_rfl) (by kernel_rfl) (by kernel_rfl) (by kernel_rfl) (fun _ _ _ h => h) (Or.inl ⟨by rfl, ?hyq1⟩) (by assumption) ?restq1
        case hyq1 => (intro w0 hSw; (try dsimp only at hSw); go_simp; try with_reducible rfl)
        simp only [Act.put, List.setIfInBounds_toArray, List.set_cons_zero, List.set_cons_succ]
        refine wpAnyK_take (i := 2) (oi := { dst := some 29, op := Go.Op.move (Go.Operand.tmp 0), type := 27, pos := "ref.go:67", after := #[], guard := none }) (v := ?vq2) [] rfl (by kernel_rfl) (by kernel_rfl) (by kernel_rfl) (by kernel_rfl) (by kernel_rfl) (fun _ _ _ h => h) (Or.inl ⟨by rfl, ?hyq2⟩) (by assumption) ?restq2
        case hyq2 => (intro w0 hSw; (try dsimp only at hSw); go_simp; try with_reducible rfl)
        simp only [Act.put, List.setIfInBounds_toArray, List.set_cons_zero, List.set_cons_succ]
        refine wpAnyK_take (i := 3) (oi := { dst := some 30, op := Go.Op.nilCheck (Go.Operand.tmp 29), type := 0, pos := "ref.go:67", after := #[{ on := 2, ground := Go.Ground.data }], guard := none }) (v := ?vq3) [] rfl (by kernel_rfl) (by kernel_rfl) (by kernel_rfl) (by kernel_rfl) (by kernel_rfl) (fun _ _ _ h => h) (Or.inl ⟨by rfl, ?hyq3⟩) (by assumption) ?restq3
        case hyq3 => (intro w0 hSw; (try dsimp only at hSw); go_simp; try with_reducible rfl)
        simp only [Act.put, List.setIfInBounds_toArray, List.set_cons_zero, List.set_cons_succ]
        refine wpAnyK_take (i := 4) (oi := { dst := some 31, op := Go.Op.fieldAddr 43 (Go.Operand.tmp 30) 1, type := 0, pos := "ref.go:67", after := #[{ on := 3, ground := Go.Ground.data }], guard := none }) (v := ?vq4) [] rfl (by kernel_rfl) (by kernel_rfl) (by kernel_rfl) (by kernel_rfl) (by kernel_rfl) (fun _ _ _ h => h) (Or.inl ⟨by rfl, ?hyq4⟩) (by assumption) ?restq4
        case hyq4 => (intro w0 hSw; (try dsimp only at hSw); go_simp; try with_reducible rfl)
        simp only [Act.put, List.setIfInBounds_toArray, List.set_cons_zero, List.set_cons_succ]
        refine wpAnyK_take (i := 5) (oi := { dst := some 32, op := Go.Op.load 41 (Go.Operand.tmp 31), type := 41, pos := "ref.go:67", after := #[{ on := 4, ground := Go.Ground.data }], guard := none }) (v := ?vq5) [] rfl (by kernel_rfl) (by kernel_rfl) (by kernel_rfl) (by kernel_rfl) (by kernel_rfl) (fun _ _ _ h => h) (Or.inl ⟨by rfl, ?hyq5⟩) (by assumption) ?restq5
        case hyq5 => (intro w0 hSw; (try dsimp only at hSw); go_simp; try with_reducible rfl)
        simp only [Act.put, List.setIfInBounds_toArray, List.set_cons_zero, List.set_cons_succ]
        refine wpAnyK_take (i := 6) (oi := { dst := some 33, op := Go.Op.move (Go.Operand.tmp 4), type := 3, pos := "ref.go:67", after := #[], guard := none }) (v := ?vq6) [] rfl (by kernel_rfl) (by kernel_rfl) (by kernel_rfl) (by kernel_rfl) (by kernel_rfl) (fun _ _ _ h => h) (Or.inl ⟨by rfl, ?hyq6⟩) (by assumption) ?restq6
        case hyq6 => (intro w0 hSw; (try dsimp only at hSw); go_simp; try with_reducible rfl)
        simp only [Act.put, List.setIfInBounds_toArray, List.set_cons_zero, List.set_cons_succ]
        refine wpAnyK_take (i := 7) (oi := { dst := some 34, op := Go.Op.slice 41 (Go.Operand.tmp 32) none (some (Go.Operand.tmp 33)) none, type := 41, pos := "ref.go:67", after := #[{ on := 5, ground := Go.Ground.data }, { on := 6, ground := Go.Ground.data }], guard := none }) (v := ?vq7) [] rfl (by kernel_rfl) (by kernel_rfl) (by kernel_rfl) (by kernel_rfl) (by kernel_rfl) (fun _ _ _ h => h) (Or.inl ⟨by rfl, ?hyq7⟩) (by assumption) ?restq7
        case hyq7 => (intro w0 hSw; (try dsimp only at hSw); go_simp; try with_reducible rfl)
        simp only [Act.put, List.setIfInBounds_toArray, List.set_cons_zero, List.set_cons_succ]
        refine wpAnyK_take (i := 9) (oi := { dst := some 36, op := Go.Op.load 47 (Go.Operand.tmp 3), type := 47, pos := "ref.go:67", after := #[], guard := none }) (v := ?vq8) [] rfl (by kernel_rfl) (by kernel_rfl) (by kernel_rfl) (by kernel_rfl) (by kernel_rfl) (fun _ _ _ h => h) (Or.inl ⟨by rfl, ?hyq8⟩) (by assumption) ?restq8
        case hyq8 => (intro w0 hSw; (try dsimp only at hSw); go_simp; try with_reducible rfl)
        simp only [Act.put, List.setIfInBounds_toArray, List.set_cons_zero, List.set_cons_succ]
        refine wpAnyK_take (i := 12) (oi := { dst := some 39, op := Go.Op.move (Go.Operand.tmp 0), type := 27, pos := "ref.go:67", after := #[], guard := none }) (v := ?vq9) [] rfl (by kernel_rfl) (by kernel_rfl) (by kernel_rfl) (by kernel_rfl) (by kernel_rfl) (fun _ _ _ h => h) (Or.inl ⟨by rfl, ?hyq9⟩) (by assumption) ?restq9
        case hyq9 => (intro w0 hSw; (try dsimp only at hSw); go_simp; try with_reducible rfl)
        simp only [Act.put, List.setIfInBounds_toArray, List.set_cons_zero, List.set_cons_succ]
        refine wpAnyK_take (i := 13) (oi := { dst := some 40, op := Go.Op.nilCheck (Go.Operand.tmp 39), type := 0, pos := "ref.go:67", after := #[{ on := 12, ground := Go.Ground.data }], guard := none }) (v := ?vq10) [] rfl (by kernel_rfl) (by kernel_rfl) (by kernel_rfl) (by kernel_rfl) (by kernel_rfl) (fun _ _ _ h => h) (Or.inl ⟨by rfl, ?hyq10⟩) (by assumption) ?restq10
        case hyq10 => (intro w0 hSw; (try dsimp only at hSw); go_simp; try with_reducible rfl)
        simp only [Act.put, List.setIfInBounds_toArray, List.set_cons_zero, List.set_cons_succ]
        refine wpAnyK_take (i := 14) (oi := { dst := some 41, op := Go.Op.fieldAddr 43 (Go.Operand.tmp 40) 1, type := 0, pos := "ref.go:67", after := #[{ on := 13, ground := Go.Ground.data }], guard := none }) (v := ?vq11) [] rfl (by kernel_rfl) (by kernel_rfl) (by kernel_rfl) (by kernel_rfl) (by kernel_rfl) (fun _ _ _ h => h) (Or.inl ⟨by rfl, ?hyq11⟩) (by assumption) ?restq11
        case hyq11 => (intro w0 hSw; (try dsimp only at hSw); go_simp; try with_reducible rfl)
        simp only [Act.put, List.setIfInBounds_toArray, List.set_cons_zero, List.set_cons_succ]
        refine wpAnyK_take (i := 15) (oi := { dst := some 42, op := Go.Op.load 41 (Go.Operand.tmp 41), type := 41, pos := "ref.go:67", after := #[{ on := 14, ground := Go.Ground.data }], guard := none }) (v := ?vq12) [] rfl (by kernel_rfl) (by kernel_rfl) (by kernel_rfl) (by kernel_rfl) (by kernel_rfl) (fun _ _ _ h => h) (Or.inl ⟨by rfl, ?hyq12⟩) (by assumption) ?restq12
        case hyq12 => (intro w0 hSw; (try dsimp only at hSw); go_simp; try with_reducible rfl)
        simp only [Act.put, List.setIfInBounds_toArray, List.set_cons_zero, List.set_cons_succ]
        refine wpAnyK_take (i := 16) (oi := { dst := some 43, op := Go.Op.move (Go.Operand.tmp 4), type := 3, pos := "ref.go:67", after := #[], guard := none }) (v := ?vq13) [] rfl (by kernel_rfl) (by kernel_rfl) (by kernel_rfl) (by kernel_rfl) (by kernel_rfl) (fun _ _ _ h => h) (Or.inl ⟨by rfl, ?hyq13⟩) (by assumption) ?restq13
        case hyq13 => (intro w0 hSw; (try dsimp only at hSw); go_simp; try with_reducible rfl)
        simp only [Act.put, List.setIfInBounds_toArray, List.set_cons_zero, List.set_cons_succ]
        refine wpAnyK_take (i := 17) (oi := { dst := some 44, op := Go.Op.slice 41 (Go.Operand.tmp 42) (some (Go.Operand.tmp 43)) none none, type := 41, pos := "ref.go:67", after := #[{ on := 15, ground := Go.Ground.data }, { on := 16, ground := Go.Ground.data }], guard := none }) (v := ?vq14) [] rfl (by kernel_rfl) (by kernel_rfl) (by kernel_rfl) (by kernel_rfl) (by kernel_rfl) (fun _ _ _ h => h) (Or.inl ⟨by rfl, ?hyq14⟩) (by assumption) ?restq14
        case hyq14 => (intro w0 hSw; (try dsimp only at hSw); go_simp; try with_reducible rfl)
        simp only [Act.put, List.setIfInBounds_toArray, List.set_cons_zero, List.set_cons_succ]
        refine wpAnyK_ready (rs := [1, 10]) (by kernel_rfl) (by simp) ?_
        refine AllReadyK.cons (o := { dst := some 28, op := Go.Op.buildSlice 41 0 #[], type := 41, pos := "ref.go:67", after := #[], guard := none }) rfl (fun K hK => ?_) (AllReadyK.cons (o := { dst := some 37, op := Go.Op.buildSlice 41 1 #[(0, Go.Operand.tmp 36)], type := 41, pos := "ref.go:67", after := #[{ on := 9, ground := Go.Ground.data }], guard := none }) rfl (fun K hK => ?_) AllReadyK.nil)
        · go_simp
          refine hK.out _ _ (.inr (HSA.out _ (by (repeat (first | assumption | exact ScN.start _ | apply ScN.dr | apply ScN.alloc))))) (fun hHeld => ?_)
          have hHeld := hHeld.resolve_right (by decide)
          clear hK K
          try simp only [Act.put, List.setIfInBounds_toArray, List.set_cons_zero, List.set_cons_succ]
          refine wpAnyK_ready (rs := [8, 10]) (by kernel_rfl) (by simp) ?_
          refine AllReadyK.cons (o := { dst := some 35, op := Go.Op.call { callee := Go.Callee.builtin Go.Builtin.append, args := #[Go.Operand.tmp 28, Go.Operand.tmp 34], argTypes := #[41, 41] }, type := 41, pos := "ref.go:67", after := #[{ on := 1, ground := Go.Ground.data }, { on := 7, ground := Go.Ground.data }], guard := none }) rfl (fun K hK => ?_) (AllReadyK.cons (o := { dst := some 37, op := Go.Op.buildSlice 41 1 #[(0, Go.Operand.tmp 36)], type := 41, pos := "ref.go:67", after := #[{ on := 9, ground := Go.Ground.data }], guard := none }) rfl (fun K hK => ?_) AllReadyK.nil)
          · refine step_copy_fr rfl _ _ rfl wr.heap.size _ rfl ?ownz29 _ _ _ (g.L.take k) ?hmz29 rfl ?hhz29 ?hsumz29 ?hbasez29 ?restz29
            case ownz29 => first | exact ownFr_made w6 _ (ScN.size hs6) | exact (ownFr_made w6 _ (ScN.size hs6)).alloc _ | exact ownFr_made2 w6 _ _ (ScN.size hs6)
            case hmz29 => have := HN.out; have := HKN.out; rw [List.length_take]; omega
            case hhz29 => first | exact (HHX.out _ (by (repeat (first | assumption | exact ScN.start _ | apply ScN.dr | apply ScN.alloc)))).take k | exact (.inl (by have := HN.out; have := HKN.out; exact List.take_eq_nil_iff.2 (.inl (by omega))))
            case hsumz29 => have := HKN.out; have := HNL.out; omega
            case hbasez29 => exact ScN.size (by (repeat (first | assumption | exact ScN.start _ | apply ScN.dr | apply ScN.alloc)))
            intro b3 c3 w5 hown3 hb3 hg3
            have hsc3 : ScN wr w5 := ScN.grown (by (repeat (first | assumption | exact ScN.start _ | apply ScN.dr | apply ScN.alloc))) hb3
            refine hK.out _ _ (.inr (HSA.out _ (by (repeat (first | assumption | exact ScN.start _ | apply ScN.dr | apply ScN.alloc))))) (fun hHeld => ?_)
            have hHeld := hHeld.resolve_right (by decide)
            clear hK K
            try simp only [Act.put, List.setIfInBounds_toArray, List.set_cons_zero, List.set_cons_succ]
            refine wpAnyK_ready (rs := [10]) (by kernel_rfl) (by simp) ?_
            refine AllReadyK.cons (o := { dst := some 37, op := Go.Op.buildSlice 41 1 #[(0, Go.Operand.tmp 36)], type := 41, pos := "ref.go:67", after := #[{ on := 9, ground := Go.Ground.data }], guard := none }) rfl (fun K hK => ?_) AllReadyK.nil
            go_simp
            refine hK.out _ _ (.inr (HSA.out _ (by (repeat (first | assumption | exact ScN.start _ | apply ScN.dr | apply ScN.alloc))))) (fun hHeld => ?_)
            have hHeld := hHeld.resolve_right (by decide)
            clear hK K
            try simp only [Act.put, List.setIfInBounds_toArray, List.set_cons_zero, List.set_cons_succ]
            refine wpAnyK_ready (rs := [11]) (by kernel_rfl) (by simp) ?_
            refine AllReadyK.cons (o := { dst := some 38, op := Go.Op.call { callee := Go.Callee.builtin Go.Builtin.append, args := #[Go.Operand.tmp 35, Go.Operand.tmp 37], argTypes := #[41, 41] }, type := 41, pos := "ref.go:67", after := #[{ on := 8, ground := Go.Ground.data }, { on := 10, ground := Go.Ground.data }, { on := 8, ground := Go.Ground.chain }], guard := none }) rfl (fun K hK => ?_) AllReadyK.nil
            refine step_append_fr rfl _ _ rfl wr.heap.size _ _ (g.L.take k) ?hnz20 rfl (hown3.alloc _) _ 1 1 [(⟨fn, fb, fs⟩ : Rf)] rfl rfl ?hhz20 ?hsumz20 ?hbasez20 ?restz20
            case hnz20 => have := HN.out; have := HKN.out; rw [List.length_take]; omega
            case hhz20 => exact HH3.out _
            case hsumz20 => have := HKN.out; have := HNL.out; omega
            case hbasez20 => exact ScN.size (by (repeat (first | assumption | exact ScN.start _ | apply ScN.dr | apply ScN.alloc)))
            intro b4 c4 w7 hown4 hb4 hg4
            have hsc4 : ScN wr w7 := ScN.grown (by (repeat (first | assumption | exact ScN.start _ | apply ScN.dr | apply ScN.alloc))) hb4
            refine hK.out _ _ (.inr (HSA.out _ (by (repeat (first | assumption | exact ScN.start _ | apply ScN.dr | apply ScN.alloc))))) (fun hHeld => ?_)
            have hHeld := hHeld.resolve_right (by decide)
            clear hK K
            try simp only [Act.put, List.setIfInBounds_toArray, List.set_cons_zero, List.set_cons_succ]
            refine wpAnyK_ready (rs := [18]) (by kernel_rfl) (by simp) ?_
            refine AllReadyK.cons (o := { dst := some 45, op := Go.Op.call { callee := Go.Callee.builtin Go.Builtin.append, args := #[Go.Operand.tmp 38, Go.Operand.tmp 44], argTypes := #[41, 41] }, type := 41, pos := "ref.go:67", after := #[{ on := 11, ground := Go.Ground.data }, { on := 17, ground := Go.Ground.data }, { on := 11, ground := Go.Ground.chain }], guard := none }) rfl (fun K hK => ?_) AllReadyK.nil
            refine step_append_fr rfl _ _ rfl wr.heap.size _ _ (g.L.take k ++ [(⟨fn, fb, fs⟩ : Rf)]) ?hnz21 rfl hown4 _ _ _ (g.L.drop k) ?hmz21 rfl ?hhz21 ?hsumz21 ?hbasez21 ?restz21
            case hnz21 => have := HN.out; have := HKN.out; rw [List.length_append, List.length_take, List.length_singleton]; omega
            case hmz21 => have := HN.out; have := HKN.out; rw [List.length_drop]; omega
            case hhz21 => first | exact (HHX.out _ (by (repeat (first | assumption | exact ScN.start _ | apply ScN.dr | apply ScN.alloc)))).drop k | exact held_dropFr (HHX.out _ (by (repeat (first | assumption | exact ScN.start _ | apply ScN.dr | apply ScN.alloc)))) k (by have := HN.out; have := HCP.out; omega)
            case hsumz21 => have := HKN.out; have := HNL.out; omega
            case hbasez21 => exact ScN.size (by (repeat (first | assumption | exact ScN.start _ | apply ScN.dr | apply ScN.alloc)))
            intro b5 c5 w8 hown5 hb5 hg5
            have hsc5 : ScN wr w8 := ScN.grown (by (repeat (first | assumption | exact ScN.start _ | apply ScN.dr | apply ScN.alloc))) hb5
            refine hK.out _ _ (.inr (HSA.out _ (by (repeat (first | assumption | exact ScN.start _ | apply ScN.dr | apply ScN.alloc))))) (fun hHeld => ?_)
            have hHeld := hHeld.resolve_right (by decide)
            clear hK K
            try simp only [Act.put, List.setIfInBounds_toArray, List.set_cons_zero, List.set_cons_succ]
            have hpk5 := (H4.out.below hsc5.out).blk
            have f5 := hpk5.frozen 1
            have e5 := hpk5.cell (i := 1) rfl
            rw [HN.out] at e5
            refine wpAnyK_take (i := 19) (oi := { dst := some 46, op := Go.Op.nilCheck (Go.Operand.tmp 27), type := 0, pos := "ref.go:67", after := #[{ on := 0, ground := Go.Ground.data }, { on := 0, ground := Go.Ground.phase }, { on := 1, ground := Go.Ground.phase }, { on := 2, ground := Go.Ground.phase }, { on := 3, ground := Go.Ground.phase }, { on := 4, ground := Go.Ground.phase }, { on := 5, ground := Go.Ground.phase }, { on := 6, ground := Go.Ground.phase }, { on := 7, ground := Go.Ground.phase }, { on := 8, ground := Go.Ground.phase }, { on := 9, ground := Go.Ground.phase }, { on := 10, ground := Go.Ground.phase }, { on := 11, ground := Go.Ground.phase }, { on := 12, ground := Go.Ground.phase }, { on := 13, ground := Go.Ground.phase }, { on := 14, ground := Go.Ground.phase }, { on := 15, ground := Go.Ground.phase }, { on := 16, ground := Go.Ground.phase }, { on := 17, ground := Go.Ground.phase }, { on := 18, ground := Go.Ground.phase }], guard := none }) (v := ?vq22) [20] rfl (by kernel_rfl) (by kernel_rfl) (by kernel_rfl) (by kernel_rfl) (by kernel_rfl) (fun _ _ _ h => h) (Or.inl ⟨by rfl, ?hyq22⟩) (by assumption) ?restq22
            case hyq22 => (intro w0 hSw; (try dsimp only at hSw); go_simp; try with_reducible rfl)
            simp only [Act.put, List.setIfInBounds_toArray, List.set_cons_zero, List.set_cons_succ]
            refine wpAnyK_take (i := 20) (oi := { dst := some 47, op := Go.Op.fieldAddr 43 (Go.Operand.tmp 46) 1, type := 0, pos := "ref.go:67", after := #[{ on := 19, ground := Go.Ground.data }, { on := 0, ground := Go.Ground.phase }, { on := 1, ground := Go.Ground.phase }, { on := 2, ground := Go.Ground.phase }, { on := 3, ground := Go.Ground.phase }, { on := 4, ground := Go.Ground.phase }, { on := 5, ground := Go.Ground.phase }, { on := 6, ground := Go.Ground.phase }, { on := 7, ground := Go.Ground.phase }, { on := 8, ground := Go.Ground.phase }, { on := 9, ground := Go.Ground.phase }, { on := 10, ground := Go.Ground.phase }, { on := 11, ground := Go.Ground.phase }, { on := 12, ground := Go.Ground.phase }, { on := 13, ground := Go.Ground.phase }, { on := 14, ground := Go.Ground.phase }, { on := 15, ground := Go.Ground.phase }, { on := 16, ground := Go.Ground.phase }, { on := 17, ground := Go.Ground.phase }, { on := 18, ground := Go.Ground.phase }], guard := none }) (v := ?vq23) [] rfl (by kernel_rfl) (by kernel_rfl) (by kernel_rfl) (by kernel_rfl) (by kernel_rfl) (fun _ _ _ h => h) (Or.inl ⟨by rfl, ?hyq23⟩) (by assumption) ?restq23
            case hyq23 => (intro w0 hSw; (try dsimp only at hSw); go_simp; try with_reducible rfl)
            simp only [Act.put, List.setIfInBounds_toArray, List.set_cons_zero, List.set_cons_succ]
            refine wpAnyK_ready (rs := [21]) (by kernel_rfl) (by simp) ?_
            refine AllReadyK.cons (o := { dst := none, op := Go.Op.store 41 (Go.Operand.tmp 47) (Go.Operand.tmp 45), type := 0, pos := "ref.go:67", after := #[{ on := 20, ground := Go.Ground.data }, { on := 18, ground := Go.Ground.data }, { on := 18, ground := Go.Ground.chain }, { on := 0, ground := Go.Ground.phase }, { on := 1, ground := Go.Ground.phase }, { on := 2, ground := Go.Ground.phase }, { on := 3, ground := Go.Ground.phase }, { on := 4, ground := Go.Ground.phase }, { on := 5, ground := Go.Ground.phase }, { on := 6, ground := Go.Ground.phase }, { on := 7, ground := Go.Ground.phase }, { on := 8, ground := Go.Ground.phase }, { on := 9, ground := Go.Ground.phase }, { on := 10, ground := Go.Ground.phase }, { on := 11, ground := Go.Ground.phase }, { on := 12, ground := Go.Ground.phase }, { on := 13, ground := Go.Ground.phase }, { on := 14, ground := Go.Ground.phase }, { on := 15, ground := Go.Ground.phase }, { on := 16, ground := Go.Ground.phase }, { on := 17, ground := Go.Ground.phase }, { on := 18, ground := Go.Ground.phase }], guard := none }) rfl (fun K hK => ?_) AllReadyK.nil
            go_simp
            refine hK.out _ _ (.inl rfl) (fun _ => ?_)
            clear hK K
            try simp only [Act.put, List.setIfInBounds_toArray, List.set_cons_zero, List.set_cons_succ]
            refine wpAnyK_done (by kernel_rfl) ?_ _
            refine NoPanic.normal ?_
            have HEND := hid (HFIN.out w8 _ b5 c5 k _ hsc5 HKE.out (by have := HKN.out; omega) hown5 rfl)
            clear hown3 hown4 hown5 hsc3 hsc4 hsc5 hb3 hb4 hb5 hg3 hg4 hg5 hHeld hs0 f5 e5 hpk5
            go_wp2
            all_goals (go_end0; exact ⟨rfl, HEND.out⟩)
          · go_simp
            refine hK.out _ _ (.inr (HSA.out _ (by (repeat (first | assumption | exact ScN.start _ | apply ScN.dr | apply ScN.alloc))))) (fun hHeld => ?_)
            have hHeld := hHeld.resolve_right (by decide)
            clear hK K
            try simp only [Act.put, List.setIfInBounds_toArray, List.set_cons_zero, List.set_cons_succ]
            refine wpAnyK_ready (rs := [8]) (by kernel_rfl) (by simp) ?_
            refine AllReadyK.cons (o := { dst := some 35, op := Go.Op.call { callee := Go.Callee.builtin Go.Builtin.append, args := #[Go.Operand.tmp 28, Go.Operand.tmp 34], argTypes := #[41, 41] }, type := 41, pos := "ref.go:67", after := #[{ on := 1, ground := Go.Ground.data }, { on := 7, ground := Go.Ground.data }], guard := none }) rfl (fun K hK => ?_) AllReadyK.nil
            refine step_copy_fr rfl _ _ rfl wr.heap.size _ rfl ?ownz15 _ _ _ (g.L.take k) ?hmz15 rfl ?hhz15 ?hsumz15 ?hbasez15 ?restz15
            case ownz15 => first | exact ownFr_made w6 _ (ScN.size hs6) | exact (ownFr_made w6 _ (ScN.size hs6)).alloc _ | exact ownFr_made2 w6 _ _ (ScN.size hs6)
            case hmz15 => have := HN.out; have := HKN.out; rw [List.length_take]; omega
            case hhz15 => first | exact (HHX.out _ (by (repeat (first | assumption | exact ScN.start _ | apply ScN.dr | apply ScN.alloc)))).take k | exact (.inl (by have := HN.out; have := HKN.out; exact List.take_eq_nil_iff.2 (.inl (by omega))))
            case hsumz15 => have := HKN.out; have := HNL.out; omega
            case hbasez15 => exact ScN.size (by (repeat (first | assumption | exact ScN.start _ | apply ScN.dr | apply ScN.alloc)))
            intro b3 c3 w5 hown3 hb3 hg3
            have hsc3 : ScN wr w5 := ScN.grown (by (repeat (first | assumption | exact ScN.start _ | apply ScN.dr | apply ScN.alloc))) hb3
            refine hK.out _ _ (.inr (HSA.out _ (by (repeat (first | assumption | exact ScN.start _ | apply ScN.dr | apply ScN.alloc))))) (fun hHeld => ?_)
            have hHeld := hHeld.resolve_right (by decide)
            clear hK K
            try simp only [Act.put, List.setIfInBounds_toArray, List.set_cons_zero, List.set_cons_succ]
            refine wpAnyK_ready (rs := [11]) (by kernel_rfl) (by simp) ?_
            refine AllReadyK.cons (o := { dst := some 38, op := Go.Op.call { callee := Go.Callee.builtin Go.Builtin.append, args := #[Go.Operand.tmp 35, Go.Operand.tmp 37], argTypes := #[41, 41] }, type := 41, pos := "ref.go:67", after := #[{ on := 8, ground := Go.Ground.data }, { on := 10, ground := Go.Ground.data }, { on := 8, ground := Go.Ground.chain }], guard := none }) rfl (fun K hK => ?_) AllReadyK.nil
            refine step_append_fr rfl _ _ rfl wr.heap.size _ _ (g.L.take k) ?hnz16 rfl (hown3) _ 1 1 [(⟨fn, fb, fs⟩ : Rf)] rfl rfl ?hhz16 ?hsumz16 ?hbasez16 ?restz16
            case hnz16 => have := HN.out; have := HKN.out; rw [List.length_take]; omega
            case hhz16 => exact held_grownFr (show HeldFr _ (some ⟨w6.heap.size + 1, 0, none⟩) [⟨fn, fb, fs⟩] from HHB.out _) hg3 (by simp)
            case hsumz16 => have := HKN.out; have := HNL.out; omega
            case hbasez16 => exact ScN.size (by (repeat (first | assumption | exact ScN.start _ | apply ScN.dr | apply ScN.alloc)))
            intro b4 c4 w7 hown4 hb4 hg4
            have hsc4 : ScN wr w7 := ScN.grown (by (repeat (first | assumption | exact ScN.start _ | apply ScN.dr | apply ScN.alloc))) hb4
            refine hK.out _ _ (.inr (HSA.out _ (by (repeat (first | assumption | exact ScN.start _ | apply ScN.dr | apply ScN.alloc))))) (fun hHeld => ?_)
            have hHeld := hHeld.resolve_right (by decide)
            clear hK K
            try simp only [Act.put, List.setIfInBounds_toArray, List.set_cons_zero, List.set_cons_succ]
            refine wpAnyK_ready (rs := [18]) (by kernel_rfl) (by simp) ?_
            refine AllReadyK.cons (o := { dst := some 45, op := Go.Op.call { callee := Go.Callee.builtin Go.Builtin.append, args := #[Go.Operand.tmp 38, Go.Operand.tmp 44], argTypes := #[41, 41] }, type := 41, pos := "ref.go:67", after := #[{ on := 11, ground := Go.Ground.data }, { on := 17, ground := Go.Ground.data }, { on := 11, ground := Go.Ground.chain }], guard := none }) rfl (fun K hK => ?_) AllReadyK.nil
            refine step_append_fr rfl _ _ rfl wr.heap.size _ _ (g.L.take k ++ [(⟨fn, fb, fs⟩ : Rf)]) ?hnz17 rfl hown4 _ _ _ (g.L.drop k) ?hmz17 rfl ?hhz17 ?hsumz17 ?hbasez17 ?restz17
            case hnz17 => have := HN.out; have := HKN.out; rw [List.length_append, List.length_take, List.length_singleton]; omega
            case hmz17 => have := HN.out; have := HKN.out; rw [List.length_drop]; omega
            case hhz17 => first | exact (HHX.out _ (by (repeat (first | assumption | exact ScN.start _ | apply ScN.dr | apply ScN.alloc)))).drop k | exact held_dropFr (HHX.out _ (by (repeat (first | assumption | exact ScN.start _ | apply ScN.dr | apply ScN.alloc)))) k (by have := HN.out; have := HCP.out; omega)
            case hsumz17 => have := HKN.out; have := HNL.out; omega
            case hbasez17 => exact ScN.size (by (repeat (first | assumption | exact ScN.start _ | apply ScN.dr | apply ScN.alloc)))
            intro b5 c5 w8 hown5 hb5 hg5
            have hsc5 : ScN wr w8 := ScN.grown (by (repeat (first | assumption | exact ScN.start _ | apply ScN.dr | apply ScN.alloc))) hb5
            refine hK.out _ _ (.inr (HSA.out _ (by (repeat (first | assumption | exact ScN.start _ | apply ScN.dr | apply ScN.alloc))))) (fun hHeld => ?_)
            have hHeld := hHeld.resolve_right (by decide)
            clear hK K
            try simp only [Act.put, List.setIfInBounds_toArray, List.set_cons_zero, List.set_cons_succ]
            have hpk5 := (H4.out.below hsc5.out).blk
            have f5 := hpk5.frozen 1
            have e5 := hpk5.cell (i := 1) rfl
            rw [HN.out] at e5
            refine wpAnyK_take (i := 19) (oi := { dst := some 46, op := Go.Op.nilCheck (Go.Operand.tmp 27), type := 0, pos := "ref.go:67", after := #[{ on := 0, ground := Go.Ground.data }, { on := 0, ground := Go.Ground.phase }, { on := 1, ground := Go.Ground.phase }, { on := 2, ground := Go.Ground.phase }, { on := 3, ground := Go.Ground.phase }, { on := 4, ground := Go.Ground.phase }, { on := 5, ground := Go.Ground.phase }, { on := 6, ground := Go.Ground.phase }, { on := 7, ground := Go.Ground.phase }, { on := 8, ground := Go.Ground.phase }, { on := 9, ground := Go.Ground.phase }, { on := 10, ground := Go.Ground.phase }, { on := 11, ground := Go.Ground.phase }, { on := 12, ground := Go.Ground.phase }, { on := 13, ground := Go.Ground.phase }, { on := 14, ground := Go.Ground.phase }, { on := 15, ground := Go.Ground.phase }, { on := 16, ground := Go.Ground.phase }, { on := 17, ground := Go.Ground.phase }, { on := 18, ground := Go.Ground.phase }], guard := none }) (v := ?vq18) [20] rfl (by kernel_rfl) (by kernel_rfl) (by kernel_rfl) (by kernel_rfl) (by kernel_rfl) (fun _ _ _ h => h) (Or.inl ⟨by rfl, ?hyq18⟩) (by assumption) ?restq18
            case hyq18 => (intro w0 hSw; (try dsimp only at hSw); go_simp; try with_reducible rfl)
            simp only [Act.put, List.setIfInBounds_toArray, List.set_cons_zero, List.set_cons_succ]
            refine wpAnyK_take (i := 20) (oi := { dst := some 47, op := Go.Op.fieldAddr 43 (Go.Operand.tmp 46) 1, type := 0, pos := "ref.go:67", after := #[{ on := 19, ground := Go.Ground.data }, { on := 0, ground := Go.Ground.phase }, { on := 1, ground := Go.Ground.phase }, { on := 2, ground := Go.Ground.phase }, { on := 3, ground := Go.Ground.phase }, { on := 4, ground := Go.Ground.phase }, { on := 5, ground := Go.Ground.phase }, { on := 6, ground := Go.Ground.phase }, { on := 7, ground := Go.Ground.phase }, { on := 8, ground := Go.Ground.phase }, { on := 9, ground := Go.Ground.phase }, { on := 10, ground := Go.Ground.phase }, { on := 11, ground := Go.Ground.phase }, { on := 12, ground := Go.Ground.phase }, { on := 13, ground := Go.Ground.phase }, { on := 14, ground := Go.Ground.phase }, { on := 15, ground := Go.Ground.phase }, { on := 16, ground := Go.Ground.phase }, { on := 17, ground := Go.Ground.phase }, { on := 18, ground := Go.Ground.phase }], guard := none }) (v := ?vq19) [] rfl (by kernel_rfl) (by kernel_rfl) (by kernel_rfl) (by kernel_rfl) (by kernel_rfl) (fun _ _ _ h => h) (Or.inl ⟨by rfl, ?hyq19⟩) (by assumption) ?restq19
            case hyq19 => (intro w0 hSw; (try dsimp only at hSw); go_simp; try with_reducible rfl)
            simp only [Act.put, List.setIfInBounds_toArray, List.set_cons_zero, List.set_cons_succ]
            refine wpAnyK_ready (rs := [21]) (by kernel_rfl) (by simp) ?_
            refine AllReadyK.cons (o := { dst := none, op := Go.Op.store 41 (Go.Operand.tmp 47) (Go.Operand.tmp 45), type := 0, pos := "ref.go:67", after := #[{ on := 20, ground := Go.Ground.data }, { on := 18, ground := Go.Ground.data }, { on := 18, ground := Go.Ground.chain }, { on := 0, ground := Go.Ground.phase }, { on := 1, ground := Go.Ground.phase }, { on := 2, ground := Go.Ground.phase }, { on := 3, ground := Go.Ground.phase }, { on := 4, ground := Go.Ground.phase }, { on := 5, ground := Go.Ground.phase }, { on := 6, ground := Go.Ground.phase }, { on := 7, ground := Go.Ground.phase }, { on := 8, ground := Go.Ground.phase }, { on := 9, ground := Go.Ground.phase }, { on := 10, ground := Go.Ground.phase }, { on := 11, ground := Go.Ground.phase }, { on := 12, ground := Go.Ground.phase }, { on := 13, ground := Go.Ground.phase }, { on := 14, ground := Go.Ground.phase }, { on := 15, ground := Go.Ground.phase }, { on := 16, ground := Go.Ground.phase }, { on := 17, ground := Go.Ground.phase }, { on := 18, ground := Go.Ground.phase }], guard := none }) rfl (fun K hK => ?_) AllReadyK.nil
            go_simp
            refine hK.out _ _ (.inl rfl) (fun _ => ?_)
            clear hK K
            try simp only [Act.put, List.setIfInBounds_toArray, List.set_cons_zero, List.set_cons_succ]
            refine wpAnyK_done (by kernel_rfl) ?_ _
            refine NoPanic.normal ?_
            have HEND := hid (HFIN.out w8 _ b5 c5 k _ hsc5 HKE.out (by have := HKN.out; omega) hown5 rfl)
            clear hown3 hown4 hown5 hsc3 hsc4 hsc5 hb3 hb4 hb5 hg3 hg4 hg5 hHeld hs0 f5 e5 hpk5
            go_wp2
            all_goals (go_end0; exact ⟨rfl, HEND.out⟩)
        · go_simp
          refine hK.out _ _ (.inr (HSA.out _ (by (repeat (first | assumption | exact ScN.start _ | apply ScN.dr | apply ScN.alloc))))) (fun hHeld => ?_)
          have hHeld := hHeld.resolve_right (by decide)
          clear hK K
          try simp only [Act.put, List.setIfInBounds_toArray, List.set_cons_zero, List.set_cons_succ]
          refine wpAnyK_ready (rs := [1]) (by kernel_rfl) (by simp) ?_
          refine AllReadyK.cons (o := { dst := some 28, op := Go.Op.buildSlice 41 0 #[], type := 41, pos := "ref.go:67", after := #[], guard := none }) rfl (fun K hK => ?_) AllReadyK.nil
          go_simp
          refine hK.out _ _ (.inr (HSA.out _ (by (repeat (first | assumption | exact ScN.start _ | apply ScN.dr | apply ScN.alloc))))) (fun hHeld => ?_)
          have hHeld := hHeld.resolve_right (by decide)
          clear hK K
          try simp only [Act.put, List.setIfInBounds_toArray, List.set_cons_zero, List.set_cons_succ]
          refine wpAnyK_ready (rs := [8]) (by kernel_rfl) (by simp) ?_
          refine AllReadyK.cons (o := { dst := some 35, op := Go.Op.call { callee := Go.Callee.builtin Go.Builtin.append, args := #[Go.Operand.tmp 28, Go.Operand.tmp 34], argTypes := #[41, 41] }, type := 41, pos := "ref.go:67", after := #[{ on := 1, ground := Go.Ground.data }, { on := 7, ground := Go.Ground.data }], guard := none }) rfl (fun K hK => ?_) AllReadyK.nil
          refine step_copy_fr rfl _ _ rfl wr.heap.size _ rfl ?ownz24 _ _ _ (g.L.take k) ?hmz24 rfl ?hhz24 ?hsumz24 ?hbasez24 ?restz24
          case ownz24 => first | exact ownFr_made w6 _ (ScN.size hs6) | exact (ownFr_made w6 _ (ScN.size hs6)).alloc _ | exact ownFr_made2 w6 _ _ (ScN.size hs6)
          case hmz24 => have := HN.out; have := HKN.out; rw [List.length_take]; omega
          case hhz24 => first | exact (HHX.out _ (by (repeat (first | assumption | exact ScN.start _ | apply ScN.dr | apply ScN.alloc)))).take k | exact (.inl (by have := HN.out; have := HKN.out; exact List.take_eq_nil_iff.2 (.inl (by omega))))
          case hsumz24 => have := HKN.out; have := HNL.out; omega
          case hbasez24 => exact ScN.size (by (repeat (first | assumption | exact ScN.start _ | apply ScN.dr | apply ScN.alloc)))
          intro b3 c3 w5 hown3 hb3 hg3
          have hsc3 : ScN wr w5 := ScN.grown (by (repeat (first | assumption | exact ScN.start _ | apply ScN.dr | apply ScN.alloc))) hb3
          refine hK.out _ _ (.inr (HSA.out _ (by (repeat (first | assumption | exact ScN.start _ | apply ScN.dr | apply ScN.alloc))))) (fun hHeld => ?_)
          have hHeld := hHeld.resolve_right (by decide)
          clear hK K
          try simp only [Act.put, List.setIfInBounds_toArray, List.set_cons_zero, List.set_cons_succ]
          refine wpAnyK_ready (rs := [11]) (by kernel_rfl) (by simp) ?_
          refine AllReadyK.cons (o := { dst := some 38, op := Go.Op.call { callee := Go.Callee.builtin Go.Builtin.append, args := #[Go.Operand.tmp 35, Go.Operand.tmp 37], argTypes := #[41, 41] }, type := 41, pos := "ref.go:67", after := #[{ on := 8, ground := Go.Ground.data }, { on := 10, ground := Go.Ground.data }, { on := 8, ground := Go.Ground.chain }], guard := none }) rfl (fun K hK => ?_) AllReadyK.nil
          refine step_append_fr rfl _ _ rfl wr.heap.size _ _ (g.L.take k) ?hnz25 rfl (hown3) _ 1 1 [(⟨fn, fb, fs⟩ : Rf)] rfl rfl ?hhz25 ?hsumz25 ?hbasez25 ?restz25
          case hnz25 => have := HN.out; have := HKN.out; rw [List.length_take]; omega
          case hhz25 => exact held_grownFr (show HeldFr _ (some ⟨w6.heap.size, 0, none⟩) [⟨fn, fb, fs⟩] from HHA.out _) hg3 (by simp)
          case hsumz25 => have := HKN.out; have := HNL.out; omega
          case hbasez25 => exact ScN.size (by (repeat (first | assumption | exact ScN.start _ | apply ScN.dr | apply ScN.alloc)))
          intro b4 c4 w7 hown4 hb4 hg4
          have hsc4 : ScN wr w7 := ScN.grown (by (repeat (first | assumption | exact ScN.start _ | apply ScN.dr | apply ScN.alloc))) hb4
          refine hK.out _ _ (.inr (HSA.out _ (by (repeat (first | assumption | exact ScN.start _ | apply ScN.dr | apply ScN.alloc))))) (fun hHeld => ?_)
          have hHeld := hHeld.resolve_right (by decide)
          clear hK K
          try simp only [Act.put, List.setIfInBounds_toArray, List.set_cons_zero, List.set_cons_succ]
          refine wpAnyK_ready (rs := [18]) (by kernel_rfl) (by simp) ?_
          refine AllReadyK.cons (o := { dst := some 45, op := Go.Op.call { callee := Go.Callee.builtin Go.Builtin.append, args := #[Go.Operand.tmp 38, Go.Operand.tmp 44], argTypes := #[41, 41] }, type := 41, pos := "ref.go:67", after := #[{ on := 11, ground := Go.Ground.data }, { on := 17, ground := Go.Ground.data }, { on := 11, ground := Go.Ground.chain }], guard := none }) rfl (fun K hK => ?_) AllReadyK.nil
          refine step_append_fr rfl _ _ rfl wr.heap.size _ _ (g.L.take k ++ [(⟨fn, fb, fs⟩ : Rf)]) ?hnz26 rfl hown4 _ _ _ (g.L.drop k) ?hmz26 rfl ?hhz26 ?hsumz26 ?hbasez26 ?restz26
          case hnz26 => have := HN.out; have := HKN.out; rw [List.length_append, List.length_take, List.length_singleton]; omega
          case hmz26 => have := HN.out; have := HKN.out; rw [List.length_drop]; omega
          case hhz26 => first | exact (HHX.out _ (by (repeat (first | assumption | exact ScN.start _ | apply ScN.dr | apply ScN.alloc)))).drop k | exact held_dropFr (HHX.out _ (by (repeat (first | assumption | exact ScN.start _ | apply ScN.dr | apply ScN.alloc)))) k (by have := HN.out; have := HCP.out; omega)
          case hsumz26 => have := HKN.out; have := HNL.out; omega
          case hbasez26 => exact ScN.size (by (repeat (first | assumption | exact ScN.start _ | apply ScN.dr | apply ScN.alloc)))
          intro b5 c5 w8 hown5 hb5 hg5
          have hsc5 : ScN wr w8 := ScN.grown (by (repeat (first | assumption | exact ScN.start _ | apply ScN.dr | apply ScN.alloc))) hb5
          refine hK.out _ _ (.inr (HSA.out _ (by (repeat (first | assumption | exact ScN.start _ | apply ScN.dr | apply ScN.alloc))))) (fun hHeld => ?_)
          have hHeld := hHeld.resolve_right (by decide)
          clear hK K
          try simp only [Act.put, List.setIfInBounds_toArray, List.set_cons_zero, List.set_cons_succ]
          have hpk5 := (H4.out.below hsc5.out).blk
          have f5 := hpk5.frozen 1
          have e5 := hpk5.cell (i := 1) rfl
          rw [HN.out] at e5
          refine wpAnyK_take (i := 19) (oi := { dst := some 46, op := Go.Op.nilCheck (Go.Operand.tmp 27), type := 0, pos := "ref.go:67", after := #[{ on := 0, ground := Go.Ground.data }, { on := 0, ground := Go.Ground.phase }, { on := 1, ground := Go.Ground.phase }, { on := 2, ground := Go.Ground.phase }, { on := 3, ground := Go.Ground.phase }, { on := 4, ground := Go.Ground.phase }, { on := 5, ground := Go.Ground.phase }, { on := 6, ground := Go.Ground.phase }, { on := 7, ground := Go.Ground.phase }, { on := 8, ground := Go.Ground.phase }, { on := 9, ground := Go.Ground.phase }, { on := 10, ground := Go.Ground.phase }, { on := 11, ground := Go.Ground.phase }, { on := 12, ground := Go.Ground.phase }, { on := 13, ground := Go.Ground.phase }, { on := 14, ground := Go.Ground.phase }, { on := 15, ground := Go.Ground.phase }, { on := 16, ground := Go.Ground.phase }, { on := 17, ground := Go.Ground.phase }, { on := 18, ground := Go.Ground.phase }], guard := none }) (v := ?vq27) [20] rfl (by kernel_rfl) (by kernel_rfl) (by kernel_rfl) (by kernel_rfl) (by kernel_rfl) (fun _ _ _ h => h) (Or.inl ⟨by rfl, ?hyq27⟩) (by assumption) ?restq27
          case hyq27 => (intro w0 hSw; (try dsimp only at hSw); go_simp; try with_reducible rfl)
          simp only [Act.put, List.setIfInBounds_toArray, List.set_cons_zero, List.set_cons_succ]
          refine wpAnyK_take (i := 20) (oi := { dst := some 47, op := Go.Op.fieldAddr 43 (Go.Operand.tmp 46) 1, type := 0, pos := "ref.go:67", after := #[{ on := 19, ground := Go.Ground.data }, { on := 0, ground := Go.Ground.phase }, { on := 1, ground := Go.Ground.phase }, { on := 2, ground := Go.Ground.phase }, { on := 3, ground := Go.Ground.phase }, { on := 4, ground := Go.Ground.phase }, { on := 5, ground := Go.Ground.phase }, { on := 6, ground := Go.Ground.phase }, { on := 7, ground := Go.Ground.phase }, { on := 8, ground := Go.Ground.phase }, { on := 9, ground := Go.Ground.phase }, { on := 10, ground := Go.Ground.phase }, { on := 11, ground := Go.Ground.phase }, { on := 12, ground := Go.Ground.phase }, { on := 13, ground := Go.Ground.phase }, { on := 14, ground := Go.Ground.phase }, { on := 15, ground := Go.Ground.phase }, { on := 16, ground := Go.Ground.phase }, { on := 17, ground := Go.Ground.phase }, { on := 18, ground := Go.Ground.phase }], guard := none }) (v := ?vq28) [] rfl (by kernel_rfl) (by kernel_rfl) (by kernel_rfl) (by kernel_rfl) (by kernel_rfl) (fun _ _ _ h => h) (Or.inl ⟨by rfl, ?hyq28⟩) (by assumption) ?restq28
          case hyq28 => (intro w0 hSw; (try dsimp only at hSw); go_simp; try with_reducible rfl)
          simp only [Act.put, List.setIfInBounds_toArray, List.set_cons_zero, List.set_cons_succ]
          refine wpAnyK_ready (rs := [21]) (by kernel_rfl) (by simp) ?_
          refine AllReadyK.cons (o := { dst := none, op := Go.Op.store 41 (Go.Operand.tmp 47) (Go.Operand.tmp 45), type := 0, pos := "ref.go:67", after := #[{ on := 20, ground := Go.Ground.data }, { on := 18, ground := Go.Ground.data }, { on := 18, ground := Go.Ground.chain }, { on := 0, ground := Go.Ground.phase }, { on := 1, ground := Go.Ground.phase }, { on := 2, ground := Go.Ground.phase }, { on := 3, ground := Go.Ground.phase }, { on := 4, ground := Go.Ground.phase }, { on := 5, ground := Go.Ground.phase }, { on := 6, ground := Go.Ground.phase }, { on := 7, ground := Go.Ground.phase }, { on := 8, ground := Go.Ground.phase }, { on := 9, ground := Go.Ground.phase }, { on := 10, ground := Go.Ground.phase }, { on := 11, ground := Go.Ground.phase }, { on := 12, ground := Go.Ground.phase }, { on := 13, ground := Go.Ground.phase }, { on := 14, ground := Go.Ground.phase }, { on := 15, ground := Go.Ground.phase }, { on := 16, ground := Go.Ground.phase }, { on := 17, ground := Go.Ground.phase }, { on := 18, ground := Go.Ground.phase }], guard := none }) rfl (fun K hK => ?_) AllReadyK.nil
          go_simp
          refine hK.out _ _ (.inl rfl) (fun _ => ?_)
          clear hK K
          try simp only [Act.put, List.setIfInBounds_toArray, List.set_cons_zero, List.set_cons_succ]
          refine wpAnyK_done (by kernel_rfl) ?_ _
          refine NoPanic.normal ?_
          have HEND := hid (HFIN.out w8 _ b5 c5 k _ hsc5 HKE.out (by have := HKN.out; omega) hown5 rfl)
          clear hown3 hown4 hown5 hsc3 hsc4 hsc5 hb3 hb4 hb5 hg3 hg4 hg5 hHeld hs0 f5 e5 hpk5
          go_wp2
          all_goals (go_end0; exact ⟨rfl, HEND.out⟩)
    · exfalso
      have h1 : k = g.L.length := by have := HN.out; omega
      have h2 := rpos_end (L := g.L) (s := fn) (by rw [← h1]; exact HLO.out)
      have h3 := HPO.out
      omega
end Go.Proofs.Ytjfohnkfcfifeaa
