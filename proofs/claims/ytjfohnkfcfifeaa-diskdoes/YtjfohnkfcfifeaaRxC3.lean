/-
  The document's disk: put, into none.
-/
import Derived.Test.YtjfohnkfcfifeaaRxC
namespace Go.Proofs.Ytjfohnkfcfifeaa
open Go.RowKit Go.Maps
set_option linter.unusedSimpArgs false
set_option maxRecDepth 1000000 in
set_option maxHeartbeats 40000000 in
theorem XdAt.putNone {w : World} {B x : Nat} {size : Int} {g : Xd} {eo : Option Addr} {cap : Nat} (h : XdAt w B x size g eo cap) (hB : B ≤ w.heap.size) (fn fb : ByteArray) (fs : Int) (hl : g.L.length < 64) (hroom : (rtotal g.L : Int) + fb.size ≤ size) (hao : eo = none) (hpos : rpos g.L fn = g.L.length) : Calls Try.prog 51 #[.pointer (some ⟨x, 0, none⟩), .agg #[.string fn, .string fb, .int .i64 fs]] w fun e w' => e = .returned (.tuple #[]) ∧ XdTo B w w' x size (FootZ x eo g.L.length cap) (putX g ⟨fn, fb, fs⟩) := by
  have HAO := hid hao
  have H := hid h
  have HBB := hid hB
  have HPO := hid hpos
  have HRM := hid hroom
  obtain ⟨n, HN⟩ : ∃ n, Hid (g.L.length = n) := ⟨_, hid rfl⟩
  have HNL : Hid (n < 64) := by rw [← HN.out]; exact hl
  have HCP : Hid (n ≤ cap) := by rw [← HN.out]; exact h.held.2
  obtain ⟨W1, hW1⟩ : ∃ V, V = w.alloc (.cells #[.string fn, .string fb, .int .i64 fs] 47) := ⟨_, rfl⟩
  have hb1 : Below w.heap.size w W1 := by rw [hW1]; exact (Below.refl _ _).alloc (Nat.le_refl _) _
  obtain ⟨pb, hpb⟩ : ∃ q, q = w.heap.size := ⟨_, rfl⟩
  have HK : Hid (Blk W1 pb 47 [.string fn, .string fb, .int .i64 fs]) := by rw [hW1, hpb]; exact Blk.new _ _ _
  have HB1 := hid hb1
  have HPB := hid hpb
  have HW1 := hid hW1
  clear h hB hb1 hpb hW1 hpos hl hroom hao
  go_enter Try.func51, Try.ntmps51
  go_wp2
  rw [← HW1.out, ← HPB.out]
  go_loopw [4] (fun i wr => ∃ k : Nat, k ≤ n ∧ i = .int .i64 k ∧ Hid (AheadF g.L fn k) ∧ Hid (Below W1.heap.size W1 wr)) (fun i _ => n - (intOf i).toNat)
  case atStart => exact ⟨0, Nat.zero_le _, rfl, fun j _ h => (by omega), Below.refl _ _⟩
  case round =>
    obtain ⟨k, hk, rfl, HLO, HBR⟩ := hrel
    have HB4 := hid (btN HB1.out HBR.out)
    have H4 := hid (H.out.below HB4.out)
    have HK4 := hid (HK.out.below HBR.out HK.out.lt)
    have HKN : Hid (k ≤ n) := hk
    have e0 := H4.out.blk.cell (i := 1) rfl
    rw [HN.out] at e0
    have k0 := HK4.out.cell (i := 0) rfl
    have hk0 : (0 : Int) ≤ (k : Int) := by omega
    have hkn : (k : Int) ≤ (n : Int) := by omega
    have hkc : (k : Int) ≤ (cap : Int) := by have := HCP.out; omega
    have hnc : (n : Int) ≤ (cap : Int) := by have := HCP.out; omega
    have HFIN : Hid (∀ w5 W bo cp k r, ScN wr w5 → k = rpos g.L fn → r = n + 1 → w5.ownsRow wr.heap.size 47 3 (.slice bo r cp) r (flatR (insF g.L k ⟨fn, fb, fs⟩)) → W = w5.setCell ⟨x, 1, none⟩ (.slice bo r cp) → XdTo B w W x size (FootZ x eo g.L.length cap) (putX g ⟨fn, fb, fs⟩)) := fun w5 W bo cp k r e1 e2 e3 e4 e5 => by
      subst e2
      have hlen := insF_len (rpos_le g.L fn) (⟨fn, fb, fs⟩ : Rf)
      have h9 := HNL.out
      have h8 := HN.out
      refine xd_new H.out HBB.out (insF g.L (rpos g.L fn) ⟨fn, fb, fs⟩) (by rw [hlen, e3, h8]) (by omega) ?_ HB4.out e1 e4 e5
      rw [rtotal_ins]
      have := HRM.out
      show ((rtotal g.L + fb.size : Nat) : Int) ≤ size
      omega
    have HH3 : Hid (∀ V : World, HeldFr (V.alloc (.cells #[.string fn, .string fb, .int .i64 fs] 47)) (some ⟨V.heap.size, 0, none⟩) [⟨fn, fb, fs⟩]) := fun V => held_newFr V ⟨fn, fb, fs⟩
    have HHX : Hid (∀ V, ScN wr V → HeldFr V eo g.L) := fun V hV => (H4.out.below hV.out).held.1
    have HHA : Hid (∀ V : World, HeldFr ((V.alloc (.cells #[.string fn, .string fb, .int .i64 fs] 47)).alloc (.cells #[] 47)).drew (some ⟨V.heap.size, 0, none⟩) [⟨fn, fb, fs⟩]) := fun V => (HH3.out V).below (((Below.refl _ (V.alloc (.cells #[.string fn, .string fb, .int .i64 fs] 47))).alloc (Nat.le_refl _) (.cells #[] 47)).drew)
    have HHB : Hid (∀ V : World, HeldFr ((V.alloc (.cells #[] 47)).alloc (.cells #[.string fn, .string fb, .int .i64 fs] 47)).drew (some ⟨V.heap.size + 1, 0, none⟩) [⟨fn, fb, fs⟩]) := fun V => by
      have h1 := HH3.out (V.alloc (.cells #[] 47))
      rw [World.size_alloc] at h1
      exact h1.below (Below.refl _ _).drew
    have HSA : Hid (∀ V, ScN wr V → (ScN wr V ∧ V.cell? ⟨x, 1, none⟩ = some (.slice eo n cap) ∧ V.cell? ⟨pb, 0, none⟩ = some (.string fn) ∧ V.cell? ⟨pb, 1, none⟩ = some (.string fb) ∧ V.cell? ⟨pb, 2, none⟩ = some (.int .i64 fs))) := fun V hV => by
      have h1 := (H4.out.below hV.out).blk.cell (i := 1) rfl
      rw [HN.out] at h1
      have h2 := HK4.out.below hV.out HK4.out.lt
      exact ⟨hV, h1, h2.cell rfl, h2.cell rfl, h2.cell rfl⟩
    have HDR : Hid (∀ q, ScN wr (wr.drewN q)) := fun q => ⟨below_dnX (Below.refl _ _) q⟩
    by_cases hlt : k < n
    · have hltn : (k : Int) < (n : Int) := by omega
      have hltd : decide ((k : Int) < (n : Int)) = true := decide_eq_true (by omega)
      have hlte : decide (k < n) = true := decide_eq_true hlt
      have HKX : Hid (k < g.L.length) := by rw [HN.out]; exact hlt
      have HKM : Hid (k + 1 ≤ n) := (by omega : k + 1 ≤ n)
      have hwk : wrap64 ((k : Int) + 1) = (k : Int) + 1 := wrapN (by omega) (by have := HNL.out; omega)
      obtain ⟨b1, off1, hao', hbl, d0, d1, d2⟩ := H4.out.held.1.cellsD HKX.out
      obtain ⟨⟨qn, qb, qs⟩, HQ⟩ : ∃ z, Hid (g.L[k]'HKX.out = z) := ⟨_, hid rfl⟩
      rw [HQ.out] at d0
      simp only at d0
      subst hao'
      clear d1 d2
      by_cases hls : lessB qn fn = true
      · have HNX : Hid (AheadF g.L fn (k + 1)) := fun j hj hjk => by
          by_cases e : j = k
          · subst e; rw [HQ.out]; exact hls
          · exact HLO.out j hj (by omega)
        have hbl2 : Op.bytesLess qn.toList fn.toList = true := hls
        clear hls hlt hk
        go_wp2
        go_quiet (fail)
        go_wp2
        go_roundw
        case rel => exact ⟨k + 1, HKM.out, by go_num, HNX.out, below_dnX HBR.out _⟩
        case measure => first | exact measNW HKM.out hwk | exact measN1 HKM.out
      · exfalso
        have h1 := rpos_at HKX.out HLO.out (by rw [HQ.out]; simpa using hls)
        have h2 := HPO.out
        have h3 := HKX.out
        omega
    · have hltn : ¬ (k : Int) < (n : Int) := by omega
      have hltd : decide ((k : Int) < (n : Int)) = false := decide_eq_false (by omega)
      have hlte : decide (k < n) = false := decide_eq_false hlt
      have HKE : Hid (k = rpos g.L fn) := by
        have h1 : k = g.L.length := by have := HN.out; omega
        show _ = _
        rw [h1]
        exact rpos_end (by rw [← h1]; exact HLO.out)
      clear hlt hk
      go_wp2
      go_quiet (fail)
      go_wp2
      obtain ⟨w6, hw6⟩ : ∃ V, V = wr.drewN nq := ⟨_, rfl⟩
      rw [← hw6]
      have hs6 : ScN wr w6 := by rw [hw6]; exact HDR.out nq
      clear hw6 e0 k0
      have hao := HAO.out
      subst hao
      have hn0 : n = 0 := by
        rw [← HN.out]
        rcases H.out.row.2 with ⟨he, h0⟩ | ⟨g', c', cur, he, _⟩
        · exact h0
        · cases he
      have hk00 : k = 0 := by have := HKN.out; omega
      have hc0 : cap = 0 := by
        rcases H.out.row.2 with ⟨he, h0⟩ | ⟨g', c', cur, he, _⟩
        · injection he with _ _ h3
        · cases he
      subst hn0
      subst hk00
      subst hc0
      refine wp_region_noPanic ?_
      refine wp_region_K 21 (fun V => ScN wr V ∧ V.cell? ⟨x, 1, none⟩ = some (.slice none 0 0) ∧ V.cell? ⟨pb, 0, none⟩ = some (.string fn) ∧ V.cell? ⟨pb, 1, none⟩ = some (.string fb) ∧ V.cell? ⟨pb, 2, none⟩ = some (.int .i64 fs)) (by kernel_rfl) (HSA.out _ hs6.dr) (fun hHeld => ?_)
      have hs0 := hs6.dr
      refine wpAnyK_take (i := 0) (oi := { dst := some 27, op := Go.Op.move (Go.Operand.tmp 0), type := 27, pos := "ref.go:67", after := #[], guard := none }) (v := ?vq63) [] rfl (by kernel_rfl) (by kernel_rfl) (by kernel_rfl) (by kernel_rfl) (by kernel_rfl) (fun _ _ _ h => h) (Or.inl ⟨by rfl, ?hyq63⟩) (by assumption) ?restq63
      case hyq63 => (intro w0 hSw; (try dsimp only at hSw); go_simp; try with_reducible rfl)
      simp only [Act.put, List.setIfInBounds_toArray, List.set_cons_zero, List.set_cons_succ]
      refine wpAnyK_take (i := 2) (oi := { dst := some 29, op := Go.Op.move (Go.Operand.tmp 0), type := 27, pos := "ref.go:67", after := #[], guard := none }) (v := ?vq64) [] rfl (by kernel_rfl) (by kernel_rfl) (by kernel_rfl) (by kernel_rfl) (by kernel_rfl) (fun _ _ _ h => h) (Or.inl ⟨by rfl, ?hyq64⟩) (by assumption) ?restq64
      case hyq64 => (intro w0 hSw; (try dsimp only at hSw); go_simp; try with_reducible rfl)
      simp only [Act.put, List.setIfInBounds_toArray, List.set_cons_zero, List.set_cons_succ]
      refine wpAnyK_take (i := 3) (oi := { dst := some 30, op := Go.Op.nilCheck (Go.Operand.tmp 29), type := 0, pos := "ref.go:67", after := #[{ on := 2, ground := Go.Ground.data }], guard := none }) (v := ?vq65) [] rfl (by kernel_rfl) (by kernel_rfl) (by kernel_rfl) (by kernel_rfl) (by kernel_rfl) (fun _ _ _ h => h) (Or.inl ⟨by rfl, ?hyq65⟩) (by assumption) ?restq65
      case hyq65 => (intro w0 hSw; (try dsimp only at hSw); go_simp; try with_reducible rfl)
      simp only [Act.put, List.setIfInBounds_toArray, List.set_cons_zero, List.set_cons_succ]
      refine wpAnyK_take (i := 4) (oi := { dst := some 31, op := Go.Op.fieldAddr 43 (Go.Operand.tmp 30) 1, type := 0, pos := "ref.go:67", after := #[{ on := 3, ground := Go.Ground.data }], guard := none }) (v := ?vq66) [] rfl (by kernel_rfl) (by kernel_rfl) (by kernel_rfl) (by kernel_rfl) (by kernel_rfl) (fun _ _ _ h => h) (Or.inl ⟨by rfl, ?hyq66⟩) (by assumption) ?restq66
      case hyq66 => (intro w0 hSw; (try dsimp only at hSw); go_simp; try with_reducible rfl)
      simp only [Act.put, List.setIfInBounds_toArray, List.set_cons_zero, List.set_cons_succ]
      refine wpAnyK_take (i := 5) (oi := { dst := some 32, op := Go.Op.load 41 (Go.Operand.tmp 31), type := 41, pos := "ref.go:67", after := #[{ on := 4, ground := Go.Ground.data }], guard := none }) (v := ?vq67) [] rfl (by kernel_rfl) (by kernel_rfl) (by kernel_rfl) (by kernel_rfl) (by kernel_rfl) (fun _ _ _ h => h) (Or.inl ⟨by rfl, ?hyq67⟩) (by assumption) ?restq67
      case hyq67 => (intro w0 hSw; (try dsimp only at hSw); go_simp; try with_reducible rfl)
      simp only [Act.put, List.setIfInBounds_toArray, List.set_cons_zero, List.set_cons_succ]
      refine wpAnyK_take (i := 6) (oi := { dst := some 33, op := Go.Op.move (Go.Operand.tmp 4), type := 3, pos := "ref.go:67", after := #[], guard := none }) (v := ?vq68) [] rfl (by kernel_rfl) (by kernel_rfl) (by kernel_rfl) (by kernel_rfl) (by kernel_rfl) (fun _ _ _ h => h) (Or.inl ⟨by rfl, ?hyq68⟩) (by assumption) ?restq68
      case hyq68 => (intro w0 hSw; (try dsimp only at hSw); go_simp; try with_reducible rfl)
      simp only [Act.put, List.setIfInBounds_toArray, List.set_cons_zero, List.set_cons_succ]
      refine wpAnyK_take (i := 7) (oi := { dst := some 34, op := Go.Op.slice 41 (Go.Operand.tmp 32) none (some (Go.Operand.tmp 33)) none, type := 41, pos := "ref.go:67", after := #[{ on := 5, ground := Go.Ground.data }, { on := 6, ground := Go.Ground.data }], guard := none }) (v := ?vq69) [] rfl (by kernel_rfl) (by kernel_rfl) (by kernel_rfl) (by kernel_rfl) (by kernel_rfl) (fun _ _ _ h => h) (Or.inl ⟨by rfl, ?hyq69⟩) (by assumption) ?restq69
      case hyq69 => (intro w0 hSw; (try dsimp only at hSw); go_simp; try with_reducible rfl)
      simp only [Act.put, List.setIfInBounds_toArray, List.set_cons_zero, List.set_cons_succ]
      refine wpAnyK_take (i := 9) (oi := { dst := some 36, op := Go.Op.load 47 (Go.Operand.tmp 3), type := 47, pos := "ref.go:67", after := #[], guard := none }) (v := ?vq70) [] rfl (by kernel_rfl) (by kernel_rfl) (by kernel_rfl) (by kernel_rfl) (by kernel_rfl) (fun _ _ _ h => h) (Or.inl ⟨by rfl, ?hyq70⟩) (by assumption) ?restq70
      case hyq70 => (intro w0 hSw; (try dsimp only at hSw); go_simp; try with_reducible rfl)
      simp only [Act.put, List.setIfInBounds_toArray, List.set_cons_zero, List.set_cons_succ]
      refine wpAnyK_take (i := 12) (oi := { dst := some 39, op := Go.Op.move (Go.Operand.tmp 0), type := 27, pos := "ref.go:67", after := #[], guard := none }) (v := ?vq71) [] rfl (by kernel_rfl) (by kernel_rfl) (by kernel_rfl) (by kernel_rfl) (by kernel_rfl) (fun _ _ _ h => h) (Or.inl ⟨by rfl, ?hyq71⟩) (by assumption) ?restq71
      case hyq71 => (intro w0 hSw; (try dsimp only at hSw); go_simp; try with_reducible rfl)
      simp only [Act.put, List.setIfInBounds_toArray, List.set_cons_zero, List.set_cons_succ]
      refine wpAnyK_take (i := 13) (oi := { dst := some 40, op := Go.Op.nilCheck (Go.Operand.tmp 39), type := 0, pos := "ref.go:67", after := #[{ on := 12, ground := Go.Ground.data }], guard := none }) (v := ?vq72) [] rfl (by kernel_rfl) (by kernel_rfl) (by kernel_rfl) (by kernel_rfl) (by kernel_rfl) (fun _ _ _ h => h) (Or.inl ⟨by rfl, ?hyq72⟩) (by assumption) ?restq72
      case hyq72 => (intro w0 hSw; (try dsimp only at hSw); go_simp; try with_reducible rfl)
      simp only [Act.put, List.setIfInBounds_toArray, List.set_cons_zero, List.set_cons_succ]
      refine wpAnyK_take (i := 14) (oi := { dst := some 41, op := Go.Op.fieldAddr 43 (Go.Operand.tmp 40) 1, type := 0, pos := "ref.go:67", after := #[{ on := 13, ground := Go.Ground.data }], guard := none }) (v := ?vq73) [] rfl (by kernel_rfl) (by kernel_rfl) (by kernel_rfl) (by kernel_rfl) (by kernel_rfl) (fun _ _ _ h => h) (Or.inl ⟨by rfl, ?hyq73⟩) (by assumption) ?restq73
      case hyq73 => (intro w0 hSw; (try dsimp only at hSw); go_simp; try with_reducible rfl)
      simp only [Act.put, List.setIfInBounds_toArray, List.set_cons_zero, List.set_cons_succ]
      refine wpAnyK_take (i := 15) (oi := { dst := some 42, op := Go.Op.load 41 (Go.Operand.tmp 41), type := 41, pos := "ref.go:67", after := #[{ on := 14, ground := Go.Ground.data }], guard := none }) (v := ?vq74) [] rfl (by kernel_rfl) (by kernel_rfl) (by kernel_rfl) (by kernel_rfl) (by kernel_rfl) (fun _ _ _ h => h) (Or.inl ⟨by rfl, ?hyq74⟩) (by assumption) ?restq74
      case hyq74 => (intro w0 hSw; (try dsimp only at hSw); go_simp; try with_reducible rfl)
      simp only [Act.put, List.setIfInBounds_toArray, List.set_cons_zero, List.set_cons_succ]
      refine wpAnyK_take (i := 16) (oi := { dst := some 43, op := Go.Op.move (Go.Operand.tmp 4), type := 3, pos := "ref.go:67", after := #[], guard := none }) (v := ?vq75) [] rfl (by kernel_rfl) (by kernel_rfl) (by kernel_rfl) (by kernel_rfl) (by kernel_rfl) (fun _ _ _ h => h) (Or.inl ⟨by rfl, ?hyq75⟩) (by assumption) ?restq75
      case hyq75 => (intro w0 hSw; (try dsimp only at hSw); go_simp; try with_reducible rfl)
      simp only [Act.put, List.setIfInBounds_toArray, List.set_cons_zero, List.set_cons_succ]
      refine wpAnyK_take (i := 17) (oi := { dst := some 44, op := Go.Op.slice 41 (Go.Operand.tmp 42) (some (Go.Operand.tmp 43)) none none, type := 41, pos := "ref.go:67", after := #[{ on := 15, ground := Go.Ground.data }, { on := 16, ground := Go.Ground.data }], guard := none }) (v := ?vq76) [] rfl (by kernel_rfl) (by kernel_rfl) (by kernel_rfl) (by kernel_rfl) (by kernel_rfl) (fun _ _ _ h => h) (Or.inl ⟨by rfl, ?hyq76⟩) (by assumption) ?restq76
      case hyq76 => (intro w0 hSw; (try dsimp only at hSw); go_simp; try with_reducible rfl)
      simp only [Act.put, List.setIfInBounds_toArray, List.set_cons_zero, List.set_cons_succ]
      refine wpAnyK_ready (rs := [1, 10]) (by kernel_rfl) (by simp) ?_
      refine AllReadyK.cons (o := { dst := some 28, op := Go.Op.buildSlice 41 0 #[], type := 41, pos := "ref.go:67", after := #[], guard := none }) rfl (fun K hK => ?_) (AllReadyK.cons (o := { dst := some 37, op := Go.Op.buildSlice 41 1 #[(0, Go.Operand.tmp 36)], type := 41, pos := "ref.go:67", after := #[{ on := 9, ground := Go.Ground.data }], guard := none }) rfl (fun K hK => ?_) AllReadyK.nil)
      · go_simp
        refine hK.out _ _ (.inr (HSA.out _ (by (repeat (first | assumption | exact ScN.start _ | apply ScN.dr | apply ScN.alloc))))) (fun hHeld => ?_)
        have hHeld := hHeld.resolve_right (by decide)
        clear hK K
        try simp only [Act.put, List.setIfInBounds_toArray, List.set_cons_zero, List.set_cons_succ]
        refine wpAnyK_ready (rs := [8, 10]) (by kernel_rfl) (by simp) ?_
        refine AllReadyK.cons (o := { dst := some 35, op := Go.Op.call { callee := Go.Callee.builtin Go.Builtin.append, args := #[Go.Operand.tmp 28, Go.Operand.tmp 34], argTypes := #[41, 41] }, type := 41, pos := "ref.go:67", after := #[{ on := 1, ground := Go.Ground.data }, { on := 7, ground := Go.Ground.data }], guard := none }) rfl (fun K hK => ?_) (AllReadyK.cons (o := { dst := some 37, op := Go.Op.buildSlice 41 1 #[(0, Go.Operand.tmp 36)], type := 41, pos := "ref.go:67", after := #[{ on := 9, ground := Go.Ground.data }], guard := none }) rfl (fun K hK => ?_) AllReadyK.nil)
        · refine step_copy_fr rfl _ _ rfl wr.heap.size _ rfl ?ownz91 _ _ _ (g.L.take 0) ?hmz91 rfl ?hhz91 ?hsumz91 ?hbasez91 ?restz91
          case ownz91 => first | exact ownFr_made w6 _ (ScN.size hs6) | exact (ownFr_made w6 _ (ScN.size hs6)).alloc _ | exact ownFr_made2 w6 _ _ (ScN.size hs6)
          case hmz91 => have := HN.out; have := HKN.out; rw [List.length_take]; omega
          case hhz91 => first | exact (HHX.out _ (by (repeat (first | assumption | exact ScN.start _ | apply ScN.dr | apply ScN.alloc)))).take 0 | exact (.inl (by have := HN.out; have := HKN.out; exact List.take_eq_nil_iff.2 (.inl (by omega))))
          case hsumz91 => have := HKN.out; have := HNL.out; omega
          case hbasez91 => exact ScN.size (by (repeat (first | assumption | exact ScN.start _ | apply ScN.dr | apply ScN.alloc)))
          intro b3 c3 w5 hown3 hb3 hg3
          have hsc3 : ScN wr w5 := ScN.grown (by (repeat (first | assumption | exact ScN.start _ | apply ScN.dr | apply ScN.alloc))) hb3
          refine hK.out _ _ (.inr (HSA.out _ (by (repeat (first | assumption | exact ScN.start _ | apply ScN.dr | apply ScN.alloc))))) (fun hHeld => ?_)
          have hHeld := hHeld.resolve_right (by decide)
          clear hK K
          try simp only [Act.put, List.setIfInBounds_toArray, List.set_cons_zero, List.set_cons_succ]
          refine wpAnyK_ready (rs := [10]) (by kernel_rfl) (by simp) ?_
          refine AllReadyK.cons (o := { dst := some 37, op := Go.Op.buildSlice 41 1 #[(0, Go.Operand.tmp 36)], type := 41, pos := "ref.go:67", after := #[{ on := 9, ground := Go.Ground.data }], guard := none }) rfl (fun K hK => ?_) AllReadyK.nil
          go_simp
          refine hK.out _ _ (.inr (HSA.out _ (by (repeat (first | assumption | exact ScN.start _ | apply ScN.dr | apply ScN.alloc))))) (fun hHeld => ?_)
          have hHeld := hHeld.resolve_right (by decide)
          clear hK K
          try simp only [Act.put, List.setIfInBounds_toArray, List.set_cons_zero, List.set_cons_succ]
          refine wpAnyK_ready (rs := [11]) (by kernel_rfl) (by simp) ?_
          refine AllReadyK.cons (o := { dst := some 38, op := Go.Op.call { callee := Go.Callee.builtin Go.Builtin.append, args := #[Go.Operand.tmp 35, Go.Operand.tmp 37], argTypes := #[41, 41] }, type := 41, pos := "ref.go:67", after := #[{ on := 8, ground := Go.Ground.data }, { on := 10, ground := Go.Ground.data }, { on := 8, ground := Go.Ground.chain }], guard := none }) rfl (fun K hK => ?_) AllReadyK.nil
          refine step_append_fr rfl _ _ rfl wr.heap.size _ _ (g.L.take 0) ?hnz82 rfl (hown3.alloc _) _ 1 1 [(⟨fn, fb, fs⟩ : Rf)] rfl rfl ?hhz82 ?hsumz82 ?hbasez82 ?restz82
          case hnz82 => have := HN.out; have := HKN.out; rw [List.length_take]; omega
          case hhz82 => exact HH3.out _
          case hsumz82 => have := HKN.out; have := HNL.out; omega
          case hbasez82 => exact ScN.size (by (repeat (first | assumption | exact ScN.start _ | apply ScN.dr | apply ScN.alloc)))
          intro b4 c4 w7 hown4 hb4 hg4
          have hsc4 : ScN wr w7 := ScN.grown (by (repeat (first | assumption | exact ScN.start _ | apply ScN.dr | apply ScN.alloc))) hb4
          refine hK.out _ _ (.inr (HSA.out _ (by (repeat (first | assumption | exact ScN.start _ | apply ScN.dr | apply ScN.alloc))))) (fun hHeld => ?_)
          have hHeld := hHeld.resolve_right (by decide)
          clear hK K
          try simp only [Act.put, List.setIfInBounds_toArray, List.set_cons_zero, List.set_cons_succ]
          refine wpAnyK_ready (rs := [18]) (by kernel_rfl) (by simp) ?_
          refine AllReadyK.cons (o := { dst := some 45, op := Go.Op.call { callee := Go.Callee.builtin Go.Builtin.append, args := #[Go.Operand.tmp 38, Go.Operand.tmp 44], argTypes := #[41, 41] }, type := 41, pos := "ref.go:67", after := #[{ on := 11, ground := Go.Ground.data }, { on := 17, ground := Go.Ground.data }, { on := 11, ground := Go.Ground.chain }], guard := none }) rfl (fun K hK => ?_) AllReadyK.nil
          refine step_append_fr rfl _ _ rfl wr.heap.size _ _ (g.L.take 0 ++ [(⟨fn, fb, fs⟩ : Rf)]) ?hnz83 rfl hown4 _ _ _ (g.L.drop 0) ?hmz83 rfl ?hhz83 ?hsumz83 ?hbasez83 ?restz83
          case hnz83 => have := HN.out; have := HKN.out; rw [List.length_append, List.length_take, List.length_singleton]; omega
          case hmz83 => have := HN.out; have := HKN.out; rw [List.length_drop]; omega
          case hhz83 => exact (.inl (by have := HN.out; have := HKN.out; exact List.drop_eq_nil_of_le (by omega)))
          case hsumz83 => have := HKN.out; have := HNL.out; omega
          case hbasez83 => exact ScN.size (by (repeat (first | assumption | exact ScN.start _ | apply ScN.dr | apply ScN.alloc)))
          intro b5 c5 w8 hown5 hb5 hg5
          have hsc5 : ScN wr w8 := ScN.grown (by (repeat (first | assumption | exact ScN.start _ | apply ScN.dr | apply ScN.alloc))) hb5
          refine hK.out _ _ (.inr (HSA.out _ (by (repeat (first | assumption | exact ScN.start _ | apply ScN.dr | apply ScN.alloc))))) (fun hHeld => ?_)
          have hHeld := hHeld.resolve_right (by decide)
          clear hK K
          try simp only [Act.put, List.setIfInBounds_toArray, List.set_cons_zero, List.set_cons_succ]
          have hpk5 := (H4.out.below hsc5.out).blk
          have f5 := hpk5.frozen 1
          have e5 := hpk5.cell (i := 1) rfl
          rw [HN.out] at e5
          refine wpAnyK_take (i := 19) (oi := { dst := some 46, op := Go.Op.nilCheck (Go.Operand.tmp 27), type := 0, pos := "ref.go:67", after := #[{ on := 0, ground := Go.Ground.data }, { on := 0, ground := Go.Ground.phase }, { on := 1, ground := Go.Ground.phase }, { on := 2, ground := Go.Ground.phase }, { on := 3, ground := Go.Ground.phase }, { on := 4, ground := Go.Ground.phase }, { on := 5, ground := Go.Ground.phase }, { on := 6, ground := Go.Ground.phase }, { on := 7, ground := Go.Ground.phase }, { on := 8, ground := Go.Ground.phase }, { on := 9, ground := Go.Ground.phase }, { on := 10, ground := Go.Ground.phase }, { on := 11, ground := Go.Ground.phase }, { on := 12, ground := Go.Ground.phase }, { on := 13, ground := Go.Ground.phase }, { on := 14, ground := Go.Ground.phase }, { on := 15, ground := Go.Ground.phase }, { on := 16, ground := Go.Ground.phase }, { on := 17, ground := Go.Ground.phase }, { on := 18, ground := Go.Ground.phase }], guard := none }) (v := ?vq84) [20] rfl (by kernel_rfl) (by kernel_rfl) (by kernel_rfl) (by kernel_rfl) (by kernel_rfl) (fun _ _ _ h => h) (Or.inl ⟨by rfl, ?hyq84⟩) (by assumption) ?restq84
          case hyq84 => (intro w0 hSw; (try dsimp only at hSw); go_simp; try with_reducible rfl)
          simp only [Act.put, List.setIfInBounds_toArray, List.set_cons_zero, List.set_cons_succ]
          refine wpAnyK_take (i := 20) (oi := { dst := some 47, op := Go.Op.fieldAddr 43 (Go.Operand.tmp 46) 1, type := 0, pos := "ref.go:67", after := #[{ on := 19, ground := Go.Ground.data }, { on := 0, ground := Go.Ground.phase }, { on := 1, ground := Go.Ground.phase }, { on := 2, ground := Go.Ground.phase }, { on := 3, ground := Go.Ground.phase }, { on := 4, ground := Go.Ground.phase }, { on := 5, ground := Go.Ground.phase }, { on := 6, ground := Go.Ground.phase }, { on := 7, ground := Go.Ground.phase }, { on := 8, ground := Go.Ground.phase }, { on := 9, ground := Go.Ground.phase }, { on := 10, ground := Go.Ground.phase }, { on := 11, ground := Go.Ground.phase }, { on := 12, ground := Go.Ground.phase }, { on := 13, ground := Go.Ground.phase }, { on := 14, ground := Go.Ground.phase }, { on := 15, ground := Go.Ground.phase }, { on := 16, ground := Go.Ground.phase }, { on := 17, ground := Go.Ground.phase }, { on := 18, ground := Go.Ground.phase }], guard := none }) (v := ?vq85) [] rfl (by kernel_rfl) (by kernel_rfl) (by kernel_rfl) (by kernel_rfl) (by kernel_rfl) (fun _ _ _ h => h) (Or.inl ⟨by rfl, ?hyq85⟩) (by assumption) ?restq85
          case hyq85 => (intro w0 hSw; (try dsimp only at hSw); go_simp; try with_reducible rfl)
          simp only [Act.put, List.setIfInBounds_toArray, List.set_cons_zero, List.set_cons_succ]
          refine wpAnyK_ready (rs := [21]) (by kernel_rfl) (by simp) ?_
          refine AllReadyK.cons (o := { dst := none, op := Go.Op.store 41 (Go.Operand.tmp 47) (Go.Operand.tmp 45), type := 0, pos := "ref.go:67", after := #[{ on := 20, ground := Go.Ground.data }, { on := 18, ground := Go.Ground.data }, { on := 18, ground := Go.Ground.chain }, { on := 0, ground := Go.Ground.phase }, { on := 1, ground := Go.Ground.phase }, { on := 2, ground := Go.Ground.phase }, { on := 3, ground := Go.Ground.phase }, { on := 4, ground := Go.Ground.phase }, { on := 5, ground := Go.Ground.phase }, { on := 6, ground := Go.Ground.phase }, { on := 7, ground := Go.Ground.phase }, { on := 8, ground := Go.Ground.phase }, { on := 9, ground := Go.Ground.phase }, { on := 10, ground := Go.Ground.phase }, { on := 11, ground := Go.Ground.phase }, { on := 12, ground := Go.Ground.phase }, { on := 13, ground := Go.Ground.phase }, { on := 14, ground := Go.Ground.phase }, { on := 15, ground := Go.Ground.phase }, { on := 16, ground := Go.Ground.phase }, { on := 17, ground := Go.Ground.phase }, { on := 18, ground := Go.Ground.phase }], guard := none }) rfl (fun K hK => ?_) AllReadyK.nil
          go_simp
          refine hK.out _ _ (.inl rfl) (fun _ => ?_)
          clear hK K
          try simp only [Act.put, List.setIfInBounds_toArray, List.set_cons_zero, List.set_cons_succ]
          refine wpAnyK_done (by kernel_rfl) ?_ _
          refine NoPanic.normal ?_
          have HEND := hid (HFIN.out w8 _ b5 c5 0 _ hsc5 HKE.out (by have := HKN.out; omega) hown5 rfl)
          clear hown3 hown4 hown5 hsc3 hsc4 hsc5 hb3 hb4 hb5 hg3 hg4 hg5 hHeld hs0 f5 e5 hpk5
          go_wp2
          all_goals (go_end0; exact ⟨rfl, HEND.out⟩)
        · go_simp
          refine hK.out _ _ (.inr (HSA.out _ (by (repeat (first | assumption | exact ScN.start _ | apply ScN.dr | apply ScN.alloc))))) (fun hHeld => ?_)
          have hHeld := hHeld.resolve_right (by decide)
          clear hK K
          try simp only [Act.put, List.setIfInBounds_toArray, List.set_cons_zero, List.set_cons_succ]
          refine wpAnyK_ready (rs := [8]) (by kernel_rfl) (by simp) ?_
          refine AllReadyK.cons (o := { dst := some 35, op := Go.Op.call { callee := Go.Callee.builtin Go.Builtin.append, args := #[Go.Operand.tmp 28, Go.Operand.tmp 34], argTypes := #[41, 41] }, type := 41, pos := "ref.go:67", after := #[{ on := 1, ground := Go.Ground.data }, { on := 7, ground := Go.Ground.data }], guard := none }) rfl (fun K hK => ?_) AllReadyK.nil
          refine step_copy_fr rfl _ _ rfl wr.heap.size _ rfl ?ownz77 _ _ _ (g.L.take 0) ?hmz77 rfl ?hhz77 ?hsumz77 ?hbasez77 ?restz77
          case ownz77 => first | exact ownFr_made w6 _ (ScN.size hs6) | exact (ownFr_made w6 _ (ScN.size hs6)).alloc _ | exact ownFr_made2 w6 _ _ (ScN.size hs6)
          case hmz77 => have := HN.out; have := HKN.out; rw [List.length_take]; omega
          case hhz77 => first | exact (HHX.out _ (by (repeat (first | assumption | exact ScN.start _ | apply ScN.dr | apply ScN.alloc)))).take 0 | exact (.inl (by have := HN.out; have := HKN.out; exact List.take_eq_nil_iff.2 (.inl (by omega))))
          case hsumz77 => have := HKN.out; have := HNL.out; omega
          case hbasez77 => exact ScN.size (by (repeat (first | assumption | exact ScN.start _ | apply ScN.dr | apply ScN.alloc)))
          intro b3 c3 w5 hown3 hb3 hg3
          have hsc3 : ScN wr w5 := ScN.grown (by (repeat (first | assumption | exact ScN.start _ | apply ScN.dr | apply ScN.alloc))) hb3
          refine hK.out _ _ (.inr (HSA.out _ (by (repeat (first | assumption | exact ScN.start _ | apply ScN.dr | apply ScN.alloc))))) (fun hHeld => ?_)
          have hHeld := hHeld.resolve_right (by decide)
          clear hK K
          try simp only [Act.put, List.setIfInBounds_toArray, List.set_cons_zero, List.set_cons_succ]
          refine wpAnyK_ready (rs := [11]) (by kernel_rfl) (by simp) ?_
          refine AllReadyK.cons (o := { dst := some 38, op := Go.Op.call { callee := Go.Callee.builtin Go.Builtin.append, args := #[Go.Operand.tmp 35, Go.Operand.tmp 37], argTypes := #[41, 41] }, type := 41, pos := "ref.go:67", after := #[{ on := 8, ground := Go.Ground.data }, { on := 10, ground := Go.Ground.data }, { on := 8, ground := Go.Ground.chain }], guard := none }) rfl (fun K hK => ?_) AllReadyK.nil
          refine step_append_fr rfl _ _ rfl wr.heap.size _ _ (g.L.take 0) ?hnz78 rfl (hown3) _ 1 1 [(⟨fn, fb, fs⟩ : Rf)] rfl rfl ?hhz78 ?hsumz78 ?hbasez78 ?restz78
          case hnz78 => have := HN.out; have := HKN.out; rw [List.length_take]; omega
          case hhz78 => exact held_grownFr (show HeldFr _ (some ⟨w6.heap.size + 1, 0, none⟩) [⟨fn, fb, fs⟩] from HHB.out _) hg3 (by simp)
          case hsumz78 => have := HKN.out; have := HNL.out; omega
          case hbasez78 => exact ScN.size (by (repeat (first | assumption | exact ScN.start _ | apply ScN.dr | apply ScN.alloc)))
          intro b4 c4 w7 hown4 hb4 hg4
          have hsc4 : ScN wr w7 := ScN.grown (by (repeat (first | assumption | exact ScN.start _ | apply ScN.dr | apply ScN.alloc))) hb4
          refine hK.out _ _ (.inr (HSA.out _ (by (repeat (first | assumption | exact ScN.start _ | apply ScN.dr | apply ScN.alloc))))) (fun hHeld => ?_)
          have hHeld := hHeld.resolve_right (by decide)
          clear hK K
          try simp only [Act.put, List.setIfInBounds_toArray, List.set_cons_zero, List.set_cons_succ]
          refine wpAnyK_ready (rs := [18]) (by kernel_rfl) (by simp) ?_
          refine AllReadyK.cons (o := { dst := some 45, op := Go.Op.call { callee := Go.Callee.builtin Go.Builtin.append, args := #[Go.Operand.tmp 38, Go.Operand.tmp 44], argTypes := #[41, 41] }, type := 41, pos := "ref.go:67", after := #[{ on := 11, ground := Go.Ground.data }, { on := 17, ground := Go.Ground.data }, { on := 11, ground := Go.Ground.chain }], guard := none }) rfl (fun K hK => ?_) AllReadyK.nil
          refine step_append_fr rfl _ _ rfl wr.heap.size _ _ (g.L.take 0 ++ [(⟨fn, fb, fs⟩ : Rf)]) ?hnz79 rfl hown4 _ _ _ (g.L.drop 0) ?hmz79 rfl ?hhz79 ?hsumz79 ?hbasez79 ?restz79
          case hnz79 => have := HN.out; have := HKN.out; rw [List.length_append, List.length_take, List.length_singleton]; omega
          case hmz79 => have := HN.out; have := HKN.out; rw [List.length_drop]; omega
          case hhz79 => exact (.inl (by have := HN.out; have := HKN.out; exact List.drop_eq_nil_of_le (by omega)))
          case hsumz79 => have := HKN.out; have := HNL.out; omega
          case hbasez79 => exact ScN.size (by (repeat (first | assumption | exact ScN.start _ | apply ScN.dr | apply ScN.alloc)))
          intro b5 c5 w8 hown5 hb5 hg5
          have hsc5 : ScN wr w8 := ScN.grown (by (repeat (first | assumption | exact ScN.start _ | apply ScN.dr | apply ScN.alloc))) hb5
          refine hK.out _ _ (.inr (HSA.out _ (by (repeat (first | assumption | exact ScN.start _ | apply ScN.dr | apply ScN.alloc))))) (fun hHeld => ?_)
          have hHeld := hHeld.resolve_right (by decide)
          clear hK K
          try simp only [Act.put, List.setIfInBounds_toArray, List.set_cons_zero, List.set_cons_succ]
          have hpk5 := (H4.out.below hsc5.out).blk
          have f5 := hpk5.frozen 1
          have e5 := hpk5.cell (i := 1) rfl
          rw [HN.out] at e5
          refine wpAnyK_take (i := 19) (oi := { dst := some 46, op := Go.Op.nilCheck (Go.Operand.tmp 27), type := 0, pos := "ref.go:67", after := #[{ on := 0, ground := Go.Ground.data }, { on := 0, ground := Go.Ground.phase }, { on := 1, ground := Go.Ground.phase }, { on := 2, ground := Go.Ground.phase }, { on := 3, ground := Go.Ground.phase }, { on := 4, ground := Go.Ground.phase }, { on := 5, ground := Go.Ground.phase }, { on := 6, ground := Go.Ground.phase }, { on := 7, ground := Go.Ground.phase }, { on := 8, ground := Go.Ground.phase }, { on := 9, ground := Go.Ground.phase }, { on := 10, ground := Go.Ground.phase }, { on := 11, ground := Go.Ground.phase }, { on := 12, ground := Go.Ground.phase }, { on := 13, ground := Go.Ground.phase }, { on := 14, ground := Go.Ground.phase }, { on := 15, ground := Go.Ground.phase }, { on := 16, ground := Go.Ground.phase }, { on := 17, ground := Go.Ground.phase }, { on := 18, ground := Go.Ground.phase }], guard := none }) (v := ?vq80) [20] rfl (by kernel_rfl) (by kernel_rfl) (by kernel_rfl) (by kernel_rfl) (by kernel_rfl) (fun _ _ _ h => h) (Or.inl ⟨by rfl, ?hyq80⟩) (by assumption) ?restq80
          case hyq80 => (intro w0 hSw; (try dsimp only at hSw); go_simp; try with_reducible rfl)
          simp only [Act.put, List.setIfInBounds_toArray, List.set_cons_zero, List.set_cons_succ]
          refine wpAnyK_take (i := 20) (oi := { dst := some 47, op := Go.Op.fieldAddr 43 (Go.Operand.tmp 46) 1, type := 0, pos := "ref.go:67", after := #[{ on := 19, ground := Go.Ground.data }, { on := 0, ground := Go.Ground.phase }, { on := 1, ground := Go.Ground.phase }, { on := 2, ground := Go.Ground.phase }, { on := 3, ground := Go.Ground.phase }, { on := 4, ground := Go.Ground.phase }, { on := 5, ground := Go.Ground.phase }, { on := 6, ground := Go.Ground.phase }, { on := 7, ground := Go.Ground.phase }, { on := 8, ground := Go.Ground.phase }, { on := 9, ground := Go.Ground.phase }, { on := 10, ground := Go.Ground.phase }, { on := 11, ground := Go.Ground.phase }, { on := 12, ground := Go.Ground.phase }, { on := 13, ground := Go.Ground.phase }, { on := 14, ground := Go.Ground.phase }, { on := 15, ground := Go.Ground.phase }, { on := 16, ground := Go.Ground.phase }, { on := 17, ground := Go.Ground.phase }, { on := 18, ground := Go.Ground.phase }], guard := none }) (v := ?vq81) [] rfl (by kernel_rfl) (by kernel_rfl) (by kernel_rfl) (by kernel_rfl) (by kernel_rfl) (fun _ _ _ h => h) (Or.inl ⟨by rfl, ?hyq81⟩) (by assumption) ?restq81
          case hyq81 => (intro w0 hSw; (try dsimp only at hSw); go_simp; try with_reducible rfl)
          simp only [Act.put, List.setIfInBounds_toArray, List.set_cons_zero, List.set_cons_succ]
          refine wpAnyK_ready (rs := [21]) (by kernel_rfl) (by simp) ?_
          refine AllReadyK.cons (o := { dst := none, op := Go.Op.store 41 (Go.Operand.tmp 47) (Go.Operand.tmp 45), type := 0, pos := "ref.go:67", after := #[{ on := 20, ground := Go.Ground.data }, { on := 18, ground := Go.Ground.data }, { on := 18, ground := Go.Ground.chain }, { on := 0, ground := Go.Ground.phase }, { on := 1, ground := Go.Ground.phase }, { on := 2, ground := Go.Ground.phase }, { on := 3, ground := Go.Ground.phase }, { on := 4, ground := Go.Ground.phase }, { on := 5, ground := Go.Ground.phase }, { on := 6, ground := Go.Ground.phase }, { on := 7, ground := Go.Ground.phase }, { on := 8, ground := Go.Ground.phase }, { on := 9, ground := Go.Ground.phase }, { on := 10, ground := Go.Ground.phase }, { on := 11, ground := Go.Ground.phase }, { on := 12, ground := Go.Ground.phase }, { on := 13, ground := Go.Ground.phase }, { on := 14, ground := Go.Ground.phase }, { on := 15, ground := Go.Ground.phase }, { on := 16, ground := Go.Ground.phase }, { on := 17, ground := Go.Ground.phase }, { on := 18, ground := Go.Ground.phase }], guard := none }) rfl (fun K hK => ?_) AllReadyK.nil
          go_simp
          refine hK.out _ _ (.inl rfl) (fun _ => ?_)
          clear hK K
          try simp only [Act.put, List.setIfInBounds_toArray, List.set_cons_zero, List.set_cons_succ]
          refine wpAnyK_done (by kernel_rfl) ?_ _
          refine NoPanic.normal ?_
          have HEND := hid (HFIN.out w8 _ b5 c5 0 _ hsc5 HKE.out (by have := HKN.out; omega) hown5 rfl)
          clear hown3 hown4 hown5 hsc3 hsc4 hsc5 hb3 hb4 hb5 hg3 hg4 hg5 hHeld hs0 f5 e5 hpk5
          go_wp2
          all_goals (go_end0; exact ⟨rfl, HEND.out⟩)
      · go_simp
        refine hK.out _ _ (.inr (HSA.out _ (by (repeat (first | assumption | exact ScN.start _ | apply ScN.dr | apply ScN.alloc))))) (fun hHeld => ?_)
        have hHeld := hHeld.resolve_right (by decide)
        clear hK K
        try simp only [Act.put, List.setIfInBounds_toArray, List.set_cons_zero, List.set_cons_succ]
        refine wpAnyK_ready (rs := [1]) (by kernel_rfl) (by simp) ?_
        refine AllReadyK.cons (o := { dst := some 28, op := Go.Op.buildSlice 41 0 #[], type := 41, pos := "ref.go:67", after := #[], guard := none }) rfl (fun K hK => ?_) AllReadyK.nil
        go_simp
        refine hK.out _ _ (.inr (HSA.out _ (by (repeat (first | assumption | exact ScN.start _ | apply ScN.dr | apply ScN.alloc))))) (fun hHeld => ?_)
        have hHeld := hHeld.resolve_right (by decide)
        clear hK K
        try simp only [Act.put, List.setIfInBounds_toArray, List.set_cons_zero, List.set_cons_succ]
        refine wpAnyK_ready (rs := [8]) (by kernel_rfl) (by simp) ?_
        refine AllReadyK.cons (o := { dst := some 35, op := Go.Op.call { callee := Go.Callee.builtin Go.Builtin.append, args := #[Go.Operand.tmp 28, Go.Operand.tmp 34], argTypes := #[41, 41] }, type := 41, pos := "ref.go:67", after := #[{ on := 1, ground := Go.Ground.data }, { on := 7, ground := Go.Ground.data }], guard := none }) rfl (fun K hK => ?_) AllReadyK.nil
        refine step_copy_fr rfl _ _ rfl wr.heap.size _ rfl ?ownz86 _ _ _ (g.L.take 0) ?hmz86 rfl ?hhz86 ?hsumz86 ?hbasez86 ?restz86
        case ownz86 => first | exact ownFr_made w6 _ (ScN.size hs6) | exact (ownFr_made w6 _ (ScN.size hs6)).alloc _ | exact ownFr_made2 w6 _ _ (ScN.size hs6)
        case hmz86 => have := HN.out; have := HKN.out; rw [List.length_take]; omega
        case hhz86 => first | exact (HHX.out _ (by (repeat (first | assumption | exact ScN.start _ | apply ScN.dr | apply ScN.alloc)))).take 0 | exact (.inl (by have := HN.out; have := HKN.out; exact List.take_eq_nil_iff.2 (.inl (by omega))))
        case hsumz86 => have := HKN.out; have := HNL.out; omega
        case hbasez86 => exact ScN.size (by (repeat (first | assumption | exact ScN.start _ | apply ScN.dr | apply ScN.alloc)))
        intro b3 c3 w5 hown3 hb3 hg3
        have hsc3 : ScN wr w5 := ScN.grown (by (repeat (first | assumption | exact ScN.start _ | apply ScN.dr | apply ScN.alloc))) hb3
        refine hK.out _ _ (.inr (HSA.out _ (by (repeat (first | assumption | exact ScN.start _ | apply ScN.dr | apply ScN.alloc))))) (fun hHeld => ?_)
        have hHeld := hHeld.resolve_right (by decide)
        clear hK K
        try simp only [Act.put, List.setIfInBounds_toArray, List.set_cons_zero, List.set_cons_succ]
        refine wpAnyK_ready (rs := [11]) (by kernel_rfl) (by simp) ?_
        refine AllReadyK.cons (o := { dst := some 38, op := Go.Op.call { callee := Go.Callee.builtin Go.Builtin.append, args := #[Go.Operand.tmp 35, Go.Operand.tmp 37], argTypes := #[41, 41] }, type := 41, pos := "ref.go:67", after := #[{ on := 8, ground := Go.Ground.data }, { on := 10, ground := Go.Ground.data }, { on := 8, ground := Go.Ground.chain }], guard := none }) rfl (fun K hK => ?_) AllReadyK.nil
        refine step_append_fr rfl _ _ rfl wr.heap.size _ _ (g.L.take 0) ?hnz87 rfl (hown3) _ 1 1 [(⟨fn, fb, fs⟩ : Rf)] rfl rfl ?hhz87 ?hsumz87 ?hbasez87 ?restz87
        case hnz87 => have := HN.out; have := HKN.out; rw [List.length_take]; omega
        case hhz87 => exact held_grownFr (show HeldFr _ (some ⟨w6.heap.size, 0, none⟩) [⟨fn, fb, fs⟩] from HHA.out _) hg3 (by simp)
        case hsumz87 => have := HKN.out; have := HNL.out; omega
        case hbasez87 => exact ScN.size (by (repeat (first | assumption | exact ScN.start _ | apply ScN.dr | apply ScN.alloc)))
        intro b4 c4 w7 hown4 hb4 hg4
        have hsc4 : ScN wr w7 := ScN.grown (by (repeat (first | assumption | exact ScN.start _ | apply ScN.dr | apply ScN.alloc))) hb4
        refine hK.out _ _ (.inr (HSA.out _ (by (repeat (first | assumption | exact ScN.start _ | apply ScN.dr | apply ScN.alloc))))) (fun hHeld => ?_)
        have hHeld := hHeld.resolve_right (by decide)
        clear hK K
        try simp only [Act.put, List.setIfInBounds_toArray, List.set_cons_zero, List.set_cons_succ]
        refine wpAnyK_ready (rs := [18]) (by kernel_rfl) (by simp) ?_
        refine AllReadyK.cons (o := { dst := some 45, op := Go.Op.call { callee := Go.Callee.builtin Go.Builtin.append, args := #[Go.Operand.tmp 38, Go.Operand.tmp 44], argTypes := #[41, 41] }, type := 41, pos := "ref.go:67", after := #[{ on := 11, ground := Go.Ground.data }, { on := 17, ground := Go.Ground.data }, { on := 11, ground := Go.Ground.chain }], guard := none }) rfl (fun K hK => ?_) AllReadyK.nil
        refine step_append_fr rfl _ _ rfl wr.heap.size _ _ (g.L.take 0 ++ [(⟨fn, fb, fs⟩ : Rf)]) ?hnz88 rfl hown4 _ _ _ (g.L.drop 0) ?hmz88 rfl ?hhz88 ?hsumz88 ?hbasez88 ?restz88
        case hnz88 => have := HN.out; have := HKN.out; rw [List.length_append, List.length_take, List.length_singleton]; omega
        case hmz88 => have := HN.out; have := HKN.out; rw [List.length_drop]; omega
        case hhz88 => exact (.inl (by have := HN.out; have := HKN.out; exact List.drop_eq_nil_of_le (by omega)))
        case hsumz88 => have := HKN.out; have := HNL.out; omega
        case hbasez88 => exact ScN.size (by (repeat (first | assumption | exact ScN.start _ | apply ScN.dr | apply ScN.alloc)))
        intro b5 c5 w8 hown5 hb5 hg5
        have hsc5 : ScN wr w8 := ScN.grown (by (repeat (first | assumption | exact ScN.start _ | apply ScN.dr | apply ScN.alloc))) hb5
        refine hK.out _ _ (.inr (HSA.out _ (by (repeat (first | assumption | exact ScN.start _ | apply ScN.dr | apply ScN.alloc))))) (fun hHeld => ?_)
        have hHeld := hHeld.resolve_right (by decide)
        clear hK K
        try simp only [Act.put, List.setIfInBounds_toArray, List.set_cons_zero, List.set_cons_succ]
        have hpk5 := (H4.out.below hsc5.out).blk
        have f5 := hpk5.frozen 1
        have e5 := hpk5.cell (i := 1) rfl
        rw [HN.out] at e5
        refine wpAnyK_take (i := 19) (oi := { dst := some 46, op := Go.Op.nilCheck (Go.Operand.tmp 27), type := 0, pos := "ref.go:67", after := #[{ on := 0, ground := Go.Ground.data }, { on := 0, ground := Go.Ground.phase }, { on := 1, ground := Go.Ground.phase }, { on := 2, ground := Go.Ground.phase }, { on := 3, ground := Go.Ground.phase }, { on := 4, ground := Go.Ground.phase }, { on := 5, ground := Go.Ground.phase }, { on := 6, ground := Go.Ground.phase }, { on := 7, ground := Go.Ground.phase }, { on := 8, ground := Go.Ground.phase }, { on := 9, ground := Go.Ground.phase }, { on := 10, ground := Go.Ground.phase }, { on := 11, ground := Go.Ground.phase }, { on := 12, ground := Go.Ground.phase }, { on := 13, ground := Go.Ground.phase }, { on := 14, ground := Go.Ground.phase }, { on := 15, ground := Go.Ground.phase }, { on := 16, ground := Go.Ground.phase }, { on := 17, ground := Go.Ground.phase }, { on := 18, ground := Go.Ground.phase }], guard := none }) (v := ?vq89) [20] rfl (by kernel_rfl) (by kernel_rfl) (by kernel_rfl) (by kernel_rfl) (by kernel_rfl) (fun _ _ _ h => h) (Or.inl ⟨by rfl, ?hyq89⟩) (by assumption) ?restq89
        case hyq89 => (intro w0 hSw; (try dsimp only at hSw); go_simp; try with_reducible rfl)
        simp only [Act.put, List.setIfInBounds_toArray, List.set_cons_zero, List.set_cons_succ]
        refine wpAnyK_take (i := 20) (oi := { dst := some 47, op := Go.Op.fieldAddr 43 (Go.Operand.tmp 46) 1, type := 0, pos := "ref.go:67", after := #[{ on := 19, ground := Go.Ground.data }, { on := 0, ground := Go.Ground.phase }, { on := 1, ground := Go.Ground.phase }, { on := 2, ground := Go.Ground.phase }, { on := 3, ground := Go.Ground.phase }, { on := 4, ground := Go.Ground.phase }, { on := 5, ground := Go.Ground.phase }, { on := 6, ground := Go.Ground.phase }, { on := 7, ground := Go.Ground.phase }, { on := 8, ground := Go.Ground.phase }, { on := 9, ground := Go.Ground.phase }, { on := 10, ground := Go.Ground.phase }, { on := 11, ground := Go.Ground.phase }, { on := 12, ground := Go.Ground.phase }, { on := 13, ground := Go.Ground.phase }, { on := 14, ground := Go.Ground.phase }, { on := 15, ground := Go.Ground.phase }, { on := 16, ground := Go.Ground.phase }, { on := 17, ground := Go.Ground.phase }, { on := 18, ground := Go.Ground.phase }], guard := none }) (v := ?vq90) [] rfl (by kernel_rfl) (by kernel_rfl) (by kernel_rfl) (by kernel_rfl) (by kernel_rfl) (fun _ _ _ h => h) (Or.inl ⟨by rfl, ?hyq90⟩) (by assumption) ?restq90
        case hyq90 => (intro w0 hSw; (try dsimp only at hSw); go_simp; try with_reducible rfl)
        simp only [Act.put, List.setIfInBounds_toArray, List.set_cons_zero, List.set_cons_succ]
        refine wpAnyK_ready (rs := [21]) (by kernel_rfl) (by simp) ?_
        refine AllReadyK.cons (o := { dst := none, op := Go.Op.store 41 (Go.Operand.tmp 47) (Go.Operand.tmp 45), type := 0, pos := "ref.go:67", after := #[{ on := 20, ground := Go.Ground.data }, { on := 18, ground := Go.Ground.data }, { on := 18, ground := Go.Ground.chain }, { on := 0, ground := Go.Ground.phase }, { on := 1, ground := Go.Ground.phase }, { on := 2, ground := Go.Ground.phase }, { on := 3, ground := Go.Ground.phase }, { on := 4, ground := Go.Ground.phase }, { on := 5, ground := Go.Ground.phase }, { on := 6, ground := Go.Ground.phase }, { on := 7, ground := Go.Ground.phase }, { on := 8, ground := Go.Ground.phase }, { on := 9, ground := Go.Ground.phase }, { on := 10, ground := Go.Ground.phase }, { on := 11, ground := Go.Ground.phase }, { on := 12, ground := Go.Ground.phase }, { on := 13, ground := Go.Ground.phase }, { on := 14, ground := Go.Ground.phase }, { on := 15, ground := Go.Ground.phase }, { on := 16, ground := Go.Ground.phase }, { on := 17, ground := Go.Ground.phase }, { on := 18, ground := Go.Ground.phase }], guard := none }) rfl (fun K hK => ?_) AllReadyK.nil
        go_simp
        refine hK.out _ _ (.inl rfl) (fun _ => ?_)
        clear hK K
        try simp only [Act.put, List.setIfInBounds_toArray, List.set_cons_zero, List.set_cons_succ]
        refine wpAnyK_done (by kernel_rfl) ?_ _
        refine NoPanic.normal ?_
        have HEND := hid (HFIN.out w8 _ b5 c5 0 _ hsc5 HKE.out (by have := HKN.out; omega) hown5 rfl)
        clear hown3 hown4 hown5 hsc3 hsc4 hsc5 hb3 hb4 hb5 hg3 hg4 hg5 hHeld hs0 f5 e5 hpk5
        go_wp2
        all_goals (go_end0; exact ⟨rfl, HEND.out⟩)
end Go.Proofs.Ytjfohnkfcfifeaa
