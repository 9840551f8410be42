/-
  The document's disk: drop.
-/
import Derived.Test.YtjfohnkfcfifeaaRxC
namespace Go.Proofs.Ytjfohnkfcfifeaa
open Go.RowKit Go.Maps
set_option linter.unusedSimpArgs false
set_option maxRecDepth 1000000 in
set_option maxHeartbeats 40000000 in
theorem XdAt.drop {w : World} {B x : Nat} {size : Int} {g : Xd} {eo : Option Addr} {cap : Nat} (h : XdAt w B x size g eo cap) (hB : B ≤ w.heap.size) (k : Nat) (hkL : k < g.L.length) : Calls Try.prog 55 #[.pointer (some ⟨x, 0, none⟩), .int .i64 (k : Int)] w fun e w' => e = .returned (.tuple #[]) ∧ XdTo B w w' x size (FootZ x eo g.L.length cap) (dropX g k) := by
  obtain ⟨b, off, heo⟩ : ∃ b off, eo = some ⟨b, off, none⟩ := by
    obtain ⟨b, heo⟩ := h.zero (by omega)
    exact ⟨b, 0, heo⟩
  subst heo
  have H := hid h
  have HBB := hid hB
  have HKX := hid hkL
  obtain ⟨n, HN⟩ : ∃ n, Hid (g.L.length = n) := ⟨_, hid rfl⟩
  have HNL : Hid (n ≤ 64) := by rw [← HN.out]; exact h.few
  have HCP : Hid (n ≤ cap) := by rw [← HN.out]; exact h.held.2
  have hk0 : (0 : Int) ≤ (k : Int) := by omega
  have hkn : (k : Int) < (n : Int) := by have := HN.out; omega
  have hkn2 : (k : Int) ≤ (n : Int) := by omega
  have hkc : (k : Int) ≤ (cap : Int) := by have := HCP.out; omega
  have hnc : (n : Int) ≤ (cap : Int) := by have := HCP.out; omega
  have hk1 : (0 : Int) ≤ (k : Int) + 1 := by omega
  have hk1n : (k : Int) + 1 ≤ (n : Int) := by omega
  have hk1c : (k : Int) + 1 ≤ (cap : Int) := by omega
  have hwk : IntKind.i64.wrap ((k : Int) + 1) = (k : Int) + 1 := by rw [IntKind.wrap_i64]; have h1 := HNL.out; omega
  have e0 := h.blk.cell (i := 1) rfl
  rw [HN.out] at e0
  have HFIN : Hid (∀ w5 W bo cp r, ScN w w5 → r + 1 = n → w5.ownsRow w.heap.size 47 3 (.slice bo r cp) r (flatR (g.L.take k ++ g.L.drop (k + 1))) → W = w5.setCell ⟨x, 1, none⟩ (.slice bo r cp) → XdTo B w W x size (FootZ x (some ⟨b, off, none⟩) g.L.length cap) (dropX g k)) := fun w5 W bo cp r e1 e3 e4 e5 => by
    have hlen := dropL_len HKX.out
    have htot := rtotal_drop HKX.out
    have hrm := H.out.room
    have h9 := HNL.out
    have h8 := HN.out
    exact xd_new H.out HBB.out (dropL g.L k) (by omega) (by omega) (by omega) (Below.refl _ _) e1 e4 e5
  have HHX : Hid (∀ V, ScN w V → HeldFr V (some ⟨b, off, none⟩) g.L) := fun V hV => (H.out.below hV.out).held.1
  have HSA : Hid (∀ V, ScN w V → (ScN w V ∧ V.cell? ⟨x, 1, none⟩ = some (.slice (some ⟨b, off, none⟩) n cap))) := fun V hV => by
    have h1 := (H.out.below hV.out).blk.cell (i := 1) rfl
    rw [HN.out] at h1
    exact ⟨hV, h1⟩
  have hs6 : ScN w w := ScN.start w
  clear h hB hkL
  go_enter Try.func55, Try.ntmps55
  go_wp2
  refine wp_region_noPanic ?_
  refine wp_region_K 19 (fun V => ScN w V ∧ V.cell? ⟨x, 1, none⟩ = some (.slice (some ⟨b, off, none⟩) n cap)) (by kernel_rfl) (HSA.out _ hs6.dr) (fun hHeld => ?_)
  have hs0 := hs6.dr
  refine wpAnyK_take (i := 0) (oi := { dst := some 4, op := Go.Op.move (Go.Operand.tmp 0), type := 27, pos := "ref.go:72", after := #[], guard := none }) (v := ?vq94) [] rfl (by kernel_rfl) (by kernel_rfl) (by kernel_rfl) (by kernel_rfl) (by kernel_rfl) (fun _ _ _ h => h) (Or.inl ⟨by rfl, ?hyq94⟩) (by assumption) ?restq94
  case hyq94 => (intro w0 hSw; (try dsimp only at hSw); go_simp; try with_reducible rfl)
  simp only [Act.put, List.setIfInBounds_toArray, List.set_cons_zero, List.set_cons_succ]
  refine wpAnyK_take (i := 2) (oi := { dst := some 6, op := Go.Op.move (Go.Operand.tmp 0), type := 27, pos := "ref.go:72", after := #[], guard := none }) (v := ?vq95) [] rfl (by kernel_rfl) (by kernel_rfl) (by kernel_rfl) (by kernel_rfl) (by kernel_rfl) (fun _ _ _ h => h) (Or.inl ⟨by rfl, ?hyq95⟩) (by assumption) ?restq95
  case hyq95 => (intro w0 hSw; (try dsimp only at hSw); go_simp; try with_reducible rfl)
  simp only [Act.put, List.setIfInBounds_toArray, List.set_cons_zero, List.set_cons_succ]
  refine wpAnyK_take (i := 3) (oi := { dst := some 7, op := Go.Op.nilCheck (Go.Operand.tmp 6), type := 0, pos := "ref.go:72", after := #[{ on := 2, ground := Go.Ground.data }], guard := none }) (v := ?vq96) [] rfl (by kernel_rfl) (by kernel_rfl) (by kernel_rfl) (by kernel_rfl) (by kernel_rfl) (fun _ _ _ h => h) (Or.inl ⟨by rfl, ?hyq96⟩) (by assumption) ?restq96
  case hyq96 => (intro w0 hSw; (try dsimp only at hSw); go_simp; try with_reducible rfl)
  simp only [Act.put, List.setIfInBounds_toArray, List.set_cons_zero, List.set_cons_succ]
  refine wpAnyK_take (i := 4) (oi := { dst := some 8, op := Go.Op.fieldAddr 43 (Go.Operand.tmp 7) 1, type := 0, pos := "ref.go:72", after := #[{ on := 3, ground := Go.Ground.data }], guard := none }) (v := ?vq97) [] rfl (by kernel_rfl) (by kernel_rfl) (by kernel_rfl) (by kernel_rfl) (by kernel_rfl) (fun _ _ _ h => h) (Or.inl ⟨by rfl, ?hyq97⟩) (by assumption) ?restq97
  case hyq97 => (intro w0 hSw; (try dsimp only at hSw); go_simp; try with_reducible rfl)
  simp only [Act.put, List.setIfInBounds_toArray, List.set_cons_zero, List.set_cons_succ]
  refine wpAnyK_take (i := 5) (oi := { dst := some 9, op := Go.Op.load 41 (Go.Operand.tmp 8), type := 41, pos := "ref.go:72", after := #[{ on := 4, ground := Go.Ground.data }], guard := none }) (v := ?vq98) [] rfl (by kernel_rfl) (by kernel_rfl) (by kernel_rfl) (by kernel_rfl) (by kernel_rfl) (fun _ _ _ h => h) (Or.inl ⟨by rfl, ?hyq98⟩) (by assumption) ?restq98
  case hyq98 => (intro w0 hSw; (try dsimp only at hSw); go_simp; try with_reducible rfl)
  simp only [Act.put, List.setIfInBounds_toArray, List.set_cons_zero, List.set_cons_succ]
  refine wpAnyK_take (i := 6) (oi := { dst := some 10, op := Go.Op.move (Go.Operand.tmp 1), type := 3, pos := "ref.go:72", after := #[], guard := none }) (v := ?vq99) [] rfl (by kernel_rfl) (by kernel_rfl) (by kernel_rfl) (by kernel_rfl) (by kernel_rfl) (fun _ _ _ h => h) (Or.inl ⟨by rfl, ?hyq99⟩) (by assumption) ?restq99
  case hyq99 => (intro w0 hSw; (try dsimp only at hSw); go_simp; try with_reducible rfl)
  simp only [Act.put, List.setIfInBounds_toArray, List.set_cons_zero, List.set_cons_succ]
  refine wpAnyK_take (i := 7) (oi := { dst := some 11, op := Go.Op.slice 41 (Go.Operand.tmp 9) none (some (Go.Operand.tmp 10)) none, type := 41, pos := "ref.go:72", after := #[{ on := 5, ground := Go.Ground.data }, { on := 6, ground := Go.Ground.data }], guard := none }) (v := ?vq100) [] rfl (by kernel_rfl) (by kernel_rfl) (by kernel_rfl) (by kernel_rfl) (by kernel_rfl) (fun _ _ _ h => h) (Or.inl ⟨by rfl, ?hyq100⟩) (by assumption) ?restq100
  case hyq100 => (intro w0 hSw; (try dsimp only at hSw); go_simp; try with_reducible rfl)
  simp only [Act.put, List.setIfInBounds_toArray, List.set_cons_zero, List.set_cons_succ]
  refine wpAnyK_take (i := 9) (oi := { dst := some 13, op := Go.Op.move (Go.Operand.tmp 0), type := 27, pos := "ref.go:72", after := #[], guard := none }) (v := ?vq101) [] rfl (by kernel_rfl) (by kernel_rfl) (by kernel_rfl) (by kernel_rfl) (by kernel_rfl) (fun _ _ _ h => h) (Or.inl ⟨by rfl, ?hyq101⟩) (by assumption) ?restq101
  case hyq101 => (intro w0 hSw; (try dsimp only at hSw); go_simp; try with_reducible rfl)
  simp only [Act.put, List.setIfInBounds_toArray, List.set_cons_zero, List.set_cons_succ]
  refine wpAnyK_take (i := 10) (oi := { dst := some 14, op := Go.Op.nilCheck (Go.Operand.tmp 13), type := 0, pos := "ref.go:72", after := #[{ on := 9, ground := Go.Ground.data }], guard := none }) (v := ?vq102) [] rfl (by kernel_rfl) (by kernel_rfl) (by kernel_rfl) (by kernel_rfl) (by kernel_rfl) (fun _ _ _ h => h) (Or.inl ⟨by rfl, ?hyq102⟩) (by assumption) ?restq102
  case hyq102 => (intro w0 hSw; (try dsimp only at hSw); go_simp; try with_reducible rfl)
  simp only [Act.put, List.setIfInBounds_toArray, List.set_cons_zero, List.set_cons_succ]
  refine wpAnyK_take (i := 11) (oi := { dst := some 15, op := Go.Op.fieldAddr 43 (Go.Operand.tmp 14) 1, type := 0, pos := "ref.go:72", after := #[{ on := 10, ground := Go.Ground.data }], guard := none }) (v := ?vq103) [] rfl (by kernel_rfl) (by kernel_rfl) (by kernel_rfl) (by kernel_rfl) (by kernel_rfl) (fun _ _ _ h => h) (Or.inl ⟨by rfl, ?hyq103⟩) (by assumption) ?restq103
  case hyq103 => (intro w0 hSw; (try dsimp only at hSw); go_simp; try with_reducible rfl)
  simp only [Act.put, List.setIfInBounds_toArray, List.set_cons_zero, List.set_cons_succ]
  refine wpAnyK_take (i := 12) (oi := { dst := some 16, op := Go.Op.load 41 (Go.Operand.tmp 15), type := 41, pos := "ref.go:72", after := #[{ on := 11, ground := Go.Ground.data }], guard := none }) (v := ?vq104) [] rfl (by kernel_rfl) (by kernel_rfl) (by kernel_rfl) (by kernel_rfl) (by kernel_rfl) (fun _ _ _ h => h) (Or.inl ⟨by rfl, ?hyq104⟩) (by assumption) ?restq104
  case hyq104 => (intro w0 hSw; (try dsimp only at hSw); go_simp; try with_reducible rfl)
  simp only [Act.put, List.setIfInBounds_toArray, List.set_cons_zero, List.set_cons_succ]
  refine wpAnyK_take (i := 13) (oi := { dst := some 17, op := Go.Op.move (Go.Operand.tmp 1), type := 3, pos := "ref.go:72", after := #[], guard := none }) (v := ?vq105) [] rfl (by kernel_rfl) (by kernel_rfl) (by kernel_rfl) (by kernel_rfl) (by kernel_rfl) (fun _ _ _ h => h) (Or.inl ⟨by rfl, ?hyq105⟩) (by assumption) ?restq105
  case hyq105 => (intro w0 hSw; (try dsimp only at hSw); go_simp; try with_reducible rfl)
  simp only [Act.put, List.setIfInBounds_toArray, List.set_cons_zero, List.set_cons_succ]
  refine wpAnyK_take (i := 14) (oi := { dst := some 18, op := Go.Op.binOp Go.BinOp.add 3 (Go.Operand.tmp 17) (Go.Operand.const (Go.Value.int Go.IntKind.i64 1)) 3, type := 3, pos := "ref.go:72", after := #[{ on := 13, ground := Go.Ground.data }], guard := none }) (v := ?vq106) [] rfl (by kernel_rfl) (by kernel_rfl) (by kernel_rfl) (by kernel_rfl) (by kernel_rfl) (fun _ _ _ h => h) (Or.inl ⟨by rfl, ?hyq106⟩) (by assumption) ?restq106
  case hyq106 => (intro w0 hSw; (try dsimp only at hSw); go_simp; try with_reducible rfl)
  simp only [Act.put, List.setIfInBounds_toArray, List.set_cons_zero, List.set_cons_succ]
  refine wpAnyK_take (i := 15) (oi := { dst := some 19, op := Go.Op.slice 41 (Go.Operand.tmp 16) (some (Go.Operand.tmp 18)) none none, type := 41, pos := "ref.go:72", after := #[{ on := 12, ground := Go.Ground.data }, { on := 14, ground := Go.Ground.data }], guard := none }) (v := ?vq107) [] rfl (by kernel_rfl) (by kernel_rfl) (by kernel_rfl) (by kernel_rfl) (by kernel_rfl) (fun _ _ _ h => h) (Or.inl ⟨by rfl, ?hyq107⟩) (by assumption) ?restq107
  case hyq107 => (intro w0 hSw; (try dsimp only at hSw); go_simp; try with_reducible rfl)
  simp only [Act.put, List.setIfInBounds_toArray, List.set_cons_zero, List.set_cons_succ]
  refine wpAnyK_ready (rs := [1]) (by kernel_rfl) (by simp) ?_
  refine AllReadyK.cons (o := { dst := some 5, op := Go.Op.buildSlice 41 0 #[], type := 41, pos := "ref.go:72", after := #[], guard := none }) rfl (fun K hK => ?_) AllReadyK.nil
  go_simp
  refine hK.out _ _ (.inr (HSA.out _ (by (repeat (first | assumption | exact ScN.start _ | apply ScN.dr | apply ScN.alloc))))) (fun hHeld => ?_)
  have hHeld := hHeld.resolve_right (by decide)
  clear hK K
  try simp only [Act.put, List.setIfInBounds_toArray, List.set_cons_zero, List.set_cons_succ]
  refine wpAnyK_ready (rs := [8]) (by kernel_rfl) (by simp) ?_
  refine AllReadyK.cons (o := { dst := some 12, op := Go.Op.call { callee := Go.Callee.builtin Go.Builtin.append, args := #[Go.Operand.tmp 5, Go.Operand.tmp 11], argTypes := #[41, 41] }, type := 41, pos := "ref.go:72", after := #[{ on := 1, ground := Go.Ground.data }, { on := 7, ground := Go.Ground.data }], guard := none }) rfl (fun K hK => ?_) AllReadyK.nil
  refine step_copy_fr rfl _ _ rfl w.heap.size _ rfl ?ownz109 _ _ _ (g.L.take k) ?hmz109 rfl ?hhz109 ?hsumz109 ?hbasez109 ?restz109
  case ownz109 => exact ownFr_made w _ (Nat.le_refl _)
  case hmz109 => have := HN.out; have := HKX.out; rw [List.length_take]; omega
  case hhz109 => exact (HHX.out _ (by (repeat (first | assumption | exact ScN.start _ | apply ScN.dr | apply ScN.alloc)))).take k
  case hsumz109 => have := HKX.out; have := HN.out; have := HNL.out; omega
  case hbasez109 => exact ScN.size (by (repeat (first | assumption | exact ScN.start _ | apply ScN.dr | apply ScN.alloc)))
  intro b3 c3 w5 hown3 hb3 hg3
  have hsc3 : ScN w w5 := ScN.grown (by (repeat (first | assumption | exact ScN.start _ | apply ScN.dr | apply ScN.alloc))) hb3
  refine hK.out _ _ (.inr (HSA.out _ (by (repeat (first | assumption | exact ScN.start _ | apply ScN.dr | apply ScN.alloc))))) (fun hHeld => ?_)
  have hHeld := hHeld.resolve_right (by decide)
  clear hK K
  try simp only [Act.put, List.setIfInBounds_toArray, List.set_cons_zero, List.set_cons_succ]
  refine wpAnyK_ready (rs := [16]) (by kernel_rfl) (by simp) ?_
  refine AllReadyK.cons (o := { dst := some 20, op := Go.Op.call { callee := Go.Callee.builtin Go.Builtin.append, args := #[Go.Operand.tmp 12, Go.Operand.tmp 19], argTypes := #[41, 41] }, type := 41, pos := "ref.go:72", after := #[{ on := 8, ground := Go.Ground.data }, { on := 15, ground := Go.Ground.data }, { on := 8, ground := Go.Ground.chain }], guard := none }) rfl (fun K hK => ?_) AllReadyK.nil
  refine step_append_fr rfl _ _ rfl w.heap.size _ _ (g.L.take k) ?hnz110 rfl hown3 _ _ _ (g.L.drop (k + 1)) ?hmz110 rfl ?hhz110 ?hsumz110 ?hbasez110 ?restz110
  case hnz110 => have := HN.out; have := HKX.out; rw [List.length_take]; omega
  case hmz110 => have := HN.out; have := HKX.out; rw [List.length_drop]; omega
  case hhz110 => first | exact (HHX.out _ (by (repeat (first | assumption | exact ScN.start _ | apply ScN.dr | apply ScN.alloc)))).drop (k + 1) | exact held_dropFr (HHX.out _ (by (repeat (first | assumption | exact ScN.start _ | apply ScN.dr | apply ScN.alloc)))) (k + 1) (by have := HN.out; have := HCP.out; omega)
  case hsumz110 => have := HKX.out; have := HN.out; have := HNL.out; omega
  case hbasez110 => exact ScN.size (by (repeat (first | assumption | exact ScN.start _ | apply ScN.dr | apply ScN.alloc)))
  intro b4 c4 w7 hown4 hb4 hg4
  have hsc4 : ScN w w7 := ScN.grown (by (repeat (first | assumption | exact ScN.start _ | apply ScN.dr | apply ScN.alloc))) hb4
  refine hK.out _ _ (.inr (HSA.out _ (by (repeat (first | assumption | exact ScN.start _ | apply ScN.dr | apply ScN.alloc))))) (fun hHeld => ?_)
  have hHeld := hHeld.resolve_right (by decide)
  clear hK K
  try simp only [Act.put, List.setIfInBounds_toArray, List.set_cons_zero, List.set_cons_succ]
  have hpk5 := (H.out.below hsc4.out).blk
  have f5 := hpk5.frozen 1
  have e5 := hpk5.cell (i := 1) rfl
  rw [HN.out] at e5
  refine wpAnyK_take (i := 17) (oi := { dst := some 21, op := Go.Op.nilCheck (Go.Operand.tmp 4), type := 0, pos := "ref.go:72", after := #[{ on := 0, ground := Go.Ground.data }, { on := 0, ground := Go.Ground.phase }, { on := 1, ground := Go.Ground.phase }, { on := 2, ground := Go.Ground.phase }, { on := 3, ground := Go.Ground.phase }, { on := 4, ground := Go.Ground.phase }, { on := 5, ground := Go.Ground.phase }, { on := 6, ground := Go.Ground.phase }, { on := 7, ground := Go.Ground.phase }, { on := 8, ground := Go.Ground.phase }, { on := 9, ground := Go.Ground.phase }, { on := 10, ground := Go.Ground.phase }, { on := 11, ground := Go.Ground.phase }, { on := 12, ground := Go.Ground.phase }, { on := 13, ground := Go.Ground.phase }, { on := 14, ground := Go.Ground.phase }, { on := 15, ground := Go.Ground.phase }, { on := 16, ground := Go.Ground.phase }], guard := none }) (v := ?vq111) [18] rfl (by kernel_rfl) (by kernel_rfl) (by kernel_rfl) (by kernel_rfl) (by kernel_rfl) (fun _ _ _ h => h) (Or.inl ⟨by rfl, ?hyq111⟩) (by assumption) ?restq111
  case hyq111 => (intro w0 hSw; (try dsimp only at hSw); go_simp; try with_reducible rfl)
  simp only [Act.put, List.setIfInBounds_toArray, List.set_cons_zero, List.set_cons_succ]
  refine wpAnyK_take (i := 18) (oi := { dst := some 22, op := Go.Op.fieldAddr 43 (Go.Operand.tmp 21) 1, type := 0, pos := "ref.go:72", after := #[{ on := 17, ground := Go.Ground.data }, { on := 0, ground := Go.Ground.phase }, { on := 1, ground := Go.Ground.phase }, { on := 2, ground := Go.Ground.phase }, { on := 3, ground := Go.Ground.phase }, { on := 4, ground := Go.Ground.phase }, { on := 5, ground := Go.Ground.phase }, { on := 6, ground := Go.Ground.phase }, { on := 7, ground := Go.Ground.phase }, { on := 8, ground := Go.Ground.phase }, { on := 9, ground := Go.Ground.phase }, { on := 10, ground := Go.Ground.phase }, { on := 11, ground := Go.Ground.phase }, { on := 12, ground := Go.Ground.phase }, { on := 13, ground := Go.Ground.phase }, { on := 14, ground := Go.Ground.phase }, { on := 15, ground := Go.Ground.phase }, { on := 16, ground := Go.Ground.phase }], guard := none }) (v := ?vq112) [] rfl (by kernel_rfl) (by kernel_rfl) (by kernel_rfl) (by kernel_rfl) (by kernel_rfl) (fun _ _ _ h => h) (Or.inl ⟨by rfl, ?hyq112⟩) (by assumption) ?restq112
  case hyq112 => (intro w0 hSw; (try dsimp only at hSw); go_simp; try with_reducible rfl)
  simp only [Act.put, List.setIfInBounds_toArray, List.set_cons_zero, List.set_cons_succ]
  refine wpAnyK_ready (rs := [19]) (by kernel_rfl) (by simp) ?_
  refine AllReadyK.cons (o := { dst := none, op := Go.Op.store 41 (Go.Operand.tmp 22) (Go.Operand.tmp 20), type := 0, pos := "ref.go:72", after := #[{ on := 18, ground := Go.Ground.data }, { on := 16, ground := Go.Ground.data }, { on := 16, ground := Go.Ground.chain }, { on := 0, ground := Go.Ground.phase }, { on := 1, ground := Go.Ground.phase }, { on := 2, ground := Go.Ground.phase }, { on := 3, ground := Go.Ground.phase }, { on := 4, ground := Go.Ground.phase }, { on := 5, ground := Go.Ground.phase }, { on := 6, ground := Go.Ground.phase }, { on := 7, ground := Go.Ground.phase }, { on := 8, ground := Go.Ground.phase }, { on := 9, ground := Go.Ground.phase }, { on := 10, ground := Go.Ground.phase }, { on := 11, ground := Go.Ground.phase }, { on := 12, ground := Go.Ground.phase }, { on := 13, ground := Go.Ground.phase }, { on := 14, ground := Go.Ground.phase }, { on := 15, ground := Go.Ground.phase }, { on := 16, ground := Go.Ground.phase }], guard := none }) rfl (fun K hK => ?_) AllReadyK.nil
  go_simp
  refine hK.out _ _ (.inl rfl) (fun _ => ?_)
  clear hK K
  try simp only [Act.put, List.setIfInBounds_toArray, List.set_cons_zero, List.set_cons_succ]
  refine wpAnyK_done (by kernel_rfl) ?_ _
  refine NoPanic.normal ?_
  have HEND := hid (HFIN.out w7 _ b4 c4 _ hsc4 (by have := HKX.out; have := HN.out; omega) hown4 rfl)
  clear hown3 hown4 hsc3 hsc4 hb3 hb4 hg3 hg4 hHeld hs0 f5 e5 hpk5
  go_wp2
  all_goals (go_end0; exact ⟨rfl, HEND.out⟩)
end Go.Proofs.Ytjfohnkfcfifeaa
