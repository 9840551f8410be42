/-
  The document's bag: Take, Twice.
-/
import Derived.Test.YtoacfdicjpoohaaNdC
import Derived.Test.YtoacfdicjpoohaaOrdZ
namespace Go.Proofs.Ytoacfdicjpoohaa
open Go.RowKit Go.Maps

theorem findN_none {ps : List Pk} {x : Int} (h : found ps x = none) : findN ps x = -1 := findN_miss (fun j hj _ e => by
  unfold found at h
  rw [List.find?_eq_none] at h
  have := h ps[j] (List.getElem_mem hj)
  simp at this
  exact this e)
theorem findN_some {ps : List Pk} {x : Int} {q : Pk} (h : found ps x = some q) : ∃ k, ∃ hk : k < ps.length, ps[k] = q ∧ q.id = x ∧ NoId ps x k ∧ findN ps x = (k : Int) := by
  unfold found at h
  rw [List.find?_eq_some_iff_getElem] at h
  obtain ⟨h1, k, hk, he, hno⟩ := h
  have hx : q.id = x := by simpa using h1
  have hn : NoId ps x k := fun j hj hjk => by simpa using hno j hjk
  exact ⟨k, hk, he, hx, hn, findN_hit hk hn (by rw [he]; exact hx)⟩
def st4N (V : World) (p : Nat) (a b c d : Value) : World := (((V.setCell ⟨p, 0, none⟩ a).setCell ⟨p, 1, none⟩ b).setCell ⟨p, 2, none⟩ c).setCell ⟨p, 3, none⟩ d
theorem st4N_blk {V : World} {p : Nat} {t : TypeId} {x0 x1 x2 x3 : Value} (h : Blk V p t [x0, x1, x2, x3]) (a b c d : Value) : Blk (st4N V p a b c d) p t [a, b, c, d] := (((h.set 0 a).set 1 b).set 2 c).set 3 d
theorem st4N_turns (V : World) (p : Nat) (a b c d : Value) : Turns (fun i => i = p) V (st4N V p a b c d) := ((((Turns.refl (fun i => i = p) V).setCell (p := ⟨p, 0, none⟩) (.inl rfl) _).setCell (p := ⟨p, 1, none⟩) (.inl rfl) _).setCell (p := ⟨p, 2, none⟩) (.inl rfl) _).setCell (p := ⟨p, 3, none⟩) (.inl rfl) _
/-- A packet less. -/
theorem rn_del {B : Nat} {w W1 w5 W W3 : World} {x rc k r : Nat} {g : Nt} {eo bo : Option Addr} {cap cp : Nat} {id : Int} (h : RnAt w B x g eo cap) (hB : B ≤ w.heap.size) (hk : k < g.ps.length) (hid' : g.ps[k].id = id) (hno : NoId g.ps id k) (hr : r + 1 = g.ps.length)
    (hb1 : Below w.heap.size w W1) (hs5 : ScN W1 w5) (hown : w5.ownsRow W1.heap.size 36 4 (.slice bo r cp) r (flat (g.ps.take k ++ g.ps.drop (k + 1)))) (hW : W = w5.setCell ⟨x, 1, none⟩ (.slice bo r cp)) (ht3 : Turns (fun i => i = rc) W W3) (hrc : w.heap.size ≤ rc) (hrw : rc < W1.heap.size) : RnTo B w W3 x eo (takeN g id) := by
  have hxl := h.blk.lt
  have hb5 : Blk w5 x 51 [.int .i64 g.nodes, .slice eo g.ps.length cap, .int .i64 g.last] := h.blk.below (btN hb1 hs5.out) hxl
  have t1 : Turns (fun i => i = x) w5 W := by rw [hW]; exact (Turns.refl (fun i => i = x) w5).setCell (p := ⟨x, 1, none⟩) (.inl rfl) _
  have hfo : found g.ps id = some g.ps[k] := by
    unfold found
    rw [List.find?_eq_some_iff_getElem]
    exact ⟨by simpa using hid', k, hk, rfl, fun j hj => by simpa using hno j (by omega) hj⟩
  have htk : takeN g id = ⟨g.nodes, g.last, g.ps.take k ++ g.ps.drop (k + 1)⟩ := by
    unfold takeN
    rw [hfo]
    dsimp only
    rw [← hid', eraseP_at hk (fun j hj hjk => by rw [hid']; exact hno j hj hjk), List.eraseIdx_eq_take_drop_succ]
  have hlen : (g.ps.take k ++ g.ps.drop (k + 1)).length = r := by simp; omega
  have hok := h.ok.take id
  have hw5 : Turns (FootX x eo) w w5 := Turns.of_below (btN hb1 hs5.out) (Nat.le_refl _)
  refine ⟨bo, cp, ?_, (hw5.trans t1 (fun i hi => .inl (.inl hi))).trans ht3 (fun i hi => .inr (by rw [hi]; exact hrc))⟩
  rw [htk] at hok ⊢
  have hnx : ∀ k', (Value.slice bo r cp).ownBlock = some k' → k' ≠ x ∧ k' ≠ rc := fun k' hk' => by
    have := (hown.lt k' hk').1
    have := hb1.size
    omega
  refine ⟨?_, ?_, by show (g.ps.take k ++ g.ps.drop (k + 1)).length ≤ 65536; rw [hlen]; have := h.few; omega, hok⟩
  · show Blk W3 x _ [.int .i64 g.nodes, .slice bo (g.ps.take k ++ g.ps.drop (k + 1)).length cp, .int .i64 g.last]
    rw [hlen]
    refine ht3.blk ?_ (by omega)
    rw [hW]
    exact hb5.set 1 _
  · show W3.ownsRow B _ 4 (.slice bo (g.ps.take k ++ g.ps.drop (k + 1)).length cp) (g.ps.take k ++ g.ps.drop (k + 1)).length _
    rw [hlen]
    refine ht3.row (t1.row (ownsRow_baseN hown (Nat.le_trans hB hb1.size)) (fun k' hk' e => (hnx k' hk').1 e)) (fun k' hk' e => (hnx k' hk').2 e)
set_option maxRecDepth 1000000 in
set_option maxHeartbeats 4000000 in
theorem RnAt.take {w : World} {B x : Nat} {g : Nt} {eo : Option Addr} {cap : Nat} (h : RnAt w B x g eo cap) (hB : B ≤ w.heap.size) (id : Int) : Calls Try.prog 10 #[.pointer (some ⟨x, 0, none⟩), .int .i64 id] w fun e w' => e = .returned (.tuple #[(takeV g id).val, .int .i64 (takeC g id)]) ∧ RnTo B w w' x eo (takeN g id) := by
  have H := hid h
  have HBB := hid hB
  obtain ⟨W0, hW0⟩ : ∃ V, V = w.alloc (.cells #[.int .i64 0, .int .i64 0, .int .i64 0, .string ⟨#[]⟩] 36) := ⟨_, rfl⟩
  have hb0 : Below w.heap.size w W0 := by rw [hW0]; exact (Below.refl _ _).alloc (Nat.le_refl _) _
  have HR0 : Hid (Blk W0 w.heap.size 36 [.int .i64 0, .int .i64 0, .int .i64 0, .string ⟨#[]⟩]) := by rw [hW0]; exact Blk.new _ _ _
  obtain ⟨rc, hrc⟩ : ∃ q, q = w.heap.size := ⟨_, rfl⟩
  rw [← hrc] at HR0
  have HRC := hid hrc
  have HB0 := hid hb0
  have H0 := hid (h.below hb0)
  have HFI := hid (H0.out.find id)
  have HW0 := hid hW0
  have r0 := HR0.out.cell (i := 0) rfl
  have r1 := HR0.out.cell (i := 1) rfl
  have r2 := HR0.out.cell (i := 2) rfl
  have r3 := HR0.out.cell (i := 3) rfl
  have q0 := HR0.out.frozen 0
  have q1 := HR0.out.frozen 1
  have q2 := HR0.out.frozen 2
  have q3 := HR0.out.frozen 3
  clear h hB hW0 hb0 hrc
  cases hf : found g.ps id with
  | none =>
    have HFN : Hid (findN g.ps id = -1) := findN_none hf
    have HAN : Hid ((takeV g id).val = Pk.none ∧ takeC g id = 4 ∧ takeN g id = g) := by
      unfold takeV takeC takeN
      rw [hf]
      exact ⟨rfl, rfl, rfl⟩
    rw [HFN.out] at HFI
    rw [HAN.out.1, HAN.out.2.1, HAN.out.2.2]
    obtain ⟨W3, hW3⟩ : ∃ V, V = st4N W0 rc (.int .i64 0) (.int .i64 0) (.int .i64 0) (.string ⟨#[]⟩) := ⟨_, rfl⟩
    have hk9 : Blk W3 rc 36 [.int .i64 0, .int .i64 0, .int .i64 0, .string ⟨#[]⟩] := by rw [hW3]; exact st4N_blk HR0.out _ _ _ _
    have HBF : Hid (Below w.heap.size w W3) := by rw [hW3]; exact HB0.out.trans ((st4N_turns W0 rc _ _ _ _).below (fun i hi => by rw [hi, HRC.out]; exact Nat.le_refl _) HB0.out.size)
    have k0 := hk9.cell (i := 0) rfl
    have k1 := hk9.cell (i := 1) rfl
    have k2 := hk9.cell (i := 2) rfl
    have k3 := hk9.cell (i := 3) rfl
    clear hk9 hf
    go_enter Try.func10, Try.ntmps10
    go_wp2_with fail
    rw [← HW0.out, ← HRC.out]
    refine HFI.out.mono ?_
    rintro e w1 ⟨rfl, rfl⟩
    go_wp2
    unfold st4N at hW3
    rw [← hW3]
    (try simp only [Exit.inBlock, Exit.then])
    refine bodyPost_ret (v := .tuple #[.agg #[.int .i64 0, .int .i64 0, .int .i64 0, .string ⟨#[]⟩], .int .i64 4]) ?_ rfl ⟨rfl, RnTo.same H.out HBF.out⟩
    rw [results_cell_tmp rfl]
    go_simp
  | some q =>
    obtain ⟨k, hk, hq, hqi, hno, hfn⟩ := findN_some hf
    have HFN := hid hfn
    have HK := hid hk
    have HNO := hid hno
    have HID : Hid ((g.ps[k]'HK.out).id = id) := by show _ = _; rw [hq]; exact hqi
    have HAN : Hid ((takeV g id).val = q.val ∧ takeC g id = 0) := by
      unfold takeV takeC
      rw [hf]
      exact ⟨rfl, rfl⟩
    rw [HFN.out] at HFI
    rw [HAN.out.1, HAN.out.2]
    obtain ⟨b, off, hao, hbb, d0, d1, d2, d3⟩ := H0.out.held.1.cellsD HK.out
    have HCP : Hid (g.ps.length ≤ cap) := H0.out.held.2
    obtain ⟨N, HN⟩ : ∃ N, Hid (g.ps.length = N) := ⟨_, hid rfl⟩
    have HNF : Hid (N ≤ 65536) := by rw [← HN.out]; exact H.out.few
    have HKN : Hid (k < N) := by rw [← HN.out]; exact HK.out
    rw [hq] at d0 d1 d2 d3
    have c1 := H0.out.blk.cell (i := 1) rfl
    rw [HN.out] at c1
    have hq' : g.ps[k] = q := hq
    clear hf hk hq hqi hno hfn hbb
    obtain ⟨qi, qf, qd, qb⟩ := q
    simp only at d0 d1 d2 d3
    simp only [Pk.val]
    subst hao
    obtain ⟨W1, hW1⟩ : ∃ V, V = W0.alloc (.cells #[.int .i64 qi, .int .i64 qf, .int .i64 qd, .string qb] 36) := ⟨_, rfl⟩
    have hb1 : Below W0.heap.size W0 W1 := by rw [hW1]; exact (Below.refl _ _).alloc (Nat.le_refl _) _
    have HP1 : Hid (Blk W1 W0.heap.size 36 [.int .i64 qi, .int .i64 qf, .int .i64 qd, .string qb]) := by rw [hW1]; exact Blk.new _ _ _
    have HB1 := hid (btN HB0.out hb1)
    have HR1 := hid (HR0.out.below hb1 HR0.out.lt)
    have H1 := hid (H0.out.below hb1)
    have HW1 := hid hW1
    obtain ⟨pb, hpb⟩ : ∃ q, q = W0.heap.size := ⟨_, rfl⟩
    rw [← hpb] at HP1
    have HPB := hid hpb
    have HSA : Hid (∀ V, ScN W1 V → (ScN W1 V ∧ V.cell? ⟨x, 1, none⟩ = some (.slice (some ⟨b, off, none⟩) N cap))) := fun V hV => by
      have h2 := (H1.out.below hV.out).blk.cell (i := 1) rfl
      rw [HN.out] at h2
      exact ⟨hV, h2⟩
    have HHX : Hid (∀ V, ScN W1 V → HeldPk V (some ⟨b, off, none⟩) g.ps) := fun V hV => (H1.out.below hV.out).held.1
    have HFIN : Hid (∀ w5 W W3 bo cp r, ScN W1 w5 → r + 1 = N → w5.ownsRow W1.heap.size 36 4 (.slice bo r cp) r (flat (g.ps.take k ++ g.ps.drop (k + 1))) → W = w5.setCell ⟨x, 1, none⟩ (.slice bo r cp) → Turns (fun i => i = rc) W W3 → RnTo B w W3 x (some ⟨b, off, none⟩) (takeN g id)) := fun w5 W W3 bo cp r e1 e2 e3 e4 e5 => rn_del H.out HBB.out HK.out HID.out HNO.out (by rw [HN.out]; exact e2) HB1.out e1 e3 e4 e5 (by rw [HRC.out]; exact Nat.le_refl _) HR1.out.lt
    have hk0 : (0 : Int) ≤ (k : Int) := by omega
    have hkl : (k : Int) < (N : Int) := by have := HKN.out; omega
    have hkn : (k : Int) ≤ (N : Int) := by omega
    have hkc : (k : Int) ≤ (cap : Int) := by have h1 := HCP.out; have h2 := HN.out; omega
    have hnc : (N : Int) ≤ (cap : Int) := by have h1 := HCP.out; have h2 := HN.out; omega
    have hwk : IntKind.i64.wrap ((k : Int) + 1) = (k : Int) + 1 := by rw [IntKind.wrap_i64]; have h1 := HNF.out; omega
    have hk1 : (k : Int) + 1 ≤ (N : Int) := by omega
    have hk2 : (0 : Int) ≤ (k : Int) + 1 := by omega
    have hk3 : (k : Int) + 1 ≤ (cap : Int) := by omega
    have hneg : ¬ (k : Int) < 0 := by omega
    clear hb1 hW1 hpb hq'
    have x1 := H1.out.blk.cell (i := 1) rfl
    rw [HN.out] at x1
    go_enter Try.func10, Try.ntmps10
    go_wp2_with fail
    rw [← HW0.out, ← HRC.out]
    refine HFI.out.mono ?_
    rintro e w1 ⟨rfl, rfl⟩
    go_wp2
    rw [← HW1.out, ← HPB.out]
    refine wp_region_noPanic ?_
    refine wp_region_K 19 (fun V => ScN W1 V ∧ V.cell? ⟨x, 1, none⟩ = some (.slice (some ⟨b, off, none⟩) N cap)) (by kernel_rfl) (HSA.out _ (ScN.start W1).dr) (fun hHeld => ?_)
    have hs0 := (ScN.start W1).dr
    refine wpAnyK_take (i := 0) (oi := { dst := some 21, op := Go.Op.move (Go.Operand.tmp 0), type := 27, pos := "ref.go:53", after := #[], guard := none }) (v := ?vq1) [] rfl (by kernel_rfl) (by kernel_rfl) (by kernel_rfl) (by kernel_rfl) (by kernel_rfl) (fun _ _ _ h => h) (Or.inl ⟨by rfl, ?hyq1⟩) (by assumption) ?restq1
    case hyq1 => (intro w0 hSw; (try dsimp only at hSw); go_simp; try with_reducible rfl)
    simp only [Act.put, List.setIfInBounds_toArray, List.set_cons_zero, List.set_cons_succ]
    refine wpAnyK_take (i := 2) (oi := { dst := some 23, op := Go.Op.move (Go.Operand.tmp 0), type := 27, pos := "ref.go:53", after := #[], guard := none }) (v := ?vq2) [] rfl (by kernel_rfl) (by kernel_rfl) (by kernel_rfl) (by kernel_rfl) (by kernel_rfl) (fun _ _ _ h => h) (Or.inl ⟨by rfl, ?hyq2⟩) (by assumption) ?restq2
    case hyq2 => (intro w0 hSw; (try dsimp only at hSw); go_simp; try with_reducible rfl)
    simp only [Act.put, List.setIfInBounds_toArray, List.set_cons_zero, List.set_cons_succ]
    refine wpAnyK_take (i := 3) (oi := { dst := some 24, op := Go.Op.nilCheck (Go.Operand.tmp 23), type := 0, pos := "ref.go:53", after := #[{ on := 2, ground := Go.Ground.data }], guard := none }) (v := ?vq3) [] rfl (by kernel_rfl) (by kernel_rfl) (by kernel_rfl) (by kernel_rfl) (by kernel_rfl) (fun _ _ _ h => h) (Or.inl ⟨by rfl, ?hyq3⟩) (by assumption) ?restq3
    case hyq3 => (intro w0 hSw; (try dsimp only at hSw); go_simp; try with_reducible rfl)
    simp only [Act.put, List.setIfInBounds_toArray, List.set_cons_zero, List.set_cons_succ]
    refine wpAnyK_take (i := 4) (oi := { dst := some 25, op := Go.Op.fieldAddr 51 (Go.Operand.tmp 24) 1, type := 0, pos := "ref.go:53", after := #[{ on := 3, ground := Go.Ground.data }], guard := none }) (v := ?vq4) [] rfl (by kernel_rfl) (by kernel_rfl) (by kernel_rfl) (by kernel_rfl) (by kernel_rfl) (fun _ _ _ h => h) (Or.inl ⟨by rfl, ?hyq4⟩) (by assumption) ?restq4
    case hyq4 => (intro w0 hSw; (try dsimp only at hSw); go_simp; try with_reducible rfl)
    simp only [Act.put, List.setIfInBounds_toArray, List.set_cons_zero, List.set_cons_succ]
    refine wpAnyK_take (i := 5) (oi := { dst := some 26, op := Go.Op.load 49 (Go.Operand.tmp 25), type := 49, pos := "ref.go:53", after := #[{ on := 4, ground := Go.Ground.data }], guard := none }) (v := ?vq5) [] rfl (by kernel_rfl) (by kernel_rfl) (by kernel_rfl) (by kernel_rfl) (by kernel_rfl) (fun _ _ _ h => h) (Or.inl ⟨by rfl, ?hyq5⟩) (by assumption) ?restq5
    case hyq5 => (intro w0 hSw; (try dsimp only at hSw); go_simp; try with_reducible rfl)
    simp only [Act.put, List.setIfInBounds_toArray, List.set_cons_zero, List.set_cons_succ]
    refine wpAnyK_take (i := 6) (oi := { dst := some 27, op := Go.Op.move (Go.Operand.tmp 6), type := 3, pos := "ref.go:53", after := #[], guard := none }) (v := ?vq6) [] rfl (by kernel_rfl) (by kernel_rfl) (by kernel_rfl) (by kernel_rfl) (by kernel_rfl) (fun _ _ _ h => h) (Or.inl ⟨by rfl, ?hyq6⟩) (by assumption) ?restq6
    case hyq6 => (intro w0 hSw; (try dsimp only at hSw); go_simp; try with_reducible rfl)
    simp only [Act.put, List.setIfInBounds_toArray, List.set_cons_zero, List.set_cons_succ]
    refine wpAnyK_take (i := 7) (oi := { dst := some 28, op := Go.Op.slice 49 (Go.Operand.tmp 26) none (some (Go.Operand.tmp 27)) none, type := 49, pos := "ref.go:53", after := #[{ on := 5, ground := Go.Ground.data }, { on := 6, ground := Go.Ground.data }], guard := none }) (v := ?vq7) [] rfl (by kernel_rfl) (by kernel_rfl) (by kernel_rfl) (by kernel_rfl) (by kernel_rfl) (fun _ _ _ h => h) (Or.inl ⟨by rfl, ?hyq7⟩) (by assumption) ?restq7
    case hyq7 => (intro w0 hSw; (try dsimp only at hSw); go_simp; try with_reducible rfl)
    simp only [Act.put, List.setIfInBounds_toArray, List.set_cons_zero, List.set_cons_succ]
    refine wpAnyK_take (i := 9) (oi := { dst := some 30, op := Go.Op.move (Go.Operand.tmp 0), type := 27, pos := "ref.go:53", after := #[], guard := none }) (v := ?vq8) [] rfl (by kernel_rfl) (by kernel_rfl) (by kernel_rfl) (by kernel_rfl) (by kernel_rfl) (fun _ _ _ h => h) (Or.inl ⟨by rfl, ?hyq8⟩) (by assumption) ?restq8
    case hyq8 => (intro w0 hSw; (try dsimp only at hSw); go_simp; try with_reducible rfl)
    simp only [Act.put, List.setIfInBounds_toArray, List.set_cons_zero, List.set_cons_succ]
    refine wpAnyK_take (i := 10) (oi := { dst := some 31, op := Go.Op.nilCheck (Go.Operand.tmp 30), type := 0, pos := "ref.go:53", after := #[{ on := 9, ground := Go.Ground.data }], guard := none }) (v := ?vq9) [] rfl (by kernel_rfl) (by kernel_rfl) (by kernel_rfl) (by kernel_rfl) (by kernel_rfl) (fun _ _ _ h => h) (Or.inl ⟨by rfl, ?hyq9⟩) (by assumption) ?restq9
    case hyq9 => (intro w0 hSw; (try dsimp only at hSw); go_simp; try with_reducible rfl)
    simp only [Act.put, List.setIfInBounds_toArray, List.set_cons_zero, List.set_cons_succ]
    refine wpAnyK_take (i := 11) (oi := { dst := some 32, op := Go.Op.fieldAddr 51 (Go.Operand.tmp 31) 1, type := 0, pos := "ref.go:53", after := #[{ on := 10, ground := Go.Ground.data }], guard := none }) (v := ?vq10) [] rfl (by kernel_rfl) (by kernel_rfl) (by kernel_rfl) (by kernel_rfl) (by kernel_rfl) (fun _ _ _ h => h) (Or.inl ⟨by rfl, ?hyq10⟩) (by assumption) ?restq10
    case hyq10 => (intro w0 hSw; (try dsimp only at hSw); go_simp; try with_reducible rfl)
    simp only [Act.put, List.setIfInBounds_toArray, List.set_cons_zero, List.set_cons_succ]
    refine wpAnyK_take (i := 12) (oi := { dst := some 33, op := Go.Op.load 49 (Go.Operand.tmp 32), type := 49, pos := "ref.go:53", after := #[{ on := 11, ground := Go.Ground.data }], guard := none }) (v := ?vq11) [] rfl (by kernel_rfl) (by kernel_rfl) (by kernel_rfl) (by kernel_rfl) (by kernel_rfl) (fun _ _ _ h => h) (Or.inl ⟨by rfl, ?hyq11⟩) (by assumption) ?restq11
    case hyq11 => (intro w0 hSw; (try dsimp only at hSw); go_simp; try with_reducible rfl)
    simp only [Act.put, List.setIfInBounds_toArray, List.set_cons_zero, List.set_cons_succ]
    refine wpAnyK_take (i := 13) (oi := { dst := some 34, op := Go.Op.move (Go.Operand.tmp 6), type := 3, pos := "ref.go:53", after := #[], guard := none }) (v := ?vq12) [] rfl (by kernel_rfl) (by kernel_rfl) (by kernel_rfl) (by kernel_rfl) (by kernel_rfl) (fun _ _ _ h => h) (Or.inl ⟨by rfl, ?hyq12⟩) (by assumption) ?restq12
    case hyq12 => (intro w0 hSw; (try dsimp only at hSw); go_simp; try with_reducible rfl)
    simp only [Act.put, List.setIfInBounds_toArray, List.set_cons_zero, List.set_cons_succ]
    refine wpAnyK_take (i := 14) (oi := { dst := some 35, op := Go.Op.binOp Go.BinOp.add 3 (Go.Operand.tmp 34) (Go.Operand.const (Go.Value.int Go.IntKind.i64 1)) 3, type := 3, pos := "ref.go:53", after := #[{ on := 13, ground := Go.Ground.data }], guard := none }) (v := ?vq13) [] rfl (by kernel_rfl) (by kernel_rfl) (by kernel_rfl) (by kernel_rfl) (by kernel_rfl) (fun _ _ _ h => h) (Or.inl ⟨by rfl, ?hyq13⟩) (by assumption) ?restq13
    case hyq13 => (intro w0 hSw; (try dsimp only at hSw); go_simp; try with_reducible rfl)
    simp only [Act.put, List.setIfInBounds_toArray, List.set_cons_zero, List.set_cons_succ]
    refine wpAnyK_take (i := 15) (oi := { dst := some 36, op := Go.Op.slice 49 (Go.Operand.tmp 33) (some (Go.Operand.tmp 35)) none none, type := 49, pos := "ref.go:53", after := #[{ on := 12, ground := Go.Ground.data }, { on := 14, ground := Go.Ground.data }], guard := none }) (v := ?vq14) [] rfl (by kernel_rfl) (by kernel_rfl) (by kernel_rfl) (by kernel_rfl) (by kernel_rfl) (fun _ _ _ h => h) (Or.inl ⟨by rfl, ?hyq14⟩) (by assumption) ?restq14
    case hyq14 => (intro w0 hSw; (try dsimp only at hSw); go_simp; try with_reducible rfl)
    simp only [Act.put, List.setIfInBounds_toArray, List.set_cons_zero, List.set_cons_succ]
    refine wpAnyK_ready (rs := [1]) (by kernel_rfl) (by simp) ?_
    refine AllReadyK.cons (o := { dst := some 22, op := Go.Op.buildSlice 49 0 #[], type := 49, pos := "ref.go:53", after := #[], guard := none }) rfl (fun K hK => ?_) AllReadyK.nil
    go_simp
    refine hK.out _ _ (.inr (HSA.out _ (by (repeat (first | with_reducible assumption | exact ScN.start _ | apply ScN.dr | apply ScN.alloc))))) (fun hHeld => ?_)
    have hHeld := hHeld.resolve_right (by decide)
    clear hK K
    try simp only [Act.put, List.setIfInBounds_toArray, List.set_cons_zero, List.set_cons_succ]
    refine wpAnyK_ready (rs := [8]) (by kernel_rfl) (by simp) ?_
    refine AllReadyK.cons (o := { dst := some 29, op := Go.Op.call { callee := Go.Callee.builtin Go.Builtin.append, args := #[Go.Operand.tmp 22, Go.Operand.tmp 28], argTypes := #[49, 49] }, type := 49, pos := "ref.go:53", after := #[{ on := 1, ground := Go.Ground.data }, { on := 7, ground := Go.Ground.data }], guard := none }) rfl (fun K hK => ?_) AllReadyK.nil
    refine step_copy_pk rfl _ _ rfl W1.heap.size _ rfl ?ownz16 _ _ _ (g.ps.take k) ?hmz16 rfl ?hhz16 ?hsumz16 ?hbasez16 ?restz16
    case ownz16 => exact ownPk_made W1 _ (Nat.le_refl _)
    case hmz16 => have := HN.out; have := HKN.out; rw [List.length_take]; omega
    case hhz16 => exact (HHX.out _ (by (repeat (first | assumption | exact ScN.start _ | apply ScN.dr | apply ScN.alloc)))).take k
    case hsumz16 => have := HKN.out; have := HNF.out; omega
    case hbasez16 => exact ScN.size (by (repeat (first | assumption | exact ScN.start _ | apply ScN.dr | apply ScN.alloc)))
    intro b3 c3 w5 hown3 hb3 hg3
    have hsc3 : ScN W1 w5 := ScN.grown (by (repeat (first | assumption | exact ScN.start _ | apply ScN.dr | apply ScN.alloc))) hb3
    refine hK.out _ _ (.inr (HSA.out _ (by (repeat (first | with_reducible assumption | exact ScN.start _ | apply ScN.dr | apply ScN.alloc))))) (fun hHeld => ?_)
    have hHeld := hHeld.resolve_right (by decide)
    clear hK K
    try simp only [Act.put, List.setIfInBounds_toArray, List.set_cons_zero, List.set_cons_succ]
    refine wpAnyK_ready (rs := [16]) (by kernel_rfl) (by simp) ?_
    refine AllReadyK.cons (o := { dst := some 37, op := Go.Op.call { callee := Go.Callee.builtin Go.Builtin.append, args := #[Go.Operand.tmp 29, Go.Operand.tmp 36], argTypes := #[49, 49] }, type := 49, pos := "ref.go:53", after := #[{ on := 8, ground := Go.Ground.data }, { on := 15, ground := Go.Ground.data }, { on := 8, ground := Go.Ground.chain }], guard := none }) rfl (fun K hK => ?_) AllReadyK.nil
    refine step_append_pk rfl _ _ rfl W1.heap.size _ _ (g.ps.take k) ?hnz17 rfl hown3 _ _ _ (g.ps.drop (k + 1)) ?hmz17 rfl ?hhz17 ?hsumz17 ?hbasez17 ?restz17
    case hnz17 => have := HN.out; have := HKN.out; rw [List.length_take]; omega
    case hmz17 => have := HN.out; have := HKN.out; rw [List.length_drop]; omega
    case hhz17 => first | exact (HHX.out _ (by (repeat (first | assumption | exact ScN.start _ | apply ScN.dr | apply ScN.alloc)))).drop (k + 1) | exact held_dropPk (HHX.out _ (by (repeat (first | assumption | exact ScN.start _ | apply ScN.dr | apply ScN.alloc)))) (k + 1) HCP.out
    case hsumz17 => have := HKN.out; have := HNF.out; omega
    case hbasez17 => exact ScN.size (by (repeat (first | assumption | exact ScN.start _ | apply ScN.dr | apply ScN.alloc)))
    intro b5 c5 w7 hown5 hb5 hg5
    have hsc5 : ScN W1 w7 := ScN.grown (by (repeat (first | assumption | exact ScN.start _ | apply ScN.dr | apply ScN.alloc))) hb5
    refine hK.out _ _ (.inr (HSA.out _ (by (repeat (first | with_reducible assumption | exact ScN.start _ | apply ScN.dr | apply ScN.alloc))))) (fun hHeld => ?_)
    have hHeld := hHeld.resolve_right (by decide)
    clear hK K
    try simp only [Act.put, List.setIfInBounds_toArray, List.set_cons_zero, List.set_cons_succ]
    have hpk5 := H1.out.blk.below hsc5.out H1.out.blk.lt
    have f5 := hpk5.frozen 1
    have e5 := hpk5.cell (i := 1) rfl
    rw [HN.out] at e5
    refine wpAnyK_take (i := 17) (oi := { dst := some 38, op := Go.Op.nilCheck (Go.Operand.tmp 21), type := 0, pos := "ref.go:53", after := #[{ on := 0, ground := Go.Ground.data }, { on := 0, ground := Go.Ground.phase }, { on := 1, ground := Go.Ground.phase }, { on := 2, ground := Go.Ground.phase }, { on := 3, ground := Go.Ground.phase }, { on := 4, ground := Go.Ground.phase }, { on := 5, ground := Go.Ground.phase }, { on := 6, ground := Go.Ground.phase }, { on := 7, ground := Go.Ground.phase }, { on := 8, ground := Go.Ground.phase }, { on := 9, ground := Go.Ground.phase }, { on := 10, ground := Go.Ground.phase }, { on := 11, ground := Go.Ground.phase }, { on := 12, ground := Go.Ground.phase }, { on := 13, ground := Go.Ground.phase }, { on := 14, ground := Go.Ground.phase }, { on := 15, ground := Go.Ground.phase }, { on := 16, ground := Go.Ground.phase }], guard := none }) (v := ?vq18) [18] rfl (by kernel_rfl) (by kernel_rfl) (by kernel_rfl) (by kernel_rfl) (by kernel_rfl) (fun _ _ _ h => h) (Or.inl ⟨by rfl, ?hyq18⟩) (by assumption) ?restq18
    case hyq18 => (intro w0 hSw; (try dsimp only at hSw); go_simp; try with_reducible rfl)
    simp only [Act.put, List.setIfInBounds_toArray, List.set_cons_zero, List.set_cons_succ]
    refine wpAnyK_take (i := 18) (oi := { dst := some 39, op := Go.Op.fieldAddr 51 (Go.Operand.tmp 38) 1, type := 0, pos := "ref.go:53", after := #[{ on := 17, ground := Go.Ground.data }, { on := 0, ground := Go.Ground.phase }, { on := 1, ground := Go.Ground.phase }, { on := 2, ground := Go.Ground.phase }, { on := 3, ground := Go.Ground.phase }, { on := 4, ground := Go.Ground.phase }, { on := 5, ground := Go.Ground.phase }, { on := 6, ground := Go.Ground.phase }, { on := 7, ground := Go.Ground.phase }, { on := 8, ground := Go.Ground.phase }, { on := 9, ground := Go.Ground.phase }, { on := 10, ground := Go.Ground.phase }, { on := 11, ground := Go.Ground.phase }, { on := 12, ground := Go.Ground.phase }, { on := 13, ground := Go.Ground.phase }, { on := 14, ground := Go.Ground.phase }, { on := 15, ground := Go.Ground.phase }, { on := 16, ground := Go.Ground.phase }], guard := none }) (v := ?vq19) [] rfl (by kernel_rfl) (by kernel_rfl) (by kernel_rfl) (by kernel_rfl) (by kernel_rfl) (fun _ _ _ h => h) (Or.inl ⟨by rfl, ?hyq19⟩) (by assumption) ?restq19
    case hyq19 => (intro w0 hSw; (try dsimp only at hSw); go_simp; try with_reducible rfl)
    simp only [Act.put, List.setIfInBounds_toArray, List.set_cons_zero, List.set_cons_succ]
    refine wpAnyK_ready (rs := [19]) (by kernel_rfl) (by simp) ?_
    refine AllReadyK.cons (o := { dst := none, op := Go.Op.store 49 (Go.Operand.tmp 39) (Go.Operand.tmp 37), type := 0, pos := "ref.go:53", after := #[{ on := 18, ground := Go.Ground.data }, { on := 16, ground := Go.Ground.data }, { on := 16, ground := Go.Ground.chain }, { on := 0, ground := Go.Ground.phase }, { on := 1, ground := Go.Ground.phase }, { on := 2, ground := Go.Ground.phase }, { on := 3, ground := Go.Ground.phase }, { on := 4, ground := Go.Ground.phase }, { on := 5, ground := Go.Ground.phase }, { on := 6, ground := Go.Ground.phase }, { on := 7, ground := Go.Ground.phase }, { on := 8, ground := Go.Ground.phase }, { on := 9, ground := Go.Ground.phase }, { on := 10, ground := Go.Ground.phase }, { on := 11, ground := Go.Ground.phase }, { on := 12, ground := Go.Ground.phase }, { on := 13, ground := Go.Ground.phase }, { on := 14, ground := Go.Ground.phase }, { on := 15, ground := Go.Ground.phase }, { on := 16, ground := Go.Ground.phase }], guard := none }) rfl (fun K hK => ?_) AllReadyK.nil
    go_simp
    refine hK.out _ _ (.inl rfl) (fun _ => ?_)
    clear hK K
    try simp only [Act.put, List.setIfInBounds_toArray, List.set_cons_zero, List.set_cons_succ]
    refine wpAnyK_done (by kernel_rfl) ?_ _
    refine NoPanic.normal ?_
    obtain ⟨W5, hW5⟩ : ∃ V, V = w7.setCell ⟨x, 1, none⟩ (.slice b5 (k + (N - (k + 1))) c5) := ⟨_, rfl⟩
    have hxr : x ≠ rc := by have h1 := H.out.blk.lt; have h2 := HRC.out; omega
    have hxp : x ≠ pb := by have h1 := H0.out.blk.lt; have h2 := HPB.out; omega
    have hT5 : Turns (fun i => i = x) w7 W5 := by rw [hW5]; exact (Turns.refl (fun i => i = x) w7).setCell (p := ⟨x, 1, none⟩) (.inl rfl) _
    have HP5 := hT5.blk (HP1.out.below hsc5.out HP1.out.lt) (fun e => hxp e.symm)
    have HR5 := hT5.blk (HR1.out.below hsc5.out HR1.out.lt) (fun e => hxr e.symm)
    have p0 := HP5.cell (i := 0) rfl
    have p1 := HP5.cell (i := 1) rfl
    have p2 := HP5.cell (i := 2) rfl
    have p3 := HP5.cell (i := 3) rfl
    have s0 := HR5.cell (i := 0) rfl
    have s1 := HR5.cell (i := 1) rfl
    have s2 := HR5.cell (i := 2) rfl
    have s3 := HR5.cell (i := 3) rfl
    have t0 := HR5.frozen 0
    have t1 := HR5.frozen 1
    have t2 := HR5.frozen 2
    have t3 := HR5.frozen 3
    obtain ⟨W3, hW3⟩ : ∃ V, V = st4N W5 rc (.int .i64 qi) (.int .i64 qf) (.int .i64 qd) (.string qb) := ⟨_, rfl⟩
    have hk9 : Blk W3 rc 36 [.int .i64 qi, .int .i64 qf, .int .i64 qd, .string qb] := by rw [hW3]; exact st4N_blk HR5 _ _ _ _
    have k0 := hk9.cell (i := 0) rfl
    have k1 := hk9.cell (i := 1) rfl
    have k2 := hk9.cell (i := 2) rfl
    have k3 := hk9.cell (i := 3) rfl
    have HEND := hid (HFIN.out w7 W5 W3 b5 c5 (k + (N - (k + 1))) hsc5 (by have := HKN.out; omega) hown5 hW5 (by rw [hW3]; exact st4N_turns _ _ _ _ _ _))
    clear hown3 hown5 hsc3 hsc5 hb3 hb5 hg3 hg5 hHeld hs0 f5 e5 hpk5 hT5 HP5 HR5 hk9
    have HW5 := hid hW5
    clear hW5
    rw [← HW5.out]
    try generalize (if cap = k + 1 then (some (⟨b, off, none⟩ : Addr)) else some ⟨b, off + (k + 1) * 4, none⟩) = zz
    go_wp2
    unfold st4N at hW3
    rw [← hW3]
    (try simp only [Exit.inBlock, Exit.then])
    refine bodyPost_ret (v := .tuple #[.agg #[.int .i64 qi, .int .i64 qf, .int .i64 qd, .string qb], .int .i64 0]) ?_ rfl ⟨rfl, HEND.out⟩
    rw [results_cell_tmp rfl]
    go_simp
set_option maxRecDepth 1000000 in
set_option maxHeartbeats 4000000 in
theorem RnAt.twice {w : World} {B x : Nat} {g : Nt} {eo : Option Addr} {cap : Nat} (h : RnAt w B x g eo cap) (hB : B ≤ w.heap.size) (hl0 : 0 ≤ g.last) (hlast : g.last ≤ 4611686018427387904) (id : Int) : Calls Try.prog 12 #[.pointer (some ⟨x, 0, none⟩), .int .i64 id] w fun e w' => e = .returned (.tuple #[.int .i64 (twiceI g id), .int .i64 (twiceC g id)]) ∧ RnTo B w w' x eo (twiceN g id) := by
  have H := hid h
  have HFI := hid (h.find id)
  unfold twiceI twiceC twiceN
  cases hf : found g.ps id with
  | none =>
    rw [findN_none hf] at HFI
    have HEND : Hid (RnTo B w w x eo g) := RnTo.same h (Below.refl _ _)
    clear h hB hl0 hlast hf
    go_enter Try.func12, Try.ntmps12
    go_wp2_with fail
    refine HFI.out.mono ?_
    rintro e w1 ⟨rfl, rfl⟩
    go_wp2
    go_ret2
    exact ⟨rfl, HEND.out⟩
  | some q =>
    obtain ⟨k, hk, hq, hqi, hno, hfn⟩ := findN_some hf
    rw [hfn] at HFI
    obtain ⟨N, HN⟩ : ∃ N, Hid (g.ps.length = N) := ⟨_, hid rfl⟩
    obtain ⟨b, off, hao, hbb, d0, d1, d2, d3⟩ := h.held.1.cellsD hk
    rw [hq] at d0 d1 d2 d3
    have c1 := h.blk.cell (i := 1) rfl
    rw [HN.out] at c1
    obtain ⟨qi, qf, qd, qb⟩ := q
    simp only at d0 d1 d2 d3
    subst hao
    have hk0 : (0 : Int) ≤ (k : Int) := by omega
    have hkl : (k : Int) < (N : Int) := by rw [← HN.out]; omega
    have hneg : ¬ (k : Int) < 0 := by omega
    have HSND := hid (fun V (hV : ScN w V) => ((h.below hV.out).send (Nat.le_trans hB hV.size) hl0 hlast qf qd qb).mono (fun e w' (hh : _ ∧ _) => And.intro hh.1 (show RnTo B w w' x (some ⟨b, off, none⟩) (sendN g qf qd qb) from by
      obtain ⟨eo', cap', h1, h2⟩ := hh.2
      exact ⟨eo', cap', h1, (Turns.of_below (F := FootX x (some ⟨b, off, none⟩)) hV.out (Nat.le_refl _)).trans h2 (fun i hi => .inl hi)⟩)))
    have HSA : Hid (∀ V, ScN w V → (ScN w V ∧ V.cell? ⟨x, 1, none⟩ = some (.slice (some ⟨b, off, none⟩) N cap) ∧ V.cell? ⟨b, off + k * 4 + 1, none⟩ = some (.int .i64 qf) ∧ V.cell? ⟨b, off + k * 4 + 2, none⟩ = some (.int .i64 qd) ∧ V.cell? ⟨b, off + k * 4 + 3, none⟩ = some (.string qb))) := fun V hV => by
      have h2 := (H.out.below hV.out).blk.cell (i := 1) rfl
      rw [HN.out] at h2
      exact ⟨hV, h2, (hV.out.cell (p := ⟨b, _, none⟩) hbb).trans d1, (hV.out.cell (p := ⟨b, _, none⟩) hbb).trans d2, (hV.out.cell (p := ⟨b, _, none⟩) hbb).trans d3⟩
    dsimp only
    obtain ⟨I0, HI0⟩ : ∃ z, Hid (sendI g qf qd qb = z) := ⟨_, hid rfl⟩
    obtain ⟨C0, HC0⟩ : ∃ z, Hid (sendC g qf qd qb = z) := ⟨_, hid rfl⟩
    obtain ⟨G0, HG0⟩ : ∃ z, Hid (sendN g qf qd qb = z) := ⟨_, hid rfl⟩
    rw [HI0.out, HC0.out, HG0.out] at HSND ⊢
    clear h hB hl0 hlast hf hk hq hqi hno hfn hbb d0 d1 d2 d3
    go_enter Try.func12, Try.ntmps12
    go_wp2_with fail
    refine HFI.out.mono ?_
    rintro e w1 ⟨rfl, rfl⟩
    clear c1
    go_wp2
    refine wp_region_noPanic ?_
    refine wp_region_Z 25 (fun V => ScN w1 V ∧ V.cell? ⟨x, 1, none⟩ = some (.slice (some ⟨b, off, none⟩) N cap) ∧ V.cell? ⟨b, off + k * 4 + 1, none⟩ = some (.int .i64 qf) ∧ V.cell? ⟨b, off + k * 4 + 2, none⟩ = some (.int .i64 qd) ∧ V.cell? ⟨b, off + k * 4 + 3, none⟩ = some (.string qb)) (by kernel_rfl) (HSA.out _ (ScN.start w1).dr) (fun hHeld => ?_)
    refine wpAnyZ_take (i := 0) (oi := { dst := some 12, op := Go.Op.move (Go.Operand.tmp 0), type := 27, pos := "ref.go:63", after := #[], guard := none }) (v := ?vq20) [] rfl (by kernel_rfl) (by kernel_rfl) (by kernel_rfl) (by kernel_rfl) (by kernel_rfl) (by rfl) (fun _ _ _ h => h) (Or.inl ⟨by rfl, ?hyq20⟩) (by assumption) ?restq20
    case hyq20 => (intro w0 hSw; (try dsimp only at hSw); go_simp; try with_reducible rfl)
    simp only [Act.put, List.setIfInBounds_toArray, List.set_cons_zero, List.set_cons_succ]
    refine wpAnyZ_take (i := 1) (oi := { dst := some 13, op := Go.Op.move (Go.Operand.tmp 0), type := 27, pos := "ref.go:63", after := #[], guard := none }) (v := ?vq21) [8, 7, 6, 4, 3, 2] rfl (by kernel_rfl) (by kernel_rfl) (by kernel_rfl) (by kernel_rfl) (by kernel_rfl) (by rfl) (fun _ _ _ h => h) (Or.inl ⟨by rfl, ?hyq21⟩) (by assumption) ?restq21
    case hyq21 => (intro w0 hSw; (try dsimp only at hSw); go_simp; try with_reducible rfl)
    simp only [Act.put, List.setIfInBounds_toArray, List.set_cons_zero, List.set_cons_succ]
    refine wpAnyZ_take (i := 2) (oi := { dst := some 14, op := Go.Op.nilCheck (Go.Operand.tmp 13), type := 0, pos := "ref.go:63", after := #[{ on := 1, ground := Go.Ground.data }], guard := none }) (v := ?vq22) [8, 7, 6, 4, 3] rfl (by kernel_rfl) (by kernel_rfl) (by kernel_rfl) (by kernel_rfl) (by kernel_rfl) (by rfl) (fun _ _ _ h => h) (Or.inl ⟨by rfl, ?hyq22⟩) (by assumption) ?restq22
    case hyq22 => (intro w0 hSw; (try dsimp only at hSw); go_simp; try with_reducible rfl)
    simp only [Act.put, List.setIfInBounds_toArray, List.set_cons_zero, List.set_cons_succ]
    refine wpAnyZ_take (i := 3) (oi := { dst := some 15, op := Go.Op.fieldAddr 51 (Go.Operand.tmp 14) 1, type := 0, pos := "ref.go:63", after := #[{ on := 2, ground := Go.Ground.data }], guard := none }) (v := ?vq23) [8, 7, 6, 4] rfl (by kernel_rfl) (by kernel_rfl) (by kernel_rfl) (by kernel_rfl) (by kernel_rfl) (by rfl) (fun _ _ _ h => h) (Or.inl ⟨by rfl, ?hyq23⟩) (by assumption) ?restq23
    case hyq23 => (intro w0 hSw; (try dsimp only at hSw); go_simp; try with_reducible rfl)
    simp only [Act.put, List.setIfInBounds_toArray, List.set_cons_zero, List.set_cons_succ]
    refine wpAnyZ_take (i := 4) (oi := { dst := some 16, op := Go.Op.load 49 (Go.Operand.tmp 15), type := 49, pos := "ref.go:63", after := #[{ on := 3, ground := Go.Ground.data }], guard := none }) (v := ?vq24) [8, 7, 6] rfl (by kernel_rfl) (by kernel_rfl) (by kernel_rfl) (by kernel_rfl) (by kernel_rfl) (by rfl) (fun _ _ _ h => h) (Or.inl ⟨by rfl, ?hyq24⟩) (by assumption) ?restq24
    case hyq24 => (intro w0 hSw; (try dsimp only at hSw); go_simp; try with_reducible rfl)
    simp only [Act.put, List.setIfInBounds_toArray, List.set_cons_zero, List.set_cons_succ]
    refine wpAnyZ_take (i := 5) (oi := { dst := some 17, op := Go.Op.move (Go.Operand.tmp 6), type := 3, pos := "ref.go:63", after := #[], guard := none }) (v := ?vq25) [8, 7, 6] rfl (by kernel_rfl) (by kernel_rfl) (by kernel_rfl) (by kernel_rfl) (by kernel_rfl) (by rfl) (fun _ _ _ h => h) (Or.inl ⟨by rfl, ?hyq25⟩) (by assumption) ?restq25
    case hyq25 => (intro w0 hSw; (try dsimp only at hSw); go_simp; try with_reducible rfl)
    simp only [Act.put, List.setIfInBounds_toArray, List.set_cons_zero, List.set_cons_succ]
    refine wpAnyZ_take (i := 6) (oi := { dst := some 18, op := Go.Op.indexAddr 49 (Go.Operand.tmp 16) (Go.Operand.tmp 17), type := 0, pos := "ref.go:63", after := #[{ on := 4, ground := Go.Ground.data }, { on := 5, ground := Go.Ground.data }], guard := none }) (v := ?vq26) [8, 7] rfl (by kernel_rfl) (by kernel_rfl) (by kernel_rfl) (by kernel_rfl) (by kernel_rfl) (by rfl) (fun _ _ _ h => h) (Or.inl ⟨by rfl, ?hyq26⟩) (by assumption) ?restq26
    case hyq26 => (intro w0 hSw; (try dsimp only at hSw); go_simp; try with_reducible rfl)
    simp only [Act.put, List.setIfInBounds_toArray, List.set_cons_zero, List.set_cons_succ]
    refine wpAnyZ_take (i := 7) (oi := { dst := some 19, op := Go.Op.fieldAddr 36 (Go.Operand.tmp 18) 1, type := 0, pos := "ref.go:63", after := #[{ on := 6, ground := Go.Ground.data }], guard := none }) (v := ?vq27) [8] rfl (by kernel_rfl) (by kernel_rfl) (by kernel_rfl) (by kernel_rfl) (by kernel_rfl) (by rfl) (fun _ _ _ h => h) (Or.inl ⟨by rfl, ?hyq27⟩) (by assumption) ?restq27
    case hyq27 => (intro w0 hSw; (try dsimp only at hSw); go_simp; try with_reducible rfl)
    simp only [Act.put, List.setIfInBounds_toArray, List.set_cons_zero, List.set_cons_succ]
    refine wpAnyZ_take (i := 8) (oi := { dst := some 20, op := Go.Op.load 3 (Go.Operand.tmp 19), type := 3, pos := "ref.go:63", after := #[{ on := 7, ground := Go.Ground.data }], guard := none }) (v := ?vq28) [] rfl (by kernel_rfl) (by kernel_rfl) (by kernel_rfl) (by kernel_rfl) (by kernel_rfl) (by rfl) (fun _ _ _ h => h) (Or.inl ⟨by rfl, ?hyq28⟩) (by assumption) ?restq28
    case hyq28 => (intro w0 hSw; (try dsimp only at hSw); go_simp; try with_reducible rfl)
    simp only [Act.put, List.setIfInBounds_toArray, List.set_cons_zero, List.set_cons_succ]
    refine wpAnyZ_take (i := 9) (oi := { dst := some 21, op := Go.Op.move (Go.Operand.tmp 0), type := 27, pos := "ref.go:63", after := #[], guard := none }) (v := ?vq29) [16, 15, 14, 12, 11, 10] rfl (by kernel_rfl) (by kernel_rfl) (by kernel_rfl) (by kernel_rfl) (by kernel_rfl) (by rfl) (fun _ _ _ h => h) (Or.inl ⟨by rfl, ?hyq29⟩) (by assumption) ?restq29
    case hyq29 => (intro w0 hSw; (try dsimp only at hSw); go_simp; try with_reducible rfl)
    simp only [Act.put, List.setIfInBounds_toArray, List.set_cons_zero, List.set_cons_succ]
    refine wpAnyZ_take (i := 10) (oi := { dst := some 22, op := Go.Op.nilCheck (Go.Operand.tmp 21), type := 0, pos := "ref.go:63", after := #[{ on := 9, ground := Go.Ground.data }], guard := none }) (v := ?vq30) [16, 15, 14, 12, 11] rfl (by kernel_rfl) (by kernel_rfl) (by kernel_rfl) (by kernel_rfl) (by kernel_rfl) (by rfl) (fun _ _ _ h => h) (Or.inl ⟨by rfl, ?hyq30⟩) (by assumption) ?restq30
    case hyq30 => (intro w0 hSw; (try dsimp only at hSw); go_simp; try with_reducible rfl)
    simp only [Act.put, List.setIfInBounds_toArray, List.set_cons_zero, List.set_cons_succ]
    refine wpAnyZ_take (i := 11) (oi := { dst := some 23, op := Go.Op.fieldAddr 51 (Go.Operand.tmp 22) 1, type := 0, pos := "ref.go:63", after := #[{ on := 10, ground := Go.Ground.data }], guard := none }) (v := ?vq31) [16, 15, 14, 12] rfl (by kernel_rfl) (by kernel_rfl) (by kernel_rfl) (by kernel_rfl) (by kernel_rfl) (by rfl) (fun _ _ _ h => h) (Or.inl ⟨by rfl, ?hyq31⟩) (by assumption) ?restq31
    case hyq31 => (intro w0 hSw; (try dsimp only at hSw); go_simp; try with_reducible rfl)
    simp only [Act.put, List.setIfInBounds_toArray, List.set_cons_zero, List.set_cons_succ]
    refine wpAnyZ_take (i := 12) (oi := { dst := some 24, op := Go.Op.load 49 (Go.Operand.tmp 23), type := 49, pos := "ref.go:63", after := #[{ on := 11, ground := Go.Ground.data }], guard := none }) (v := ?vq32) [16, 15, 14] rfl (by kernel_rfl) (by kernel_rfl) (by kernel_rfl) (by kernel_rfl) (by kernel_rfl) (by rfl) (fun _ _ _ h => h) (Or.inl ⟨by rfl, ?hyq32⟩) (by assumption) ?restq32
    case hyq32 => (intro w0 hSw; (try dsimp only at hSw); go_simp; try with_reducible rfl)
    simp only [Act.put, List.setIfInBounds_toArray, List.set_cons_zero, List.set_cons_succ]
    refine wpAnyZ_take (i := 13) (oi := { dst := some 25, op := Go.Op.move (Go.Operand.tmp 6), type := 3, pos := "ref.go:63", after := #[], guard := none }) (v := ?vq33) [16, 15, 14] rfl (by kernel_rfl) (by kernel_rfl) (by kernel_rfl) (by kernel_rfl) (by kernel_rfl) (by rfl) (fun _ _ _ h => h) (Or.inl ⟨by rfl, ?hyq33⟩) (by assumption) ?restq33
    case hyq33 => (intro w0 hSw; (try dsimp only at hSw); go_simp; try with_reducible rfl)
    simp only [Act.put, List.setIfInBounds_toArray, List.set_cons_zero, List.set_cons_succ]
    refine wpAnyZ_take (i := 14) (oi := { dst := some 26, op := Go.Op.indexAddr 49 (Go.Operand.tmp 24) (Go.Operand.tmp 25), type := 0, pos := "ref.go:63", after := #[{ on := 12, ground := Go.Ground.data }, { on := 13, ground := Go.Ground.data }], guard := none }) (v := ?vq34) [16, 15] rfl (by kernel_rfl) (by kernel_rfl) (by kernel_rfl) (by kernel_rfl) (by kernel_rfl) (by rfl) (fun _ _ _ h => h) (Or.inl ⟨by rfl, ?hyq34⟩) (by assumption) ?restq34
    case hyq34 => (intro w0 hSw; (try dsimp only at hSw); go_simp; try with_reducible rfl)
    simp only [Act.put, List.setIfInBounds_toArray, List.set_cons_zero, List.set_cons_succ]
    refine wpAnyZ_take (i := 15) (oi := { dst := some 27, op := Go.Op.fieldAddr 36 (Go.Operand.tmp 26) 2, type := 0, pos := "ref.go:63", after := #[{ on := 14, ground := Go.Ground.data }], guard := none }) (v := ?vq35) [16] rfl (by kernel_rfl) (by kernel_rfl) (by kernel_rfl) (by kernel_rfl) (by kernel_rfl) (by rfl) (fun _ _ _ h => h) (Or.inl ⟨by rfl, ?hyq35⟩) (by assumption) ?restq35
    case hyq35 => (intro w0 hSw; (try dsimp only at hSw); go_simp; try with_reducible rfl)
    simp only [Act.put, List.setIfInBounds_toArray, List.set_cons_zero, List.set_cons_succ]
    refine wpAnyZ_take (i := 16) (oi := { dst := some 28, op := Go.Op.load 3 (Go.Operand.tmp 27), type := 3, pos := "ref.go:63", after := #[{ on := 15, ground := Go.Ground.data }], guard := none }) (v := ?vq36) [] rfl (by kernel_rfl) (by kernel_rfl) (by kernel_rfl) (by kernel_rfl) (by kernel_rfl) (by rfl) (fun _ _ _ h => h) (Or.inl ⟨by rfl, ?hyq36⟩) (by assumption) ?restq36
    case hyq36 => (intro w0 hSw; (try dsimp only at hSw); go_simp; try with_reducible rfl)
    simp only [Act.put, List.setIfInBounds_toArray, List.set_cons_zero, List.set_cons_succ]
    refine wpAnyZ_take (i := 17) (oi := { dst := some 29, op := Go.Op.move (Go.Operand.tmp 0), type := 27, pos := "ref.go:63", after := #[], guard := none }) (v := ?vq37) [24, 23, 22, 20, 19, 18] rfl (by kernel_rfl) (by kernel_rfl) (by kernel_rfl) (by kernel_rfl) (by kernel_rfl) (by rfl) (fun _ _ _ h => h) (Or.inl ⟨by rfl, ?hyq37⟩) (by assumption) ?restq37
    case hyq37 => (intro w0 hSw; (try dsimp only at hSw); go_simp; try with_reducible rfl)
    simp only [Act.put, List.setIfInBounds_toArray, List.set_cons_zero, List.set_cons_succ]
    refine wpAnyZ_take (i := 18) (oi := { dst := some 30, op := Go.Op.nilCheck (Go.Operand.tmp 29), type := 0, pos := "ref.go:63", after := #[{ on := 17, ground := Go.Ground.data }], guard := none }) (v := ?vq38) [24, 23, 22, 20, 19] rfl (by kernel_rfl) (by kernel_rfl) (by kernel_rfl) (by kernel_rfl) (by kernel_rfl) (by rfl) (fun _ _ _ h => h) (Or.inl ⟨by rfl, ?hyq38⟩) (by assumption) ?restq38
    case hyq38 => (intro w0 hSw; (try dsimp only at hSw); go_simp; try with_reducible rfl)
    simp only [Act.put, List.setIfInBounds_toArray, List.set_cons_zero, List.set_cons_succ]
    refine wpAnyZ_take (i := 19) (oi := { dst := some 31, op := Go.Op.fieldAddr 51 (Go.Operand.tmp 30) 1, type := 0, pos := "ref.go:63", after := #[{ on := 18, ground := Go.Ground.data }], guard := none }) (v := ?vq39) [24, 23, 22, 20] rfl (by kernel_rfl) (by kernel_rfl) (by kernel_rfl) (by kernel_rfl) (by kernel_rfl) (by rfl) (fun _ _ _ h => h) (Or.inl ⟨by rfl, ?hyq39⟩) (by assumption) ?restq39
    case hyq39 => (intro w0 hSw; (try dsimp only at hSw); go_simp; try with_reducible rfl)
    simp only [Act.put, List.setIfInBounds_toArray, List.set_cons_zero, List.set_cons_succ]
    refine wpAnyZ_take (i := 20) (oi := { dst := some 32, op := Go.Op.load 49 (Go.Operand.tmp 31), type := 49, pos := "ref.go:63", after := #[{ on := 19, ground := Go.Ground.data }], guard := none }) (v := ?vq40) [24, 23, 22] rfl (by kernel_rfl) (by kernel_rfl) (by kernel_rfl) (by kernel_rfl) (by kernel_rfl) (by rfl) (fun _ _ _ h => h) (Or.inl ⟨by rfl, ?hyq40⟩) (by assumption) ?restq40
    case hyq40 => (intro w0 hSw; (try dsimp only at hSw); go_simp; try with_reducible rfl)
    simp only [Act.put, List.setIfInBounds_toArray, List.set_cons_zero, List.set_cons_succ]
    refine wpAnyZ_take (i := 21) (oi := { dst := some 33, op := Go.Op.move (Go.Operand.tmp 6), type := 3, pos := "ref.go:63", after := #[], guard := none }) (v := ?vq41) [24, 23, 22] rfl (by kernel_rfl) (by kernel_rfl) (by kernel_rfl) (by kernel_rfl) (by kernel_rfl) (by rfl) (fun _ _ _ h => h) (Or.inl ⟨by rfl, ?hyq41⟩) (by assumption) ?restq41
    case hyq41 => (intro w0 hSw; (try dsimp only at hSw); go_simp; try with_reducible rfl)
    simp only [Act.put, List.setIfInBounds_toArray, List.set_cons_zero, List.set_cons_succ]
    refine wpAnyZ_take (i := 22) (oi := { dst := some 34, op := Go.Op.indexAddr 49 (Go.Operand.tmp 32) (Go.Operand.tmp 33), type := 0, pos := "ref.go:63", after := #[{ on := 20, ground := Go.Ground.data }, { on := 21, ground := Go.Ground.data }], guard := none }) (v := ?vq42) [24, 23] rfl (by kernel_rfl) (by kernel_rfl) (by kernel_rfl) (by kernel_rfl) (by kernel_rfl) (by rfl) (fun _ _ _ h => h) (Or.inl ⟨by rfl, ?hyq42⟩) (by assumption) ?restq42
    case hyq42 => (intro w0 hSw; (try dsimp only at hSw); go_simp; try with_reducible rfl)
    simp only [Act.put, List.setIfInBounds_toArray, List.set_cons_zero, List.set_cons_succ]
    refine wpAnyZ_take (i := 23) (oi := { dst := some 35, op := Go.Op.fieldAddr 36 (Go.Operand.tmp 34) 3, type := 0, pos := "ref.go:63", after := #[{ on := 22, ground := Go.Ground.data }], guard := none }) (v := ?vq43) [24] rfl (by kernel_rfl) (by kernel_rfl) (by kernel_rfl) (by kernel_rfl) (by kernel_rfl) (by rfl) (fun _ _ _ h => h) (Or.inl ⟨by rfl, ?hyq43⟩) (by assumption) ?restq43
    case hyq43 => (intro w0 hSw; (try dsimp only at hSw); go_simp; try with_reducible rfl)
    simp only [Act.put, List.setIfInBounds_toArray, List.set_cons_zero, List.set_cons_succ]
    refine wpAnyZ_take (i := 24) (oi := { dst := some 36, op := Go.Op.load 9 (Go.Operand.tmp 35), type := 9, pos := "ref.go:63", after := #[{ on := 23, ground := Go.Ground.data }], guard := none }) (v := ?vq44) [] rfl (by kernel_rfl) (by kernel_rfl) (by kernel_rfl) (by kernel_rfl) (by kernel_rfl) (by rfl) (fun _ _ _ h => h) (Or.inl ⟨by rfl, ?hyq44⟩) (by assumption) ?restq44
    case hyq44 => (intro w0 hSw; (try dsimp only at hSw); go_simp; try with_reducible rfl)
    simp only [Act.put, List.setIfInBounds_toArray, List.set_cons_zero, List.set_cons_succ]
    refine wpAnyZ_call (o := { dst := some 37, op := Go.Op.call { callee := Go.Callee.value (Go.Operand.func 8), args := #[Go.Operand.tmp 12, Go.Operand.tmp 20, Go.Operand.tmp 28, Go.Operand.tmp 36], argTypes := #[27, 3, 3, 9] }, type := 33, pos := "ref.go:63", after := #[{ on := 0, ground := Go.Ground.data }, { on := 8, ground := Go.Ground.data }, { on := 16, ground := Go.Ground.data }, { on := 24, ground := Go.Ground.data }], guard := none }) (by kernel_rfl) rfl (by kernel_rfl) (fun K hK => ?_)
    go_simp
    refine (HSND.out _ hHeld.1).mono ?_
    rintro e w5 ⟨rfl, hend⟩
    have HEND := hid hend
    clear hend
    go_simp
    refine hK.out _ _ ?_
    clear hK K
    try simp only [Act.put, List.setIfInBounds_toArray, List.set_cons_zero, List.set_cons_succ]
    refine wpAny_take (i := 26) (oi := { dst := some 38, op := Go.Op.extract (Go.Operand.tmp 37) 0, type := 3, pos := "ref.go:63", after := #[{ on := 25, ground := Go.Ground.data }], guard := none }) (v := ?vu45) rfl (by kernel_rfl) (by kernel_rfl) (by kernel_rfl) (fun _ _ _ h => h) (Or.inl ⟨by rfl, ?hyu45⟩) ?restu45
    case hyu45 => (intro w0; go_simp; try with_reducible rfl)
    simp only [Act.put, List.setIfInBounds_toArray, List.set_cons_zero, List.set_cons_succ]
    refine wpAny_take (i := 27) (oi := { dst := some 39, op := Go.Op.extract (Go.Operand.tmp 37) 1, type := 24, pos := "ref.go:63", after := #[{ on := 25, ground := Go.Ground.data }], guard := none }) (v := ?vu46) rfl (by kernel_rfl) (by kernel_rfl) (by kernel_rfl) (fun _ _ _ h => h) (Or.inl ⟨by rfl, ?hyu46⟩) ?restu46
    case hyu46 => (intro w0; go_simp; try with_reducible rfl)
    simp only [Act.put, List.setIfInBounds_toArray, List.set_cons_zero, List.set_cons_succ]
    refine wpAny_take (i := 28) (oi := { dst := some 4, op := Go.Op.assign (Go.Operand.tmp 38), type := 3, pos := "ref.go:63", after := #[{ on := 26, ground := Go.Ground.data }, { on := 25, ground := Go.Ground.chain }, { on := 0, ground := Go.Ground.phase }, { on := 1, ground := Go.Ground.phase }, { on := 2, ground := Go.Ground.phase }, { on := 3, ground := Go.Ground.phase }, { on := 4, ground := Go.Ground.phase }, { on := 5, ground := Go.Ground.phase }, { on := 6, ground := Go.Ground.phase }, { on := 7, ground := Go.Ground.phase }, { on := 8, ground := Go.Ground.phase }, { on := 9, ground := Go.Ground.phase }, { on := 10, ground := Go.Ground.phase }, { on := 11, ground := Go.Ground.phase }, { on := 12, ground := Go.Ground.phase }, { on := 13, ground := Go.Ground.phase }, { on := 14, ground := Go.Ground.phase }, { on := 15, ground := Go.Ground.phase }, { on := 16, ground := Go.Ground.phase }, { on := 17, ground := Go.Ground.phase }, { on := 18, ground := Go.Ground.phase }, { on := 19, ground := Go.Ground.phase }, { on := 20, ground := Go.Ground.phase }, { on := 21, ground := Go.Ground.phase }, { on := 22, ground := Go.Ground.phase }, { on := 23, ground := Go.Ground.phase }, { on := 24, ground := Go.Ground.phase }, { on := 25, ground := Go.Ground.phase }, { on := 26, ground := Go.Ground.phase }, { on := 27, ground := Go.Ground.phase }], guard := none }) (v := ?vu47) rfl (by kernel_rfl) (by kernel_rfl) (by kernel_rfl) (fun _ _ _ h => h) (Or.inl ⟨by rfl, ?hyu47⟩) ?restu47
    case hyu47 => (intro w0; go_simp; try with_reducible rfl)
    simp only [Act.put, List.setIfInBounds_toArray, List.set_cons_zero, List.set_cons_succ]
    refine wpAny_take (i := 29) (oi := { dst := some 5, op := Go.Op.assign (Go.Operand.tmp 39), type := 24, pos := "ref.go:63", after := #[{ on := 27, ground := Go.Ground.data }, { on := 28, ground := Go.Ground.chain }, { on := 0, ground := Go.Ground.phase }, { on := 1, ground := Go.Ground.phase }, { on := 2, ground := Go.Ground.phase }, { on := 3, ground := Go.Ground.phase }, { on := 4, ground := Go.Ground.phase }, { on := 5, ground := Go.Ground.phase }, { on := 6, ground := Go.Ground.phase }, { on := 7, ground := Go.Ground.phase }, { on := 8, ground := Go.Ground.phase }, { on := 9, ground := Go.Ground.phase }, { on := 10, ground := Go.Ground.phase }, { on := 11, ground := Go.Ground.phase }, { on := 12, ground := Go.Ground.phase }, { on := 13, ground := Go.Ground.phase }, { on := 14, ground := Go.Ground.phase }, { on := 15, ground := Go.Ground.phase }, { on := 16, ground := Go.Ground.phase }, { on := 17, ground := Go.Ground.phase }, { on := 18, ground := Go.Ground.phase }, { on := 19, ground := Go.Ground.phase }, { on := 20, ground := Go.Ground.phase }, { on := 21, ground := Go.Ground.phase }, { on := 22, ground := Go.Ground.phase }, { on := 23, ground := Go.Ground.phase }, { on := 24, ground := Go.Ground.phase }, { on := 25, ground := Go.Ground.phase }, { on := 26, ground := Go.Ground.phase }, { on := 27, ground := Go.Ground.phase }, { on := 28, ground := Go.Ground.phase }], guard := none }) (v := ?vu48) rfl (by kernel_rfl) (by kernel_rfl) (by kernel_rfl) (fun _ _ _ h => h) (Or.inl ⟨by rfl, ?hyu48⟩) ?restu48
    case hyu48 => (intro w0; go_simp; try with_reducible rfl)
    simp only [Act.put, List.setIfInBounds_toArray, List.set_cons_zero, List.set_cons_succ]
    refine wpAny_done (by kernel_rfl) ?_ _
    refine NoPanic.normal ?_
    go_wp2
    go_ret2
    exact ⟨rfl, HEND.out⟩
end Go.Proofs.Ytoacfdicjpoohaa
