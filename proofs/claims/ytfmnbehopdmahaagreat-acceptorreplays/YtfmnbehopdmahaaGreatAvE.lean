/-
  pannierref16.vote where the slot has no vote yet.
-/
import Derived.Test.YtfmnbehopdmahaaGreatOrdK
namespace Go.Proofs.YtfmnbehopdmahaaGreat
open Go.RowKit Go.Maps

theorem ra_addrO {w : World} {B x : Nat} {nd : Int} {pr : Int × Int} {xs : List VoM} {ad : Addr} {cap : Nat} (h : RaAt w B x nd pr xs (some ad) cap) : ∃ b off, ad = ⟨b, off, none⟩ := by
  obtain ⟨g, e, _⟩ := ra_addr h
  exact ⟨_, _, e⟩
theorem ra_none_cap {w : World} {B x : Nat} {nd : Int} {pr : Int × Int} {xs : List VoM} {cap : Nat} (h : RaAt w B x nd pr xs none cap) : cap = 0 := by
  rcases h.row.2 with ⟨he, _⟩ | ⟨g, c, cur, he, _⟩
  · injection he
  · cases he
theorem measLV {n k : Nat} (h : k + 1 ≤ n) (hw : wrap64 ((k : Int) + 1) = (k : Int) + 1) : n - (intOf (.int .i64 (wrap64 ((k : Int) + 1)))).toNat < n - (intOf (.int .i64 (k : Int))).toNat := measWV h hw
set_option maxRecDepth 1000000 in
set_option maxHeartbeats 4000000 in
theorem RaAt.vote_new {w : World} {B x : Nat} {nd : Int} {pr : Int × Int} {xs : List VoM} {eo : Option Addr} {cap : Nat} (h : RaAt w B x nd pr xs eo cap) (hB : B ≤ w.heap.size) (v : VoM) (hv : VoOk w v) (hl : ∀ b off, v.en.ao = some ⟨b, off, none⟩ → v.en.e.cut ≠ [] → SafeC w B b) (hn : xs.length < 4096) (hf : findV xs v.slot 0 = -1) :
    Calls Tryz.prog 24 #[.pointer (some ⟨x, 0, none⟩), v.val] w fun e w' => e = .returned (.bool true) ∧ VotR B w x nd pr eo (insV xs (leadV xs v.slot) v) w' := by
  obtain ⟨W, hW⟩ : ∃ W, W = w.alloc (.cells v.cells.toArray 73) := ⟨_, rfl⟩
  have HB : Hid (Below w.heap.size w W) := by rw [hW]; exact (Below.refl _ _).alloc (Nat.le_refl _) _
  have HK : Hid (Blk W w.heap.size 73 v.cells) := by rw [hW]; exact Blk.new w _ _
  have H := hid (h.below HB.out)
  obtain ⟨n, HN⟩ : ∃ n, Hid (xs.length = n) := ⟨_, hid rfl⟩
  have HNL : Hid (n < 4096) := by rw [← HN.out]; exact hn
  have HFIND := hid (H.out.find v.slot)
  rw [hf] at HFIND
  obtain ⟨pb, hpb⟩ : ∃ q, q = w.heap.size := ⟨_, rfl⟩
  rw [← hpb] at HK
  have HPB := hid hpb
  have HW := hid hW
  obtain ⟨LD, HLD⟩ : ∃ z, Hid (leadV xs v.slot = z) := ⟨_, hid rfl⟩
  have HFIN : Hid (∀ U, ScL W U → ∀ w5 W' bo cp k r, ScL U w5 → k = LD → r = n + 1 → w5.ownsRow U.heap.size 73 8 (.slice bo r cp) r (flatVo (insV xs k v)) → W' = w5.setCell ⟨x, 3, none⟩ (.slice bo r cp) → VotR B w x nd pr eo (insV xs LD v) W') := fun U hU w5 W' bo cp k r c1 c2 c3 c4 c5 => by
    subst c2
    have hk : k ≤ xs.length := by rw [← HLD.out]; exact leadV_le _ _
    have hr : r = (insV xs k v).length := by rw [insV_len hk, HN.out]; exact c3
    have HBU : Below w.heap.size w U := bt' HB.out hU.out
    have HU := H.out.below hU.out
    obtain ⟨eo', cap', h1, h2, h3⟩ := ra_newrow HU (Nat.le_trans hB HBU.size) hr (by have := HNL.out; omega) (fun z hz => (insV_mem hz).elim (fun h6 => HU.ok z h6) (fun h6 => by rw [h6]; exact hv.below HBU)) (fun z hz => (insV_mem hz).elim (fun h6 => HU.low z h6) (fun h6 => by rw [h6]; exact fun b off e hne => (hl b off e hne).below HBU)) c1.out c4 c5
    exact ⟨eo', cap', h1, (Turns.of_below (F := FootR x eo) HBU (Nat.le_refl _)).trans h2 (fun i hi => .inl hi), fun a ha => (h3 a ha).imp id (fun h4 => Nat.le_trans HBU.size h4)⟩
  have HCX : Hid (∀ V, ScL W V → V.cell? ⟨x, 3, none⟩ = some (.slice eo n cap)) := fun V hV => by
    have := (H.out.below hV.out).blk.cell (i := 3) rfl
    rw [HN.out] at this
    exact this
  have HKC : Hid (n ≤ cap) := by rw [← HN.out]; exact ra_cap H.out
  have HHX : Hid (∀ V, ScL W V → HeldV8 V eo xs) := fun V hV => H.out.held.v8.below hV.out
  obtain ⟨s, HS⟩ : ∃ s, Hid (v.slot = s) := ⟨_, hid rfl⟩
  rw [HS.out] at HLD
  obtain ⟨X, hX⟩ : ∃ X : VoM, v = X := ⟨_, rfl⟩
  have HXX := hid hX
  rw [hX] at HFIN ⊢
  have HSX : Hid (X.slot = s) := by rw [← hX]; exact HS
  rw [hX] at HFIND HK HW
  clear HS HXX
  subst hX
  obtain ⟨XN, HXN⟩ : ∃ m, Hid (v.en.e.cut.length = m) := ⟨_, hid rfl⟩
  have HXC : Hid (v.cells = [.int .i64 s, .int .i64 v.bal.1, .int .i64 v.bal.2, .bool v.en.e.noop, .string v.en.e.tok, .string v.en.e.cart, .int .i64 v.en.e.ep, .slice v.en.ao XN v.en.cap]) := by show _ = _; unfold VoM.cells; rw [HSX.out, HXN.out]
  have HXV : Hid (v.val = .agg #[.int .i64 s, .int .i64 v.bal.1, .int .i64 v.bal.2, .bool v.en.e.noop, .string v.en.e.tok, .string v.en.e.cart, .int .i64 v.en.e.ep, .slice v.en.ao XN v.en.cap]) := by show _ = _; unfold VoM.val; rw [HSX.out, HXN.out]
  rw [HSX.out] at HFIND
  rw [HXC.out] at HK HW
  rw [HXV.out, HSX.out, HLD.out]
  generalize v.bal.1 = br at HK HW HXC HXV ⊢
  generalize v.bal.2 = bn at HK HW HXC HXV ⊢
  generalize v.en.e.noop = np at HK HW HXC HXV ⊢
  generalize v.en.e.tok = tk at HK HW HXC HXV ⊢
  generalize v.en.e.cart = ct at HK HW HXC HXV ⊢
  generalize v.en.e.ep = ep at HK HW HXC HXV ⊢
  generalize v.en.ao = yo at HK HW HXC HXV ⊢
  generalize v.en.cap = yc at HK HW HXC HXV ⊢
  have HSA : Hid (∀ U, ScL W U → ∀ V, ScL U V → (ScL U V ∧ V.cell? ⟨x, 3, none⟩ = some (.slice eo n cap) ∧ V.cell? ⟨pb, 0, none⟩ = some (.int .i64 s) ∧ V.cell? ⟨pb, 1, none⟩ = some (.int .i64 br) ∧ V.cell? ⟨pb, 2, none⟩ = some (.int .i64 bn) ∧ V.cell? ⟨pb, 3, none⟩ = some (.bool np) ∧ V.cell? ⟨pb, 4, none⟩ = some (.string tk) ∧ V.cell? ⟨pb, 5, none⟩ = some (.string ct) ∧ V.cell? ⟨pb, 6, none⟩ = some (.int .i64 ep) ∧ V.cell? ⟨pb, 7, none⟩ = some (.slice yo XN yc))) := fun U hU V hV => by
    have h1 := HK.out.below (hU.go hV.out).out HK.out.lt
    exact ⟨hV, HCX.out V (hU.go hV.out), h1.cell rfl, h1.cell rfl, h1.cell rfl, h1.cell rfl, h1.cell rfl, h1.cell rfl, h1.cell rfl, h1.cell rfl⟩
  have HH3 : Hid (∀ V : World, HeldV8 (V.alloc (.cells #[.int .i64 s, .int .i64 br, .int .i64 bn, .bool np, .string tk, .string ct, .int .i64 ep, .slice yo XN yc] 73)) (some ⟨V.heap.size, 0, none⟩) [v]) := fun V => by
    have h1 := held_newV8 V v
    rw [HXC.out] at h1
    exact h1
  have HHA : Hid (∀ W : World, HeldV8 ((W.alloc (.cells #[.int .i64 s, .int .i64 br, .int .i64 bn, .bool np, .string tk, .string ct, .int .i64 ep, .slice yo XN yc] 73)).alloc (.cells #[] 73)).drew (some ⟨W.heap.size, 0, none⟩) [v]) := fun W => (HH3.out W).below (((Below.refl _ (W.alloc (.cells #[.int .i64 s, .int .i64 br, .int .i64 bn, .bool np, .string tk, .string ct, .int .i64 ep, .slice yo XN yc] 73))).alloc (Nat.le_refl _) (.cells #[] 73)).drew)
  have HHB : Hid (∀ W : World, HeldV8 ((W.alloc (.cells #[] 73)).alloc (.cells #[.int .i64 s, .int .i64 br, .int .i64 bn, .bool np, .string tk, .string ct, .int .i64 ep, .slice yo XN yc] 73)).drew (some ⟨W.heap.size + 1, 0, none⟩) [v]) := fun W => by
    have h1 := HH3.out (W.alloc (.cells #[] 73))
    rw [World.size_alloc] at h1
    exact h1.below (Below.refl _ _).drew
  have HXR := hid H.out
  clear h hv hl hn hf hW hpb hB
  go_enter Tryz.func24, Tryz.ntmps24
  go_wp2_with fail
  rw [← HW.out, ← HPB.out]
  refine HFIND.out.mono ?_
  rintro e w2 ⟨rfl, rfl⟩
  go_wp2
  go_loopw [7] (fun i wr => ∃ k : Nat, k ≤ n ∧ i = .int .i64 k ∧ Hid (k + leadV (xs.drop k) s = LD ∧ ScL w2 wr)) (fun i _ => n - (intOf i).toNat)
  case atStart => exact ⟨0, Nat.zero_le _, rfl, by rw [List.drop_zero, Nat.zero_add]; exact ⟨HLD.out, ScL.start _⟩⟩
  case round =>
    obtain ⟨k, hk, rfl, HLO⟩ := hrel
    have HWR := hid HLO.out.2
    obtain ⟨_, hx0, a0, _⟩ := HSA.out w2 (ScL.start _) wr HWR.out
    have hk0 : (0 : Int) ≤ (k : Int) := by omega
    have hkn : (k : Int) ≤ (n : Int) := by omega
    have hkc : (k : Int) ≤ (cap : Int) := by have := HKC.out; omega
    have hnc : (n : Int) ≤ (cap : Int) := by have := HKC.out; omega
    have HKN : Hid (k ≤ n) := hk
    by_cases hlt : k < n
    · have hlt' : decide ((k : Int) < (n : Int)) = true := decide_eq_true (by omega)
      have hltn : (k : Int) < (n : Int) := by omega
      have hltN : decide (k < n) = true := decide_eq_true hlt
      have HKX : Hid (k < xs.length) := by rw [HN.out]; exact hlt
      have HKM : Hid (k + 1 ≤ n) := (by omega : k + 1 ≤ n)
      have hwk : wrap64 ((k : Int) + 1) = (k : Int) + 1 := wrapS (by omega) (by have := HNL.out; omega)
      have HPS := hid (leadV_step (s := s) HKX.out)
      obtain ⟨b, off, hao, _, d0, _⟩ := (HXR.out.below HWR.out.out).held.cellsD HKX.out
      obtain ⟨sl, HSL⟩ : ∃ z, Hid ((xs.getD k default).slot = z) := ⟨_, hid rfl⟩
      rw [HSL.out] at d0 HPS
      by_cases hls : sl < s
      · have hls' : decide (sl < s) = true := decide_eq_true hls
        have HNX : Hid (k + 1 + leadV (xs.drop (k + 1)) s = LD) := by
          have h1 := HLO.out.1
          rw [HPS.out, if_pos hls] at h1
          exact (by omega : k + 1 + leadV (xs.drop (k + 1)) s = LD)
        subst hao
        clear hls hlt hk HPS
        go_wp2
        go_quiet (fail)
        go_wp2
        go_roundw
        case rel => exact ⟨k + 1, HKM.out, by go_num, HNX.out, ⟨below_dn HWR.out.out _⟩⟩
        case measure => first | exact measWV HKM.out hwk | exact meas1V HKM.out
      · have hls' : decide (sl < s) = false := decide_eq_false hls
        have HKE : Hid (k = LD) := by
          have h1 := HLO.out.1
          rw [HPS.out, if_neg hls] at h1
          exact (by omega : k = LD)
        subst hao
        clear hls hlt hk HPS
        go_wp2
        go_quiet (fail)
        go_wp2
        obtain ⟨U, hU⟩ : ∃ U, U = wr.drewN nq := ⟨_, rfl⟩
        have hS9 : ScL w2 U := by rw [hU]; exact ⟨below_dn HWR.out.out _⟩
        rw [← hU]
        have HFIN := hid (HFIN.out U hS9)
        have HSA := hid (HSA.out U hS9)
        have HHX := hid (fun V (hV : ScL U V) => HHX.out V (hS9.go hV.out))
        have HXR := hid (HXR.out.below hS9.out)
        clear hU hS9 hx0 a0
        refine wp_region_noPanic ?_
        refine wp_region_K 21 (fun V => ScL U V ∧ V.cell? ⟨x, 3, none⟩ = some (.slice (some ⟨b, off, none⟩) n cap) ∧ V.cell? ⟨pb, 0, none⟩ = some (.int .i64 s) ∧ V.cell? ⟨pb, 1, none⟩ = some (.int .i64 br) ∧ V.cell? ⟨pb, 2, none⟩ = some (.int .i64 bn) ∧ V.cell? ⟨pb, 3, none⟩ = some (.bool np) ∧ V.cell? ⟨pb, 4, none⟩ = some (.string tk) ∧ V.cell? ⟨pb, 5, none⟩ = some (.string ct) ∧ V.cell? ⟨pb, 6, none⟩ = some (.int .i64 ep) ∧ V.cell? ⟨pb, 7, none⟩ = some (.slice yo XN yc)) (by kernel_rfl) (HSA.out _ (ScL.start U).dr) (fun hHeld => ?_)
        have hs0 := (ScL.start U).dr
        refine wpAnyK_take (i := 0) (oi := { dst := some 69, op := Go.Op.move (Go.Operand.tmp 0), type := 28, pos := "ref.go:69", after := #[], guard := none }) (v := ?vq1) [] rfl (by kernel_rfl) (by kernel_rfl) (by kernel_rfl) (by kernel_rfl) (by kernel_rfl) (fun _ _ _ h => h) (Or.inl ⟨by rfl, ?hyq1⟩) (by assumption) ?restq1
        case hyq1 => (intro w0 hSw; (try dsimp only at hSw); go_simp; try with_reducible rfl)
        simp only [Act.put, List.setIfInBounds_toArray, List.set_cons_zero, List.set_cons_succ]
        refine wpAnyK_take (i := 2) (oi := { dst := some 71, op := Go.Op.move (Go.Operand.tmp 0), type := 28, pos := "ref.go:69", after := #[], guard := none }) (v := ?vq2) [] rfl (by kernel_rfl) (by kernel_rfl) (by kernel_rfl) (by kernel_rfl) (by kernel_rfl) (fun _ _ _ h => h) (Or.inl ⟨by rfl, ?hyq2⟩) (by assumption) ?restq2
        case hyq2 => (intro w0 hSw; (try dsimp only at hSw); go_simp; try with_reducible rfl)
        simp only [Act.put, List.setIfInBounds_toArray, List.set_cons_zero, List.set_cons_succ]
        refine wpAnyK_take (i := 3) (oi := { dst := some 72, op := Go.Op.nilCheck (Go.Operand.tmp 71), type := 0, pos := "ref.go:69", after := #[{ on := 2, ground := Go.Ground.data }], guard := none }) (v := ?vq3) [] rfl (by kernel_rfl) (by kernel_rfl) (by kernel_rfl) (by kernel_rfl) (by kernel_rfl) (fun _ _ _ h => h) (Or.inl ⟨by rfl, ?hyq3⟩) (by assumption) ?restq3
        case hyq3 => (intro w0 hSw; (try dsimp only at hSw); go_simp; try with_reducible rfl)
        simp only [Act.put, List.setIfInBounds_toArray, List.set_cons_zero, List.set_cons_succ]
        refine wpAnyK_take (i := 4) (oi := { dst := some 73, op := Go.Op.fieldAddr 51 (Go.Operand.tmp 72) 2, type := 0, pos := "ref.go:69", after := #[{ on := 3, ground := Go.Ground.data }], guard := none }) (v := ?vq4) [] rfl (by kernel_rfl) (by kernel_rfl) (by kernel_rfl) (by kernel_rfl) (by kernel_rfl) (fun _ _ _ h => h) (Or.inl ⟨by rfl, ?hyq4⟩) (by assumption) ?restq4
        case hyq4 => (intro w0 hSw; (try dsimp only at hSw); go_simp; try with_reducible rfl)
        simp only [Act.put, List.setIfInBounds_toArray, List.set_cons_zero, List.set_cons_succ]
        refine wpAnyK_take (i := 5) (oi := { dst := some 74, op := Go.Op.load 40 (Go.Operand.tmp 73), type := 40, pos := "ref.go:69", after := #[{ on := 4, ground := Go.Ground.data }], guard := none }) (v := ?vq5) [] rfl (by kernel_rfl) (by kernel_rfl) (by kernel_rfl) (by kernel_rfl) (by kernel_rfl) (fun _ _ _ h => h) (Or.inl ⟨by rfl, ?hyq5⟩) (by assumption) ?restq5
        case hyq5 => (intro w0 hSw; (try dsimp only at hSw); go_simp; try with_reducible rfl)
        simp only [Act.put, List.setIfInBounds_toArray, List.set_cons_zero, List.set_cons_succ]
        refine wpAnyK_take (i := 6) (oi := { dst := some 75, op := Go.Op.move (Go.Operand.tmp 7), type := 3, pos := "ref.go:69", after := #[], guard := none }) (v := ?vq6) [] rfl (by kernel_rfl) (by kernel_rfl) (by kernel_rfl) (by kernel_rfl) (by kernel_rfl) (fun _ _ _ h => h) (Or.inl ⟨by rfl, ?hyq6⟩) (by assumption) ?restq6
        case hyq6 => (intro w0 hSw; (try dsimp only at hSw); go_simp; try with_reducible rfl)
        simp only [Act.put, List.setIfInBounds_toArray, List.set_cons_zero, List.set_cons_succ]
        refine wpAnyK_take (i := 7) (oi := { dst := some 76, op := Go.Op.slice 40 (Go.Operand.tmp 74) none (some (Go.Operand.tmp 75)) none, type := 40, pos := "ref.go:69", after := #[{ on := 5, ground := Go.Ground.data }, { on := 6, ground := Go.Ground.data }], guard := none }) (v := ?vq7) [] rfl (by kernel_rfl) (by kernel_rfl) (by kernel_rfl) (by kernel_rfl) (by kernel_rfl) (fun _ _ _ h => h) (Or.inl ⟨by rfl, ?hyq7⟩) (by assumption) ?restq7
        case hyq7 => (intro w0 hSw; (try dsimp only at hSw); go_simp; try with_reducible rfl)
        simp only [Act.put, List.setIfInBounds_toArray, List.set_cons_zero, List.set_cons_succ]
        refine wpAnyK_take (i := 9) (oi := { dst := some 78, op := Go.Op.load 73 (Go.Operand.tmp 3), type := 73, pos := "ref.go:69", after := #[], guard := none }) (v := ?vq8) [] rfl (by kernel_rfl) (by kernel_rfl) (by kernel_rfl) (by kernel_rfl) (by kernel_rfl) (fun _ _ _ h => h) (Or.inl ⟨by rfl, ?hyq8⟩) (by assumption) ?restq8
        case hyq8 => (intro w0 hSw; (try dsimp only at hSw); go_simp; try with_reducible rfl)
        simp only [Act.put, List.setIfInBounds_toArray, List.set_cons_zero, List.set_cons_succ]
        refine wpAnyK_take (i := 12) (oi := { dst := some 81, op := Go.Op.move (Go.Operand.tmp 0), type := 28, pos := "ref.go:69", after := #[], guard := none }) (v := ?vq9) [] rfl (by kernel_rfl) (by kernel_rfl) (by kernel_rfl) (by kernel_rfl) (by kernel_rfl) (fun _ _ _ h => h) (Or.inl ⟨by rfl, ?hyq9⟩) (by assumption) ?restq9
        case hyq9 => (intro w0 hSw; (try dsimp only at hSw); go_simp; try with_reducible rfl)
        simp only [Act.put, List.setIfInBounds_toArray, List.set_cons_zero, List.set_cons_succ]
        refine wpAnyK_take (i := 13) (oi := { dst := some 82, op := Go.Op.nilCheck (Go.Operand.tmp 81), type := 0, pos := "ref.go:69", after := #[{ on := 12, ground := Go.Ground.data }], guard := none }) (v := ?vq10) [] rfl (by kernel_rfl) (by kernel_rfl) (by kernel_rfl) (by kernel_rfl) (by kernel_rfl) (fun _ _ _ h => h) (Or.inl ⟨by rfl, ?hyq10⟩) (by assumption) ?restq10
        case hyq10 => (intro w0 hSw; (try dsimp only at hSw); go_simp; try with_reducible rfl)
        simp only [Act.put, List.setIfInBounds_toArray, List.set_cons_zero, List.set_cons_succ]
        refine wpAnyK_take (i := 14) (oi := { dst := some 83, op := Go.Op.fieldAddr 51 (Go.Operand.tmp 82) 2, type := 0, pos := "ref.go:69", after := #[{ on := 13, ground := Go.Ground.data }], guard := none }) (v := ?vq11) [] rfl (by kernel_rfl) (by kernel_rfl) (by kernel_rfl) (by kernel_rfl) (by kernel_rfl) (fun _ _ _ h => h) (Or.inl ⟨by rfl, ?hyq11⟩) (by assumption) ?restq11
        case hyq11 => (intro w0 hSw; (try dsimp only at hSw); go_simp; try with_reducible rfl)
        simp only [Act.put, List.setIfInBounds_toArray, List.set_cons_zero, List.set_cons_succ]
        refine wpAnyK_take (i := 15) (oi := { dst := some 84, op := Go.Op.load 40 (Go.Operand.tmp 83), type := 40, pos := "ref.go:69", after := #[{ on := 14, ground := Go.Ground.data }], guard := none }) (v := ?vq12) [] rfl (by kernel_rfl) (by kernel_rfl) (by kernel_rfl) (by kernel_rfl) (by kernel_rfl) (fun _ _ _ h => h) (Or.inl ⟨by rfl, ?hyq12⟩) (by assumption) ?restq12
        case hyq12 => (intro w0 hSw; (try dsimp only at hSw); go_simp; try with_reducible rfl)
        simp only [Act.put, List.setIfInBounds_toArray, List.set_cons_zero, List.set_cons_succ]
        refine wpAnyK_take (i := 16) (oi := { dst := some 85, op := Go.Op.move (Go.Operand.tmp 7), type := 3, pos := "ref.go:69", after := #[], guard := none }) (v := ?vq13) [] rfl (by kernel_rfl) (by kernel_rfl) (by kernel_rfl) (by kernel_rfl) (by kernel_rfl) (fun _ _ _ h => h) (Or.inl ⟨by rfl, ?hyq13⟩) (by assumption) ?restq13
        case hyq13 => (intro w0 hSw; (try dsimp only at hSw); go_simp; try with_reducible rfl)
        simp only [Act.put, List.setIfInBounds_toArray, List.set_cons_zero, List.set_cons_succ]
        refine wpAnyK_take (i := 17) (oi := { dst := some 86, op := Go.Op.slice 40 (Go.Operand.tmp 84) (some (Go.Operand.tmp 85)) none none, type := 40, pos := "ref.go:69", after := #[{ on := 15, ground := Go.Ground.data }, { on := 16, ground := Go.Ground.data }], guard := none }) (v := ?vq14) [] rfl (by kernel_rfl) (by kernel_rfl) (by kernel_rfl) (by kernel_rfl) (by kernel_rfl) (fun _ _ _ h => h) (Or.inl ⟨by rfl, ?hyq14⟩) (by assumption) ?restq14
        case hyq14 => (intro w0 hSw; (try dsimp only at hSw); go_simp; try with_reducible rfl)
        simp only [Act.put, List.setIfInBounds_toArray, List.set_cons_zero, List.set_cons_succ]
        refine wpAnyK_ready (rs := [1, 10]) (by kernel_rfl) (by simp) ?_
        refine AllReadyK.cons (o := { dst := some 70, op := Go.Op.buildSlice 40 0 #[], type := 40, pos := "ref.go:69", after := #[], guard := none }) rfl (fun K hK => ?_) (AllReadyK.cons (o := { dst := some 79, op := Go.Op.buildSlice 40 1 #[(0, Go.Operand.tmp 78)], type := 40, pos := "ref.go:69", after := #[{ on := 9, ground := Go.Ground.data }], guard := none }) rfl (fun K hK => ?_) AllReadyK.nil)
        · go_simp
          refine hK.out _ _ (.inr (HSA.out _ (by (repeat (first | assumption | exact ScL.start _ | apply ScL.dr | apply ScL.alloc))))) (fun hHeld => ?_)
          have hHeld := hHeld.resolve_right (by decide)
          clear hK K
          try simp only [Act.put, List.setIfInBounds_toArray, List.set_cons_zero, List.set_cons_succ]
          refine wpAnyK_ready (rs := [8, 10]) (by kernel_rfl) (by simp) ?_
          refine AllReadyK.cons (o := { dst := some 77, op := Go.Op.call { callee := Go.Callee.builtin Go.Builtin.append, args := #[Go.Operand.tmp 70, Go.Operand.tmp 76], argTypes := #[40, 40] }, type := 40, pos := "ref.go:69", after := #[{ on := 1, ground := Go.Ground.data }, { on := 7, ground := Go.Ground.data }], guard := none }) rfl (fun K hK => ?_) (AllReadyK.cons (o := { dst := some 79, op := Go.Op.buildSlice 40 1 #[(0, Go.Operand.tmp 78)], type := 40, pos := "ref.go:69", after := #[{ on := 9, ground := Go.Ground.data }], guard := none }) rfl (fun K hK => ?_) AllReadyK.nil)
          · refine step_copy_v8 rfl _ _ rfl U.heap.size _ rfl ?ownz29 _ _ _ (xs.take k) ?hmz29 rfl ?hhz29 ?hsumz29 ?hbasez29 ?restz29
            case ownz29 => first | exact ownV8_made U _ (Nat.le_refl _) | exact (ownV8_made U _ (Nat.le_refl _)).alloc _ | exact ownV8_made2 U _ _ (Nat.le_refl _)
            case hmz29 => have := HN.out; have := HKN.out; rw [List.length_take]; omega
            case hhz29 => first | exact (HHX.out _ (by (repeat (first | assumption | exact ScL.start _ | apply ScL.dr | apply ScL.alloc)))).take k | exact (.inl (by have := HN.out; have := HKN.out; exact List.take_eq_nil_iff.2 (.inl (by omega))))
            case hsumz29 => have := HKN.out; have := HNL.out; omega
            case hbasez29 => exact ScL.size (by (repeat (first | assumption | exact ScL.start _ | apply ScL.dr | apply ScL.alloc)))
            intro b3 c3 w5 hown3 hb3 hg3
            have hsc3 : ScL U w5 := ScL.grown (by (repeat (first | assumption | exact ScL.start _ | apply ScL.dr | apply ScL.alloc))) hb3
            refine hK.out _ _ (.inr (HSA.out _ (by (repeat (first | assumption | exact ScL.start _ | apply ScL.dr | apply ScL.alloc))))) (fun hHeld => ?_)
            have hHeld := hHeld.resolve_right (by decide)
            clear hK K
            try simp only [Act.put, List.setIfInBounds_toArray, List.set_cons_zero, List.set_cons_succ]
            refine wpAnyK_ready (rs := [10]) (by kernel_rfl) (by simp) ?_
            refine AllReadyK.cons (o := { dst := some 79, op := Go.Op.buildSlice 40 1 #[(0, Go.Operand.tmp 78)], type := 40, pos := "ref.go:69", after := #[{ on := 9, ground := Go.Ground.data }], guard := none }) rfl (fun K hK => ?_) AllReadyK.nil
            go_simp
            refine hK.out _ _ (.inr (HSA.out _ (by (repeat (first | assumption | exact ScL.start _ | apply ScL.dr | apply ScL.alloc))))) (fun hHeld => ?_)
            have hHeld := hHeld.resolve_right (by decide)
            clear hK K
            try simp only [Act.put, List.setIfInBounds_toArray, List.set_cons_zero, List.set_cons_succ]
            refine wpAnyK_ready (rs := [11]) (by kernel_rfl) (by simp) ?_
            refine AllReadyK.cons (o := { dst := some 80, op := Go.Op.call { callee := Go.Callee.builtin Go.Builtin.append, args := #[Go.Operand.tmp 77, Go.Operand.tmp 79], argTypes := #[40, 40] }, type := 40, pos := "ref.go:69", after := #[{ on := 8, ground := Go.Ground.data }, { on := 10, ground := Go.Ground.data }, { on := 8, ground := Go.Ground.chain }], guard := none }) rfl (fun K hK => ?_) AllReadyK.nil
            refine step_append_v8 rfl _ _ rfl U.heap.size _ _ (xs.take k) ?hnz20 rfl (hown3.alloc _) _ 1 1 [v] rfl rfl ?hhz20 ?hsumz20 ?hbasez20 ?restz20
            case hnz20 => have := HN.out; have := HKN.out; rw [List.length_take]; omega
            case hhz20 => exact HH3.out _
            case hsumz20 => have := HKN.out; have := HNL.out; omega
            case hbasez20 => exact ScL.size (by (repeat (first | assumption | exact ScL.start _ | apply ScL.dr | apply ScL.alloc)))
            intro b4 c4 w6 hown4 hb4 hg4
            have hsc4 : ScL U w6 := ScL.grown (by (repeat (first | assumption | exact ScL.start _ | apply ScL.dr | apply ScL.alloc))) hb4
            refine hK.out _ _ (.inr (HSA.out _ (by (repeat (first | assumption | exact ScL.start _ | apply ScL.dr | apply ScL.alloc))))) (fun hHeld => ?_)
            have hHeld := hHeld.resolve_right (by decide)
            clear hK K
            try simp only [Act.put, List.setIfInBounds_toArray, List.set_cons_zero, List.set_cons_succ]
            refine wpAnyK_ready (rs := [18]) (by kernel_rfl) (by simp) ?_
            refine AllReadyK.cons (o := { dst := some 87, op := Go.Op.call { callee := Go.Callee.builtin Go.Builtin.append, args := #[Go.Operand.tmp 80, Go.Operand.tmp 86], argTypes := #[40, 40] }, type := 40, pos := "ref.go:69", after := #[{ on := 11, ground := Go.Ground.data }, { on := 17, ground := Go.Ground.data }, { on := 11, ground := Go.Ground.chain }], guard := none }) rfl (fun K hK => ?_) AllReadyK.nil
            refine step_append_v8 rfl _ _ rfl U.heap.size _ _ (xs.take k ++ [v]) ?hnz21 rfl hown4 _ _ _ (xs.drop k) ?hmz21 rfl ?hhz21 ?hsumz21 ?hbasez21 ?restz21
            case hnz21 => have := HN.out; have := HKN.out; rw [List.length_append, List.length_take, List.length_singleton]; omega
            case hmz21 => have := HN.out; have := HKN.out; rw [List.length_drop]; omega
            case hhz21 => first | exact (HHX.out _ (by (repeat (first | assumption | exact ScL.start _ | apply ScL.dr | apply ScL.alloc)))).drop k | exact held_dropV8 (HHX.out _ (by (repeat (first | assumption | exact ScL.start _ | apply ScL.dr | apply ScL.alloc)))) k (by have := HN.out; have := HKC.out; omega)
            case hsumz21 => have := HKN.out; have := HNL.out; omega
            case hbasez21 => exact ScL.size (by (repeat (first | assumption | exact ScL.start _ | apply ScL.dr | apply ScL.alloc)))
            intro b5 c5 w7 hown5 hb5 hg5
            have hsc5 : ScL U w7 := ScL.grown (by (repeat (first | assumption | exact ScL.start _ | apply ScL.dr | apply ScL.alloc))) hb5
            refine hK.out _ _ (.inr (HSA.out _ (by (repeat (first | assumption | exact ScL.start _ | apply ScL.dr | apply ScL.alloc))))) (fun hHeld => ?_)
            have hHeld := hHeld.resolve_right (by decide)
            clear hK K
            try simp only [Act.put, List.setIfInBounds_toArray, List.set_cons_zero, List.set_cons_succ]
            have hpk5 := HXR.out.blk.below hsc5.out HXR.out.blk.lt
            have f5 := hpk5.frozen 3
            have e5 := hpk5.cell (i := 3) rfl
            rw [HN.out] at e5
            refine wpAnyK_take (i := 19) (oi := { dst := some 88, op := Go.Op.nilCheck (Go.Operand.tmp 69), type := 0, pos := "ref.go:69", after := #[{ on := 0, ground := Go.Ground.data }, { on := 0, ground := Go.Ground.phase }, { on := 1, ground := Go.Ground.phase }, { on := 2, ground := Go.Ground.phase }, { on := 3, ground := Go.Ground.phase }, { on := 4, ground := Go.Ground.phase }, { on := 5, ground := Go.Ground.phase }, { on := 6, ground := Go.Ground.phase }, { on := 7, ground := Go.Ground.phase }, { on := 8, ground := Go.Ground.phase }, { on := 9, ground := Go.Ground.phase }, { on := 10, ground := Go.Ground.phase }, { on := 11, ground := Go.Ground.phase }, { on := 12, ground := Go.Ground.phase }, { on := 13, ground := Go.Ground.phase }, { on := 14, ground := Go.Ground.phase }, { on := 15, ground := Go.Ground.phase }, { on := 16, ground := Go.Ground.phase }, { on := 17, ground := Go.Ground.phase }, { on := 18, ground := Go.Ground.phase }], guard := none }) (v := ?vq22) [20] rfl (by kernel_rfl) (by kernel_rfl) (by kernel_rfl) (by kernel_rfl) (by kernel_rfl) (fun _ _ _ h => h) (Or.inl ⟨by rfl, ?hyq22⟩) (by assumption) ?restq22
            case hyq22 => (intro w0 hSw; (try dsimp only at hSw); go_simp; try with_reducible rfl)
            simp only [Act.put, List.setIfInBounds_toArray, List.set_cons_zero, List.set_cons_succ]
            refine wpAnyK_take (i := 20) (oi := { dst := some 89, op := Go.Op.fieldAddr 51 (Go.Operand.tmp 88) 2, type := 0, pos := "ref.go:69", after := #[{ on := 19, ground := Go.Ground.data }, { on := 0, ground := Go.Ground.phase }, { on := 1, ground := Go.Ground.phase }, { on := 2, ground := Go.Ground.phase }, { on := 3, ground := Go.Ground.phase }, { on := 4, ground := Go.Ground.phase }, { on := 5, ground := Go.Ground.phase }, { on := 6, ground := Go.Ground.phase }, { on := 7, ground := Go.Ground.phase }, { on := 8, ground := Go.Ground.phase }, { on := 9, ground := Go.Ground.phase }, { on := 10, ground := Go.Ground.phase }, { on := 11, ground := Go.Ground.phase }, { on := 12, ground := Go.Ground.phase }, { on := 13, ground := Go.Ground.phase }, { on := 14, ground := Go.Ground.phase }, { on := 15, ground := Go.Ground.phase }, { on := 16, ground := Go.Ground.phase }, { on := 17, ground := Go.Ground.phase }, { on := 18, ground := Go.Ground.phase }], guard := none }) (v := ?vq23) [] rfl (by kernel_rfl) (by kernel_rfl) (by kernel_rfl) (by kernel_rfl) (by kernel_rfl) (fun _ _ _ h => h) (Or.inl ⟨by rfl, ?hyq23⟩) (by assumption) ?restq23
            case hyq23 => (intro w0 hSw; (try dsimp only at hSw); go_simp; try with_reducible rfl)
            simp only [Act.put, List.setIfInBounds_toArray, List.set_cons_zero, List.set_cons_succ]
            refine wpAnyK_ready (rs := [21]) (by kernel_rfl) (by simp) ?_
            refine AllReadyK.cons (o := { dst := none, op := Go.Op.store 40 (Go.Operand.tmp 89) (Go.Operand.tmp 87), type := 0, pos := "ref.go:69", after := #[{ on := 20, ground := Go.Ground.data }, { on := 18, ground := Go.Ground.data }, { on := 18, ground := Go.Ground.chain }, { on := 0, ground := Go.Ground.phase }, { on := 1, ground := Go.Ground.phase }, { on := 2, ground := Go.Ground.phase }, { on := 3, ground := Go.Ground.phase }, { on := 4, ground := Go.Ground.phase }, { on := 5, ground := Go.Ground.phase }, { on := 6, ground := Go.Ground.phase }, { on := 7, ground := Go.Ground.phase }, { on := 8, ground := Go.Ground.phase }, { on := 9, ground := Go.Ground.phase }, { on := 10, ground := Go.Ground.phase }, { on := 11, ground := Go.Ground.phase }, { on := 12, ground := Go.Ground.phase }, { on := 13, ground := Go.Ground.phase }, { on := 14, ground := Go.Ground.phase }, { on := 15, ground := Go.Ground.phase }, { on := 16, ground := Go.Ground.phase }, { on := 17, ground := Go.Ground.phase }, { on := 18, ground := Go.Ground.phase }], guard := none }) rfl (fun K hK => ?_) AllReadyK.nil
            go_simp
            refine hK.out _ _ (.inl rfl) (fun _ => ?_)
            clear hK K
            try simp only [Act.put, List.setIfInBounds_toArray, List.set_cons_zero, List.set_cons_succ]
            refine wpAnyK_done (by kernel_rfl) ?_ _
            refine NoPanic.normal ?_
            have HEND := hid (HFIN.out w7 _ b5 c5 k _ hsc5 HKE.out (by have := HKN.out; omega) hown5 rfl)
            clear hown3 hown4 hown5 hsc3 hsc4 hsc5 hb3 hb4 hb5 hg3 hg4 hg5 hHeld hs0 f5 e5 hpk5
            go_wp2
            all_goals (go_ret; exact ⟨rfl, HEND.out⟩)
          · go_simp
            refine hK.out _ _ (.inr (HSA.out _ (by (repeat (first | assumption | exact ScL.start _ | apply ScL.dr | apply ScL.alloc))))) (fun hHeld => ?_)
            have hHeld := hHeld.resolve_right (by decide)
            clear hK K
            try simp only [Act.put, List.setIfInBounds_toArray, List.set_cons_zero, List.set_cons_succ]
            refine wpAnyK_ready (rs := [8]) (by kernel_rfl) (by simp) ?_
            refine AllReadyK.cons (o := { dst := some 77, op := Go.Op.call { callee := Go.Callee.builtin Go.Builtin.append, args := #[Go.Operand.tmp 70, Go.Operand.tmp 76], argTypes := #[40, 40] }, type := 40, pos := "ref.go:69", after := #[{ on := 1, ground := Go.Ground.data }, { on := 7, ground := Go.Ground.data }], guard := none }) rfl (fun K hK => ?_) AllReadyK.nil
            refine step_copy_v8 rfl _ _ rfl U.heap.size _ rfl ?ownz15 _ _ _ (xs.take k) ?hmz15 rfl ?hhz15 ?hsumz15 ?hbasez15 ?restz15
            case ownz15 => first | exact ownV8_made U _ (Nat.le_refl _) | exact (ownV8_made U _ (Nat.le_refl _)).alloc _ | exact ownV8_made2 U _ _ (Nat.le_refl _)
            case hmz15 => have := HN.out; have := HKN.out; rw [List.length_take]; omega
            case hhz15 => first | exact (HHX.out _ (by (repeat (first | assumption | exact ScL.start _ | apply ScL.dr | apply ScL.alloc)))).take k | exact (.inl (by have := HN.out; have := HKN.out; exact List.take_eq_nil_iff.2 (.inl (by omega))))
            case hsumz15 => have := HKN.out; have := HNL.out; omega
            case hbasez15 => exact ScL.size (by (repeat (first | assumption | exact ScL.start _ | apply ScL.dr | apply ScL.alloc)))
            intro b3 c3 w5 hown3 hb3 hg3
            have hsc3 : ScL U w5 := ScL.grown (by (repeat (first | assumption | exact ScL.start _ | apply ScL.dr | apply ScL.alloc))) hb3
            refine hK.out _ _ (.inr (HSA.out _ (by (repeat (first | assumption | exact ScL.start _ | apply ScL.dr | apply ScL.alloc))))) (fun hHeld => ?_)
            have hHeld := hHeld.resolve_right (by decide)
            clear hK K
            try simp only [Act.put, List.setIfInBounds_toArray, List.set_cons_zero, List.set_cons_succ]
            refine wpAnyK_ready (rs := [11]) (by kernel_rfl) (by simp) ?_
            refine AllReadyK.cons (o := { dst := some 80, op := Go.Op.call { callee := Go.Callee.builtin Go.Builtin.append, args := #[Go.Operand.tmp 77, Go.Operand.tmp 79], argTypes := #[40, 40] }, type := 40, pos := "ref.go:69", after := #[{ on := 8, ground := Go.Ground.data }, { on := 10, ground := Go.Ground.data }, { on := 8, ground := Go.Ground.chain }], guard := none }) rfl (fun K hK => ?_) AllReadyK.nil
            refine step_append_v8 rfl _ _ rfl U.heap.size _ _ (xs.take k) ?hnz16 rfl (hown3) _ 1 1 [v] rfl rfl ?hhz16 ?hsumz16 ?hbasez16 ?restz16
            case hnz16 => have := HN.out; have := HKN.out; rw [List.length_take]; omega
            case hhz16 => exact held_grownV8 (show HeldV8 _ (some ⟨U.heap.size + 1, 0, none⟩) [v] from HHB.out U) hg3 (by simp)
            case hsumz16 => have := HKN.out; have := HNL.out; omega
            case hbasez16 => exact ScL.size (by (repeat (first | assumption | exact ScL.start _ | apply ScL.dr | apply ScL.alloc)))
            intro b4 c4 w6 hown4 hb4 hg4
            have hsc4 : ScL U w6 := ScL.grown (by (repeat (first | assumption | exact ScL.start _ | apply ScL.dr | apply ScL.alloc))) hb4
            refine hK.out _ _ (.inr (HSA.out _ (by (repeat (first | assumption | exact ScL.start _ | apply ScL.dr | apply ScL.alloc))))) (fun hHeld => ?_)
            have hHeld := hHeld.resolve_right (by decide)
            clear hK K
            try simp only [Act.put, List.setIfInBounds_toArray, List.set_cons_zero, List.set_cons_succ]
            refine wpAnyK_ready (rs := [18]) (by kernel_rfl) (by simp) ?_
            refine AllReadyK.cons (o := { dst := some 87, op := Go.Op.call { callee := Go.Callee.builtin Go.Builtin.append, args := #[Go.Operand.tmp 80, Go.Operand.tmp 86], argTypes := #[40, 40] }, type := 40, pos := "ref.go:69", after := #[{ on := 11, ground := Go.Ground.data }, { on := 17, ground := Go.Ground.data }, { on := 11, ground := Go.Ground.chain }], guard := none }) rfl (fun K hK => ?_) AllReadyK.nil
            refine step_append_v8 rfl _ _ rfl U.heap.size _ _ (xs.take k ++ [v]) ?hnz17 rfl hown4 _ _ _ (xs.drop k) ?hmz17 rfl ?hhz17 ?hsumz17 ?hbasez17 ?restz17
            case hnz17 => have := HN.out; have := HKN.out; rw [List.length_append, List.length_take, List.length_singleton]; omega
            case hmz17 => have := HN.out; have := HKN.out; rw [List.length_drop]; omega
            case hhz17 => first | exact (HHX.out _ (by (repeat (first | assumption | exact ScL.start _ | apply ScL.dr | apply ScL.alloc)))).drop k | exact held_dropV8 (HHX.out _ (by (repeat (first | assumption | exact ScL.start _ | apply ScL.dr | apply ScL.alloc)))) k (by have := HN.out; have := HKC.out; omega)
            case hsumz17 => have := HKN.out; have := HNL.out; omega
            case hbasez17 => exact ScL.size (by (repeat (first | assumption | exact ScL.start _ | apply ScL.dr | apply ScL.alloc)))
            intro b5 c5 w7 hown5 hb5 hg5
            have hsc5 : ScL U w7 := ScL.grown (by (repeat (first | assumption | exact ScL.start _ | apply ScL.dr | apply ScL.alloc))) hb5
            refine hK.out _ _ (.inr (HSA.out _ (by (repeat (first | assumption | exact ScL.start _ | apply ScL.dr | apply ScL.alloc))))) (fun hHeld => ?_)
            have hHeld := hHeld.resolve_right (by decide)
            clear hK K
            try simp only [Act.put, List.setIfInBounds_toArray, List.set_cons_zero, List.set_cons_succ]
            have hpk5 := HXR.out.blk.below hsc5.out HXR.out.blk.lt
            have f5 := hpk5.frozen 3
            have e5 := hpk5.cell (i := 3) rfl
            rw [HN.out] at e5
            refine wpAnyK_take (i := 19) (oi := { dst := some 88, op := Go.Op.nilCheck (Go.Operand.tmp 69), type := 0, pos := "ref.go:69", after := #[{ on := 0, ground := Go.Ground.data }, { on := 0, ground := Go.Ground.phase }, { on := 1, ground := Go.Ground.phase }, { on := 2, ground := Go.Ground.phase }, { on := 3, ground := Go.Ground.phase }, { on := 4, ground := Go.Ground.phase }, { on := 5, ground := Go.Ground.phase }, { on := 6, ground := Go.Ground.phase }, { on := 7, ground := Go.Ground.phase }, { on := 8, ground := Go.Ground.phase }, { on := 9, ground := Go.Ground.phase }, { on := 10, ground := Go.Ground.phase }, { on := 11, ground := Go.Ground.phase }, { on := 12, ground := Go.Ground.phase }, { on := 13, ground := Go.Ground.phase }, { on := 14, ground := Go.Ground.phase }, { on := 15, ground := Go.Ground.phase }, { on := 16, ground := Go.Ground.phase }, { on := 17, ground := Go.Ground.phase }, { on := 18, ground := Go.Ground.phase }], guard := none }) (v := ?vq18) [20] rfl (by kernel_rfl) (by kernel_rfl) (by kernel_rfl) (by kernel_rfl) (by kernel_rfl) (fun _ _ _ h => h) (Or.inl ⟨by rfl, ?hyq18⟩) (by assumption) ?restq18
            case hyq18 => (intro w0 hSw; (try dsimp only at hSw); go_simp; try with_reducible rfl)
            simp only [Act.put, List.setIfInBounds_toArray, List.set_cons_zero, List.set_cons_succ]
            refine wpAnyK_take (i := 20) (oi := { dst := some 89, op := Go.Op.fieldAddr 51 (Go.Operand.tmp 88) 2, type := 0, pos := "ref.go:69", after := #[{ on := 19, ground := Go.Ground.data }, { on := 0, ground := Go.Ground.phase }, { on := 1, ground := Go.Ground.phase }, { on := 2, ground := Go.Ground.phase }, { on := 3, ground := Go.Ground.phase }, { on := 4, ground := Go.Ground.phase }, { on := 5, ground := Go.Ground.phase }, { on := 6, ground := Go.Ground.phase }, { on := 7, ground := Go.Ground.phase }, { on := 8, ground := Go.Ground.phase }, { on := 9, ground := Go.Ground.phase }, { on := 10, ground := Go.Ground.phase }, { on := 11, ground := Go.Ground.phase }, { on := 12, ground := Go.Ground.phase }, { on := 13, ground := Go.Ground.phase }, { on := 14, ground := Go.Ground.phase }, { on := 15, ground := Go.Ground.phase }, { on := 16, ground := Go.Ground.phase }, { on := 17, ground := Go.Ground.phase }, { on := 18, ground := Go.Ground.phase }], guard := none }) (v := ?vq19) [] rfl (by kernel_rfl) (by kernel_rfl) (by kernel_rfl) (by kernel_rfl) (by kernel_rfl) (fun _ _ _ h => h) (Or.inl ⟨by rfl, ?hyq19⟩) (by assumption) ?restq19
            case hyq19 => (intro w0 hSw; (try dsimp only at hSw); go_simp; try with_reducible rfl)
            simp only [Act.put, List.setIfInBounds_toArray, List.set_cons_zero, List.set_cons_succ]
            refine wpAnyK_ready (rs := [21]) (by kernel_rfl) (by simp) ?_
            refine AllReadyK.cons (o := { dst := none, op := Go.Op.store 40 (Go.Operand.tmp 89) (Go.Operand.tmp 87), type := 0, pos := "ref.go:69", after := #[{ on := 20, ground := Go.Ground.data }, { on := 18, ground := Go.Ground.data }, { on := 18, ground := Go.Ground.chain }, { on := 0, ground := Go.Ground.phase }, { on := 1, ground := Go.Ground.phase }, { on := 2, ground := Go.Ground.phase }, { on := 3, ground := Go.Ground.phase }, { on := 4, ground := Go.Ground.phase }, { on := 5, ground := Go.Ground.phase }, { on := 6, ground := Go.Ground.phase }, { on := 7, ground := Go.Ground.phase }, { on := 8, ground := Go.Ground.phase }, { on := 9, ground := Go.Ground.phase }, { on := 10, ground := Go.Ground.phase }, { on := 11, ground := Go.Ground.phase }, { on := 12, ground := Go.Ground.phase }, { on := 13, ground := Go.Ground.phase }, { on := 14, ground := Go.Ground.phase }, { on := 15, ground := Go.Ground.phase }, { on := 16, ground := Go.Ground.phase }, { on := 17, ground := Go.Ground.phase }, { on := 18, ground := Go.Ground.phase }], guard := none }) rfl (fun K hK => ?_) AllReadyK.nil
            go_simp
            refine hK.out _ _ (.inl rfl) (fun _ => ?_)
            clear hK K
            try simp only [Act.put, List.setIfInBounds_toArray, List.set_cons_zero, List.set_cons_succ]
            refine wpAnyK_done (by kernel_rfl) ?_ _
            refine NoPanic.normal ?_
            have HEND := hid (HFIN.out w7 _ b5 c5 k _ hsc5 HKE.out (by have := HKN.out; omega) hown5 rfl)
            clear hown3 hown4 hown5 hsc3 hsc4 hsc5 hb3 hb4 hb5 hg3 hg4 hg5 hHeld hs0 f5 e5 hpk5
            go_wp2
            all_goals (go_ret; exact ⟨rfl, HEND.out⟩)
        · go_simp
          refine hK.out _ _ (.inr (HSA.out _ (by (repeat (first | assumption | exact ScL.start _ | apply ScL.dr | apply ScL.alloc))))) (fun hHeld => ?_)
          have hHeld := hHeld.resolve_right (by decide)
          clear hK K
          try simp only [Act.put, List.setIfInBounds_toArray, List.set_cons_zero, List.set_cons_succ]
          refine wpAnyK_ready (rs := [1]) (by kernel_rfl) (by simp) ?_
          refine AllReadyK.cons (o := { dst := some 70, op := Go.Op.buildSlice 40 0 #[], type := 40, pos := "ref.go:69", after := #[], guard := none }) rfl (fun K hK => ?_) AllReadyK.nil
          go_simp
          refine hK.out _ _ (.inr (HSA.out _ (by (repeat (first | assumption | exact ScL.start _ | apply ScL.dr | apply ScL.alloc))))) (fun hHeld => ?_)
          have hHeld := hHeld.resolve_right (by decide)
          clear hK K
          try simp only [Act.put, List.setIfInBounds_toArray, List.set_cons_zero, List.set_cons_succ]
          refine wpAnyK_ready (rs := [8]) (by kernel_rfl) (by simp) ?_
          refine AllReadyK.cons (o := { dst := some 77, op := Go.Op.call { callee := Go.Callee.builtin Go.Builtin.append, args := #[Go.Operand.tmp 70, Go.Operand.tmp 76], argTypes := #[40, 40] }, type := 40, pos := "ref.go:69", after := #[{ on := 1, ground := Go.Ground.data }, { on := 7, ground := Go.Ground.data }], guard := none }) rfl (fun K hK => ?_) AllReadyK.nil
          refine step_copy_v8 rfl _ _ rfl U.heap.size _ rfl ?ownz24 _ _ _ (xs.take k) ?hmz24 rfl ?hhz24 ?hsumz24 ?hbasez24 ?restz24
          case ownz24 => first | exact ownV8_made U _ (Nat.le_refl _) | exact (ownV8_made U _ (Nat.le_refl _)).alloc _ | exact ownV8_made2 U _ _ (Nat.le_refl _)
          case hmz24 => have := HN.out; have := HKN.out; rw [List.length_take]; omega
          case hhz24 => first | exact (HHX.out _ (by (repeat (first | assumption | exact ScL.start _ | apply ScL.dr | apply ScL.alloc)))).take k | exact (.inl (by have := HN.out; have := HKN.out; exact List.take_eq_nil_iff.2 (.inl (by omega))))
          case hsumz24 => have := HKN.out; have := HNL.out; omega
          case hbasez24 => exact ScL.size (by (repeat (first | assumption | exact ScL.start _ | apply ScL.dr | apply ScL.alloc)))
          intro b3 c3 w5 hown3 hb3 hg3
          have hsc3 : ScL U w5 := ScL.grown (by (repeat (first | assumption | exact ScL.start _ | apply ScL.dr | apply ScL.alloc))) hb3
          refine hK.out _ _ (.inr (HSA.out _ (by (repeat (first | assumption | exact ScL.start _ | apply ScL.dr | apply ScL.alloc))))) (fun hHeld => ?_)
          have hHeld := hHeld.resolve_right (by decide)
          clear hK K
          try simp only [Act.put, List.setIfInBounds_toArray, List.set_cons_zero, List.set_cons_succ]
          refine wpAnyK_ready (rs := [11]) (by kernel_rfl) (by simp) ?_
          refine AllReadyK.cons (o := { dst := some 80, op := Go.Op.call { callee := Go.Callee.builtin Go.Builtin.append, args := #[Go.Operand.tmp 77, Go.Operand.tmp 79], argTypes := #[40, 40] }, type := 40, pos := "ref.go:69", after := #[{ on := 8, ground := Go.Ground.data }, { on := 10, ground := Go.Ground.data }, { on := 8, ground := Go.Ground.chain }], guard := none }) rfl (fun K hK => ?_) AllReadyK.nil
          refine step_append_v8 rfl _ _ rfl U.heap.size _ _ (xs.take k) ?hnz25 rfl (hown3) _ 1 1 [v] rfl rfl ?hhz25 ?hsumz25 ?hbasez25 ?restz25
          case hnz25 => have := HN.out; have := HKN.out; rw [List.length_take]; omega
          case hhz25 => exact held_grownV8 (show HeldV8 _ (some ⟨U.heap.size, 0, none⟩) [v] from HHA.out U) hg3 (by simp)
          case hsumz25 => have := HKN.out; have := HNL.out; omega
          case hbasez25 => exact ScL.size (by (repeat (first | assumption | exact ScL.start _ | apply ScL.dr | apply ScL.alloc)))
          intro b4 c4 w6 hown4 hb4 hg4
          have hsc4 : ScL U w6 := ScL.grown (by (repeat (first | assumption | exact ScL.start _ | apply ScL.dr | apply ScL.alloc))) hb4
          refine hK.out _ _ (.inr (HSA.out _ (by (repeat (first | assumption | exact ScL.start _ | apply ScL.dr | apply ScL.alloc))))) (fun hHeld => ?_)
          have hHeld := hHeld.resolve_right (by decide)
          clear hK K
          try simp only [Act.put, List.setIfInBounds_toArray, List.set_cons_zero, List.set_cons_succ]
          refine wpAnyK_ready (rs := [18]) (by kernel_rfl) (by simp) ?_
          refine AllReadyK.cons (o := { dst := some 87, op := Go.Op.call { callee := Go.Callee.builtin Go.Builtin.append, args := #[Go.Operand.tmp 80, Go.Operand.tmp 86], argTypes := #[40, 40] }, type := 40, pos := "ref.go:69", after := #[{ on := 11, ground := Go.Ground.data }, { on := 17, ground := Go.Ground.data }, { on := 11, ground := Go.Ground.chain }], guard := none }) rfl (fun K hK => ?_) AllReadyK.nil
          refine step_append_v8 rfl _ _ rfl U.heap.size _ _ (xs.take k ++ [v]) ?hnz26 rfl hown4 _ _ _ (xs.drop k) ?hmz26 rfl ?hhz26 ?hsumz26 ?hbasez26 ?restz26
          case hnz26 => have := HN.out; have := HKN.out; rw [List.length_append, List.length_take, List.length_singleton]; omega
          case hmz26 => have := HN.out; have := HKN.out; rw [List.length_drop]; omega
          case hhz26 => first | exact (HHX.out _ (by (repeat (first | assumption | exact ScL.start _ | apply ScL.dr | apply ScL.alloc)))).drop k | exact held_dropV8 (HHX.out _ (by (repeat (first | assumption | exact ScL.start _ | apply ScL.dr | apply ScL.alloc)))) k (by have := HN.out; have := HKC.out; omega)
          case hsumz26 => have := HKN.out; have := HNL.out; omega
          case hbasez26 => exact ScL.size (by (repeat (first | assumption | exact ScL.start _ | apply ScL.dr | apply ScL.alloc)))
          intro b5 c5 w7 hown5 hb5 hg5
          have hsc5 : ScL U w7 := ScL.grown (by (repeat (first | assumption | exact ScL.start _ | apply ScL.dr | apply ScL.alloc))) hb5
          refine hK.out _ _ (.inr (HSA.out _ (by (repeat (first | assumption | exact ScL.start _ | apply ScL.dr | apply ScL.alloc))))) (fun hHeld => ?_)
          have hHeld := hHeld.resolve_right (by decide)
          clear hK K
          try simp only [Act.put, List.setIfInBounds_toArray, List.set_cons_zero, List.set_cons_succ]
          have hpk5 := HXR.out.blk.below hsc5.out HXR.out.blk.lt
          have f5 := hpk5.frozen 3
          have e5 := hpk5.cell (i := 3) rfl
          rw [HN.out] at e5
          refine wpAnyK_take (i := 19) (oi := { dst := some 88, op := Go.Op.nilCheck (Go.Operand.tmp 69), type := 0, pos := "ref.go:69", after := #[{ on := 0, ground := Go.Ground.data }, { on := 0, ground := Go.Ground.phase }, { on := 1, ground := Go.Ground.phase }, { on := 2, ground := Go.Ground.phase }, { on := 3, ground := Go.Ground.phase }, { on := 4, ground := Go.Ground.phase }, { on := 5, ground := Go.Ground.phase }, { on := 6, ground := Go.Ground.phase }, { on := 7, ground := Go.Ground.phase }, { on := 8, ground := Go.Ground.phase }, { on := 9, ground := Go.Ground.phase }, { on := 10, ground := Go.Ground.phase }, { on := 11, ground := Go.Ground.phase }, { on := 12, ground := Go.Ground.phase }, { on := 13, ground := Go.Ground.phase }, { on := 14, ground := Go.Ground.phase }, { on := 15, ground := Go.Ground.phase }, { on := 16, ground := Go.Ground.phase }, { on := 17, ground := Go.Ground.phase }, { on := 18, ground := Go.Ground.phase }], guard := none }) (v := ?vq27) [20] rfl (by kernel_rfl) (by kernel_rfl) (by kernel_rfl) (by kernel_rfl) (by kernel_rfl) (fun _ _ _ h => h) (Or.inl ⟨by rfl, ?hyq27⟩) (by assumption) ?restq27
          case hyq27 => (intro w0 hSw; (try dsimp only at hSw); go_simp; try with_reducible rfl)
          simp only [Act.put, List.setIfInBounds_toArray, List.set_cons_zero, List.set_cons_succ]
          refine wpAnyK_take (i := 20) (oi := { dst := some 89, op := Go.Op.fieldAddr 51 (Go.Operand.tmp 88) 2, type := 0, pos := "ref.go:69", after := #[{ on := 19, ground := Go.Ground.data }, { on := 0, ground := Go.Ground.phase }, { on := 1, ground := Go.Ground.phase }, { on := 2, ground := Go.Ground.phase }, { on := 3, ground := Go.Ground.phase }, { on := 4, ground := Go.Ground.phase }, { on := 5, ground := Go.Ground.phase }, { on := 6, ground := Go.Ground.phase }, { on := 7, ground := Go.Ground.phase }, { on := 8, ground := Go.Ground.phase }, { on := 9, ground := Go.Ground.phase }, { on := 10, ground := Go.Ground.phase }, { on := 11, ground := Go.Ground.phase }, { on := 12, ground := Go.Ground.phase }, { on := 13, ground := Go.Ground.phase }, { on := 14, ground := Go.Ground.phase }, { on := 15, ground := Go.Ground.phase }, { on := 16, ground := Go.Ground.phase }, { on := 17, ground := Go.Ground.phase }, { on := 18, ground := Go.Ground.phase }], guard := none }) (v := ?vq28) [] rfl (by kernel_rfl) (by kernel_rfl) (by kernel_rfl) (by kernel_rfl) (by kernel_rfl) (fun _ _ _ h => h) (Or.inl ⟨by rfl, ?hyq28⟩) (by assumption) ?restq28
          case hyq28 => (intro w0 hSw; (try dsimp only at hSw); go_simp; try with_reducible rfl)
          simp only [Act.put, List.setIfInBounds_toArray, List.set_cons_zero, List.set_cons_succ]
          refine wpAnyK_ready (rs := [21]) (by kernel_rfl) (by simp) ?_
          refine AllReadyK.cons (o := { dst := none, op := Go.Op.store 40 (Go.Operand.tmp 89) (Go.Operand.tmp 87), type := 0, pos := "ref.go:69", after := #[{ on := 20, ground := Go.Ground.data }, { on := 18, ground := Go.Ground.data }, { on := 18, ground := Go.Ground.chain }, { on := 0, ground := Go.Ground.phase }, { on := 1, ground := Go.Ground.phase }, { on := 2, ground := Go.Ground.phase }, { on := 3, ground := Go.Ground.phase }, { on := 4, ground := Go.Ground.phase }, { on := 5, ground := Go.Ground.phase }, { on := 6, ground := Go.Ground.phase }, { on := 7, ground := Go.Ground.phase }, { on := 8, ground := Go.Ground.phase }, { on := 9, ground := Go.Ground.phase }, { on := 10, ground := Go.Ground.phase }, { on := 11, ground := Go.Ground.phase }, { on := 12, ground := Go.Ground.phase }, { on := 13, ground := Go.Ground.phase }, { on := 14, ground := Go.Ground.phase }, { on := 15, ground := Go.Ground.phase }, { on := 16, ground := Go.Ground.phase }, { on := 17, ground := Go.Ground.phase }, { on := 18, ground := Go.Ground.phase }], guard := none }) rfl (fun K hK => ?_) AllReadyK.nil
          go_simp
          refine hK.out _ _ (.inl rfl) (fun _ => ?_)
          clear hK K
          try simp only [Act.put, List.setIfInBounds_toArray, List.set_cons_zero, List.set_cons_succ]
          refine wpAnyK_done (by kernel_rfl) ?_ _
          refine NoPanic.normal ?_
          have HEND := hid (HFIN.out w7 _ b5 c5 k _ hsc5 HKE.out (by have := HKN.out; omega) hown5 rfl)
          clear hown3 hown4 hown5 hsc3 hsc4 hsc5 hb3 hb4 hb5 hg3 hg4 hg5 hHeld hs0 f5 e5 hpk5
          go_wp2
          all_goals (go_ret; exact ⟨rfl, HEND.out⟩)
    · have hlt' : ¬ (k : Int) < (n : Int) := by omega
      have HKE : Hid (k = LD) := by
        have h1 := HLO.out.1
        rw [List.drop_eq_nil_of_le (by have := HN.out; omega)] at h1
        exact h1
      have HKE2 : Hid (k = n) := (by omega : k = n)
      have hltN : decide (k < n) = false := decide_eq_false hlt
      have HALL : Hid ((0 : Int) ≤ (k : Int) ∧ (k : Int) ≤ (n : Int) ∧ (k : Int) ≤ (cap : Int) ∧ (n : Int) ≤ (cap : Int)) := ⟨hk0, hkn, hkc, hnc⟩
      clear hlt hk hk0 hkn hkc hnc
      cases eo with
      | some ad =>
        obtain ⟨b, off, hao⟩ := ra_addrO HXR.out
        subst hao
        go_wp2
        go_quiet (fail)
        go_wp2
        obtain ⟨hk0, hkn, hkc, hnc⟩ := HALL.out
        obtain ⟨U, hU⟩ : ∃ U, U = wr.drewN nq := ⟨_, rfl⟩
        have hS9 : ScL w2 U := by rw [hU]; exact ⟨below_dn HWR.out.out _⟩
        rw [← hU]
        have HFIN := hid (HFIN.out U hS9)
        have HSA := hid (HSA.out U hS9)
        have HHX := hid (fun V (hV : ScL U V) => HHX.out V (hS9.go hV.out))
        have HXR := hid (HXR.out.below hS9.out)
        clear hU hS9 hx0 a0
        refine wp_region_noPanic ?_
        refine wp_region_K 21 (fun V => ScL U V ∧ V.cell? ⟨x, 3, none⟩ = some (.slice (some ⟨b, off, none⟩) n cap) ∧ V.cell? ⟨pb, 0, none⟩ = some (.int .i64 s) ∧ V.cell? ⟨pb, 1, none⟩ = some (.int .i64 br) ∧ V.cell? ⟨pb, 2, none⟩ = some (.int .i64 bn) ∧ V.cell? ⟨pb, 3, none⟩ = some (.bool np) ∧ V.cell? ⟨pb, 4, none⟩ = some (.string tk) ∧ V.cell? ⟨pb, 5, none⟩ = some (.string ct) ∧ V.cell? ⟨pb, 6, none⟩ = some (.int .i64 ep) ∧ V.cell? ⟨pb, 7, none⟩ = some (.slice yo XN yc)) (by kernel_rfl) (HSA.out _ (ScL.start U).dr) (fun hHeld => ?_)
        have hs0 := (ScL.start U).dr
        refine wpAnyK_take (i := 0) (oi := { dst := some 69, op := Go.Op.move (Go.Operand.tmp 0), type := 28, pos := "ref.go:69", after := #[], guard := none }) (v := ?vq32) [] rfl (by kernel_rfl) (by kernel_rfl) (by kernel_rfl) (by kernel_rfl) (by kernel_rfl) (fun _ _ _ h => h) (Or.inl ⟨by rfl, ?hyq32⟩) (by assumption) ?restq32
        case hyq32 => (intro w0 hSw; (try dsimp only at hSw); go_simp; try with_reducible rfl)
        simp only [Act.put, List.setIfInBounds_toArray, List.set_cons_zero, List.set_cons_succ]
        refine wpAnyK_take (i := 2) (oi := { dst := some 71, op := Go.Op.move (Go.Operand.tmp 0), type := 28, pos := "ref.go:69", after := #[], guard := none }) (v := ?vq33) [] rfl (by kernel_rfl) (by kernel_rfl) (by kernel_rfl) (by kernel_rfl) (by kernel_rfl) (fun _ _ _ h => h) (Or.inl ⟨by rfl, ?hyq33⟩) (by assumption) ?restq33
        case hyq33 => (intro w0 hSw; (try dsimp only at hSw); go_simp; try with_reducible rfl)
        simp only [Act.put, List.setIfInBounds_toArray, List.set_cons_zero, List.set_cons_succ]
        refine wpAnyK_take (i := 3) (oi := { dst := some 72, op := Go.Op.nilCheck (Go.Operand.tmp 71), type := 0, pos := "ref.go:69", after := #[{ on := 2, ground := Go.Ground.data }], guard := none }) (v := ?vq34) [] rfl (by kernel_rfl) (by kernel_rfl) (by kernel_rfl) (by kernel_rfl) (by kernel_rfl) (fun _ _ _ h => h) (Or.inl ⟨by rfl, ?hyq34⟩) (by assumption) ?restq34
        case hyq34 => (intro w0 hSw; (try dsimp only at hSw); go_simp; try with_reducible rfl)
        simp only [Act.put, List.setIfInBounds_toArray, List.set_cons_zero, List.set_cons_succ]
        refine wpAnyK_take (i := 4) (oi := { dst := some 73, op := Go.Op.fieldAddr 51 (Go.Operand.tmp 72) 2, type := 0, pos := "ref.go:69", after := #[{ on := 3, ground := Go.Ground.data }], guard := none }) (v := ?vq35) [] rfl (by kernel_rfl) (by kernel_rfl) (by kernel_rfl) (by kernel_rfl) (by kernel_rfl) (fun _ _ _ h => h) (Or.inl ⟨by rfl, ?hyq35⟩) (by assumption) ?restq35
        case hyq35 => (intro w0 hSw; (try dsimp only at hSw); go_simp; try with_reducible rfl)
        simp only [Act.put, List.setIfInBounds_toArray, List.set_cons_zero, List.set_cons_succ]
        refine wpAnyK_take (i := 5) (oi := { dst := some 74, op := Go.Op.load 40 (Go.Operand.tmp 73), type := 40, pos := "ref.go:69", after := #[{ on := 4, ground := Go.Ground.data }], guard := none }) (v := ?vq36) [] rfl (by kernel_rfl) (by kernel_rfl) (by kernel_rfl) (by kernel_rfl) (by kernel_rfl) (fun _ _ _ h => h) (Or.inl ⟨by rfl, ?hyq36⟩) (by assumption) ?restq36
        case hyq36 => (intro w0 hSw; (try dsimp only at hSw); go_simp; try with_reducible rfl)
        simp only [Act.put, List.setIfInBounds_toArray, List.set_cons_zero, List.set_cons_succ]
        refine wpAnyK_take (i := 6) (oi := { dst := some 75, op := Go.Op.move (Go.Operand.tmp 7), type := 3, pos := "ref.go:69", after := #[], guard := none }) (v := ?vq37) [] rfl (by kernel_rfl) (by kernel_rfl) (by kernel_rfl) (by kernel_rfl) (by kernel_rfl) (fun _ _ _ h => h) (Or.inl ⟨by rfl, ?hyq37⟩) (by assumption) ?restq37
        case hyq37 => (intro w0 hSw; (try dsimp only at hSw); go_simp; try with_reducible rfl)
        simp only [Act.put, List.setIfInBounds_toArray, List.set_cons_zero, List.set_cons_succ]
        refine wpAnyK_take (i := 7) (oi := { dst := some 76, op := Go.Op.slice 40 (Go.Operand.tmp 74) none (some (Go.Operand.tmp 75)) none, type := 40, pos := "ref.go:69", after := #[{ on := 5, ground := Go.Ground.data }, { on := 6, ground := Go.Ground.data }], guard := none }) (v := ?vq38) [] rfl (by kernel_rfl) (by kernel_rfl) (by kernel_rfl) (by kernel_rfl) (by kernel_rfl) (fun _ _ _ h => h) (Or.inl ⟨by rfl, ?hyq38⟩) (by assumption) ?restq38
        case hyq38 => (intro w0 hSw; (try dsimp only at hSw); go_simp; try with_reducible rfl)
        simp only [Act.put, List.setIfInBounds_toArray, List.set_cons_zero, List.set_cons_succ]
        refine wpAnyK_take (i := 9) (oi := { dst := some 78, op := Go.Op.load 73 (Go.Operand.tmp 3), type := 73, pos := "ref.go:69", after := #[], guard := none }) (v := ?vq39) [] rfl (by kernel_rfl) (by kernel_rfl) (by kernel_rfl) (by kernel_rfl) (by kernel_rfl) (fun _ _ _ h => h) (Or.inl ⟨by rfl, ?hyq39⟩) (by assumption) ?restq39
        case hyq39 => (intro w0 hSw; (try dsimp only at hSw); go_simp; try with_reducible rfl)
        simp only [Act.put, List.setIfInBounds_toArray, List.set_cons_zero, List.set_cons_succ]
        refine wpAnyK_take (i := 12) (oi := { dst := some 81, op := Go.Op.move (Go.Operand.tmp 0), type := 28, pos := "ref.go:69", after := #[], guard := none }) (v := ?vq40) [] rfl (by kernel_rfl) (by kernel_rfl) (by kernel_rfl) (by kernel_rfl) (by kernel_rfl) (fun _ _ _ h => h) (Or.inl ⟨by rfl, ?hyq40⟩) (by assumption) ?restq40
        case hyq40 => (intro w0 hSw; (try dsimp only at hSw); go_simp; try with_reducible rfl)
        simp only [Act.put, List.setIfInBounds_toArray, List.set_cons_zero, List.set_cons_succ]
        refine wpAnyK_take (i := 13) (oi := { dst := some 82, op := Go.Op.nilCheck (Go.Operand.tmp 81), type := 0, pos := "ref.go:69", after := #[{ on := 12, ground := Go.Ground.data }], guard := none }) (v := ?vq41) [] rfl (by kernel_rfl) (by kernel_rfl) (by kernel_rfl) (by kernel_rfl) (by kernel_rfl) (fun _ _ _ h => h) (Or.inl ⟨by rfl, ?hyq41⟩) (by assumption) ?restq41
        case hyq41 => (intro w0 hSw; (try dsimp only at hSw); go_simp; try with_reducible rfl)
        simp only [Act.put, List.setIfInBounds_toArray, List.set_cons_zero, List.set_cons_succ]
        refine wpAnyK_take (i := 14) (oi := { dst := some 83, op := Go.Op.fieldAddr 51 (Go.Operand.tmp 82) 2, type := 0, pos := "ref.go:69", after := #[{ on := 13, ground := Go.Ground.data }], guard := none }) (v := ?vq42) [] rfl (by kernel_rfl) (by kernel_rfl) (by kernel_rfl) (by kernel_rfl) (by kernel_rfl) (fun _ _ _ h => h) (Or.inl ⟨by rfl, ?hyq42⟩) (by assumption) ?restq42
        case hyq42 => (intro w0 hSw; (try dsimp only at hSw); go_simp; try with_reducible rfl)
        simp only [Act.put, List.setIfInBounds_toArray, List.set_cons_zero, List.set_cons_succ]
        refine wpAnyK_take (i := 15) (oi := { dst := some 84, op := Go.Op.load 40 (Go.Operand.tmp 83), type := 40, pos := "ref.go:69", after := #[{ on := 14, ground := Go.Ground.data }], guard := none }) (v := ?vq43) [] rfl (by kernel_rfl) (by kernel_rfl) (by kernel_rfl) (by kernel_rfl) (by kernel_rfl) (fun _ _ _ h => h) (Or.inl ⟨by rfl, ?hyq43⟩) (by assumption) ?restq43
        case hyq43 => (intro w0 hSw; (try dsimp only at hSw); go_simp; try with_reducible rfl)
        simp only [Act.put, List.setIfInBounds_toArray, List.set_cons_zero, List.set_cons_succ]
        refine wpAnyK_take (i := 16) (oi := { dst := some 85, op := Go.Op.move (Go.Operand.tmp 7), type := 3, pos := "ref.go:69", after := #[], guard := none }) (v := ?vq44) [] rfl (by kernel_rfl) (by kernel_rfl) (by kernel_rfl) (by kernel_rfl) (by kernel_rfl) (fun _ _ _ h => h) (Or.inl ⟨by rfl, ?hyq44⟩) (by assumption) ?restq44
        case hyq44 => (intro w0 hSw; (try dsimp only at hSw); go_simp; try with_reducible rfl)
        simp only [Act.put, List.setIfInBounds_toArray, List.set_cons_zero, List.set_cons_succ]
        refine wpAnyK_take (i := 17) (oi := { dst := some 86, op := Go.Op.slice 40 (Go.Operand.tmp 84) (some (Go.Operand.tmp 85)) none none, type := 40, pos := "ref.go:69", after := #[{ on := 15, ground := Go.Ground.data }, { on := 16, ground := Go.Ground.data }], guard := none }) (v := ?vq45) [] rfl (by kernel_rfl) (by kernel_rfl) (by kernel_rfl) (by kernel_rfl) (by kernel_rfl) (fun _ _ _ h => h) (Or.inl ⟨by rfl, ?hyq45⟩) (by assumption) ?restq45
        case hyq45 => (intro w0 hSw; (try dsimp only at hSw); go_simp; try with_reducible rfl)
        simp only [Act.put, List.setIfInBounds_toArray, List.set_cons_zero, List.set_cons_succ]
        refine wpAnyK_ready (rs := [1, 10]) (by kernel_rfl) (by simp) ?_
        refine AllReadyK.cons (o := { dst := some 70, op := Go.Op.buildSlice 40 0 #[], type := 40, pos := "ref.go:69", after := #[], guard := none }) rfl (fun K hK => ?_) (AllReadyK.cons (o := { dst := some 79, op := Go.Op.buildSlice 40 1 #[(0, Go.Operand.tmp 78)], type := 40, pos := "ref.go:69", after := #[{ on := 9, ground := Go.Ground.data }], guard := none }) rfl (fun K hK => ?_) AllReadyK.nil)
        · go_simp
          refine hK.out _ _ (.inr (HSA.out _ (by (repeat (first | assumption | exact ScL.start _ | apply ScL.dr | apply ScL.alloc))))) (fun hHeld => ?_)
          have hHeld := hHeld.resolve_right (by decide)
          clear hK K
          try simp only [Act.put, List.setIfInBounds_toArray, List.set_cons_zero, List.set_cons_succ]
          refine wpAnyK_ready (rs := [8, 10]) (by kernel_rfl) (by simp) ?_
          refine AllReadyK.cons (o := { dst := some 77, op := Go.Op.call { callee := Go.Callee.builtin Go.Builtin.append, args := #[Go.Operand.tmp 70, Go.Operand.tmp 76], argTypes := #[40, 40] }, type := 40, pos := "ref.go:69", after := #[{ on := 1, ground := Go.Ground.data }, { on := 7, ground := Go.Ground.data }], guard := none }) rfl (fun K hK => ?_) (AllReadyK.cons (o := { dst := some 79, op := Go.Op.buildSlice 40 1 #[(0, Go.Operand.tmp 78)], type := 40, pos := "ref.go:69", after := #[{ on := 9, ground := Go.Ground.data }], guard := none }) rfl (fun K hK => ?_) AllReadyK.nil)
          · refine step_copy_v8 rfl _ _ rfl U.heap.size _ rfl ?ownz60 _ _ _ (xs.take k) ?hmz60 rfl ?hhz60 ?hsumz60 ?hbasez60 ?restz60
            case ownz60 => first | exact ownV8_made U _ (Nat.le_refl _) | exact (ownV8_made U _ (Nat.le_refl _)).alloc _ | exact ownV8_made2 U _ _ (Nat.le_refl _)
            case hmz60 => have := HN.out; have := HKN.out; rw [List.length_take]; omega
            case hhz60 => first | exact (HHX.out _ (by (repeat (first | assumption | exact ScL.start _ | apply ScL.dr | apply ScL.alloc)))).take k | exact (.inl (by have := HN.out; have := HKN.out; exact List.take_eq_nil_iff.2 (.inl (by omega))))
            case hsumz60 => have := HKN.out; have := HNL.out; omega
            case hbasez60 => exact ScL.size (by (repeat (first | assumption | exact ScL.start _ | apply ScL.dr | apply ScL.alloc)))
            intro b3 c3 w5 hown3 hb3 hg3
            have hsc3 : ScL U w5 := ScL.grown (by (repeat (first | assumption | exact ScL.start _ | apply ScL.dr | apply ScL.alloc))) hb3
            refine hK.out _ _ (.inr (HSA.out _ (by (repeat (first | assumption | exact ScL.start _ | apply ScL.dr | apply ScL.alloc))))) (fun hHeld => ?_)
            have hHeld := hHeld.resolve_right (by decide)
            clear hK K
            try simp only [Act.put, List.setIfInBounds_toArray, List.set_cons_zero, List.set_cons_succ]
            refine wpAnyK_ready (rs := [10]) (by kernel_rfl) (by simp) ?_
            refine AllReadyK.cons (o := { dst := some 79, op := Go.Op.buildSlice 40 1 #[(0, Go.Operand.tmp 78)], type := 40, pos := "ref.go:69", after := #[{ on := 9, ground := Go.Ground.data }], guard := none }) rfl (fun K hK => ?_) AllReadyK.nil
            go_simp
            refine hK.out _ _ (.inr (HSA.out _ (by (repeat (first | assumption | exact ScL.start _ | apply ScL.dr | apply ScL.alloc))))) (fun hHeld => ?_)
            have hHeld := hHeld.resolve_right (by decide)
            clear hK K
            try simp only [Act.put, List.setIfInBounds_toArray, List.set_cons_zero, List.set_cons_succ]
            refine wpAnyK_ready (rs := [11]) (by kernel_rfl) (by simp) ?_
            refine AllReadyK.cons (o := { dst := some 80, op := Go.Op.call { callee := Go.Callee.builtin Go.Builtin.append, args := #[Go.Operand.tmp 77, Go.Operand.tmp 79], argTypes := #[40, 40] }, type := 40, pos := "ref.go:69", after := #[{ on := 8, ground := Go.Ground.data }, { on := 10, ground := Go.Ground.data }, { on := 8, ground := Go.Ground.chain }], guard := none }) rfl (fun K hK => ?_) AllReadyK.nil
            refine step_append_v8 rfl _ _ rfl U.heap.size _ _ (xs.take k) ?hnz51 rfl (hown3.alloc _) _ 1 1 [v] rfl rfl ?hhz51 ?hsumz51 ?hbasez51 ?restz51
            case hnz51 => have := HN.out; have := HKN.out; rw [List.length_take]; omega
            case hhz51 => exact HH3.out _
            case hsumz51 => have := HKN.out; have := HNL.out; omega
            case hbasez51 => exact ScL.size (by (repeat (first | assumption | exact ScL.start _ | apply ScL.dr | apply ScL.alloc)))
            intro b4 c4 w6 hown4 hb4 hg4
            have hsc4 : ScL U w6 := ScL.grown (by (repeat (first | assumption | exact ScL.start _ | apply ScL.dr | apply ScL.alloc))) hb4
            refine hK.out _ _ (.inr (HSA.out _ (by (repeat (first | assumption | exact ScL.start _ | apply ScL.dr | apply ScL.alloc))))) (fun hHeld => ?_)
            have hHeld := hHeld.resolve_right (by decide)
            clear hK K
            try simp only [Act.put, List.setIfInBounds_toArray, List.set_cons_zero, List.set_cons_succ]
            refine wpAnyK_ready (rs := [18]) (by kernel_rfl) (by simp) ?_
            refine AllReadyK.cons (o := { dst := some 87, op := Go.Op.call { callee := Go.Callee.builtin Go.Builtin.append, args := #[Go.Operand.tmp 80, Go.Operand.tmp 86], argTypes := #[40, 40] }, type := 40, pos := "ref.go:69", after := #[{ on := 11, ground := Go.Ground.data }, { on := 17, ground := Go.Ground.data }, { on := 11, ground := Go.Ground.chain }], guard := none }) rfl (fun K hK => ?_) AllReadyK.nil
            refine step_append_v8 rfl _ _ rfl U.heap.size _ _ (xs.take k ++ [v]) ?hnz52 rfl hown4 _ _ _ (xs.drop k) ?hmz52 rfl ?hhz52 ?hsumz52 ?hbasez52 ?restz52
            case hnz52 => have := HN.out; have := HKN.out; rw [List.length_append, List.length_take, List.length_singleton]; omega
            case hmz52 => have := HN.out; have := HKN.out; rw [List.length_drop]; omega
            case hhz52 => first | exact (HHX.out _ (by (repeat (first | assumption | exact ScL.start _ | apply ScL.dr | apply ScL.alloc)))).drop k | exact held_dropV8 (HHX.out _ (by (repeat (first | assumption | exact ScL.start _ | apply ScL.dr | apply ScL.alloc)))) k (by have := HN.out; have := HKC.out; omega)
            case hsumz52 => have := HKN.out; have := HNL.out; omega
            case hbasez52 => exact ScL.size (by (repeat (first | assumption | exact ScL.start _ | apply ScL.dr | apply ScL.alloc)))
            intro b5 c5 w7 hown5 hb5 hg5
            have hsc5 : ScL U w7 := ScL.grown (by (repeat (first | assumption | exact ScL.start _ | apply ScL.dr | apply ScL.alloc))) hb5
            refine hK.out _ _ (.inr (HSA.out _ (by (repeat (first | assumption | exact ScL.start _ | apply ScL.dr | apply ScL.alloc))))) (fun hHeld => ?_)
            have hHeld := hHeld.resolve_right (by decide)
            clear hK K
            try simp only [Act.put, List.setIfInBounds_toArray, List.set_cons_zero, List.set_cons_succ]
            have hpk5 := HXR.out.blk.below hsc5.out HXR.out.blk.lt
            have f5 := hpk5.frozen 3
            have e5 := hpk5.cell (i := 3) rfl
            rw [HN.out] at e5
            refine wpAnyK_take (i := 19) (oi := { dst := some 88, op := Go.Op.nilCheck (Go.Operand.tmp 69), type := 0, pos := "ref.go:69", after := #[{ on := 0, ground := Go.Ground.data }, { on := 0, ground := Go.Ground.phase }, { on := 1, ground := Go.Ground.phase }, { on := 2, ground := Go.Ground.phase }, { on := 3, ground := Go.Ground.phase }, { on := 4, ground := Go.Ground.phase }, { on := 5, ground := Go.Ground.phase }, { on := 6, ground := Go.Ground.phase }, { on := 7, ground := Go.Ground.phase }, { on := 8, ground := Go.Ground.phase }, { on := 9, ground := Go.Ground.phase }, { on := 10, ground := Go.Ground.phase }, { on := 11, ground := Go.Ground.phase }, { on := 12, ground := Go.Ground.phase }, { on := 13, ground := Go.Ground.phase }, { on := 14, ground := Go.Ground.phase }, { on := 15, ground := Go.Ground.phase }, { on := 16, ground := Go.Ground.phase }, { on := 17, ground := Go.Ground.phase }, { on := 18, ground := Go.Ground.phase }], guard := none }) (v := ?vq53) [20] rfl (by kernel_rfl) (by kernel_rfl) (by kernel_rfl) (by kernel_rfl) (by kernel_rfl) (fun _ _ _ h => h) (Or.inl ⟨by rfl, ?hyq53⟩) (by assumption) ?restq53
            case hyq53 => (intro w0 hSw; (try dsimp only at hSw); go_simp; try with_reducible rfl)
            simp only [Act.put, List.setIfInBounds_toArray, List.set_cons_zero, List.set_cons_succ]
            refine wpAnyK_take (i := 20) (oi := { dst := some 89, op := Go.Op.fieldAddr 51 (Go.Operand.tmp 88) 2, type := 0, pos := "ref.go:69", after := #[{ on := 19, ground := Go.Ground.data }, { on := 0, ground := Go.Ground.phase }, { on := 1, ground := Go.Ground.phase }, { on := 2, ground := Go.Ground.phase }, { on := 3, ground := Go.Ground.phase }, { on := 4, ground := Go.Ground.phase }, { on := 5, ground := Go.Ground.phase }, { on := 6, ground := Go.Ground.phase }, { on := 7, ground := Go.Ground.phase }, { on := 8, ground := Go.Ground.phase }, { on := 9, ground := Go.Ground.phase }, { on := 10, ground := Go.Ground.phase }, { on := 11, ground := Go.Ground.phase }, { on := 12, ground := Go.Ground.phase }, { on := 13, ground := Go.Ground.phase }, { on := 14, ground := Go.Ground.phase }, { on := 15, ground := Go.Ground.phase }, { on := 16, ground := Go.Ground.phase }, { on := 17, ground := Go.Ground.phase }, { on := 18, ground := Go.Ground.phase }], guard := none }) (v := ?vq54) [] rfl (by kernel_rfl) (by kernel_rfl) (by kernel_rfl) (by kernel_rfl) (by kernel_rfl) (fun _ _ _ h => h) (Or.inl ⟨by rfl, ?hyq54⟩) (by assumption) ?restq54
            case hyq54 => (intro w0 hSw; (try dsimp only at hSw); go_simp; try with_reducible rfl)
            simp only [Act.put, List.setIfInBounds_toArray, List.set_cons_zero, List.set_cons_succ]
            refine wpAnyK_ready (rs := [21]) (by kernel_rfl) (by simp) ?_
            refine AllReadyK.cons (o := { dst := none, op := Go.Op.store 40 (Go.Operand.tmp 89) (Go.Operand.tmp 87), type := 0, pos := "ref.go:69", after := #[{ on := 20, ground := Go.Ground.data }, { on := 18, ground := Go.Ground.data }, { on := 18, ground := Go.Ground.chain }, { on := 0, ground := Go.Ground.phase }, { on := 1, ground := Go.Ground.phase }, { on := 2, ground := Go.Ground.phase }, { on := 3, ground := Go.Ground.phase }, { on := 4, ground := Go.Ground.phase }, { on := 5, ground := Go.Ground.phase }, { on := 6, ground := Go.Ground.phase }, { on := 7, ground := Go.Ground.phase }, { on := 8, ground := Go.Ground.phase }, { on := 9, ground := Go.Ground.phase }, { on := 10, ground := Go.Ground.phase }, { on := 11, ground := Go.Ground.phase }, { on := 12, ground := Go.Ground.phase }, { on := 13, ground := Go.Ground.phase }, { on := 14, ground := Go.Ground.phase }, { on := 15, ground := Go.Ground.phase }, { on := 16, ground := Go.Ground.phase }, { on := 17, ground := Go.Ground.phase }, { on := 18, ground := Go.Ground.phase }], guard := none }) rfl (fun K hK => ?_) AllReadyK.nil
            go_simp
            refine hK.out _ _ (.inl rfl) (fun _ => ?_)
            clear hK K
            try simp only [Act.put, List.setIfInBounds_toArray, List.set_cons_zero, List.set_cons_succ]
            refine wpAnyK_done (by kernel_rfl) ?_ _
            refine NoPanic.normal ?_
            have HEND := hid (HFIN.out w7 _ b5 c5 k _ hsc5 HKE.out (by have := HKN.out; omega) hown5 rfl)
            clear hown3 hown4 hown5 hsc3 hsc4 hsc5 hb3 hb4 hb5 hg3 hg4 hg5 hHeld hs0 f5 e5 hpk5
            go_wp2
            all_goals (go_ret; exact ⟨rfl, HEND.out⟩)
          · go_simp
            refine hK.out _ _ (.inr (HSA.out _ (by (repeat (first | assumption | exact ScL.start _ | apply ScL.dr | apply ScL.alloc))))) (fun hHeld => ?_)
            have hHeld := hHeld.resolve_right (by decide)
            clear hK K
            try simp only [Act.put, List.setIfInBounds_toArray, List.set_cons_zero, List.set_cons_succ]
            refine wpAnyK_ready (rs := [8]) (by kernel_rfl) (by simp) ?_
            refine AllReadyK.cons (o := { dst := some 77, op := Go.Op.call { callee := Go.Callee.builtin Go.Builtin.append, args := #[Go.Operand.tmp 70, Go.Operand.tmp 76], argTypes := #[40, 40] }, type := 40, pos := "ref.go:69", after := #[{ on := 1, ground := Go.Ground.data }, { on := 7, ground := Go.Ground.data }], guard := none }) rfl (fun K hK => ?_) AllReadyK.nil
            refine step_copy_v8 rfl _ _ rfl U.heap.size _ rfl ?ownz46 _ _ _ (xs.take k) ?hmz46 rfl ?hhz46 ?hsumz46 ?hbasez46 ?restz46
            case ownz46 => first | exact ownV8_made U _ (Nat.le_refl _) | exact (ownV8_made U _ (Nat.le_refl _)).alloc _ | exact ownV8_made2 U _ _ (Nat.le_refl _)
            case hmz46 => have := HN.out; have := HKN.out; rw [List.length_take]; omega
            case hhz46 => first | exact (HHX.out _ (by (repeat (first | assumption | exact ScL.start _ | apply ScL.dr | apply ScL.alloc)))).take k | exact (.inl (by have := HN.out; have := HKN.out; exact List.take_eq_nil_iff.2 (.inl (by omega))))
            case hsumz46 => have := HKN.out; have := HNL.out; omega
            case hbasez46 => exact ScL.size (by (repeat (first | assumption | exact ScL.start _ | apply ScL.dr | apply ScL.alloc)))
            intro b3 c3 w5 hown3 hb3 hg3
            have hsc3 : ScL U w5 := ScL.grown (by (repeat (first | assumption | exact ScL.start _ | apply ScL.dr | apply ScL.alloc))) hb3
            refine hK.out _ _ (.inr (HSA.out _ (by (repeat (first | assumption | exact ScL.start _ | apply ScL.dr | apply ScL.alloc))))) (fun hHeld => ?_)
            have hHeld := hHeld.resolve_right (by decide)
            clear hK K
            try simp only [Act.put, List.setIfInBounds_toArray, List.set_cons_zero, List.set_cons_succ]
            refine wpAnyK_ready (rs := [11]) (by kernel_rfl) (by simp) ?_
            refine AllReadyK.cons (o := { dst := some 80, op := Go.Op.call { callee := Go.Callee.builtin Go.Builtin.append, args := #[Go.Operand.tmp 77, Go.Operand.tmp 79], argTypes := #[40, 40] }, type := 40, pos := "ref.go:69", after := #[{ on := 8, ground := Go.Ground.data }, { on := 10, ground := Go.Ground.data }, { on := 8, ground := Go.Ground.chain }], guard := none }) rfl (fun K hK => ?_) AllReadyK.nil
            refine step_append_v8 rfl _ _ rfl U.heap.size _ _ (xs.take k) ?hnz47 rfl (hown3) _ 1 1 [v] rfl rfl ?hhz47 ?hsumz47 ?hbasez47 ?restz47
            case hnz47 => have := HN.out; have := HKN.out; rw [List.length_take]; omega
            case hhz47 => exact held_grownV8 (show HeldV8 _ (some ⟨U.heap.size + 1, 0, none⟩) [v] from HHB.out U) hg3 (by simp)
            case hsumz47 => have := HKN.out; have := HNL.out; omega
            case hbasez47 => exact ScL.size (by (repeat (first | assumption | exact ScL.start _ | apply ScL.dr | apply ScL.alloc)))
            intro b4 c4 w6 hown4 hb4 hg4
            have hsc4 : ScL U w6 := ScL.grown (by (repeat (first | assumption | exact ScL.start _ | apply ScL.dr | apply ScL.alloc))) hb4
            refine hK.out _ _ (.inr (HSA.out _ (by (repeat (first | assumption | exact ScL.start _ | apply ScL.dr | apply ScL.alloc))))) (fun hHeld => ?_)
            have hHeld := hHeld.resolve_right (by decide)
            clear hK K
            try simp only [Act.put, List.setIfInBounds_toArray, List.set_cons_zero, List.set_cons_succ]
            refine wpAnyK_ready (rs := [18]) (by kernel_rfl) (by simp) ?_
            refine AllReadyK.cons (o := { dst := some 87, op := Go.Op.call { callee := Go.Callee.builtin Go.Builtin.append, args := #[Go.Operand.tmp 80, Go.Operand.tmp 86], argTypes := #[40, 40] }, type := 40, pos := "ref.go:69", after := #[{ on := 11, ground := Go.Ground.data }, { on := 17, ground := Go.Ground.data }, { on := 11, ground := Go.Ground.chain }], guard := none }) rfl (fun K hK => ?_) AllReadyK.nil
            refine step_append_v8 rfl _ _ rfl U.heap.size _ _ (xs.take k ++ [v]) ?hnz48 rfl hown4 _ _ _ (xs.drop k) ?hmz48 rfl ?hhz48 ?hsumz48 ?hbasez48 ?restz48
            case hnz48 => have := HN.out; have := HKN.out; rw [List.length_append, List.length_take, List.length_singleton]; omega
            case hmz48 => have := HN.out; have := HKN.out; rw [List.length_drop]; omega
            case hhz48 => first | exact (HHX.out _ (by (repeat (first | assumption | exact ScL.start _ | apply ScL.dr | apply ScL.alloc)))).drop k | exact held_dropV8 (HHX.out _ (by (repeat (first | assumption | exact ScL.start _ | apply ScL.dr | apply ScL.alloc)))) k (by have := HN.out; have := HKC.out; omega)
            case hsumz48 => have := HKN.out; have := HNL.out; omega
            case hbasez48 => exact ScL.size (by (repeat (first | assumption | exact ScL.start _ | apply ScL.dr | apply ScL.alloc)))
            intro b5 c5 w7 hown5 hb5 hg5
            have hsc5 : ScL U w7 := ScL.grown (by (repeat (first | assumption | exact ScL.start _ | apply ScL.dr | apply ScL.alloc))) hb5
            refine hK.out _ _ (.inr (HSA.out _ (by (repeat (first | assumption | exact ScL.start _ | apply ScL.dr | apply ScL.alloc))))) (fun hHeld => ?_)
            have hHeld := hHeld.resolve_right (by decide)
            clear hK K
            try simp only [Act.put, List.setIfInBounds_toArray, List.set_cons_zero, List.set_cons_succ]
            have hpk5 := HXR.out.blk.below hsc5.out HXR.out.blk.lt
            have f5 := hpk5.frozen 3
            have e5 := hpk5.cell (i := 3) rfl
            rw [HN.out] at e5
            refine wpAnyK_take (i := 19) (oi := { dst := some 88, op := Go.Op.nilCheck (Go.Operand.tmp 69), type := 0, pos := "ref.go:69", after := #[{ on := 0, ground := Go.Ground.data }, { on := 0, ground := Go.Ground.phase }, { on := 1, ground := Go.Ground.phase }, { on := 2, ground := Go.Ground.phase }, { on := 3, ground := Go.Ground.phase }, { on := 4, ground := Go.Ground.phase }, { on := 5, ground := Go.Ground.phase }, { on := 6, ground := Go.Ground.phase }, { on := 7, ground := Go.Ground.phase }, { on := 8, ground := Go.Ground.phase }, { on := 9, ground := Go.Ground.phase }, { on := 10, ground := Go.Ground.phase }, { on := 11, ground := Go.Ground.phase }, { on := 12, ground := Go.Ground.phase }, { on := 13, ground := Go.Ground.phase }, { on := 14, ground := Go.Ground.phase }, { on := 15, ground := Go.Ground.phase }, { on := 16, ground := Go.Ground.phase }, { on := 17, ground := Go.Ground.phase }, { on := 18, ground := Go.Ground.phase }], guard := none }) (v := ?vq49) [20] rfl (by kernel_rfl) (by kernel_rfl) (by kernel_rfl) (by kernel_rfl) (by kernel_rfl) (fun _ _ _ h => h) (Or.inl ⟨by rfl, ?hyq49⟩) (by assumption) ?restq49
            case hyq49 => (intro w0 hSw; (try dsimp only at hSw); go_simp; try with_reducible rfl)
            simp only [Act.put, List.setIfInBounds_toArray, List.set_cons_zero, List.set_cons_succ]
            refine wpAnyK_take (i := 20) (oi := { dst := some 89, op := Go.Op.fieldAddr 51 (Go.Operand.tmp 88) 2, type := 0, pos := "ref.go:69", after := #[{ on := 19, ground := Go.Ground.data }, { on := 0, ground := Go.Ground.phase }, { on := 1, ground := Go.Ground.phase }, { on := 2, ground := Go.Ground.phase }, { on := 3, ground := Go.Ground.phase }, { on := 4, ground := Go.Ground.phase }, { on := 5, ground := Go.Ground.phase }, { on := 6, ground := Go.Ground.phase }, { on := 7, ground := Go.Ground.phase }, { on := 8, ground := Go.Ground.phase }, { on := 9, ground := Go.Ground.phase }, { on := 10, ground := Go.Ground.phase }, { on := 11, ground := Go.Ground.phase }, { on := 12, ground := Go.Ground.phase }, { on := 13, ground := Go.Ground.phase }, { on := 14, ground := Go.Ground.phase }, { on := 15, ground := Go.Ground.phase }, { on := 16, ground := Go.Ground.phase }, { on := 17, ground := Go.Ground.phase }, { on := 18, ground := Go.Ground.phase }], guard := none }) (v := ?vq50) [] rfl (by kernel_rfl) (by kernel_rfl) (by kernel_rfl) (by kernel_rfl) (by kernel_rfl) (fun _ _ _ h => h) (Or.inl ⟨by rfl, ?hyq50⟩) (by assumption) ?restq50
            case hyq50 => (intro w0 hSw; (try dsimp only at hSw); go_simp; try with_reducible rfl)
            simp only [Act.put, List.setIfInBounds_toArray, List.set_cons_zero, List.set_cons_succ]
            refine wpAnyK_ready (rs := [21]) (by kernel_rfl) (by simp) ?_
            refine AllReadyK.cons (o := { dst := none, op := Go.Op.store 40 (Go.Operand.tmp 89) (Go.Operand.tmp 87), type := 0, pos := "ref.go:69", after := #[{ on := 20, ground := Go.Ground.data }, { on := 18, ground := Go.Ground.data }, { on := 18, ground := Go.Ground.chain }, { on := 0, ground := Go.Ground.phase }, { on := 1, ground := Go.Ground.phase }, { on := 2, ground := Go.Ground.phase }, { on := 3, ground := Go.Ground.phase }, { on := 4, ground := Go.Ground.phase }, { on := 5, ground := Go.Ground.phase }, { on := 6, ground := Go.Ground.phase }, { on := 7, ground := Go.Ground.phase }, { on := 8, ground := Go.Ground.phase }, { on := 9, ground := Go.Ground.phase }, { on := 10, ground := Go.Ground.phase }, { on := 11, ground := Go.Ground.phase }, { on := 12, ground := Go.Ground.phase }, { on := 13, ground := Go.Ground.phase }, { on := 14, ground := Go.Ground.phase }, { on := 15, ground := Go.Ground.phase }, { on := 16, ground := Go.Ground.phase }, { on := 17, ground := Go.Ground.phase }, { on := 18, ground := Go.Ground.phase }], guard := none }) rfl (fun K hK => ?_) AllReadyK.nil
            go_simp
            refine hK.out _ _ (.inl rfl) (fun _ => ?_)
            clear hK K
            try simp only [Act.put, List.setIfInBounds_toArray, List.set_cons_zero, List.set_cons_succ]
            refine wpAnyK_done (by kernel_rfl) ?_ _
            refine NoPanic.normal ?_
            have HEND := hid (HFIN.out w7 _ b5 c5 k _ hsc5 HKE.out (by have := HKN.out; omega) hown5 rfl)
            clear hown3 hown4 hown5 hsc3 hsc4 hsc5 hb3 hb4 hb5 hg3 hg4 hg5 hHeld hs0 f5 e5 hpk5
            go_wp2
            all_goals (go_ret; exact ⟨rfl, HEND.out⟩)
        · go_simp
          refine hK.out _ _ (.inr (HSA.out _ (by (repeat (first | assumption | exact ScL.start _ | apply ScL.dr | apply ScL.alloc))))) (fun hHeld => ?_)
          have hHeld := hHeld.resolve_right (by decide)
          clear hK K
          try simp only [Act.put, List.setIfInBounds_toArray, List.set_cons_zero, List.set_cons_succ]
          refine wpAnyK_ready (rs := [1]) (by kernel_rfl) (by simp) ?_
          refine AllReadyK.cons (o := { dst := some 70, op := Go.Op.buildSlice 40 0 #[], type := 40, pos := "ref.go:69", after := #[], guard := none }) rfl (fun K hK => ?_) AllReadyK.nil
          go_simp
          refine hK.out _ _ (.inr (HSA.out _ (by (repeat (first | assumption | exact ScL.start _ | apply ScL.dr | apply ScL.alloc))))) (fun hHeld => ?_)
          have hHeld := hHeld.resolve_right (by decide)
          clear hK K
          try simp only [Act.put, List.setIfInBounds_toArray, List.set_cons_zero, List.set_cons_succ]
          refine wpAnyK_ready (rs := [8]) (by kernel_rfl) (by simp) ?_
          refine AllReadyK.cons (o := { dst := some 77, op := Go.Op.call { callee := Go.Callee.builtin Go.Builtin.append, args := #[Go.Operand.tmp 70, Go.Operand.tmp 76], argTypes := #[40, 40] }, type := 40, pos := "ref.go:69", after := #[{ on := 1, ground := Go.Ground.data }, { on := 7, ground := Go.Ground.data }], guard := none }) rfl (fun K hK => ?_) AllReadyK.nil
          refine step_copy_v8 rfl _ _ rfl U.heap.size _ rfl ?ownz55 _ _ _ (xs.take k) ?hmz55 rfl ?hhz55 ?hsumz55 ?hbasez55 ?restz55
          case ownz55 => first | exact ownV8_made U _ (Nat.le_refl _) | exact (ownV8_made U _ (Nat.le_refl _)).alloc _ | exact ownV8_made2 U _ _ (Nat.le_refl _)
          case hmz55 => have := HN.out; have := HKN.out; rw [List.length_take]; omega
          case hhz55 => first | exact (HHX.out _ (by (repeat (first | assumption | exact ScL.start _ | apply ScL.dr | apply ScL.alloc)))).take k | exact (.inl (by have := HN.out; have := HKN.out; exact List.take_eq_nil_iff.2 (.inl (by omega))))
          case hsumz55 => have := HKN.out; have := HNL.out; omega
          case hbasez55 => exact ScL.size (by (repeat (first | assumption | exact ScL.start _ | apply ScL.dr | apply ScL.alloc)))
          intro b3 c3 w5 hown3 hb3 hg3
          have hsc3 : ScL U w5 := ScL.grown (by (repeat (first | assumption | exact ScL.start _ | apply ScL.dr | apply ScL.alloc))) hb3
          refine hK.out _ _ (.inr (HSA.out _ (by (repeat (first | assumption | exact ScL.start _ | apply ScL.dr | apply ScL.alloc))))) (fun hHeld => ?_)
          have hHeld := hHeld.resolve_right (by decide)
          clear hK K
          try simp only [Act.put, List.setIfInBounds_toArray, List.set_cons_zero, List.set_cons_succ]
          refine wpAnyK_ready (rs := [11]) (by kernel_rfl) (by simp) ?_
          refine AllReadyK.cons (o := { dst := some 80, op := Go.Op.call { callee := Go.Callee.builtin Go.Builtin.append, args := #[Go.Operand.tmp 77, Go.Operand.tmp 79], argTypes := #[40, 40] }, type := 40, pos := "ref.go:69", after := #[{ on := 8, ground := Go.Ground.data }, { on := 10, ground := Go.Ground.data }, { on := 8, ground := Go.Ground.chain }], guard := none }) rfl (fun K hK => ?_) AllReadyK.nil
          refine step_append_v8 rfl _ _ rfl U.heap.size _ _ (xs.take k) ?hnz56 rfl (hown3) _ 1 1 [v] rfl rfl ?hhz56 ?hsumz56 ?hbasez56 ?restz56
          case hnz56 => have := HN.out; have := HKN.out; rw [List.length_take]; omega
          case hhz56 => exact held_grownV8 (show HeldV8 _ (some ⟨U.heap.size, 0, none⟩) [v] from HHA.out U) hg3 (by simp)
          case hsumz56 => have := HKN.out; have := HNL.out; omega
          case hbasez56 => exact ScL.size (by (repeat (first | assumption | exact ScL.start _ | apply ScL.dr | apply ScL.alloc)))
          intro b4 c4 w6 hown4 hb4 hg4
          have hsc4 : ScL U w6 := ScL.grown (by (repeat (first | assumption | exact ScL.start _ | apply ScL.dr | apply ScL.alloc))) hb4
          refine hK.out _ _ (.inr (HSA.out _ (by (repeat (first | assumption | exact ScL.start _ | apply ScL.dr | apply ScL.alloc))))) (fun hHeld => ?_)
          have hHeld := hHeld.resolve_right (by decide)
          clear hK K
          try simp only [Act.put, List.setIfInBounds_toArray, List.set_cons_zero, List.set_cons_succ]
          refine wpAnyK_ready (rs := [18]) (by kernel_rfl) (by simp) ?_
          refine AllReadyK.cons (o := { dst := some 87, op := Go.Op.call { callee := Go.Callee.builtin Go.Builtin.append, args := #[Go.Operand.tmp 80, Go.Operand.tmp 86], argTypes := #[40, 40] }, type := 40, pos := "ref.go:69", after := #[{ on := 11, ground := Go.Ground.data }, { on := 17, ground := Go.Ground.data }, { on := 11, ground := Go.Ground.chain }], guard := none }) rfl (fun K hK => ?_) AllReadyK.nil
          refine step_append_v8 rfl _ _ rfl U.heap.size _ _ (xs.take k ++ [v]) ?hnz57 rfl hown4 _ _ _ (xs.drop k) ?hmz57 rfl ?hhz57 ?hsumz57 ?hbasez57 ?restz57
          case hnz57 => have := HN.out; have := HKN.out; rw [List.length_append, List.length_take, List.length_singleton]; omega
          case hmz57 => have := HN.out; have := HKN.out; rw [List.length_drop]; omega
          case hhz57 => first | exact (HHX.out _ (by (repeat (first | assumption | exact ScL.start _ | apply ScL.dr | apply ScL.alloc)))).drop k | exact held_dropV8 (HHX.out _ (by (repeat (first | assumption | exact ScL.start _ | apply ScL.dr | apply ScL.alloc)))) k (by have := HN.out; have := HKC.out; omega)
          case hsumz57 => have := HKN.out; have := HNL.out; omega
          case hbasez57 => exact ScL.size (by (repeat (first | assumption | exact ScL.start _ | apply ScL.dr | apply ScL.alloc)))
          intro b5 c5 w7 hown5 hb5 hg5
          have hsc5 : ScL U w7 := ScL.grown (by (repeat (first | assumption | exact ScL.start _ | apply ScL.dr | apply ScL.alloc))) hb5
          refine hK.out _ _ (.inr (HSA.out _ (by (repeat (first | assumption | exact ScL.start _ | apply ScL.dr | apply ScL.alloc))))) (fun hHeld => ?_)
          have hHeld := hHeld.resolve_right (by decide)
          clear hK K
          try simp only [Act.put, List.setIfInBounds_toArray, List.set_cons_zero, List.set_cons_succ]
          have hpk5 := HXR.out.blk.below hsc5.out HXR.out.blk.lt
          have f5 := hpk5.frozen 3
          have e5 := hpk5.cell (i := 3) rfl
          rw [HN.out] at e5
          refine wpAnyK_take (i := 19) (oi := { dst := some 88, op := Go.Op.nilCheck (Go.Operand.tmp 69), type := 0, pos := "ref.go:69", after := #[{ on := 0, ground := Go.Ground.data }, { on := 0, ground := Go.Ground.phase }, { on := 1, ground := Go.Ground.phase }, { on := 2, ground := Go.Ground.phase }, { on := 3, ground := Go.Ground.phase }, { on := 4, ground := Go.Ground.phase }, { on := 5, ground := Go.Ground.phase }, { on := 6, ground := Go.Ground.phase }, { on := 7, ground := Go.Ground.phase }, { on := 8, ground := Go.Ground.phase }, { on := 9, ground := Go.Ground.phase }, { on := 10, ground := Go.Ground.phase }, { on := 11, ground := Go.Ground.phase }, { on := 12, ground := Go.Ground.phase }, { on := 13, ground := Go.Ground.phase }, { on := 14, ground := Go.Ground.phase }, { on := 15, ground := Go.Ground.phase }, { on := 16, ground := Go.Ground.phase }, { on := 17, ground := Go.Ground.phase }, { on := 18, ground := Go.Ground.phase }], guard := none }) (v := ?vq58) [20] rfl (by kernel_rfl) (by kernel_rfl) (by kernel_rfl) (by kernel_rfl) (by kernel_rfl) (fun _ _ _ h => h) (Or.inl ⟨by rfl, ?hyq58⟩) (by assumption) ?restq58
          case hyq58 => (intro w0 hSw; (try dsimp only at hSw); go_simp; try with_reducible rfl)
          simp only [Act.put, List.setIfInBounds_toArray, List.set_cons_zero, List.set_cons_succ]
          refine wpAnyK_take (i := 20) (oi := { dst := some 89, op := Go.Op.fieldAddr 51 (Go.Operand.tmp 88) 2, type := 0, pos := "ref.go:69", after := #[{ on := 19, ground := Go.Ground.data }, { on := 0, ground := Go.Ground.phase }, { on := 1, ground := Go.Ground.phase }, { on := 2, ground := Go.Ground.phase }, { on := 3, ground := Go.Ground.phase }, { on := 4, ground := Go.Ground.phase }, { on := 5, ground := Go.Ground.phase }, { on := 6, ground := Go.Ground.phase }, { on := 7, ground := Go.Ground.phase }, { on := 8, ground := Go.Ground.phase }, { on := 9, ground := Go.Ground.phase }, { on := 10, ground := Go.Ground.phase }, { on := 11, ground := Go.Ground.phase }, { on := 12, ground := Go.Ground.phase }, { on := 13, ground := Go.Ground.phase }, { on := 14, ground := Go.Ground.phase }, { on := 15, ground := Go.Ground.phase }, { on := 16, ground := Go.Ground.phase }, { on := 17, ground := Go.Ground.phase }, { on := 18, ground := Go.Ground.phase }], guard := none }) (v := ?vq59) [] rfl (by kernel_rfl) (by kernel_rfl) (by kernel_rfl) (by kernel_rfl) (by kernel_rfl) (fun _ _ _ h => h) (Or.inl ⟨by rfl, ?hyq59⟩) (by assumption) ?restq59
          case hyq59 => (intro w0 hSw; (try dsimp only at hSw); go_simp; try with_reducible rfl)
          simp only [Act.put, List.setIfInBounds_toArray, List.set_cons_zero, List.set_cons_succ]
          refine wpAnyK_ready (rs := [21]) (by kernel_rfl) (by simp) ?_
          refine AllReadyK.cons (o := { dst := none, op := Go.Op.store 40 (Go.Operand.tmp 89) (Go.Operand.tmp 87), type := 0, pos := "ref.go:69", after := #[{ on := 20, ground := Go.Ground.data }, { on := 18, ground := Go.Ground.data }, { on := 18, ground := Go.Ground.chain }, { on := 0, ground := Go.Ground.phase }, { on := 1, ground := Go.Ground.phase }, { on := 2, ground := Go.Ground.phase }, { on := 3, ground := Go.Ground.phase }, { on := 4, ground := Go.Ground.phase }, { on := 5, ground := Go.Ground.phase }, { on := 6, ground := Go.Ground.phase }, { on := 7, ground := Go.Ground.phase }, { on := 8, ground := Go.Ground.phase }, { on := 9, ground := Go.Ground.phase }, { on := 10, ground := Go.Ground.phase }, { on := 11, ground := Go.Ground.phase }, { on := 12, ground := Go.Ground.phase }, { on := 13, ground := Go.Ground.phase }, { on := 14, ground := Go.Ground.phase }, { on := 15, ground := Go.Ground.phase }, { on := 16, ground := Go.Ground.phase }, { on := 17, ground := Go.Ground.phase }, { on := 18, ground := Go.Ground.phase }], guard := none }) rfl (fun K hK => ?_) AllReadyK.nil
          go_simp
          refine hK.out _ _ (.inl rfl) (fun _ => ?_)
          clear hK K
          try simp only [Act.put, List.setIfInBounds_toArray, List.set_cons_zero, List.set_cons_succ]
          refine wpAnyK_done (by kernel_rfl) ?_ _
          refine NoPanic.normal ?_
          have HEND := hid (HFIN.out w7 _ b5 c5 k _ hsc5 HKE.out (by have := HKN.out; omega) hown5 rfl)
          clear hown3 hown4 hown5 hsc3 hsc4 hsc5 hb3 hb4 hb5 hg3 hg4 hg5 hHeld hs0 f5 e5 hpk5
          go_wp2
          all_goals (go_ret; exact ⟨rfl, HEND.out⟩)
      | none =>
        have hn0 : n = 0 := by rw [← HN.out]; exact ra_none HXR.out
        have hk00 : k = 0 := by have := HKE2.out; omega
        subst hn0
        subst hk00
        have HCP : Hid (cap = 0) := ra_none_cap HXR.out
        rw [HCP.out] at HXR HSA H hx0 HALL
        go_wp2
        go_quiet (fail)
        go_wp2
        obtain ⟨hk0, hkn, hkc, hnc⟩ := HALL.out
        obtain ⟨U, hU⟩ : ∃ U, U = wr.drewN nq := ⟨_, rfl⟩
        have hS9 : ScL w2 U := by rw [hU]; exact ⟨below_dn HWR.out.out _⟩
        rw [← hU]
        have HFIN := hid (HFIN.out U hS9)
        have HSA := hid (HSA.out U hS9)
        have HHX := hid (fun V (hV : ScL U V) => HHX.out V (hS9.go hV.out))
        have HXR := hid (HXR.out.below hS9.out)
        clear hU hS9 hx0 a0
        refine wp_region_noPanic ?_
        refine wp_region_K 21 (fun V => ScL U V ∧ V.cell? ⟨x, 3, none⟩ = some (.slice none 0 0) ∧ V.cell? ⟨pb, 0, none⟩ = some (.int .i64 s) ∧ V.cell? ⟨pb, 1, none⟩ = some (.int .i64 br) ∧ V.cell? ⟨pb, 2, none⟩ = some (.int .i64 bn) ∧ V.cell? ⟨pb, 3, none⟩ = some (.bool np) ∧ V.cell? ⟨pb, 4, none⟩ = some (.string tk) ∧ V.cell? ⟨pb, 5, none⟩ = some (.string ct) ∧ V.cell? ⟨pb, 6, none⟩ = some (.int .i64 ep) ∧ V.cell? ⟨pb, 7, none⟩ = some (.slice yo XN yc)) (by kernel_rfl) (HSA.out _ (ScL.start U).dr) (fun hHeld => ?_)
        have hs0 := (ScL.start U).dr
        refine wpAnyK_take (i := 0) (oi := { dst := some 69, op := Go.Op.move (Go.Operand.tmp 0), type := 28, pos := "ref.go:69", after := #[], guard := none }) (v := ?vq63) [] rfl (by kernel_rfl) (by kernel_rfl) (by kernel_rfl) (by kernel_rfl) (by kernel_rfl) (fun _ _ _ h => h) (Or.inl ⟨by rfl, ?hyq63⟩) (by assumption) ?restq63
        case hyq63 => (intro w0 hSw; (try dsimp only at hSw); go_simp; try with_reducible rfl)
        simp only [Act.put, List.setIfInBounds_toArray, List.set_cons_zero, List.set_cons_succ]
        refine wpAnyK_take (i := 2) (oi := { dst := some 71, op := Go.Op.move (Go.Operand.tmp 0), type := 28, pos := "ref.go:69", after := #[], guard := none }) (v := ?vq64) [] rfl (by kernel_rfl) (by kernel_rfl) (by kernel_rfl) (by kernel_rfl) (by kernel_rfl) (fun _ _ _ h => h) (Or.inl ⟨by rfl, ?hyq64⟩) (by assumption) ?restq64
        case hyq64 => (intro w0 hSw; (try dsimp only at hSw); go_simp; try with_reducible rfl)
        simp only [Act.put, List.setIfInBounds_toArray, List.set_cons_zero, List.set_cons_succ]
        refine wpAnyK_take (i := 3) (oi := { dst := some 72, op := Go.Op.nilCheck (Go.Operand.tmp 71), type := 0, pos := "ref.go:69", after := #[{ on := 2, ground := Go.Ground.data }], guard := none }) (v := ?vq65) [] rfl (by kernel_rfl) (by kernel_rfl) (by kernel_rfl) (by kernel_rfl) (by kernel_rfl) (fun _ _ _ h => h) (Or.inl ⟨by rfl, ?hyq65⟩) (by assumption) ?restq65
        case hyq65 => (intro w0 hSw; (try dsimp only at hSw); go_simp; try with_reducible rfl)
        simp only [Act.put, List.setIfInBounds_toArray, List.set_cons_zero, List.set_cons_succ]
        refine wpAnyK_take (i := 4) (oi := { dst := some 73, op := Go.Op.fieldAddr 51 (Go.Operand.tmp 72) 2, type := 0, pos := "ref.go:69", after := #[{ on := 3, ground := Go.Ground.data }], guard := none }) (v := ?vq66) [] rfl (by kernel_rfl) (by kernel_rfl) (by kernel_rfl) (by kernel_rfl) (by kernel_rfl) (fun _ _ _ h => h) (Or.inl ⟨by rfl, ?hyq66⟩) (by assumption) ?restq66
        case hyq66 => (intro w0 hSw; (try dsimp only at hSw); go_simp; try with_reducible rfl)
        simp only [Act.put, List.setIfInBounds_toArray, List.set_cons_zero, List.set_cons_succ]
        refine wpAnyK_take (i := 5) (oi := { dst := some 74, op := Go.Op.load 40 (Go.Operand.tmp 73), type := 40, pos := "ref.go:69", after := #[{ on := 4, ground := Go.Ground.data }], guard := none }) (v := ?vq67) [] rfl (by kernel_rfl) (by kernel_rfl) (by kernel_rfl) (by kernel_rfl) (by kernel_rfl) (fun _ _ _ h => h) (Or.inl ⟨by rfl, ?hyq67⟩) (by assumption) ?restq67
        case hyq67 => (intro w0 hSw; (try dsimp only at hSw); go_simp; try with_reducible rfl)
        simp only [Act.put, List.setIfInBounds_toArray, List.set_cons_zero, List.set_cons_succ]
        refine wpAnyK_take (i := 6) (oi := { dst := some 75, op := Go.Op.move (Go.Operand.tmp 7), type := 3, pos := "ref.go:69", after := #[], guard := none }) (v := ?vq68) [] rfl (by kernel_rfl) (by kernel_rfl) (by kernel_rfl) (by kernel_rfl) (by kernel_rfl) (fun _ _ _ h => h) (Or.inl ⟨by rfl, ?hyq68⟩) (by assumption) ?restq68
        case hyq68 => (intro w0 hSw; (try dsimp only at hSw); go_simp; try with_reducible rfl)
        simp only [Act.put, List.setIfInBounds_toArray, List.set_cons_zero, List.set_cons_succ]
        refine wpAnyK_take (i := 7) (oi := { dst := some 76, op := Go.Op.slice 40 (Go.Operand.tmp 74) none (some (Go.Operand.tmp 75)) none, type := 40, pos := "ref.go:69", after := #[{ on := 5, ground := Go.Ground.data }, { on := 6, ground := Go.Ground.data }], guard := none }) (v := ?vq69) [] rfl (by kernel_rfl) (by kernel_rfl) (by kernel_rfl) (by kernel_rfl) (by kernel_rfl) (fun _ _ _ h => h) (Or.inl ⟨by rfl, ?hyq69⟩) (by assumption) ?restq69
        case hyq69 => (intro w0 hSw; (try dsimp only at hSw); go_simp; try with_reducible rfl)
        simp only [Act.put, List.setIfInBounds_toArray, List.set_cons_zero, List.set_cons_succ]
        refine wpAnyK_take (i := 9) (oi := { dst := some 78, op := Go.Op.load 73 (Go.Operand.tmp 3), type := 73, pos := "ref.go:69", after := #[], guard := none }) (v := ?vq70) [] rfl (by kernel_rfl) (by kernel_rfl) (by kernel_rfl) (by kernel_rfl) (by kernel_rfl) (fun _ _ _ h => h) (Or.inl ⟨by rfl, ?hyq70⟩) (by assumption) ?restq70
        case hyq70 => (intro w0 hSw; (try dsimp only at hSw); go_simp; try with_reducible rfl)
        simp only [Act.put, List.setIfInBounds_toArray, List.set_cons_zero, List.set_cons_succ]
        refine wpAnyK_take (i := 12) (oi := { dst := some 81, op := Go.Op.move (Go.Operand.tmp 0), type := 28, pos := "ref.go:69", after := #[], guard := none }) (v := ?vq71) [] rfl (by kernel_rfl) (by kernel_rfl) (by kernel_rfl) (by kernel_rfl) (by kernel_rfl) (fun _ _ _ h => h) (Or.inl ⟨by rfl, ?hyq71⟩) (by assumption) ?restq71
        case hyq71 => (intro w0 hSw; (try dsimp only at hSw); go_simp; try with_reducible rfl)
        simp only [Act.put, List.setIfInBounds_toArray, List.set_cons_zero, List.set_cons_succ]
        refine wpAnyK_take (i := 13) (oi := { dst := some 82, op := Go.Op.nilCheck (Go.Operand.tmp 81), type := 0, pos := "ref.go:69", after := #[{ on := 12, ground := Go.Ground.data }], guard := none }) (v := ?vq72) [] rfl (by kernel_rfl) (by kernel_rfl) (by kernel_rfl) (by kernel_rfl) (by kernel_rfl) (fun _ _ _ h => h) (Or.inl ⟨by rfl, ?hyq72⟩) (by assumption) ?restq72
        case hyq72 => (intro w0 hSw; (try dsimp only at hSw); go_simp; try with_reducible rfl)
        simp only [Act.put, List.setIfInBounds_toArray, List.set_cons_zero, List.set_cons_succ]
        refine wpAnyK_take (i := 14) (oi := { dst := some 83, op := Go.Op.fieldAddr 51 (Go.Operand.tmp 82) 2, type := 0, pos := "ref.go:69", after := #[{ on := 13, ground := Go.Ground.data }], guard := none }) (v := ?vq73) [] rfl (by kernel_rfl) (by kernel_rfl) (by kernel_rfl) (by kernel_rfl) (by kernel_rfl) (fun _ _ _ h => h) (Or.inl ⟨by rfl, ?hyq73⟩) (by assumption) ?restq73
        case hyq73 => (intro w0 hSw; (try dsimp only at hSw); go_simp; try with_reducible rfl)
        simp only [Act.put, List.setIfInBounds_toArray, List.set_cons_zero, List.set_cons_succ]
        refine wpAnyK_take (i := 15) (oi := { dst := some 84, op := Go.Op.load 40 (Go.Operand.tmp 83), type := 40, pos := "ref.go:69", after := #[{ on := 14, ground := Go.Ground.data }], guard := none }) (v := ?vq74) [] rfl (by kernel_rfl) (by kernel_rfl) (by kernel_rfl) (by kernel_rfl) (by kernel_rfl) (fun _ _ _ h => h) (Or.inl ⟨by rfl, ?hyq74⟩) (by assumption) ?restq74
        case hyq74 => (intro w0 hSw; (try dsimp only at hSw); go_simp; try with_reducible rfl)
        simp only [Act.put, List.setIfInBounds_toArray, List.set_cons_zero, List.set_cons_succ]
        refine wpAnyK_take (i := 16) (oi := { dst := some 85, op := Go.Op.move (Go.Operand.tmp 7), type := 3, pos := "ref.go:69", after := #[], guard := none }) (v := ?vq75) [] rfl (by kernel_rfl) (by kernel_rfl) (by kernel_rfl) (by kernel_rfl) (by kernel_rfl) (fun _ _ _ h => h) (Or.inl ⟨by rfl, ?hyq75⟩) (by assumption) ?restq75
        case hyq75 => (intro w0 hSw; (try dsimp only at hSw); go_simp; try with_reducible rfl)
        simp only [Act.put, List.setIfInBounds_toArray, List.set_cons_zero, List.set_cons_succ]
        refine wpAnyK_take (i := 17) (oi := { dst := some 86, op := Go.Op.slice 40 (Go.Operand.tmp 84) (some (Go.Operand.tmp 85)) none none, type := 40, pos := "ref.go:69", after := #[{ on := 15, ground := Go.Ground.data }, { on := 16, ground := Go.Ground.data }], guard := none }) (v := ?vq76) [] rfl (by kernel_rfl) (by kernel_rfl) (by kernel_rfl) (by kernel_rfl) (by kernel_rfl) (fun _ _ _ h => h) (Or.inl ⟨by rfl, ?hyq76⟩) (by assumption) ?restq76
        case hyq76 => (intro w0 hSw; (try dsimp only at hSw); go_simp; try with_reducible rfl)
        simp only [Act.put, List.setIfInBounds_toArray, List.set_cons_zero, List.set_cons_succ]
        refine wpAnyK_ready (rs := [1, 10]) (by kernel_rfl) (by simp) ?_
        refine AllReadyK.cons (o := { dst := some 70, op := Go.Op.buildSlice 40 0 #[], type := 40, pos := "ref.go:69", after := #[], guard := none }) rfl (fun K hK => ?_) (AllReadyK.cons (o := { dst := some 79, op := Go.Op.buildSlice 40 1 #[(0, Go.Operand.tmp 78)], type := 40, pos := "ref.go:69", after := #[{ on := 9, ground := Go.Ground.data }], guard := none }) rfl (fun K hK => ?_) AllReadyK.nil)
        · go_simp
          refine hK.out _ _ (.inr (HSA.out _ (by (repeat (first | assumption | exact ScL.start _ | apply ScL.dr | apply ScL.alloc))))) (fun hHeld => ?_)
          have hHeld := hHeld.resolve_right (by decide)
          clear hK K
          try simp only [Act.put, List.setIfInBounds_toArray, List.set_cons_zero, List.set_cons_succ]
          refine wpAnyK_ready (rs := [8, 10]) (by kernel_rfl) (by simp) ?_
          refine AllReadyK.cons (o := { dst := some 77, op := Go.Op.call { callee := Go.Callee.builtin Go.Builtin.append, args := #[Go.Operand.tmp 70, Go.Operand.tmp 76], argTypes := #[40, 40] }, type := 40, pos := "ref.go:69", after := #[{ on := 1, ground := Go.Ground.data }, { on := 7, ground := Go.Ground.data }], guard := none }) rfl (fun K hK => ?_) (AllReadyK.cons (o := { dst := some 79, op := Go.Op.buildSlice 40 1 #[(0, Go.Operand.tmp 78)], type := 40, pos := "ref.go:69", after := #[{ on := 9, ground := Go.Ground.data }], guard := none }) rfl (fun K hK => ?_) AllReadyK.nil)
          · refine step_copy_v8 rfl _ _ rfl U.heap.size _ rfl ?ownz91 _ _ _ (xs.take 0) ?hmz91 rfl ?hhz91 ?hsumz91 ?hbasez91 ?restz91
            case ownz91 => first | exact ownV8_made U _ (Nat.le_refl _) | exact (ownV8_made U _ (Nat.le_refl _)).alloc _ | exact ownV8_made2 U _ _ (Nat.le_refl _)
            case hmz91 => have := HN.out; have := HKN.out; rw [List.length_take]; omega
            case hhz91 => first | exact (HHX.out _ (by (repeat (first | assumption | exact ScL.start _ | apply ScL.dr | apply ScL.alloc)))).take 0 | exact (.inl (by have := HN.out; have := HKN.out; exact List.take_eq_nil_iff.2 (.inl (by omega))))
            case hsumz91 => have := HKN.out; have := HNL.out; omega
            case hbasez91 => exact ScL.size (by (repeat (first | assumption | exact ScL.start _ | apply ScL.dr | apply ScL.alloc)))
            intro b3 c3 w5 hown3 hb3 hg3
            have hsc3 : ScL U w5 := ScL.grown (by (repeat (first | assumption | exact ScL.start _ | apply ScL.dr | apply ScL.alloc))) hb3
            refine hK.out _ _ (.inr (HSA.out _ (by (repeat (first | assumption | exact ScL.start _ | apply ScL.dr | apply ScL.alloc))))) (fun hHeld => ?_)
            have hHeld := hHeld.resolve_right (by decide)
            clear hK K
            try simp only [Act.put, List.setIfInBounds_toArray, List.set_cons_zero, List.set_cons_succ]
            refine wpAnyK_ready (rs := [10]) (by kernel_rfl) (by simp) ?_
            refine AllReadyK.cons (o := { dst := some 79, op := Go.Op.buildSlice 40 1 #[(0, Go.Operand.tmp 78)], type := 40, pos := "ref.go:69", after := #[{ on := 9, ground := Go.Ground.data }], guard := none }) rfl (fun K hK => ?_) AllReadyK.nil
            go_simp
            refine hK.out _ _ (.inr (HSA.out _ (by (repeat (first | assumption | exact ScL.start _ | apply ScL.dr | apply ScL.alloc))))) (fun hHeld => ?_)
            have hHeld := hHeld.resolve_right (by decide)
            clear hK K
            try simp only [Act.put, List.setIfInBounds_toArray, List.set_cons_zero, List.set_cons_succ]
            refine wpAnyK_ready (rs := [11]) (by kernel_rfl) (by simp) ?_
            refine AllReadyK.cons (o := { dst := some 80, op := Go.Op.call { callee := Go.Callee.builtin Go.Builtin.append, args := #[Go.Operand.tmp 77, Go.Operand.tmp 79], argTypes := #[40, 40] }, type := 40, pos := "ref.go:69", after := #[{ on := 8, ground := Go.Ground.data }, { on := 10, ground := Go.Ground.data }, { on := 8, ground := Go.Ground.chain }], guard := none }) rfl (fun K hK => ?_) AllReadyK.nil
            refine step_append_v8 rfl _ _ rfl U.heap.size _ _ (xs.take 0) ?hnz82 rfl (hown3.alloc _) _ 1 1 [v] rfl rfl ?hhz82 ?hsumz82 ?hbasez82 ?restz82
            case hnz82 => have := HN.out; have := HKN.out; rw [List.length_take]; omega
            case hhz82 => exact HH3.out _
            case hsumz82 => have := HKN.out; have := HNL.out; omega
            case hbasez82 => exact ScL.size (by (repeat (first | assumption | exact ScL.start _ | apply ScL.dr | apply ScL.alloc)))
            intro b4 c4 w6 hown4 hb4 hg4
            have hsc4 : ScL U w6 := ScL.grown (by (repeat (first | assumption | exact ScL.start _ | apply ScL.dr | apply ScL.alloc))) hb4
            refine hK.out _ _ (.inr (HSA.out _ (by (repeat (first | assumption | exact ScL.start _ | apply ScL.dr | apply ScL.alloc))))) (fun hHeld => ?_)
            have hHeld := hHeld.resolve_right (by decide)
            clear hK K
            try simp only [Act.put, List.setIfInBounds_toArray, List.set_cons_zero, List.set_cons_succ]
            refine wpAnyK_ready (rs := [18]) (by kernel_rfl) (by simp) ?_
            refine AllReadyK.cons (o := { dst := some 87, op := Go.Op.call { callee := Go.Callee.builtin Go.Builtin.append, args := #[Go.Operand.tmp 80, Go.Operand.tmp 86], argTypes := #[40, 40] }, type := 40, pos := "ref.go:69", after := #[{ on := 11, ground := Go.Ground.data }, { on := 17, ground := Go.Ground.data }, { on := 11, ground := Go.Ground.chain }], guard := none }) rfl (fun K hK => ?_) AllReadyK.nil
            refine step_append_v8 rfl _ _ rfl U.heap.size _ _ (xs.take 0 ++ [v]) ?hnz83 rfl hown4 _ _ _ (xs.drop 0) ?hmz83 rfl ?hhz83 ?hsumz83 ?hbasez83 ?restz83
            case hnz83 => have := HN.out; have := HKN.out; rw [List.length_append, List.length_take, List.length_singleton]; omega
            case hmz83 => have := HN.out; have := HKN.out; rw [List.length_drop]; omega
            case hhz83 => exact (.inl (by have := HN.out; have := HKN.out; exact List.drop_eq_nil_of_le (by omega)))
            case hsumz83 => have := HKN.out; have := HNL.out; omega
            case hbasez83 => exact ScL.size (by (repeat (first | assumption | exact ScL.start _ | apply ScL.dr | apply ScL.alloc)))
            intro b5 c5 w7 hown5 hb5 hg5
            have hsc5 : ScL U w7 := ScL.grown (by (repeat (first | assumption | exact ScL.start _ | apply ScL.dr | apply ScL.alloc))) hb5
            refine hK.out _ _ (.inr (HSA.out _ (by (repeat (first | assumption | exact ScL.start _ | apply ScL.dr | apply ScL.alloc))))) (fun hHeld => ?_)
            have hHeld := hHeld.resolve_right (by decide)
            clear hK K
            try simp only [Act.put, List.setIfInBounds_toArray, List.set_cons_zero, List.set_cons_succ]
            have hpk5 := HXR.out.blk.below hsc5.out HXR.out.blk.lt
            have f5 := hpk5.frozen 3
            have e5 := hpk5.cell (i := 3) rfl
            rw [HN.out] at e5
            refine wpAnyK_take (i := 19) (oi := { dst := some 88, op := Go.Op.nilCheck (Go.Operand.tmp 69), type := 0, pos := "ref.go:69", after := #[{ on := 0, ground := Go.Ground.data }, { on := 0, ground := Go.Ground.phase }, { on := 1, ground := Go.Ground.phase }, { on := 2, ground := Go.Ground.phase }, { on := 3, ground := Go.Ground.phase }, { on := 4, ground := Go.Ground.phase }, { on := 5, ground := Go.Ground.phase }, { on := 6, ground := Go.Ground.phase }, { on := 7, ground := Go.Ground.phase }, { on := 8, ground := Go.Ground.phase }, { on := 9, ground := Go.Ground.phase }, { on := 10, ground := Go.Ground.phase }, { on := 11, ground := Go.Ground.phase }, { on := 12, ground := Go.Ground.phase }, { on := 13, ground := Go.Ground.phase }, { on := 14, ground := Go.Ground.phase }, { on := 15, ground := Go.Ground.phase }, { on := 16, ground := Go.Ground.phase }, { on := 17, ground := Go.Ground.phase }, { on := 18, ground := Go.Ground.phase }], guard := none }) (v := ?vq84) [20] rfl (by kernel_rfl) (by kernel_rfl) (by kernel_rfl) (by kernel_rfl) (by kernel_rfl) (fun _ _ _ h => h) (Or.inl ⟨by rfl, ?hyq84⟩) (by assumption) ?restq84
            case hyq84 => (intro w0 hSw; (try dsimp only at hSw); go_simp; try with_reducible rfl)
            simp only [Act.put, List.setIfInBounds_toArray, List.set_cons_zero, List.set_cons_succ]
            refine wpAnyK_take (i := 20) (oi := { dst := some 89, op := Go.Op.fieldAddr 51 (Go.Operand.tmp 88) 2, type := 0, pos := "ref.go:69", after := #[{ on := 19, ground := Go.Ground.data }, { on := 0, ground := Go.Ground.phase }, { on := 1, ground := Go.Ground.phase }, { on := 2, ground := Go.Ground.phase }, { on := 3, ground := Go.Ground.phase }, { on := 4, ground := Go.Ground.phase }, { on := 5, ground := Go.Ground.phase }, { on := 6, ground := Go.Ground.phase }, { on := 7, ground := Go.Ground.phase }, { on := 8, ground := Go.Ground.phase }, { on := 9, ground := Go.Ground.phase }, { on := 10, ground := Go.Ground.phase }, { on := 11, ground := Go.Ground.phase }, { on := 12, ground := Go.Ground.phase }, { on := 13, ground := Go.Ground.phase }, { on := 14, ground := Go.Ground.phase }, { on := 15, ground := Go.Ground.phase }, { on := 16, ground := Go.Ground.phase }, { on := 17, ground := Go.Ground.phase }, { on := 18, ground := Go.Ground.phase }], guard := none }) (v := ?vq85) [] rfl (by kernel_rfl) (by kernel_rfl) (by kernel_rfl) (by kernel_rfl) (by kernel_rfl) (fun _ _ _ h => h) (Or.inl ⟨by rfl, ?hyq85⟩) (by assumption) ?restq85
            case hyq85 => (intro w0 hSw; (try dsimp only at hSw); go_simp; try with_reducible rfl)
            simp only [Act.put, List.setIfInBounds_toArray, List.set_cons_zero, List.set_cons_succ]
            refine wpAnyK_ready (rs := [21]) (by kernel_rfl) (by simp) ?_
            refine AllReadyK.cons (o := { dst := none, op := Go.Op.store 40 (Go.Operand.tmp 89) (Go.Operand.tmp 87), type := 0, pos := "ref.go:69", after := #[{ on := 20, ground := Go.Ground.data }, { on := 18, ground := Go.Ground.data }, { on := 18, ground := Go.Ground.chain }, { on := 0, ground := Go.Ground.phase }, { on := 1, ground := Go.Ground.phase }, { on := 2, ground := Go.Ground.phase }, { on := 3, ground := Go.Ground.phase }, { on := 4, ground := Go.Ground.phase }, { on := 5, ground := Go.Ground.phase }, { on := 6, ground := Go.Ground.phase }, { on := 7, ground := Go.Ground.phase }, { on := 8, ground := Go.Ground.phase }, { on := 9, ground := Go.Ground.phase }, { on := 10, ground := Go.Ground.phase }, { on := 11, ground := Go.Ground.phase }, { on := 12, ground := Go.Ground.phase }, { on := 13, ground := Go.Ground.phase }, { on := 14, ground := Go.Ground.phase }, { on := 15, ground := Go.Ground.phase }, { on := 16, ground := Go.Ground.phase }, { on := 17, ground := Go.Ground.phase }, { on := 18, ground := Go.Ground.phase }], guard := none }) rfl (fun K hK => ?_) AllReadyK.nil
            go_simp
            refine hK.out _ _ (.inl rfl) (fun _ => ?_)
            clear hK K
            try simp only [Act.put, List.setIfInBounds_toArray, List.set_cons_zero, List.set_cons_succ]
            refine wpAnyK_done (by kernel_rfl) ?_ _
            refine NoPanic.normal ?_
            have HEND := hid (HFIN.out w7 _ b5 c5 0 _ hsc5 HKE.out (by have := HKN.out; omega) hown5 rfl)
            clear hown3 hown4 hown5 hsc3 hsc4 hsc5 hb3 hb4 hb5 hg3 hg4 hg5 hHeld hs0 f5 e5 hpk5
            go_wp2
            all_goals (go_ret; exact ⟨rfl, HEND.out⟩)
          · go_simp
            refine hK.out _ _ (.inr (HSA.out _ (by (repeat (first | assumption | exact ScL.start _ | apply ScL.dr | apply ScL.alloc))))) (fun hHeld => ?_)
            have hHeld := hHeld.resolve_right (by decide)
            clear hK K
            try simp only [Act.put, List.setIfInBounds_toArray, List.set_cons_zero, List.set_cons_succ]
            refine wpAnyK_ready (rs := [8]) (by kernel_rfl) (by simp) ?_
            refine AllReadyK.cons (o := { dst := some 77, op := Go.Op.call { callee := Go.Callee.builtin Go.Builtin.append, args := #[Go.Operand.tmp 70, Go.Operand.tmp 76], argTypes := #[40, 40] }, type := 40, pos := "ref.go:69", after := #[{ on := 1, ground := Go.Ground.data }, { on := 7, ground := Go.Ground.data }], guard := none }) rfl (fun K hK => ?_) AllReadyK.nil
            refine step_copy_v8 rfl _ _ rfl U.heap.size _ rfl ?ownz77 _ _ _ (xs.take 0) ?hmz77 rfl ?hhz77 ?hsumz77 ?hbasez77 ?restz77
            case ownz77 => first | exact ownV8_made U _ (Nat.le_refl _) | exact (ownV8_made U _ (Nat.le_refl _)).alloc _ | exact ownV8_made2 U _ _ (Nat.le_refl _)
            case hmz77 => have := HN.out; have := HKN.out; rw [List.length_take]; omega
            case hhz77 => first | exact (HHX.out _ (by (repeat (first | assumption | exact ScL.start _ | apply ScL.dr | apply ScL.alloc)))).take 0 | exact (.inl (by have := HN.out; have := HKN.out; exact List.take_eq_nil_iff.2 (.inl (by omega))))
            case hsumz77 => have := HKN.out; have := HNL.out; omega
            case hbasez77 => exact ScL.size (by (repeat (first | assumption | exact ScL.start _ | apply ScL.dr | apply ScL.alloc)))
            intro b3 c3 w5 hown3 hb3 hg3
            have hsc3 : ScL U w5 := ScL.grown (by (repeat (first | assumption | exact ScL.start _ | apply ScL.dr | apply ScL.alloc))) hb3
            refine hK.out _ _ (.inr (HSA.out _ (by (repeat (first | assumption | exact ScL.start _ | apply ScL.dr | apply ScL.alloc))))) (fun hHeld => ?_)
            have hHeld := hHeld.resolve_right (by decide)
            clear hK K
            try simp only [Act.put, List.setIfInBounds_toArray, List.set_cons_zero, List.set_cons_succ]
            refine wpAnyK_ready (rs := [11]) (by kernel_rfl) (by simp) ?_
            refine AllReadyK.cons (o := { dst := some 80, op := Go.Op.call { callee := Go.Callee.builtin Go.Builtin.append, args := #[Go.Operand.tmp 77, Go.Operand.tmp 79], argTypes := #[40, 40] }, type := 40, pos := "ref.go:69", after := #[{ on := 8, ground := Go.Ground.data }, { on := 10, ground := Go.Ground.data }, { on := 8, ground := Go.Ground.chain }], guard := none }) rfl (fun K hK => ?_) AllReadyK.nil
            refine step_append_v8 rfl _ _ rfl U.heap.size _ _ (xs.take 0) ?hnz78 rfl (hown3) _ 1 1 [v] rfl rfl ?hhz78 ?hsumz78 ?hbasez78 ?restz78
            case hnz78 => have := HN.out; have := HKN.out; rw [List.length_take]; omega
            case hhz78 => exact held_grownV8 (show HeldV8 _ (some ⟨U.heap.size + 1, 0, none⟩) [v] from HHB.out U) hg3 (by simp)
            case hsumz78 => have := HKN.out; have := HNL.out; omega
            case hbasez78 => exact ScL.size (by (repeat (first | assumption | exact ScL.start _ | apply ScL.dr | apply ScL.alloc)))
            intro b4 c4 w6 hown4 hb4 hg4
            have hsc4 : ScL U w6 := ScL.grown (by (repeat (first | assumption | exact ScL.start _ | apply ScL.dr | apply ScL.alloc))) hb4
            refine hK.out _ _ (.inr (HSA.out _ (by (repeat (first | assumption | exact ScL.start _ | apply ScL.dr | apply ScL.alloc))))) (fun hHeld => ?_)
            have hHeld := hHeld.resolve_right (by decide)
            clear hK K
            try simp only [Act.put, List.setIfInBounds_toArray, List.set_cons_zero, List.set_cons_succ]
            refine wpAnyK_ready (rs := [18]) (by kernel_rfl) (by simp) ?_
            refine AllReadyK.cons (o := { dst := some 87, op := Go.Op.call { callee := Go.Callee.builtin Go.Builtin.append, args := #[Go.Operand.tmp 80, Go.Operand.tmp 86], argTypes := #[40, 40] }, type := 40, pos := "ref.go:69", after := #[{ on := 11, ground := Go.Ground.data }, { on := 17, ground := Go.Ground.data }, { on := 11, ground := Go.Ground.chain }], guard := none }) rfl (fun K hK => ?_) AllReadyK.nil
            refine step_append_v8 rfl _ _ rfl U.heap.size _ _ (xs.take 0 ++ [v]) ?hnz79 rfl hown4 _ _ _ (xs.drop 0) ?hmz79 rfl ?hhz79 ?hsumz79 ?hbasez79 ?restz79
            case hnz79 => have := HN.out; have := HKN.out; rw [List.length_append, List.length_take, List.length_singleton]; omega
            case hmz79 => have := HN.out; have := HKN.out; rw [List.length_drop]; omega
            case hhz79 => exact (.inl (by have := HN.out; have := HKN.out; exact List.drop_eq_nil_of_le (by omega)))
            case hsumz79 => have := HKN.out; have := HNL.out; omega
            case hbasez79 => exact ScL.size (by (repeat (first | assumption | exact ScL.start _ | apply ScL.dr | apply ScL.alloc)))
            intro b5 c5 w7 hown5 hb5 hg5
            have hsc5 : ScL U w7 := ScL.grown (by (repeat (first | assumption | exact ScL.start _ | apply ScL.dr | apply ScL.alloc))) hb5
            refine hK.out _ _ (.inr (HSA.out _ (by (repeat (first | assumption | exact ScL.start _ | apply ScL.dr | apply ScL.alloc))))) (fun hHeld => ?_)
            have hHeld := hHeld.resolve_right (by decide)
            clear hK K
            try simp only [Act.put, List.setIfInBounds_toArray, List.set_cons_zero, List.set_cons_succ]
            have hpk5 := HXR.out.blk.below hsc5.out HXR.out.blk.lt
            have f5 := hpk5.frozen 3
            have e5 := hpk5.cell (i := 3) rfl
            rw [HN.out] at e5
            refine wpAnyK_take (i := 19) (oi := { dst := some 88, op := Go.Op.nilCheck (Go.Operand.tmp 69), type := 0, pos := "ref.go:69", after := #[{ on := 0, ground := Go.Ground.data }, { on := 0, ground := Go.Ground.phase }, { on := 1, ground := Go.Ground.phase }, { on := 2, ground := Go.Ground.phase }, { on := 3, ground := Go.Ground.phase }, { on := 4, ground := Go.Ground.phase }, { on := 5, ground := Go.Ground.phase }, { on := 6, ground := Go.Ground.phase }, { on := 7, ground := Go.Ground.phase }, { on := 8, ground := Go.Ground.phase }, { on := 9, ground := Go.Ground.phase }, { on := 10, ground := Go.Ground.phase }, { on := 11, ground := Go.Ground.phase }, { on := 12, ground := Go.Ground.phase }, { on := 13, ground := Go.Ground.phase }, { on := 14, ground := Go.Ground.phase }, { on := 15, ground := Go.Ground.phase }, { on := 16, ground := Go.Ground.phase }, { on := 17, ground := Go.Ground.phase }, { on := 18, ground := Go.Ground.phase }], guard := none }) (v := ?vq80) [20] rfl (by kernel_rfl) (by kernel_rfl) (by kernel_rfl) (by kernel_rfl) (by kernel_rfl) (fun _ _ _ h => h) (Or.inl ⟨by rfl, ?hyq80⟩) (by assumption) ?restq80
            case hyq80 => (intro w0 hSw; (try dsimp only at hSw); go_simp; try with_reducible rfl)
            simp only [Act.put, List.setIfInBounds_toArray, List.set_cons_zero, List.set_cons_succ]
            refine wpAnyK_take (i := 20) (oi := { dst := some 89, op := Go.Op.fieldAddr 51 (Go.Operand.tmp 88) 2, type := 0, pos := "ref.go:69", after := #[{ on := 19, ground := Go.Ground.data }, { on := 0, ground := Go.Ground.phase }, { on := 1, ground := Go.Ground.phase }, { on := 2, ground := Go.Ground.phase }, { on := 3, ground := Go.Ground.phase }, { on := 4, ground := Go.Ground.phase }, { on := 5, ground := Go.Ground.phase }, { on := 6, ground := Go.Ground.phase }, { on := 7, ground := Go.Ground.phase }, { on := 8, ground := Go.Ground.phase }, { on := 9, ground := Go.Ground.phase }, { on := 10, ground := Go.Ground.phase }, { on := 11, ground := Go.Ground.phase }, { on := 12, ground := Go.Ground.phase }, { on := 13, ground := Go.Ground.phase }, { on := 14, ground := Go.Ground.phase }, { on := 15, ground := Go.Ground.phase }, { on := 16, ground := Go.Ground.phase }, { on := 17, ground := Go.Ground.phase }, { on := 18, ground := Go.Ground.phase }], guard := none }) (v := ?vq81) [] rfl (by kernel_rfl) (by kernel_rfl) (by kernel_rfl) (by kernel_rfl) (by kernel_rfl) (fun _ _ _ h => h) (Or.inl ⟨by rfl, ?hyq81⟩) (by assumption) ?restq81
            case hyq81 => (intro w0 hSw; (try dsimp only at hSw); go_simp; try with_reducible rfl)
            simp only [Act.put, List.setIfInBounds_toArray, List.set_cons_zero, List.set_cons_succ]
            refine wpAnyK_ready (rs := [21]) (by kernel_rfl) (by simp) ?_
            refine AllReadyK.cons (o := { dst := none, op := Go.Op.store 40 (Go.Operand.tmp 89) (Go.Operand.tmp 87), type := 0, pos := "ref.go:69", after := #[{ on := 20, ground := Go.Ground.data }, { on := 18, ground := Go.Ground.data }, { on := 18, ground := Go.Ground.chain }, { on := 0, ground := Go.Ground.phase }, { on := 1, ground := Go.Ground.phase }, { on := 2, ground := Go.Ground.phase }, { on := 3, ground := Go.Ground.phase }, { on := 4, ground := Go.Ground.phase }, { on := 5, ground := Go.Ground.phase }, { on := 6, ground := Go.Ground.phase }, { on := 7, ground := Go.Ground.phase }, { on := 8, ground := Go.Ground.phase }, { on := 9, ground := Go.Ground.phase }, { on := 10, ground := Go.Ground.phase }, { on := 11, ground := Go.Ground.phase }, { on := 12, ground := Go.Ground.phase }, { on := 13, ground := Go.Ground.phase }, { on := 14, ground := Go.Ground.phase }, { on := 15, ground := Go.Ground.phase }, { on := 16, ground := Go.Ground.phase }, { on := 17, ground := Go.Ground.phase }, { on := 18, ground := Go.Ground.phase }], guard := none }) rfl (fun K hK => ?_) AllReadyK.nil
            go_simp
            refine hK.out _ _ (.inl rfl) (fun _ => ?_)
            clear hK K
            try simp only [Act.put, List.setIfInBounds_toArray, List.set_cons_zero, List.set_cons_succ]
            refine wpAnyK_done (by kernel_rfl) ?_ _
            refine NoPanic.normal ?_
            have HEND := hid (HFIN.out w7 _ b5 c5 0 _ hsc5 HKE.out (by have := HKN.out; omega) hown5 rfl)
            clear hown3 hown4 hown5 hsc3 hsc4 hsc5 hb3 hb4 hb5 hg3 hg4 hg5 hHeld hs0 f5 e5 hpk5
            go_wp2
            all_goals (go_ret; exact ⟨rfl, HEND.out⟩)
        · go_simp
          refine hK.out _ _ (.inr (HSA.out _ (by (repeat (first | assumption | exact ScL.start _ | apply ScL.dr | apply ScL.alloc))))) (fun hHeld => ?_)
          have hHeld := hHeld.resolve_right (by decide)
          clear hK K
          try simp only [Act.put, List.setIfInBounds_toArray, List.set_cons_zero, List.set_cons_succ]
          refine wpAnyK_ready (rs := [1]) (by kernel_rfl) (by simp) ?_
          refine AllReadyK.cons (o := { dst := some 70, op := Go.Op.buildSlice 40 0 #[], type := 40, pos := "ref.go:69", after := #[], guard := none }) rfl (fun K hK => ?_) AllReadyK.nil
          go_simp
          refine hK.out _ _ (.inr (HSA.out _ (by (repeat (first | assumption | exact ScL.start _ | apply ScL.dr | apply ScL.alloc))))) (fun hHeld => ?_)
          have hHeld := hHeld.resolve_right (by decide)
          clear hK K
          try simp only [Act.put, List.setIfInBounds_toArray, List.set_cons_zero, List.set_cons_succ]
          refine wpAnyK_ready (rs := [8]) (by kernel_rfl) (by simp) ?_
          refine AllReadyK.cons (o := { dst := some 77, op := Go.Op.call { callee := Go.Callee.builtin Go.Builtin.append, args := #[Go.Operand.tmp 70, Go.Operand.tmp 76], argTypes := #[40, 40] }, type := 40, pos := "ref.go:69", after := #[{ on := 1, ground := Go.Ground.data }, { on := 7, ground := Go.Ground.data }], guard := none }) rfl (fun K hK => ?_) AllReadyK.nil
          refine step_copy_v8 rfl _ _ rfl U.heap.size _ rfl ?ownz86 _ _ _ (xs.take 0) ?hmz86 rfl ?hhz86 ?hsumz86 ?hbasez86 ?restz86
          case ownz86 => first | exact ownV8_made U _ (Nat.le_refl _) | exact (ownV8_made U _ (Nat.le_refl _)).alloc _ | exact ownV8_made2 U _ _ (Nat.le_refl _)
          case hmz86 => have := HN.out; have := HKN.out; rw [List.length_take]; omega
          case hhz86 => first | exact (HHX.out _ (by (repeat (first | assumption | exact ScL.start _ | apply ScL.dr | apply ScL.alloc)))).take 0 | exact (.inl (by have := HN.out; have := HKN.out; exact List.take_eq_nil_iff.2 (.inl (by omega))))
          case hsumz86 => have := HKN.out; have := HNL.out; omega
          case hbasez86 => exact ScL.size (by (repeat (first | assumption | exact ScL.start _ | apply ScL.dr | apply ScL.alloc)))
          intro b3 c3 w5 hown3 hb3 hg3
          have hsc3 : ScL U w5 := ScL.grown (by (repeat (first | assumption | exact ScL.start _ | apply ScL.dr | apply ScL.alloc))) hb3
          refine hK.out _ _ (.inr (HSA.out _ (by (repeat (first | assumption | exact ScL.start _ | apply ScL.dr | apply ScL.alloc))))) (fun hHeld => ?_)
          have hHeld := hHeld.resolve_right (by decide)
          clear hK K
          try simp only [Act.put, List.setIfInBounds_toArray, List.set_cons_zero, List.set_cons_succ]
          refine wpAnyK_ready (rs := [11]) (by kernel_rfl) (by simp) ?_
          refine AllReadyK.cons (o := { dst := some 80, op := Go.Op.call { callee := Go.Callee.builtin Go.Builtin.append, args := #[Go.Operand.tmp 77, Go.Operand.tmp 79], argTypes := #[40, 40] }, type := 40, pos := "ref.go:69", after := #[{ on := 8, ground := Go.Ground.data }, { on := 10, ground := Go.Ground.data }, { on := 8, ground := Go.Ground.chain }], guard := none }) rfl (fun K hK => ?_) AllReadyK.nil
          refine step_append_v8 rfl _ _ rfl U.heap.size _ _ (xs.take 0) ?hnz87 rfl (hown3) _ 1 1 [v] rfl rfl ?hhz87 ?hsumz87 ?hbasez87 ?restz87
          case hnz87 => have := HN.out; have := HKN.out; rw [List.length_take]; omega
          case hhz87 => exact held_grownV8 (show HeldV8 _ (some ⟨U.heap.size, 0, none⟩) [v] from HHA.out U) hg3 (by simp)
          case hsumz87 => have := HKN.out; have := HNL.out; omega
          case hbasez87 => exact ScL.size (by (repeat (first | assumption | exact ScL.start _ | apply ScL.dr | apply ScL.alloc)))
          intro b4 c4 w6 hown4 hb4 hg4
          have hsc4 : ScL U w6 := ScL.grown (by (repeat (first | assumption | exact ScL.start _ | apply ScL.dr | apply ScL.alloc))) hb4
          refine hK.out _ _ (.inr (HSA.out _ (by (repeat (first | assumption | exact ScL.start _ | apply ScL.dr | apply ScL.alloc))))) (fun hHeld => ?_)
          have hHeld := hHeld.resolve_right (by decide)
          clear hK K
          try simp only [Act.put, List.setIfInBounds_toArray, List.set_cons_zero, List.set_cons_succ]
          refine wpAnyK_ready (rs := [18]) (by kernel_rfl) (by simp) ?_
          refine AllReadyK.cons (o := { dst := some 87, op := Go.Op.call { callee := Go.Callee.builtin Go.Builtin.append, args := #[Go.Operand.tmp 80, Go.Operand.tmp 86], argTypes := #[40, 40] }, type := 40, pos := "ref.go:69", after := #[{ on := 11, ground := Go.Ground.data }, { on := 17, ground := Go.Ground.data }, { on := 11, ground := Go.Ground.chain }], guard := none }) rfl (fun K hK => ?_) AllReadyK.nil
          refine step_append_v8 rfl _ _ rfl U.heap.size _ _ (xs.take 0 ++ [v]) ?hnz88 rfl hown4 _ _ _ (xs.drop 0) ?hmz88 rfl ?hhz88 ?hsumz88 ?hbasez88 ?restz88
          case hnz88 => have := HN.out; have := HKN.out; rw [List.length_append, List.length_take, List.length_singleton]; omega
          case hmz88 => have := HN.out; have := HKN.out; rw [List.length_drop]; omega
          case hhz88 => exact (.inl (by have := HN.out; have := HKN.out; exact List.drop_eq_nil_of_le (by omega)))
          case hsumz88 => have := HKN.out; have := HNL.out; omega
          case hbasez88 => exact ScL.size (by (repeat (first | assumption | exact ScL.start _ | apply ScL.dr | apply ScL.alloc)))
          intro b5 c5 w7 hown5 hb5 hg5
          have hsc5 : ScL U w7 := ScL.grown (by (repeat (first | assumption | exact ScL.start _ | apply ScL.dr | apply ScL.alloc))) hb5
          refine hK.out _ _ (.inr (HSA.out _ (by (repeat (first | assumption | exact ScL.start _ | apply ScL.dr | apply ScL.alloc))))) (fun hHeld => ?_)
          have hHeld := hHeld.resolve_right (by decide)
          clear hK K
          try simp only [Act.put, List.setIfInBounds_toArray, List.set_cons_zero, List.set_cons_succ]
          have hpk5 := HXR.out.blk.below hsc5.out HXR.out.blk.lt
          have f5 := hpk5.frozen 3
          have e5 := hpk5.cell (i := 3) rfl
          rw [HN.out] at e5
          refine wpAnyK_take (i := 19) (oi := { dst := some 88, op := Go.Op.nilCheck (Go.Operand.tmp 69), type := 0, pos := "ref.go:69", after := #[{ on := 0, ground := Go.Ground.data }, { on := 0, ground := Go.Ground.phase }, { on := 1, ground := Go.Ground.phase }, { on := 2, ground := Go.Ground.phase }, { on := 3, ground := Go.Ground.phase }, { on := 4, ground := Go.Ground.phase }, { on := 5, ground := Go.Ground.phase }, { on := 6, ground := Go.Ground.phase }, { on := 7, ground := Go.Ground.phase }, { on := 8, ground := Go.Ground.phase }, { on := 9, ground := Go.Ground.phase }, { on := 10, ground := Go.Ground.phase }, { on := 11, ground := Go.Ground.phase }, { on := 12, ground := Go.Ground.phase }, { on := 13, ground := Go.Ground.phase }, { on := 14, ground := Go.Ground.phase }, { on := 15, ground := Go.Ground.phase }, { on := 16, ground := Go.Ground.phase }, { on := 17, ground := Go.Ground.phase }, { on := 18, ground := Go.Ground.phase }], guard := none }) (v := ?vq89) [20] rfl (by kernel_rfl) (by kernel_rfl) (by kernel_rfl) (by kernel_rfl) (by kernel_rfl) (fun _ _ _ h => h) (Or.inl ⟨by rfl, ?hyq89⟩) (by assumption) ?restq89
          case hyq89 => (intro w0 hSw; (try dsimp only at hSw); go_simp; try with_reducible rfl)
          simp only [Act.put, List.setIfInBounds_toArray, List.set_cons_zero, List.set_cons_succ]
          refine wpAnyK_take (i := 20) (oi := { dst := some 89, op := Go.Op.fieldAddr 51 (Go.Operand.tmp 88) 2, type := 0, pos := "ref.go:69", after := #[{ on := 19, ground := Go.Ground.data }, { on := 0, ground := Go.Ground.phase }, { on := 1, ground := Go.Ground.phase }, { on := 2, ground := Go.Ground.phase }, { on := 3, ground := Go.Ground.phase }, { on := 4, ground := Go.Ground.phase }, { on := 5, ground := Go.Ground.phase }, { on := 6, ground := Go.Ground.phase }, { on := 7, ground := Go.Ground.phase }, { on := 8, ground := Go.Ground.phase }, { on := 9, ground := Go.Ground.phase }, { on := 10, ground := Go.Ground.phase }, { on := 11, ground := Go.Ground.phase }, { on := 12, ground := Go.Ground.phase }, { on := 13, ground := Go.Ground.phase }, { on := 14, ground := Go.Ground.phase }, { on := 15, ground := Go.Ground.phase }, { on := 16, ground := Go.Ground.phase }, { on := 17, ground := Go.Ground.phase }, { on := 18, ground := Go.Ground.phase }], guard := none }) (v := ?vq90) [] rfl (by kernel_rfl) (by kernel_rfl) (by kernel_rfl) (by kernel_rfl) (by kernel_rfl) (fun _ _ _ h => h) (Or.inl ⟨by rfl, ?hyq90⟩) (by assumption) ?restq90
          case hyq90 => (intro w0 hSw; (try dsimp only at hSw); go_simp; try with_reducible rfl)
          simp only [Act.put, List.setIfInBounds_toArray, List.set_cons_zero, List.set_cons_succ]
          refine wpAnyK_ready (rs := [21]) (by kernel_rfl) (by simp) ?_
          refine AllReadyK.cons (o := { dst := none, op := Go.Op.store 40 (Go.Operand.tmp 89) (Go.Operand.tmp 87), type := 0, pos := "ref.go:69", after := #[{ on := 20, ground := Go.Ground.data }, { on := 18, ground := Go.Ground.data }, { on := 18, ground := Go.Ground.chain }, { on := 0, ground := Go.Ground.phase }, { on := 1, ground := Go.Ground.phase }, { on := 2, ground := Go.Ground.phase }, { on := 3, ground := Go.Ground.phase }, { on := 4, ground := Go.Ground.phase }, { on := 5, ground := Go.Ground.phase }, { on := 6, ground := Go.Ground.phase }, { on := 7, ground := Go.Ground.phase }, { on := 8, ground := Go.Ground.phase }, { on := 9, ground := Go.Ground.phase }, { on := 10, ground := Go.Ground.phase }, { on := 11, ground := Go.Ground.phase }, { on := 12, ground := Go.Ground.phase }, { on := 13, ground := Go.Ground.phase }, { on := 14, ground := Go.Ground.phase }, { on := 15, ground := Go.Ground.phase }, { on := 16, ground := Go.Ground.phase }, { on := 17, ground := Go.Ground.phase }, { on := 18, ground := Go.Ground.phase }], guard := none }) rfl (fun K hK => ?_) AllReadyK.nil
          go_simp
          refine hK.out _ _ (.inl rfl) (fun _ => ?_)
          clear hK K
          try simp only [Act.put, List.setIfInBounds_toArray, List.set_cons_zero, List.set_cons_succ]
          refine wpAnyK_done (by kernel_rfl) ?_ _
          refine NoPanic.normal ?_
          have HEND := hid (HFIN.out w7 _ b5 c5 0 _ hsc5 HKE.out (by have := HKN.out; omega) hown5 rfl)
          clear hown3 hown4 hown5 hsc3 hsc4 hsc5 hb3 hb4 hb5 hg3 hg4 hg5 hHeld hs0 f5 e5 hpk5
          go_wp2
          all_goals (go_ret; exact ⟨rfl, HEND.out⟩)
end Go.Proofs.YtfmnbehopdmahaaGreat
