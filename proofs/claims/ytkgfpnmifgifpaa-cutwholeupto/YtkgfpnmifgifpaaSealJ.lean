/-
  The document's Check of seals.
-/
import Derived.Test.YtkgfpnmifgifpaaSealI
import Derived.Test.YtkgfpnmifgifpaaCartSn
import Derived.Deep.RegionWith
namespace Go.Proofs.Ytkgfpnmifgifpaa
open Go.RowKit Go.Maps

theorem HeldSl.take {w : World} {ao : Option Addr} {xs : List SlM} (h : HeldSl w ao xs) (k : Nat) : HeldSl w ao (xs.take k) := by
  refine ⟨fun x hx => h.1 x (List.mem_of_mem_take hx), ?_⟩
  rcases h.2 with rfl | ⟨b, off, h1, h2, h3⟩
  · left; simp
  · right
    refine ⟨b, off, h1, h2, fun j hj c u hu => ?_⟩
    have hj' : j < xs.length := by rw [List.length_take] at hj; omega
    rw [List.getElem_take] at hu
    exact h3 j hj' c u hu
theorem run_cutS (W : World) (a : Option Addr) (len cap n : Nat) (hh : n ≤ cap) : (Instr.slice 23 (.slice a len cap) none (some (.int .i64 (n : Int))) none).run Try.prog W = .ok (.slice a n cap) W := by
  have ht' : Try.prog.underlying 23 = some (.slice (Try.prog.elem 23)) := by simp [Program.elem, Try.underlying23]
  have he : Try.prog.elem 23 = 50 := by simp [Program.elem, Try.underlying23]
  have hz : (Go.sizeOf 50).run Try.prog W = .ok 4 W := by
    obtain ⟨i, hi, _, hs, _⟩ := info_parts Try.infoSl
    simp [Go.sizeOf, typeInfo, hi, hs]
  rw [run_slice_h W 23 _ _ _ ht' .i64 _ (by omega) (by omega), he, hz]
  have hadd : ∀ p : Addr, p.add 0 = p := by
    intro p
    obtain ⟨b, o, s⟩ := p
    cases s <;> simp [Addr.add]
  cases a <;> simp [Result.andThen, sliced, hadd]
/-- Each seal may be, and says how many of its cart lie ahead. -/
def FollowTo (ss : List SlM) (k : Nat) : Prop := ∀ a (ha : a < ss.length), a < k → RightSl ss[a].e = true ∧ ss[a].e.ep = (ownOf ss[a].e.cart (ss.take a)).length
def CheckP (w : World) (ss : List SlM) (e : Ending) (w' : World) : Prop := (∃ i c : Int, e = .returned (.tuple #[.int .i64 i, .int .i64 c]) ∧ (c = 0 ∧ FollowTo ss ss.length ∨ c = 120 ∧ ¬ FollowTo ss ss.length)) ∧ Below w.heap.size w w'
set_option maxRecDepth 1000000 in
set_option maxHeartbeats 4000000 in
theorem rcheck_any (w : World) (ao : Option Addr) (cap : Nat) (xs : List SlM) (n : Nat) (hn : xs.length = n) (h : HeldSl w ao xs) (hl : n ≤ 100000000) (hcap : n ≤ cap) :
    Calls Try.prog 8 #[.slice ao n cap] w (CheckP w xs) := by
  have HN := hid hn
  have H := hid h
  clear hn h
  go_enter Try.func8, Try.ntmps8
  go_wp2
  go_loopw [4] (fun x wr => ∃ k : Nat, k ≤ n ∧ x = .int .i64 k ∧ Hid (FollowTo xs k ∧ Below w.heap.size w wr)) (fun x _ => n - (intOf x).toNat)
  case atStart => exact ⟨0, Nat.zero_le _, rfl, fun a _ ha => absurd ha (Nat.not_lt_zero _), Below.refl _ _⟩
  case round =>
    obtain ⟨k, hk, rfl, HR⟩ := hrel
    by_cases hlt : k < n
    · have hlt' : (k : Int) < (n : Int) := by omega
      have hkx : Hid (k < xs.length) := (by rw [HN.out]; exact hlt : k < xs.length)
      obtain ⟨bb, off, hao, hbb, g0, g1, g2, g3⟩ := (H.out.below HR.out.2).at hkx.out
      have HKM : Hid (k + 1 ≤ n) := (by omega : k + 1 ≤ n)
      have HLB := hid hbb
      have HOX := hid ((H.out.1 _ (List.getElem_mem hkx.out)).below HR.out.2)
      have HTL : Hid ((xs.take k).length = k) := by show _ = _; rw [List.length_take]; have := hkx.out; omega
      have hcut := fun V => run_cutS V ao n cap k (by omega)
      have HEP := hid (fun V (hV : Sc wr V) nm => repoch_any V ao cap (xs.take k) k HTL.out (((H.out.below HR.out.2).below hV.out).take k) (by omega) nm)
      have HRS := hid (fun V (hV : Sc wr V) => (rseal_any V (xs[k]'hkx.out) (HOX.out.below hV.out)).mono (fun e w' (hh : _ ∧ _) => And.intro hh.1 (hV.go hh.2)))
      have HNX : Hid (RightSl (xs[k]'hkx.out).e = true → (xs[k]'hkx.out).e.ep = (ownOf (xs[k]'hkx.out).e.cart (xs.take k)).length → FollowTo xs (k + 1)) := fun h1 h2 a ha hak => by
        by_cases e : a = k
        · subst e
          exact ⟨h1, h2⟩
        · exact HR.out.1 a ha (by omega)
      subst hao
      have HNF : Hid (FollowTo xs xs.length → RightSl (xs[k]'hkx.out).e = true ∧ (xs[k]'hkx.out).e.ep = (ownOf (xs[k]'hkx.out).e.cart (xs.take k)).length) := fun h => h k hkx.out hkx.out
      obtain ⟨X, HX⟩ : ∃ X, Hid (xs[k]'hkx.out = X) := ⟨_, hid rfl⟩
      rw [HX.out] at g0 g1 g2 g3 HRS HNX HNF
      clear HX HOX hbb
      obtain ⟨⟨tok, cart, ep, cut⟩, ao1, cap1⟩ := X
      obtain ⟨XN, HXN⟩ : ∃ m, Hid (cut.length = m) := ⟨_, hid rfl⟩
      simp only [SlM.val] at g0 g1 g2 g3 HRS HNX HNF
      rw [HXN.out] at g3 HRS
      obtain ⟨r, HRR⟩ : ∃ r, Hid (RightSl ⟨tok, cart, ep, cut⟩ = r) := ⟨_, hid rfl⟩
      rw [HRR.out] at HRS HNX HNF
      obtain ⟨z, HZ⟩ : ∃ z, Hid ((ownOf cart (xs.take k)).length = z) := ⟨_, hid rfl⟩
      have HEC := hid (fun V hV => HEP.out V hV cart)
      rw [HZ.out] at HEC HNX HNF
      have HCE : Hid (∀ V, Sc wr V → V.cell? ⟨bb, off + k * 4, none⟩ = some (.string tok) ∧ V.cell? ⟨bb, off + k * 4 + 1, none⟩ = some (.string cart) ∧ V.cell? ⟨bb, off + k * 4 + 2, none⟩ = some (.int .i64 ep) ∧ V.cell? ⟨bb, off + k * 4 + 3, none⟩ = some (.slice ao1 XN cap1)) := fun V hV => ⟨(hV.out.cell (p := ⟨bb, off + k * 4, none⟩) HLB.out).trans g0, (hV.out.cell (p := ⟨bb, off + k * 4 + 1, none⟩) HLB.out).trans g1, (hV.out.cell (p := ⟨bb, off + k * 4 + 2, none⟩) HLB.out).trans g2, (hV.out.cell (p := ⟨bb, off + k * 4 + 3, none⟩) HLB.out).trans g3⟩
      have HSA : Hid (∀ V, Sc wr V → (Sc wr V ∧ V.cell? ⟨bb, off + k * 4, none⟩ = some (.string tok) ∧ V.cell? ⟨bb, off + k * 4 + 1, none⟩ = some (.string cart) ∧ V.cell? ⟨bb, off + k * 4 + 2, none⟩ = some (.int .i64 ep) ∧ V.cell? ⟨bb, off + k * 4 + 3, none⟩ = some (.slice ao1 XN cap1))) := fun V hV => ⟨hV, HCE.out V hV⟩
      have hsc0 := Sc.start wr
      clear HEP HRR HZ HXN
      cases r
      · go_wp2
        refine wp_region_noPanic ?_
        refine wp_region_held_drew (S := (fun V => Sc wr V ∧ V.cell? ⟨bb, off + k * 4, none⟩ = some (.string tok) ∧ V.cell? ⟨bb, off + k * 4 + 1, none⟩ = some (.string cart) ∧ V.cell? ⟨bb, off + k * 4 + 2, none⟩ = some (.int .i64 ep) ∧ V.cell? ⟨bb, off + k * 4 + 3, none⟩ = some (.slice ao1 XN cap1))) (by kernel_rfl) (HSA.out _ (Sc.dr0 _)) (fun hHeld => ?_)
        refine wpAnyH_take (i := 0) (oi := { dst := some 11, op := Op.move (Operand.tmp 0), type := 23, pos := "ref.go:25", after := #[], guard := none }) (v := ?v0) rfl (by kernel_rfl) (by kernel_rfl) (by kernel_rfl) (fun _ _ _ h => h) (Or.inl ⟨by rfl, ?hy0⟩) (by assumption) ?rest0
        case hy0 => (intro w0 hSw; (try dsimp only at hSw); go_simp; try with_reducible rfl)
        try simp only [Act.put, List.setIfInBounds_toArray, List.set_cons_zero, List.set_cons_succ]
        refine wpAnyH_take (i := 1) (oi := { dst := some 12, op := Op.move (Operand.tmp 4), type := 3, pos := "ref.go:25", after := #[], guard := none }) (v := ?v1) rfl (by kernel_rfl) (by kernel_rfl) (by kernel_rfl) (fun _ _ _ h => h) (Or.inl ⟨by rfl, ?hy1⟩) (by assumption) ?rest1
        case hy1 => (intro w0 hSw; (try dsimp only at hSw); go_simp; try with_reducible rfl)
        try simp only [Act.put, List.setIfInBounds_toArray, List.set_cons_zero, List.set_cons_succ]
        refine wpAnyH_take (i := 2) (oi := { dst := some 13, op := Op.indexAddr 23 (Operand.tmp 11) (Operand.tmp 12), type := 0, pos := "ref.go:25", after := #[{ on := 0, ground := Ground.data }, { on := 1, ground := Ground.data }], guard := none }) (v := ?v2) rfl (by kernel_rfl) (by kernel_rfl) (by kernel_rfl) (fun _ _ _ h => h) (Or.inl ⟨by rfl, ?hy2⟩) (by assumption) ?rest2
        case hy2 => (intro w0 hSw; (try dsimp only at hSw); go_simp; try with_reducible rfl)
        try simp only [Act.put, List.setIfInBounds_toArray, List.set_cons_zero, List.set_cons_succ]
        refine wpAnyH_take (i := 3) (oi := { dst := some 14, op := Op.load 50 (Operand.tmp 13), type := 50, pos := "ref.go:25", after := #[{ on := 2, ground := Ground.data }], guard := none }) (v := ?v3) rfl (by kernel_rfl) (by kernel_rfl) (by kernel_rfl) (fun _ _ _ h => h) (Or.inl ⟨by rfl, ?hy3⟩) (by assumption) ?rest3
        case hy3 => (intro w0 hSw; (try dsimp only at hSw); go_simp; try with_reducible rfl)
        try simp only [Act.put, List.setIfInBounds_toArray, List.set_cons_zero, List.set_cons_succ]
        refine wpAnyH_ready (rs := [4]) (by kernel_rfl) (by simp) ?_
        refine AllReadyH.cons (o := { dst := some 15, op := Op.call { callee := Callee.value (Operand.func 23), args := #[Operand.tmp 14], argTypes := #[50] }, type := 4, pos := "ref.go:25", after := #[{ on := 3, ground := Ground.data }], guard := none }) rfl (fun K hK => ?_) AllReadyH.nil
        go_simp
        go_at_call 23; refine (HRS.out _ (by (repeat (first | assumption | exact Sc.start _ | apply Sc.dr)))).mono ?_; rintro e w5 ⟨rfl, hs5⟩
        refine hK.out _ _ (HSA.out _ hs5) (fun hHeld => ?_)
        clear hK K
        try simp only [Act.put, List.setIfInBounds_toArray, List.set_cons_zero, List.set_cons_succ]
        refine wpAnyH_take (i := 5) (oi := { dst := some 16, op := Op.unOp UnOp.not 4 (Operand.tmp 15), type := 4, pos := "ref.go:25", after := #[{ on := 4, ground := Ground.data }], guard := none }) (v := ?v5) rfl (by kernel_rfl) (by kernel_rfl) (by kernel_rfl) (fun _ _ _ h => h) (Or.inl ⟨by rfl, ?hy5⟩) (by assumption) ?rest5
        case hy5 => (intro w0 hSw; (try dsimp only at hSw); go_simp; try with_reducible rfl)
        try simp only [Act.put, List.setIfInBounds_toArray, List.set_cons_zero, List.set_cons_succ]
        refine wpAnyH_take (i := 6) (oi := { dst := some 17, op := Op.move (Operand.tmp 16), type := 4, pos := "ref.go:25", after := #[{ on := 5, ground := Ground.data }, { on := 4, ground := Ground.chain }], guard := none }) (v := ?v6) rfl (by kernel_rfl) (by kernel_rfl) (by kernel_rfl) (fun _ _ _ h => h) (Or.inl ⟨by rfl, ?hy6⟩) (by assumption) ?rest6
        case hy6 => (intro w0 hSw; (try dsimp only at hSw); go_simp; try with_reducible rfl)
        try simp only [Act.put, List.setIfInBounds_toArray, List.set_cons_zero, List.set_cons_succ]
        refine wpAnyH_take (i := 7) (oi := { dst := some 18, op := Op.move (Operand.tmp 0), type := 23, pos := "ref.go:25", after := #[{ on := 6, ground := Ground.guard }], guard := some (6, false) }) (v := undef) rfl (by kernel_rfl) (by kernel_rfl) (by kernel_rfl) (fun _ _ _ h => h) (Or.inr ⟨by rfl, rfl⟩) (by assumption) ?_
        try simp only [Act.put, List.setIfInBounds_toArray, List.set_cons_zero, List.set_cons_succ]
        refine wpAnyH_take (i := 8) (oi := { dst := some 19, op := Op.move (Operand.tmp 4), type := 3, pos := "ref.go:25", after := #[{ on := 6, ground := Ground.guard }], guard := some (6, false) }) (v := undef) rfl (by kernel_rfl) (by kernel_rfl) (by kernel_rfl) (fun _ _ _ h => h) (Or.inr ⟨by rfl, rfl⟩) (by assumption) ?_
        try simp only [Act.put, List.setIfInBounds_toArray, List.set_cons_zero, List.set_cons_succ]
        refine wpAnyH_take (i := 9) (oi := { dst := some 20, op := Op.indexAddr 23 (Operand.tmp 18) (Operand.tmp 19), type := 0, pos := "ref.go:25", after := #[{ on := 7, ground := Ground.data }, { on := 8, ground := Ground.data }, { on := 6, ground := Ground.guard }], guard := some (6, false) }) (v := undef) rfl (by kernel_rfl) (by kernel_rfl) (by kernel_rfl) (fun _ _ _ h => h) (Or.inr ⟨by rfl, rfl⟩) (by assumption) ?_
        try simp only [Act.put, List.setIfInBounds_toArray, List.set_cons_zero, List.set_cons_succ]
        refine wpAnyH_take (i := 10) (oi := { dst := some 21, op := Op.fieldAddr 50 (Operand.tmp 20) 2, type := 0, pos := "ref.go:25", after := #[{ on := 9, ground := Ground.data }, { on := 6, ground := Ground.guard }], guard := some (6, false) }) (v := undef) rfl (by kernel_rfl) (by kernel_rfl) (by kernel_rfl) (fun _ _ _ h => h) (Or.inr ⟨by rfl, rfl⟩) (by assumption) ?_
        try simp only [Act.put, List.setIfInBounds_toArray, List.set_cons_zero, List.set_cons_succ]
        refine wpAnyH_take (i := 11) (oi := { dst := some 22, op := Op.load 3 (Operand.tmp 21), type := 3, pos := "ref.go:25", after := #[{ on := 10, ground := Ground.data }, { on := 6, ground := Ground.guard }], guard := some (6, false) }) (v := undef) rfl (by kernel_rfl) (by kernel_rfl) (by kernel_rfl) (fun _ _ _ h => h) (Or.inr ⟨by rfl, rfl⟩) (by assumption) ?_
        try simp only [Act.put, List.setIfInBounds_toArray, List.set_cons_zero, List.set_cons_succ]
        refine wpAnyH_take (i := 12) (oi := { dst := some 23, op := Op.move (Operand.tmp 0), type := 23, pos := "ref.go:25", after := #[{ on := 6, ground := Ground.guard }], guard := some (6, false) }) (v := undef) rfl (by kernel_rfl) (by kernel_rfl) (by kernel_rfl) (fun _ _ _ h => h) (Or.inr ⟨by rfl, rfl⟩) (by assumption) ?_
        try simp only [Act.put, List.setIfInBounds_toArray, List.set_cons_zero, List.set_cons_succ]
        refine wpAnyH_take (i := 13) (oi := { dst := some 24, op := Op.move (Operand.tmp 4), type := 3, pos := "ref.go:25", after := #[{ on := 6, ground := Ground.guard }], guard := some (6, false) }) (v := undef) rfl (by kernel_rfl) (by kernel_rfl) (by kernel_rfl) (fun _ _ _ h => h) (Or.inr ⟨by rfl, rfl⟩) (by assumption) ?_
        try simp only [Act.put, List.setIfInBounds_toArray, List.set_cons_zero, List.set_cons_succ]
        refine wpAnyH_take (i := 14) (oi := { dst := some 25, op := Op.slice 23 (Operand.tmp 23) none (some (Operand.tmp 24)) none, type := 23, pos := "ref.go:25", after := #[{ on := 12, ground := Ground.data }, { on := 13, ground := Ground.data }, { on := 6, ground := Ground.guard }], guard := some (6, false) }) (v := undef) rfl (by kernel_rfl) (by kernel_rfl) (by kernel_rfl) (fun _ _ _ h => h) (Or.inr ⟨by rfl, rfl⟩) (by assumption) ?_
        try simp only [Act.put, List.setIfInBounds_toArray, List.set_cons_zero, List.set_cons_succ]
        refine wpAnyH_take (i := 15) (oi := { dst := some 26, op := Op.move (Operand.tmp 0), type := 23, pos := "ref.go:25", after := #[{ on := 6, ground := Ground.guard }], guard := some (6, false) }) (v := undef) rfl (by kernel_rfl) (by kernel_rfl) (by kernel_rfl) (fun _ _ _ h => h) (Or.inr ⟨by rfl, rfl⟩) (by assumption) ?_
        try simp only [Act.put, List.setIfInBounds_toArray, List.set_cons_zero, List.set_cons_succ]
        refine wpAnyH_take (i := 16) (oi := { dst := some 27, op := Op.move (Operand.tmp 4), type := 3, pos := "ref.go:25", after := #[{ on := 6, ground := Ground.guard }], guard := some (6, false) }) (v := undef) rfl (by kernel_rfl) (by kernel_rfl) (by kernel_rfl) (fun _ _ _ h => h) (Or.inr ⟨by rfl, rfl⟩) (by assumption) ?_
        try simp only [Act.put, List.setIfInBounds_toArray, List.set_cons_zero, List.set_cons_succ]
        refine wpAnyH_take (i := 17) (oi := { dst := some 28, op := Op.indexAddr 23 (Operand.tmp 26) (Operand.tmp 27), type := 0, pos := "ref.go:25", after := #[{ on := 15, ground := Ground.data }, { on := 16, ground := Ground.data }, { on := 6, ground := Ground.guard }], guard := some (6, false) }) (v := undef) rfl (by kernel_rfl) (by kernel_rfl) (by kernel_rfl) (fun _ _ _ h => h) (Or.inr ⟨by rfl, rfl⟩) (by assumption) ?_
        try simp only [Act.put, List.setIfInBounds_toArray, List.set_cons_zero, List.set_cons_succ]
        refine wpAnyH_take (i := 18) (oi := { dst := some 29, op := Op.fieldAddr 50 (Operand.tmp 28) 1, type := 0, pos := "ref.go:25", after := #[{ on := 17, ground := Ground.data }, { on := 6, ground := Ground.guard }], guard := some (6, false) }) (v := undef) rfl (by kernel_rfl) (by kernel_rfl) (by kernel_rfl) (fun _ _ _ h => h) (Or.inr ⟨by rfl, rfl⟩) (by assumption) ?_
        try simp only [Act.put, List.setIfInBounds_toArray, List.set_cons_zero, List.set_cons_succ]
        refine wpAnyH_take (i := 19) (oi := { dst := some 30, op := Op.load 9 (Operand.tmp 29), type := 9, pos := "ref.go:25", after := #[{ on := 18, ground := Ground.data }, { on := 6, ground := Ground.guard }], guard := some (6, false) }) (v := undef) rfl (by kernel_rfl) (by kernel_rfl) (by kernel_rfl) (fun _ _ _ h => h) (Or.inr ⟨by rfl, rfl⟩) (by assumption) ?_
        try simp only [Act.put, List.setIfInBounds_toArray, List.set_cons_zero, List.set_cons_succ]
        refine wpAnyH_take (i := 20) (oi := { dst := some 31, op := Op.call { callee := Callee.value (Operand.func 24), args := #[Operand.tmp 25, Operand.tmp 30], argTypes := #[23, 9] }, type := 3, pos := "ref.go:25", after := #[{ on := 14, ground := Ground.data }, { on := 19, ground := Ground.data }, { on := 6, ground := Ground.chain }, { on := 6, ground := Ground.guard }], guard := some (6, false) }) (v := undef) rfl (by kernel_rfl) (by kernel_rfl) (by kernel_rfl) (fun _ _ _ h => h) (Or.inr ⟨by rfl, rfl⟩) (by assumption) ?_
        try simp only [Act.put, List.setIfInBounds_toArray, List.set_cons_zero, List.set_cons_succ]
        refine wpAnyH_take (i := 21) (oi := { dst := some 32, op := Op.binOp BinOp.neq 3 (Operand.tmp 22) (Operand.tmp 31) 3, type := 4, pos := "ref.go:25", after := #[{ on := 11, ground := Ground.data }, { on := 20, ground := Ground.data }, { on := 6, ground := Ground.guard }], guard := some (6, false) }) (v := undef) rfl (by kernel_rfl) (by kernel_rfl) (by kernel_rfl) (fun _ _ _ h => h) (Or.inr ⟨by rfl, rfl⟩) (by assumption) ?_
        try simp only [Act.put, List.setIfInBounds_toArray, List.set_cons_zero, List.set_cons_succ]
        refine wpAnyH_take (i := 22) (oi := { dst := some 33, op := Op.pick (Operand.tmp 17) (Operand.const (Value.bool true)) (Operand.tmp 32), type := 4, pos := "ref.go:25", after := #[{ on := 6, ground := Ground.data }, { on := 21, ground := Ground.data }], guard := none }) (v := ?v22) rfl (by kernel_rfl) (by kernel_rfl) (by kernel_rfl) (fun _ _ _ h => h) (Or.inl ⟨by rfl, ?hy22⟩) (by assumption) ?rest22
        case hy22 => (intro w0 hSw; (try dsimp only at hSw); go_simp; try with_reducible rfl)
        try simp only [Act.put, List.setIfInBounds_toArray, List.set_cons_zero, List.set_cons_succ]
        refine wpAnyH_done (by kernel_rfl) ?_ _
        refine NoPanic.normal ?_
        go_wp2
        go_ret2
        exact ⟨⟨_, 120, rfl, .inr ⟨rfl, fun hh => by have := (HNF.out hh).1; cases this⟩⟩, bt HR.out.2 hs5.out⟩
      · go_wp2
        go_region_held3 (fun V => Sc wr V ∧ V.cell? ⟨bb, off + k * 4, none⟩ = some (.string tok) ∧ V.cell? ⟨bb, off + k * 4 + 1, none⟩ = some (.string cart) ∧ V.cell? ⟨bb, off + k * 4 + 2, none⟩ = some (.int .i64 ep) ∧ V.cell? ⟨bb, off + k * 4 + 3, none⟩ = some (.slice ao1 XN cap1)) (first | (refine ⟨?_, ?_, ?_, ?_, ?_⟩ <;> assumption) | (refine HSA.out _ ?_; (repeat (first | assumption | exact Sc.start _ | apply Sc.dr)))) (first | (go_at_call 23; with_reducible refine (HRS.out _ (by (repeat (first | assumption | exact Sc.start _ | apply Sc.dr)))).mono ?_; rintro e w5 ⟨rfl, hs5⟩; have HS5 := hid hs5) | (go_at_call 24; with_reducible refine (HEC.out _ (by (repeat (first | assumption | exact Sc.start _ | apply Sc.dr)))).mono ?_; rintro e w6 ⟨rfl, rfl⟩))
        all_goals
          have HB5 : Hid (Below w.heap.size w w6) := bt HR.out.2 HS5.out.out
          by_cases he : ep = (z : Int)
          · have hbn : (ep != (z : Int)) = false := by simp [he]
            have HF := hid (HNX.out (by trivial) he)
            go_wp2
            go_roundw
            case rel => exact ⟨k + 1, HKM.out, by go_num, HF.out, HB5.out⟩
            case measure => simp [intOf]; have := HKM.out; omega
          · have hbn : (ep != (z : Int)) = true := by simp [he]
            go_wp2
            go_ret2
            exact ⟨⟨_, 120, rfl, .inr ⟨rfl, fun hh => he (HNF.out hh).2⟩⟩, HB5.out⟩
    · have hlt' : ¬ (k : Int) < (n : Int) := by omega
      go_wp2
      go_ret2
      exact ⟨⟨0, 0, rfl, .inl ⟨rfl, fun a ha _ => HR.out.1 a ha (by have := HN.out; omega)⟩⟩, HR.out.2⟩
end Go.Proofs.Ytkgfpnmifgifpaa
