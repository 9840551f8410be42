/-
  Package vv: Clone, Plain, joined, Merge, Meet; the document's Plain, Merge, Meet.
-/
import Derived.Test.YtjlompnjhmbhhaaGreatVvA
namespace Go.Proofs.YtjlompnjhmbhhaaGreat
open Go.RowKit Go.Maps

theorem eqlI_some (W : World) (ad : Addr) (n c : Nat) : (binOp .eql 23 (.slice (some ad) n c) (.slice none 0 0)).run Tryz.prog W = .ok (.bool false) W := by kernel_rfl
theorem eqlI_none (W : World) (n c : Nat) : (binOp .eql 23 (.slice none n c) (.slice none 0 0)).run Tryz.prog W = .ok (.bool true) W := by kernel_rfl
theorem HeldInt.of_none {w : World} {xs : List Int} (h : HeldInt w none xs) : xs = [] := by
  rcases h.2 with h0 | ⟨b, off, e, _⟩
  · exact h0
  · cases e
theorem hv_nil (w : World) : HV w none 0 [] := ⟨⟨fun x hx => (by cases hx), .inl rfl⟩, Nat.le_refl _, by simp⟩

/-- A call that answers a vector. -/
def AnsV (w : World) (xs : List Int) (e : Ending) (w' : World) : Prop := ∃ bo cp, e = .returned (.slice bo xs.length cp) ∧ HV w' bo cp xs ∧ Below w.heap.size w w'

theorem clone_any (w : World) (ao : Option Addr) (cap : Nat) (xs : List Int) (n : Nat) (hn : xs.length = n) (h : HV w ao cap xs) :
    Calls Tryz.prog 31 #[.slice ao n cap] w (AnsV w xs) := by
  cases ao with
  | none =>
    have he := fun W => eqlI_none W n cap
    have hx := h.held.of_none
    clear h
    go_enter Tryz.func31, Tryz.ntmps31
    go_wp2
    go_ret
    subst hx
    exact ⟨_, _, rfl, hv_nil _, Below.refl _ _⟩
  | some ad =>
    have he := fun W => eqlI_some W ad n cap
    have H := hid h
    have HN := hid hn
    clear h hn
    go_enter Tryz.func31, Tryz.ntmps31
    go_wp2_with (at_builtin; refine wpList_append_copy w rfl _ _ rfl rfl _ _ xs n HN.out rfl H.out.held H.out.few ?_; intro bo cp w' _ hv hb)
    have HV' := hid hv
    have HB := hid hb
    clear hv hb
    go_wp2
    go_ret
    exact ⟨bo, cp, by rw [HN.out]; rfl, HV'.out, HB.out⟩

theorem plain_any (w : World) (ao : Option Addr) (cap : Nat) (xs : List Int) (n : Nat) (hn : xs.length = n) (h : HV w ao cap xs) :
    Calls Tryz.prog 43 #[.slice ao n cap] w (AnsV w (plainOf xs)) := by
  have HC := hid (clone_any w ao cap xs n hn h)
  clear h
  go_enter Tryz.func43, Tryz.ntmps43
  go_wp2_with fail
  refine HC.out.mono ?_
  rintro e w1 ⟨bo, cp, rfl, hv, hb⟩
  have HU := hid (cut_any w1 bo cp xs _ rfl hv)
  obtain ⟨m, HM⟩ : ∃ m, Hid ((plainOf xs).length = m) := ⟨_, hid rfl⟩
  rw [HM.out] at HU
  have HB := hid hb
  clear hv hb HC hn
  generalize xs.length = n1 at HU ⊢
  go_wp2_with fail
  refine HU.out.mono ?_
  rintro e w2 ⟨⟨rfl, hv⟩, rfl⟩
  have HV' := hid hv
  clear hv HU
  go_wp2
  go_ret
  exact ⟨bo, m, by rw [HM.out]; rfl, HV'.out, HB.out⟩

set_option maxRecDepth 100000 in
theorem rplain_any (w : World) (ao : Option Addr) (cap : Nat) (xs : List Int) (n : Nat) (hn : xs.length = n) (h : HV w ao cap xs) :
    Calls Tryz.prog 51 #[.slice ao n cap] w (AnsV w (plainOf xs)) := by
  have HS := hid (fun m W (hm : m ≤ cap) => run_cut_h (P := Tryz.prog) W 23 3 Tryz.underlying23 Tryz.sizeI ao n cap m (m : Int) rfl hm)
  have hroom := h.room
  have hfew := h.few
  rw [hn] at hroom hfew
  have H := hid h.held
  have HN := hid hn
  have HT : Hid (HeldInt w ao (plainOf xs) ∧ (plainOf xs).length ≤ 17592186044416) := ⟨h.held.take _, by have := h.few; have := endOf_le xs; rw [plain_len]; omega⟩
  clear h hn
  go_enter Tryz.func51, Tryz.ntmps51
  go_wp2
  go_loop [3] (fun i => ∃ k : Nat, k ≤ n ∧ i = .int .i64 k ∧ Hid (endF (fun i => xs.getD i 0) k = endOf xs)) (fun i => (intOf i).toNat)
  case atStart => exact ⟨n, Nat.le_refl _, rfl, by show _ = _; rw [endOf, HN.out]⟩
  case round =>
    obtain ⟨k, hk, rfl, HE⟩ := hrel
    by_cases h0 : 0 < k
    · obtain ⟨j, hkj⟩ : ∃ j, k = j + 1 := ⟨k - 1, by omega⟩
      have hj : Hid (j < xs.length) := (by have := HN.out; omega : j < xs.length)
      obtain ⟨b, off, rfl, hc⟩ := H.out.cellAt hj.out
      have hcell := hc j hj.out
      rw [show off + j = off + (k - 1) by omega] at hcell
      clear hc
      have hp : (0 : Int) < (k : Int) := by omega
      have HKJ := hid hkj
      clear hkj
      by_cases hz : xs.getD j 0 = 0
      · have HE' : Hid (endF (fun i => xs.getD i 0) j = endOf xs) := by
          have := HE.out
          rw [HKJ.out, endF, if_pos hz] at this
          exact this
        rw [hz] at hcell
        clear hz HE
        go_wp2
        go_round
        case rel => exact ⟨j, by have := HKJ.out; omega, by have := HKJ.out; simp; omega, HE'⟩
        case measure => have := HKJ.out; simp [intOf]; omega
      · have HE' : Hid ((plainOf xs).length = k) := by
          have := HE.out
          rw [HKJ.out, endF, if_neg hz] at this
          rw [HKJ.out]
          exact (plain_len xs).trans this.symm
        have hs := fun W => HS.out k W (by omega)
        obtain ⟨X, hX⟩ : ∃ X, X = xs.getD j 0 := ⟨_, rfl⟩
        rw [← hX] at hcell hz
        have hz' : (X == 0) = false := by simp [hz]
        clear hz HE hX
        go_wp2_with (at_builtin; refine wpList_append_copy w rfl _ _ rfl rfl _ _ (plainOf xs) k HE'.out rfl HT.out.1 HT.out.2 ?_; intro bo cp w' _ hv hb)
        have HV' := hid hv
        have HB := hid hb
        clear hv hb
        go_wp2
        go_ret
        exact ⟨bo, cp, by rw [HE'.out]; rfl, HV'.out, HB.out⟩
    · obtain rfl : k = 0 := by omega
      have hs : ∀ W, Sem.run Tryz.prog (Instr.slice 23 (.slice ao n cap) none (some (.int .i64 0)) none) W = .ok (.slice ao 0 cap) W := fun W => HS.out 0 W (by omega)
      have HE' : Hid ((plainOf xs).length = 0) := (plain_len xs).trans HE.out.symm
      go_wp2_with (at_builtin; refine wpList_append_copy w rfl _ _ rfl rfl _ _ (plainOf xs) 0 HE'.out rfl HT.out.1 HT.out.2 ?_; intro bo cp w' _ hv hb)
      have HV' := hid hv
      have HB := hid hb
      clear hv hb
      go_wp2
      go_ret
      exact ⟨bo, cp, by rw [HE'.out]; rfl, HV'.out, HB.out⟩

theorem places_any (w : World) (ao bo : Option Addr) (ca cb m n : Nat) :
    Calls Tryz.prog 69 #[.slice ao m ca, .slice bo n cb] w fun e w' => e = .returned (.int .i64 ((max m n : Nat) : Int)) ∧ w' = w := by
  go_enter Tryz.func69, Tryz.ntmps69
  go_wp2
  all_goals
    go_ret
    exact ⟨ret_int (by omega), rfl⟩
theorem longer_any (w : World) (ao bo : Option Addr) (ca cb m n : Nat) :
    Calls Tryz.prog 72 #[.slice ao m ca, .slice bo n cb] w fun e w' => e = .returned (.int .i64 ((max m n : Nat) : Int)) ∧ w' = w := by
  by_cases h : n < m
  · go_enter Tryz.func72, Tryz.ntmps72
    go_wp2
    go_ret
    exact ⟨ret_int (by omega), rfl⟩
  · go_enter Tryz.func72, Tryz.ntmps72
    go_wp2
    go_ret
    exact ⟨ret_int (by omega), rfl⟩
end Go.Proofs.YtjlompnjhmbhhaaGreat
