/-
  Package vv: Clone, Plain, joined, Merge, Meet; the document's Plain, Merge, Meet.
-/
import Derived.Test.YtjcoahcbdlpcpaaGreatVvA
namespace Go.Proofs.YtjcoahcbdlpcpaaGreat
open Go.RowKit Go.Maps

theorem eqlI_some (W : World) (ad : Addr) (n c : Nat) : (binOp .eql 38 (.slice (some ad) n c) (.slice none 0 0)).run Tryz.prog W = .ok (.bool false) W := by kernel_rfl
theorem eqlI_none (W : World) (n c : Nat) : (binOp .eql 38 (.slice none n c) (.slice none 0 0)).run Tryz.prog W = .ok (.bool true) W := by kernel_rfl
theorem HeldInt.of_none {w : World} {xs : List Int} (h : HeldInt w none xs) : xs = [] := by
  rcases h.2 with h0 | ⟨b, off, e, _⟩
  · exact h0
  · cases e
theorem hv_nil (w : World) : HV w none 0 [] := ⟨⟨fun x hx => (by cases hx), .inl rfl⟩, Nat.le_refl _, by simp⟩

/-- A call that answers a vector. -/
def AnsV (w : World) (xs : List Int) (e : Ending) (w' : World) : Prop := ∃ bo cp, e = .returned (.slice bo xs.length cp) ∧ HV w' bo cp xs ∧ Below w.heap.size w w'

theorem clone_any (w : World) (ao : Option Addr) (cap : Nat) (xs : List Int) (n : Nat) (hn : xs.length = n) (h : HV w ao cap xs) :
    Calls Tryz.prog 28 #[.slice ao n cap] w (AnsV w xs) := by
  cases ao with
  | none =>
    have he := fun W => eqlI_none W n cap
    have hx := h.held.of_none
    clear h
    go_enter Tryz.func28, Tryz.ntmps28
    go_wp2
    go_ret
    subst hx
    exact ⟨_, _, rfl, hv_nil _, Below.refl _ _⟩
  | some ad =>
    have he := fun W => eqlI_some W ad n cap
    have H := hid h
    have HN := hid hn
    clear h hn
    go_enter Tryz.func28, Tryz.ntmps28
    go_wp2_with (at_builtin; refine wpList_append_copy w rfl _ _ rfl rfl _ _ xs n HN.out rfl H.out.held H.out.few ?_; intro bo cp w' _ hv hb)
    have HV' := hid hv
    have HB := hid hb
    clear hv hb
    go_wp2
    go_ret
    exact ⟨bo, cp, by rw [HN.out]; rfl, HV'.out, HB.out⟩

theorem plain_any (w : World) (ao : Option Addr) (cap : Nat) (xs : List Int) (n : Nat) (hn : xs.length = n) (h : HV w ao cap xs) :
    Calls Tryz.prog 32 #[.slice ao n cap] w (AnsV w (plainOf xs)) := by
  have HC := hid (clone_any w ao cap xs n hn h)
  clear h
  go_enter Tryz.func32, Tryz.ntmps32
  go_wp2_with fail
  refine HC.out.mono ?_
  rintro e w1 ⟨bo, cp, rfl, hv, hb⟩
  have HU := hid (cut_any w1 bo cp xs _ rfl hv)
  obtain ⟨m, HM⟩ : ∃ m, Hid ((plainOf xs).length = m) := ⟨_, hid rfl⟩
  rw [HM.out] at HU
  have HB := hid hb
  clear hv hb HC hn
  generalize xs.length = n1 at HU ⊢
  go_wp2_with fail
  refine HU.out.mono ?_
  rintro e w2 ⟨⟨rfl, hv⟩, rfl⟩
  have HV' := hid hv
  clear hv HU
  go_wp2
  go_ret
  exact ⟨bo, m, by rw [HM.out]; rfl, HV'.out, HB.out⟩

end Go.Proofs.YtjcoahcbdlpcpaaGreat
