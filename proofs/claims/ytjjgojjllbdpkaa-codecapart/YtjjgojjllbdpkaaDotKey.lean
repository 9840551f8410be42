/-
  api.Dot as a map's key. No function of the program is named here.
-/
import Derived.Test.YtjjgojjllbdpkaaRows
import Derived.Test.YtjjgojjllbdpkaaBlk
import Derived.DeepKeys4
namespace Go.Proofs.Ytjjgojjllbdpkaa
open Go.RowKit Go.Maps

theorem Try.laidOutK : laidOutB Try.prog = true := by kernel_rfl
theorem Try.keyedDot : Keyed Try.prog 34 := Keyed.of_law (deep_law_laid Try.laidOutK (m := 3) (by decide) (of_decide_eq_true (by kernel_rfl)) (by kernel_rfl) (by kernel_rfl))
def I64 (x : Int) : Prop := -9223372036854775808 ≤ x ∧ x ≤ 9223372036854775807
theorem wf_of {x : Int} (h : I64 x) : (Lit.int .i64 x).wf = true := by
  unfold I64 at h
  simp [Lit.wf, IntKind.min, IntKind.max, IntKind.signed, IntKind.bits]
  omega
def dotVal (o s : Int) : Value := .agg #[.int .i64 o, .int .i64 s]
theorem types_pos : ∃ k, Try.prog.types.size = k + 1 := by
  have h : 0 < Try.prog.types.size := of_decide_eq_true (by kernel_rfl)
  exact ⟨Try.prog.types.size - 1, by omega⟩
/-- What a dot reads as, as a key. -/
def dk (o s : Int) : Lit := .string (keyBytes [.int .i64 o, .int .i64 s])
theorem key_dot {o s : Int} (ho : I64 o) (hs : I64 s) : keyOf Try.prog 34 (dotVal o s) = some (dk o s) := by
  have h1 : Try.prog.keyType 34 = true := by kernel_rfl
  have h2 : (dotVal o s).formed Try.prog 34 = true := by kernel_rfl
  have h3 : Try.prog.keyLits (Try.prog.types.size + 1) 34 (dotVal o s).cells.toList = some [.int .i64 o, .int .i64 s] := by
    obtain ⟨k, hk⟩ := types_pos
    rw [hk]
    have hi : ∀ x, I64 x → Try.prog.keyLits (k + 1) 3 [.int .i64 x] = some [.int .i64 x] := fun x hx => by
      simp [Program.keyLits, Try.underlying3, wf_of hx]
    have e1 : Try.prog.cellsOf 34 = 2 := by kernel_rfl
    have e2 : Try.prog.cellsOf 3 = 1 := by kernel_rfl
    unfold Program.keyLits
    simp [Try.underlying34, dotVal, Value.cells, e1, e2, hi o ho, hi s hs]
  unfold keyOf
  rw [Try.underlying34]
  show (if _ then _ else _) = _
  rw [if_pos (by rw [h1, h2]; rfl), h3]
  rfl
theorem dk_inj {o s o' s' : Int} (ho : I64 o) (hs : I64 s) (ho' : I64 o') (hs' : I64 s') (h : dk o s = dk o' s') : o = o' ∧ s = s' := by
  have h1 := key_dot ho hs
  have h2 := key_dot ho' hs'
  rw [← h] at h2
  have := Try.keyedDot.inj h1 h2
  simpa [dotVal] using this
set_option maxRecDepth 20000 in
/-- What reads as a dot's key is a dot. -/
theorem dk_inv {key : Value} {kl : Lit} (h : keyOf Try.prog 34 key = some kl) : ∃ o s, key = dotVal o s ∧ kl = dk o s ∧ I64 o ∧ I64 s := by
  obtain ⟨xs, L, rfl, h1, h2⟩ := keyOf_top (by kernel_rfl) h
  obtain ⟨k, hk⟩ := types_pos
  rw [hk] at h1
  have hi : ∀ v l, Try.prog.keyLits (k + 1) 3 [v] = some l → ∃ x, v = .int .i64 x ∧ I64 x ∧ l = [.int .i64 x] := fun v l hv => by
    cases v <;> simp [Program.keyLits, Try.underlying3] at hv
    rename_i q x
    obtain ⟨⟨rfl, hw⟩, rfl⟩ := hv
    refine ⟨x, rfl, ?_, rfl⟩
    simp [Lit.wf, IntKind.min, IntKind.max, IntKind.signed, IntKind.bits] at hw
    unfold I64
    omega
  have e1 : Try.prog.cellsOf 34 = 2 := by kernel_rfl
  have e2 : Try.prog.cellsOf 3 = 1 := by kernel_rfl
  obtain ⟨xs⟩ := xs
  change Try.prog.keyLits (k + 1 + 1) 34 xs = some L at h1
  rcases xs with _ | ⟨a, _ | ⟨b, _ | ⟨c, r⟩⟩⟩
  · simp [Program.keyLits, Try.underlying34, e1] at h1
  · simp [Program.keyLits, Try.underlying34, e1] at h1
  · unfold Program.keyLits at h1
    simp [Try.underlying34, e1, e2] at h1
    cases ha : Try.prog.keyLits (k + 1) 3 [a] with
    | none => simp [ha] at h1
    | some la =>
      cases hb : Try.prog.keyLits (k + 1) 3 [b] with
      | none => simp [ha, hb] at h1
      | some lb =>
        obtain ⟨x, rfl, hx, rfl⟩ := hi a la ha
        obtain ⟨y, rfl, hy, rfl⟩ := hi b lb hb
        simp [ha, hb] at h1
        subst h1
        exact ⟨x, y, rfl, h2, hx, hy⟩
  · simp [Program.keyLits, Try.underlying34, e1] at h1
end Go.Proofs.Ytjjgojjllbdpkaa
