/-
  Package cart: Same, Total, told, Stand; how lines lie in memory.
-/
import Derived.Test.YtkgfpnmifgifpaaCartL
namespace Go.Proofs.Ytkgfpnmifgifpaa
open Go.RowKit Go.Maps

/-- A slice of lines holds ls. -/
def HeldL (w : World) (ao : Option Addr) (ls : List Ln) : Prop :=
  ls = [] ∨ ∃ b off, ao = some ⟨b, off, none⟩ ∧ b < w.heap.size ∧ ∀ j (hj : j < ls.length), w.cell? ⟨b, off + j * 2, none⟩ = some (.string ls[j].1) ∧ w.cell? ⟨b, off + j * 2 + 1, none⟩ = some (.int .i64 ls[j].2)
theorem HeldL.below {w w' : World} {ao : Option Addr} {ls : List Ln} (h : HeldL w ao ls) (hb : Below w.heap.size w w') : HeldL w' ao ls := by
  rcases h with h0 | ⟨b, off, h1, h2, h3⟩
  · exact .inl h0
  · exact .inr ⟨b, off, h1, Nat.lt_of_lt_of_le h2 hb.size, fun j hj => ⟨(hb.cell (p := ⟨b, off + j * 2, none⟩) h2).trans (h3 j hj).1, (hb.cell (p := ⟨b, off + j * 2 + 1, none⟩) h2).trans (h3 j hj).2⟩⟩
theorem HeldL.at {w : World} {ao : Option Addr} {ls : List Ln} (h : HeldL w ao ls) {j : Nat} (hj : j < ls.length) : ∃ b off, ao = some ⟨b, off, none⟩ ∧ w.cell? ⟨b, off + j * 2, none⟩ = some (.string ls[j].1) ∧ w.cell? ⟨b, off + j * 2 + 1, none⟩ = some (.int .i64 ls[j].2) := by
  rcases h with h0 | ⟨b, off, h1, h2, h3⟩
  · subst h0
    cases hj
  · exact ⟨b, off, h1, (h3 j hj).1, (h3 j hj).2⟩
theorem flatL_get : ∀ (xs : List Ln) (j : Nat) (hj : j < xs.length), (flatL xs)[j * 2]? = some (.string xs[j].1) ∧ (flatL xs)[j * 2 + 1]? = some (.int .i64 xs[j].2)
  | [], j, hj => by cases hj
  | x :: r, 0, _ => ⟨rfl, rfl⟩
  | x :: r, j + 1, hj => by
    have := flatL_get r j (by simpa using hj)
    simp only [List.getElem_cons_succ]
    rw [show (j + 1) * 2 = j * 2 + 2 by omega, show j * 2 + 2 + 1 = (j * 2 + 1) + 2 by omega]
    exact this
theorem heldL_of_own {w : World} {B : Nat} {v : Value} {ls : List Ln} {n : Nat} (hn : ls.length = n) (h : w.ownsRow B 57 2 v n (flatL ls)) : ∃ ao cap, v = .slice ao n cap ∧ HeldL w ao ls := by
  subst hn
  obtain ⟨eo, cap, rfl, hnc, hc⟩ := own_form8 h
  refine ⟨eo, cap, rfl, ?_⟩
  by_cases h0 : ls = []
  · exact .inl h0
  · obtain ⟨g, rfl, _, hg, hcell⟩ := hc (List.length_pos_iff.2 h0)
    refine .inr ⟨g, 0, rfl, hg, fun j hj => ?_⟩
    rw [Nat.zero_add]
    exact ⟨hcell _ _ (flatL_get ls j hj).1, hcell _ _ (flatL_get ls j hj).2⟩
theorem ext_lines {a b : List Ln} (hl : a.length = b.length) {k : Nat} (hk : ¬ k < a.length) (h : ∀ j (h1 : j < a.length) (h2 : j < b.length), j < k → a[j] = b[j]) : a = b :=
  List.ext_getElem hl fun i h1 h2 => h i h1 h2 (by omega)
end Go.Proofs.Ytkgfpnmifgifpaa
/-
  Package cart: Same, Total, told, Stand; the law's of.
-/
namespace Go.Proofs.Ytkgfpnmifgifpaa
open Go.RowKit Go.Maps

/-- The sum of all lines. -/
def totalL : List Ln → Int
  | [] => 0
  | x :: r => x.2 + totalL r
theorem totalL_append (a b : List Ln) : totalL (a ++ b) = totalL a + totalL b := by
  induction a with
  | nil => simp [totalL]
  | cons x r ih => simp only [List.cons_append, totalL, ih]; omega
theorem totalL_bd : ∀ {l : List Ln}, (∀ x ∈ l, 0 ≤ x.2 ∧ x.2 ≤ 4194304000) → 0 ≤ totalL l ∧ totalL l ≤ 4194304000 * (l.length : Int)
  | [], _ => by simp [totalL]
  | x :: r, h => by
    have h1 := h x (List.mem_cons_self ..)
    have h2 := totalL_bd (l := r) fun e he => h e (List.mem_cons_of_mem _ he)
    unfold totalL
    rw [List.length_cons]
    omega
/-- How many of an article lines have. -/
def ofL (s : ByteArray) : List Ln → Int
  | [] => 0
  | x :: r => if x.1 = s then x.2 else ofL s r
theorem ofL_skip {s : ByteArray} : ∀ {a : List Ln} (b : List Ln), (∀ x ∈ a, x.1 ≠ s) → ofL s (a ++ b) = ofL s b
  | [], _, _ => rfl
  | x :: r, b, h => by
    rw [List.cons_append, ofL, if_neg (h x (List.mem_cons_self ..)), ofL_skip b (fun y hy => h y (List.mem_cons_of_mem _ hy))]
theorem ofL_mem {s : ByteArray} : ∀ {a : List Ln}, ofL s a ≠ 0 → (s, ofL s a) ∈ a
  | [], h => absurd rfl h
  | x :: r, h => by
    unfold ofL at h ⊢
    split
    · next e => rw [if_pos e] at h; rw [← e]; exact List.mem_cons_self ..
    · next e => rw [if_neg e] at h; exact List.mem_cons_of_mem _ (ofL_mem h)
theorem ofL_zero {s : ByteArray} : ∀ {a : List Ln}, ofL s a = 0 → (∀ x ∈ a, 0 < x.2) → ∀ x ∈ a, x.1 ≠ s
  | [], _, _, x, hx => by cases hx
  | y :: r, h, hp, x, hx => by
    unfold ofL at h
    split at h
    · have := hp y (List.mem_cons_self ..)
      omega
    · next e =>
      rcases List.mem_cons.1 hx with rfl | hx
      · exact e
      · exact ofL_zero h (fun z hz => hp z (List.mem_cons_of_mem _ hz)) x hx
/-- Lines tell what f tells. -/
theorem ofL_lines {f : ByteArray → Int} {ls : List Ln} (h : LinesOf f ls) (hf : ∀ s, 0 ≤ f s) (s : ByteArray) : ofL s ls = f s := by
  by_cases h0 : ofL s ls = 0
  · rw [h0]
    apply Classical.byContradiction
    intro hn
    have h1 := hf s
    exact ofL_zero h0 (fun x hx => ((h.2 x.1 x.2).1 hx).1) (s, f s) ((h.2 s (f s)).2 ⟨by omega, rfl⟩) rfl
  · exact ((h.2 s (ofL s ls)).1 (ofL_mem h0)).2
set_option maxRecDepth 100000 in
theorem of12_any (w : World) (ao : Option Addr) (cap : Nat) (ls : List Ln) (n : Nat) (hn : ls.length = n) (hl : n ≤ 4194304) (h : HeldL w ao ls) (s : ByteArray) :
    Calls Try.prog 20 #[.slice ao n cap, .string s] w fun e w' => e = .returned (.int .i64 (ofL s ls)) ∧ w' = w := by
  have HN := hid hn
  have H := hid h
  clear hn h
  go_enter Try.func20, Try.ntmps20
  go_wp2
  go_loop [5] (fun i => ∃ k : Nat, k ≤ n ∧ i = .int .i64 k ∧ Hid (∀ x ∈ ls.take k, x.1 ≠ s)) (fun i => n - (intOf i).toNat)
  case atStart => exact ⟨0, Nat.zero_le _, rfl, fun x hx => (by simp at hx)⟩
  case round =>
    obtain ⟨k, hk, rfl, HR⟩ := hrel
    by_cases hlt : k < n
    · have hlt' : (k : Int) < (n : Int) := by omega
      have hkx : Hid (k < ls.length) := (by rw [HN.out]; exact hlt : k < ls.length)
      obtain ⟨b, off, rfl, c1, c2⟩ := H.out.at hkx.out
      have HSP : Hid (ls = ls.take k ++ (ls[k]'hkx.out) :: ls.drop (k + 1)) := by
        show _ = _
        rw [← List.drop_eq_getElem_cons hkx.out, List.take_append_drop]
      have HTK : Hid (ls.take (k + 1) = ls.take k ++ [ls[k]'hkx.out]) := List.take_succ_eq_append_getElem hkx.out
      obtain ⟨X, HX⟩ : ∃ X, Hid (ls[k]'hkx.out = X) := ⟨_, hid rfl⟩
      rw [HX.out] at c1 c2 HSP HTK
      obtain ⟨x1, x2⟩ := X
      simp only at c1 c2
      have HKM : Hid (k + 1 ≤ n) := (by omega : k + 1 ≤ n)
      by_cases e : x1 = s
      · subst e
        have HO : Hid (ofL x1 ls = x2) := by
          show _ = _
          rw [HSP.out, ofL_skip _ HR.out, ofL, if_pos rfl]
        go_wp2
        go_ret
        exact ⟨ret_int HO.out.symm, rfl⟩
      · have hb2 : (x1.toList == s.toList) = false := beq_eq_false_iff_ne.2 fun hh => e (bytes_inj hh)
        have HE := hid e
        clear e
        go_wp2
        go_round
        case rel =>
          refine ⟨k + 1, HKM.out, by go_num, fun x hx => ?_⟩
          rw [HTK.out] at hx
          rcases List.mem_append.1 hx with hx | hx
          · exact HR.out x hx
          · obtain rfl := List.mem_singleton.1 hx
            exact HE.out
        case measure => simp [intOf]; have := HKM.out; omega
    · have hlt' : ¬ (k : Int) < (n : Int) := by omega
      obtain rfl : k = n := by omega
      have HO : Hid (ofL s ls = 0) := by
        show _ = _
        have := ofL_skip (s := s) (a := ls.take k) [] HR.out
        rw [List.take_of_length_le (by rw [HN.out]; exact Nat.le_refl _), List.append_nil] at this
        exact this
      go_wp2
      go_ret
      exact ⟨ret_int HO.out.symm, rfl⟩
end Go.Proofs.Ytkgfpnmifgifpaa
