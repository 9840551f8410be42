/-
  Package vv: joined, Merge, Meet; the document's Merge, Meet.
-/
import Derived.Test.YtkjpaiaepodhbaaVvB
import Derived.Deep.OwnRows
import Derived.Laws.OwnMore
namespace Go.Proofs.Ytkjpaiaepodhbaa
open Go.RowKit Go.Maps

/-- The first k places are joined. -/
def partOf (f : Int → Int → Int) (a b : List Int) (k : Nat) : List Int := (List.range (max a.length b.length)).map fun i => if i < k then f (a.getD i 0) (b.getD i 0) else 0
theorem part_len (f : Int → Int → Int) (a b : List Int) (k : Nat) : (partOf f a b k).length = max a.length b.length := by simp [partOf]
theorem part_zero (f : Int → Int → Int) (a b : List Int) : partOf f a b 0 = List.replicate (max a.length b.length) 0 := by
  apply List.ext_getElem <;> simp [partOf]
theorem part_all (f : Int → Int → Int) (a b : List Int) {k : Nat} (hk : max a.length b.length ≤ k) : partOf f a b k = joinOf f a b := by
  apply List.ext_getElem
  · simp [partOf, joinOf]
  · intro i h1 h2
    simp [partOf] at h1
    simp [partOf, joinOf, show i < k by omega]
theorem part_set (f : Int → Int → Int) (a b : List Int) {k : Nat} (_ : k < max a.length b.length) : (partOf f a b k).set k (f (a.getD k 0) (b.getD k 0)) = partOf f a b (k + 1) := by
  apply List.ext_getElem
  · simp [partOf]
  · intro i h1 h2
    simp [partOf] at h2
    rw [List.getElem_set]
    by_cases e : k = i
    · subst e; simp [partOf]
    · by_cases e2 : i < k
      · simp [partOf, e, e2, show i < k + 1 by omega]
      · simp [partOf, e, e2, show ¬ i < k + 1 by omega]
theorem join_rng {f : Int → Int → Int} {a b : List Int} {p : Int → Prop} (h : ∀ i, p (f (a.getD i 0) (b.getD i 0))) : ∀ x ∈ joinOf f a b, p x := by
  intro x hx
  obtain ⟨i, _, rfl⟩ := List.mem_map.1 hx
  exact h i
theorem made_ints (n : Nat) : madeCells #[.int .i64 0] n = (ints (List.replicate n 0)).toArray := by
  apply Array.ext'
  rw [toList_madeCells_one]
  simp [ints]
def maxI (x y : Int) : Int := max x y
def minI (x y : Int) : Int := min x y
theorem hid_eq {α : Type} {a b : α} (h : a = b) : Hid (a = b) := h

set_option maxRecDepth 100000 in
theorem joined_merge (w : World) (ao bo : Option Addr) (ca cb : Nat) (a b : List Int) (m n : Nat) (hm : a.length = m) (hn : b.length = n) (ha : HV w ao ca a) (hb : HV w bo cb b) :
    Calls Try.prog 73 #[.slice ao m ca, .slice bo n cb, .func (.func 74) #[] #[]] w (AnsV w (plainOf (joinOf (fun x y => max x y) a b))) := by
  have HA := hid ha
  have HB := hid hb
  have hfa := ha.few
  have hfb := hb.few
  obtain ⟨L, hL⟩ : ∃ L, L = max m n := ⟨_, rfl⟩
  have HL : Hid (L = max a.length b.length) := by show _ = _; rw [hL, hm, hn]
  have hmk := run_make_row' (P := Try.prog) 23 3 (.int .i64 0) 8 Try.underlying23 Try.infoInt rfl .i64 .i64 L (by omega) (by omega)
  have HP := hid (places_any w ao bo ca cb m n)
  rw [← hL] at HP
  have HM := hid hm
  have HN := hid hn
  have HLm : Hid (L ≤ 17592186044416) := (by omega : L ≤ 17592186044416)
  have hLs : L ≤ 17592186044416 := HLm.out
  clear ha hb hfa hfb hL hm hn
  go_enter Try.func73, Try.ntmps73
  go_wp2_with fail
  refine HP.out.mono ?_
  rintro e w' ⟨rfl, rfl⟩
  go_wp2
  rw [made_ints]
  go_loopw [8, 15] (fun _ i wr => ∃ k : Nat, k ≤ L ∧ i = .int .i64 k ∧ Hid (Blk wr w'.heap.size 3 (ints (partOf (fun x y => max x y) a b k)) ∧ Below w'.heap.size w' wr)) (fun _ i _ => L - (intOf i).toNat)
  case atStart =>
    refine ⟨0, Nat.zero_le _, rfl, ?_, (Below.refl _ _).alloc (Nat.le_refl _) _⟩
    rw [part_zero, ← HL.out]
    exact Blk.new w' 3 (ints (List.replicate L 0))
  case round =>
    obtain ⟨k, hk, rfl, HR⟩ := hrel
    by_cases hlt : k < L
    · have hlt' : (k : Int) < (L : Int) := by omega
      have hkp : k < (partOf (fun x y => max x y) a b k).length := by rw [part_len, ← HL.out]; exact hlt
      have hcell := HR.out.1.cell (ints_get hkp)
      have hfr := HR.out.1.frozen k
      clear hkp
      generalize (partOf (fun x y => max x y) a b k).getD k 0 = Z at hcell
      have HOA := hid (of_any wr ao ca a m HM.out (k : Int) (HA.out.below HR.out.2).held)
      have HOB := hid (of_any wr bo cb b n HN.out (k : Int) (HB.out.below HR.out.2).held)
      rw [ofV_nat] at HOA HOB
      obtain ⟨X, HX⟩ : ∃ X, Hid (a.getD k 0 = X) := ⟨_, hid rfl⟩
      obtain ⟨Y, HY⟩ : ∃ Y, Hid (b.getD k 0 = Y) := ⟨_, hid rfl⟩
      rw [HX.out] at HOA
      rw [HY.out] at HOB
      go_wp2_with fail
      refine HOA.out.mono ?_
      rintro e w2 ⟨rfl, rfl⟩
      go_wp2_with fail
      refine HOB.out.mono ?_
      rintro e w3 ⟨rfl, rfl⟩
      go_wp2_with fail
      refine (pickMax _ _ _).mono ?_
      rintro e w4 ⟨rfl, rfl⟩
      go_wp2
      go_roundw
      case rel =>
        refine ⟨k + 1, by omega, by go_num, ?_, (HR.out.2.trans ((Turns.refl (fun i => i = w'.heap.size) _).setCell (p := ⟨w'.heap.size, k, none⟩) (.inl rfl) _ |>.below (fun i hi => by omega) HR.out.2.size))⟩
        rw [← part_set (fun x y => max x y) a b (by rw [← HL.out]; exact hlt)]
        have hs := HR.out.1.set k (.int .i64 (max X Y))
        have he := ints_set (partOf (fun x y => max x y) a b k) [] k (max X Y) (by rw [part_len, ← HL.out]; exact hlt)
        rw [List.append_nil, List.append_nil] at he
        rw [he] at hs
        rw [HX.out, HY.out]
        exact hs
      case measure => simp [intOf]; omega
    · have hlt' : ¬ (k : Int) < (L : Int) := by omega
      have hJ : Hid (HV wr (some ⟨w'.heap.size, 0, none⟩) L (joinOf (fun x y => max x y) a b)) := by
        have h1 := HR.out.1
        rw [part_all (fun x y => max x y) a b (by rw [← HL.out]; omega), ← List.append_nil (ints _)] at h1
        refine ⟨h1.heldInt (join_rng fun i => ?_), ?_, ?_⟩
        · have := HA.out.held.rng i
          have := HB.out.held.rng i
          show -9223372036854775808 ≤ max _ _ ∧ max _ _ ≤ 9223372036854775807
          omega
        · rw [join_len, ← HL.out]; exact Nat.le_refl _
        · rw [join_len, ← HL.out]; exact HLm.out
      have HU := hid (cut_any wr (some ⟨w'.heap.size, 0, none⟩) L (joinOf (fun x y => max x y) a b) L (by rw [join_len, ← HL.out]) hJ.out)
      obtain ⟨z, HZ⟩ : ∃ z, Hid ((plainOf (joinOf (fun x y => max x y) a b)).length = z) := ⟨_, hid rfl⟩
      rw [HZ.out] at HU
      go_wp2_with fail
      refine HU.out.mono ?_
      rintro e w2 ⟨⟨rfl, hv⟩, rfl⟩
      have HV' := hid hv
      clear hv HU
      go_wp2
      go_ret
      exact ⟨_, z, by rw [HZ.out]; rfl, HV'.out, HR.out.2⟩
theorem merge_any (w : World) (ao bo : Option Addr) (ca cb : Nat) (a b : List Int) (m n : Nat) (hm : a.length = m) (hn : b.length = n) (ha : HV w ao ca a) (hb : HV w bo cb b) :
    Calls Try.prog 57 #[.slice ao m ca, .slice bo n cb] w (AnsV w (mergeOf a b)) := by
  have HJ := hid (joined_merge w ao bo ca cb a b m n hm hn ha hb)
  clear ha hb hm hn
  go_enter Try.func57, Try.ntmps57
  go_wp2_with fail
  refine HJ.out.mono ?_
  rintro e w1 ⟨co, cp, rfl, hv, hb⟩
  have HV' := hid hv
  have HB := hid hb
  obtain ⟨z, HZ⟩ : ∃ z, Hid ((plainOf (joinOf (fun x y => max x y) a b)).length = z) := ⟨_, hid rfl⟩
  rw [HZ.out]
  clear hv hb HJ
  go_wp2
  go_ret
  exact ⟨co, cp, by show _ = Ending.returned (.slice co (plainOf (joinOf (fun x y => max x y) a b)).length cp); rw [HZ.out]; rfl, HV'.out, HB.out⟩

end Go.Proofs.Ytkjpaiaepodhbaa
