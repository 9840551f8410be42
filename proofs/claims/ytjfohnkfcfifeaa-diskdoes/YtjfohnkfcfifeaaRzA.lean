/-
  Rows of files: the order of names; what the document's list makes of one file in, one out, one changed; the program's list beside it.
-/
import Derived.Test.YtjfohnkfcfifeaaRyF
import Derived.Test.YtjfohnkfcfifeaaRxD
import Derived.Test.YtjfohnkfcfifeaaRxE
import Derived.Test.YtjfohnkfcfifeaaRxF
import Derived.Test.YtjfohnkfcfifeaaRxG
import Derived.Test.YtjfohnkfcfifeaaRxH
import Derived.Test.YtjfohnkfcfifeaaRyA
import Derived.Test.YtjfohnkfcfifeaaDiskJ0
namespace Go.Proofs.Ytjfohnkfcfifeaa
open Go.RowKit Go.Maps

theorem u8_eqZ {a b : UInt8} (h1 : ¬ a < b) (h2 : ¬ b < a) : a = b := by
  rw [UInt8.lt_iff_toNat_lt] at h1 h2
  exact UInt8.toNat_inj.1 (by omega)
theorem bl_cbZ : ∀ a b : List UInt8, Op.bytesLess a b = decide (Lib.compareBytes a b < 0)
  | [], [] => rfl
  | [], _ :: _ => rfl
  | _ :: _, [] => rfl
  | x :: a, y :: b => by
    simp only [Op.bytesLess, Lib.compareBytes]
    by_cases h1 : x < y
    · simp [h1]
    · by_cases h2 : y < x
      · have h3 : ¬ x = y := by
          intro e
          subst e
          exact h1 h2
        simp [h1, h2, h3]
      · have h3 : x = y := u8_eqZ h1 h2
        subst h3
        have := bl_cbZ a b
        simp [h1, this]
def cmpB (a b : ByteArray) : Int := Lib.compareBytes a.data.toList b.data.toList
theorem lessB_eq (a b : ByteArray) : lessB a b = decide (cmpB a b < 0) := by
  unfold lessB cmpB
  rw [bl_cbZ, ByteArray.toList_eq, ByteArray.toList_eq]
theorem cmpB_anti (a b : ByteArray) : cmpB a b = - cmpB b a := cb_anti _ _
theorem cmpB_eq {a b : ByteArray} (h : cmpB a b = 0) : a = b := ByteArray.ext (Array.toList_inj.1 (cb_eq _ _ h))
theorem lessB_trans {a b c : ByteArray} (h1 : lessB a b = true) (h2 : lessB b c = true) : lessB a c = true := by
  rw [lessB_eq] at *
  simp only [decide_eq_true_eq] at *
  exact cb_trans _ _ _ h1 h2
theorem lessB_irr (a : ByteArray) : lessB a a = false := by
  rw [lessB_eq]
  have : cmpB a a = 0 := cb_refl _
  simp [this]
theorem lessB_ne {a b : ByteArray} (h : lessB a b = true) : a ≠ b := by
  rintro rfl
  rw [lessB_irr] at h
  cases h
theorem lessB_not {a b : ByteArray} (h : lessB a b = false) (hne : a ≠ b) : lessB b a = true := by
  rw [lessB_eq] at *
  have h1 := cmpB_anti a b
  have h2 : cmpB a b ≠ 0 := fun e => hne (cmpB_eq e)
  simp only [decide_eq_false_iff_not] at h
  simp only [decide_eq_true_eq]
  omega
/-- By rising names, no name twice. -/
def SortR (L : List Rf) : Prop := L.Pairwise (fun a b => lessB a.name b.name = true)
theorem SortR.names {L : List Rf} (h : SortR L) : L.Pairwise (fun a b => a.name ≠ b.name) := h.imp lessB_ne
theorem SortR.eq : ∀ {xs ys : List Rf}, xs.Perm ys → SortR xs → SortR ys → xs = ys
  | [], ys, hp, _, _ => (List.nil_perm.1 hp).symm ▸ rfl
  | x :: xs, [], hp, _, _ => by
    have := hp.length_eq
    simp at this
  | x :: xs, y :: ys, hp, hs, ht => by
    obtain ⟨s1, s2⟩ := List.pairwise_cons.1 hs
    obtain ⟨t1, t2⟩ := List.pairwise_cons.1 ht
    have hxy : x = y := by
      have hx : x ∈ y :: ys := hp.subset (by simp)
      have hy : y ∈ x :: xs := hp.symm.subset (by simp)
      rcases List.mem_cons.1 hx with e | hx'
      · exact e
      · rcases List.mem_cons.1 hy with e | hy'
        · exact e.symm
        · have h1 := lessB_trans (t1 x hx') (s1 y hy')
          rw [lessB_irr] at h1
          cases h1
    subst hxy
    rw [SortR.eq (List.Perm.cons_inv hp) s2 t2]
/-- What Files answers, by rising names. -/
theorem SortF.rf {gs : List Fl} (h : SortF gs) (hn : gs.Pairwise (fun x y => x.name ≠ y.name)) : SortR (gs.map toRf) := by
  unfold SortR
  rw [List.pairwise_map]
  refine (h.and hn).imp ?_
  rintro a b ⟨h1, h2⟩
  refine lessB_not ?_ (fun e => h2 e.symm)
  rw [lessB_eq]
  exact decide_eq_false h1
section
variable {L : List Rf} {s : ByteArray}
theorem ridx_iff (h : SortR L) {k : Nat} (hk : k < L.length) : L[k].name = s ↔ ridx L s = k := by
  constructor
  · exact fun e => rnames_unique h.names hk e
  · rintro rfl
    exact ridx_name hk
theorem rint_neg : rint L s < 0 ↔ ∀ r ∈ L, r.name ≠ s := by
  unfold rint
  by_cases h : ridx L s < L.length
  · rw [if_pos h]
    constructor
    · intro h0
      omega
    · intro h0
      exact absurd (ridx_name h) (h0 _ (List.getElem_mem h))
  · rw [if_neg h]
    refine ⟨fun _ r hr e => h ?_, fun _ => by omega⟩
    unfold ridx
    exact List.findIdx_lt_length_of_exists ⟨r, hr, by simpa using e⟩
theorem ridx_lt (h : ¬ rint L s < 0) : ridx L s < L.length := by
  unfold rint at h
  by_cases h1 : ridx L s < L.length
  · exact h1
  · rw [if_neg h1] at h
    omega
theorem set_map (h : SortR L) (_hi : ridx L s < L.length) (r : Rf) : L.set (ridx L s) r = L.map (fun q => if q.name = s then r else q) := by
  apply List.ext_getElem
  · simp
  · intro k h1 h2
    have hk : k < L.length := by simpa using h2
    rw [List.getElem_map, List.getElem_set]
    by_cases e : ridx L s = k
    · rw [if_pos e, if_pos ((ridx_iff h hk).2 e)]
    · rw [if_neg e, if_neg (fun e' => e ((ridx_iff h hk).1 e'))]
theorem drop_filter (h : SortR L) (hi : ridx L s < L.length) : dropL L (ridx L s) = L.filter (fun q => !decide (q.name = s)) := by
  unfold dropL
  have e : L = L.take (ridx L s) ++ L[ridx L s] :: L.drop (ridx L s + 1) := by
    rw [List.getElem_cons_drop, List.take_append_drop]
  conv => rhs; rw [e]
  rw [List.filter_append, List.filter_cons]
  have hn : L[ridx L s].name = s := ridx_name hi
  rw [if_neg (by simp [hn])]
  rw [List.filter_eq_self.2, List.filter_eq_self.2]
  · intro q hq
    obtain ⟨j, hj, rfl⟩ := List.getElem_of_mem hq
    simp only [List.getElem_drop, Bool.not_eq_eq_eq_not, Bool.not_true, decide_eq_false_iff_not]
    have hj' : ridx L s + 1 + j < L.length := by simp at hj; omega
    intro e'
    have := (ridx_iff h hj').1 e'
    omega
  · intro q hq
    obtain ⟨j, hj, rfl⟩ := List.getElem_of_mem hq
    simp only [List.getElem_take, Bool.not_eq_eq_eq_not, Bool.not_true, decide_eq_false_iff_not]
    have hj' : j < L.length := by simp at hj; omega
    have hj2 : j < ridx L s := by simp at hj; omega
    intro e'
    have := (ridx_iff h hj').1 e'
    omega
theorem filter_none (h : rint L s < 0) : L.filter (fun q => !decide (q.name = s)) = L := by
  refine List.filter_eq_self.2 (fun q hq => ?_)
  simpa using rint_neg.1 h q hq
theorem SortR.filter (h : SortR L) (p : Rf → Bool) : SortR (L.filter p) := List.Pairwise.filter p h
theorem SortR.map (h : SortR L) {φ : Rf → Rf} (hφ : ∀ r, (φ r).name = r.name) : SortR (L.map φ) := by
  unfold SortR
  rw [List.pairwise_map]
  refine List.Pairwise.imp ?_ h
  intro a b hab
  rw [hφ, hφ]
  exact hab
theorem ins_perm (L : List Rf) (k : Nat) (f : Rf) : (insF L k f).Perm (f :: L) := by
  unfold insF
  have h1 : (L.take k ++ [f] ++ L.drop k).Perm ([f] ++ L.take k ++ L.drop k) := (List.perm_append_comm).append_right _
  refine h1.trans ?_
  rw [List.append_assoc, List.take_append_drop]
  exact List.Perm.refl _
theorem ins_sort (h : SortR L) (f : Rf) (hn : ∀ r ∈ L, r.name ≠ f.name) : SortR (insF L (rpos L f.name) f) := by
  unfold insF SortR
  have hsp : ∀ a ∈ L.take (rpos L f.name), lessB a.name f.name = true := by
    intro a ha
    obtain ⟨j, hj, rfl⟩ := List.getElem_of_mem ha
    rw [List.getElem_take]
    have hj2 : j < rpos L f.name := by simp at hj; omega
    have := List.not_of_lt_findIdx (p := fun q : Rf => !lessB q.name f.name) hj2
    simpa using this
  have hsd : ∀ a ∈ L.drop (rpos L f.name), lessB f.name a.name = true := by
    intro a ha
    have hp : (L.drop (rpos L f.name)).Pairwise (fun a b => lessB a.name b.name = true) := List.Pairwise.sublist (List.drop_sublist _ _) h
    have hne : a.name ≠ f.name := hn a (List.mem_of_mem_drop ha)
    by_cases hlt : rpos L f.name < L.length
    · have h0 : lessB L[rpos L f.name].name f.name = false := by
        have := List.findIdx_getElem (p := fun q : Rf => !lessB q.name f.name) (w := hlt)
        simp only [Bool.not_eq_eq_eq_not, Bool.not_true] at this
        exact this
      have h1 := lessB_not h0 (hn _ (List.getElem_mem hlt))
      rw [← List.getElem_cons_drop (h := hlt)] at ha hp
      rcases List.mem_cons.1 ha with e | ha'
      · rw [e]
        exact h1
      · exact lessB_trans h1 ((List.pairwise_cons.1 hp).1 a ha')
    · rw [List.drop_eq_nil_of_le (by omega)] at ha
      cases ha
  rw [List.append_assoc, List.pairwise_append]
  refine ⟨List.Pairwise.sublist (List.take_sublist _ _) h, ?_, ?_⟩
  · rw [List.singleton_append, List.pairwise_cons]
    exact ⟨hsd, List.Pairwise.sublist (List.drop_sublist _ _) h⟩
  · intro a ha b hb
    rcases List.mem_append.1 hb with hb' | hb'
    · have : b = f := by simpa using hb'
      rw [this]
      exact hsp a ha
    · exact lessB_trans (hsp a ha) (hsd b hb')
end
end Go.Proofs.Ytjfohnkfcfifeaa
