/-
  Package disk: Files tells the same files in the same order, also behind a crash.
-/
import Derived.Test.YtjfohnkfcfifeaaDiskV
import Derived.Test.YtjfohnkfcfifeaaRxA
import Derived.Test.YtjfohnkfcfifeaaDiskX
namespace Go.Proofs.Ytjfohnkfcfifeaa
open Go.RowKit Go.Maps

theorem cmpF_name {x y : Fl} (h1 : ¬ cmpF x y < 0) (h2 : ¬ cmpF y x < 0) : x.name = y.name := by
  have h3 : cmpF x y = - cmpF y x := cb_anti _ _
  have h4 : cmpF x y = 0 := by omega
  have h5 := cb_eq _ _ h4
  cases hx : x.name with
  | mk a =>
    cases hy : y.name with
    | mk b =>
      rw [hx, hy] at h5
      congr 1
      exact Array.ext' h5
theorem sorted_one : ∀ {xs ys : List Fl}, xs.Perm ys → xs.Pairwise (fun x y => ¬ cmpF y x < 0) → ys.Pairwise (fun x y => ¬ cmpF y x < 0) → xs.Pairwise (fun x y => x.name ≠ y.name) → xs = ys
  | [], ys, hp, _, _, _ => (List.nil_perm.1 hp).symm ▸ rfl
  | x :: xs, [], hp, _, _, _ => by
    have := hp.length_eq
    simp at this
  | x :: xs, y :: ys, hp, hs, ht, hn => by
    obtain ⟨s1, s2⟩ := List.pairwise_cons.1 hs
    obtain ⟨t1, t2⟩ := List.pairwise_cons.1 ht
    obtain ⟨n1, n2⟩ := List.pairwise_cons.1 hn
    have hxy : x = y := by
      have hx : x ∈ y :: ys := hp.subset (by simp)
      have hy : y ∈ x :: xs := hp.symm.subset (by simp)
      rcases List.mem_cons.1 hx with e | hx'
      · exact e
      · rcases List.mem_cons.1 hy with e | hy'
        · exact e.symm
        · exact absurd (cmpF_name (t1 x hx') (s1 y hy')) (n1 y hy')
    subst hxy
    rw [sorted_one (List.Perm.cons_inv hp) s2 t2 n2]
theorem perm_names {gs fs : List Fl} (hp : gs.Perm fs) (hn : fs.Pairwise (fun x y => x.name ≠ y.name)) : gs.Pairwise (fun x y => x.name ≠ y.name) :=
  hp.symm.pairwise hn (fun h => fun e => h e.symm)
/-- Twice the same. -/
theorem files_same {fs gs hs : List Fl} (hn : fs.Pairwise (fun x y => x.name ≠ y.name)) (hg : gs.Perm fs) (sg : gs.Pairwise (fun x y => ¬ cmpF y x < 0)) (hh : hs.Perm fs) (sh : hs.Pairwise (fun x y => ¬ cmpF y x < 0)) : hs = gs :=
  sorted_one (hh.trans hg.symm) sh sg (perm_names hh hn)
/-- Behind a change of each that keeps its name. -/
theorem files_map {fs gs hs : List Fl} (φ : Fl → Fl) (hφ : ∀ f, (φ f).name = f.name) (hn : fs.Pairwise (fun x y => x.name ≠ y.name)) (hg : gs.Perm fs) (sg : gs.Pairwise (fun x y => ¬ cmpF y x < 0)) (hh : hs.Perm (fs.map φ)) (sh : hs.Pairwise (fun x y => ¬ cmpF y x < 0)) : hs = gs.map φ := by
  have h1 : (gs.map φ).Perm (fs.map φ) := hg.map φ
  have s1 : (gs.map φ).Pairwise (fun x y => ¬ cmpF y x < 0) := by
    rw [List.pairwise_map]
    refine sg.imp ?_
    intro a b hab
    unfold cmpF at *
    rw [hφ, hφ]
    exact hab
  have n1 : (fs.map φ).Pairwise (fun x y => x.name ≠ y.name) := by
    rw [List.pairwise_map]
    refine hn.imp ?_
    intro a b hab
    rw [hφ, hφ]
    exact hab
  exact sorted_one (hh.trans h1.symm) sh s1 (perm_names hh n1)
end Go.Proofs.Ytjfohnkfcfifeaa
/-
  Files as rows of the document's form; what a Crash leaves of a row.
-/
namespace Go.Proofs.Ytjfohnkfcfifeaa
open Go.RowKit Go.Maps

def toRf (f : Fl) : Rf := ⟨f.name, strOfNums f.bytes, (f.sure : Int)⟩
/-- By rising names. -/
def SortF (gs : List Fl) : Prop := gs.Pairwise (fun x y => ¬ cmpF y x < 0)
theorem flat_toRf : ∀ (gs : List Fl), flatF gs = flatR (gs.map toRf)
  | [] => rfl
  | g :: r => by
    have := flat_toRf r
    unfold flatF flatR at this ⊢
    rw [List.flatMap_cons, List.map_cons, List.flatMap_cons, this]
    rfl
theorem str_take (l : List Int) (n : Nat) : (strOfNums l).extract 0 n = strOfNums (l.take n) := by
  apply ByteArray.ext
  rw [ByteArray.data_extract]
  apply Array.toList_inj.1
  simp [strOfNums, List.map_take]
/-- b is what is left of a. -/
structure FellRf (a b : Rf) : Prop where
  name : b.name = a.name
  all : b.sure = (b.bytes.size : Int)
  sure : a.sure ≤ (b.bytes.size : Int)
  size : b.bytes.size ≤ a.bytes.size
  bytes : a.bytes.extract 0 b.bytes.size = b.bytes
theorem fell_rf {f : Fl} {ts : List (ByteArray × Int)} (V : ByteArray → Value) (h : fall ts f ≤ f.bytes.length) : FellRf (toRf f) (toRf (fellOne ts V (fun _ => false) f)) := by
  have e : fellOne ts V (fun _ => false) f = f.cutTo (fall ts f) (V f.name) := rfl
  have hsz : (strOfNums (f.bytes.take (fall ts f))).size = fall ts f := by
    rw [strOfNums_size, List.length_take]
    omega
  rw [e]
  refine ⟨rfl, ?_, ?_, ?_, ?_⟩
  · show ((fall ts f : Nat) : Int) = _
    show _ = (((strOfNums (f.bytes.take (fall ts f))).size : Nat) : Int)
    rw [hsz]
  · show (f.sure : Int) ≤ (((strOfNums (f.bytes.take (fall ts f))).size : Nat) : Int)
    rw [hsz]
    unfold fall
    omega
  · show (strOfNums (f.bytes.take (fall ts f))).size ≤ (strOfNums f.bytes).size
    rw [hsz, strOfNums_size]
    exact h
  · show (strOfNums f.bytes).extract 0 (strOfNums (f.bytes.take (fall ts f))).size = strOfNums (f.bytes.take (fall ts f))
    rw [hsz, str_take]
section
variable {w : World} {p bm : Nat} {size calls : Int} {fs gs hs : List Fl} {D : DataW Value} {ts : List (ByteArray × Int)}
theorem fell_rows (h : DiskAt w p bm size calls fs D) (hok : okFrom fs [] ts) (V : ByteArray → Value) (hg : gs.Perm fs) (sg : SortF gs) (hh : hs.Perm (fell ts V (fun _ => false) fs)) (sh : SortF hs) :
    ∀ k (h1 : k < (gs.map toRf).length) (h2 : k < (hs.map toRf).length), FellRf (gs.map toRf)[k] (hs.map toRf)[k] := by
  have e := files_map (fellOne ts V (fun _ => false)) (fellOne_name ts V _) h.names hg sg hh sh
  subst e
  intro k h1 h2
  have hk : k < gs.length := by simpa using h1
  simp only [List.getElem_map]
  have hm : gs[k] ∈ fs := hg.subset (List.getElem_mem hk)
  exact fell_rf V (fell_bound hok h.names hm (h.files _ hm).sure).2.2
/-- Files, in the document's form. -/
def FilesV (w w' : World) (fs : List Fl) (v : Value) (gs : List Fl) : Prop := gs.Perm fs ∧ SortF gs ∧ w'.ownsRow w.heap.size 47 3 v fs.length (flatR (gs.map toRf)) ∧ Below w.heap.size w w'
theorem files_so (h : DiskAt w p bm size calls fs D) :
    Calls Try.prog 13 #[.pointer (some ⟨p, 0, none⟩)] w fun e w' => ∃ v gs, e = .returned v ∧ FilesV w w' fs v gs := by
  refine (files_any h).mono ?_
  rintro e w' ⟨v, rfl, gs, h1, h2, h3, h4⟩
  rw [flat_toRf] at h3
  exact ⟨v, gs, rfl, h1, h2, h3, h4⟩
theorem same_rows (h : DiskAt w p bm size calls fs D) (hg : gs.Perm fs) (sg : SortF gs) (hh : hs.Perm fs) (sh : SortF hs) : hs = gs := files_same h.names hg sg hh sh
end
theorem neq_file (W : World) (a b : ByteArray) (c : Int) : (binOp .neq 47 (.agg #[.string a, .string b, .int .i64 c]) (.agg #[.string a, .string b, .int .i64 c])).run Try.prog W = .ok (.bool false) W := by
  simp [go_sem]
end Go.Proofs.Ytjfohnkfcfifeaa
