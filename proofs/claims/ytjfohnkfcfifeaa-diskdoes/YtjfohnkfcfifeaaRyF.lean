/-
  Package disk: a Crash that is refused; every call as one step of a disk with no Stop.
-/
import Derived.Test.YtjfohnkfcfifeaaDiskO
import Derived.Test.YtjfohnkfcfifeaaDiskP
import Derived.Test.YtjfohnkfcfifeaaDiskQ
import Derived.Test.YtjfohnkfcfifeaaDiskT
import Derived.Test.YtjfohnkfcfifeaaDiskU
import Derived.Deep.OwnRows
import Derived.Laws.OwnMore
import Derived.Test.YtjfohnkfcfifeaaRxA
namespace Go.Proofs.Ytjfohnkfcfifeaa
open Go.RowKit Go.Maps

section
variable {w : World} {p bm : Nat} {size calls : Int} {fs : List Fl} {D : DataW Value}
theorem crash_bad (h : DiskAt w p bm size calls fs D) (ao : Option Addr) (cap : Nat) (ts : List (ByteArray × Int)) (hT : HeldT w ao ts) (hbad : ¬ okFrom fs [] ts) :
    Calls Try.prog 14 #[.pointer (some ⟨p, 0, none⟩), .slice ao ts.length cap] w fun e w' => e = .returned (.int .i64 1) ∧ Now w w' p bm size calls fs fs := by
  have HCL := hid h.closed
  have HLA := hid (lasting_bad h ao cap ts hT hbad)
  have HH := hid h
  clear h hT hbad
  generalize ts.length = n at *
  go_enter Try.func14, Try.ntmps14
  go_wp2_with fail
  refine HCL.out.mono ?_
  rintro e w' ⟨rfl, rfl⟩
  go_wp2_with fail
  refine HLA.out.mono ?_
  rintro e w1 ⟨rfl, hb⟩
  have HB := hid hb
  clear hb
  go_wp2
  go_ret
  exact ⟨rfl, D, HH.out.below HB.out (Nat.le_refl _), Turns.of_below HB.out (Nat.le_refl _), fun i hi => .inl hi⟩
end

/-- One step: whatever it answers, the disk is one. -/
def Step (B : Nat) (w : World) (p bm : Nat) (size : Int) (e : Ending) (w' : World) : Prop := ∃ (er : Int) (fs : List Fl), e = .returned (.int .i64 er) ∧ DiskIn B w w' p bm size (-1) fs
section
variable {B : Nat} {w w1 : World} {p bm : Nat} {size : Int} {fs : List Fl}
theorem Step.now {w2 : World} {er : Int} {fs' : List Fl} (h : DiskIn B w w1 p bm size (-1) fs) (hn : Now w1 w2 p bm size (-1) fs fs') : Step B w p bm size (.returned (.int .i64 er)) w2 := ⟨er, fs', rfl, h.now hn⟩
theorem step_append (h : DiskIn B w w1 p bm size (-1) fs) (s : ByteArray) (hs : s.size ≤ maxLen) (ao : Option Addr) (len cap : Nat) (bs : List Int) (hB : Held w1 ao len cap bs) :
    Calls Try.prog 9 #[.pointer (some ⟨p, 0, none⟩), .string s, .slice ao len cap] w1 (Step B w p bm size) := by
  obtain ⟨D, hd, _⟩ := id h
  refine (append_any hd (by decide) s hs ao len cap bs hB).mono ?_
  rintro e w' ⟨er, rfl, h1 | h1 | h1⟩
  · exact Step.now h h1.2.2
  · exact Step.now h h1.2.2.2
  · rcases h1.2.2.2 with ⟨_, _, q, v', hn⟩ | ⟨f, v', _, hn⟩
    · exact Step.now h hn
    · exact Step.now h hn
theorem step_sync (h : DiskIn B w w1 p bm size (-1) fs) (s : ByteArray) (hs : s.size ≤ maxLen) :
    Calls Try.prog 15 #[.pointer (some ⟨p, 0, none⟩), .string s] w1 (Step B w p bm size) := by
  obtain ⟨D, hd, _⟩ := id h
  refine (sync_op hd (by decide) s hs).mono ?_
  rintro e w' ⟨er, rfl, ⟨_, _, hn⟩ | ⟨f, _, _, hn⟩⟩
  · exact Step.now h hn
  · exact Step.now h hn
theorem step_cut (h : DiskIn B w w1 p bm size (-1) fs) (s : ByteArray) (hs : s.size ≤ maxLen) (x : Int) :
    Calls Try.prog 27 #[.pointer (some ⟨p, 0, none⟩), .string s, .int .i64 x] w1 (Step B w p bm size) := by
  obtain ⟨D, hd, _⟩ := id h
  refine (cut_op hd (by decide) s hs x).mono ?_
  rintro e w' ⟨er, rfl, ⟨_, _, hn⟩ | ⟨f, _, _, _, hn⟩ | ⟨f, v, _, _, _, _, hn⟩⟩
  · exact Step.now h hn
  · exact Step.now h hn
  · exact Step.now h hn
theorem step_remove (h : DiskIn B w w1 p bm size (-1) fs) (s : ByteArray) (hs : s.size ≤ maxLen) :
    Calls Try.prog 10 #[.pointer (some ⟨p, 0, none⟩), .string s] w1 (Step B w p bm size) := by
  obtain ⟨D, hd, _⟩ := id h
  refine (remove_op hd (by decide) s hs).mono ?_
  rintro e w' ⟨er, rfl, ⟨_, _, hn⟩ | ⟨f, _, _, hn⟩⟩
  · exact Step.now h hn
  · exact Step.now h hn
theorem step_rename (h : DiskIn B w w1 p bm size (-1) fs) (s t : ByteArray) (hs : s.size ≤ maxLen) (ht : t.size ≤ maxLen) :
    Calls Try.prog 29 #[.pointer (some ⟨p, 0, none⟩), .string s, .string t] w1 (Step B w p bm size) := by
  obtain ⟨D, hd, _⟩ := id h
  refine (rename_op hd (by decide) s t hs ht).mono ?_
  rintro e w' ⟨er, rfl, ⟨_, _, hn⟩ | ⟨_, _, _, hn⟩ | ⟨f, _, _, _, hn⟩⟩
  · exact Step.now h hn
  · exact Step.now h hn
  · exact Step.now h hn
theorem step_crash (h : DiskIn B w w1 p bm size (-1) fs) (ao : Option Addr) (cap : Nat) (ts : List (ByteArray × Int)) (hT : HeldT w1 ao ts) :
    Calls Try.prog 14 #[.pointer (some ⟨p, 0, none⟩), .slice ao ts.length cap] w1 (Step B w p bm size) := by
  obtain ⟨D, hd, _⟩ := id h
  by_cases hok : okFrom fs [] ts
  · refine (crash_ok hd ao cap ts hT hok).mono ?_
    rintro e w' ⟨rfl, V, hn⟩
    exact Step.now h hn
  · refine (crash_bad hd ao cap ts hT hok).mono ?_
    rintro e w' ⟨rfl, hn⟩
    exact Step.now h hn
end
end Go.Proofs.Ytjfohnkfcfifeaa
/-
  Package disk: Files tells the same files in the same order, also behind a crash.
-/
namespace Go.Proofs.Ytjfohnkfcfifeaa
open Go.RowKit Go.Maps

theorem cmpF_name {x y : Fl} (h1 : ¬ cmpF x y < 0) (h2 : ¬ cmpF y x < 0) : x.name = y.name := by
  have h3 : cmpF x y = - cmpF y x := cb_anti _ _
  have h4 : cmpF x y = 0 := by omega
  have h5 := cb_eq _ _ h4
  cases hx : x.name with
  | mk a =>
    cases hy : y.name with
    | mk b =>
      rw [hx, hy] at h5
      congr 1
      exact Array.ext' h5
theorem sorted_one : ∀ {xs ys : List Fl}, xs.Perm ys → xs.Pairwise (fun x y => ¬ cmpF y x < 0) → ys.Pairwise (fun x y => ¬ cmpF y x < 0) → xs.Pairwise (fun x y => x.name ≠ y.name) → xs = ys
  | [], ys, hp, _, _, _ => (List.nil_perm.1 hp).symm ▸ rfl
  | x :: xs, [], hp, _, _, _ => by
    have := hp.length_eq
    simp at this
  | x :: xs, y :: ys, hp, hs, ht, hn => by
    obtain ⟨s1, s2⟩ := List.pairwise_cons.1 hs
    obtain ⟨t1, t2⟩ := List.pairwise_cons.1 ht
    obtain ⟨n1, n2⟩ := List.pairwise_cons.1 hn
    have hxy : x = y := by
      have hx : x ∈ y :: ys := hp.subset (by simp)
      have hy : y ∈ x :: xs := hp.symm.subset (by simp)
      rcases List.mem_cons.1 hx with e | hx'
      · exact e
      · rcases List.mem_cons.1 hy with e | hy'
        · exact e.symm
        · exact absurd (cmpF_name (t1 x hx') (s1 y hy')) (n1 y hy')
    subst hxy
    rw [sorted_one (List.Perm.cons_inv hp) s2 t2 n2]
theorem perm_names {gs fs : List Fl} (hp : gs.Perm fs) (hn : fs.Pairwise (fun x y => x.name ≠ y.name)) : gs.Pairwise (fun x y => x.name ≠ y.name) :=
  hp.symm.pairwise hn (fun h => fun e => h e.symm)
/-- Twice the same. -/
theorem files_same {fs gs hs : List Fl} (hn : fs.Pairwise (fun x y => x.name ≠ y.name)) (hg : gs.Perm fs) (sg : gs.Pairwise (fun x y => ¬ cmpF y x < 0)) (hh : hs.Perm fs) (sh : hs.Pairwise (fun x y => ¬ cmpF y x < 0)) : hs = gs :=
  sorted_one (hh.trans hg.symm) sh sg (perm_names hh hn)
/-- Behind a change of each that keeps its name. -/
theorem files_map {fs gs hs : List Fl} (φ : Fl → Fl) (hφ : ∀ f, (φ f).name = f.name) (hn : fs.Pairwise (fun x y => x.name ≠ y.name)) (hg : gs.Perm fs) (sg : gs.Pairwise (fun x y => ¬ cmpF y x < 0)) (hh : hs.Perm (fs.map φ)) (sh : hs.Pairwise (fun x y => ¬ cmpF y x < 0)) : hs = gs.map φ := by
  have h1 : (gs.map φ).Perm (fs.map φ) := hg.map φ
  have s1 : (gs.map φ).Pairwise (fun x y => ¬ cmpF y x < 0) := by
    rw [List.pairwise_map]
    refine sg.imp ?_
    intro a b hab
    unfold cmpF at *
    rw [hφ, hφ]
    exact hab
  have n1 : (fs.map φ).Pairwise (fun x y => x.name ≠ y.name) := by
    rw [List.pairwise_map]
    refine hn.imp ?_
    intro a b hab
    rw [hφ, hφ]
    exact hab
  exact sorted_one (hh.trans h1.symm) sh s1 (perm_names hh n1)
end Go.Proofs.Ytjfohnkfcfifeaa
/-
  Package disk: what files have together; appends that fill the disk.
-/
namespace Go.Proofs.Ytjfohnkfcfifeaa
open Go.RowKit Go.Maps

theorem strOf_len (p : List Int) : (strOfNums p).size = p.length := by
  simp [strOfNums, ByteArray.size]
theorem flatF_get : ∀ {gs : List Fl} {j : Nat} (h : j < gs.length), (flatF gs)[j * 3 + 1]? = some (.string (strOfNums gs[j].bytes))
  | g :: gs, 0, _ => by simp [flatF, Fl.cells]
  | g :: gs, j + 1, h => by
    have hj : j < gs.length := by simpa using h
    have := flatF_get hj
    have e1 : (j + 1) * 3 + 1 = j * 3 + 1 + 1 + 1 + 1 := by omega
    rw [e1]
    simpa [flatF, Fl.cells] using this
theorem total_take {gs : List Fl} {j : Nat} (h : j < gs.length) : total (gs.take (j + 1)) = total (gs.take j) + gs[j].bytes.length := by
  rw [List.take_succ_eq_append_getElem h, total_snoc]
theorem total_perm {gs fs : List Fl} (h : gs.Perm fs) : total gs = total fs := by
  induction h with
  | nil => rfl
  | cons x _ ih => simp only [total]; omega
  | swap x y l => simp only [total]; omega
  | trans _ _ h1 h2 => omega
theorem total_take_le (gs : List Fl) (j : Nat) : total (gs.take j) ≤ total gs := by
  have h := total_app (gs.take j) (gs.drop j)
  rw [List.take_append_drop] at h
  omega
theorem held_made (w : World) (n : Nat) (hn : n ≤ maxLen) : Held (w.alloc (.cells (madeCells #[.int .u8 0] n) 5)) (some ⟨w.heap.size, 0, none⟩) n n (List.replicate n 0) := by
  have hcs : madeCells #[Value.int .u8 0] n = (nums (List.replicate n 0)).toArray := by
    apply Array.ext'
    rw [toList_madeCells_one]
    simp [nums]
  rw [hcs]
  refine ⟨by simp, Nat.le_refl _, hn, fun h => (by cases h), fun c hc => by have := List.eq_of_mem_replicate hc; omega, fun ad ha j hj => ?_, fun ad ha _ => ?_⟩
  · cases ha
    rw [Addr.add_lit]
    refine (Blk.new w 5 (nums (List.replicate n 0))).cell (i := 0 + j) ?_
    simp [nums, hj]
  · cases ha
    simp
theorem name_new : nameS ⟨#[110, 101, 119]⟩ = true := by decide
section
variable {B : Nat} {w w1 : World} {p bm : Nat} {size : Int} {fs : List Fl}
theorem fill_over (h : DiskIn B w w1 p bm size (-1) fs) (ao : Option Addr) (len cap : Nat) (bs : List Int) (hB : Held w1 ao len cap bs) (hov : size < (total fs : Int) + len) :
    Calls Try.prog 9 #[.pointer (some ⟨p, 0, none⟩), .string ⟨#[110, 101, 119]⟩, .slice ao len cap] w1 fun e w' => e = .returned (.int .i64 2) ∧ DiskIn B w w' p bm size (-1) fs := by
  obtain ⟨D, hd, _⟩ := id h
  refine (append_any hd (by decide) _ (by unfold maxLen; decide) ao len cap bs hB).mono ?_
  rintro e w' ⟨er, rfl, h1 | h1 | h1⟩
  · have := h1.1
    rw [name_new] at this
    cases this
  · rw [h1.2.2.1]
    exact ⟨rfl, h.now h1.2.2.2⟩
  · have := h1.2.1
    omega
theorem fill_up (h : DiskIn B w w1 p bm size (-1) fs) (ao : Option Addr) (len cap : Nat) (bs : List Int) (hB : Held w1 ao len cap bs) (hex : (total fs : Int) + len = size) (hf : fs.length < 64) :
    Calls Try.prog 9 #[.pointer (some ⟨p, 0, none⟩), .string ⟨#[110, 101, 119]⟩, .slice ao len cap] w1 fun e w' => e = .returned (.int .i64 0) ∧ ∃ fs', DiskIn B w w' p bm size (-1) fs' ∧ (total fs' : Int) = size := by
  obtain ⟨D, hd, _⟩ := id h
  have hbl := hB.hlen
  refine (append_any hd (by decide) _ (by unfold maxLen; decide) ao len cap bs hB).mono ?_
  rintro e w' ⟨er, rfl, h1 | h1 | h1⟩
  · have := h1.1
    rw [name_new] at this
    cases this
  · rcases h1.2.1 with h2 | ⟨_, h2⟩ <;> omega
  · rw [h1.2.2.1]
    refine ⟨rfl, ?_⟩
    rcases h1.2.2.2 with ⟨_, _, q, v', hn⟩ | ⟨f, v', hff, hn⟩
    · refine ⟨_, h.now hn, ?_⟩
      rw [total_snoc]
      show ((total fs + bs.length : Nat) : Int) = size
      omega
    · refine ⟨_, h.now hn, ?_⟩
      have hm := ffind_mem hff
      have ht := total_setF hd.names (f := f) (f' := { f with v := v', bytes := f.bytes ++ bs }) hm.1 rfl
      have hl : ({ f with v := v', bytes := f.bytes ++ bs } : Fl).bytes.length = f.bytes.length + bs.length := by simp
      rw [hl] at ht
      omega
end
end Go.Proofs.Ytjfohnkfcfifeaa
/-
  Files as rows of the document's form; what a Crash leaves of a row.
-/
namespace Go.Proofs.Ytjfohnkfcfifeaa
open Go.RowKit Go.Maps

def toRf (f : Fl) : Rf := ⟨f.name, strOfNums f.bytes, (f.sure : Int)⟩
/-- By rising names. -/
def SortF (gs : List Fl) : Prop := gs.Pairwise (fun x y => ¬ cmpF y x < 0)
theorem flat_toRf : ∀ (gs : List Fl), flatF gs = flatR (gs.map toRf)
  | [] => rfl
  | g :: r => by
    have := flat_toRf r
    unfold flatF flatR at this ⊢
    rw [List.flatMap_cons, List.map_cons, List.flatMap_cons, this]
    rfl
theorem str_take (l : List Int) (n : Nat) : (strOfNums l).extract 0 n = strOfNums (l.take n) := by
  apply ByteArray.ext
  rw [ByteArray.data_extract]
  apply Array.toList_inj.1
  simp [strOfNums, List.map_take]
/-- b is what is left of a. -/
structure FellRf (a b : Rf) : Prop where
  name : b.name = a.name
  all : b.sure = (b.bytes.size : Int)
  sure : a.sure ≤ (b.bytes.size : Int)
  size : b.bytes.size ≤ a.bytes.size
  bytes : a.bytes.extract 0 b.bytes.size = b.bytes
theorem fell_rf {f : Fl} {ts : List (ByteArray × Int)} (V : ByteArray → Value) (h : fall ts f ≤ f.bytes.length) : FellRf (toRf f) (toRf (fellOne ts V (fun _ => false) f)) := by
  have e : fellOne ts V (fun _ => false) f = f.cutTo (fall ts f) (V f.name) := rfl
  have hsz : (strOfNums (f.bytes.take (fall ts f))).size = fall ts f := by
    rw [strOfNums_size, List.length_take]
    omega
  rw [e]
  refine ⟨rfl, ?_, ?_, ?_, ?_⟩
  · show ((fall ts f : Nat) : Int) = _
    show _ = (((strOfNums (f.bytes.take (fall ts f))).size : Nat) : Int)
    rw [hsz]
  · show (f.sure : Int) ≤ (((strOfNums (f.bytes.take (fall ts f))).size : Nat) : Int)
    rw [hsz]
    unfold fall
    omega
  · show (strOfNums (f.bytes.take (fall ts f))).size ≤ (strOfNums f.bytes).size
    rw [hsz, strOfNums_size]
    exact h
  · show (strOfNums f.bytes).extract 0 (strOfNums (f.bytes.take (fall ts f))).size = strOfNums (f.bytes.take (fall ts f))
    rw [hsz, str_take]
section
variable {w : World} {p bm : Nat} {size calls : Int} {fs gs hs : List Fl} {D : DataW Value} {ts : List (ByteArray × Int)}
theorem fell_rows (h : DiskAt w p bm size calls fs D) (hok : okFrom fs [] ts) (V : ByteArray → Value) (hg : gs.Perm fs) (sg : SortF gs) (hh : hs.Perm (fell ts V (fun _ => false) fs)) (sh : SortF hs) :
    ∀ k (h1 : k < (gs.map toRf).length) (h2 : k < (hs.map toRf).length), FellRf (gs.map toRf)[k] (hs.map toRf)[k] := by
  have e := files_map (fellOne ts V (fun _ => false)) (fellOne_name ts V _) h.names hg sg hh sh
  subst e
  intro k h1 h2
  have hk : k < gs.length := by simpa using h1
  simp only [List.getElem_map]
  have hm : gs[k] ∈ fs := hg.subset (List.getElem_mem hk)
  exact fell_rf V (fell_bound hok h.names hm (h.files _ hm).sure).2.2
/-- Files, in the document's form. -/
def FilesV (w w' : World) (fs : List Fl) (v : Value) (gs : List Fl) : Prop := gs.Perm fs ∧ SortF gs ∧ w'.ownsRow w.heap.size 47 3 v fs.length (flatR (gs.map toRf)) ∧ Below w.heap.size w w'
theorem files_so (h : DiskAt w p bm size calls fs D) :
    Calls Try.prog 13 #[.pointer (some ⟨p, 0, none⟩)] w fun e w' => ∃ v gs, e = .returned v ∧ FilesV w w' fs v gs := by
  refine (files_any h).mono ?_
  rintro e w' ⟨v, rfl, gs, h1, h2, h3, h4⟩
  rw [flat_toRf] at h3
  exact ⟨v, gs, rfl, h1, h2, h3, h4⟩
theorem same_rows (h : DiskAt w p bm size calls fs D) (hg : gs.Perm fs) (sg : SortF gs) (hh : hs.Perm fs) (sh : SortF hs) : hs = gs := files_same h.names hg sg hh sh
end
theorem neq_file (W : World) (a b : ByteArray) (c : Int) : (binOp .neq 47 (.agg #[.string a, .string b, .int .i64 c]) (.agg #[.string a, .string b, .int .i64 c])).run Try.prog W = .ok (.bool false) W := by
  simp [go_sem]
end Go.Proofs.Ytjfohnkfcfifeaa
