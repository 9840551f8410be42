/-
  The document's disk: New, Stop, Crash.
-/
import Derived.Test.YtjfohnkfcfifeaaRxC
import Derived.Test.YtjfohnkfcfifeaaDiskM
import Derived.BigRegion
namespace Go.Proofs.Ytjfohnkfcfifeaa
open Go.RowKit Go.Maps
set_option linter.unusedSimpArgs false

/-- May this one be, behind those? -/
def okR (g : Xd) (pre : List (ByteArray × Int)) (t : ByteArray × Int) : Prop := tfind pre t.1 = none ∧ 0 ≤ t.2 ∧ ¬ rint g.L t.1 < 0 ∧ t.2 ≤ ((fileAt g t.1).bytes.size : Int) - (fileAt g t.1).sure
def okRs (g : Xd) (ts : List (ByteArray × Int)) : Prop := ∀ i (hi : i < ts.length), okR g (ts.take i) ts[i]
def keepOf (ts : List (ByteArray × Int)) (s : ByteArray) : Int := (tfind ts s).getD 0
def fellR (ts : List (ByteArray × Int)) (r : Rf) : Rf := ⟨r.name, r.bytes.extract 0 (r.sure + keepOf ts r.name).toNat, r.sure + keepOf ts r.name⟩
open Classical in
noncomputable def crashC (g : Xd) (ts : List (ByteArray × Int)) : Int := if okRs g ts then 0 else 1
open Classical in
noncomputable def crashX (g : Xd) (ts : List (ByteArray × Int)) : Xd := if okRs g ts then { g with L := g.L.map (fellR ts), stops := false } else g
theorem tfind_none {ts : List (ByteArray × Int)} {s : ByteArray} (h : ∀ i (hi : i < ts.length), ts[i].1 ≠ s) : tfind ts s = none := by
  unfold tfind
  have : ts.find? (fun t => decide (t.1 = s)) = none := by
    rw [List.find?_eq_none]
    intro t ht
    obtain ⟨i, hi, rfl⟩ := List.getElem_of_mem ht
    simpa using h i hi
  rw [this]
  rfl
theorem tfind_not {ts : List (ByteArray × Int)} {s : ByteArray} (h : tfind ts s = none) : ∀ i (hi : i < ts.length), ts[i].1 ≠ s := by
  intro i hi e
  unfold tfind at h
  simp only [Option.map_eq_none_iff, List.find?_eq_none] at h
  have := h ts[i] (List.getElem_mem hi)
  simp [e] at this
theorem rnames_unique {L : List Rf} {s : ByteArray} (hu : L.Pairwise (fun a b => a.name ≠ b.name)) {k : Nat} (hk : k < L.length) (he : L[k].name = s) : ridx L s = k := by
  unfold ridx
  rw [List.findIdx_eq hk]
  refine ⟨by simpa using he, fun j hj => ?_⟩
  have := List.pairwise_iff_getElem.1 hu j k (by omega) hk hj
  simp only [decide_eq_false_iff_not]
  intro e
  exact this (e.trans he.symm)
theorem mapTo_len (f : Rf → Rf) (L : List Rf) (k : Nat) : ((L.take k).map f ++ L.drop k).length = L.length := by simp; omega
theorem mapTo_at (f : Rf → Rf) (L : List Rf) (k : Nat) (hk : k < L.length) : ((L.take k).map f ++ L.drop k)[k]? = some L[k] := by
  rw [List.getElem?_append_right (by simp; omega)]
  simp [Nat.min_eq_left (Nat.le_of_lt hk), hk]
theorem mapTo_step (f : Rf → Rf) (L : List Rf) (k : Nat) (hk : k < L.length) : ((L.take k).map f ++ L.drop k).set k (f L[k]) = (L.take (k + 1)).map f ++ L.drop (k + 1) := by
  rw [List.set_append_right _ _ (by simp; omega)]
  simp only [List.length_map, List.length_take, Nat.min_eq_left (Nat.le_of_lt hk), Nat.sub_self]
  rw [List.drop_eq_getElem_cons hk, List.set_cons_zero, List.take_succ_eq_append_getElem hk, List.map_append, List.append_assoc]
  rfl
section
variable {w : World} {B x : Nat} {size : Int} {g : Xd} {cap : Nat}
theorem rnew_bad (w : World) (y : Int) (h : y < 0 ∨ 268435456 < y) : Calls Try.prog 6 #[.int .i64 y] w fun e w' => e = .returned (.tuple #[.pointer none, .int .i64 1]) ∧ w' = w := by
  by_cases h1 : y < 0
  · go_enter Try.func6, Try.ntmps6
    go_wp2
    go_ret2
    exact ⟨rfl, rfl⟩
  · have h2 : 268435456 < y := by omega
    go_enter Try.func6, Try.ntmps6
    go_wp2
    go_ret2
    exact ⟨rfl, rfl⟩
theorem rnew_good (w : World) (y : Int) (h0 : ¬ y < 0) (h1 : ¬ 268435456 < y) : Calls Try.prog 6 #[.int .i64 y] w fun e w' => e = .returned (.tuple #[.pointer (some ⟨w.heap.size, 0, none⟩), .int .i64 0]) ∧ w' = w.alloc (.cells #[.int .i64 y, .slice none 0 0, .bool false, .int .i64 0] 43) := by
  go_enter Try.func6, Try.ntmps6
  go_wp2
  go_ret2
  exact ⟨rfl, rfl⟩
theorem XdAt.new (w : World) (y : Int) (B : Nat) (h0 : 0 ≤ y) (h1 : y ≤ 268435456) : XdAt (w.alloc (.cells #[.int .i64 y, .slice none 0 0, .bool false, .int .i64 0] 43)) B w.heap.size y ⟨[], false, 0⟩ none 0 :=
  ⟨Blk.new w 43 [.int .i64 y, .slice none 0 0, .bool false, .int .i64 0], World.ownsRow_nil _ _ _ _, by simp, by simp [rtotal]; exact h0, h1, ⟨by decide, fun h => by cases h⟩⟩
def stopX (g : Xd) (m : Int) : Xd := if g.off then g else { g with stops := decide (0 ≤ m), calls := m }
set_option maxRecDepth 100000 in
theorem XdAt.stop {eo : Option Addr} (h : XdAt w B x size g eo cap) (m : Int) (hm : -9223372036854775808 ≤ m ∧ m ≤ 9223372036854775807) : Calls Try.prog 34 #[.pointer (some ⟨x, 0, none⟩), .int .i64 m] w fun e w' => e = .returned (.tuple #[]) ∧ XdTo B w w' x size (FootZ x eo g.L.length cap) (stopX g m) := by
  have H := hid h
  have HM := hid hm
  have HOFF := hid (roffX h)
  have c2 := h.blk.cell (i := 2) rfl
  have c3 := h.blk.cell (i := 3) rfl
  have f2 := h.blk.frozen 2
  have f3 := h.blk.frozen 3
  clear h hm
  by_cases hoff : g.off = true
  · have HX : Hid (stopX g m = g) := by show _ = _; unfold stopX; rw [if_pos hoff]
    rw [hoff] at HOFF
    clear hoff
    go_enter Try.func34, Try.ntmps34
    go_wp2_with fail
    refine HOFF.out.mono ?_
    rintro e w1 ⟨rfl, rfl⟩
    go_wp2
    go_end0
    exact ⟨rfl, by rw [HX.out]; exact XdTo.same H.out (Below.refl _ _)⟩
  have hoff : g.off = false := by simpa using hoff
  have HX : Hid (stopX g m = { g with stops := decide (0 ≤ m), calls := m }) := by show _ = _; unfold stopX; rw [hoff, if_neg (by decide)]
  rw [hoff] at HOFF
  clear hoff
  have HW : Hid (∀ W, W = (w.setCell ⟨x, 2, none⟩ (.bool (decide (0 ≤ m)))).setCell ⟨x, 3, none⟩ (.int .i64 m) → XdTo B w W x size (FootZ x eo g.L.length cap) (stopX g m)) := fun W hW => by
    have hb := (H.out.blk.set 2 (.bool (decide (0 ≤ m)))).set 3 (.int .i64 m)
    have ht : Turns (fun i => i = x) w W := by
      rw [hW]
      exact ((Turns.refl (fun i => i = x) _).setCell (p := ⟨x, 2, none⟩) (.inl rfl) _).setCell (p := ⟨x, 3, none⟩) (.inl rfl) _
    rw [HX.out]
    refine ⟨eo, cap, ⟨by rw [hW]; exact hb, ht.row H.out.row (fun b hbo e => by subst e; exact H.out.blk.not_row (by decide) H.out.row hbo.symm), H.out.few, H.out.room, H.out.big, ⟨HM.out, fun h => of_decide_eq_true h⟩⟩, ht.mono (fun i hi => .inl hi), fun i hi => .inl hi⟩
  go_enter Try.func34, Try.ntmps34
  go_wp2_with fail
  refine HOFF.out.mono ?_
  rintro e w1 ⟨rfl, rfl⟩
  go_wp2
  go_end0
  exact ⟨rfl, HW.out _ rfl⟩
end
end Go.Proofs.Ytjfohnkfcfifeaa
