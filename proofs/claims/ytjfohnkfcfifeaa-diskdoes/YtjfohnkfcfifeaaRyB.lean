/-
  Both disks at once: the program's, the document's; what the law's 'does' leaves of them, for Sync, Cut, Rename, Remove.
-/
import Derived.Test.YtjfohnkfcfifeaaRyA
import Derived.Test.YtjfohnkfcfifeaaRxI
import Derived.Test.YtjfohnkfcfifeaaRxD
import Derived.Test.YtjfohnkfcfifeaaRxE
import Derived.Test.YtjfohnkfcfifeaaRxF
import Derived.Test.YtjfohnkfcfifeaaRxG
import Derived.Test.YtjfohnkfcfifeaaOpOpen4
import Derived.Deep.RegionHeld3
namespace Go.Proofs.Ytjfohnkfcfifeaa
open Go.RowKit Go.Maps

theorem blk_typeY {w : World} {b : Nat} {t t' : TypeId} {cs cs' : List Value} (h : Blk w b t cs) (k : Blk w b t' cs') : t = t' := by
  have h1 : w.heap[b]? = some (.cells cs.toArray t (0, 0)) := h
  have h2 : w.heap[b]? = some (.cells cs'.toArray t' (0, 0)) := k
  rw [h1] at h2
  simp at h2
  exact h2.2
theorem row_row_neY {w : World} {base base' size size' k k' : Nat} {e e' : TypeId} {u u' : Value} {xs xs' : List Value} (hr : w.ownsRow base e size u k xs) (hr' : w.ownsRow base' e' size' u' k' xs') (hne : e ≠ e') {i : Nat} (h1 : u.ownBlock = some i) (h2 : u'.ownBlock = some i) : False := by
  rcases hr.2 with ⟨rfl, _⟩ | ⟨g, cap, cur, rfl, _, hg, _⟩
  · simp [Value.ownBlock] at h1
  · rcases hr'.2 with ⟨rfl, _⟩ | ⟨g', cap', cur', rfl, _, hg', _⟩
    · simp [Value.ownBlock] at h2
    · have e1 : g = i := by simpa [Value.ownBlock] using h1
      have e2 : g' = i := by simpa [Value.ownBlock] using h2
      subst e1
      subst e2
      rw [hg] at hg'
      simp at hg'
      exact hne hg'.2
section
variable {w w1 w2 : World} {B p bm x : Nat} {size sz c c' : Int} {fs fs' : List Fl} {D : DataW Value} {g g2 : Xd} {eo : Option Addr} {cap : Nat}
theorem foot_offZ (h : DiskAt w p bm size c fs D) (k : XdAt w B x sz g eo cap) : ∀ i, DFoot p bm fs i → ¬ FootZ x eo g.L.length cap i := by
  rintro i (rfl | rfl | ⟨f, hf, rfl | hi⟩) (e | e)
  · subst e
    exact absurd (blk_typeY h.blk k.blk) (by decide)
  · exact h.blk.not_row (by decide) k.row e.symm
  · exact k.blk.not_map h.map e.symm
  · exact row_not_map k.row h.map e.symm
  · have := (h.files f hf).blk
    rw [e] at this
    exact absurd (blk_typeY this k.blk) (by decide)
  · exact (h.files f hf).blk.not_row (by decide) k.row e.symm
  · subst e
    exact k.blk.not_row (by decide) (h.files f hf).row hi.symm
  · exact row_row_neY (h.files f hf).row k.row (by decide) hi e
/-- Both disks, between two calls: all of them is new since w. -/
structure DkAt (w V : World) (p bm : Nat) (size c : Int) (fs : List Fl) (D : DataW Value) (x : Nat) (sz : Int) (g : Xd) (eo : Option Addr) (cap : Nat) : Prop where
  da : DiskAt V p bm size c fs D
  xd : XdAt V w.heap.size x sz g eo cap
  foot : ∀ i, DFoot p bm fs i → w.heap.size ≤ i
  bx : w.heap.size ≤ x
  bel : Below w.heap.size w V
def Dk (w V : World) (p bm : Nat) (size c : Int) (fs : List Fl) (x : Nat) (sz : Int) (g : Xd) : Prop := ∃ D eo cap, DkAt w V p bm size c fs D x sz g eo cap
variable {V V1 V2 : World}
theorem DkAt.zfoot (h : DkAt w V p bm size c fs D x sz g eo cap) : ∀ i, FootZ x eo g.L.length cap i → w.heap.size ≤ i := by
  rintro i (rfl | hi)
  · exact h.bx
  · exact (h.xd.row.lt i hi).1
/-- Both disks stay as they are when something else turns. -/
theorem DkAt.turned {F : Nat → Prop} (h : DkAt w V p bm size c fs D x sz g eo cap) (ht : Turns F V V1) (hF : ∀ i, F i → w.heap.size ≤ i) (h1 : ∀ i, DFoot p bm fs i → ¬ F i) (h2 : ∀ i, FootZ x eo g.L.length cap i → ¬ F i) : DkAt w V1 p bm size c fs D x sz g eo cap :=
  ⟨h.da.turned ht h1, h.xd.turned ht h2, h.foot, h.bx, h.bel.trans (ht.below hF h.bel.size)⟩
theorem DkAt.below (h : DkAt w V p bm size c fs D x sz g eo cap) (hb : Below V.heap.size V V1) : DkAt w V1 p bm size c fs D x sz g eo cap :=
  h.turned (F := fun _ => False) (Turns.of_below hb (Nat.le_refl _)) (fun _ h => h.elim) (fun _ _ h => h) (fun _ _ h => h)
theorem Dk.below (h : Dk w V p bm size c fs x sz g) (hb : Below V.heap.size V V1) : Dk w V1 p bm size c fs x sz g := by
  obtain ⟨D, eo, cap, h⟩ := h
  exact ⟨D, eo, cap, h.below hb⟩
/-- Behind a call of the program's. -/
theorem Dk.prog (h : Dk w V p bm size c fs x sz g) (hn : Now V V1 p bm size c' fs fs') : Dk w V1 p bm size c' fs' x sz g := by
  obtain ⟨D, eo, cap, h⟩ := h
  obtain ⟨D', hd, ht, hf⟩ := hn
  refine ⟨D', eo, cap, hd, h.xd.turned ht (fun i hi hf => foot_offZ h.da h.xd i hf hi), fun i hi => ?_, h.bx, h.bel.trans (ht.below h.foot h.bel.size)⟩
  rcases hf i hi with h1 | h1
  · exact h.foot i h1
  · exact Nat.le_trans h.bel.size h1
/-- Behind a call of the document's. -/
theorem Dk.doc (h : Dk w V p bm size c fs x sz g) (hn : ∀ eo cap, XdAt V w.heap.size x sz g eo cap → XdTo w.heap.size V V1 x sz (FootZ x eo g.L.length cap) g2) : Dk w V1 p bm size c fs x sz g2 := by
  obtain ⟨D, eo, cap, h⟩ := h
  obtain ⟨eo', cap', hx, ht, _⟩ := hn eo cap h.xd
  exact ⟨D, eo', cap', h.da.turned ht (foot_offZ h.da h.xd), hx, h.foot, h.bx, h.bel.trans (ht.below h.zfoot h.bel.size)⟩
theorem Dk.grew (h : Dk w V p bm size c fs x sz g) : w.heap.size ≤ V.heap.size := by
  obtain ⟨D, eo, cap, h⟩ := h
  exact h.bel.size
theorem Dk.bel (h : Dk w V p bm size c fs x sz g) : Below w.heap.size w V := by
  obtain ⟨D, eo, cap, h⟩ := h
  exact h.bel
theorem Dk.da (h : Dk w V p bm size c fs x sz g) : ∃ D, DiskAt V p bm size c fs D := by
  obtain ⟨D, eo, cap, h⟩ := h
  exact ⟨D, h.da⟩
/-- Blocks of other types stay when the document's disk turns. -/
def KeptZ (V V' : World) : Prop := ∀ b t cs, Blk V b t cs → t ≠ 43 → t ≠ 47 → Blk V' b t cs
theorem XdAt.kept (h : XdAt V B x sz g eo cap) (ht : Turns (FootZ x eo g.L.length cap) V V1) : KeptZ V V1 := fun b t cs hb h1 h2 => ht.blk hb (by
  rintro (e | e)
  · rw [e] at hb
    exact h1 (blk_typeY hb h.blk)
  · exact hb.not_row h2 h.row e.symm)
/-- A call of the document's, whatever its row. -/
theorem Dk.call {F : Nat} {args : Array Value} {P : Ending → Prop} (h : Dk w V p bm size c fs x sz g) (hc : ∀ eo cap, XdAt V w.heap.size x sz g eo cap → Calls Try.prog F args V fun e w' => P e ∧ XdTo w.heap.size V w' x sz (FootZ x eo g.L.length cap) g2) : Calls Try.prog F args V fun e w' => P e ∧ Dk w w' p bm size c fs x sz g2 ∧ KeptZ V w' := by
  obtain ⟨D, eo, cap, h⟩ := h
  refine (hc eo cap h.xd).mono ?_
  rintro e w' ⟨h1, eo', cap', hx, ht, _⟩
  exact ⟨h1, ⟨D, eo', cap', h.da.turned ht (foot_offZ h.da h.xd), hx, h.foot, h.bx, h.bel.trans (ht.below h.zfoot h.bel.size)⟩, h.xd.kept ht⟩
theorem Dk.sync (h : Dk w V p bm size c fs x sz g) (s : ByteArray) : Calls Try.prog 26 #[.pointer (some ⟨x, 0, none⟩), .string s] V fun e w' => e = .returned (.int .i64 (syncC g s)) ∧ Dk w w' p bm size c fs x sz (syncX g s) ∧ KeptZ V w' := h.call (fun _ _ hx => hx.sync s)
theorem Dk.cut (h : Dk w V p bm size c fs x sz g) (s : ByteArray) (m : Int) : Calls Try.prog 28 #[.pointer (some ⟨x, 0, none⟩), .string s, .int .i64 m] V fun e w' => e = .returned (.int .i64 (cutC g s m)) ∧ Dk w w' p bm size c fs x sz (cutX g s m) ∧ KeptZ V w' := h.call (fun _ _ hx => hx.cut s m)
theorem Dk.remove (h : Dk w V p bm size c fs x sz g) (s : ByteArray) : Calls Try.prog 31 #[.pointer (some ⟨x, 0, none⟩), .string s] V fun e w' => e = .returned (.int .i64 (remC g s)) ∧ Dk w w' p bm size c fs x sz (remX g s) ∧ KeptZ V w' := h.call (fun _ _ hx => hx.remove h.grew s)
theorem Dk.rename (h : Dk w V p bm size c fs x sz g) (s t : ByteArray) (ht : t.size ≤ maxLen) : Calls Try.prog 30 #[.pointer (some ⟨x, 0, none⟩), .string s, .string t] V fun e w' => e = .returned (.int .i64 (renC g s t)) ∧ Dk w w' p bm size c fs x sz (renX g s t) ∧ KeptZ V w' := h.call (fun _ _ hx => hx.rename h.grew s t ht)
theorem Dk.append (h : Dk w V p bm size c fs x sz g) (s : ByteArray) (hs : s.size ≤ maxLen) (ao : Option Addr) (len cp : Nat) (bs : List Int) (hH : Held V ao len cp bs) : Calls Try.prog 25 #[.pointer (some ⟨x, 0, none⟩), .string s, .slice ao len cp] V fun e w' => e = .returned (.int .i64 (appC g sz s len)) ∧ Dk w w' p bm size c fs x sz (appX g sz s (strOfNums bs)) ∧ KeptZ V w' := h.call (fun _ _ hx => hx.append h.grew s hs ao len cp bs hH)
theorem Dk.stop (h : Dk w V p bm size c fs x sz g) (m : Int) (hm : -9223372036854775808 ≤ m ∧ m ≤ 9223372036854775807) : Calls Try.prog 34 #[.pointer (some ⟨x, 0, none⟩), .int .i64 m] V fun e w' => e = .returned (.tuple #[]) ∧ Dk w w' p bm size c fs x sz (stopX g m) ∧ KeptZ V w' := h.call (fun _ _ hx => hx.stop m hm)
/-- A call of the program's keeps a block that the disk has not. -/
theorem now_blk {W w9 : World} {p bm b : Nat} {size c : Int} {fs fs' : List Fl} {t : TypeId} {cs : List Value} (hn : Now W w9 p bm size c fs fs') (hb : Blk W b t cs) (hf : ¬ DFoot p bm fs b) : Blk w9 b t cs := by
  obtain ⟨D', _, ht, _⟩ := hn
  exact ht.blk hb hf
/-- What a change of both answers and leaves. -/
def Two (R : Int → List Fl → Int → Prop) (cd : Int) (g2 : Xd) (w : World) (p bm : Nat) (size : Int) (x : Nat) (sz : Int) (e : Ending) (V : World) : Prop := ∃ er fs' c', e = .returned (.bool (er == cd)) ∧ R er fs' c' ∧ Dk w V p bm size c' fs' x sz g2
end
end Go.Proofs.Ytjfohnkfcfifeaa
