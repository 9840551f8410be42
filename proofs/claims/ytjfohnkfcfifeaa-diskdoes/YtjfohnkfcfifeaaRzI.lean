/-
  The law's 'does' of every change, beside a new disk of the document's: the program's disk is one, and any number of calls is left.
-/
import Derived.Test.YtjfohnkfcfifeaaRyC4
import Derived.Test.YtjfohnkfcfifeaaRyD
import Derived.Test.YtjfohnkfcfifeaaDiskO
import Derived.Test.YtjfohnkfcfifeaaRzF
import Derived.Test.YtjfohnkfcfifeaaRzH
namespace Go.Proofs.Ytjfohnkfcfifeaa
open Go.RowKit Go.Maps
section
variable {w V : World} {p bm x : Nat} {size sz c c' er y : Int} {fs fs' : List Fl} {g g2 : Xd}
theorem Dk.new (h : DiskIn w.heap.size w V p bm size c fs) (h0 : 0 ≤ y) (h1 : y ≤ 268435456) : Dk w (V.alloc (.cells #[.int .i64 y, .slice none 0 0, .bool false, .int .i64 0] 43)) p bm size c fs V.heap.size y ⟨[], false, 0⟩ := by
  obtain ⟨D, hd, hf, hb, hB⟩ := h
  exact ⟨D, none, 0, hd.alloc _, XdAt.new V y _ h0 h1, hf, hB, hb.alloc hB _⟩
theorem Dk.in (h : Dk w V p bm size c fs x sz g) : DiskIn w.heap.size w V p bm size c fs := by
  obtain ⟨D, eo, cap, h⟩ := h
  exact ⟨D, h.da, h.foot, h.bel, h.bel.size⟩
theorem counted_never : counted (-1) = -1 := by unfold counted; rw [if_neg (by omega)]
theorem appR_never {s : ByteArray} {len : Nat} {bs : List Int} (h : AppR size (-1) fs s len bs er fs' c') : c' = -1 := by
  rcases h with ⟨_, _, _, h⟩ | ⟨_, _, _, _, h⟩ | ⟨_, _, _, _, _, h⟩ | ⟨_, _, _, _, h, _⟩
  · exact h
  · exact h
  · exact h
  · rw [h, counted_never]
theorem synR_never {s : ByteArray} (h : SynR (-1) fs s er fs' c') : c' = -1 := by
  rcases h with ⟨_, _, _, h⟩ | ⟨_, _, _, _, h⟩ | ⟨_, _, _, _, h, _⟩
  · exact h
  · exact h
  · rw [h, counted_never]
theorem cutR_never {s : ByteArray} {m : Int} (h : CutR (-1) fs s m er fs' c') : c' = -1 := by
  rcases h with ⟨_, _, _, h⟩ | ⟨_, _, _, _, h⟩ | ⟨_, _, _, _, h⟩ | ⟨_, _, _, _, _, _, _, h, _⟩
  · exact h
  · exact h
  · exact h
  · rw [h, counted_never]
theorem remR_never {s : ByteArray} (h : RemR (-1) fs s er fs' c') : c' = -1 := by
  rcases h with ⟨_, _, _, h⟩ | ⟨_, _, _, _, h⟩ | ⟨_, _, _, h, _⟩
  · exact h
  · exact h
  · rw [h, counted_never]
theorem renR_never {s t : ByteArray} (h : RenR (-1) fs s t er fs' c') : c' = -1 := by
  rcases h with ⟨_, _, _, h⟩ | ⟨_, _, _, _, h⟩ | ⟨_, _, _, _, _, h⟩ | ⟨_, _, _, _, _, h, _⟩
  · exact h
  · exact h
  · exact h
  · rw [h, counted_never]
theorem Two.never {R : Int → List Fl → Int → Prop} {cd : Int} {e : Ending} {W : World} (h : Two R cd g2 w p bm size x sz e W) (hR : ∀ er fs' c', R er fs' c' → c' = -1) : ∃ b fs', e = .returned (.bool b) ∧ DiskIn w.heap.size w W p bm size (-1) fs' := by
  obtain ⟨er, fs', c', rfl, hr, hd⟩ := h
  have := hR _ _ _ hr
  subst this
  exact ⟨_, fs', rfl, hd.in⟩
/-- Whatever change it is. -/
theorem doesN (h : Dk w V p bm size (-1) fs x sz g) (o : OpV) (hok : o.Ok) (bs : List Int) (hH : Held w o.ba o.bl o.bc bs) (hms : o.bl ≤ 140737488355328) (hk : 1 ≤ o.kind ∧ o.kind ≤ 5) :
    Calls Try.prog 11 #[.pointer (some ⟨p, 0, none⟩), .pointer (some ⟨x, 0, none⟩), .agg o.cells.toArray] V fun e W => ∃ b fs', e = .returned (.bool b) ∧ DiskIn w.heap.size w W p bm size (-1) fs' := by
  have hk' : o.kind = 1 ∨ o.kind = 2 ∨ o.kind = 3 ∨ o.kind = 4 ∨ o.kind = 5 := by omega
  rcases hk' with hk | hk | hk | hk | hk
  · exact (doesR_1 h o hok bs hH hms hk).mono (fun e W ht => ht.never (fun _ _ _ hr => appR_never hr))
  · exact (doesR_2 h o hok hk).mono (fun e W ht => ht.never (fun _ _ _ hr => synR_never hr))
  · exact (doesR_3 h o hok hk).mono (fun e W ht => ht.never (fun _ _ _ hr => cutR_never hr))
  · exact (doesR_4 h o hok hk).mono (fun e W ht => ht.never (fun _ _ _ hr => renR_never hr))
  · exact (doesR_5 h o hok hk).mono (fun e W ht => ht.never (fun _ _ _ hr => remR_never hr))
end
end Go.Proofs.Ytjfohnkfcfifeaa
/-
  The law's 'does' of every op but a fork; a fork, and what becomes of the old disk.
-/
namespace Go.Proofs.Ytjfohnkfcfifeaa
open Go.RowKit Go.Maps
section
variable {w0 w V V1 V2 : World} {p bm p' bm' x : Nat} {size c : Int} {fs : List Fl} {g : Xd} {D : DataW Value}
theorem Two.same {R : Int → List Fl → Int → Prop} {cd : Int} {g2 : Xd} {e : Ending} (h : Two R cd g2 w0 p bm size x size e V) (hR : ∀ er fs' c', R er fs' c' → er = cd ∧ Same3 fs' c' g2) : e = .returned (.bool true) ∧ DkS w0 V p bm x size := by
  obtain ⟨er, fs', c', rfl, hr, hd⟩ := h
  obtain ⟨rfl, hs⟩ := hR _ _ _ hr
  exact ⟨by simp, _, _, _, hd, hs⟩
/-- Whatever it is. -/
theorem doesS (h : DkS w0 w p bm x size) (o : OpV) (ho : OpH w0 o) (hb : o.bl ≤ 140737488355328) (hk : o.kl ≤ 5864062014805) :
    Calls Try.prog 11 #[.pointer (some ⟨p, 0, none⟩), .pointer (some ⟨x, 0, none⟩), .agg o.cells.toArray] w fun e V => e = .returned (.bool true) ∧ DkS w0 V p bm x size := by
  obtain ⟨c, fs, g, hd, hs⟩ := h
  by_cases h1 : o.kind = 1
  · obtain ⟨bs, hbs⟩ := ho.bytes
    exact (doesR_1 hd o ho.ok bs hbs hb h1).mono (fun e V ht => ht.same (fun _ _ _ hr => hs.app hbs.hlen hr))
  by_cases h2 : o.kind = 2
  · exact (doesR_2 hd o ho.ok h2).mono (fun e V ht => ht.same (fun _ _ _ hr => hs.syn hr))
  by_cases h3 : o.kind = 3
  · exact (doesR_3 hd o ho.ok h3).mono (fun e V ht => ht.same (fun _ _ _ hr => hs.cut hr))
  by_cases h4 : o.kind = 4
  · exact (doesR_4 hd o ho.ok h4).mono (fun e V ht => ht.same (fun _ _ _ hr => hs.ren hr))
  by_cases h5 : o.kind = 5
  · exact (doesR_5 hd o ho.ok h5).mono (fun e V ht => ht.same (fun _ _ _ hr => hs.rem hr))
  by_cases h6 : o.kind = 6
  · exact doesS_6 hd hs o ho.ok h6
  by_cases h7 : o.kind = 7
  · obtain ⟨ts, t1, t2, t3, t4⟩ := ho.keep
    exact doesS_7 hd hs o ts ⟨t2, t3, by omega, t4⟩ t1 hk h7
  by_cases h9 : o.kind = 9
  · exact doesS_9 hd hs o ho.ok h9
  · exact doesS_else hd hs o ⟨by omega, h9⟩
/-- A fork (p'), the same as the document's; and the old disk (p), whatever it is. -/
def FkS (w0 V : World) (p bm p' bm' x : Nat) (size : Int) : Prop := ∃ c fs g D c2 fs2, Dk w0 V p' bm' size c fs x size g ∧ Same3 fs c g ∧ DiskAt V p bm size c2 fs2 D ∧ (∀ i, DFoot p bm fs2 i → w0.heap.size ≤ i) ∧ (∀ i, DFoot p' bm' fs i → ¬ DFoot p bm fs2 i)
theorem FkS.below (h : FkS w0 V p bm p' bm' x size) (hb : Below V.heap.size V V1) : FkS w0 V1 p bm p' bm' x size := by
  obtain ⟨c, fs, g, D, c2, fs2, h1, h2, h3, h4, h5⟩ := h
  exact ⟨c, fs, g, D, c2, fs2, h1.below hb, h2, h3.below hb (Nat.le_refl _), h4, h5⟩
theorem FkS.done (h : FkS w0 V p bm p' bm' x size) : DkS w0 V p' bm' x size := by
  obtain ⟨c, fs, g, D, c2, fs2, h1, h2, _⟩ := h
  exact ⟨c, fs, g, h1, h2⟩
theorem FkS.old (h : FkS w0 V p bm p' bm' x size) : ∃ c2 fs2 D, DiskAt V p bm size c2 fs2 D ∧ ∀ V1 c3 fs3, Now V V1 p bm size c3 fs2 fs3 → FkS w0 V1 p bm p' bm' x size := by
  obtain ⟨c, fs, g, D, c2, fs2, ⟨D', eo, cap, hk⟩, h2, h3, h4, h5⟩ := h
  refine ⟨c2, fs2, D, h3, fun V1 c3 fs3 hn => ?_⟩
  obtain ⟨D3, hd3, ht, hf⟩ := hn
  refine ⟨c, fs, g, D3, c3, fs3, ⟨D', eo, cap, hk.turned ht h4 h5 (fun i hi hf => foot_offZ h3 hk.xd i hf hi)⟩, h2, hd3, fun i hi => ?_, fun i hi hi3 => ?_⟩
  · rcases hf i hi with e | e
    · exact h4 i e
    · exact Nat.le_trans hk.bel.size e
  · rcases hf i hi3 with e | e
    · exact h5 i hi e
    · have := hk.da.foot_lt i hi
      omega
/-- Fork. -/
theorem DkS.fork (h : DkS w0 w p bm x size) : Calls Try.prog 8 #[.pointer (some ⟨p, 0, none⟩)] w fun e V => ∃ p' bm', e = .returned (.pointer (some ⟨p', 0, none⟩)) ∧ FkS w0 V p bm p' bm' x size := by
  obtain ⟨c, fs, g, ⟨D, eo, cap, hk⟩, hs⟩ := h
  refine (fork_any hk.da).mono ?_
  rintro e V ⟨p', bm', fs', D', rfl, h1, h2, h3, h4⟩
  have hk2 := hk.below h4
  refine ⟨p', bm', rfl, c, fs', g, D, c, fs, ⟨D', eo, cap, h1, hk2.xd, fun i hi => Nat.le_trans hk.bel.size (h3 i hi), hk.bx, hk2.bel⟩, ⟨⟨h2.trans hs.L.perm, hs.L.sort⟩, hs.c⟩, hk2.da, hk.foot, fun i hi hf => ?_⟩
  have h5 := h3 i hi
  have h6 := hk.da.foot_lt i hf
  omega
theorem FkS.append (h : FkS w0 V p bm p' bm' x size) (s : ByteArray) (hs : s.size ≤ maxLen) (ao : Option Addr) (len cap : Nat) (bs : List Int) (hB : Held V ao len cap bs) :
    Calls Try.prog 9 #[.pointer (some ⟨p, 0, none⟩), .string s, .slice ao len cap] V fun e V' => ∃ er, e = .returned (.int .i64 er) ∧ FkS w0 V' p bm p' bm' x size := by
  obtain ⟨c2, fs2, D, hd, hn⟩ := h.old
  refine (append_chg hd s hs ao len cap bs hB).mono ?_
  rintro e V' ⟨er, fs', c', rfl, h1, _⟩
  exact ⟨er, rfl, hn _ _ _ h1⟩
theorem FkS.remove (h : FkS w0 V p bm p' bm' x size) (s : ByteArray) (hs : s.size ≤ maxLen) :
    Calls Try.prog 10 #[.pointer (some ⟨p, 0, none⟩), .string s] V fun e V' => ∃ er, e = .returned (.int .i64 er) ∧ FkS w0 V' p bm p' bm' x size := by
  obtain ⟨c2, fs2, D, hd, hn⟩ := h.old
  refine (remove_chg hd s hs).mono ?_
  rintro e V' ⟨er, fs', c', rfl, h1, _⟩
  exact ⟨er, rfl, hn _ _ _ h1⟩
/-- Both, new. -/
theorem DkS.new (w : World) (hV : DiskIn w.heap.size w V p bm size (-1) []) (h0 : 0 ≤ size) (h1 : size ≤ 268435456) : DkS w (V.alloc (.cells #[.int .i64 size, .slice none 0 0, .bool false, .int .i64 0] 43)) p bm V.heap.size size :=
  ⟨-1, [], ⟨[], false, 0⟩, Dk.new hV h0 h1, ⟨List.Perm.refl _, .nil⟩, .inl ⟨rfl, by decide⟩⟩
theorem DkS.bel (h : DkS w0 V p bm x size) : Below w0.heap.size w0 V := by
  obtain ⟨c, fs, g, h1, _⟩ := h
  exact h1.bel
theorem DkS.looks (h : DkS w0 V p bm x size) : Calls Try.prog 12 #[.pointer (some ⟨p, 0, none⟩), .pointer (some ⟨x, 0, none⟩)] V fun e V' => e = .returned (.bool true) ∧ DkS w0 V' p bm x size := by
  obtain ⟨c, fs, g, h1, h2⟩ := h
  refine (looks_any h1 h2).mono ?_
  rintro e V' ⟨rfl, hb⟩
  exact ⟨rfl, c, fs, g, h1.below hb, h2⟩
end
def oneB (w : World) (x : Int) : World := w.alloc (.cells #[.int .u8 x] 5 (1, 2))
end Go.Proofs.Ytjfohnkfcfifeaa
