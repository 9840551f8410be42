/-
  Both bags side by side: the program's and the document's.
-/
import Derived.Test.YtoacfdicjpoohaaNdH
import Derived.Test.YtoacfdicjpoohaaOpOpen
namespace Go.Proofs.Ytoacfdicjpoohaa
open Go.RowKit Go.Maps

theorem blk_typeN {w : World} {b : Nat} {t t' : TypeId} {cs cs' : List Value} (h : Blk w b t cs) (k : Blk w b t' cs') : t = t' := by
  have h1 : w.heap[b]? = _ := h
  have h2 : w.heap[b]? = _ := k
  rw [h1] at h2
  cases h2
  rfl
theorem row_row_ne {w : World} {B B' e e' s s' n n' : Nat} {v v' : Value} {xs xs' : List Value} (h : w.ownsRow B e s v n xs) (k : w.ownsRow B' e' s' v' n' xs') (hne : e ≠ e') {b : Nat} (h1 : v.ownBlock = some b) (h2 : v'.ownBlock = some b) : False := by
  rcases h.2 with ⟨rfl, _⟩ | ⟨g, cap, cur, rfl, _, hg, _⟩
  · cases h1
  · rcases k.2 with ⟨rfl, _⟩ | ⟨g', cap', cur', rfl, _, hg', _⟩
    · cases h2
    · simp [Value.ownBlock] at h1 h2
      subst h1 h2
      rw [hg] at hg'
      cases hg'
      exact hne rfl
section
variable {V V' : World} {p bm x B : Nat} {v : Value} {D : DataW Value} {g g' : Nt} {eo : Option Addr} {cap : Nat}
theorem foot_offN (h : NetAt V p bm v g.nodes g.last g.ps D) (k : RnAt V B x g' eo cap) : ∀ i, Foot p bm v i → ¬ FootX x eo i := by
  have hown : ∀ i, (∃ a, eo = some a ∧ a.block = i) → (Value.slice eo g'.ps.length cap).ownBlock = some i := fun i ⟨a, h1, h2⟩ => by rw [h1]; simp [Value.ownBlock, h2]
  rintro i (rfl | rfl | hi) (e | e)
  · subst e
    exact absurd (blk_typeN h.blk k.blk) (by decide)
  · exact h.blk.not_row (by decide) k.row (hown _ e).symm
  · exact k.blk.not_map h.map e.symm
  · exact row_not_map k.row h.map (hown _ e).symm
  · subst e
    exact k.blk.not_row (by decide) h.row hi.symm
  · exact row_row_ne h.row k.row (by decide) hi (hown _ e)
/-- A call of the program's bag leaves the document's as it is. -/
theorem rn_kept (h : NetAt V p bm v g.nodes g.last g.ps D) (k : RnAt V B x g' eo cap) (ht : Turns (Foot p bm v) V V') : RnAt V' B x g' eo cap :=
  k.turned ht (fun hf => foot_offN h k x hf (.inl rfl)) (fun b hb hf => foot_offN h k b hf (.inr (own_some hb)))
theorem na_kept (h : NetAt V p bm v g.nodes g.last g.ps D) (k : RnAt V B x g' eo cap) (ht : Turns (FootX x eo) V V') : NetAt V' p bm v g.nodes g.last g.ps D :=
  h.turned ht (fun i hi hf => foot_offN h k i hi hf)
end
/-- Between two calls. -/
structure DuS (w V : World) (p bm x : Nat) (v : Value) (D : DataW Value) (g : Nt) (eo : Option Addr) (cap k : Nat) : Prop where
  na : NetAt V p bm v g.nodes g.last g.ps D
  rn : RnAt V w.heap.size x g eo cap
  foot : ∀ i, Foot p bm v i → w.heap.size ≤ i
  bx : w.heap.size ≤ x
  bel : Below w.heap.size w V
  last : g.last ≤ (k : Int)
theorem DuS.below {w V V' : World} {p bm x : Nat} {v : Value} {D : DataW Value} {g : Nt} {eo : Option Addr} {cap k : Nat} (h : DuS w V p bm x v D g eo cap k) (hb : Below V.heap.size V V') : DuS w V' p bm x v D g eo cap k :=
  ⟨h.na.below hb (Nat.le_refl _), h.rn.below hb, h.foot, h.bx, btN h.bel hb, h.last⟩
theorem DuS.rowb {w V : World} {p bm x : Nat} {v : Value} {D : DataW Value} {g : Nt} {eo : Option Addr} {cap k : Nat} (h : DuS w V p bm x v D g eo cap k) : ∀ i, FootX x eo i → w.heap.size ≤ i ∧ i < V.heap.size := by
  rintro i (rfl | ⟨a, h1, h2⟩)
  · exact ⟨h.bx, h.rn.blk.lt⟩
  · exact h.rn.row.lt i (by rw [h1]; simp [Value.ownBlock, h2])
/-- Behind the program's call and the document's. -/
theorem DuS.both {w V V1 V2 : World} {p bm x : Nat} {v : Value} {D : DataW Value} {g g' : Nt} {eo : Option Addr} {cap k : Nat} (h : DuS w V p bm x v D g eo cap k) (h1 : NetTo V V1 p bm v g') (h2 : RnTo w.heap.size V1 V2 x eo g') (hl : g'.last ≤ ((k + 1 : Nat) : Int)) :
    ∃ v' D' eo' cap', DuS w V2 p bm x v' D' g' eo' cap' (k + 1) := by
  obtain ⟨v', D', hn, ht, ho⟩ := h1
  obtain ⟨eo', cap', hr, htx⟩ := h2
  have hrn1 := rn_kept h.na h.rn ht
  have hfoot : ∀ i, Foot p bm v' i → w.heap.size ≤ i := by
    rintro i (rfl | rfl | hi)
    · exact h.foot _ (.inl rfl)
    · exact h.foot _ (.inr (.inl rfl))
    · rcases ho with e | ⟨b, e, hb⟩
      · exact h.foot _ (.inr (.inr (by rw [← e]; exact hi)))
      · rw [e] at hi
        cases hi
        exact Nat.le_trans h.bel.size hb
  have hb1 : Below w.heap.size w V1 := h.bel.trans (ht.below h.foot h.bel.size)
  have hb2 : Below w.heap.size w V2 := hb1.trans (htx.below (fun i hi => (h.rowb i hi).1) hb1.size)
  exact ⟨v', D', eo', cap', na_kept hn hrn1 htx, hr, hfoot, h.bx, hb2, hl⟩
theorem NetTo.alloc {V V1 V2 : World} {p bm : Nat} {v : Value} {g : Nt} (h : NetTo V V1 p bm v g) (hb : Below V1.heap.size V1 V2) : NetTo V V2 p bm v g := by
  obtain ⟨v', D', hn, ht, ho⟩ := h
  exact ⟨v', D', hn.below hb (Nat.le_refl _), ht.trans (Turns.of_below (F := Foot p bm v) hb (Nat.le_refl _)) (fun i hi => .inl hi), ho⟩
/-- What a call leaves of the old slots. -/
theorem off3 {V : World} {p bm : Nat} {v v3 : Value} (ho : v3.ownBlock = v.ownBlock ∨ ∃ k, v3.ownBlock = some k ∧ V.heap.size ≤ k) {i : Nat} (hi : i < V.heap.size) (hn : ¬ Foot p bm v i) : ¬ Foot p bm v3 i := by
  rintro (e | e | e)
  · exact hn (.inl e)
  · exact hn (.inr (.inl e))
  · rcases ho with h | ⟨k, h, hk⟩
    · exact hn (.inr (.inr (by rw [← h]; exact e)))
    · rw [h] at e
      cases e
      omega
/-- The copy goes on; the old bag may turn as it will. -/
theorem DuS.forked {w V V2 V3 V4 : World} {p bm p2 bm2 x : Nat} {v v2 v3 : Value} {D D3 : DataW Value} {g gs : Nt} {eo : Option Addr} {cap k : Nat} (h : DuS w V p bm x v D g eo cap k) (hf : NdFork V g p2 bm2 v2 V2) (hn3 : NetAt V3 p bm v3 gs.nodes gs.last gs.ps D3) (ht3 : Turns (Foot p bm v) V2 V3) (ho3 : v3.ownBlock = v.ownBlock ∨ ∃ k, v3.ownBlock = some k ∧ V2.heap.size ≤ k) (ht4 : Turns (Foot p bm v3) V3 V4) :
    ∃ v' D' eo' cap', DuS w V4 p2 bm2 x v' D' g eo' cap' (k + 1) := by
  obtain ⟨⟨D2, hn2⟩, hb2, hf2⟩ := hf
  have hv2 : NetAt V2 p bm v g.nodes g.last g.ps D := h.na.below hb2 (Nat.le_refl _)
  have hr2 : RnAt V2 w.heap.size x g eo cap := h.rn.below hb2
  have hr3 := rn_kept hv2 hr2 ht3
  have hr4 := rn_kept hn3 hr3 ht4
  have hoff : ∀ i, Foot p2 bm2 v2 i → ¬ Foot p bm v i := fun i hi hj => by
    have h1 := hf2 i hi
    have h2 := h.na.foot_lt i hj
    omega
  have hoff3 : ∀ i, Foot p2 bm2 v2 i → ¬ Foot p bm v3 i := fun i hi => off3 ho3 (hn2.foot_lt i hi) (hoff i hi)
  have hs2 : w.heap.size ≤ V2.heap.size := Nat.le_trans h.bel.size hb2.size
  have hs3 : w.heap.size ≤ V3.heap.size := Nat.le_trans hs2 ht3.size
  have hfo3 : ∀ i, Foot p bm v3 i → w.heap.size ≤ i := by
    rintro i (e | e | e)
    · exact h.foot i (.inl e)
    · exact h.foot i (.inr (.inl e))
    · rcases ho3 with h1 | ⟨k, h1, hk⟩
      · exact h.foot i (.inr (.inr (by rw [← h1]; exact e)))
      · rw [h1] at e
        cases e
        exact Nat.le_trans hs2 hk
  refine ⟨v2, D2, eo, cap, (hn2.turned ht3 hoff).turned ht4 hoff3, hr4, fun i hi => Nat.le_trans h.bel.size (hf2 i hi), h.bx, ?_, ?_⟩
  · exact ((btN h.bel hb2).trans (ht3.below h.foot hs2)).trans (ht4.below hfo3 hs3)
  · have := h.last; omega
def NewR (w : World) (x : Int) (e : Ending) (w' : World) : Prop := (e = .returned (.tuple #[.pointer none, .int .i64 1]) ∧ w' = w ∧ (x < 1 ∨ 7 < x)) ∨ (e = .returned (.tuple #[.pointer (some ⟨w.heap.size, 0, none⟩), .int .i64 0]) ∧ w' = w.alloc (.cells #[.int .i64 x, .slice none 0 0, .int .i64 0] 51) ∧ ¬ (x < 1 ∨ 7 < x))
theorem newRef (w : World) (x : Int) : Calls Try.prog 5 #[.int .i64 x] w (NewR w x) := by
  by_cases h1 : x < 1
  · go_enter Try.func5, Try.ntmps5
    go_wp2
    go_ret2
    exact .inl ⟨rfl, rfl, .inl h1⟩
  by_cases h2 : 7 < x
  · go_enter Try.func5, Try.ntmps5
    go_wp2
    go_ret2
    exact .inl ⟨rfl, rfl, .inr h2⟩
  have h3 : ¬ (x < 1 ∨ 7 < x) := by omega
  go_enter Try.func5, Try.ntmps5
  go_wp2
  go_ret2
  exact .inr ⟨rfl, rfl, h3⟩
end Go.Proofs.Ytoacfdicjpoohaa
