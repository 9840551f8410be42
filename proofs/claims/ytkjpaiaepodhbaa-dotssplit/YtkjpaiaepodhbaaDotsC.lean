/-
  Package dots: closeGap takes what stands without a gap to its origin's run.
-/
import Derived.Test.YtkjpaiaepodhbaaDotsB
import Derived.Deep.RegionHeld3
import Derived.Deep.AppendLies
import Derived.Deep.RegionLaw
namespace Go.Proofs.Ytkjpaiaepodhbaa
open Go.RowKit Go.Maps

def upd {α : Type} (f : Nat → α) (k : Nat) (v : α) (i : Nat) : α := if i = k then v else f i
theorem upd_same {α : Type} (f : Nat → α) (k : Nat) (v : α) : upd f k v k = v := by simp [upd]
theorem upd_other {α : Type} (f : Nat → α) {k i : Nat} (v : α) (h : i ≠ k) : upd f k v i = f i := by simp [upd, h]
theorem setCells_upd (rs : Nat → Value) (m : Nat) {k : Nat} (hk : k < 7) (v : Value) : (setCells rs m).set k v = setCells (upd rs k v) m := by
  match k, hk with
  | 0, _ | 1, _ | 2, _ | 3, _ | 4, _ | 5, _ | 6, _ => rfl
theorem sumR_upd (R : Nat → List Value) {k : Nat} (hk : k < 7) (l : List Value) : sumR (upd R k l) + (R k).length = sumR R + l.length := by
  unfold sumR
  match k, hk with
  | 0, _ | 1, _ | 2, _ | 3, _ | 4, _ | 5, _ | 6, _ => simp [upd]; omega
theorem size_tidy {w : World} {m n : Nat} {D : DataW Value} (h : w.ownsMap Try.prog 25 valR m n D) : Tidy D := by
  obtain ⟨es, e, hp, _⟩ := h.entries Try.keyedDot
  exact ⟨es, e, hp⟩
section
variable {w w2 w3 : World} {p m N k : Nat} {rs : Nat → Value} {R : Nat → List Value} {D : DataW Value} {S : Int → Int → Option Value}
theorem DotsPre.next (h : DotsPre w p rs R m D S N) (hk : k < 7) {x : Value} (hx : look D (dk (k : Int) (((R k).length : Int) + 1)) = some x) : MayD (k : Int) (((R k).length : Int) + 1) ∧ S (k : Int) (((R k).length : Int) + 1) = some x := by
  have hl := h.len hk
  have h1 := h.keys (k : Int) (((R k).length : Int) + 1) (by unfold I64; omega) (by unfold I64; omega)
  rw [hx] at h1
  split at h1
  · next hc => exact ⟨hc.1, h1.symm⟩
  · cases h1
theorem close_step (h : DotsPre w p rs R m D S N) (hk : k < 7) {x : Value} (hx : look D (dk (k : Int) (((R k).length : Int) + 1)) = some x) {g cap : Nat}
    (T2 : Turns (fun i => i = m) w w2) (hO2 : w2.ownsMap Try.prog 25 valR m N (D.del (dk (k : Int) (((R k).length : Int) + 1))))
    (T3 : Turns (fun i => (rs k).ownBlock = some i) w2 w3) (hO3 : w3.ownsRow 0 9 1 (.slice (some ⟨g, 0, none⟩) ((R k).length + 1) cap) ((R k).length + 1) (R k ++ [x])) (hat : (rs k).ownBlock = some g ∨ w2.heap.size ≤ g) :
    DotsPre (w3.setCell ⟨p, k, none⟩ (.slice (some ⟨g, 0, none⟩) ((R k).length + 1) cap)) p (upd rs k (.slice (some ⟨g, 0, none⟩) ((R k).length + 1) cap)) (upd R k (R k ++ [x])) m (D.del (dk (k : Int) (((R k).length : Int) + 1))) S N ∧
      Turns (FootD p m rs) w (w3.setCell ⟨p, k, none⟩ (.slice (some ⟨g, 0, none⟩) ((R k).length + 1) cap)) ∧
      ∀ i, FootD p m (upd rs k (.slice (some ⟨g, 0, none⟩) ((R k).length + 1) cap)) i → FootD p m rs i ∨ w.heap.size ≤ i := by
  obtain ⟨hmay, hS⟩ := h.next hk hx
  have hpm : p ≠ m := h.blk.not_map h.map
  have hnm : ∀ i, i < 7 → some m ≠ (rs i).ownBlock := fun i hi => row_not_map (h.run i hi) h.map
  have hnp : ∀ i, i < 7 → some p ≠ (rs i).ownBlock := fun i hi => h.blk.not_row (by decide) (h.run i hi)
  have hb2 := T2.blk h.blk (fun e => hpm e)
  have hr2 : ∀ i, i < 7 → w2.ownsRow 0 9 1 (rs i) (R i).length (R i) := fun i hi => T2.row (h.run i hi) (fun g hg e => hnm i hi (by rw [hg, e]))
  have hb3 := T3.blk hb2 (fun e => hnp k hk e.symm)
  have hm3 := T3.map hO2 (fun e => hnm k hk e.symm)
  have hr3 : ∀ i, i < 7 → i ≠ k → w3.ownsRow 0 9 1 (rs i) (R i).length (R i) := fun i hi hne => T3.row (hr2 i hi) (fun g hg e => hne (h.apart i k hi hk g hg e))
  have hpg : p ≠ g := by
    have := hb3.not_row (by decide) hO3
    intro e
    exact this (by rw [e]; rfl)
  have T4 : ∀ v, Turns (fun i => i = p) w3 (w3.setCell ⟨p, k, none⟩ v) := fun v => (Turns.refl (fun i => i = p) w3).setCell (p := ⟨p, k, none⟩) (.inl rfl) v
  have T23 := (T2.mono (G := fun i => i = m ∨ (rs k).ownBlock = some i) (fun _ hi => .inl hi)).trans T3 (fun i hi => .inl (.inr hi))
  have hTall : ∀ v, Turns (FootD p m rs) w (w3.setCell ⟨p, k, none⟩ v) := fun v => (T23.mono (G := FootD p m rs) (fun i hi => by
    rcases hi with rfl | hi
    · exact .inr (.inl rfl)
    · exact .inr (.inr ⟨k, hk, hi⟩))).trans (T4 v) (fun i hi => .inl (.inl hi))
  have hfresh : ∀ i, i < 7 → i ≠ k → (rs i).ownBlock ≠ some g := fun i hi hne hg => by
    rcases hat with e | e
    · exact hne (h.apart i k hi hk g hg e)
    · have := ownsRow_lt (hr2 i hi) hg
      omega
  refine ⟨⟨?_, ?_, ?_, ?_, ?_, ?_, ?_, h.out, h.ones, ?_, h.few⟩, hTall _, ?_⟩
  · have := hb3.set k (.slice (some ⟨g, 0, none⟩) ((R k).length + 1) cap)
    rw [setCells_upd rs m hk] at this
    exact this
  · intro i hi
    by_cases e : i = k
    · subst e
      rw [upd_same, upd_same]
      have := (T4 (.slice (some ⟨g, 0, none⟩) ((R i).length + 1) cap)).row hO3 (fun g' hg' e => by
        have : g = g' := by simpa [Value.ownBlock] using hg'
        omega)
      simpa using this
    · rw [upd_other _ _ e, upd_other _ _ e]
      exact (T4 _).row (hr3 i hi e) (fun g' hg' e' => hnp i hi (by rw [hg', e']))
  · exact (T4 _).map hm3 (fun e => hpm e.symm)
  · intro i j hi hj g' h1 h2
    by_cases ei : i = k
    · by_cases ej : j = k
      · omega
      · subst ei
        rw [upd_same] at h1
        rw [upd_other _ _ ej] at h2
        have : g = g' := by simpa [Value.ownBlock] using h1
        subst this
        exact absurd h2 (hfresh j hj ej)
    · by_cases ej : j = k
      · subst ej
        rw [upd_same] at h2
        rw [upd_other _ _ ei] at h1
        have : g = g' := by simpa [Value.ownBlock] using h2
        subst this
        exact absurd h1 (hfresh i hi ei)
      · rw [upd_other _ _ ei] at h1
        rw [upd_other _ _ ej] at h2
        exact h.apart i j hi hj g' h1 h2
  · intro i hi u hu
    by_cases e : i = k
    · subst e
      rw [upd_same] at hu
      rcases List.mem_append.1 hu with hu | hu
      · exact h.one i hi u hu
      · simp at hu
        subst hu
        exact h.ones _ _ _ hS
    · rw [upd_other _ _ e] at hu
      exact h.one i hi u hu
  · intro o s ho hs
    by_cases e : o = (k : Int) ∧ s = ((R k).length : Int) + 1
    · obtain ⟨rfl, rfl⟩ := e
      rw [look_del_same, if_neg]
      simp [upd]
    · rw [look_del_other (fun he => e (dk_inj ho hs (by unfold I64; omega) (by have := h.len hk; unfold I64; omega) he)), h.keys o s ho hs]
      by_cases hok : o = (k : Int)
      · subst hok
        have hne : s ≠ ((R k).length : Int) + 1 := fun he => e ⟨rfl, he⟩
        simp only [Int.toNat_natCast, upd_same, List.length_append, List.length_singleton]
        by_cases hc : MayD (k : Int) s ∧ ((R k).length : Int) < s
        · rw [if_pos hc, if_pos ⟨hc.1, by omega⟩]
        · rw [if_neg hc, if_neg (fun hc' => hc ⟨hc'.1, by omega⟩)]
      · by_cases hmd : MayD o s
        · have : o.toNat ≠ k := by
            have := hmd.1.1
            omega
          rw [upd_other _ _ this]
        · rw [if_neg (fun hc => hmd hc.1), if_neg (fun hc => hmd hc.1)]
  · intro o ho i hi
    by_cases e : o = k
    · subst e
      rw [upd_same] at hi ⊢
      simp at hi
      by_cases hil : i < (R o).length
      · rw [List.getElem?_append_left hil]
        exact h.runs o ho i hil
      · have : i = (R o).length := by omega
        subst this
        rw [hS]
        simp
    · rw [upd_other _ _ e] at hi ⊢
      exact h.runs o ho i hi
  · have h1 := size_del (k := dk (k : Int) (((R k).length : Int) + 1)) (size_tidy h.map)
    have h2 : has D (dk (k : Int) (((R k).length : Int) + 1)) = true := by
      rw [has_look (allHeld_of h.map), hx]
      rfl
    rw [h2] at h1
    have h3 := sumR_upd R hk (R k ++ [x])
    have h4 := h.cnt
    simp at h1 h3
    omega
  · rintro i (rfl | rfl | ⟨j, hj, hi⟩)
    · exact .inl (.inl rfl)
    · exact .inl (.inr (.inl rfl))
    · by_cases e : j = k
      · subst e
        rw [upd_same] at hi
        have : g = i := by simpa [Value.ownBlock] using hi
        subst this
        rcases hat with e | e
        · exact .inl (.inr (.inr ⟨j, hj, e⟩))
        · right
          have := T2.size
          omega
      · rw [upd_other _ _ e] at hi
        exact .inl (.inr (.inr ⟨j, hj, hi⟩))
end
end Go.Proofs.Ytkjpaiaepodhbaa
