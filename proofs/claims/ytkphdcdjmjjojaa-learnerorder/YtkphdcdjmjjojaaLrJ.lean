/-
  Gaps that are filled: the mathematics of LearnerGaps; the law's noop.
-/
import Derived.Test.YtkphdcdjmjjojaaLrI
namespace Go.Proofs.Ytkphdcdjmjjojaa
open Go.RowKit Go.Maps

theorem chooseL_mem {g : Lr} {s t : Int} {e : En} (h : t ∈ (chooseL g s e).ks) : t ∈ g.ks ∨ t = s := by
  unfold chooseL at h
  split at h
  · exact (putS_mem _ _ _).1 h
  · exact .inl h
theorem rises_len {ks : List Int} (hr : Rises ks) {B : Nat} (h : ∀ s ∈ ks, 0 ≤ s ∧ s < B) : ks.length ≤ B := by
  have e : ks = (upto 0 B).filter (fun x => decide (x ∈ ks)) := by
    refine rises_unique hr (rises_filter (upto_rises _ _) _) (fun x => ?_)
    rw [List.mem_filter, upto_mem]
    simp
    intro hx
    have := h x hx
    omega
  have h2 := congrArg List.length e
  have h3 := List.length_filter_le (fun x => decide (x ∈ ks)) (upto 0 B)
  rw [upto_len] at h3
  omega
/-- A learner of which some gaps are filled. -/
structure Filled (g : Lr) (G : List Int) (k : Nat) (h : Lr) : Prop where
  mem : ∀ t, t ∈ h.ks ↔ t ∈ g.ks ∨ t ∈ G.take k
  ok : LrOk h
theorem Filled.start {g : Lr} (h : LrOk g) (G : List Int) : Filled g G 0 g := ⟨fun t => by simp, h⟩
theorem rises_take {G : List Int} (h : Rises G) {k : Nat} (hk : k < G.length) : G.getD k 0 ∉ G.take k := by
  rw [show G.getD k 0 = G[k] by simp [List.getD, List.getElem?_eq_getElem hk]]
  intro hm
  obtain ⟨j, hj, e⟩ := List.getElem_of_mem hm
  have hj' : j < k := by simp at hj; omega
  rw [List.getElem_take] at e
  have := List.pairwise_iff_getElem.1 h j k (by omega) hk hj'
  omega
theorem gaps_rises (ks : List Int) (a k : Nat) : Rises (gapsL ks a k) := rises_filter (upto_rises _ _) _
/-- The next gap: no entry stands there, and it is filled. -/
theorem Filled.next {g h : Lr} {a z k : Nat} (hf : Filled g (gapsL g.ks a (z - a)) k h) (hz : z ≤ 3000) (hg : ∀ s ∈ g.ks, s < 3000) (hk : k < (gapsL g.ks a (z - a)).length) : h.f ((gapsL g.ks a (z - a)).getD k 0) = none ∧ chooseC h ((gapsL g.ks a (z - a)).getD k 0) noopEn = 0 ∧ Filled g (gapsL g.ks a (z - a)) (k + 1) (chooseL h ((gapsL g.ks a (z - a)).getD k 0) noopEn) ∧ 0 ≤ (gapsL g.ks a (z - a)).getD k 0 ∧ (gapsL g.ks a (z - a)).getD k 0 < 3000 := by
  obtain ⟨G, hG⟩ : ∃ G, G = gapsL g.ks a (z - a) := ⟨_, rfl⟩
  have hGm : ∀ x ∈ G, (0 ≤ x ∧ x < 3000) ∧ x ∉ g.ks := fun x hx => by
    rw [hG] at hx
    have := gaps_mem.1 hx
    exact ⟨by omega, this.2⟩
  have hr : Rises G := by rw [hG]; exact gaps_rises _ _ _
  rw [← hG] at hk hf ⊢
  clear hG
  have hx : G.getD k 0 ∈ G := by rw [show G.getD k 0 = G[k] by simp [List.getD, List.getElem?_eq_getElem hk]]; exact List.getElem_mem hk
  obtain ⟨⟨x0, x1⟩, x2⟩ := hGm _ hx
  have hnm : G.getD k 0 ∉ h.ks := fun hm => by
    rcases (hf.mem _).1 hm with h1 | h1
    · exact x2 h1
    · exact rises_take hr hk h1
  have hnone : h.f (G.getD k 0) = none := by
    cases hh : h.f (G.getD k 0) with
    | none => rfl
    | some y => exact absurd ((hf.ok.has _).2 (by rw [hh]; rfl)) hnm
  have hlen : h.ks.length ≤ 3000 := rises_len hf.ok.rise (fun s hs => ⟨(hf.ok.slot s hs).1, by
    rcases (hf.mem s).1 hs with h1 | h1
    · exact hg s h1
    · exact (hGm s (List.mem_of_mem_take h1)).1.2⟩)
  have hc : chooseC h (G.getD k 0) noopEn = 0 := by
    unfold chooseC
    rw [if_pos ⟨x0, by omega, right_noop⟩, hnone]
    exact if_pos (by omega)
  refine ⟨hnone, hc, ⟨fun t => ?_, chooseL_ok hf.ok _ _⟩, x0, x1⟩
  unfold chooseL
  rw [if_pos hc]
  show t ∈ putS h.ks _ ↔ _
  rw [putS_mem, hf.mem, List.take_succ_eq_append_getElem hk, List.mem_append, List.mem_singleton, show G.getD k 0 = G[k] by simp [List.getD, List.getElem?_eq_getElem hk], or_assoc]
/-- When all gaps are filled, there is none. -/
theorem Filled.all {g h : Lr} {a z : Nat} (hf : Filled g (gapsL g.ks a (z - a)) (gapsL g.ks a (z - a)).length h) (ha : ∀ s : Int, 0 ≤ s → s < a → s ∈ g.ks) (haz : a ≤ z) (hz : IsEnd g.ks z) (h0 : ∀ s ∈ g.ks, 0 ≤ s) : h.ks = upto 0 z := by
  refine rises_unique hf.ok.rise (upto_rises _ _) (fun x => ?_)
  rw [hf.mem, List.take_length, upto_mem, gaps_mem]
  constructor
  · rintro (h1 | h1)
    · have := hz.all x h1
      have := h0 x h1
      omega
    · omega
  · rintro ⟨h1, h2⟩
    by_cases hx : x ∈ g.ks
    · exact .inl hx
    · refine .inr ⟨⟨?_, by omega⟩, hx⟩
      by_cases h3 : (a : Int) ≤ x
      · exact h3
      · exact absurd (ha x (by omega) (by omega)) hx
theorem pre_upto (z : Nat) : IsPre (upto 0 z) z := ⟨fun s h0 h1 => upto_mem.2 (by omega), fun h => by have := upto_mem.1 h; omega⟩
theorem end_upto (z : Nat) : IsEnd (upto 0 z) z := ⟨fun s h => by have := upto_mem.1 h; omega, by
  rcases Nat.eq_zero_or_pos z with e | e
  · exact .inl e
  · exact .inr (upto_mem.2 (by omega))⟩
theorem extra_upto (z : Nat) : extraL (upto 0 z) z = [] := by
  unfold extraL
  rw [List.filter_eq_nil_iff]
  intro x hx
  have := upto_mem.1 hx
  simp
  omega
theorem miss_upto (ks : List Int) (z : Nat) (most : Int) : missL ks z z most = [] := by unfold missL; rw [Nat.sub_self, gaps_zero]; simp
set_option maxRecDepth 100000 in
theorem noopR (w : World) : Calls Try.prog 22 #[] w fun e w' => e = .returned (EnM.val ⟨noopEn, none, 0⟩) ∧ Below w.heap.size w w' := by
  go_enter Try.func22, Try.ntmps22
  go_wp2
  obtain ⟨W3, hW3⟩ : ∃ V, V = w.alloc (.cells #[.bool true, .string ⟨#[]⟩, .string ⟨#[]⟩, .int .i64 0, .slice none 0 0] 33) := ⟨_, rfl⟩
  have hk : Blk W3 w.heap.size 33 [.bool true, .string ⟨#[]⟩, .string ⟨#[]⟩, .int .i64 0, .slice none 0 0] := by rw [hW3]; exact Blk.new w _ _
  have HB : Hid (Below w.heap.size w W3) := by rw [hW3]; exact (Below.refl _ _).alloc (Nat.le_refl _) _
  have k0 := hk.cell (i := 0) rfl
  have k1 := hk.cell (i := 1) rfl
  have k2 := hk.cell (i := 2) rfl
  have k3 := hk.cell (i := 3) rfl
  have k4 := hk.cell (i := 4) rfl
  rw [← hW3]
  refine bodyPost_ret (v := .agg #[.bool true, .string ⟨#[]⟩, .string ⟨#[]⟩, .int .i64 0, .slice none 0 0]) ?_ rfl ⟨rfl, HB.out⟩
  rw [results_cell1B rfl]
  go_simp
end Go.Proofs.Ytkphdcdjmjjojaa
