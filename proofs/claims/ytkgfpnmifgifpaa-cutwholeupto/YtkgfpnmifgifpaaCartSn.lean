/-
  One event more; lines that tell the same.
-/
import Derived.Test.YtkgfpnmifgifpaaCartR
namespace Go.Proofs.Ytkgfpnmifgifpaa
open Go.RowKit Go.Maps

/-- One event more, that clears nothing and that nobody has seen. -/
theorem count_snoc {l : List Ev} {e : Ev} (hl : OneEach l) (hc : e.clears = false) (hs : ∀ f ∈ l, ¬ Goes e f) (hd : ∀ f ∈ l, ¬ (f.o = e.o ∧ f.s = e.s)) (c : ByteArray) :
    OneEach (l ++ [e]) ∧ (countOf c (l ++ [e])).Perm (countOf c l ++ (if e.cart = c then [e] else [])) := by
  have h1 : OneEach (l ++ [e]) := by
    intro x hx y hy a b
    rcases List.mem_append.1 hx with hx' | hx' <;> rcases List.mem_append.1 hy with hy' | hy'
    · exact hl x hx' y hy' a b
    · rw [List.mem_singleton.1 hy'] at a b
      exact absurd ⟨a, b⟩ (hd x hx')
    · rw [List.mem_singleton.1 hx'] at a b
      exact absurd ⟨a.symm, b.symm⟩ (hd y hy')
    · rw [List.mem_singleton.1 hx', List.mem_singleton.1 hy']
  have hne : e ∉ l := fun hm => hd e hm ⟨rfl, rfl⟩
  have hng : ∀ x, ¬ Goes x e := fun x hg => by
    have := hg.1
    rw [hc] at this
    cases this
  refine ⟨h1, perm_of_mem (count_nodup _ _) ?_ (fun x => ?_)⟩
  · refine List.nodup_append.2 ⟨count_nodup _ _, ?_, fun a ha b hb hab => ?_⟩
    · split <;> simp
    · subst hab
      split at hb
      · obtain rfl := List.mem_singleton.1 hb
        exact hne ((count_mem hl _).1 ha).1
      · cases hb
  · rw [count_mem h1, List.mem_append, List.mem_append, count_mem hl]
    constructor
    · rintro ⟨h2 | h2, h3, h4⟩
      · exact .inl ⟨h2, h3, fun f hf => h4 f (List.mem_append_left _ hf)⟩
      · right
        rw [List.mem_singleton.1 h2] at h3 ⊢
        rw [if_pos h3]
        exact List.mem_singleton.2 rfl
    · rintro (⟨h2, h3, h4⟩ | h2)
      · refine ⟨.inl h2, h3, fun f hf => ?_⟩
        rcases List.mem_append.1 hf with hf | hf
        · exact h4 f hf
        · rw [List.mem_singleton.1 hf]
          exact hng x
      · split at h2
        · next hcc =>
          rw [List.mem_singleton.1 h2]
          refine ⟨.inr (List.mem_singleton.2 rfl), hcc, fun f hf => ?_⟩
          rcases List.mem_append.1 hf with hf | hf
          · exact hs f hf
          · rw [List.mem_singleton.1 hf]
            exact hng e
        · cases h2
theorem linesQ_same {l l' : List Ev} (h : OneEach l) (h' : OneEach l') (hm : ∀ x, x ∈ l ↔ x ∈ l') (name : ByteArray) : linesQ name l = linesQ name l' := by
  funext s
  refine qtyOf_perm (perm_of_mem (count_nodup _ _) (count_nodup _ _) fun x => ?_)
  rw [count_mem h, count_mem h', hm]
  refine ⟨fun ⟨a, b, c⟩ => ⟨a, b, fun f hf => c f ((hm f).2 hf)⟩, fun ⟨a, b, c⟩ => ⟨a, b, fun f hf => c f ((hm f).1 hf)⟩⟩
end Go.Proofs.Ytkgfpnmifgifpaa
