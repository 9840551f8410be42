/-
  The document's Tick; append of ints.
-/
import Derived.Test.YtmceffndnofgfaaClkN
import Derived.Deep.RegionLaw
import Derived.Deep.AppendLies
namespace Go.Proofs.Ytmceffndnofgfaa
open Go.RowKit Go.Maps

theorem own_form' {w : World} {B e n : Nat} {v : Value} {xs : List Value} (h : w.ownsRow B e 1 v n xs) :
    ∃ eo cap, v = .slice eo n cap ∧ n ≤ cap ∧ (0 < n → ∃ g, eo = some ⟨g, 0, none⟩ ∧ B ≤ g ∧ g < w.heap.size ∧ ∀ j u, xs[j]? = some u → w.cell? ⟨g, j, none⟩ = some u) := by
  rcases h.2 with ⟨rfl, rfl⟩ | ⟨g, cap, cur, rfl, hbg, hg, hnc, _⟩
  · exact ⟨none, 0, rfl, Nat.le_refl _, fun h0 => by omega⟩
  · refine ⟨some ⟨g, 0, none⟩, cap, rfl, hnc, fun _ => ⟨g, rfl, hbg, (Array.getElem?_eq_some_iff.1 hg).1, fun j u hu => ?_⟩⟩
    have := h.cells (g := g) rfl j u hu
    simpa [Addr.add_lit] using this

theorem own_blk {w : World} {B n : Nat} {v : Value} {xs : List Int} (h : w.ownsRow B 3 1 v n (ints xs)) (hn : 0 < n) : ∃ g cap rest, v = .slice (some ⟨g, 0, none⟩) n cap ∧ Blk w g 3 (ints xs ++ rest) ∧ B ≤ g := by
  rcases h.2 with ⟨_, h0⟩ | ⟨g, cap, cur, rfl, hbg, hg, hnc, hcm, hcs, htake⟩
  · omega
  · refine ⟨g, cap, cur.toList.drop (ints xs).length, rfl, ?_, hbg⟩
    have he : ints xs ++ cur.toList.drop (ints xs).length = cur.toList := by
      have h1 : cur.toList.take (n * 1) = ints xs := htake
      have h2 : (ints xs).length = n * 1 := h.1
      rw [h2, ← h1, List.take_append_drop]
    unfold Blk
    rw [he]
    exact hg
theorem ownI_made (w : World) (B : Nat) (hB : B ≤ w.heap.size) : (w.alloc (.cells #[] 3)).ownsRow B 3 1 (.slice (some ⟨w.heap.size, 0, none⟩) 0 0) 0 (ints []) :=
  ⟨rfl, .inr ⟨w.heap.size, 0, #[], rfl, hB, World.alloc_heap_new w _, Nat.le_refl _, Nat.zero_le _, rfl, rfl⟩⟩
theorem ints_one (xs : List Int) : ∀ u ∈ ints xs, u.oneCell' = true := by
  intro u hu
  obtain ⟨_, _, rfl⟩ := List.mem_map.1 hu
  rfl
theorem HeldInt.news {w : World} {b off : Nat} {xs : List Int} (h : HeldInt w (some ⟨b, off, none⟩) xs) : ∀ j u, (ints xs)[j]? = some u → w.cell? ((⟨b, off, none⟩ : Addr).add j) = some u := by
  intro j u hu
  have hj : j < xs.length := by
    have := (List.getElem?_eq_some_iff.1 hu).1
    simpa [ints] using this
  rcases h.2 with h0 | ⟨b', off', e, _, hc⟩
  · rw [h0] at hj; cases hj
  · cases e
    rw [Addr.add_lit, hc j hj]
    simp [ints, List.getElem?_eq_getElem hj] at hu
    subst hu
    simp [List.getD, List.getElem?_eq_getElem hj]
section
variable {w : World} {x nodes : Nat} {v : Value} {ts : List TickV}
/-- There is room for a tick, as far as the first k clocks. -/
def RoomR (ts : List TickV) (t : Int) (on : List Int) (k : Nat) : Prop := S fT ts + t ≤ 1152921504606846976 ∧ ∀ j, j < k → S (fN j) ts + on.getD j 0 ≤ 1152921504606846976
instance (ts : List TickV) (t : Int) (on : List Int) (k : Nat) : Decidable (RoomR ts t on k) := by unfold RoomR; infer_instance
theorem RoomR.succ {ts : List TickV} {t : Int} {on : List Int} {k : Nat} : RoomR ts t on (k + 1) ↔ RoomR ts t on k ∧ S (fN k) ts + on.getD k 0 ≤ 1152921504606846976 := by
  unfold RoomR
  constructor
  · rintro ⟨h1, h2⟩
    exact ⟨⟨h1, fun j hj => h2 j (by omega)⟩, h2 k (by omega)⟩
  · rintro ⟨⟨h1, h2⟩, h3⟩
    refine ⟨h1, fun j hj => ?_⟩
    by_cases e : j = k
    · subst e; exact h3
    · exact h2 j (by omega)
theorem wrap_from {a : Int} (h : 0 ≤ a ∧ a ≤ 1152921504606846976) : wrap64 (1152921504606846976 - a) = 1152921504606846976 - a := wrapS (by omega) (by omega)

theorem turns_from {F : Nat → Prop} {w wr W : World} (hq : ∃ q, wr = w.drewN q) (h : Turns F wr W) : Turns F w W := by
  obtain ⟨q, rfl⟩ := hq
  exact ⟨h.os, h.tape, h.output, h.size, h.block⟩
end
end Go.Proofs.Ytmceffndnofgfaa
