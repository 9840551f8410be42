/-
  LeaseAlone's beginning: the holds, made one by one ('A1'); what it has then.
-/
import Derived.Test.YtmceffndnofgfaaLaB
namespace Go.Proofs.Ytmceffndnofgfaa
open Go.RowKit Go.Maps

theorem Try.infoPH : (Try.prog.info? 30).map (fun i => (i.zero, i.size, i.bytes)) = some (some (.pointer none), 1, 8) := by kernel_rfl
theorem Try.infoBo : (Try.prog.info? 4).map (fun i => (i.zero, i.size, i.bytes)) = some (some (.bool false), 1, 1) := by kernel_rfl
theorem madeP (n : Nat) : (madeCells #[Value.pointer none] n) = (rowF n fun i => if i < 0 then ptrV 0 else Value.pointer none).toArray := by
  apply Array.ext'
  rw [toList_madeCells_one]
  simp [rowF, List.map_const']
theorem madeBo (n : Nat) : (madeCells #[Value.bool false] n) = (rowF n fun i => Value.bool ((fun _ => false) i)).toArray := by
  apply Array.ext'
  rw [toList_madeCells_one]
  simp [rowF, List.map_const']
theorem tm7 (x : Int) : ∃ N : Nat, N ≤ 6 ∧ ((x.tmod 7 < 0 → wrap64 (-x.tmod 7) = (N : Int)) ∧ (¬ x.tmod 7 < 0 → x.tmod 7 = (N : Int))) := by
  have h1 : x.tmod 7 < 7 := Int.tmod_lt_of_pos x (by decide)
  have h2 : -7 < x.tmod 7 := by
    have := Int.tmod_lt_of_pos (-x) (b := 7) (by decide)
    rw [Int.neg_tmod] at this
    omega
  refine ⟨(x.tmod 7).natAbs, by omega, fun h => ?_, fun h => by omega⟩
  rw [wrapS (by omega) (by omega)]
  omega
/-- Which node a number is. -/
theorem tmN (x : Int) (n : Nat) (hn : 1 ≤ n ∧ n ≤ 7) : ∃ j : Nat, j < n ∧ ((x.tmod n < 0 → wrap64 (x.tmod n + n) = (j : Int)) ∧ (¬ x.tmod n < 0 → x.tmod n = (j : Int))) := by
  have hp : (0 : Int) < n := by omega
  have h1 : x.tmod n < n := Int.tmod_lt_of_pos x hp
  have h2 : -(n : Int) < x.tmod n := by
    have := Int.tmod_lt_of_pos (-x) hp
    rw [Int.neg_tmod] at this
    omega
  by_cases h : x.tmod n < 0
  · refine ⟨(x.tmod n + n).toNat, by omega, fun _ => ?_, fun h' => absurd h h'⟩
    rw [wrapS (by omega) (by omega)]
    omega
  · exact ⟨(x.tmod n).toNat, by omega, fun h' => absurd h' h, fun _ => by omega⟩

structure A1 (w wr : World) (n pc gc cc p g c hb k : Nat) (T long : Int) (now : List Int) (time need : Int) (asks : List Int) (hp : Nat → Nat) : Prop where
  clk : ClkAt wr pc gc cc now time need
  ls : LsAt wr p g c asks T
  hbk : Blk wr hb 30 (rowF n fun i => if i < k then ptrV (hp i) else .pointer none)
  hd : ∀ i, i < k → HdAt wr (hp i) long 0 0 0
  inj : ∀ i j, i < k → j < k → hp i = hp j → i = j
  bel : Below w.heap.size w wr
  far : (w.heap.size ≤ pc ∧ w.heap.size ≤ gc) ∧ (w.heap.size ≤ p ∧ w.heap.size ≤ g) ∧ w.heap.size ≤ hb
  farh : ∀ i, i < k → w.heap.size ≤ hp i
  ne : gc ≠ g
section
variable {w wr wr' : World} {n pc gc cc p g c hb k : Nat} {T long : Int} {now : List Int} {time need : Int} {asks : List Int} {hp : Nat → Nat}
theorem A1.grow (H : A1 w wr n pc gc cc p g c hb k T long now time need asks hp) (hb' : Below wr.heap.size wr wr') : A1 w wr' n pc gc cc p g c hb k T long now time need asks hp :=
  ⟨H.clk.below hb' (Nat.le_refl _), H.ls.below hb' (Nat.le_refl _), H.hbk.below hb' H.hbk.lt, fun i hi => (H.hd i hi).below hb' (Nat.le_refl _), H.inj, H.bel.trans (hb'.mono H.bel.size), H.far, H.farh, H.ne⟩
theorem A1.step {b0 : Nat} (hk : k < n) (H : A1 w wr n pc gc cc p g c hb k T long now time need asks hp) (hb' : Below wr.heap.size wr wr') (h0 : HdAt wr' b0 long 0 0 0) (hb0 : wr.heap.size ≤ b0) : A1 w (wr'.setCell ⟨hb, k, none⟩ (ptrV b0)) n pc gc cc p g c hb (k + 1) T long now time need asks (setN hp k b0) := by
  have K := H.grow hb'
  have ht : Turns (fun j => j = hb) wr' (wr'.setCell ⟨hb, k, none⟩ (ptrV b0)) := (Turns.refl (fun j => j = hb) wr').setCell (p := ⟨hb, k, none⟩) (.inl rfl) _
  obtain ⟨rc, hrc⟩ := K.clk.row
  obtain ⟨rl, hrl⟩ := K.ls.row
  have hn : ∀ {j t cs}, Blk wr' j t cs → t ≠ 30 → ¬ j = hb := fun hk h1 e => blk_neL hk K.hbk h1 e
  have hlt : ∀ i, i < k → hp i < wr.heap.size := fun i hi => (H.hd i hi).blk.lt
  refine ⟨K.clk.turned ht (fun i hi hf => ?_), K.ls.turned ht (fun i hi hf => ?_), ?_, fun i hi => ?_, fun i j hi hj e => ?_, K.bel.trans (ht.below (fun i hi => by have := K.far; omega) K.bel.size), K.far, fun i hi => ?_, K.ne⟩
  · rcases hi with e | e
    · exact hn (j := pc) K.clk.blk (by decide) (e ▸ hf)
    · exact hn (j := gc) hrc (by decide) (e ▸ hf)
  · rcases hi with e | e
    · exact hn (j := p) K.ls.blk (by decide) (e ▸ hf)
    · exact hn (j := g) hrl (by decide) (e ▸ hf)
  · have h1 := K.hbk.set k (ptrV b0)
    have e : (rowF n fun i => if i < k then ptrV (hp i) else Value.pointer none).set k (ptrV b0) = rowF n fun i => if i < k + 1 then ptrV (setN hp k b0 i) else Value.pointer none := by
      apply List.ext_getElem?
      intro i
      unfold rowF
      by_cases hi : i < n
      · by_cases hik : i = k
        · subst hik
          simp [hi, setN]
        · rw [List.getElem?_set_ne (Ne.symm hik)]
          by_cases hlt' : i < k
          · have : i < k + 1 := by omega
            simp [hi, setN, hik, hlt', this]
          · have : ¬ i < k + 1 := by omega
            simp [hi, hlt', this]
      · rw [List.getElem?_eq_none (by simp; omega), List.getElem?_eq_none (by simp; omega)]
    rwa [e] at h1
  · by_cases hik : i = k
    · subst hik
      rw [setN_same]
      exact h0.turned ht (hn h0.blk (by decide))
    · rw [setN_ne _ _ hik]
      exact (K.hd i (by omega)).turned ht (hn (K.hd i (by omega)).blk (by decide))
  · by_cases hik : i = k
    · by_cases hjk : j = k
      · omega
      · subst hik
        rw [setN_same, setN_ne _ _ hjk] at e
        have := hlt j (by omega)
        omega
    · by_cases hjk : j = k
      · subst hjk
        rw [setN_same, setN_ne _ _ hik] at e
        have := hlt i (by omega)
        omega
      · rw [setN_ne _ _ hik, setN_ne _ _ hjk] at e
        exact H.inj i j (by omega) (by omega) e
  · by_cases hik : i = k
    · subst hik
      rw [setN_same]
      have := H.bel.size
      omega
    · rw [setN_ne _ _ hik]
      exact H.farh i (by omega)
theorem A1.toAS (H : A1 w wr n pc gc cc p g c hb n T long now time need asks hp) (hb' : Below wr.heap.size wr wr') {lb mb tb : Nat} (hl : Blk wr' lb 4 (rowF n fun i => Value.bool ((fun _ => false) i))) (hm : Blk wr' mb 38 [.int .i64 5, .int .i64 0]) (ht : Blk wr' tb 38 [.int .i64 6, .int .i64 1]) (hlb : wr.heap.size ≤ lb) :
    AS w wr' n pc gc cc p g c hb lb mb tb T long now time need asks hp (fun _ => (0, 0, 0)) (fun _ => false) (.slice none 0 0) [] := by
  have K := H.grow hb'
  refine ⟨K.clk, K.ls, ?_, K.hd, K.inj, hl, hm, ht, ⟨rfl, .inl ⟨rfl, rfl⟩⟩, K.bel, ⟨K.far.1, K.far.2.1, K.far.2.2, by have := H.bel.size; omega⟩, K.farh, K.ne, fun i hi => by decide, by simp⟩
  have e : (rowF n fun i => if i < n then ptrV (hp i) else Value.pointer none) = rowF n fun i => ptrV (hp i) := by
    unfold rowF
    apply List.map_congr_left
    intro i hi
    rw [if_pos (List.mem_range.1 hi)]
  rw [← e]
  exact K.hbk
end
end Go.Proofs.Ytmceffndnofgfaa
