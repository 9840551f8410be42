/-
  What LeaseAlone has in memory ('AS'): clocks, a lease, a row of holds, who let another one through, the asks on their way; its steps.
-/
import Derived.Test.YtmceffndnofgfaaLaM
import Derived.Test.YtmceffndnofgfaaLeG
namespace Go.Proofs.Ytmceffndnofgfaa
open Go.RowKit Go.Maps

def flatW (l : List (Int × Int)) : List Value := l.flatMap fun x => [.int .i64 x.1, .int .i64 x.2]
theorem flatW_snoc (l : List (Int × Int)) (x : Int × Int) : flatW (l ++ [x]) = flatW l ++ [.int .i64 x.1, .int .i64 x.2] := by simp [flatW]
theorem flatW_app (l m : List (Int × Int)) : flatW (l ++ m) = flatW l ++ flatW m := by simp [flatW]
theorem flatW_len : ∀ l : List (Int × Int), (flatW l).length = l.length * 2
  | [] => rfl
  | x :: l => by
    have := flatW_len l
    simp [flatW] at *
    omega
theorem flatW_get : ∀ {l : List (Int × Int)} {j : Nat} (h : j < l.length), (flatW l)[j * 2]? = some (.int .i64 l[j].1) ∧ (flatW l)[j * 2 + 1]? = some (.int .i64 l[j].2)
  | x :: l, 0, _ => by simp [flatW]
  | x :: l, j + 1, h => by
    have hj : j < l.length := by simpa using h
    have := flatW_get hj
    have e1 : (j + 1) * 2 = j * 2 + 1 + 1 := by omega
    rw [e1]
    simpa [flatW] using this
theorem flatW_one (l : List (Int × Int)) : ∀ u ∈ flatW l, u.oneCell' = true := by
  intro u hu
  simp [flatW] at hu
  obtain ⟨a, b, _, h | h⟩ := hu <;> subst h <;> rfl
def rowF {α : Type} (n : Nat) (f : Nat → α) : List α := (List.range n).map f
theorem rowF_get {α : Type} {n : Nat} (f : Nat → α) {i : Nat} (h : i < n) : (rowF n f)[i]? = some (f i) := by simp [rowF, h]
theorem rowF_set {α β : Type} {n : Nat} (f : Nat → α) (c : α → β) {i : Nat} (v : α) : (rowF n (fun k => c (f k))).set i (c v) = rowF n (fun k => c (setN f i v k)) := by
  apply List.ext_getElem?
  intro k
  unfold rowF
  by_cases hk : k < n
  · by_cases hki : k = i
    · subst hki
      simp [hk, setN]
    · rw [List.getElem?_set_ne (Ne.symm hki)]
      simp [hk, setN, hki]
  · rw [List.getElem?_eq_none (by simp; omega), List.getElem?_eq_none (by simp; omega)]
def ptrV (b : Nat) : Value := .pointer (some ⟨b, 0, none⟩)

structure AS (w wr : World) (n pc gc cc p g c hb lb mb tb : Nat) (T long : Int) (now : List Int) (time need : Int) (asks : List Int) (hp : Nat → Nat) (hs : Nat → Int × Int × Int) (lets : Nat → Bool) (v : Value) (way : List (Int × Int)) : Prop where
  clk : ClkAt wr pc gc cc now time need
  ls : LsAt wr p g c asks T
  hbk : Blk wr hb 30 (rowF n fun i => ptrV (hp i))
  hd : ∀ i, i < n → HdAt wr (hp i) long (hs i).1 (hs i).2.1 (hs i).2.2
  inj : ∀ i j, i < n → j < n → hp i = hp j → i = j
  lbk : Blk wr lb 4 (rowF n fun i => Value.bool (lets i))
  mbk : Blk wr mb 38 [.int .i64 5, .int .i64 0]
  tbk : Blk wr tb 38 [.int .i64 6, .int .i64 1]
  row : wr.ownsRow w.heap.size 70 2 v way.length (flatW way)
  bel : Below w.heap.size w wr
  far : (w.heap.size ≤ pc ∧ w.heap.size ≤ gc) ∧ (w.heap.size ≤ p ∧ w.heap.size ≤ g) ∧ w.heap.size ≤ hb ∧ w.heap.size ≤ lb
  farh : ∀ i, i < n → w.heap.size ≤ hp i
  ne : gc ≠ g
  own : ∀ i, i < n → ((hs i).1, (hs i).2.1) ≠ (6, 1)
  few : way.length ≤ 5000
section
variable {w wr wr' : World} {n pc gc cc p g c hb lb mb tb : Nat} {T long : Int} {now : List Int} {time need : Int} {asks : List Int} {hp : Nat → Nat} {hs : Nat → Int × Int × Int} {lets : Nat → Bool} {v : Value} {way : List (Int × Int)}
theorem row_kept {F : Nat → Prop} {B e size k : Nat} {u : Value} {xs : List Value} (hr : wr.ownsRow B e size u k xs) (ht : Turns F wr wr') (hF : ∀ i, F i → ∃ t cs, t ≠ e ∧ Blk wr i t cs) : wr'.ownsRow B e size u k xs :=
  ht.row hr (fun i hi hf => by
    obtain ⟨t, cs, h1, h2⟩ := hF i hf
    exact h2.not_row h1 hr hi.symm)
theorem AS.grow (H : AS w wr n pc gc cc p g c hb lb mb tb T long now time need asks hp hs lets v way) (hb' : Below wr.heap.size wr wr') : AS w wr' n pc gc cc p g c hb lb mb tb T long now time need asks hp hs lets v way :=
  ⟨H.clk.below hb' (Nat.le_refl _), H.ls.below hb' (Nat.le_refl _), H.hbk.below hb' H.hbk.lt, fun i hi => (H.hd i hi).below hb' (Nat.le_refl _), H.inj, H.lbk.below hb' H.lbk.lt, H.mbk.below hb' H.mbk.lt, H.tbk.below hb' H.tbk.lt, row_kept H.row (Turns.of_below (F := fun _ => False) hb' (Nat.le_refl _)) (fun _ h => h.elim), H.bel.trans (hb'.mono H.bel.size), H.far, H.farh, H.ne, H.own, H.few⟩
theorem AS.drewN (H : AS w wr n pc gc cc p g c hb lb mb tb T long now time need asks hp hs lets v way) (q : Nat) : AS w (wr.drewN q) n pc gc cc p g c hb lb mb tb T long now time need asks hp hs lets v way := H.grow (below_dn (Below.refl _ _) q)
theorem AS.turnClk {now' : List Int} {time' need' : Int} (H : AS w wr n pc gc cc p g c hb lb mb tb T long now time need asks hp hs lets v way) (h' : ClkAt wr' pc gc cc now' time' need') (ht : Turns (CFoot pc gc) wr wr') : AS w wr' n pc gc cc p g c hb lb mb tb T long now' time' need' asks hp hs lets v way := by
  obtain ⟨rc, hrc⟩ := H.clk.row
  obtain ⟨rl, hrl⟩ := H.ls.row
  have hn : ∀ {i t cs}, Blk wr i t cs → t ≠ 84 → t ≠ 3 → ¬ CFoot pc gc i := by
    rintro i t cs hk h1 h2 (e | e)
    · exact blk_neL hk H.clk.blk h1 e
    · exact blk_neL hk hrc h2 e
  refine ⟨h', H.ls.turned ht (fun i hi hf => ?_), ht.blk H.hbk (hn H.hbk (by decide) (by decide)), fun i hi => (H.hd i hi).turned ht (hn (H.hd i hi).blk (by decide) (by decide)), H.inj, ht.blk H.lbk (hn H.lbk (by decide) (by decide)), ht.blk H.mbk (hn H.mbk (by decide) (by decide)), ht.blk H.tbk (hn H.tbk (by decide) (by decide)), row_kept H.row ht (fun i hi => ?_), H.bel.trans (ht.below (fun i hi => by have := H.far; rcases hi with e | e <;> omega) H.bel.size), H.far, H.farh, H.ne, H.own, H.few⟩
  · rcases hi with e | e
    · exact hn (i := p) H.ls.blk (by decide) (by decide) (e ▸ hf)
    · rcases hf with e2 | e2
      · exact blk_neL hrl H.clk.blk (by decide) (e ▸ e2)
      · exact H.ne (by omega)
  · rcases hi with e | e
    · exact ⟨_, _, by decide, e ▸ H.clk.blk⟩
    · exact ⟨_, _, by decide, e ▸ hrc⟩
theorem AS.turnLs {asks' : List Int} (H : AS w wr n pc gc cc p g c hb lb mb tb T long now time need asks hp hs lets v way) (h' : LsAt wr' p g c asks' T) (ht : Turns (CFoot p g) wr wr') : AS w wr' n pc gc cc p g c hb lb mb tb T long now time need asks' hp hs lets v way := by
  obtain ⟨rc, hrc⟩ := H.clk.row
  obtain ⟨rl, hrl⟩ := H.ls.row
  have hn : ∀ {i t cs}, Blk wr i t cs → t ≠ 76 → t ≠ 3 → ¬ CFoot p g i := by
    rintro i t cs hk h1 h2 (e | e)
    · exact blk_neL hk H.ls.blk h1 e
    · exact blk_neL hk hrl h2 e
  refine ⟨H.clk.turned ht (fun i hi hf => ?_), h', ht.blk H.hbk (hn H.hbk (by decide) (by decide)), fun i hi => (H.hd i hi).turned ht (hn (H.hd i hi).blk (by decide) (by decide)), H.inj, ht.blk H.lbk (hn H.lbk (by decide) (by decide)), ht.blk H.mbk (hn H.mbk (by decide) (by decide)), ht.blk H.tbk (hn H.tbk (by decide) (by decide)), row_kept H.row ht (fun i hi => ?_), H.bel.trans (ht.below (fun i hi => by have := H.far; rcases hi with e | e <;> omega) H.bel.size), H.far, H.farh, H.ne, H.own, H.few⟩
  · rcases hi with e | e
    · exact hn (i := pc) H.clk.blk (by decide) (by decide) (e ▸ hf)
    · rcases hf with e2 | e2
      · exact blk_neL hrc H.ls.blk (by decide) (e ▸ e2)
      · exact H.ne (by omega)
  · rcases hi with e | e
    · exact ⟨_, _, by decide, e ▸ H.ls.blk⟩
    · exact ⟨_, _, by decide, e ▸ hrl⟩
theorem AS.turnHd {i : Nat} (hi : i < n) {s' : Int × Int × Int} (H : AS w wr n pc gc cc p g c hb lb mb tb T long now time need asks hp hs lets v way) (h' : HdAt wr' (hp i) long s'.1 s'.2.1 s'.2.2) (ho : (s'.1, s'.2.1) ≠ (6, 1)) (ht : Turns (fun k => k = hp i) wr wr') : AS w wr' n pc gc cc p g c hb lb mb tb T long now time need asks hp (setN hs i s') lets v way := by
  obtain ⟨rc, hrc⟩ := H.clk.row
  obtain ⟨rl, hrl⟩ := H.ls.row
  have hn : ∀ {j t cs}, Blk wr j t cs → t ≠ 78 → ¬ j = hp i := fun hk h1 e => blk_neL hk (H.hd i hi).blk h1 e
  refine ⟨H.clk.turned ht (fun k hk hf => ?_), H.ls.turned ht (fun k hk hf => ?_), ht.blk H.hbk (hn H.hbk (by decide)), fun k hk => ?_, H.inj, ht.blk H.lbk (hn H.lbk (by decide)), ht.blk H.mbk (hn H.mbk (by decide)), ht.blk H.tbk (hn H.tbk (by decide)), row_kept H.row ht (fun k hk => ⟨_, _, by decide, hk ▸ (H.hd i hi).blk⟩), H.bel.trans (ht.below (fun k hk => by have := H.farh i hi; omega) H.bel.size), H.far, H.farh, H.ne, fun k hk => ?_, H.few⟩
  · rcases hk with e | e
    · exact hn (j := pc) H.clk.blk (by decide) (e ▸ hf)
    · exact hn (j := gc) hrc (by decide) (e ▸ hf)
  · rcases hk with e | e
    · exact hn (j := p) H.ls.blk (by decide) (e ▸ hf)
    · exact hn (j := g) hrl (by decide) (e ▸ hf)
  · by_cases hki : k = i
    · subst hki
      rw [setN_same]
      exact h'
    · rw [setN_ne _ _ hki]
      exact (H.hd k hk).turned ht (fun e => hki (H.inj k i hk hi e))
  · by_cases hki : k = i
    · subst hki
      rw [setN_same]
      exact ho
    · rw [setN_ne _ _ hki]
      exact H.own k hk
/-- A node's hold is another one. -/
theorem AS.newHd {i b0 : Nat} (hi : i < n) (H : AS w wr n pc gc cc p g c hb lb mb tb T long now time need asks hp hs lets v way) (hb' : Below wr.heap.size wr wr') (h0 : HdAt wr' b0 long 0 0 0) (hb0 : wr.heap.size ≤ b0) : AS w (wr'.setCell ⟨hb, i, none⟩ (ptrV b0)) n pc gc cc p g c hb lb mb tb T long now time need asks (setN hp i b0) (setN hs i (0, 0, 0)) lets v way := by
  have K := H.grow hb'
  have ht : Turns (fun k => k = hb) wr' (wr'.setCell ⟨hb, i, none⟩ (ptrV b0)) := (Turns.refl (fun k => k = hb) wr').setCell (p := ⟨hb, i, none⟩) (.inl rfl) _
  obtain ⟨rc, hrc⟩ := K.clk.row
  obtain ⟨rl, hrl⟩ := K.ls.row
  have hn : ∀ {j t cs}, Blk wr' j t cs → t ≠ 30 → ¬ j = hb := fun hk h1 e => blk_neL hk K.hbk h1 e
  have hlt : ∀ k, k < n → hp k < wr.heap.size := fun k hk => (H.hd k hk).blk.lt
  refine ⟨K.clk.turned ht (fun k hk hf => ?_), K.ls.turned ht (fun k hk hf => ?_), ?_, fun k hk => ?_, fun j k hj hk e => ?_, ht.blk K.lbk (hn K.lbk (by decide)), ht.blk K.mbk (hn K.mbk (by decide)), ht.blk K.tbk (hn K.tbk (by decide)), row_kept K.row ht (fun k hk => ⟨_, _, by decide, hk ▸ K.hbk⟩), K.bel.trans (ht.below (fun k hk => by have := K.far; omega) K.bel.size), K.far, fun k hk => ?_, K.ne, fun k hk => ?_, K.few⟩
  · rcases hk with e | e
    · exact hn (j := pc) K.clk.blk (by decide) (e ▸ hf)
    · exact hn (j := gc) hrc (by decide) (e ▸ hf)
  · rcases hk with e | e
    · exact hn (j := p) K.ls.blk (by decide) (e ▸ hf)
    · exact hn (j := g) hrl (by decide) (e ▸ hf)
  · have := K.hbk.set i (ptrV b0)
    rwa [rowF_set hp ptrV] at this
  · by_cases hki : k = i
    · subst hki
      rw [setN_same, setN_same]
      exact h0.turned ht (hn h0.blk (by decide))
    · rw [setN_ne _ _ hki, setN_ne _ _ hki]
      exact (K.hd k hk).turned ht (hn (K.hd k hk).blk (by decide))
  · by_cases hji : j = i
    · by_cases hki : k = i
      · omega
      · subst hji
        rw [setN_same, setN_ne _ _ hki] at e
        have := hlt k hk
        omega
    · by_cases hki : k = i
      · subst hki
        rw [setN_same, setN_ne _ _ hji] at e
        have := hlt j hj
        omega
      · rw [setN_ne _ _ hji, setN_ne _ _ hki] at e
        exact H.inj j k hj hk e
  · by_cases hki : k = i
    · subst hki
      rw [setN_same]
      have := H.bel.size
      omega
    · rw [setN_ne _ _ hki]
      exact H.farh k hk
  · by_cases hki : k = i
    · subst hki
      rw [setN_same]
      decide
    · rw [setN_ne _ _ hki]
      exact H.own k hk
theorem AS.setLet {i : Nat} (H : AS w wr n pc gc cc p g c hb lb mb tb T long now time need asks hp hs lets v way) : AS w (wr.setCell ⟨lb, i, none⟩ (.bool true)) n pc gc cc p g c hb lb mb tb T long now time need asks hp hs (setN lets i true) v way := by
  have ht : Turns (fun k => k = lb) wr (wr.setCell ⟨lb, i, none⟩ (.bool true)) := (Turns.refl (fun k => k = lb) wr).setCell (p := ⟨lb, i, none⟩) (.inl rfl) _
  obtain ⟨rc, hrc⟩ := H.clk.row
  obtain ⟨rl, hrl⟩ := H.ls.row
  have hn : ∀ {j t cs}, Blk wr j t cs → t ≠ 4 → ¬ j = lb := fun hk h1 e => blk_neL hk H.lbk h1 e
  refine ⟨H.clk.turned ht (fun k hk hf => ?_), H.ls.turned ht (fun k hk hf => ?_), ht.blk H.hbk (hn H.hbk (by decide)), fun k hk => (H.hd k hk).turned ht (hn (H.hd k hk).blk (by decide)), H.inj, ?_, ht.blk H.mbk (hn H.mbk (by decide)), ht.blk H.tbk (hn H.tbk (by decide)), row_kept H.row ht (fun k hk => ⟨_, _, by decide, hk ▸ H.lbk⟩), H.bel.trans (ht.below (fun k hk => by have := H.far; omega) H.bel.size), H.far, H.farh, H.ne, H.own, H.few⟩
  · rcases hk with e | e
    · exact hn (j := pc) H.clk.blk (by decide) (e ▸ hf)
    · exact hn (j := gc) hrc (by decide) (e ▸ hf)
  · rcases hk with e | e
    · exact hn (j := p) H.ls.blk (by decide) (e ▸ hf)
    · exact hn (j := g) hrl (by decide) (e ▸ hf)
  · have := H.lbk.set i (.bool true)
    rwa [rowF_set lets Value.bool] at this
/-- The asks on their way lie elsewhere; nothing else has turned but their old row. -/
theorem AS.newRow {v' : Value} {way' : List (Int × Int)} (H : AS w wr n pc gc cc p g c hb lb mb tb T long now time need asks hp hs lets v way) (hr : wr'.ownsRow w.heap.size 70 2 v' way'.length (flatW way')) (ht : Turns (fun i => v.ownBlock = some i) wr wr') (hf : way'.length ≤ 5000) : AS w wr' n pc gc cc p g c hb lb mb tb T long now time need asks hp hs lets v' way' := by
  obtain ⟨rc, hrc⟩ := H.clk.row
  obtain ⟨rl, hrl⟩ := H.ls.row
  have hn : ∀ {j t cs}, Blk wr j t cs → t ≠ 70 → ¬ v.ownBlock = some j := fun hk h1 e => hk.not_row h1 H.row e.symm
  refine ⟨H.clk.turned ht (fun k hk hf => ?_), H.ls.turned ht (fun k hk hf => ?_), ht.blk H.hbk (hn H.hbk (by decide)), fun k hk => (H.hd k hk).turned ht (hn (H.hd k hk).blk (by decide)), H.inj, ht.blk H.lbk (hn H.lbk (by decide)), ht.blk H.mbk (hn H.mbk (by decide)), ht.blk H.tbk (hn H.tbk (by decide)), hr, H.bel.trans (ht.below (fun k hk => (H.row.lt k hk).1) H.bel.size), H.far, H.farh, H.ne, H.own, hf⟩
  · rcases hk with e | e
    · exact hn (j := pc) H.clk.blk (by decide) (e ▸ hf)
    · exact hn (j := gc) hrc (by decide) (e ▸ hf)
  · rcases hk with e | e
    · exact hn (j := p) H.ls.blk (by decide) (e ▸ hf)
    · exact hn (j := g) hrl (by decide) (e ▸ hf)
end
end Go.Proofs.Ytmceffndnofgfaa
