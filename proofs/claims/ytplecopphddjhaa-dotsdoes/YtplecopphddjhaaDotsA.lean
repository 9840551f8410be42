/-
  Package dots: what a set is in memory ('DotsAt'), and the contracts of closed, may, New, Len, Get, has.
-/
import Derived.Test.YtplecopphddjhaaIntsA
import Derived.Test.YtplecopphddjhaaVvO
import Derived.Deep.QuietTactic
import Derived.BigQuiet
namespace Go.Proofs.Ytplecopphddjhaa
open Go.RowKit Go.Maps

def MayD (o s : Int) : Prop := (0 ≤ o ∧ o < 7) ∧ (1 ≤ s ∧ s ≤ 2147483647)
instance (o s : Int) : Decidable (MayD o s) := by unfold MayD; infer_instance
theorem MayD.i64 {o s : Int} (h : MayD o s) : I64 o ∧ I64 s := by
  unfold MayD at h
  unfold I64
  omega
def zeroE : Value := .string ⟨#[]⟩
def IsE (v : Value) : Prop := ∃ t, v = .string t
/-- How many values the runs have. -/
def sumR (R : Nat → List Value) : Nat := (R 0).length + (R 1).length + (R 2).length + (R 3).length + (R 4).length + (R 5).length + (R 6).length
theorem sumR_le (R : Nat → List Value) {k : Nat} (hk : k < 7) : (R k).length ≤ sumR R := by
  unfold sumR
  match k, hk with
  | 0, _ | 1, _ | 2, _ | 3, _ | 4, _ | 5, _ | 6, _ => omega
def setCells (rs : Nat → Value) (m : Nat) : List Value := [rs 0, rs 1, rs 2, rs 3, rs 4, rs 5, rs 6, .map (some m)]
theorem setCells_run (rs : Nat → Value) (m : Nat) {k : Nat} (hk : k < 7) : (setCells rs m)[k]? = some (rs k) := by
  match k, hk with
  | 0, _ | 1, _ | 2, _ | 3, _ | 4, _ | 5, _ | 6, _ => rfl
/-- All but that no gap stands open. -/
structure DotsPre (w : World) (p : Nat) (rs : Nat → Value) (R : Nat → List Value) (m : Nat) (D : DataW Value) (S : Int → Int → Option Value) (N : Nat) : Prop where
  blk : Blk w p 44 (setCells rs m)
  run : ∀ i, i < 7 → w.ownsRow 0 9 1 (rs i) (R i).length (R i)
  map : w.ownsMap Try.prog 25 valR m N D
  apart : ∀ i j, i < 7 → j < 7 → ∀ g, (rs i).ownBlock = some g → (rs j).ownBlock = some g → i = j
  one : ∀ i, i < 7 → ∀ u ∈ R i, IsE u
  keys : ∀ o s, I64 o → I64 s → look D (dk o s) = if MayD o s ∧ ((R o.toNat).length : Int) < s then S o s else none
  runs : ∀ o : Nat, o < 7 → ∀ i : Nat, i < (R o).length → S (o : Int) ((i : Int) + 1) = (R o)[i]?
  out : ∀ o s, ¬ MayD o s → S o s = none
  ones : ∀ o s v, S o s = some v → IsE v
  cnt : N = Maps.size D + sumR R
  few : N ≤ 65536
/-- A set in memory: its block p, its map's block m; S tells the value of each dot, N how many there are. -/
structure DotsAt (w : World) (p : Nat) (rs : Nat → Value) (R : Nat → List Value) (m : Nat) (D : DataW Value) (S : Int → Int → Option Value) (N : Nat) : Prop where
  pre : DotsPre w p rs R m D S N
  gap : ∀ o : Nat, o < 7 → S (o : Int) (((R o).length : Int) + 1) = none
def FootD (p m : Nat) (rs : Nat → Value) (i : Nat) : Prop := i = p ∨ i = m ∨ ∃ k, k < 7 ∧ (rs k).ownBlock = some i

section
variable {w w' : World} {p m N : Nat} {rs : Nat → Value} {R : Nat → List Value} {D : DataW Value} {S : Int → Int → Option Value}
theorem DotsPre.turned {F : Nat → Prop} (h : DotsPre w p rs R m D S N) (ht : Turns F w w') (hF : ∀ i, FootD p m rs i → ¬ F i) : DotsPre w' p rs R m D S N :=
  ⟨ht.blk h.blk (hF p (.inl rfl)), fun i hi => ht.row (h.run i hi) (fun g hg => hF g (.inr (.inr ⟨i, hi, hg⟩))), ht.map h.map (hF m (.inr (.inl rfl))), h.apart, h.one, h.keys, h.runs, h.out, h.ones, h.cnt, h.few⟩
theorem DotsAt.turned {F : Nat → Prop} (h : DotsAt w p rs R m D S N) (ht : Turns F w w') (hF : ∀ i, FootD p m rs i → ¬ F i) : DotsAt w' p rs R m D S N := ⟨h.pre.turned ht hF, h.gap⟩
theorem DotsPre.below (h : DotsPre w p rs R m D S N) (hb : Below w.heap.size w w') : DotsPre w' p rs R m D S N := h.turned (F := fun _ => False) (Turns.of_below hb (Nat.le_refl _)) (fun _ _ h => h)
theorem DotsAt.below (h : DotsAt w p rs R m D S N) (hb : Below w.heap.size w w') : DotsAt w' p rs R m D S N := ⟨h.pre.below hb, h.gap⟩
theorem DotsPre.foot_lt (h : DotsPre w p rs R m D S N) : ∀ i, FootD p m rs i → i < w.heap.size := by
  rintro i (rfl | rfl | ⟨k, hk, hi⟩)
  · exact h.blk.lt
  · exact h.map.lt
  · exact ownsRow_lt (h.run k hk) hi
theorem DotsPre.len (h : DotsPre w p rs R m D S N) {k : Nat} (hk : k < 7) : (R k).length ≤ 65536 := by
  have h1 := sumR_le R hk
  have h2 := h.cnt
  have h3 := h.few
  omega
/-- What a set has of a dot that may be. -/
theorem DotsPre.at (h : DotsPre w p rs R m D S N) {o : Nat} {s : Int} (hm : MayD o s) : S o s = if s ≤ ((R o).length : Int) then (R o)[(s - 1).toNat]? else look D (dk o s) := by
  have h7 : o < 7 := by unfold MayD at hm; omega
  split
  · next hs =>
    have h1 := hm.2.1
    have h2 := h.runs o h7 (s - 1).toNat (by omega)
    rw [show (((s - 1).toNat : Nat) : Int) + 1 = s by omega] at h2
    exact h2
  · next hs =>
    have h1 := h.keys o s hm.i64.1 hm.i64.2
    rw [if_pos ⟨hm, by simpa using hs⟩] at h1
    exact h1.symm
end

theorem eqlM (W : World) (b : Nat) : (binOp .eql 40 (.map (some b)) (.map none)).run Try.prog W = .ok (.bool false) W := by kernel_rfl
theorem closedD_nil (w : World) : Calls Try.prog 17 #[.pointer none] w fun e w' => e = .returned (.bool true) ∧ w' = w := by
  go_enter Try.func17, Try.ntmps17
  go_wp2
  go_ret
  exact ⟨rfl, rfl⟩
theorem closedD_no (w : World) (p b : Nat) (hc : w.cell? ⟨p, 7, none⟩ = some (.map (some b))) : Calls Try.prog 17 #[.pointer (some ⟨p, 0, none⟩)] w fun e w' => e = .returned (.bool false) ∧ w' = w := by
  have he := fun W => eqlM W b
  go_enter Try.func17, Try.ntmps17
  go_wp2
  go_ret
  exact ⟨rfl, rfl⟩
theorem may_dot (w : World) (o s : Int) : Calls Try.prog 18 #[.agg #[.int .i64 o, .int .i64 s]] w fun e w' => e = .returned (.bool (decide (MayD o s))) ∧ Below w.heap.size w w' := by
  have HB : Hid (Below w.heap.size w (w.alloc (.cells #[.int .i64 o, .int .i64 s] 25))) := (Below.refl _ _).alloc (Nat.le_refl _) _
  by_cases h0 : 0 ≤ o
  · by_cases h1 : o < 7
    · by_cases h2 : 1 ≤ s
      · by_cases h3 : s ≤ 2147483647
        · go_enter Try.func18, Try.ntmps18
          go_wp2
          go_ret
          exact ⟨by rw [decide_eq_true (show MayD o s from ⟨⟨h0, h1⟩, h2, h3⟩)]; rfl, HB.out⟩
        · go_enter Try.func18, Try.ntmps18
          go_wp2
          go_ret
          exact ⟨by rw [decide_eq_false (show ¬ MayD o s by unfold MayD; omega)]; rfl, HB.out⟩
      · go_enter Try.func18, Try.ntmps18
        go_wp2
        go_ret
        exact ⟨by rw [decide_eq_false (show ¬ MayD o s by unfold MayD; omega)]; rfl, HB.out⟩
    · go_enter Try.func18, Try.ntmps18
      go_wp2
      go_ret
      exact ⟨by rw [decide_eq_false (show ¬ MayD o s by unfold MayD; omega)]; rfl, HB.out⟩
  · go_enter Try.func18, Try.ntmps18
    go_wp2
    go_ret
    exact ⟨by rw [decide_eq_false (show ¬ MayD o s by unfold MayD; omega)]; rfl, HB.out⟩

theorem DotsAt.new (w : World) : DotsAt ((w.alloc (.map #[] 0)).alloc (.cells #[.slice none 0 0, .slice none 0 0, .slice none 0 0, .slice none 0 0, .slice none 0 0, .slice none 0 0, .slice none 0 0, .map (some w.heap.size)] 44)) (w.heap.size + 1) (fun _ => .slice none 0 0) (fun _ => []) w.heap.size (.map []) (fun _ _ => none) 0 := by
  refine ⟨⟨?_, fun _ _ => World.ownsRow_nil _ _ _ _, (World.ownsMap_made w _ _ _).alloc _, fun i j _ _ g h => (by simp [Value.ownBlock] at h), fun _ _ u hu => (by cases hu), fun o s _ _ => (by rw [look_empty]; split <;> rfl), fun _ _ i hi => (by simp at hi), fun _ _ _ => rfl, fun _ _ _ h => (by cases h), rfl, by decide⟩, fun _ _ => rfl⟩
  have := Blk.new (w.alloc (.map #[] 0)) 44 (setCells (fun _ => .slice none 0 0) w.heap.size)
  rw [World.size_alloc] at this
  exact this
theorem new_any (w : World) : Calls Try.prog 4 #[] w fun e w' => e = .returned (.pointer (some ⟨w.heap.size + 1, 0, none⟩)) ∧
    DotsAt w' (w.heap.size + 1) (fun _ => .slice none 0 0) (fun _ => []) w.heap.size (.map []) (fun _ _ => none) 0 ∧ Below w.heap.size w w' := by
  have hmm := @run_makeMap Try.prog
  have HN := hid (DotsAt.new w)
  have HB : Hid (Below w.heap.size w ((w.alloc (.map #[] 0)).alloc (.cells #[.slice none 0 0, .slice none 0 0, .slice none 0 0, .slice none 0 0, .slice none 0 0, .slice none 0 0, .slice none 0 0, .map (some w.heap.size)] 44))) := ((Below.refl _ _).alloc (Nat.le_refl _) _).alloc (by simp) _
  go_enter Try.func4, Try.ntmps4
  go_wp2
  go_ret
  exact ⟨rfl, HN.out, HB.out⟩

theorem lenD_nil (w : World) : Calls Try.prog 16 #[.pointer none] w fun e w' => e = .returned (.int .i64 0) ∧ w' = w := by
  go_enter Try.func16, Try.ntmps16
  go_wp2_with fail
  refine (closedD_nil _).mono ?_
  rintro e w' ⟨rfl, rfl⟩
  go_wp2
  go_ret
  exact ⟨rfl, rfl⟩
theorem idx0 (W : World) (v0 v1 v2 v3 v4 v5 v6 : Value) : (Instr.index 42 (.agg #[v0, v1, v2, v3, v4, v5, v6]) (.int .i64 0)).run Try.prog W = .ok v0 W := by kernel_rfl
theorem idx1 (W : World) (v0 v1 v2 v3 v4 v5 v6 : Value) : (Instr.index 42 (.agg #[v0, v1, v2, v3, v4, v5, v6]) (.int .i64 1)).run Try.prog W = .ok v1 W := by kernel_rfl
theorem idx2 (W : World) (v0 v1 v2 v3 v4 v5 v6 : Value) : (Instr.index 42 (.agg #[v0, v1, v2, v3, v4, v5, v6]) (.int .i64 2)).run Try.prog W = .ok v2 W := by kernel_rfl
theorem idx3 (W : World) (v0 v1 v2 v3 v4 v5 v6 : Value) : (Instr.index 42 (.agg #[v0, v1, v2, v3, v4, v5, v6]) (.int .i64 3)).run Try.prog W = .ok v3 W := by kernel_rfl
theorem idx4 (W : World) (v0 v1 v2 v3 v4 v5 v6 : Value) : (Instr.index 42 (.agg #[v0, v1, v2, v3, v4, v5, v6]) (.int .i64 4)).run Try.prog W = .ok v4 W := by kernel_rfl
theorem idx5 (W : World) (v0 v1 v2 v3 v4 v5 v6 : Value) : (Instr.index 42 (.agg #[v0, v1, v2, v3, v4, v5, v6]) (.int .i64 5)).run Try.prog W = .ok v5 W := by kernel_rfl
theorem idx6 (W : World) (v0 v1 v2 v3 v4 v5 v6 : Value) : (Instr.index 42 (.agg #[v0, v1, v2, v3, v4, v5, v6]) (.int .i64 6)).run Try.prog W = .ok v6 W := by kernel_rfl
section
variable {w w' : World} {p m N : Nat} {rs : Nat → Value} {R : Nat → List Value} {D : DataW Value} {S : Int → Int → Option Value}
theorem DotsPre.forms (h : DotsPre w p rs R m D S N) : ∃ (a : Nat → Option Addr) (c : Nat → Nat), ∀ i, i < 7 → rs i = .slice (a i) (R i).length (c i) := by
  refine ⟨fun i => match rs i with | .slice a _ _ => a | _ => none, fun i => match rs i with | .slice _ _ c => c | _ => 0, fun i hi => ?_⟩
  obtain ⟨a, c, e⟩ := own_slice (h.run i hi)
  simp [e]
set_option maxRecDepth 100000 in
theorem lenD_any (h : DotsPre w p rs R m D S N) : Calls Try.prog 16 #[.pointer (some ⟨p, 0, none⟩)] w fun e w' => e = .returned (.int .i64 N) ∧ w' = w := by
  have hc7 := h.blk.cell (i := 7) rfl
  have hc0 := h.blk.cell (i := 0) rfl
  have hc1 := h.blk.cell (i := 1) rfl
  have hc2 := h.blk.cell (i := 2) rfl
  have hc3 := h.blk.cell (i := 3) rfl
  have hc4 := h.blk.cell (i := 4) rfl
  have hc5 := h.blk.cell (i := 5) rfl
  have hc6 := h.blk.cell (i := 6) rfl
  obtain ⟨a, c, hf⟩ := h.forms
  rw [hf 0 (by decide)] at hc0
  rw [hf 1 (by decide)] at hc1
  rw [hf 2 (by decide)] at hc2
  rw [hf 3 (by decide)] at hc3
  rw [hf 4 (by decide)] at hc4
  rw [hf 5 (by decide)] at hc5
  rw [hf 6 (by decide)] at hc6
  have hlen := fun ty => h.map.len Try.underlying40 ty
  have HC := hid h.cnt
  have hfew := h.few
  have hcnt := h.cnt
  unfold sumR at hcnt
  clear hf h
  have x0 := fun W => idx0 W (.slice (a 0) (R 0).length (c 0)) (.slice (a 1) (R 1).length (c 1)) (.slice (a 2) (R 2).length (c 2)) (.slice (a 3) (R 3).length (c 3)) (.slice (a 4) (R 4).length (c 4)) (.slice (a 5) (R 5).length (c 5)) (.slice (a 6) (R 6).length (c 6))
  have x1 := fun W => idx1 W (.slice (a 0) (R 0).length (c 0)) (.slice (a 1) (R 1).length (c 1)) (.slice (a 2) (R 2).length (c 2)) (.slice (a 3) (R 3).length (c 3)) (.slice (a 4) (R 4).length (c 4)) (.slice (a 5) (R 5).length (c 5)) (.slice (a 6) (R 6).length (c 6))
  have x2 := fun W => idx2 W (.slice (a 0) (R 0).length (c 0)) (.slice (a 1) (R 1).length (c 1)) (.slice (a 2) (R 2).length (c 2)) (.slice (a 3) (R 3).length (c 3)) (.slice (a 4) (R 4).length (c 4)) (.slice (a 5) (R 5).length (c 5)) (.slice (a 6) (R 6).length (c 6))
  have x3 := fun W => idx3 W (.slice (a 0) (R 0).length (c 0)) (.slice (a 1) (R 1).length (c 1)) (.slice (a 2) (R 2).length (c 2)) (.slice (a 3) (R 3).length (c 3)) (.slice (a 4) (R 4).length (c 4)) (.slice (a 5) (R 5).length (c 5)) (.slice (a 6) (R 6).length (c 6))
  have x4 := fun W => idx4 W (.slice (a 0) (R 0).length (c 0)) (.slice (a 1) (R 1).length (c 1)) (.slice (a 2) (R 2).length (c 2)) (.slice (a 3) (R 3).length (c 3)) (.slice (a 4) (R 4).length (c 4)) (.slice (a 5) (R 5).length (c 5)) (.slice (a 6) (R 6).length (c 6))
  have x5 := fun W => idx5 W (.slice (a 0) (R 0).length (c 0)) (.slice (a 1) (R 1).length (c 1)) (.slice (a 2) (R 2).length (c 2)) (.slice (a 3) (R 3).length (c 3)) (.slice (a 4) (R 4).length (c 4)) (.slice (a 5) (R 5).length (c 5)) (.slice (a 6) (R 6).length (c 6))
  have x6 := fun W => idx6 W (.slice (a 0) (R 0).length (c 0)) (.slice (a 1) (R 1).length (c 1)) (.slice (a 2) (R 2).length (c 2)) (.slice (a 3) (R 3).length (c 3)) (.slice (a 4) (R 4).length (c 4)) (.slice (a 5) (R 5).length (c 5)) (.slice (a 6) (R 6).length (c 6))
  go_enter Try.func16, Try.ntmps16
  go_wp2_with fail
  refine (closedD_no w p m hc7).mono ?_
  rintro e w' ⟨rfl, rfl⟩
  go_wp2
  refine wp_loop_rounds 8 ?_
  rw [rounds_succ]
  go_wp2
  rw [rounds_succ]
  go_wp2
  rw [rounds_succ]
  go_wp2
  rw [rounds_succ]
  go_wp2
  rw [rounds_succ]
  go_wp2
  rw [rounds_succ]
  go_wp2
  rw [rounds_succ]
  go_wp2
  rw [rounds_succ]
  go_wp2
  go_ret
  exact ⟨ret_int (by rw [hcnt]; omega), rfl⟩
end
end Go.Proofs.Ytplecopphddjhaa
