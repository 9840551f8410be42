/-
  Package cart: two.with.
-/
import Derived.Test.YtkgfpnmifgifpaaCartBa
import Derived.Test.YtkgfpnmifgifpaaCartBb
import Derived.Test.YtkgfpnmifgifpaaCartBc
import Derived.Test.YtkgfpnmifgifpaaCartBd
import Derived.Test.YtkgfpnmifgifpaaEvA
namespace Go.Proofs.Ytkgfpnmifgifpaa
open Go.RowKit Go.Maps

theorem with_two (w : World) (t : TwM) (f : EvM) (o : Int) (ht : TwOk w t) (hf : EvOk w f) :
    Calls Try.prog 63 #[t.val, f.val, .int .i64 o] w fun e w' => e = .returned (twWithM t f o).val ∧ Below w.heap.size w w' := by
  unfold twWithM
  by_cases ho : f.e.o = o
  · by_cases hs : f.e = t.first.e
    · rw [if_pos ⟨ho, hs⟩]
      exact with_Ya w t f o ht hf ho hs
    · rw [if_neg (fun h => hs h.2)]
      split
      · next h1 => exact with_Yf w t f o ht hf ho hs h1
      · next h1 =>
        split
        · next h2 => exact with_Yq w t f o ht hf ho hs h1 h2
        · next h2 => exact with_Ys w t f o ht hf ho hs h1 h2
  · rw [if_neg (fun h => ho h.1)]
    split
    · next h1 => exact with_Nf w t f o ht hf ho h1
    · next h1 =>
      split
      · next h2 => exact with_Nq w t f o ht hf ho h1 h2
      · next h2 => exact with_Ns w t f o ht hf ho h1 h2
end Go.Proofs.Ytkgfpnmifgifpaa
/-
  cart.sight as a map's key. No function of the program is named here.
-/
namespace Go.Proofs.Ytkgfpnmifgifpaa
open Go.RowKit Go.Maps

theorem Try.keyedSight : Keyed Try.prog 92 := Keyed.of_law (deep_law_laid Try.laidOutK (m := 3) (by decide) (of_decide_eq_true (by kernel_rfl)) (by kernel_rfl) (by kernel_rfl))
def sightVal (c k : ByteArray) (o : Int) : Value := .agg #[.string c, .string k, .int .i64 o]
/-- What a sight reads as, as a key. -/
def sk (c k : ByteArray) (o : Int) : Lit := .string (keyBytes [.string c.data.toList, .string k.data.toList, .int .i64 o])
theorem key_sight {c k : ByteArray} {o : Int} (hc : c.size ≤ maxLen) (hk : k.size ≤ maxLen) (ho : I64 o) : keyOf Try.prog 92 (sightVal c k o) = some (sk c k o) := by
  have h1 : Try.prog.keyType 92 = true := by kernel_rfl
  have h2 : (sightVal c k o).formed Try.prog 92 = true := by kernel_rfl
  have h3 : Try.prog.keyLits (Try.prog.types.size + 1) 92 (sightVal c k o).cells.toList = some [.string c.data.toList, .string k.data.toList, .int .i64 o] := by
    obtain ⟨n, hn⟩ := types_pos
    rw [hn]
    have hi : Try.prog.keyLits (n + 1) 3 [.int .i64 o] = some [.int .i64 o] := by
      simp [Program.keyLits, Try.underlying3, wf_of ho]
    have hs : ∀ s : ByteArray, s.size ≤ maxLen → Try.prog.keyLits (n + 1) 9 [.string s] = some [.string s.data.toList] := fun s hs => by
      simp [Program.keyLits, Try.underlying9, hs]
    have e1 : Try.prog.cellsOf 92 = 3 := by kernel_rfl
    have e2 : Try.prog.cellsOf 3 = 1 := by kernel_rfl
    have e3 : Try.prog.cellsOf 9 = 1 := by kernel_rfl
    unfold Program.keyLits
    simp [Try.underlying92, sightVal, Value.cells, e1, e2, e3, hi, hs c hc, hs k hk]
  unfold keyOf
  rw [Try.underlying92]
  show (if _ then _ else _) = _
  rw [if_pos (by rw [h1, h2]; rfl), h3]
  rfl
theorem sk_inj {c k c' k' : ByteArray} {o o' : Int} (hc : c.size ≤ maxLen) (hk : k.size ≤ maxLen) (ho : I64 o) (hc' : c'.size ≤ maxLen) (hk' : k'.size ≤ maxLen) (ho' : I64 o') (h : sk c k o = sk c' k' o') : c = c' ∧ k = k' ∧ o = o' := by
  have h1 := key_sight hc hk ho
  have h2 := key_sight hc' hk' ho'
  rw [← h] at h2
  have := Try.keyedSight.inj h1 h2
  simpa [sightVal] using this
end Go.Proofs.Ytkgfpnmifgifpaa
/-
  Package cart: lookouts.
-/
namespace Go.Proofs.Ytkgfpnmifgifpaa
open Go.RowKit Go.Maps

def twM (c k : ByteArray) (o : Int) (l : List EvM) : TwM := l.foldl (fun t f => if Counts c k o f.e then twWithM t f o else t) zeroTM
theorem twM_snoc (c k : ByteArray) (o : Int) (l : List EvM) (f : EvM) : twM c k o (l ++ [f]) = if Counts c k o f.e then twWithM (twM c k o l) f o else twM c k o l := by
  simp [twM, List.foldl_append]
theorem twM_fold (c k : ByteArray) (o : Int) : ∀ (l : List EvM) (t : TwM), (l.foldl (fun t f => if Counts c k o f.e then twWithM t f o else t) t).tw = (l.map (·.e)).foldl (fun t f => if Counts c k o f then twWith t f o else t) t.tw
  | [], _ => rfl
  | f :: l, t => by
    rw [List.foldl_cons, List.map_cons, List.foldl_cons, twM_fold c k o l]
    congr 1
    split
    · exact twWithM_tw t f o
    · rfl
theorem twM_tw (c k : ByteArray) (o : Int) (l : List EvM) : (twM c k o l).tw = twOf c k o (l.map (·.e)) := twM_fold c k o l zeroTM
theorem twM_ok {w : World} (c k : ByteArray) (o : Int) : ∀ (l : List EvM) (t : TwM), AllOk w l → TwOk w t → TwOk w (l.foldl (fun t f => if Counts c k o f.e then twWithM t f o else t) t)
  | [], _, _, h => h
  | f :: l, t, hl, h => by
    rw [List.foldl_cons]
    refine twM_ok c k o l _ (fun x hx => hl x (List.mem_cons_of_mem _ hx)) ?_
    split
    · exact twWithM_ok h (hl f (List.mem_cons_self ..)) o
    · exact h
/-- What is known behind i events and j numbers of the next one. -/
def midM (l : List EvM) (f : EvM) (j : Nat) (c k : ByteArray) (o : Int) : TwM := if Counts c k o f.e ∧ o < (j : Int) then twWithM (twM c k o l) f o else twM c k o l
theorem midM_zero (l : List EvM) (f : EvM) (c k : ByteArray) (o : Int) : midM l f 0 c k o = twM c k o l := by
  unfold midM
  rw [if_neg]
  rintro ⟨⟨_, _, _, h⟩, h0⟩
  unfold ofV at h
  rw [if_pos (.inl h0)] at h
  exact absurd h (Int.lt_irrefl _)
theorem ofV_lt {xs : List Int} {o : Int} (h : 0 < ofV xs o) : 0 ≤ o ∧ o < (xs.length : Int) := by
  unfold ofV at h
  split at h
  · exact absurd h (Int.lt_irrefl _)
  · next hn => omega
theorem midM_all (l : List EvM) (f : EvM) (c k : ByteArray) (o : Int) : midM l f f.e.deps.length c k o = twM c k o (l ++ [f]) := by
  unfold midM
  rw [twM_snoc]
  by_cases h : Counts c k o f.e
  · rw [if_pos h, if_pos ⟨h, (ofV_lt h.2.2.2).2⟩]
  · rw [if_neg h, if_neg (fun x => h x.1)]
theorem twM_quiet (l : List EvM) (f : EvM) (h : f.e.clears = false) (c k : ByteArray) (o : Int) : twM c k o l = twM c k o (l ++ [f]) := by
  rw [twM_snoc, if_neg]
  rintro ⟨h1, _⟩
  rw [h] at h1
  cases h1
theorem midM_no (l : List EvM) (f : EvM) (j : Nat) (h : ¬ 0 < f.e.deps.getD j 0) (c k : ByteArray) (o : Int) : midM l f (j + 1) c k o = midM l f j c k o := by
  unfold midM
  have : (Counts c k o f.e ∧ o < ((j + 1 : Nat) : Int)) ↔ (Counts c k o f.e ∧ o < (j : Int)) := by
    constructor
    · rintro ⟨h1, h2⟩
      refine ⟨h1, ?_⟩
      apply Classical.byContradiction
      intro hn
      have : o = (j : Int) := by omega
      subst this
      have h3 := h1.2.2.2
      rw [ofV_nat] at h3
      exact h h3
    · rintro ⟨h1, h2⟩
      exact ⟨h1, by omega⟩
  simp only [this]
theorem midM_put (l : List EvM) (f : EvM) (j : Nat) (hc : f.e.clears = true) (h : 0 < f.e.deps.getD j 0) (c k : ByteArray) (o : Int) : midM l f (j + 1) c k o = if c = f.e.cart ∧ k = f.e.sku ∧ o = (j : Int) then twWithM (midM l f j f.e.cart f.e.sku (j : Int)) f (j : Int) else midM l f j c k o := by
  split
  · next he =>
    obtain ⟨rfl, rfl, rfl⟩ := he
    unfold midM
    rw [if_pos ⟨⟨hc, rfl, rfl, by rw [ofV_nat]; exact h⟩, by omega⟩, if_neg (fun x => by have := x.2; omega)]
  · next he =>
    unfold midM
    have : (Counts c k o f.e ∧ o < ((j + 1 : Nat) : Int)) ↔ (Counts c k o f.e ∧ o < (j : Int)) := by
      constructor
      · rintro ⟨h1, h2⟩
        refine ⟨h1, ?_⟩
        apply Classical.byContradiction
        intro hn
        have : o = (j : Int) := by omega
        exact he ⟨h1.2.1.symm, h1.2.2.1.symm, this⟩
      · rintro ⟨h1, h2⟩
        exact ⟨h1, by omega⟩
    simp only [this]
/-- A map of sights in memory. -/
def LookAt (w : World) (m N : Nat) (M : ByteArray → ByteArray → Int → TwM) : Prop :=
  ∃ D, w.ownsMap Try.prog 92 valR m N D ∧ ∀ c k o, c.size ≤ maxLen → k.size ≤ maxLen → I64 o → (look D (sk c k o)).getD zeroTM.val = (M c k o).val
section
variable {w w' : World} {m N N' : Nat} {M M' : ByteArray → ByteArray → Int → TwM}
theorem LookAt.ext (h : LookAt w m N M) (e : ∀ c k o, M c k o = M' c k o) : LookAt w m N M' := by
  have : M = M' := by funext c k o; exact e c k o
  rw [← this]
  exact h
theorem LookAt.turned {F : Nat → Prop} (h : LookAt w m N M) (ht : Turns F w w') (hF : ¬ F m) : LookAt w' m N M := by
  obtain ⟨D, h1, h2⟩ := h
  exact ⟨D, ht.map h1 hF, h2⟩
theorem LookAt.below (h : LookAt w m N M) (hb : Below w.heap.size w w') : LookAt w' m N M := h.turned (F := fun _ => False) (Turns.of_below hb (Nat.le_refl _)) (fun h => h)
theorem LookAt.lt (h : LookAt w m N M) : m < w.heap.size := by
  obtain ⟨D, h1, _⟩ := h
  exact h1.lt
theorem LookAt.more (h : LookAt w m N M) (hN : N ≤ N') : LookAt w m N' M := by
  obtain ⟨D, ⟨es, clock, a, b, c, d⟩, h2⟩ := h
  exact ⟨D, ⟨es, clock, a, b, Nat.le_trans c hN, d⟩, h2⟩
theorem LookAt.new (w : World) : LookAt (w.alloc (.map #[] 0)) w.heap.size 0 (fun _ _ _ => zeroTM) := ⟨_, World.ownsMap_made w _ _ _, fun _ _ _ _ _ _ => by rw [look_empty]; rfl⟩
theorem Try.zeroTwo (w : World) : (zeroValue 90).run Try.prog w = .ok zeroTM.val w := by kernel_rfl
theorem LookAt.lookup (h : LookAt w m N M) {c k : ByteArray} {o : Int} (hc : c.size ≤ maxLen) (hk : k.size ≤ maxLen) (ho : I64 o) :
    (Instr.lookup 87 (.map (some m)) (.agg #[.string c, .string k, .int .i64 o]) false).run Try.prog w = .ok (M c k o).val w := by
  obtain ⟨D, h1, h2⟩ := h
  have := run_look h1 Try.keyedSight Try.underlying87 (Try.zeroTwo w) (key_sight hc hk ho)
  rw [h2 c k o hc hk ho] at this
  exact this
/-- One more. -/
theorem LookAt.put (h : LookAt w m N M) (hN : N < maxLen) {c k : ByteArray} {o : Int} (hc : c.size ≤ maxLen) (hk : k.size ≤ maxLen) (ho : I64 o) (t : TwM) :
    ∃ w', (Instr.mapUpdate 87 (.map (some m)) (.agg #[.string c, .string k, .int .i64 o]) t.val).run Try.prog w = .ok () w' ∧ LookAt w' m (N + 1) (fun c' k' o' => if c' = c ∧ k' = k ∧ o' = o then t else M c' k' o') ∧ Turns (fun i => i = m) w w' := by
  obtain ⟨D, h1, h2⟩ := h
  obtain ⟨w', hrun, hown, hturn⟩ := h1.store Try.keyedSight Try.underlying87 hN (key_sight hc hk ho) (show valR t.val = some (.held t.val, []) from rfl)
  refine ⟨w', hrun, ⟨_, hown, fun c' k' o' hc' hk' ho' => ?_⟩, Turns.of_grown (F := fun i => i = m) hturn.grown (fun k hk => by cases hk; rfl)⟩
  by_cases e : c' = c ∧ k' = k ∧ o' = o
  · obtain ⟨rfl, rfl, rfl⟩ := e
    dsimp only
    rw [look_put_same h1.isMap (Try.keyedSight.key (key_sight hc hk ho)), if_pos ⟨rfl, rfl, rfl⟩]
    rfl
  · dsimp only
    rw [look_put_other (fun x => e (sk_inj hc' hk' ho' hc hk ho x)), if_neg e]
    exact h2 c' k' o' hc' hk' ho'
end
end Go.Proofs.Ytkgfpnmifgifpaa
