/-
  Package cart: firsts; the choice of a cart's events.
-/
import Derived.Test.YtkgfpnmifgifpaaCartH
namespace Go.Proofs.Ytkgfpnmifgifpaa
open Go.RowKit Go.Maps

theorem firstsFrom_congr : ∀ (l : List Ev) (m m' : List (Int × Int)), (∀ d, d ∈ m ↔ d ∈ m') → firstsFrom m l = firstsFrom m' l
  | [], _, _, _ => rfl
  | x :: r, m, m', h => by
    unfold firstsFrom
    rw [firstsFrom_congr r m m' h, firstsFrom_congr r ((x.o, x.s) :: m) ((x.o, x.s) :: m') (fun d => by simp [h])]
    simp only [h]
def dotAt (xs : List EvM) (i : Nat) : Int × Int := ((xs.getD i zeroEM).e.o, (xs.getD i zeroEM).e.s)
/-- Of each dot the first event, in memory. -/
def firstsM (xs : List EvM) : List EvM := selTo (fun i => !decide (dotAt xs i ∈ dotsE (xs.take i))) xs xs.length
theorem dotsE_take {xs : List EvM} {k : Nat} (hk : k < xs.length) : dotsE (xs.take (k + 1)) = dotsE (xs.take k) ++ [(xs[k].e.o, xs[k].e.s)] := by
  rw [List.take_succ_eq_append_getElem hk, dotsE, List.map_append]
  rfl
theorem dotAt_eq {xs : List EvM} {k : Nat} (hk : k < xs.length) : dotAt xs k = (xs[k].e.o, xs[k].e.s) := by
  simp [dotAt, List.getD, List.getElem?_eq_getElem hk]
theorem firsts_upto (xs : List EvM) : ∀ k, k ≤ xs.length → (selTo (fun i => !decide (dotAt xs i ∈ dotsE (xs.take i))) xs k).map (·.e) ++ firstsFrom (dotsE (xs.take k)) ((xs.drop k).map (·.e)) = firstsFrom [] (xs.map (·.e))
  | 0, _ => by simp [selTo, dotsE]
  | k + 1, hk => by
    have hk' : k < xs.length := by omega
    rw [← firsts_upto xs k (by omega), List.drop_eq_getElem_cons hk', List.map_cons, dotsE_take hk']
    by_cases hm : (xs[k].e.o, xs[k].e.s) ∈ dotsE (xs.take k)
    · rw [selTo_no (by rw [dotAt_eq hk', decide_eq_true hm]; rfl)]
      rw [show firstsFrom (dotsE (xs.take k)) (xs[k].e :: (xs.drop (k + 1)).map (·.e)) = firstsFrom (dotsE (xs.take k)) ((xs.drop (k + 1)).map (·.e)) by rw [firstsFrom, if_pos hm]]
      congr 1
      refine firstsFrom_congr _ _ _ (fun d => ?_)
      simp only [List.mem_append, List.mem_singleton]
      exact ⟨fun h => h.elim id (fun e => by rw [e]; exact hm), .inl⟩
    · rw [selTo_yes (by rw [dotAt_eq hk', decide_eq_false hm]; rfl) hk']
      rw [show firstsFrom (dotsE (xs.take k)) (xs[k].e :: (xs.drop (k + 1)).map (·.e)) = xs[k].e :: firstsFrom ((xs[k].e.o, xs[k].e.s) :: dotsE (xs.take k)) ((xs.drop (k + 1)).map (·.e)) by rw [firstsFrom, if_neg hm]]
      rw [List.map_append, List.append_assoc]
      congr 1
      simp only [List.map_cons, List.map_nil, List.singleton_append, List.cons.injEq, true_and]
      refine firstsFrom_congr _ _ _ (fun d => ?_)
      rw [List.mem_append, List.mem_singleton, List.mem_cons]
      exact ⟨fun h => h.symm, fun h => h.symm⟩
theorem firstsM_e (xs : List EvM) : (firstsM xs).map (·.e) = firstsFrom [] (xs.map (·.e)) := by
  have := firsts_upto xs xs.length (Nat.le_refl _)
  rw [List.drop_length, List.map_nil] at this
  rw [show firstsFrom (dotsE (xs.take xs.length)) [] = [] from rfl, List.append_nil] at this
  exact this
set_option maxRecDepth 1000000 in
set_option maxHeartbeats 2000000 in
theorem firsts_any (w : World) (ao : Option Addr) (cap : Nat) (xs : List EvM) (n : Nat) (hn : xs.length = n) (h : HeldE w ao xs) (hl : n ≤ 4194304) :
    Calls Try.prog 38 #[.slice ao n cap] w (MadeE w (firstsM xs)) := by
  have hmm := @run_makeMap Try.prog
  have HN := hid hn
  have H := hid h
  have hn' := hn
  clear hn h
  obtain ⟨w2, hw2⟩ : ∃ W, W = (w.alloc (.map #[] 0)).alloc (.cells #[.map (some w.heap.size)] 84) := ⟨_, rfl⟩
  have HB2 : Hid (Below w.heap.size w w2) := by rw [hw2]; exact ((Below.refl _ _).alloc (Nat.le_refl _) _).alloc (by simp) _
  have HP2 : Hid (Blk w2 (w.heap.size + 1) 84 [.map (some w.heap.size)]) := by
    have := Blk.new (w.alloc (.map #[] 0)) 84 [.map (some w.heap.size)]
    rw [World.size_alloc] at this
    rw [hw2]
    exact this
  have HM2 : Hid (MetAt w2 w.heap.size 0 (dotsE (xs.take 0))) := by rw [hw2]; exact (MetAt.new w).turned (F := fun _ => False) ((Turns.refl _ _).alloc _) (fun h => h)
  have HW2 := hid hw2
  clear hw2
  have HCH := hid (chosen_any (w0 := w) (w := w2) HB2.out (F := 50) (.inr (.inl rfl)) (w.heap.size + 1) ao cap xs n HN.out H.out (by omega) (fun i => i = w.heap.size) (fun i hi => by subst hi; exact ⟨Nat.le_refl _, by have := HP2.out.lt; omega⟩)
    (fun k V => Blk V (w.heap.size + 1) 84 [.map (some w.heap.size)] ∧ MetAt V w.heap.size k (dotsE (xs.take k))) (fun i => !decide (dotAt xs i ∈ dotsE (xs.take i))) ⟨HP2.out, HM2.out⟩
    (fun _ V V' hI hT => ⟨hT.blk hI.1 (by have := HP2.out.lt; omega), hI.2.turned hT (by have := HP2.out.lt; omega)⟩)
    (fun k hk V hI hV => by
      have hxm : xs[k] ∈ xs := List.getElem_mem hk
      refine (firsts1_any V xs[k] ((H.out.1 _ hxm).below hV) (w.heap.size + 1) w.heap.size k _ (by unfold maxLen; omega) hI.1 hI.2).mono ?_
      rintro e1 V' ⟨rfl, hI', hT'⟩
      refine ⟨by rw [dotAt_eq hk], ?_, hT'⟩
      rw [dotsE_take hk]
      exact hI'))
  go_enter Try.func38, Try.ntmps38
  go_wp2_with fail
  rw [← HW2.out]
  refine HCH.out.mono ?_
  rintro e w3 ⟨v, rfl, hrow, _, hb3⟩
  have HSEL : Hid (selTo (fun i => !decide (dotAt xs i ∈ dotsE (xs.take i))) xs n = firstsM xs) := by show _ = _; rw [← HN.out]; rfl
  rw [HSEL.out] at hrow
  have HROW := hid (ownsRow_base hrow HB2.out.size)
  have HB3 := hid hb3
  clear hrow hb3
  go_wp2
  go_ret
  exact ⟨v, rfl, HROW.out, HB3.out⟩
end Go.Proofs.Ytkgfpnmifgifpaa
