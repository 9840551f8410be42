/-
  Package cart: firsts; the choice of a cart's events.
-/
import Derived.Test.YtkgfpnmifgifpaaCartH
import Derived.Lib.Bytealg
import Derived.Sort.Statements
namespace Go.Proofs.Ytkgfpnmifgifpaa
open Go.RowKit Go.Maps

theorem firstsFrom_congr : ∀ (l : List Ev) (m m' : List (Int × Int)), (∀ d, d ∈ m ↔ d ∈ m') → firstsFrom m l = firstsFrom m' l
  | [], _, _, _ => rfl
  | x :: r, m, m', h => by
    unfold firstsFrom
    rw [firstsFrom_congr r m m' h, firstsFrom_congr r ((x.o, x.s) :: m) ((x.o, x.s) :: m') (fun d => by simp [h])]
    simp only [h]
def dotAt (xs : List EvM) (i : Nat) : Int × Int := ((xs.getD i zeroEM).e.o, (xs.getD i zeroEM).e.s)
/-- Of each dot the first event, in memory. -/
def firstsM (xs : List EvM) : List EvM := selTo (fun i => !decide (dotAt xs i ∈ dotsE (xs.take i))) xs xs.length
theorem dotsE_take {xs : List EvM} {k : Nat} (hk : k < xs.length) : dotsE (xs.take (k + 1)) = dotsE (xs.take k) ++ [(xs[k].e.o, xs[k].e.s)] := by
  rw [List.take_succ_eq_append_getElem hk, dotsE, List.map_append]
  rfl
theorem dotAt_eq {xs : List EvM} {k : Nat} (hk : k < xs.length) : dotAt xs k = (xs[k].e.o, xs[k].e.s) := by
  simp [dotAt, List.getD, List.getElem?_eq_getElem hk]
theorem firsts_upto (xs : List EvM) : ∀ k, k ≤ xs.length → (selTo (fun i => !decide (dotAt xs i ∈ dotsE (xs.take i))) xs k).map (·.e) ++ firstsFrom (dotsE (xs.take k)) ((xs.drop k).map (·.e)) = firstsFrom [] (xs.map (·.e))
  | 0, _ => by simp [selTo, dotsE]
  | k + 1, hk => by
    have hk' : k < xs.length := by omega
    rw [← firsts_upto xs k (by omega), List.drop_eq_getElem_cons hk', List.map_cons, dotsE_take hk']
    by_cases hm : (xs[k].e.o, xs[k].e.s) ∈ dotsE (xs.take k)
    · rw [selTo_no (by rw [dotAt_eq hk', decide_eq_true hm]; rfl)]
      rw [show firstsFrom (dotsE (xs.take k)) (xs[k].e :: (xs.drop (k + 1)).map (·.e)) = firstsFrom (dotsE (xs.take k)) ((xs.drop (k + 1)).map (·.e)) by rw [firstsFrom, if_pos hm]]
      congr 1
      refine firstsFrom_congr _ _ _ (fun d => ?_)
      simp only [List.mem_append, List.mem_singleton]
      exact ⟨fun h => h.elim id (fun e => by rw [e]; exact hm), .inl⟩
    · rw [selTo_yes (by rw [dotAt_eq hk', decide_eq_false hm]; rfl) hk']
      rw [show firstsFrom (dotsE (xs.take k)) (xs[k].e :: (xs.drop (k + 1)).map (·.e)) = xs[k].e :: firstsFrom ((xs[k].e.o, xs[k].e.s) :: dotsE (xs.take k)) ((xs.drop (k + 1)).map (·.e)) by rw [firstsFrom, if_neg hm]]
      rw [List.map_append, List.append_assoc]
      congr 1
      simp only [List.map_cons, List.map_nil, List.singleton_append, List.cons.injEq, true_and]
      refine firstsFrom_congr _ _ _ (fun d => ?_)
      rw [List.mem_append, List.mem_singleton, List.mem_cons]
      exact ⟨fun h => h.symm, fun h => h.symm⟩
theorem firstsM_e (xs : List EvM) : (firstsM xs).map (·.e) = firstsFrom [] (xs.map (·.e)) := by
  have := firsts_upto xs xs.length (Nat.le_refl _)
  rw [List.drop_length, List.map_nil] at this
  rw [show firstsFrom (dotsE (xs.take xs.length)) [] = [] from rfl, List.append_nil] at this
  exact this
set_option maxRecDepth 1000000 in
set_option maxHeartbeats 2000000 in
theorem firsts_any (w : World) (ao : Option Addr) (cap : Nat) (xs : List EvM) (n : Nat) (hn : xs.length = n) (h : HeldE w ao xs) (hl : n ≤ 4194304) :
    Calls Try.prog 38 #[.slice ao n cap] w (MadeE w (firstsM xs)) := by
  have hmm := @run_makeMap Try.prog
  have HN := hid hn
  have H := hid h
  have hn' := hn
  clear hn h
  obtain ⟨w2, hw2⟩ : ∃ W, W = (w.alloc (.map #[] 0)).alloc (.cells #[.map (some w.heap.size)] 84) := ⟨_, rfl⟩
  have HB2 : Hid (Below w.heap.size w w2) := by rw [hw2]; exact ((Below.refl _ _).alloc (Nat.le_refl _) _).alloc (by simp) _
  have HP2 : Hid (Blk w2 (w.heap.size + 1) 84 [.map (some w.heap.size)]) := by
    have := Blk.new (w.alloc (.map #[] 0)) 84 [.map (some w.heap.size)]
    rw [World.size_alloc] at this
    rw [hw2]
    exact this
  have HM2 : Hid (MetAt w2 w.heap.size 0 (dotsE (xs.take 0))) := by rw [hw2]; exact (MetAt.new w).turned (F := fun _ => False) ((Turns.refl _ _).alloc _) (fun h => h)
  have HW2 := hid hw2
  clear hw2
  have HCH := hid (chosen_any (w0 := w) (w := w2) HB2.out (F := 50) (.inr (.inl rfl)) (w.heap.size + 1) ao cap xs n HN.out H.out (by omega) (fun i => i = w.heap.size) (fun i hi => by subst hi; exact ⟨Nat.le_refl _, by have := HP2.out.lt; omega⟩)
    (fun k V => Blk V (w.heap.size + 1) 84 [.map (some w.heap.size)] ∧ MetAt V w.heap.size k (dotsE (xs.take k))) (fun i => !decide (dotAt xs i ∈ dotsE (xs.take i))) ⟨HP2.out, HM2.out⟩
    (fun _ V V' hI hT => ⟨hT.blk hI.1 (by have := HP2.out.lt; omega), hI.2.turned hT (by have := HP2.out.lt; omega)⟩)
    (fun k hk V hI hV => by
      have hxm : xs[k] ∈ xs := List.getElem_mem hk
      refine (firsts1_any V xs[k] ((H.out.1 _ hxm).below hV) (w.heap.size + 1) w.heap.size k _ (by unfold maxLen; omega) hI.1 hI.2).mono ?_
      rintro e1 V' ⟨rfl, hI', hT'⟩
      refine ⟨by rw [dotAt_eq hk], ?_, hT'⟩
      rw [dotsE_take hk]
      exact hI'))
  go_enter Try.func38, Try.ntmps38
  go_wp2_with fail
  rw [← HW2.out]
  refine HCH.out.mono ?_
  rintro e w3 ⟨v, rfl, hrow, _, hb3⟩
  have HSEL : Hid (selTo (fun i => !decide (dotAt xs i ∈ dotsE (xs.take i))) xs n = firstsM xs) := by show _ = _; rw [← HN.out]; rfl
  rw [HSEL.out] at hrow
  have HROW := hid (ownsRow_base hrow HB2.out.size)
  have HB3 := hid hb3
  clear hrow hb3
  go_wp2
  go_ret
  exact ⟨v, rfl, HROW.out, HB3.out⟩
end Go.Proofs.Ytkgfpnmifgifpaa
/-
  The order of strings that strings.Compare tells is a strict order. No function of the program is named here.
-/
namespace Go.Proofs.Ytkgfpnmifgifpaa

theorem cb_anti : ∀ a b : List UInt8, Lib.compareBytes a b = - Lib.compareBytes b a
  | [], [] => rfl
  | [], _ :: _ => rfl
  | _ :: _, [] => rfl
  | x :: a, y :: b => by
    have ih := cb_anti a b
    simp only [Lib.compareBytes]
    by_cases h1 : x < y
    · have h2 : ¬ y < x := fun h => by rw [UInt8.lt_iff_toNat_lt] at h1 h; omega
      rw [if_pos h1, if_neg h2, if_pos h1]
    · by_cases h2 : y < x
      · rw [if_neg h1, if_pos h2, if_pos h2]
        rfl
      · rw [if_neg h1, if_neg h2, if_neg h2, if_neg h1]
        exact ih
theorem cb_refl (a : List UInt8) : Lib.compareBytes a a = 0 := by
  have := cb_anti a a
  omega
theorem u8_eq {x y : UInt8} (h1 : ¬ x < y) (h2 : ¬ y < x) : x = y := by
  rw [UInt8.lt_iff_toNat_lt] at h1 h2
  exact UInt8.toNat_inj.1 (by omega)
theorem cb_eq : ∀ a b : List UInt8, Lib.compareBytes a b = 0 → a = b
  | [], [], _ => rfl
  | [], _ :: _, h => by simp [Lib.compareBytes] at h
  | _ :: _, [], h => by simp [Lib.compareBytes] at h
  | x :: a, y :: b, h => by
    simp only [Lib.compareBytes] at h
    by_cases h1 : x < y
    · rw [if_pos h1] at h
      cases h
    · by_cases h2 : y < x
      · rw [if_neg h1, if_pos h2] at h
        cases h
      · rw [if_neg h1, if_neg h2] at h
        rw [u8_eq h1 h2, cb_eq a b h]
theorem cb_trans : ∀ a b c : List UInt8, Lib.compareBytes a b < 0 → Lib.compareBytes b c < 0 → Lib.compareBytes a c < 0
  | [], [], _, h, _ => by simp [Lib.compareBytes] at h
  | [], _ :: _, [], _, h => by simp [Lib.compareBytes] at h
  | [], _ :: _, _ :: _, _, _ => by simp [Lib.compareBytes]
  | _ :: _, [], _, h, _ => by simp [Lib.compareBytes] at h
  | _ :: _, _ :: _, [], _, h => by simp [Lib.compareBytes] at h
  | x :: a, y :: b, z :: c, h1, h2 => by
    simp only [Lib.compareBytes] at h1 h2 ⊢
    by_cases e1 : x < y
    · by_cases e2 : y < z
      · have e3 : x < z := by rw [UInt8.lt_iff_toNat_lt] at e1 e2 ⊢; omega
        rw [if_pos e3]
        decide
      · rw [if_neg e2] at h2
        by_cases e4 : z < y
        · rw [if_pos e4] at h2
          cases h2
        · rw [← u8_eq e2 e4, if_pos e1]
          decide
    · rw [if_neg e1] at h1
      by_cases e4 : y < x
      · rw [if_pos e4] at h1
        cases h1
      · rw [if_neg e4] at h1
        rw [u8_eq e1 e4]
        by_cases e2 : y < z
        · rw [if_pos e2]
          decide
        · rw [if_neg e2] at h2 ⊢
          by_cases e5 : z < y
          · rw [if_pos e5] at h2
            cases h2
          · rw [if_neg e5] at h2 ⊢
            exact cb_trans a b c h1 h2
theorem cb_ntrans (a b c : List UInt8) (h1 : ¬ Lib.compareBytes a b < 0) (h2 : ¬ Lib.compareBytes b c < 0) : ¬ Lib.compareBytes a c < 0 := by
  intro h
  have a1 := cb_anti a b
  have a2 := cb_anti b c
  by_cases e1 : Lib.compareBytes a b = 0
  · rw [cb_eq _ _ e1] at h
    exact h2 h
  · have h3 : Lib.compareBytes b a < 0 := by omega
    exact h2 (cb_trans _ _ _ h3 h)
/-- The order of elements by a name. -/
theorem cb_swo {α : Type} (f : α → List UInt8) : Sort.SWO (fun x y : α => decide (Lib.compareBytes (f x) (f y) < 0)) where
  irrefl x := by simp [cb_refl]
  trans x y z h1 h2 := by
    simp at h1 h2 ⊢
    exact cb_trans _ _ _ h1 h2
  ntrans x y z h1 h2 := by
    have := cb_ntrans (f x) (f y) (f z) (by simpa using h1) (by simpa using h2)
    simpa using this
end Go.Proofs.Ytkgfpnmifgifpaa
