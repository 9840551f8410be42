/-
  A vector with one more of an origin: what follows (mathematics for VvGrows).
-/
import Derived.Test.YtgghfmdciohinaaVvL
namespace Go.Proofs.Ytgghfmdciohinaa
open Go.RowKit Go.Shelf Go.Maps
attribute [local go_sem] Oper.semAt_some

theorem Try.infoB : (Try.prog.info? 4).map (fun i => (i.zero, i.size, i.bytes)) = some (some (.bool false), 1, 1) := by kernel_rfl
theorem results_cell4 {fn : Func} {t : Tmp} (h : fn.results = #[.cell t 4]) (tmps : Array Value) (w : World) {B : Nat} {v : Value} (hp : tmps.getD t undef = .pointer (some ⟨B, 0, none⟩)) (hc : w.cell? ⟨B, 0, none⟩ = some v) :
    (results fn tmps).run Try.prog w = .ok v w := by
  obtain ⟨i, hi, _, hs, _⟩ := info_parts Try.infoB
  have hp' : tmps[t]?.getD undef = .pointer (some ⟨B, 0, none⟩) := by simpa using hp
  simp [results, h, hp', hc, go_sem]
theorem bt {w w0 w1 : World} (h : Below w.heap.size w w0) (hb : Below w0.heap.size w0 w1) : Below w.heap.size w w1 := h.trans (hb.mono h.size)

/-- A vector with one more of an origin. -/
def oneMore (v : List Int) (k : Nat) (n : Int) : List Int := plainOf (withOf v k n)
theorem one_getD (v : List Int) (k : Nat) (n : Int) (i : Nat) : (oneMore v k n).getD i 0 = if i = k then n else v.getD i 0 := by
  unfold oneMore
  rw [plain_getD, with_getD]
theorem one_may {v : List Int} {k : Nat} {n : Int} (hv : MayV v) (hk : k ≤ 6) (hn : 0 ≤ n ∧ n ≤ 2147483647) : MayV (oneMore v k n) := by
  refine ⟨?_, fun x hx => ?_⟩
  · have h1 := endOf_le (withOf v k n)
    have h2 := with_len v k n
    have h3 := hv.1
    have h4 : (oneMore v k n).length = endOf (withOf v k n) := plain_len _
    omega
  · have hx2 := List.mem_of_mem_take hx
    unfold withOf at hx2
    rcases List.mem_or_eq_of_mem_set hx2 with h | rfl
    · rcases List.mem_append.1 h with h | h
      · exact hv.2 x h
      · have := List.eq_of_mem_replicate h
        omega
    · exact hn
theorem one_cmp {v : List Int} {k : Nat} {n : Int} (h : n = v.getD k 0 + 1) : cmpOf v (oneMore v k n) = -1 := by
  have h1 : BelowV v (oneMore v k n) := belowV_iff.2 fun i => by
    rw [one_getD]
    split
    · next e => subst e; omega
    · exact Int.le_refl _
  have h2 : ¬ BelowV (oneMore v k n) v := fun hb => by
    have := belowV_iff.1 hb k
    rw [one_getD, if_pos rfl] at this
    omega
  simp [cmpOf, h1, h2]
/-- A count by places. -/
def cntF (f : Nat → Int) : Nat → Int
  | 0 => 0
  | m + 1 => cntF f m + max (f m) 0
theorem cntF_ext {f g : Nat → Int} : ∀ m, (∀ i, i < m → f i = g i) → cntF f m = cntF g m
  | 0, _ => rfl
  | m + 1, h => by
    unfold cntF
    rw [cntF_ext m (fun i hi => h i (by omega)), h m (by omega)]
theorem cnt_cntF : ∀ (xs : List Int) (m : Nat), cntF (fun i => xs.getD i 0) m = cntV (xs.take m)
  | xs, 0 => by simp [cntF, cntV]
  | xs, m + 1 => by
    unfold cntF
    rw [cnt_cntF xs m]
    by_cases h : m < xs.length
    · rw [cnt_take h]
    · rw [List.take_of_length_le (by omega), List.take_of_length_le (by omega), getD_far (by omega)]
      simp
theorem cnt_all (xs : List Int) {m : Nat} (h : xs.length ≤ m) : cntV xs = cntF (fun i => xs.getD i 0) m := by
  rw [cnt_cntF, List.take_of_length_le h]
theorem cntF_one {f g : Nat → Int} {k : Nat} {n : Int} (hn : 1 ≤ n) (hk : f k = n - 1) (hg : ∀ i, g i = if i = k then n else f i) : ∀ m, k < m → cntF g m = cntF f m + 1
  | 0, h => by omega
  | m + 1, h => by
    unfold cntF
    by_cases e : m = k
    · subst e
      rw [cntF_ext m (f := g) (g := f) (fun i hi => by rw [hg, if_neg (by omega)]), hg, if_pos rfl, hk]
      omega
    · rw [cntF_one hn hk hg m (by omega), hg m, if_neg e]
      omega
theorem one_cnt {v : List Int} {k : Nat} {n : Int} (h : n = v.getD k 0 + 1) (hn : 1 ≤ n) : cntV (oneMore v k n) = cntV v + 1 := by
  obtain ⟨m, hm⟩ : ∃ m, m = max (max v.length (oneMore v k n).length) (k + 1) := ⟨_, rfl⟩
  rw [cnt_all v (m := m) (by omega), cnt_all (oneMore v k n) (m := m) (by omega)]
  exact cntF_one hn (by omega) (one_getD v k n) m (by omega)
theorem one_has {v : List Int} {k : Nat} {n : Int} (hn : 1 ≤ n) : decide (HasV (oneMore v k n) (k : Int) n) = true := decide_eq_true ⟨hn, by rw [ofV_nat, one_getD, if_pos rfl]; exact Int.le_refl _⟩
theorem one_not {v : List Int} {k : Nat} {n : Int} (h : n = v.getD k 0 + 1) : decide (HasV v (k : Int) n) = false := decide_eq_false (fun hh => by have := hh.2; rw [ofV_nat] at this; omega)
theorem one_back {v : List Int} {k : Nat} {n : Int} (h : n = v.getD k 0 + 1) : plainOf (withOf (oneMore v k n) k (n - 1)) = plainOf v := plain_ext fun i => by
  rw [with_getD, one_getD]
  by_cases e : i = k
  · subst e
    rw [if_pos rfl]
    omega
  · rw [if_neg e, if_neg e]
theorem flatMap_one {f : Nat → List (Int × Int)} {k : Nat} {x : Int × Int} : ∀ (m s : Nat), (∀ i, i ≠ k → f i = []) → f k = [x] → s ≤ k → k < s + m → (List.range' s m).flatMap f = [x]
  | 0, s, _, _, h1, h2 => by omega
  | m + 1, s, h, hk, h1, h2 => by
    rw [List.range'_succ, List.flatMap_cons]
    by_cases e : s = k
    · subst e
      rw [hk]
      have : (List.range' (s + 1) m).flatMap f = [] := List.flatMap_eq_nil_iff.2 fun i hi => h i (by have := List.mem_range'_1.1 hi; omega)
      rw [this]
      rfl
    · rw [h s e, List.nil_append]
      exact flatMap_one m (s + 1) h hk (by omega) (by omega)
theorem one_dots {v : List Int} {k : Nat} {n : Int} (h : n = v.getD k 0 + 1) (hn : 1 ≤ n) (_hv : MayV v) : dotsAll v (oneMore v k n) = [((k : Int), n)] := by
  have hlen : k < (oneMore v k n).length := by
    apply Nat.lt_of_not_le
    intro hle
    have := one_getD v k n k
    rw [getD_far hle, if_pos rfl] at this
    omega
  unfold dotsAll rowsFrom
  refine flatMap_one (k := k) _ 0 (fun i hi => ?_) ?_ (Nat.zero_le _) (by omega)
  · unfold rowOf moreOf hadOf
    rw [one_getD, if_neg hi, Int.sub_self]
    rfl
  · have h1 : hadOf v k = n - 1 := by unfold hadOf; omega
    have h2 : moreOf v (oneMore v k n) k = 1 := by unfold moreOf; rw [h1, one_getD, if_pos rfl]; omega
    unfold rowOf
    rw [h2, h1]
    simp
end Go.Proofs.Ytgghfmdciohinaa
