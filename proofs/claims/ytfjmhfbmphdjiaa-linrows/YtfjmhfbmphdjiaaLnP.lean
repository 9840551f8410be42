/-
  Rows of strings of the call's own; calls that are done one behind the other ('Ser').
-/
import Derived.Test.YtfjmhfbmphdjiaaLnN
namespace Go.Proofs.Ytfjmhfbmphdjiaa
open Go.RowKit Go.Maps

def strV (ts : List ByteArray) : List Value := ts.map Value.string
theorem strV_one (ts : List ByteArray) : ∀ u ∈ strV ts, u.oneCell' = true := by
  intro u hu
  obtain ⟨_, _, rfl⟩ := List.mem_map.1 hu
  rfl
theorem Try.infoStr : (Try.prog.info? 9).map (fun i => (i.zero, i.size, i.bytes)) = some (some (.string ⟨#[]⟩), 1, 16) := by kernel_rfl
theorem heldStr_of_own {w : World} {B : Nat} {v : Value} {ts : List ByteArray} {n : Nat} (hn : ts.length = n) (h : w.ownsRow B 9 1 v n (strV ts)) (hx : ∀ s ∈ ts, s.size ≤ maxLen) : ∃ ao cap, v = .slice ao n cap ∧ n ≤ cap ∧ HeldStr w ao ts := by
  subst hn
  obtain ⟨eo, cap, rfl, hnc, hc⟩ := own_form8 h
  refine ⟨eo, cap, rfl, hnc, hx, ?_⟩
  by_cases h0 : ts = []
  · exact .inl h0
  · obtain ⟨g, rfl, _, hg, hcell⟩ := hc (List.length_pos_iff.2 h0)
    refine .inr ⟨g, 0, rfl, hg, fun j hj => ?_⟩
    rw [Nat.zero_add]
    refine hcell _ _ ?_
    simp [strV, List.getD, List.getElem?_eq_getElem hj]
/-- append(tokens, t), t in a block made just ahead of it. -/
theorem wpList_append_str {ops : Array Oper} {rest : List Oper} {o : Oper} {a : Act} {Q : Exit → Act → World → Prop} (W0 W : World) (x : ByteArray) (hW : W = W0.alloc (.cells #[.string x] 9)) (hgd : o.guard = none) (s xx : Operand)
    (ho : o.op = .call { callee := .builtin .append, args := #[s, xx], argTypes := #[23, 23] }) (B : Nat) (v : Value) (ds : List ByteArray) (n : Nat) (hn : ds.length = n)
    (hs : a.eval s = v) (g : Nat) (hx : a.eval xx = .slice (some ⟨g, 0, none⟩) 1 1) (hg : g = W0.heap.size) (hown : W0.ownsRow B 9 1 v n (strV ds)) (hB : B ≤ W0.heap.size) (hl : n < 1000000)
    (h : ∀ bo cp w', w'.ownsRow B 9 1 (.slice bo (n + 1) cp) (n + 1) (strV (ds ++ [x])) → Below B W0 w' → W.grownBy w' v.ownBlock → wpList Try.prog ops Q rest (a.put o.dst (.slice bo (n + 1) cp)) w') :
    wpList Try.prog ops Q (o :: rest) a W := by
  subst hW
  subst hg
  obtain ⟨iI, hj, hy0, hy1, hy2⟩ := info_parts Try.infoStr
  have hnb := Blk.new W0 9 [.string x]
  refine wpList_append_own_at _ hgd s xx 23 ho B 9 iI _ 1 16 Try.underlying23 hj hy0 hy1 hy2 rfl (by decide) v n (strV ds) hs (hown.alloc _) ⟨W0.heap.size, 0, none⟩ 1 1 [.string x] hx rfl (fun j u hu => ?_) (strV_one [x]) (by unfold maxLen; omega) (by omega) (by simp; omega) ?_
  · rw [Addr.add_lit, Nat.zero_add]
    exact hnb.cell hu
  · intro v' w' hown' hgrow _ _
    have hown2 : w'.ownsRow B 9 1 v' (n + 1) (strV (ds ++ [x])) := by simpa [strV] using hown'
    obtain ⟨bo, cp, rfl, _⟩ := own_form8 hown2
    exact h bo cp w' hown2 (((Below.refl _ _).alloc hB _).grown hgrow (by simp; omega) (fun k hk => (hown.lt k hk).1)) hgrow
/-- Rows of unlike elements lie apart. -/
theorem rows_apart {w : World} {B B' e e' sz sz' n n' : Nat} {u v : Value} {xs ys : List Value} (h : w.ownsRow B e sz u n xs) (h' : w.ownsRow B' e' sz' v n' ys) (hne : e ≠ e') : u.ownBlock = none ∨ u.ownBlock ≠ v.ownBlock := by
  rcases h.2 with ⟨rfl, _⟩ | ⟨g, cap, cur, rfl, _, hg, _⟩
  · exact .inl rfl
  · right
    rcases h'.2 with ⟨rfl, _⟩ | ⟨g', cap', cur', rfl, _, hg', _⟩
    · simp [Value.ownBlock]
    · intro he
      have e1 : g = g' := by simpa [Value.ownBlock] using he
      subst e1
      rw [hg] at hg'
      cases hg'
      exact hne rfl
/-- The number of a token among the first k. -/
def idL (ts : List ByteArray) (t : ByteArray) : Nat → Nat
  | 0 => 0
  | k + 1 => if ts.getD k ByteArray.empty = t then k + 1 else idL ts t k
theorem idL_zero {ts : List ByteArray} {t : ByteArray} : ∀ {k : Nat}, idL ts t k = 0 → ∀ j, j < k → ts.getD j ByteArray.empty ≠ t
  | 0, _, j, hj => by omega
  | k + 1, h, j, hj => by
    unfold idL at h
    split at h
    · omega
    · next hne =>
      by_cases e : j = k
      · subst e; exact hne
      · exact idL_zero h j (by omega)
theorem idL_some {ts : List ByteArray} {t : ByteArray} : ∀ {k : Nat}, idL ts t k ≠ 0 → idL ts t k ≤ k ∧ ts.getD (idL ts t k - 1) ByteArray.empty = t
  | 0, h => absurd rfl h
  | k + 1, h => by
    unfold idL at h ⊢
    split
    · next he => exact ⟨by omega, by simpa using he⟩
    · next hne =>
      rw [if_neg hne] at h
      obtain ⟨h1, h2⟩ := idL_some (ts := ts) (t := t) (k := k) h
      exact ⟨by omega, h2⟩
/-- Calls that were done one behind the other, and answered rightly. -/
structure Ser (S : List Sn) (T : List ByteArray) (c : Nat → Nat) : Prop where
  one : T.Nodup
  few : T.length ≤ S.length
  time : ∀ i (h : i < S.length), S[i].b = 2 * (i : Int) + 1 ∧ S[i].e = 2 * (i : Int) + 2
  made : ∀ j, j < T.length → ∃ h : c j < S.length, S[c j].co = true ∧ S[c j].tok = T.getD j ByteArray.empty
  up : ∀ j k, j < k → k < T.length → c j < c k
  no : ∀ i (h : i < S.length), S[i].id = 0 → S[i].co = false ∧ ∀ j, j < T.length → T.getD j ByteArray.empty = S[i].tok → i < c j
  yes : ∀ i (h : i < S.length), S[i].id ≠ 0 → ∃ j : Nat, S[i].id = (j : Int) + 1 ∧ j < T.length ∧ T.getD j ByteArray.empty = S[i].tok ∧ c j ≤ i
theorem Ser.nil : Ser [] [] (fun _ => 0) := ⟨List.nodup_nil, Nat.le_refl _, fun i h => (by cases h), fun j h => (by cases h), fun j k _ h => (by cases h), fun i h => (by cases h), fun i h => (by cases h)⟩
theorem getD_snoc {T : List ByteArray} {t : ByteArray} {j : Nat} (h : j < T.length) : (T ++ [t]).getD j ByteArray.empty = T.getD j ByteArray.empty := by
  simp [List.getD, List.getElem?_append_left h]
theorem getD_last {T : List ByteArray} {t : ByteArray} : (T ++ [t]).getD T.length ByteArray.empty = t := by simp [List.getD]
theorem not_mem_getD {T : List ByteArray} {t : ByteArray} (h : ∀ j, j < T.length → T.getD j ByteArray.empty ≠ t) : t ∉ T := by
  intro hm
  obtain ⟨j, hj, he⟩ := List.mem_iff_getElem.1 hm
  exact h j hj (by simp [List.getD, List.getElem?_eq_getElem hj, he])
/-- One more, whose token is known, or which is a status. -/
theorem Ser.more {S : List Sn} {T : List ByteArray} {c : Nat → Nat} (h : Ser S T c) (co : Bool) (t : ByteArray) (hn : ¬ (idL T t T.length = 0 ∧ co = true)) : Ser (S ++ [⟨co, t, 2 * (S.length : Int) + 1, 2 * (S.length : Int) + 2, (idL T t T.length : Int)⟩]) T c := by
  have hold : ∀ i (hi : i < (S ++ [(⟨co, t, 2 * (S.length : Int) + 1, 2 * (S.length : Int) + 2, (idL T t T.length : Int)⟩ : Sn)]).length), (∃ h' : i < S.length, (S ++ [(⟨co, t, 2 * (S.length : Int) + 1, 2 * (S.length : Int) + 2, (idL T t T.length : Int)⟩ : Sn)])[i] = S[i]) ∨ (i = S.length ∧ (S ++ [(⟨co, t, 2 * (S.length : Int) + 1, 2 * (S.length : Int) + 2, (idL T t T.length : Int)⟩ : Sn)])[i] = ⟨co, t, 2 * (S.length : Int) + 1, 2 * (S.length : Int) + 2, (idL T t T.length : Int)⟩) := by
    intro i hi
    by_cases h' : i < S.length
    · exact .inl ⟨h', List.getElem_append_left h'⟩
    · have hi' : i = S.length := by simp at hi; omega
      subst hi'
      exact .inr ⟨rfl, by simp⟩
  refine ⟨h.one, by simp; have := h.few; omega, fun i hi => ?_, fun j hj => ?_, h.up, fun i hi h0 => ?_, fun i hi h0 => ?_⟩
  · rcases hold i hi with ⟨h', e⟩ | ⟨rfl, e⟩
    · rw [e]; exact h.time i h'
    · rw [e]; exact ⟨rfl, rfl⟩
  · obtain ⟨h1, h2, h3⟩ := h.made j hj
    refine ⟨by simp; omega, ?_⟩
    rw [List.getElem_append_left h1]
    exact ⟨h2, h3⟩
  · rcases hold i hi with ⟨h', e⟩ | ⟨hi', e⟩
    · rw [e] at h0 ⊢
      exact h.no i h' h0
    · rw [e] at h0 ⊢
      have h1 : idL T t T.length = 0 := by have : ((idL T t T.length : Nat) : Int) = 0 := h0; omega
      refine ⟨?_, fun j hj he => absurd he (idL_zero h1 j hj)⟩
      cases co with
      | false => rfl
      | true => exact absurd ⟨h1, rfl⟩ hn
  · rcases hold i hi with ⟨h', e⟩ | ⟨hi', e⟩
    · rw [e] at h0 ⊢
      exact h.yes i h' h0
    · rw [e] at h0 ⊢
      have h1 : idL T t T.length ≠ 0 := by have : ¬ ((idL T t T.length : Nat) : Int) = 0 := h0; omega
      obtain ⟨h2, h3⟩ := idL_some h1
      have hj : idL T t T.length - 1 < T.length := by omega
      obtain ⟨h4, _⟩ := h.made _ hj
      exact ⟨idL T t T.length - 1, by show ((idL T t T.length : Nat) : Int) = _; omega, hj, h3, by omega⟩
/-- One more, which makes an order. -/
theorem Ser.make {S : List Sn} {T : List ByteArray} {c : Nat → Nat} (h : Ser S T c) (t : ByteArray) (h0 : idL T t T.length = 0) : Ser (S ++ [⟨true, t, 2 * (S.length : Int) + 1, 2 * (S.length : Int) + 2, (T.length : Int) + 1⟩]) (T ++ [t]) (fun j => if j = T.length then S.length else c j) := by
  have hold : ∀ i (hi : i < (S ++ [(⟨true, t, 2 * (S.length : Int) + 1, 2 * (S.length : Int) + 2, (T.length : Int) + 1⟩ : Sn)]).length), (∃ h' : i < S.length, (S ++ [(⟨true, t, 2 * (S.length : Int) + 1, 2 * (S.length : Int) + 2, (T.length : Int) + 1⟩ : Sn)])[i] = S[i]) ∨ (i = S.length ∧ (S ++ [(⟨true, t, 2 * (S.length : Int) + 1, 2 * (S.length : Int) + 2, (T.length : Int) + 1⟩ : Sn)])[i] = ⟨true, t, 2 * (S.length : Int) + 1, 2 * (S.length : Int) + 2, (T.length : Int) + 1⟩) := by
    intro i hi
    by_cases h' : i < S.length
    · exact .inl ⟨h', List.getElem_append_left h'⟩
    · have hi' : i = S.length := by simp at hi; omega
      subst hi'
      exact .inr ⟨rfl, by simp⟩
  have hnot := idL_zero h0
  refine ⟨nodup_snoc.2 ⟨h.one, not_mem_getD hnot⟩, by simp; exact h.few, fun i hi => ?_, fun j hj => ?_, fun j k hjk hk => ?_, fun i hi h1 => ?_, fun i hi h1 => ?_⟩
  · rcases hold i hi with ⟨h', e⟩ | ⟨rfl, e⟩
    · rw [e]; exact h.time i h'
    · rw [e]; exact ⟨rfl, rfl⟩
  · by_cases e : j = T.length
    · subst e
      simp only [if_true]
      refine ⟨by simp, ?_⟩
      simp
    · have hj' : j < T.length := by simp at hj; omega
      simp only [if_neg e]
      obtain ⟨h1, h2, h3⟩ := h.made j hj'
      refine ⟨by simp; omega, ?_⟩
      rw [List.getElem_append_left h1, getD_snoc hj']
      exact ⟨h2, h3⟩
  · have hk' : k ≤ T.length := by simp at hk; omega
    have hj' : ¬ j = T.length := by omega
    simp only [if_neg hj']
    by_cases e : k = T.length
    · rw [if_pos e]
      exact (h.made j (by omega)).1
    · rw [if_neg e]
      exact h.up j k hjk (by omega)
  · rcases hold i hi with ⟨h', e⟩ | ⟨hi', e⟩
    · rw [e] at h1 ⊢
      refine ⟨(h.no i h' h1).1, fun j hj he => ?_⟩
      by_cases e' : j = T.length
      · simp only [if_pos e']; exact h'
      · have hj' : j < T.length := by simp at hj; omega
        simp only [if_neg e']
        rw [getD_snoc hj'] at he
        exact (h.no i h' h1).2 j hj' he
    · rw [e] at h1
      have : (T.length : Int) + 1 = 0 := h1
      omega
  · rcases hold i hi with ⟨h', e⟩ | ⟨hi', e⟩
    · rw [e] at h1 ⊢
      obtain ⟨j, h2, h3, h4, h5⟩ := h.yes i h' h1
      exact ⟨j, h2, by simp; omega, by rw [getD_snoc h3]; exact h4, by rw [if_neg (by omega)]; exact h5⟩
    · rw [e]
      exact ⟨T.length, rfl, by simp, getD_last, by rw [if_pos rfl]; omega⟩
theorem Ser.turns {S : List Sn} {T : List ByteArray} {c : Nat → Nat} (h : Ser S T c) (hl : S.length ≤ 300) : ∀ (d k : Nat) (m : Int), T.length - k = d → k ≤ T.length → (k < T.length → m ≤ 2 * (c k : Int) + 1) → TurnsP S m k (T.drop k)
  | 0, k, m, hd, hk, _ => by
    rw [List.drop_eq_nil_of_le (by omega)]
    trivial
  | d + 1, k, m, hd, hk, hm => by
    have hk' : k < T.length := by omega
    rw [List.drop_eq_getElem_cons hk']
    obtain ⟨h1, h2, h3⟩ := h.made k hk'
    have hT : T.getD k ByteArray.empty = T[k] := by simp [List.getD, List.getElem?_eq_getElem hk']
    refine ⟨2 * (c k : Int) + 1, hm hk', ⟨by unfold MT; omega, ⟨S[c k], List.getElem_mem h1, by rw [h3, hT], h2, by rw [(h.time _ h1).1]; omega⟩, fun s hs a b e0 i0 => ?_, fun s hs a e0 i0 => ?_⟩, h.turns hl d (k + 1) _ (by omega) (by omega) (fun hk2 => ?_)⟩
    · obtain ⟨i, hi, rfl⟩ := List.mem_iff_getElem.1 hs
      have := (h.no i hi i0).2 k hk' (by rw [hT, a])
      rw [(h.time i hi).1]
      omega
    · obtain ⟨i, hi, rfl⟩ := List.mem_iff_getElem.1 hs
      obtain ⟨j, j1, j2, j3, j4⟩ := h.yes i hi (by rw [i0]; omega)
      have : j = k := by omega
      subst this
      rw [(h.time i hi).2]
      omega
    · have := h.up k (k + 1) (by omega) hk2
      omega
theorem Ser.rowed {S : List Sn} {T : List ByteArray} {c : Nat → Nat} (h : Ser S T c) (hl : S.length ≤ 300) : Rowed S T := by
  refine ⟨fun s hs => ?_, h.one, fun s hs => ?_, h.turns hl T.length 0 0 rfl (Nat.zero_le _) (fun _ => by omega)⟩
  · obtain ⟨i, hi, rfl⟩ := List.mem_iff_getElem.1 hs
    obtain ⟨h1, h2⟩ := h.time i hi
    refine mayS_iff.2 ?_
    have hid : 0 ≤ S[i].id := by
      by_cases e : S[i].id = 0
      · omega
      · obtain ⟨j, j1, _⟩ := h.yes i hi e
        omega
    unfold MT
    rw [h1, h2]
    omega
  · obtain ⟨i, hi, rfl⟩ := List.mem_iff_getElem.1 hs
    unfold wrongS
    by_cases e : S[i].id = 0
    · rw [(h.no i hi e).1]
      simp [e]
    · obtain ⟨j, j1, j2, j3, _⟩ := h.yes i hi e
      have : isOrd T S[i].id S[i].tok = true := by
        unfold isOrd
        rw [decide_eq_true (by omega), Bool.true_and, j1, show ((j : Int) + 1 - 1).toNat = j by omega]
        exact decide_eq_true j3
      rw [this]
      simp
theorem measWS {n k : Nat} (h : k + 1 ≤ n) (hw : wrap64 ((k : Int) + 1) = (k : Int) + 1) : n - (intOf (.int .i64 (wrap64 ((k : Int) + 1)))).toNat < n - (intOf (.int .i64 (k : Int))).toNat := by
  rw [hw]
  simp [intOf]
  omega
theorem meas1S {n k : Nat} (h : k + 1 ≤ n) : n - (intOf (.int .i64 ((k : Int) + 1))).toNat < n - (intOf (.int .i64 (k : Int))).toNat := by
  simp [intOf]
  omega
end Go.Proofs.Ytfjmhfbmphdjiaa
