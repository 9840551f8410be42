/-
  The mathematics of LeaseAlone: what stands between asking, granting and letting another ballot through, while all clocks keep the drift. No memory in it.
-/
import Derived.Test.YtmceffndnofgfaaLeD
namespace Go.Proofs.Ytmceffndnofgfaa

/-- An ask that was made at some moment T0. -/
def AskedAt (r n0 T a T0 : Int) : Prop := T0 ≤ T ∧ 0 ≤ n0 - a ∧ Keeps1 (T - T0) (n0 - a) r
/-- A grant: asked at T0, given at T1 (no earlier), when the node's clock was y; its hold lasts until y + long at least, and it let no other one through before. -/
def Granted (r long n0 T nk u a : Int) (l : Bool) : Prop := ∃ y T0 T1, AskedAt r n0 T a T0 ∧ T0 ≤ T1 ∧ T1 ≤ T ∧ 0 ≤ nk - y ∧ Keeps1 (T - T1) (nk - y) r ∧ y + long ≤ u ∧ (l = true → y + long ≤ nk)
structure Inv (r long : Int) (n : Nat) (now : List Int) (T : Int) (asks : List Int) (us : Nat → Int) (lets : Nat → Bool) (way : List (Int × Int)) : Prop where
  len : now.length = n
  lea : asks.length = n
  gr : ∀ k, k < n → asks.getD k 0 ≠ -1 → Granted r long (now.getD 0 0) T (now.getD k 0) (us k) (asks.getD k 0) (lets k)
  wy : ∀ x ∈ way, (∃ T0, AskedAt r (now.getD 0 0) T x.2 T0) ∧ 0 ≤ x.2 ∧ x.2 ≤ 1152921504606846976
section
variable {r long : Int} {n : Nat} {now : List Int} {T : Int} {asks : List Int} {us : Nat → Int} {lets : Nat → Bool} {way : List (Int × Int)}
theorem AskedAt.tick {n0 a T0 t a0 : Int} (h : AskedAt r n0 T a T0) (ht : 0 ≤ t) (ha : 0 ≤ a0) (hk : Keeps1 t a0 r) : AskedAt r (n0 + a0) (T + t) a T0 := by
  obtain ⟨h1, h2, h3⟩ := h
  have := h3.add hk
  refine ⟨by omega, by omega, ?_⟩
  rwa [show T - T0 + t = T + t - T0 by omega, show n0 - a + a0 = n0 + a0 - a by omega] at this
theorem Inv.tick (h : Inv r long n now T asks us lets way) (hn : 0 < n) {t : Int} {on : List Int} (hk : KeepsAll t on r) (hl : on.length = n) : Inv r long n (List.zipWith (· + ·) now on) (T + t) asks us lets way := by
  obtain ⟨ht, hx, _, hka⟩ := keepsAll_iff.1 hk
  have hz : ∀ k, k < n → (List.zipWith (· + ·) now on).getD k 0 = now.getD k 0 + on.getD k 0 ∧ 0 ≤ on.getD k 0 ∧ Keeps1 t (on.getD k 0) r := by
    intro k hk
    have h1 : k < now.length := by rw [h.len]; exact hk
    have h2 : k < on.length := by omega
    have h3 : k < (List.zipWith (· + ·) now on).length := by simp; omega
    refine ⟨by simp [List.getD, List.getElem?_eq_getElem h1, List.getElem?_eq_getElem h2, List.getElem?_eq_getElem h3], ?_, ?_⟩
    · exact (hx _ (getD_mem h2)).1
    · exact hka _ (getD_mem h2)
  obtain ⟨z0, z1, z2⟩ := hz 0 hn
  refine ⟨by simp [h.len, hl], h.lea, fun k hk ha => ?_, fun x hx' => ?_⟩
  · obtain ⟨y, T0, T1, q0, q1, q2, q3, q4, q5, q6⟩ := h.gr k hk ha
    obtain ⟨k0, k1, k2⟩ := hz k hk
    rw [z0, k0]
    have := q4.add k2
    refine ⟨y, T0, T1, q0.tick ht.1 z1 z2, q1, by have := ht.1; omega, by omega, ?_, q5, fun hl => by have := q6 hl; omega⟩
    rwa [show T - T1 + t = T + t - T1 by omega, show now.getD k 0 - y + on.getD k 0 = now.getD k 0 + on.getD k 0 - y by omega] at this
  · obtain ⟨⟨T0, q⟩, q2⟩ := h.wy x hx'
    rw [z0]
    exact ⟨⟨T0, q.tick ht.1 z1 z2⟩, q2⟩
theorem Inv.ask (h : Inv r long n now T asks us lets way) (hr : 0 ≤ now.getD 0 0 ∧ now.getD 0 0 ≤ 1152921504606846976) (k : Int) : Inv r long n now T asks us lets (way ++ [(k, now.getD 0 0)]) := by
  refine ⟨h.len, h.lea, h.gr, fun x hx => ?_⟩
  rcases List.mem_append.1 hx with h1 | h1
  · exact h.wy x h1
  · simp at h1
    subst h1
    refine ⟨⟨T, Int.le_refl _, by simp, ?_⟩, hr⟩
    simp [Keeps1]
theorem Inv.drop (h : Inv r long n now T asks us lets way) {way' : List (Int × Int)} (hs : ∀ x ∈ way', x ∈ way) : Inv r long n now T asks us lets way' := ⟨h.len, h.lea, h.gr, fun x hx => h.wy x (hs x hx)⟩
def setN {α : Type} (f : Nat → α) (i : Nat) (v : α) : Nat → α := fun k => if k = i then v else f k
theorem setN_same {α : Type} (f : Nat → α) (i : Nat) (v : α) : setN f i v i = v := by simp [setN]
theorem setN_ne {α : Type} (f : Nat → α) {i k : Nat} (v : α) (h : k ≠ i) : setN f i v k = f k := by simp [setN, h]
/-- A hold that ends no earlier than before changes nothing. -/
theorem Granted.more {n0 nk u u' a : Int} {l : Bool} (h : Granted r long n0 T nk u a l) (hu : ∀ y, 0 ≤ nk - y → y + long ≤ u → y + long ≤ u') : Granted r long n0 T nk u' a l := by
  obtain ⟨y, T0, T1, q0, q1, q2, q3, q4, q5, q6⟩ := h
  exact ⟨y, T0, T1, q0, q1, q2, q3, q4, hu y q3 q5, q6⟩
theorem Inv.hold (h : Inv r long n now T asks us lets way) {i : Nat} {u : Int} (hu : ∀ y, 0 ≤ now.getD i 0 - y → y + long ≤ us i → y + long ≤ u) : Inv r long n now T asks (setN us i u) lets way := by
  refine ⟨h.len, h.lea, fun k hk ha => ?_, h.wy⟩
  by_cases hki : k = i
  · subst hki
    rw [setN_same]
    exact (h.gr k hk ha).more hu
  · rw [setN_ne _ _ hki]
    exact h.gr k hk ha
/-- The node gives, and the grant is noted. -/
theorem Inv.grant (h : Inv r long n now T asks us lets way) {i : Nat} (hi : i < n) {x : Int × Int} (hx : x ∈ way) (hl : lets i = false) : Inv r long n now T (grantL asks i x.2) (setN us i (max (us i) (now.getD i 0 + long))) lets way := by
  have h1 := h.hold (i := i) (u := max (us i) (now.getD i 0 + long)) (fun y _ hy => by omega)
  refine ⟨h.len, by rw [grantL_len]; exact h.lea, fun k hk ha => ?_, h.wy⟩
  unfold grantL at ha ⊢
  split
  · next hc =>
    rw [if_pos hc] at ha
    rw [Int.toNat_natCast] at ha ⊢
    by_cases hki : k = i
    · subst hki
      rw [setN_same]
      have hka : k < asks.length := by rw [h.lea]; exact hk
      have e : (asks.set k x.2).getD k 0 = x.2 := by simp [List.getD, hka]
      rw [e, hl]
      obtain ⟨⟨T0, q⟩, _⟩ := h.wy x hx
      refine ⟨now.getD k 0, T0, T, q, q.1, Int.le_refl _, by simp, ?_, by omega, fun hh => by cases hh⟩
      simp [Keeps1]
    · have e : (asks.set i x.2).getD k 0 = asks.getD k 0 := by unfold List.getD; rw [List.getElem?_set_ne (Ne.symm hki)]
      rw [e] at ha ⊢
      exact h1.gr k hk ha
  · next hc =>
    rw [if_neg hc] at ha
    exact h1.gr k hk ha
theorem Inv.letting (h : Inv r long n now T asks us lets way) {i : Nat} (hu : us i ≤ now.getD i 0) : Inv r long n now T asks us (setN lets i true) way := by
  refine ⟨h.len, h.lea, fun k hk ha => ?_, h.wy⟩
  by_cases hki : k = i
  · subst hki
    rw [setN_same]
    obtain ⟨y, T0, T1, q0, q1, q2, q3, q4, q5, q6⟩ := h.gr k hk ha
    exact ⟨y, T0, T1, q0, q1, q2, q3, q4, q5, fun _ => by omega⟩
  · rw [setN_ne _ _ hki]
    exact h.gr k hk ha
/-- A fresh grant's node has let nobody else through. -/
theorem Inv.fresh (h : Inv r long n now T asks us lets way) {k : Nat} (hk : k < n) (hf : Fresh (now.getD 0 0) (trustOf long r) (asks.getD k 0)) : lets k = false := by
  obtain ⟨f1, f2, f3⟩ := hf
  obtain ⟨y, T0, T1, q0, q1, q2, q3, q4, q5, q6⟩ := h.gr k hk f1
  have := trust_over (T := T - T0) (T' := T - T1) q0.2.1 (by omega) q0.2.2.1 q4.2 f3
  cases hl : lets k with
  | false => rfl
  | true => have := q6 hl; omega
/-- How many of the first k let others through. -/
def cntLet (lets : Nat → Bool) : Nat → Nat
  | 0 => 0
  | k + 1 => cntLet lets k + (if lets k = true then 1 else 0)
theorem cntLet_le (lets : Nat → Bool) : ∀ k, cntLet lets k ≤ k
  | 0 => Nat.le_refl _
  | k + 1 => by
    have := cntLet_le lets k
    unfold cntLet
    split <;> omega
theorem Inv.both (h : Inv r long n now T asks us lets way) : ∀ k, k ≤ n → cntLe (now.getD 0 0) (trustOf long r) (asks.take k) + cntLet lets k ≤ k
  | 0, _ => by simp [cntLe, cntLet]
  | k + 1, hk => by
    have ih := h.both k (by omega)
    rw [cntLe_take (by rw [h.lea]; omega)]
    unfold cntLet
    by_cases hf : Fresh (now.getD 0 0) (trustOf long r) (asks.getD k 0)
    · rw [if_pos hf, h.fresh (by omega) hf, if_neg (by decide)]
      omega
    · rw [if_neg hf]
      split <;> omega
/-- One leader at a time. -/
theorem Inv.alone (h : Inv r long n now T asks us lets way) (hn : 1 ≤ n ∧ n ≤ 7) (hc : quoLe asks.length ≤ cntLe (now.getD 0 0) (trustOf long r) asks) : ¬ ((n : Int) / 2 < (cntLet lets n : Int)) := by
  intro hl
  have hb := h.both n (Nat.le_refl _)
  rw [List.take_of_length_le (by rw [h.lea]; exact Nat.le_refl _)] at hb
  unfold quoLe at hc
  rw [h.lea, if_pos (by omega)] at hc
  omega
theorem Inv.start : Inv r long n (List.replicate n 0) 0 (List.replicate n (-1)) us lets [] := by
  refine ⟨by simp, by simp, fun k hk ha => ?_, fun x hx => by cases hx⟩
  exact absurd (by simp [List.getD, hk]) ha
end
end Go.Proofs.Ytmceffndnofgfaa
