/-
  maps.Keys of a map with dots as keys: its iterator yields each key once, in some order; in a fence.
-/
import Derived.Test.YtplecopphddjhaaDotsH
import Derived.Sort.MapsRangeIn
import Derived.RangeFuncSeq
namespace Go.Proofs.Ytplecopphddjhaa
open Go.RowKit Go.Shelf Go.Maps
attribute [local go_sem] Oper.semAt_some

/-- ss tells the keys of D, each once. -/
def KeysOf' (D : DataW Value) (ss : List (Int × Int)) : Prop := ss.Nodup ∧ ∀ o s, (o, s) ∈ ss ↔ I64 o ∧ I64 s ∧ (look D (dk o s)).isSome = true
/-- What has come, and what is left. -/
structure CollD (D : DataW Value) (left : Lit → Bool) (ss : List (Int × Int)) : Prop where
  nodup : ss.Nodup
  come : ∀ o s, (o, s) ∈ ss → I64 o ∧ I64 s ∧ Maps.has D (dk o s) = true ∧ left (dk o s) = false
  rest : ∀ o s, I64 o → I64 s → Maps.has D (dk o s) = true → left (dk o s) = false → (o, s) ∈ ss
theorem CollD.start (D : DataW Value) : CollD D (Maps.has D) [] := ⟨.nil, fun _ _ h => (by cases h), fun o s _ _ h1 h2 => (by rw [h1] at h2; cases h2)⟩
theorem same_dk {o s o' s' : Int} (ho : I64 o) (hs : I64 s) (ho' : I64 o') (hs' : I64 s') : (dk o s).sameKey (dk o' s') = decide (o = o' ∧ s = s') := by
  rw [Bool.eq_iff_iff, decide_eq_true_eq, WideAt.sameKey_iff (by trivial)]
  exact ⟨fun h => dk_inj ho hs ho' hs' h, fun ⟨a, b⟩ => by rw [a, b]⟩
theorem CollD.step {D : DataW Value} {left : Lit → Bool} {ss : List (Int × Int)} (h : CollD D left ss) {o s : Int} (ho : I64 o) (hs : I64 s) (hl : left (dk o s) = true) (hh : Maps.has D (dk o s) = true) : CollD D (fun z => left z && !z.sameKey (dk o s)) (ss ++ [(o, s)]) := by
  have hn : (o, s) ∉ ss := fun hm => by
    have := (h.come o s hm).2.2.2
    rw [hl] at this
    cases this
  refine ⟨?_, ?_, ?_⟩
  · rw [List.nodup_append]
    exact ⟨h.nodup, by simp, fun a ha b hb => by simp at hb; subst hb; rintro rfl; exact hn ha⟩
  · intro o' s' hm
    rcases List.mem_append.1 hm with hm | hm
    · obtain ⟨h1, h2, h3, h4⟩ := h.come o' s' hm
      exact ⟨h1, h2, h3, by simp [h4]⟩
    · simp at hm
      obtain ⟨rfl, rfl⟩ := hm
      exact ⟨ho, hs, hh, by simp [same_dk ho hs ho hs]⟩
  · intro o' s' ho' hs' h1 h2
    rw [same_dk ho' hs' ho hs] at h2
    by_cases e : o' = o ∧ s' = s
    · obtain ⟨rfl, rfl⟩ := e
      simp
    · simp [e] at h2
      exact List.mem_append.2 (.inl (h.rest o' s' ho' hs' h1 h2))
theorem CollD.done {D : DataW Value} {left : Lit → Bool} {ss : List (Int × Int)} (h : CollD D left ss) (hD : AllHeld D) (hl : ∀ kl, left kl = false) : KeysOf' D ss := by
  refine ⟨h.nodup, fun o s => ⟨fun hm => ?_, fun ⟨h1, h2, h3⟩ => ?_⟩⟩
  · obtain ⟨h1, h2, h3, _⟩ := h.come o s hm
    exact ⟨h1, h2, by rw [← has_look hD]; exact h3⟩
  · exact h.rest o s h1 h2 (by rw [has_look hD]; exact h3) (hl _)

set_option maxRecDepth 100000 in
set_option maxHeartbeats 1000000 in
theorem keysD_seq (n : Nat) (hn : 1 ≤ n) (Bm b nn : Nat) (D0 : DataW Value) (V : World) (hm : V.cell? ⟨Bm, 0, none⟩ = some (.map (some b))) (hown : V.ownsMap Try.prog 25 valR b nn D0) :
    SeqStopsK Fence.wide n Try.prog 52 #[.pointer (some ⟨Bm, 0, none⟩)] (fun x : Int × Int => #[dotV x]) KeepsWalks (fun ss => KeysOf' D0 ss ∧ ss.length ≤ Maps.size D0) (fun _ => True) (Maps.size D0) V := by
  intro l J Jx W hW hJ hJx hY h0
  have hm' : W.cell? ⟨Bm, 0, none⟩ = some (.map (some b)) := (hW.cell (World.block_lt_of_cell? V _ hm)).trans hm
  have hown' : W.ownsMap Try.prog 25 valR b nn D0 := (Turns.of_below (F := fun _ => False) hW (Nat.le_refl _)).map hown (fun h => h)
  have HAH := hid (allHeld_of hown)
  have HJ := hid hJ
  have HY := hid hY
  clear hm hown hW hJ hJx hY
  change CallsIn Fence.wide n Try.prog 52 #[.func (.yield l) #[] #[], .pointer (some ⟨Bm, 0, none⟩)] W _
  refine callsIn_of_wp Try.func52 rfl trivial ?_ rfl
  simp only [Try.ntmps52, List.size_toArray, List.length_cons, List.length_nil, Nat.reduceAdd, Nat.reduceSub, Array.replicate_succ, Array.replicate_zero, List.push_toArray, List.append_toArray, List.nil_append, List.cons_append]
  gi_wp2_with (first
    | (gi_at_range; refine wpListIn_range_own _ rfl _ 40 rfl 25 9 Try.keyedDot Try.underlying40 _ b nn _ rfl hown' ?_; intro w0 hrg0 hg0 hs0)
    | gi_in)
  gi_loopw [3] (fun _ wr => Hid (∃ (left : Lit → Bool) (cnt : Nat) (ss : List (Int × Int)), wr.ranges Try.prog 25 valR b W.heap.size nn D0 left cnt ∧ CollD D0 left ss ∧ J ss wr ∧ ss.length + cnt ≤ Maps.size D0 ∧ W.heap.size ≤ wr.heap.size))
    (fun _ wr => wr.rangeLeft b W.heap.size)
  case atStart =>
    exact ⟨_, _, [], hrg0, CollD.start D0, HJ.out [] W w0 none h0 hg0 (fun r e => by cases e), by simp, hg0.size⟩
  case round =>
    obtain ⟨left, cnt, ss, hrg, hC, hJs, hcnt, hsz⟩ := hrel.out
    clear hrel
    gi_wp2_with (first
      | (gi_at_next; refine wpListIn_next_ranges _ rfl _ rfl 25 Try.keyedDot valR (fun x : Int × Int => dotV x) (fun v : Value => v) (fun key kl hk => by obtain ⟨o, s, hx, _⟩ := dk_inv hk; exact ⟨(o, s), hx⟩) (fun v y _ => ⟨v, rfl⟩) b W.heap.size nn _ _ _ rfl hrg ?_ ?_)
      | gi_in)
    · intro hc0 hl0
      gi_wp2
      refine bodyPost_end (results_none rfl _ _ _) rfl ?_
      exact ⟨⟨_, rfl⟩, .inl ⟨ss, ⟨hC.done HAH.out hl0, by omega⟩, hJs⟩⟩
    · intro o s v kl yd yp w2 cnt2 hkey hlk hv hat hrg2 hlt hg2 hs2 hen
      obtain ⟨o', s', he, rfl, ho, hs⟩ := dk_inv hkey
      have hee : o = o' ∧ s = s' := by simpa [dotV, dotVal] using he
      obtain ⟨rfl, rfl⟩ := hee
      have hyd : yd = .held v := by
        unfold valR at hv
        cases hv
        rfl
      subst hyd
      have HH : Hid (Maps.has D0 (dk o s) = true) := by
        show _ = _
        rw [has_look HAH.out, look_at hat]
        rfl
      have hJ2 : J ss w2 := HJ.out ss wr w2 (some W.heap.size) hJs hg2 (fun r e => by cases e; exact ⟨Nat.le_refl _, hrg.iter_walk⟩)
      have hJ3 : J ss (w2.alloc (.cells #[.int .i64 o, .int .i64 s] 25)) := HJ.out ss w2 _ none hJ2 (World.grownBy_alloc w2 _ none) (fun r e => by cases e)
      obtain ⟨fn, tmps, assign, body, hy, hR⟩ := HY.out ss (o, s) _ hJ3 (by omega)
      have HR := hid hR
      have HRG := hid (hrg2.alloc (.cells #[.int .i64 o, .int .i64 s] 25))
      have HC2 := hid (hC.step ho hs hlk HH.out)
      have HCN : Hid ((ss ++ [(o, s)]).length + cnt2 ≤ Maps.size D0) := (by simp; omega : (ss ++ [(o, s)]).length + cnt2 ≤ Maps.size D0)
      have HLT : Hid (∀ w9 : World, w9.ranges Try.prog 25 valR b W.heap.size nn D0 (fun z => left z && !z.sameKey (dk o s)) cnt2 → w9.rangeLeft b W.heap.size < wr.rangeLeft b W.heap.size) := fun w9 h9 => by rw [h9.left_eq, hrg.left_eq]; exact hlt
      have HSZ : Hid (W.heap.size ≤ w2.heap.size) := Nat.le_trans hsz hg2.size
      clear hR hs2 hJ2 hJ3 hrg2 hat hlk hkey hv hg2 hcnt hlt
      dsimp only [dotV] at hy hen ⊢
      gi_wp2
      refine HR.out.mono ?_
      rintro e W3 (⟨rfl, hJ4, hk4⟩ | ⟨rfl, hJx4⟩)
      · have HJ4 := hid hJ4
        have HRG4 := hid (HRG.out.of_walks hk4)
        have HS4 : Hid (W.heap.size ≤ W3.heap.size) := Nat.le_trans (Nat.le_trans HSZ.out (by simp)) hk4.size
        clear hJ4 hk4 HR hy
        gi_wp2
        go_roundw
        case rel => exact ⟨_, cnt2, ss ++ [(o, s)], HRG4.out, HC2.out, HJ4.out, HCN.out, HS4.out⟩
        case measure => exact HLT.out _ HRG4.out
      · have HJ4 := hid hJx4
        clear hJx4 HR hy
        gi_wp2
        refine bodyPost_ret (results_none rfl _ _ _) rfl ?_
        exact ⟨⟨_, rfl⟩, .inr ⟨_, trivial, HJ4.out⟩⟩
end Go.Proofs.Ytplecopphddjhaa
