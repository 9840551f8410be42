/-
  Package net: what Send, Take, Twice, At make of a bag, with no memory in it; each call in one contract with what it turns; Fork.
-/
import Derived.Test.YtoacfdicjpoohaaNetF
import Derived.Shelf.SlMaps.Clone
import Derived.Shelf.SlicesE.Clone
import Derived.Shelf.Lay
import Derived.Ground.SlgnProg
import Derived.Ground.SlmcProg
import Derived.Deep.RegionHeld3
namespace Go.Proofs
open Go.Shelf Go.RowKit Go.Lib
shelf_lay_g SlLaysE0.n41 Slgn 41 at Try 28 as Ytoacfdicjpoohaa.cloneNi
shelf_lay_g SlLaysW.n5 Slmc 5 at Try 27 as Ytoacfdicjpoohaa.cloneNp
end Go.Proofs
namespace Go.Proofs.Ytoacfdicjpoohaa
open Go.RowKit Go.Maps

/-- A bag: how many nodes, the last Id, the packets. -/
structure Nt where
  nodes : Int
  last : Int
  ps : List Pk
def sendC (g : Nt) (f t : Int) (s : ByteArray) : Int :=
  if (0 ≤ f ∧ f < g.nodes) ∧ (0 ≤ t ∧ t < g.nodes) then (if 65536 < s.size then 3 else if g.ps.length < 65536 then 0 else 2) else 1
def sendN (g : Nt) (f t : Int) (s : ByteArray) : Nt := if sendC g f t s = 0 then ⟨g.nodes, g.last + 1, g.ps ++ [⟨g.last + 1, f, t, s⟩]⟩ else g
def sendI (g : Nt) (f t : Int) (s : ByteArray) : Int := if sendC g f t s = 0 then g.last + 1 else 0
def takeC (g : Nt) (x : Int) : Int := match found g.ps x with | none => 4 | some _ => 0
def takeV (g : Nt) (x : Int) : Pk := (found g.ps x).getD ⟨0, 0, 0, ⟨#[]⟩⟩
def takeN (g : Nt) (x : Int) : Nt := match found g.ps x with | none => g | some _ => ⟨g.nodes, g.last, g.ps.eraseP (fun q => q.id == x)⟩
def twiceC (g : Nt) (x : Int) : Int := match found g.ps x with | none => 4 | some q => sendC g q.frm q.dst q.body
def twiceI (g : Nt) (x : Int) : Int := match found g.ps x with | none => 0 | some q => sendI g q.frm q.dst q.body
def twiceN (g : Nt) (x : Int) : Nt := match found g.ps x with | none => g | some q => sendN g q.frm q.dst q.body
/-- Packets in a bag were let in. -/
structure NtOk (g : Nt) : Prop where
  nds : 1 ≤ g.nodes ∧ g.nodes ≤ 7
  let_ : ∀ q ∈ g.ps, ((0 ≤ q.frm ∧ q.frm < g.nodes) ∧ (0 ≤ q.dst ∧ q.dst < g.nodes)) ∧ ¬ 65536 < q.body.size
theorem sendC_zero {g : Nt} {f t : Int} {s : ByteArray} (h : sendC g f t s = 0) : ((0 ≤ f ∧ f < g.nodes) ∧ (0 ≤ t ∧ t < g.nodes)) ∧ ¬ 65536 < s.size ∧ g.ps.length < 65536 := by
  unfold sendC at h
  split at h
  · next h1 =>
    split at h
    · cases h
    · next h2 =>
      split at h
      · next h3 => exact ⟨h1, h2, h3⟩
      · cases h
  · cases h
theorem NtOk.send {g : Nt} (h : NtOk g) (f t : Int) (s : ByteArray) : NtOk (sendN g f t s) := by
  unfold sendN
  split
  · next h0 =>
    obtain ⟨h1, h2, _⟩ := sendC_zero h0
    refine ⟨h.nds, fun q hq => ?_⟩
    rcases List.mem_append.1 hq with h3 | h3
    · exact h.let_ q h3
    · rw [List.mem_singleton.1 h3]
      exact ⟨h1, h2⟩
  · exact h
theorem NtOk.take {g : Nt} (h : NtOk g) (x : Int) : NtOk (takeN g x) := by
  unfold takeN
  split
  · exact h
  · exact ⟨h.nds, fun q hq => h.let_ q (List.mem_of_mem_eraseP hq)⟩
theorem NtOk.twice {g : Nt} (h : NtOk g) (x : Int) : NtOk (twiceN g x) := by
  unfold twiceN
  split
  · exact h
  · exact h.send _ _ _
theorem sendN_last (g : Nt) (f t : Int) (s : ByteArray) : (sendN g f t s).last ≤ g.last + 1 ∧ g.last ≤ (sendN g f t s).last ∧ (sendN g f t s).nodes = g.nodes := by
  unfold sendN
  split
  · exact ⟨Int.le_refl _, by show g.last ≤ g.last + 1; omega, rfl⟩
  · exact ⟨by omega, Int.le_refl _, rfl⟩
theorem takeN_last (g : Nt) (x : Int) : (takeN g x).last = g.last ∧ (takeN g x).nodes = g.nodes := by
  unfold takeN
  split <;> exact ⟨rfl, rfl⟩
theorem twiceN_last (g : Nt) (x : Int) : (twiceN g x).last ≤ g.last + 1 ∧ g.last ≤ (twiceN g x).last ∧ (twiceN g x).nodes = g.nodes := by
  unfold twiceN
  split
  · exact ⟨by omega, Int.le_refl _, rfl⟩
  · exact sendN_last _ _ _ _
theorem eraseP_at : ∀ {ps : List Pk} {k : Nat} (hk : k < ps.length), (∀ j (hj : j < ps.length), j < k → ps[j].id ≠ ps[k].id) → ps.eraseP (fun q => q.id == ps[k].id) = ps.eraseIdx k
  | [], _, hk, _ => by cases hk
  | q :: r, 0, _, _ => by simp
  | q :: r, k + 1, hk, h => by
    have h0 := h 0 (by simp) (by omega)
    simp only [List.getElem_cons_zero, List.getElem_cons_succ] at h0
    have := eraseP_at (ps := r) (k := k) (by simpa using hk) (fun j hj hjk => by
      have := h (j + 1) (by simpa using hj) (by omega)
      simpa using this)
    simp only [List.getElem_cons_succ, List.eraseIdx_cons_succ]
    rw [List.eraseP_cons_of_neg (by simpa using h0), this]
/-- A call of a bag: what it leaves. -/
def NetTo (w w' : World) (p bm : Nat) (v : Value) (g : Nt) : Prop := ∃ v' D', NetAt w' p bm v' g.nodes g.last g.ps D' ∧ Turns (Foot p bm v) w w' ∧ (v'.ownBlock = v.ownBlock ∨ ∃ k, v'.ownBlock = some k ∧ w.heap.size ≤ k)
section
variable {w : World} {p bm : Nat} {v : Value} {g : Nt} {D : DataW Value}
theorem NetTo.same {w' : World} (h : NetAt w p bm v g.nodes g.last g.ps D) (hb : Below w.heap.size w w') : NetTo w w' p bm v g := ⟨v, D, h.below hb (Nat.le_refl _), Turns.of_below hb (Nat.le_refl _), .inl rfl⟩
theorem send_all (h : NetAt w p bm v g.nodes g.last g.ps D) (hlast : g.last ≤ 4611686018427387904) (f t : Int) (s : ByteArray) :
    Calls Try.prog 7 #[.pointer (some ⟨p, 0, none⟩), .int .i64 f, .int .i64 t, .string s] w fun e w' => e = .returned (.tuple #[.int .i64 (sendI g f t s), .int .i64 (sendC g f t s)]) ∧ NetTo w w' p bm v (sendN g f t s) := by
  by_cases hbad : (0 ≤ f ∧ f < g.nodes) ∧ (0 ≤ t ∧ t < g.nodes)
  · obtain ⟨⟨f0, f1⟩, t0, t1⟩ := hbad
    by_cases hs : 65536 < s.size
    · have hc : sendC g f t s = 3 := by unfold sendC; rw [if_pos ⟨⟨f0, f1⟩, t0, t1⟩, if_pos hs]
      have hne : ¬ sendC g f t s = 0 := by rw [hc]; decide
      unfold sendI sendN
      rw [if_neg hne, if_neg hne, hc]
      refine (send_long h f t s f0 f1 t0 t1 hs).mono ?_
      rintro e w' ⟨rfl, rfl⟩
      exact ⟨rfl, NetTo.same h (Below.refl _ _)⟩
    · by_cases hl : g.ps.length < 65536
      · have hc : sendC g f t s = 0 := by unfold sendC; rw [if_pos ⟨⟨f0, f1⟩, t0, t1⟩, if_neg hs, if_pos hl]
        unfold sendI sendN
        rw [if_pos hc, if_pos hc, hc]
        exact send_ok h f t s f0 f1 t0 t1 hs hl hlast
      · have hc : sendC g f t s = 2 := by unfold sendC; rw [if_pos ⟨⟨f0, f1⟩, t0, t1⟩, if_neg hs, if_neg hl]
        have hne : ¬ sendC g f t s = 0 := by rw [hc]; decide
        unfold sendI sendN
        rw [if_neg hne, if_neg hne, hc]
        refine (send_full h f t s f0 f1 t0 t1 hs (by omega)).mono ?_
        rintro e w' ⟨rfl, hb⟩
        exact ⟨rfl, NetTo.same h hb⟩
  · have hc : sendC g f t s = 1 := by unfold sendC; rw [if_neg hbad]
    have hne : ¬ sendC g f t s = 0 := by rw [hc]; decide
    unfold sendI sendN
    rw [if_neg hne, if_neg hne, hc]
    refine (send_arg h f t s hbad).mono ?_
    rintro e w' ⟨rfl, rfl⟩
    exact ⟨rfl, NetTo.same h (Below.refl _ _)⟩
theorem twice_all (h : NetAt w p bm v g.nodes g.last g.ps D) (hg : NtOk g) (hlast : g.last ≤ 4611686018427387904) (x : Int) (h0 : -9223372036854775808 ≤ x) (h1 : x ≤ 9223372036854775807) :
    Calls Try.prog 11 #[.pointer (some ⟨p, 0, none⟩), .int .i64 x] w fun e w' => e = .returned (.tuple #[.int .i64 (twiceI g x), .int .i64 (twiceC g x)]) ∧ NetTo w w' p bm v (twiceN g x) := by
  unfold twiceI twiceC twiceN
  cases hf : found g.ps x with
  | none =>
    refine (twice_none h x h0 h1 hf).mono ?_
    rintro e w' ⟨rfl, hb⟩
    exact ⟨rfl, NetTo.same h hb⟩
  | some q =>
    obtain ⟨k, hk, hq, _⟩ := at_found hf
    have hl := hg.let_ q (by rw [← hq]; exact List.getElem_mem hk)
    by_cases hn : g.ps.length < 65536
    · have hc : sendC g q.frm q.dst q.body = 0 := by unfold sendC; rw [if_pos hl.1, if_neg hl.2, if_pos hn]
      unfold sendI sendN
      simp only [hc, if_true]
      exact twice_ok h x h0 h1 hf hn hlast
    · have hc : sendC g q.frm q.dst q.body = 2 := by unfold sendC; rw [if_pos hl.1, if_neg hl.2, if_neg hn]
      have hne : ¬ ((2 : Int) = 0) := by decide
      unfold sendI sendN
      simp only [hc, if_neg hne]
      refine (twice_full h x h0 h1 hf (by omega)).mono ?_
      rintro e w' ⟨rfl, hb⟩
      exact ⟨rfl, NetTo.same h hb⟩
theorem take_all (h : NetAt w p bm v g.nodes g.last g.ps D) (hlast : g.last ≤ 4611686018427387904) (x : Int) (h0 : -9223372036854775808 ≤ x) (h1 : x ≤ 9223372036854775807) :
    Calls Try.prog 9 #[.pointer (some ⟨p, 0, none⟩), .int .i64 x] w fun e w' => e = .returned (.tuple #[(takeV g x).val, .int .i64 (takeC g x)]) ∧ NetTo w w' p bm v (takeN g x) := by
  unfold takeV takeC takeN
  cases hf : found g.ps x with
  | none =>
    refine (take_none h x h0 h1 hf).mono ?_
    rintro e w' ⟨rfl, hb⟩
    exact ⟨rfl, NetTo.same h hb⟩
  | some q =>
    obtain ⟨k, hk, rfl, rfl⟩ := at_found hf
    refine (take_ok h hk hlast).mono ?_
    rintro e w' ⟨rfl, v', D', h2, h3, h4⟩
    refine ⟨rfl, v', D', ?_, h3, .inl h4⟩
    dsimp only
    rw [eraseP_at hk (fun j hj hjk e => by have := List.pairwise_iff_getElem.1 h.rise j k hj hk hjk; omega)]
    exact h2
def atV (g : Nt) (x : Int) : Int := if 0 < g.ps.length then (g.ps.getD (x % g.ps.length).toNat ⟨0, 0, 0, ⟨#[]⟩⟩).id else 0
theorem at_all (h : NetAt w p bm v g.nodes g.last g.ps D) (x : Int) : Calls Try.prog 13 #[.pointer (some ⟨p, 0, none⟩), .int .i64 x] w fun e w' => e = .returned (.tuple #[.int .i64 (atV g x), .bool (decide (0 < g.ps.length))]) ∧ w' = w := by
  unfold atV
  by_cases h0 : 0 < g.ps.length
  · rw [if_pos h0, decide_eq_true h0]
    have h1 := Int.emod_nonneg x (b := g.ps.length) (by omega)
    have h2 := Int.emod_lt_of_pos x (b := g.ps.length) (by omega)
    have h3 := at_any h x (x % g.ps.length).toNat (by omega) (by omega)
    rw [show g.ps.getD (x % g.ps.length).toNat ⟨0, 0, 0, ⟨#[]⟩⟩ = g.ps[(x % g.ps.length).toNat]'(by omega) by simp [List.getD, List.getElem?_eq_getElem (show (x % g.ps.length).toNat < g.ps.length by omega)]]
    exact h3
  · rw [if_neg h0, decide_eq_false h0]
    exact at_empty h x (by omega)
end
end Go.Proofs.Ytoacfdicjpoohaa
