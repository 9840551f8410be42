/-
  The document's clocks (pannierref05) in memory: New, Now, Time, Keeps.
-/
import Derived.Test.YtmceffndnofgfaaClkI
import Derived.Test.YtmceffndnofgfaaApps
import Derived.Deep.CutRange
import Derived.Deep.LoopGhost
import Derived.Deep.QuietTactic
import Derived.BigQuiet
namespace Go.Proofs.Ytmceffndnofgfaa
open Go.RowKit Go.Maps

/-- A sum over ticks. -/
def S (f : TickV → Int) (ts : List TickV) : Int := (ts.map f).sum
theorem S_nil (f : TickV → Int) : S f [] = 0 := rfl
theorem S_snoc (f : TickV → Int) (ts : List TickV) (t : TickV) : S f (ts ++ [t]) = S f ts + f t := by simp [S]
theorem S_take (f : TickV → Int) {ts : List TickV} {j : Nat} (h : j < ts.length) : S f (ts.take (j + 1)) = S f (ts.take j) + f ts[j] := by
  rw [List.take_succ_eq_append_getElem h, S_snoc]
theorem S_nonneg {f : TickV → Int} : ∀ {ts : List TickV}, (∀ t ∈ ts, 0 ≤ f t) → 0 ≤ S f ts
  | [], _ => Int.le_refl _
  | t :: ts, h => by
    have h1 := h t (by simp)
    have h2 := S_nonneg (f := f) (ts := ts) (fun t' ht => h t' (by simp [ht]))
    simp [S] at *
    omega
theorem S_le {f : TickV → Int} {ts : List TickV} (h : ∀ t ∈ ts, 0 ≤ f t) (j : Nat) : 0 ≤ S f (ts.take j) ∧ S f (ts.take j) ≤ S f ts := by
  refine ⟨S_nonneg (fun t ht => h t (List.mem_of_mem_take ht)), ?_⟩
  have h1 : S f ts = S f (ts.take j) + S f (ts.drop j) := by
    unfold S
    rw [← List.sum_append, ← List.map_append, List.take_append_drop]
  have h2 := S_nonneg (f := f) (ts := ts.drop j) (fun t ht => h t (List.mem_of_mem_drop ht))
  omega
def fT (t : TickV) : Int := t.time
def fN (k : Nat) (t : TickV) : Int := t.on.getD k 0

def flatT (ts : List TickV) : List Value := ts.flatMap fun t => [.int .i64 t.time, t.sl]
theorem flatT_snoc (ts : List TickV) (t : TickV) : flatT (ts ++ [t]) = flatT ts ++ [.int .i64 t.time, t.sl] := by simp [flatT]
theorem flatT_len : ∀ ts : List TickV, (flatT ts).length = ts.length * 2
  | [] => rfl
  | t :: ts => by
    have := flatT_len ts
    simp [flatT] at *
    omega
theorem flatT_get : ∀ {ts : List TickV} {j : Nat} (h : j < ts.length), (flatT ts)[j * 2]? = some (.int .i64 ts[j].time) ∧ (flatT ts)[j * 2 + 1]? = some ts[j].sl
  | t :: ts, 0, _ => by simp [flatT]
  | t :: ts, j + 1, h => by
    have hj : j < ts.length := by simpa using h
    have := flatT_get hj
    have e1 : (j + 1) * 2 = j * 2 + 1 + 1 := by omega
    rw [e1]
    simpa [flatT] using this

/-- One tick in memory: its clocks lie in a block of their own. -/
structure TkOk (w : World) (nodes : Nat) (t : TickV) : Prop where
  len : t.on.length = nodes
  tim : Right t.time
  all : ∀ a ∈ t.on, Right a
  blk : ∃ b rest, t.ao = some ⟨b, 0, none⟩ ∧ Blk w b 3 (ints t.on ++ rest)
theorem TkOk.held {w : World} {nodes : Nat} {t : TickV} (h : TkOk w nodes t) : HeldInt w t.ao t.on := by
  obtain ⟨b, rest, hb, hr⟩ := h.blk
  refine ⟨fun x hx => by have := h.all x hx; unfold Right at this; omega, .inr ⟨b, 0, hb, hr.lt, fun j hj => hr.cell ?_⟩⟩
  rw [Nat.zero_add, List.getElem?_append_left (by rw [ints_len]; exact hj)]
  simp [ints, List.getD, List.getElem?_eq_getElem hj]
theorem TkOk.keep {w w' : World} {nodes : Nat} {t : TickV} (h : TkOk w nodes t) (hk : ∀ b cs, Blk w b 3 cs → t.ao = some ⟨b, 0, none⟩ → Blk w' b 3 cs) : TkOk w' nodes t :=
  ⟨h.len, h.tim, h.all, by obtain ⟨b, rest, hb, hr⟩ := h.blk; exact ⟨b, rest, hb, hk _ _ hr hb⟩⟩
section
variable {w w' : World} {x nodes : Nat} {v : Value} {ts : List TickV}
end

section
variable {w : World} {x nodes : Nat} {v : Value} {ts : List TickV}
end
end Go.Proofs.Ytmceffndnofgfaa
