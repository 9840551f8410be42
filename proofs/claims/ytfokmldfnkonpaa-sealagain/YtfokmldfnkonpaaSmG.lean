/-
  What entries, one behind the other, make of a machine; Do of one entry that was handed in, below B.
-/
import Derived.Test.YtfokmldfnkonpaaSmF
import Derived.Test.YtfokmldfnkonpaaEnsOpen
namespace Go.Proofs.Ytfokmldfnkonpaa
open Go.RowKit Go.Maps

/-- What entries make of an empty machine. -/
def runS (l : List En) : Sm := l.foldl doS noSm
theorem runS_snoc (l : List En) (e : En) : runS (l ++ [e]) = doS (runS l) e := by simp [runS, List.foldl_append]
theorem runS_ok' : ∀ (l : List En) (g : Sm), SmOk g → SmOk (l.foldl doS g)
  | [], _, h => h
  | e :: r, g, h => runS_ok' r (doS g e) (doS_ok h e)
theorem runS_ok (l : List En) : SmOk (runS l) := runS_ok' l noSm noSm_ok
theorem runS_dn' : ∀ (l : List En) (g : Sm), (l.foldl doS g).dn ≤ g.dn + l.length
  | [], _ => Nat.le_refl _
  | e :: r, g => by
    have h1 := runS_dn' r (doS g e)
    have h2 := doS_dn (g := g) e
    simp only [List.foldl_cons, List.length_cons]
    omega
theorem runS_dn (l : List En) : (runS l).dn ≤ l.length := by
  have := runS_dn' l noSm
  simpa [noSm, runS] using this
/-- The first k entries of those handed in. -/
def ensTo (zs : List EnM) (k : Nat) : List En := (zs.take k).map EnM.e
theorem ensTo_len {zs : List EnM} {k : Nat} (h : k ≤ zs.length) : (ensTo zs k).length = k := by simp [ensTo]; omega
theorem ensTo_snoc {zs : List EnM} {k : Nat} (h : k < zs.length) : ensTo zs (k + 1) = ensTo zs k ++ [(zs.getD k default).e] := by
  unfold ensTo
  rw [List.take_succ_eq_append_getElem h, List.map_append, en_getD h]
  rfl
theorem ensTo_zero (zs : List EnM) : ensTo zs 0 = [] := rfl
theorem runS_le {zs : List EnM} {k : Nat} (h : k ≤ zs.length) : (runS (ensTo zs k)).dn ≤ k := by
  have h1 := runS_dn (ensTo zs k)
  rw [ensTo_len h] at h1
  exact h1
theorem dn_fits {zs : List EnM} {k n : Nat} (h : k ≤ zs.length) (hn : zs.length = n) (hl : n ≤ 1954687338268) : (runS (ensTo zs k)).dn ≤ 4611686018427387904 := by
  have h1 := runS_le h
  omega
theorem wrapK {k n : Nat} (h : k < n) (hn : n ≤ 1954687338268) : wrap64 ((k : Int) + 1) = (k : Int) + 1 := wrapO (by omega) (by omega)
theorem wrapJ {k : Nat} (h : k ≤ 65536) : wrap64 ((k : Int) + 1) = (k : Int) + 1 := wrapO (by omega) (by omega)
theorem i64J {k : Nat} (h : k ≤ 65536) : I64 ((k : Int) + 1) := by unfold I64; omega
theorem measW {n k : Nat} (h : k + 1 ≤ n) (hw : wrap64 ((k : Int) + 1) = (k : Int) + 1) : n - (intOf (.int .i64 (wrap64 ((k : Int) + 1)))).toNat < n - (intOf (.int .i64 (k : Int))).toNat := by
  rw [hw]
  simp [intOf]
  omega
theorem meas1 {n k : Nat} (h : k + 1 ≤ n) : n - (intOf (.int .i64 ((k : Int) + 1))).toNat < n - (intOf (.int .i64 (k : Int))).toNat := by
  simp [intOf]
  omega
theorem EnOk.cutLt {w : World} {x : EnM} (h : EnOk w x) : ∀ b off, x.ao = some ⟨b, off, none⟩ → x.e.cut ≠ [] → b < w.heap.size := fun b off e hne => by
  rcases h.cut.held.2 with h0 | ⟨b', off', h1, h2, _⟩
  · exact absurd h0 hne
  · rw [h1] at e
    cases e
    exact h2
/-- What Do of the entry X leaves, by the first worlds. -/
def DoW (W w : World) (p mi me : Nat) (v : Value) (g : Sm) (x : En) (e : Ending) (w' : World) : Prop := ∃ oid tok cart ep bo on cp v', e = .returned (.tuple #[.agg #[.int .i64 oid, .string tok, .string cart, .int .i64 ep, .slice bo on cp], .bool (decide (wayO g x = 5)), .int .i64 (codeO (wayO g x))]) ∧ oid = (doR g x).id ∧ tok = (doR g x).tok ∧ cart = (doR g x).cart ∧ ep = (doR g x).ep ∧ on = (doR g x).cut.length ∧ HV w' bo cp (doR g x).cut ∧ (∀ b off, bo = some ⟨b, off, none⟩ → w.heap.size ≤ b ∧ ∃ cs, Blk w' b 3 cs) ∧ SmAt W.heap.size w' p mi me v' (doS g x) ∧ Turns (FootM p mi me v) w w' ∧ (v'.ownBlock = v.ownBlock ∨ ∃ k, v'.ownBlock = some k ∧ w.heap.size ≤ k) ∧ Below W.heap.size W w'
theorem SmAt.doW {W w : World} {p mi me : Nat} {v : Value} {g : Sm} (h : SmAt W.heap.size w p mi me v g) (hb : Below W.heap.size W w) (hdn : g.dn ≤ 4611686018427387904) (x : EnM) (hx : EnOk W x) :
    Calls Try.prog 10 #[.pointer (some ⟨p, 0, none⟩), x.val] w (DoW W w p mi me v g x.e) := by
  refine (h.do hb.size hdn x (hx.below hb) (fun b off e hne hf => by have := hx.cutLt b off e hne; have := h.base b hf; omega)).mono ?_
  rintro e w' ⟨bo, cp, v', rfl, h1, h2, h3, h4, h5⟩
  exact ⟨_, _, _, _, bo, _, cp, v', rfl, rfl, rfl, rfl, rfl, rfl, h1, h2, h3, h4, h5, hb.trans (h4.below (fun i hi => h.base i hi) hb.size)⟩
end Go.Proofs.Ytfokmldfnkonpaa
