/-
  How an argument of type []api.Entry is read, and one of type api.Entry.
-/
import Derived.Test.YtfokmldfnkonpaaVoOpen
import Derived.Test.YtfokmldfnkonpaaSmF
namespace Go.Proofs.Ytfokmldfnkonpaa
open Go.RowKit Go.ChangeShapes Go.WideShapes Go.Deep

instance : Inhabited EnM := ⟨⟨⟨false, ⟨#[]⟩, ⟨#[]⟩, 0, []⟩, none, 0⟩⟩
def AllEnS (w : World) (xs : List EnM) : Prop := ∀ x ∈ xs, EnOk w x
/-- A slice of entries holds xs. -/
def HeldEn (w : World) (ao : Option Addr) (xs : List EnM) : Prop :=
  AllEnS w xs ∧ (xs = [] ∨ ∃ b off, ao = some ⟨b, off, none⟩ ∧ b < w.heap.size ∧ ∀ j (hj : j < xs.length) c u, xs[j].cells[c]? = some u → w.cell? ⟨b, off + j * 5 + c, none⟩ = some u)
theorem HeldEn.below {w w' : World} {ao : Option Addr} {xs : List EnM} (h : HeldEn w ao xs) (hb : Below w.heap.size w w') : HeldEn w' ao xs := by
  refine ⟨fun x hx => (h.1 x hx).below hb, ?_⟩
  rcases h.2 with h0 | ⟨b, off, h1, h2, h3⟩
  · exact .inl h0
  · exact .inr ⟨b, off, h1, Nat.lt_of_lt_of_le h2 hb.size, fun j hj c u hu => (hb.cell (p := ⟨b, off + j * 5 + c, none⟩) h2).trans (h3 j hj c u hu)⟩
theorem en_getD {xs : List EnM} {k : Nat} (hk : k < xs.length) : xs.getD k default = xs[k] := by simp [List.getD, List.getElem?_eq_getElem hk]
theorem HeldEn.cellsD {w : World} {ao : Option Addr} {xs : List EnM} (h : HeldEn w ao xs) {k : Nat} (hk : k < xs.length) :
    ∃ b off, ao = some ⟨b, off, none⟩ ∧ b < w.heap.size ∧ w.cell? ⟨b, off + k * 5, none⟩ = some (.bool (xs.getD k default).e.noop) ∧ w.cell? ⟨b, off + k * 5 + 1, none⟩ = some (.string (xs.getD k default).e.tok) ∧ w.cell? ⟨b, off + k * 5 + 2, none⟩ = some (.string (xs.getD k default).e.cart) ∧ w.cell? ⟨b, off + k * 5 + 3, none⟩ = some (.int .i64 (xs.getD k default).e.ep) ∧ w.cell? ⟨b, off + k * 5 + 4, none⟩ = some (.slice (xs.getD k default).ao (xs.getD k default).e.cut.length (xs.getD k default).cap) := by
  rcases h.2 with h0 | ⟨b, off, h1, h2, h3⟩
  · subst h0
    cases hk
  · rw [en_getD hk]
    exact ⟨b, off, h1, h2, h3 k hk 0 _ rfl, h3 k hk 1 _ rfl, h3 k hk 2 _ rfl, h3 k hk 3 _ rfl, h3 k hk 4 _ rfl⟩
theorem HeldEn.okD {w : World} {ao : Option Addr} {xs : List EnM} (h : HeldEn w ao xs) {k : Nat} (hk : k < xs.length) : EnOk w (xs.getD k default) := by
  rw [en_getD hk]
  exact h.1 _ (List.getElem_mem hk)
set_option maxRecDepth 100000 in
theorem open_ens {H : Type} {enc : TypeId × Value → H} {w : World} {base : Nat} {held : Bool} {ao : Option Addr} {len cap : Nat} {d : DataW H} {p : List MemPlace} (h : DataW.Trod enc Try.prog w base (fun _ => true) held 22 (.slice ao len cap) d p)
    (hw : ∀ es sp, d = .slice es sp → ∀ x ∈ es, ∀ n ∈ x.weights Try.prog 39, n ≤ reachBytes) :
    ∃ os : List EnM, os.length = len ∧ (HeldEn w ao os ∧ len ≤ cap) ∧ (len = 0 ∨ ∃ es sp, d = .slice es sp ∧ es.length = len) := by
  obtain ⟨fuel, hf⟩ := h
  rcases open_slice Try.underlying22 hf with ⟨hcs, hx⟩ | ⟨a, l, c, m, n, Dd, Pl, hcs, _, hl, hm, hmm, hx, hall⟩
  · simp [Value.cells] at hcs
    obtain ⟨rfl, rfl, rfl⟩ := hcs
    exact ⟨[], rfl, ⟨⟨fun o ho => (by cases ho), .inl rfl⟩, Nat.le_refl _⟩, .inl rfl⟩
  · simp [Value.cells] at hcs
    obtain ⟨rfl, rfl, rfl⟩ := hcs
    rw [Try.cellsEn] at hall
    have hlm : len ≤ m := by rw [hmm]; split <;> omega
    simp only [Prod.mk.injEq] at hx
    obtain ⟨O, hO⟩ := choose_lt (α := EnM) (n := len) (p := fun i o => EnOk w o ∧ w.cells? base (a.add (i * 5)) 5 = some o.cells) (fun i hi => by
      obtain ⟨cs', h1, h2⟩ := hall i (by omega)
      obtain ⟨o, rfl, hok⟩ := en_sizedB h2 (hw _ _ hx.1 _ (List.mem_map.2 ⟨i, List.mem_range.2 hi, rfl⟩))
      exact ⟨o, hok, h1⟩)
    refine ⟨(List.range len).map O, by simp, ⟨⟨fun o ho => ?_, ?_⟩, hl⟩, .inr ⟨_, _, hx.1, by simp⟩⟩
    · obtain ⟨i, hi, rfl⟩ := List.mem_map.1 ho
      exact (hO i (List.mem_range.1 hi)).1
    · by_cases h0 : len = 0
      · left
        simp [h0]
      · right
        have hc0 : ∀ i, i < len → ∀ c u, (O i).cells[c]? = some u → w.cell? (a.add (i * 5 + c)) = some u := by
          intro i hi c u hu
          have hc := (World.cells?_some (hO i hi).2).2.2 c (by have := (List.getElem?_eq_some_iff.1 hu).1; simpa [EnM.cells] using this)
          rw [add_add] at hc
          rw [hc, hu]
        obtain ⟨b, off, spot⟩ := a
        have hz := hc0 0 (by omega) 0 _ rfl
        have hspot : spot = none := by simpa [Addr.add] using World.cell?_spot hz
        subst hspot
        have hlt := World.block_lt_of_cell? w _ hz
        refine ⟨b, off, rfl, by simpa [Addr.add] using hlt, fun j hj c u hu => ?_⟩
        have hj' : j < len := by simpa using hj
        have := hc0 j hj' c u (by simpa using hu)
        rwa [Addr.add_lit, ← Nat.add_assoc] at this
set_option maxRecDepth 100000 in
/-- An entry as an argument, of whatever size. -/
theorem open_en {H : Type} {enc : TypeId × Value → H} {w : World} {base b0 : Nat} {r : Reach} {held : Bool} {v : Value} {d : DataW H} {p : List MemPlace} (hv : Value.okWide Try.prog w r b0 39 v) (h : DataW.Trod enc Try.prog w base (fun _ => true) held 39 v d p) (hw : ∀ n ∈ d.weights Try.prog 39, n ≤ reachBytes) :
    ∃ o : EnM, v = o.val ∧ EnOk w o := by
  obtain ⟨cs, rfl, _⟩ := okWide_struct Try.underlying39 hv
  obtain ⟨fuel, hf⟩ := h
  obtain ⟨o, ho, hok⟩ := en_sizedB hf hw
  refine ⟨o, ?_, hok⟩
  simp [Value.cells, EnM.cells] at ho
  rw [show cs = #[.bool o.e.noop, .string o.e.tok, .string o.e.cart, .int .i64 o.e.ep, .slice o.ao o.e.cut.length o.cap] from Array.ext' ho]
end Go.Proofs.Ytfokmldfnkonpaa
/-
  What entries, one behind the other, make of a machine; Do of one entry that was handed in, below B.
-/
namespace Go.Proofs.Ytfokmldfnkonpaa
open Go.RowKit Go.Maps

/-- What entries make of an empty machine. -/
def runS (l : List En) : Sm := l.foldl doS noSm
theorem runS_snoc (l : List En) (e : En) : runS (l ++ [e]) = doS (runS l) e := by simp [runS, List.foldl_append]
theorem runS_ok' : ∀ (l : List En) (g : Sm), SmOk g → SmOk (l.foldl doS g)
  | [], _, h => h
  | e :: r, g, h => runS_ok' r (doS g e) (doS_ok h e)
theorem runS_ok (l : List En) : SmOk (runS l) := runS_ok' l noSm noSm_ok
theorem runS_dn' : ∀ (l : List En) (g : Sm), (l.foldl doS g).dn ≤ g.dn + l.length
  | [], _ => Nat.le_refl _
  | e :: r, g => by
    have h1 := runS_dn' r (doS g e)
    have h2 := doS_dn (g := g) e
    simp only [List.foldl_cons, List.length_cons]
    omega
theorem runS_dn (l : List En) : (runS l).dn ≤ l.length := by
  have := runS_dn' l noSm
  simpa [noSm, runS] using this
/-- The first k entries of those handed in. -/
def ensTo (zs : List EnM) (k : Nat) : List En := (zs.take k).map EnM.e
theorem ensTo_len {zs : List EnM} {k : Nat} (h : k ≤ zs.length) : (ensTo zs k).length = k := by simp [ensTo]; omega
theorem ensTo_snoc {zs : List EnM} {k : Nat} (h : k < zs.length) : ensTo zs (k + 1) = ensTo zs k ++ [(zs.getD k default).e] := by
  unfold ensTo
  rw [List.take_succ_eq_append_getElem h, List.map_append, en_getD h]
  rfl
theorem ensTo_zero (zs : List EnM) : ensTo zs 0 = [] := rfl
theorem runS_le {zs : List EnM} {k : Nat} (h : k ≤ zs.length) : (runS (ensTo zs k)).dn ≤ k := by
  have h1 := runS_dn (ensTo zs k)
  rw [ensTo_len h] at h1
  exact h1
theorem dn_fits {zs : List EnM} {k n : Nat} (h : k ≤ zs.length) (hn : zs.length = n) (hl : n ≤ 1954687338268) : (runS (ensTo zs k)).dn ≤ 4611686018427387904 := by
  have h1 := runS_le h
  omega
theorem wrapK {k n : Nat} (h : k < n) (hn : n ≤ 1954687338268) : wrap64 ((k : Int) + 1) = (k : Int) + 1 := wrapO (by omega) (by omega)
theorem wrapJ {k : Nat} (h : k ≤ 65536) : wrap64 ((k : Int) + 1) = (k : Int) + 1 := wrapO (by omega) (by omega)
theorem i64J {k : Nat} (h : k ≤ 65536) : I64 ((k : Int) + 1) := by unfold I64; omega
theorem measW {n k : Nat} (h : k + 1 ≤ n) (hw : wrap64 ((k : Int) + 1) = (k : Int) + 1) : n - (intOf (.int .i64 (wrap64 ((k : Int) + 1)))).toNat < n - (intOf (.int .i64 (k : Int))).toNat := by
  rw [hw]
  simp [intOf]
  omega
theorem meas1 {n k : Nat} (h : k + 1 ≤ n) : n - (intOf (.int .i64 ((k : Int) + 1))).toNat < n - (intOf (.int .i64 (k : Int))).toNat := by
  simp [intOf]
  omega
theorem EnOk.cutLt {w : World} {x : EnM} (h : EnOk w x) : ∀ b off, x.ao = some ⟨b, off, none⟩ → x.e.cut ≠ [] → b < w.heap.size := fun b off e hne => by
  rcases h.cut.held.2 with h0 | ⟨b', off', h1, h2, _⟩
  · exact absurd h0 hne
  · rw [h1] at e
    cases e
    exact h2
/-- What Do of the entry X leaves, by the first worlds. -/
def DoW (W w : World) (p mi me : Nat) (v : Value) (g : Sm) (x : En) (e : Ending) (w' : World) : Prop := ∃ oid tok cart ep bo on cp v', e = .returned (.tuple #[.agg #[.int .i64 oid, .string tok, .string cart, .int .i64 ep, .slice bo on cp], .bool (decide (wayO g x = 5)), .int .i64 (codeO (wayO g x))]) ∧ oid = (doR g x).id ∧ tok = (doR g x).tok ∧ cart = (doR g x).cart ∧ ep = (doR g x).ep ∧ on = (doR g x).cut.length ∧ HV w' bo cp (doR g x).cut ∧ (∀ b off, bo = some ⟨b, off, none⟩ → w.heap.size ≤ b ∧ ∃ cs, Blk w' b 3 cs) ∧ SmAt W.heap.size w' p mi me v' (doS g x) ∧ Turns (FootM p mi me v) w w' ∧ (v'.ownBlock = v.ownBlock ∨ ∃ k, v'.ownBlock = some k ∧ w.heap.size ≤ k) ∧ Below W.heap.size W w'
theorem SmAt.doW {W w : World} {p mi me : Nat} {v : Value} {g : Sm} (h : SmAt W.heap.size w p mi me v g) (hb : Below W.heap.size W w) (hdn : g.dn ≤ 4611686018427387904) (x : EnM) (hx : EnOk W x) :
    Calls Try.prog 10 #[.pointer (some ⟨p, 0, none⟩), x.val] w (DoW W w p mi me v g x.e) := by
  refine (h.do hb.size hdn x (hx.below hb) (fun b off e hne hf => by have := hx.cutLt b off e hne; have := h.base b hf; omega)).mono ?_
  rintro e w' ⟨bo, cp, v', rfl, h1, h2, h3, h4, h5⟩
  exact ⟨_, _, _, _, bo, _, cp, v', rfl, rfl, rfl, rfl, rfl, rfl, h1, h2, h3, h4, h5, hb.trans (h4.below (fun i hi => h.base i hi) hb.size)⟩
end Go.Proofs.Ytfokmldfnkonpaa
