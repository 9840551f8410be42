/-
  Package ballot: Next, Quorum, and the document's Compare, Next, Quorum.
-/
import Derived.Test.YtfmnbehopdmahaaGreatScLa
import Derived.Test.YtfmnbehopdmahaaGreatCodA
import Derived.Test.YtfmnbehopdmahaaGreatRows
import Derived.Test.YtfmnbehopdmahaaGreatTexts
import Derived.Lib.SmallJoins
import Derived.Deep.SlicePairs
import Derived.ChangeSlices
import Derived.SizedLaws
import Derived.Test.YtfmnbehopdmahaaGreatAcH
import Derived.Deep.QuietTactic
import Derived.BigQuiet
namespace Go.Proofs.YtfmnbehopdmahaaGreat
open Go.RowKit Go.Maps

set_option maxRecDepth 100000 in
theorem rcompareB (W : World) (x y : Int × Int) : Calls Tryz.prog 23 #[blt x, blt y] W fun e w' => e = .returned (.int .i64 (cmpB x y)) ∧ Below W.heap.size W w' := by
  obtain ⟨x1, x2⟩ := x
  obtain ⟨y1, y2⟩ := y
  have HB : Hid (Below W.heap.size W ((W.alloc (.cells #[.int .i64 x1, .int .i64 x2] 35)).alloc (.cells #[.int .i64 y1, .int .i64 y2] 35))) := ((Below.refl _ _).alloc (Nat.le_refl _) _).alloc (by simp) _
  by_cases h : x1 = y1
  · subst h
    have HE : Hid (cmpB (x1, x2) (x1, y2) = cmpN x2 y2) := by show _ = _; simp [cmpB, cmpN_same]
    rw [HE.out]
    unfold cmpN
    by_cases h1 : x2 < y2
    · rw [if_pos h1]
      go_enter Tryz.func23, Tryz.ntmps23
      go_wp2
      go_quiet (fail)
      go_wp2
      go_quiet (fail)
      go_wp2
      go_ret
      exact ⟨rfl, below_dn HB.out _⟩
    · rw [if_neg h1]
      by_cases h2 : y2 < x2
      · rw [if_pos h2]
        go_enter Tryz.func23, Tryz.ntmps23
        go_wp2
        go_quiet (fail)
        go_wp2
        go_quiet (fail)
        go_wp2
        go_ret
        exact ⟨rfl, below_dn HB.out _⟩
      · rw [if_neg h2]
        go_enter Tryz.func23, Tryz.ntmps23
        go_wp2
        go_quiet (fail)
        go_wp2
        go_quiet (fail)
        go_wp2
        go_ret
        exact ⟨rfl, below_dn HB.out _⟩
  · have hb : (x1 == y1) = false := by simpa using h
    have HE : Hid (cmpB (x1, x2) (y1, y2) = cmpN x1 y1) := by
      show _ = _
      unfold cmpB
      rw [if_pos (by simpa [cmpN_zero] using h)]
    rw [HE.out]
    unfold cmpN
    by_cases h1 : x1 < y1
    · rw [if_pos h1]
      go_enter Tryz.func23, Tryz.ntmps23
      go_wp2
      go_quiet (fail)
      go_wp2
      go_ret
      exact ⟨rfl, below_dn HB.out _⟩
    · rw [if_neg h1]
      by_cases h2 : y1 < x1
      · rw [if_pos h2]
        go_enter Tryz.func23, Tryz.ntmps23
        go_wp2
        go_quiet (fail)
        go_wp2
        go_ret
        exact ⟨rfl, below_dn HB.out _⟩
      · omega

/-- How many are a majority. -/
def quorum (n : Int) : Int := if 1 ≤ n ∧ n ≤ 7 then n / 2 + 1 else 0
theorem wrap_half {n : Int} (h : 1 ≤ n ∧ n ≤ 7) : wrap64 (wrap64 (n.tdiv 2) + 1) = n / 2 + 1 := by
  have a0 : n.tdiv 2 = n / 2 := Int.tdiv_eq_ediv_of_nonneg (by omega)
  rw [a0, wrapS (x := n / 2) (by omega) (by omega), wrapS (by omega) (by omega)]
/-- The next ballot, and which error. -/
def nextE (r n : Int) : Int := if n < 0 ∨ 7 ≤ n then 1 else if r < 0 ∨ 2147483647 ≤ r then 2 else 0
def nextB (r n : Int) : Int × Int := if nextE r n = 0 then (r + 1, n) else (0, 0)
theorem nextE_or (r n : Int) : (nextE r n = 1 ∧ nextB r n = (0, 0) ∧ (n < 0 ∨ 7 ≤ n)) ∨ (nextE r n = 2 ∧ nextB r n = (0, 0) ∧ ¬ (n < 0 ∨ 7 ≤ n) ∧ (r < 0 ∨ 2147483647 ≤ r)) ∨ (nextE r n = 0 ∧ nextB r n = (r + 1, n) ∧ ¬ (n < 0 ∨ 7 ≤ n) ∧ ¬ (r < 0 ∨ 2147483647 ≤ r)) := by
  unfold nextB nextE
  by_cases h1 : n < 0 ∨ 7 ≤ n
  · left; simp [h1]
  · by_cases h2 : r < 0 ∨ 2147483647 ≤ r
    · right; left; simp [h1, h2]
    · right; right; simp [h1, h2]
theorem nextB_lt {r m n : Int} (h : nextE r n = 0) : LtB (r, m) (nextB r n) := by
  unfold nextB LtB
  rw [if_pos h]
  left
  simp
  omega
def bltE (x : Int × Int) (e : Int) : Value := .tuple #[blt x, .int .i64 e]
end Go.Proofs.YtfmnbehopdmahaaGreat
/-
  Seven truths, held against themselves with one of them turned true.
-/
namespace Go.Proofs.YtfmnbehopdmahaaGreat
open Go.RowKit Go.Maps
end Go.Proofs.YtfmnbehopdmahaaGreat
/-
  Package ballot: votes in memory ('VotesAt'): NewVotes, Add, Has, Count, Enough, All, Fork.
-/
namespace Go.Proofs.YtfmnbehopdmahaaGreat
open Go.RowKit Go.Maps

abbrev voteCells (n : Int) (f : Nat → Bool) : List Value := [.int .i64 n, .bool (f 0), .bool (f 1), .bool (f 2), .bool (f 3), .bool (f 4), .bool (f 5), .bool (f 6)]
def addV (f : Nat → Bool) (k : Nat) : Nat → Bool := fun i => if i = k then true else f i
def hasV (n : Int) (f : Nat → Bool) (x : Int) : Bool := decide (0 ≤ x ∧ x < n) && f x.toNat
end Go.Proofs.YtfmnbehopdmahaaGreat
/-
  Package ballot: Count, Enough, All, Fork, NewVotes.
-/
namespace Go.Proofs.YtfmnbehopdmahaaGreat
open Go.RowKit Go.Maps

/-- How many of the first k voted. -/
def cntF (f : Nat → Bool) : Nat → Nat
  | 0 => 0
  | k + 1 => cntF f k + (if f k then 1 else 0)
theorem cntF_le (f : Nat → Bool) : ∀ k, cntF f k ≤ k
  | 0 => Nat.le_refl _
  | k + 1 => by
    have := cntF_le f k
    unfold cntF
    split <;> omega
/-- Which of the first k voted. -/
def allTo (f : Nat → Bool) : Nat → List Int
  | 0 => []
  | k + 1 => allTo f k ++ (if f k then [(k : Int)] else [])
theorem allTo_len (f : Nat → Bool) : ∀ k, (allTo f k).length = cntF f k
  | 0 => rfl
  | k + 1 => by
    unfold allTo cntF
    rw [List.length_append, allTo_len f k]
    split <;> simp
def RowV (w : World) (v : Value) (l : List Int) (w' : World) : Prop := w'.ownsRow w.heap.size 3 1 v l.length (ints l) ∧ Below w.heap.size w w'
end Go.Proofs.YtfmnbehopdmahaaGreat
/-
  Package ballot: told, Pick.
-/
namespace Go.Proofs.YtfmnbehopdmahaaGreat
open Go.RowKit Go.Maps

/-- Which of the first k votes is the one of that slot with the greatest ballot. -/
def bestTo (xs : List VoM) (s : Int) : Nat → Int
  | 0 => -1
  | k + 1 => if (xs.getD k default).slot = s ∧ (bestTo xs s k < 0 ∨ 0 < cmpB (xs.getD k default).bal (xs.getD (bestTo xs s k).toNat default).bal) then (k : Int) else bestTo xs s k
theorem bestTo_in (xs : List VoM) (s : Int) : ∀ k, bestTo xs s k = -1 ∨ (0 ≤ bestTo xs s k ∧ bestTo xs s k < k)
  | 0 => .inl rfl
  | k + 1 => by
    have := bestTo_in xs s k
    unfold bestTo
    split
    · right; omega
    · rcases this with h | h
      · exact .inl h
      · right; omega
def PickP (w : World) (xs : List VoM) (s : Int) (e : Ending) (w' : World) : Prop :=
  (bestTo xs s xs.length = -1 ∧ e = .returned (.tuple #[EnM.val ⟨noopEn, none, 0⟩, .bool false]) ∧ Below w.heap.size w w') ∨
  ∃ b : Nat, bestTo xs s xs.length = b ∧ b < xs.length ∧ ∃ bo cp, e = .returned (.tuple #[EnM.val ⟨(xs.getD b default).en.e, bo, cp⟩, .bool true]) ∧ HV w' bo cp (xs.getD b default).en.e.cut ∧ Below w.heap.size w w'
end Go.Proofs.YtfmnbehopdmahaaGreat
/-
  Package ballot: Pick.
-/
namespace Go.Proofs.YtfmnbehopdmahaaGreat
open Go.RowKit Go.Maps

theorem vo_getD {xs : List VoM} {k : Nat} (hk : k < xs.length) : xs.getD k default = xs[k] := by simp [List.getD, List.getElem?_eq_getElem hk]
theorem HeldVo.cellsD {w : World} {ao : Option Addr} {xs : List VoM} (h : HeldVo w ao xs) {j : Nat} (hj : j < xs.length) : ∃ b off, ao = some ⟨b, off, none⟩ ∧ b < w.heap.size ∧ w.cell? ⟨b, off + j * 8, none⟩ = some (.int .i64 (xs.getD j default).slot) ∧ w.cell? ⟨b, off + j * 8 + 1, none⟩ = some (.int .i64 (xs.getD j default).bal.1) ∧ w.cell? ⟨b, off + j * 8 + 2, none⟩ = some (.int .i64 (xs.getD j default).bal.2) ∧
    w.cell? ⟨b, off + j * 8 + 3, none⟩ = some (.bool (xs.getD j default).en.e.noop) ∧ w.cell? ⟨b, off + j * 8 + 4, none⟩ = some (.string (xs.getD j default).en.e.tok) ∧ w.cell? ⟨b, off + j * 8 + 5, none⟩ = some (.string (xs.getD j default).en.e.cart) ∧ w.cell? ⟨b, off + j * 8 + 6, none⟩ = some (.int .i64 (xs.getD j default).en.e.ep) ∧
    w.cell? ⟨b, off + j * 8 + 7, none⟩ = some (.slice (xs.getD j default).en.ao (xs.getD j default).en.e.cut.length (xs.getD j default).en.cap) := by
  obtain ⟨b, off, h1, h2, h3⟩ := h.at hj
  rw [vo_getD hj]
  exact ⟨b, off, h1, h2, h3 0 _ rfl, h3 1 _ rfl, h3 2 _ rfl, h3 3 _ rfl, h3 4 _ rfl, h3 5 _ rfl, h3 6 _ rfl, h3 7 _ rfl⟩
def zeroEC : Array Value := #[.bool false, .string ⟨#[]⟩, .string ⟨#[]⟩, .int .i64 0, .slice none 0 0]
end Go.Proofs.YtfmnbehopdmahaaGreat
/-
  How an argument of type api.Ballot is read.
-/
namespace Go.Proofs.YtfmnbehopdmahaaGreat
open Go.RowKit Go.ChangeShapes Go.WideShapes Go.Deep

/-- Whole numbers of 64 bits. -/
def In64B (x : Int) : Prop := -9223372036854775808 ≤ x ∧ x ≤ 9223372036854775807
theorem in64B_wf {x : Int} (h : (Lit.int .i64 x).wf = true) : In64B x := by
  simp [Lit.wf, IntKind.min, IntKind.max, IntKind.signed, IntKind.bits] at h
  exact ⟨by omega, by omega⟩
theorem arr2B {α : Type} {cs : List α} (h : cs.length = 2) : ∃ c0 c1, cs = [c0, c1] := by
  match cs, h with
  | [c0, c1], _ => exact ⟨c0, c1, rfl⟩
theorem Tryz.cellsBal : Tryz.prog.cellsOf 35 = 2 := by kernel_rfl

set_option maxRecDepth 100000 in
theorem bal_of_trod {H : Type} {enc : TypeId × Value → H} {w : World} {base : Nat} {spare : Nat → Bool} {held : Bool} {fuel : Nat} {cs : List Value} {x : DataW H × List MemPlace} (h : DataW.trod enc Tryz.prog w base spare held fuel 35 cs = some x) :
    ∃ o s : Int, cs = [.int .i64 o, .int .i64 s] ∧ In64B o ∧ In64B s := by
  obtain ⟨xs, n, _, _, hl, hlen, hf⟩ := DataW.trod_struct Tryz.underlying35 h
  rw [Tryz.cellsBal] at hl
  obtain ⟨c0, c1, rfl⟩ := arr2B hl
  obtain ⟨y0, y1, rfl⟩ := arr2B hlen
  have g : ∀ (i : Nat) (f : Field), (#[_, _] : Array Field)[i]? = some f → _ := hf
  have h0 := g 0 _ rfl
  have h1 := g 1 _ rfl
  have k3 : Tryz.prog.cellsOf 3 = 1 := by kernel_rfl
  simp [k3] at h0 h1
  obtain ⟨a0, e0, _, w0⟩ := DataW.trod_int Tryz.underlying3 h0
  obtain ⟨a1, e1, _, w1⟩ := DataW.trod_int Tryz.underlying3 h1
  simp at e0 e1
  subst e0 e1
  exact ⟨a0, a1, rfl, in64B_wf w0, in64B_wf w1⟩
set_option maxRecDepth 100000 in
theorem open_bal {H : Type} {enc : TypeId × Value → H} {w : World} {base b0 : Nat} {r : Reach} {spare : Nat → Bool} {held : Bool} {v : Value} {d : DataW H} {p : List MemPlace} (hv : Value.okWide Tryz.prog w r b0 35 v) (h : DataW.Trod enc Tryz.prog w base spare held 35 v d p) :
    ∃ o s : Int, v = .agg #[.int .i64 o, .int .i64 s] ∧ In64B o ∧ In64B s := by
  obtain ⟨cs, rfl, _⟩ := okWide_struct Tryz.underlying35 hv
  obtain ⟨fuel, hf⟩ := h
  obtain ⟨o, s, ho, h1, h2⟩ := bal_of_trod hf
  refine ⟨o, s, ?_, h1, h2⟩
  simp [Value.cells] at ho
  rw [show cs = #[.int .i64 o, .int .i64 s] from Array.ext' ho]
end Go.Proofs.YtfmnbehopdmahaaGreat
/-
  How an argument of type []api.Voted is read, where it takes no more than the form's own reach.
-/
namespace Go.Proofs.YtfmnbehopdmahaaGreat
open Go.RowKit Go.ChangeShapes Go.WideShapes Go.Deep

theorem weightsAll_inB {H : Type} {P : Program} {e : TypeId} : ∀ {l : List (DataW H)} {d : DataW H}, d ∈ l → ∀ n ∈ d.weights P e, n ∈ DataW.weightsAll P e l
  | [], _, h, _, _ => by cases h
  | x :: l, d, h, n, hn => by
    simp only [DataW.weightsAll, List.mem_append]
    rcases List.mem_cons.1 h with rfl | h
    · exact .inl hn
    · exact .inr (weightsAll_inB h n hn)
/-- What an element of a slice takes. -/
theorem sized_elemB {H : Type} {P : Program} {ts : List TypeId} {ds : List (DataW H)} (h : (DataW.weightsEach P ts ds).all (· ≤ reachBytes) = true) {j : Nat} {t e : TypeId} {elems spare : List (DataW H)} (ht : ts[j]? = some t) (hd : ds[j]? = some (.slice elems spare)) (hu : P.underlying t = some (.slice e))
    {d : DataW H} (hm : d ∈ elems) : ∀ n ∈ d.weights P e, n ≤ reachBytes := by
  intro n hn
  have h2 := weightsAll_inB hm n hn
  have := List.all_eq_true.1 h n (DataW.weights_mem_each ht hd n (by simp only [DataW.weights, hu]; exact List.mem_cons_of_mem _ (List.mem_append_left _ h2)))
  simpa using this
theorem slice_trodB {H : Type} {enc : TypeId × Value → H} {w : World} {base : Nat} {spare : Nat → Bool} {held : Bool} {fuel : Nat} {v : Value} {x : DataW H × List MemPlace} (h : DataW.trod enc Tryz.prog w base spare held fuel 23 [v] = some x) : ∃ a l c, v = .slice a l c := by
  rcases open_ints Tryz.underlying23 Tryz.underlying3 (by kernel_rfl) h with ⟨hcs, _⟩ | ⟨x, l, c, zs, hcs, _⟩
  · simp at hcs; exact ⟨_, _, _, hcs⟩
  · simp at hcs; exact ⟨_, _, _, hcs⟩
theorem arr4B {α : Type} {cs : List α} (h : cs.length = 4) : ∃ c0 c1 c2 c3, cs = [c0, c1, c2, c3] := by
  match cs, h with
  | [c0, c1, c2, c3], _ => exact ⟨c0, c1, c2, c3, rfl⟩
theorem arr5B {α : Type} {cs : List α} (h : cs.length = 5) : ∃ c0 c1 c2 c3 c4, cs = [c0, c1, c2, c3, c4] := by
  match cs, h with
  | [c0, c1, c2, c3, c4], _ => exact ⟨c0, c1, c2, c3, c4, rfl⟩
theorem arr3B {α : Type} {cs : List α} (h : cs.length = 3) : ∃ c0 c1 c2, cs = [c0, c1, c2] := by
  match cs, h with
  | [c0, c1, c2], _ => exact ⟨c0, c1, c2, rfl⟩
theorem arr8B {α : Type} {cs : List α} (h : cs.length = 8) : ∃ c0 c1 c2 c3 c4 c5 c6 c7, cs = [c0, c1, c2, c3, c4, c5, c6, c7] := by
  match cs, h with
  | [c0, c1, c2, c3, c4, c5, c6, c7], _ => exact ⟨c0, c1, c2, c3, c4, c5, c6, c7, rfl⟩
theorem Tryz.cellsSeB : Tryz.prog.cellsOf 37 = 4 := by kernel_rfl
theorem Tryz.cellsEn : Tryz.prog.cellsOf 39 = 5 := by kernel_rfl
theorem Tryz.cellsVo : Tryz.prog.cellsOf 73 = 8 := by kernel_rfl
set_option maxRecDepth 100000 in
theorem sl_sizedB {H : Type} {enc : TypeId × Value → H} {w : World} {base : Nat} {held : Bool} {fuel : Nat} {cs : List Value} {x : DataW H × List MemPlace} (h : DataW.trod enc Tryz.prog w base (fun _ => true) held fuel 37 cs = some x) (hw : ∀ n ∈ x.1.weights Tryz.prog 37, n ≤ reachBytes) :
    ∃ (tk ct : ByteArray) (ep : Int) (cut : List Int) (ao : Option Addr) (cap : Nat), cs = [.string tk, .string ct, .int .i64 ep, .slice ao cut.length cap] ∧ HV w ao cap cut ∧ In64B ep ∧ tk.size ≤ maxLen ∧ ct.size ≤ maxLen := by
  obtain ⟨xs, n, _, hxe, hl, hlen, hf⟩ := DataW.trod_struct Tryz.underlying37 h
  rw [Tryz.cellsSeB] at hl
  obtain ⟨c0, c1, c2, c3, rfl⟩ := arr4B hl
  obtain ⟨y0, y1, y2, y3, rfl⟩ := arr4B hlen
  have g : ∀ (i : Nat) (f : Field), (#[_, _, _, _] : Array Field)[i]? = some f → _ := hf
  have h0 := g 0 _ rfl
  have h1 := g 1 _ rfl
  have h2 := g 2 _ rfl
  have h3 := g 3 _ rfl
  have k3 : Tryz.prog.cellsOf 3 = 1 := by kernel_rfl
  have k9 : Tryz.prog.cellsOf 9 = 1 := by kernel_rfl
  have k27 : Tryz.prog.cellsOf 23 = 1 := by kernel_rfl
  simp [k3, k9, k27] at h0 h1 h2 h3
  obtain ⟨s0, e0, _, w0⟩ := DataW.trod_string Tryz.underlying9 h0
  obtain ⟨s1, e1, _, w1⟩ := DataW.trod_string Tryz.underlying9 h1
  obtain ⟨a2, e2, _, w2⟩ := DataW.trod_int Tryz.underlying3 h2
  obtain ⟨a3, l3, d3, rfl⟩ := slice_trodB h3
  simp at e0 e1 e2
  subst e0 e1 e2
  obtain ⟨ds, hds, ⟨hh, hr⟩, hd⟩ := open_nums (d := y3.1) (p := y3.2) ⟨n, h3⟩
  have hb : l3 ≤ 17592186044416 := by
    rcases hd with h | ⟨es, sp, hd, he⟩
    · omega
    · have hreach := hw ((es.length + sp.length) * 8) (by
        rw [hxe]
        simp only [DataW.weights, Tryz.underlying37]
        refine DataW.weights_mem_each (j := 3) rfl rfl _ ?_
        show _ ∈ DataW.weights Tryz.prog 23 y3.1
        rw [hd]
        simp only [DataW.weights, Tryz.underlying23]
        rw [show Tryz.prog.bytesOf 3 = 8 by kernel_rfl]
        exact List.mem_cons_self)
      simp only [reachBytes] at hreach
      omega
  subst hds
  exact ⟨s0, s1, a2, ds, a3, d3, rfl, ⟨hh, hr, hb⟩, in64B_wf w2, w0, w1⟩
set_option maxRecDepth 100000 in
theorem en_sizedB {H : Type} {enc : TypeId × Value → H} {w : World} {base : Nat} {held : Bool} {fuel : Nat} {cs : List Value} {x : DataW H × List MemPlace} (h : DataW.trod enc Tryz.prog w base (fun _ => true) held fuel 39 cs = some x) (hw : ∀ n ∈ x.1.weights Tryz.prog 39, n ≤ reachBytes) :
    ∃ o : EnM, cs = o.cells ∧ EnOk w o := by
  obtain ⟨xs, n, _, hxe, hl, hlen, hf⟩ := DataW.trod_struct Tryz.underlying39 h
  rw [Tryz.cellsEn] at hl
  obtain ⟨c0, c1, c2, c3, c4, rfl⟩ := arr5B hl
  obtain ⟨y0, y1, rfl⟩ := arr2B hlen
  have g : ∀ (i : Nat) (f : Field), (#[_, _] : Array Field)[i]? = some f → _ := hf
  have h0 := g 0 _ rfl
  have h1 := g 1 _ rfl
  have k4 : Tryz.prog.cellsOf 4 = 1 := by kernel_rfl
  have k5 := Tryz.cellsSeB
  simp [k4, k5] at h0 h1
  obtain ⟨b0, e0, _⟩ := DataW.trod_bool Tryz.underlying4 h0
  simp at e0
  subst e0
  obtain ⟨tk, ct, ep, cut, ao, cap, e1, hv, hi, ht, hc⟩ := sl_sizedB h1 (fun m hm => hw m (by
    rw [hxe]
    simp only [DataW.weights, Tryz.underlying39]
    exact DataW.weights_mem_each (j := 1) rfl rfl _ hm))
  simp at e1
  obtain ⟨rfl, rfl, rfl, rfl⟩ := e1
  exact ⟨⟨⟨b0, tk, ct, ep, cut⟩, ao, cap⟩, rfl, ⟨hv, hi, ht, hc⟩⟩
set_option maxRecDepth 100000 in
theorem vo_sized {H : Type} {enc : TypeId × Value → H} {w : World} {base : Nat} {held : Bool} {fuel : Nat} {cs : List Value} {x : DataW H × List MemPlace} (h : DataW.trod enc Tryz.prog w base (fun _ => true) held fuel 73 cs = some x) (hw : ∀ n ∈ x.1.weights Tryz.prog 73, n ≤ reachBytes) :
    ∃ o : VoM, cs = o.cells ∧ VoOk w o := by
  obtain ⟨xs, n, _, hxe, hl, hlen, hf⟩ := DataW.trod_struct Tryz.underlying73 h
  rw [Tryz.cellsVo] at hl
  obtain ⟨c0, c1, c2, c3, c4, c5, c6, c7, rfl⟩ := arr8B hl
  obtain ⟨y0, y1, y2, rfl⟩ := arr3B hlen
  have g : ∀ (i : Nat) (f : Field), (#[_, _, _] : Array Field)[i]? = some f → _ := hf
  have h0 := g 0 _ rfl
  have h1 := g 1 _ rfl
  have h2 := g 2 _ rfl
  have k3 : Tryz.prog.cellsOf 3 = 1 := by kernel_rfl
  have k4 := Tryz.cellsBal
  have k5 := Tryz.cellsEn
  simp [k3, k4, k5] at h0 h1 h2
  obtain ⟨a0, e0, _, w0⟩ := DataW.trod_int Tryz.underlying3 h0
  obtain ⟨r, m, e1, w1, w2⟩ := bal_of_trod h1
  simp at e0 e1
  subst e0
  obtain ⟨rfl, rfl⟩ := e1
  obtain ⟨o, e2, ho⟩ := en_sizedB h2 (fun m hm => hw m (by
    rw [hxe]
    simp only [DataW.weights, Tryz.underlying73]
    exact DataW.weights_mem_each (j := 2) rfl rfl _ hm))
  simp [EnM.cells] at e2
  obtain ⟨rfl, rfl, rfl, rfl, rfl⟩ := e2
  exact ⟨⟨a0, (r, m), o⟩, rfl, ⟨ho, in64B_wf w0, w1, w2⟩⟩
set_option maxRecDepth 100000 in
theorem open_vos {H : Type} {enc : TypeId × Value → H} {w : World} {base : Nat} {held : Bool} {ao : Option Addr} {len cap : Nat} {d : DataW H} {p : List MemPlace} (h : DataW.Trod enc Tryz.prog w base (fun _ => true) held 40 (.slice ao len cap) d p)
    (hw : ∀ es sp, d = .slice es sp → ∀ x ∈ es, ∀ n ∈ x.weights Tryz.prog 73, n ≤ reachBytes) :
    ∃ os : List VoM, os.length = len ∧ (HeldVo w ao os ∧ len ≤ cap) ∧ (len = 0 ∨ ∃ es sp, d = .slice es sp ∧ es.length = len) := by
  obtain ⟨fuel, hf⟩ := h
  rcases open_slice Tryz.underlying40 hf with ⟨hcs, hx⟩ | ⟨a, l, c, m, n, Dd, Pl, hcs, _, hl, hm, hmm, hx, hall⟩
  · simp [Value.cells] at hcs
    obtain ⟨rfl, rfl, rfl⟩ := hcs
    exact ⟨[], rfl, ⟨⟨fun o ho => (by cases ho), .inl rfl⟩, Nat.le_refl _⟩, .inl rfl⟩
  · simp [Value.cells] at hcs
    obtain ⟨rfl, rfl, rfl⟩ := hcs
    rw [Tryz.cellsVo] at hall
    have hlm : len ≤ m := by rw [hmm]; split <;> omega
    simp only [Prod.mk.injEq] at hx
    obtain ⟨O, hO⟩ := choose_lt (α := VoM) (n := len) (p := fun i o => VoOk w o ∧ w.cells? base (a.add (i * 8)) 8 = some o.cells) (fun i hi => by
      obtain ⟨cs', h1, h2⟩ := hall i (by omega)
      obtain ⟨o, rfl, hok⟩ := vo_sized h2 (hw _ _ hx.1 _ (List.mem_map.2 ⟨i, List.mem_range.2 hi, rfl⟩))
      exact ⟨o, hok, h1⟩)
    refine ⟨(List.range len).map O, by simp, ⟨⟨fun o ho => ?_, ?_⟩, hl⟩, .inr ⟨_, _, hx.1, by simp⟩⟩
    · obtain ⟨i, hi, rfl⟩ := List.mem_map.1 ho
      exact (hO i (List.mem_range.1 hi)).1
    · by_cases h0 : len = 0
      · left
        simp [h0]
      · right
        have hc0 : ∀ i, i < len → ∀ c u, (O i).cells[c]? = some u → w.cell? (a.add (i * 8 + c)) = some u := by
          intro i hi c u hu
          have hc := (World.cells?_some (hO i hi).2).2.2 c (by have := (List.getElem?_eq_some_iff.1 hu).1; simpa [VoM.cells] using this)
          rw [add_add] at hc
          rw [hc, hu]
        obtain ⟨b, off, spot⟩ := a
        have hz := hc0 0 (by omega) 0 _ rfl
        have hspot : spot = none := by simpa [Addr.add] using World.cell?_spot hz
        subst hspot
        have hlt := World.block_lt_of_cell? w _ hz
        refine ⟨b, off, rfl, by simpa [Addr.add] using hlt, fun j hj c u hu => ?_⟩
        have hj' : j < len := by simpa using hj
        have := hc0 j hj' c u (by simpa using hu)
        rwa [Addr.add_lit, ← Nat.add_assoc] at this
end Go.Proofs.YtfmnbehopdmahaaGreat
/-
  pannierref16: the document's acceptor in memory ('RaAt'); find, Above.
-/
namespace Go.Proofs.YtfmnbehopdmahaaGreat
open Go.RowKit Go.Maps

/-- The cuts of these votes lie ahead of B, or in blocks of numbers. -/
def SafeC (w : World) (B b : Nat) : Prop := b < B ∨ ∃ cs, Blk w b 3 cs
theorem SafeC.turned {F : Nat → Prop} {w w' : World} {B b : Nat} (h : SafeC w B b) (ht : Turns F w w') (hi : ∀ i, F i → ∀ cs, ¬ Blk w i 3 cs) : SafeC w' B b := h.imp id (fun ⟨cs, hc⟩ => ⟨cs, ht.blk hc (fun hf => hi b hf cs hc)⟩)
theorem SafeC.below {w w' : World} {B b : Nat} (h : SafeC w B b) (hb : Below w.heap.size w w') : SafeC w' B b := h.imp id (fun ⟨cs, hc⟩ => ⟨cs, hc.below hb hc.lt⟩)
theorem SafeC.off {F : Nat → Prop} {w : World} {B b : Nat} (h : SafeC w B b) (hF : ∀ i, F i → B ≤ i) (hi : ∀ i, F i → ∀ cs, ¬ Blk w i 3 cs) : ¬ F b := fun hf => by
  rcases h with h | ⟨cs, hc⟩
  · have := hF b hf; omega
  · exact hi b hf cs hc
def LowV (w : World) (B : Nat) (xs : List VoM) : Prop := ∀ y ∈ xs, ∀ b off, y.en.ao = some ⟨b, off, none⟩ → y.en.e.cut ≠ [] → SafeC w B b
theorem LowV.below {w w' : World} {B : Nat} {xs : List VoM} (h : LowV w B xs) (hb : Below w.heap.size w w') : LowV w' B xs := fun y hy b off e hne => (h y hy b off e hne).below hb
theorem LowV.turned {F : Nat → Prop} {w w' : World} {B : Nat} {xs : List VoM} (h : LowV w B xs) (ht : Turns F w w') (hi : ∀ i, F i → ∀ cs, ¬ Blk w i 3 cs) : LowV w' B xs := fun y hy b off e hne => (h y hy b off e hne).turned ht hi
/-- The cut of a message. -/
def SafeM (w : World) (B : Nat) (X : MsM) : Prop := ∀ b off, X.en.ao = some ⟨b, off, none⟩ → X.en.e.cut ≠ [] → SafeC w B b
/-- The document's acceptor: its block x, its row of votes behind B. -/
structure RaAt (w : World) (B x : Nat) (nd : Int) (pr : Int × Int) (xs : List VoM) (eo : Option Addr) (cap : Nat) : Prop where
  blk : Blk w x 51 [.int .i64 nd, .int .i64 pr.1, .int .i64 pr.2, .slice eo xs.length cap]
  row : w.ownsRow B 73 8 (.slice eo xs.length cap) xs.length (flatVo xs)
  ok : AllVo w xs
  few : xs.length ≤ 4096
  low : LowV w B xs
  bx : B ≤ x
theorem RaAt.below {w w' : World} {B x : Nat} {nd : Int} {pr : Int × Int} {xs : List VoM} {eo : Option Addr} {cap : Nat} (h : RaAt w B x nd pr xs eo cap) (hb : Below w.heap.size w w') : RaAt w' B x nd pr xs eo cap :=
  ⟨h.blk.below hb h.blk.lt, (Turns.of_below (F := fun _ => False) hb (Nat.le_refl _)).row h.row (fun _ _ h => h), h.ok.below hb, h.few, h.low.below hb, h.bx⟩
theorem RaAt.held {w : World} {B x : Nat} {nd : Int} {pr : Int × Int} {xs : List VoM} {eo : Option Addr} {cap : Nat} (h : RaAt w B x nd pr xs eo cap) : HeldVo w eo xs := by
  obtain ⟨ao, c, e, _, hh⟩ := heldVo_of_own rfl h.row h.ok
  cases e
  exact hh
theorem measWV {n k : Nat} (h : k + 1 ≤ n) (hw : wrap64 ((k : Int) + 1) = (k : Int) + 1) : n - (intOf (.int .i64 (wrap64 ((k : Int) + 1)))).toNat < n - (intOf (.int .i64 (k : Int))).toNat := by
  rw [hw]
  simp [intOf]
  omega
theorem meas1V {n k : Nat} (h : k + 1 ≤ n) : n - (intOf (.int .i64 ((k : Int) + 1))).toNat < n - (intOf (.int .i64 (k : Int))).toNat := by
  simp [intOf]
  omega
/-- Where the slot's vote lies, counted from k on; below 0: nowhere. -/
def findV : List VoM → Int → Nat → Int
  | [], _, _ => -1
  | x :: r, s, k => if x.slot = s then (k : Int) else findV r s (k + 1)
theorem findV_step {xs : List VoM} {s : Int} {k : Nat} (hk : k < xs.length) : findV (xs.drop k) s k = if (xs.getD k default).slot = s then (k : Int) else findV (xs.drop (k + 1)) s (k + 1) := by
  rw [List.drop_eq_getElem_cons hk, vo_getD hk]
  rfl
set_option maxRecDepth 100000 in
theorem RaAt.find {w : World} {B x : Nat} {nd : Int} {pr : Int × Int} {xs : List VoM} {eo : Option Addr} {cap : Nat} (h : RaAt w B x nd pr xs eo cap) (s : Int) : Calls Tryz.prog 22 #[.pointer (some ⟨x, 0, none⟩), .int .i64 s] w fun e w' => e = .returned (.int .i64 (findV xs s 0)) ∧ w' = w := by
  have c0 := h.blk.cell (i := 3) rfl
  obtain ⟨n, HN⟩ : ∃ n, Hid (xs.length = n) := ⟨_, hid rfl⟩
  rw [HN.out] at c0
  have HH := hid h.held
  have HF : Hid (n ≤ 4096) := by rw [← HN.out]; exact h.few
  obtain ⟨P, HP⟩ : ∃ P, Hid (findV xs s 0 = P) := ⟨_, hid rfl⟩
  rw [HP.out]
  clear h
  go_enter Tryz.func22, Tryz.ntmps22
  go_wp2
  go_loop [5] (fun i => ∃ k : Nat, k ≤ n ∧ i = .int .i64 k ∧ Hid (findV (xs.drop k) s k = P)) (fun i => n - (intOf i).toNat)
  case atStart => exact ⟨0, Nat.zero_le _, rfl, by rw [List.drop_zero]; exact HP.out⟩
  case round =>
    obtain ⟨k, hk, rfl, HR⟩ := hrel
    by_cases hlt : k < n
    · have hlt' : (k : Int) < (n : Int) := by omega
      have HKX : Hid (k < xs.length) := by rw [HN.out]; exact hlt
      have HKM : Hid (k + 1 ≤ n) := (by omega : k + 1 ≤ n)
      have HPS := hid (findV_step (s := s) HKX.out)
      have hwk : wrap64 ((k : Int) + 1) = (k : Int) + 1 := wrapS (by omega) (by have := HF.out; omega)
      obtain ⟨b, off, hao, _, d0, _⟩ := HH.out.cellsD HKX.out
      obtain ⟨sl, HSL⟩ : ∃ z, Hid ((xs.getD k default).slot = z) := ⟨_, hid rfl⟩
      rw [HSL.out] at d0 HPS
      subst hao
      by_cases he : sl = s
      · have HE : Hid (P = k) := by
          have h1 := HR.out
          rw [HPS.out, if_pos he] at h1
          exact h1.symm
        have he2 : (sl == s) = true := beq_iff_eq.2 he
        clear HPS HR
        go_wp2
        go_ret
        exact ⟨by rw [HE.out]; first | done | rfl, rfl⟩
      · have HE : Hid (findV (xs.drop (k + 1)) s (k + 1) = P) := by
          have h1 := HR.out
          rw [HPS.out, if_neg he] at h1
          exact h1
        have he2 : (sl == s) = false := beq_eq_false_iff_ne.2 he
        clear HPS HR
        go_wp2
        go_round
        case rel => exact ⟨k + 1, HKM.out, by go_num, HE.out⟩
        case measure => first | exact measWV HKM.out hwk | exact meas1V HKM.out
    · have hlt' : ¬ (k : Int) < (n : Int) := by omega
      have HE : Hid (P = -1) := by
        have h1 := HR.out
        rw [List.drop_eq_nil_of_le (by have := HN.out; omega)] at h1
        exact h1.symm
      go_wp2
      go_ret
      exact ⟨by rw [HE.out]; first | done | rfl, rfl⟩
/-- The votes of a slot and above, among the first k. -/
def aboveV (xs : List VoM) (s : Int) (k : Nat) : List VoM := (xs.take k).filter (fun x => decide (s ≤ x.slot))
theorem aboveV_no {xs : List VoM} {s : Int} {k : Nat} (hk : k < xs.length) (h : ¬ s ≤ (xs.getD k default).slot) : aboveV xs s (k + 1) = aboveV xs s k := by
  rw [vo_getD hk] at h
  unfold aboveV
  rw [List.take_succ_eq_append_getElem hk, List.filter_append]
  simp [h]
theorem aboveV_yes {xs : List VoM} {s : Int} {k : Nat} (hk : k < xs.length) (h : s ≤ (xs.getD k default).slot) : aboveV xs s (k + 1) = aboveV xs s k ++ [xs.getD k default] := by
  rw [vo_getD hk] at h ⊢
  unfold aboveV
  rw [List.take_succ_eq_append_getElem hk, List.filter_append]
  simp [h]
theorem aboveV_len (xs : List VoM) (s : Int) (k : Nat) : (aboveV xs s k).length ≤ xs.length :=
  Nat.le_trans (List.length_filter_le _ _) (by rw [List.length_take]; exact Nat.min_le_right _ _)
theorem aboveV_mem {xs : List VoM} {s : Int} {k : Nat} {x : VoM} (h : x ∈ aboveV xs s k) : x ∈ xs := List.mem_of_mem_take (List.mem_filter.1 h).1
/-- What Above answers: a row of its own. -/
def AbvR (w : World) (ys : List VoM) (e : Ending) (w' : World) : Prop := ∃ ao cap, e = .returned (.slice ao ys.length cap) ∧ w'.ownsRow w.heap.size 73 8 (.slice ao ys.length cap) ys.length (flatVo ys) ∧ Below w.heap.size w w'
theorem own_sliceV {w : World} {B : Nat} {v : Value} {xs : List VoM} (h : w.ownsRow B 73 8 v xs.length (flatVo xs)) : ∃ ao cap, v = .slice ao xs.length cap := by
  rcases h.2 with ⟨rfl, h0⟩ | ⟨g, cap, cur, rfl, _⟩
  · exact ⟨none, 0, by rw [h0]⟩
  · exact ⟨_, _, rfl⟩
set_option maxRecDepth 100000 in
set_option maxHeartbeats 2000000 in
theorem RaAt.above {w : World} {B x : Nat} {nd : Int} {pr : Int × Int} {xs : List VoM} {eo : Option Addr} {cap : Nat} (h : RaAt w B x nd pr xs eo cap) (s : Int) : Calls Tryz.prog 14 #[.pointer (some ⟨x, 0, none⟩), .int .i64 s] w (AbvR w (aboveV xs s xs.length)) := by
  obtain ⟨n, HN⟩ : ∃ n, Hid (xs.length = n) := ⟨_, hid rfl⟩
  have HF : Hid (n ≤ 4096) := by rw [← HN.out]; exact h.few
  have HH := hid h
  rw [HN.out]
  clear h
  go_enter Tryz.func14, Tryz.ntmps14
  go_wp2
  go_loopw [5, 6] (fun v i wr => ∃ k : Nat, k ≤ n ∧ i = .int .i64 k ∧ Hid (wr.ownsRow w.heap.size 73 8 v (aboveV xs s k).length (flatVo (aboveV xs s k)) ∧ Below w.heap.size w wr)) (fun _ i _ => n - (intOf i).toNat)
  case atStart => exact ⟨0, Nat.zero_le _, rfl, World.ownsRow_nil _ _ _ _, Below.refl _ _⟩
  case round =>
    obtain ⟨k, hk, rfl, HR⟩ := hrel
    have HHR := hid (HH.out.below HR.out.2)
    have hc0 := HHR.out.blk.cell (i := 3) rfl
    rw [HN.out] at hc0
    by_cases hlt : k < n
    · have hlt' : (k : Int) < (n : Int) := by omega
      have HKM : Hid (k + 1 ≤ n) := (by omega : k + 1 ≤ n)
      have hwk : wrap64 ((k : Int) + 1) = (k : Int) + 1 := wrapS (by omega) (by have := HF.out; omega)
      have HCX : Hid (k < xs.length) := by rw [HN.out]; exact hlt
      obtain ⟨b, off, hao, _, d0, d1, d2, d3, d4, d5, d6, d7⟩ := HHR.out.held.cellsD HCX.out
      obtain ⟨Y, HY⟩ : ∃ y, Hid (xs.getD k default = y) := ⟨_, hid rfl⟩
      rw [HY.out] at d0 d1 d2 d3 d4 d5 d6 d7
      have HNO : Hid (¬ s ≤ Y.slot → aboveV xs s (k + 1) = aboveV xs s k) := fun hc => aboveV_no HCX.out (by rw [HY.out]; exact hc)
      have HYES : Hid (s ≤ Y.slot → aboveV xs s (k + 1) = aboveV xs s k ++ [Y]) := fun hc => by rw [aboveV_yes HCX.out (by rw [HY.out]; exact hc), HY.out]
      obtain ⟨sl, ⟨br, bn⟩, ⟨⟨np, tk, ct, ep, dp⟩, yo, yc⟩⟩ := Y
      simp only at d0 d1 d2 d3 d4 d5 d6 d7
      obtain ⟨XN, HXN⟩ : ∃ z, Hid (dp.length = z) := ⟨_, hid rfl⟩
      rw [HXN.out] at d7
      subst hao
      have HROW := hid HR.out.1
      have HB := hid HR.out.2
      clear HR hlt
      by_cases hs : s ≤ sl
      · have HNX := hid (HYES.out hs)
        have hs' : decide (sl ≥ s) = true := decide_eq_true hs
        have HLN : Hid ((aboveV xs s k).length < 1466015503701) := by
          have := aboveV_len xs s k
          have := HN.out
          have := HF.out
          exact (by omega : (aboveV xs s k).length < 1466015503701)
        clear HNO HYES
        go_wp2_with (at_builtin; refine wpList_append_voG wr _ ⟨sl, (br, bn), ⟨⟨np, tk, ct, ep, dp⟩, yo, yc⟩⟩ (by simp only [VoM.cells]; rw [HXN.out]) rfl _ _ rfl w.heap.size _ (aboveV xs s k) _ rfl _ rfl rfl rfl HROW.out HB.out.size HLN.out ?_; intro v' w7 hown hbel hgrow; have HO7 := hid hown; have HB7 := hid (HB.out.trans hbel); clear hown hbel hgrow)
        go_roundw
        case rel => exact ⟨k + 1, HKM.out, by go_num, by rw [HNX.out, List.length_append]; exact ⟨HO7.out, HB7.out⟩⟩
        case measure => first | exact measWV HKM.out hwk | exact meas1V HKM.out
      · have HNX := hid (HNO.out hs)
        have hs' : decide (sl ≥ s) = false := decide_eq_false hs
        clear HNO HYES
        go_wp2
        go_roundw
        case rel => exact ⟨k + 1, HKM.out, by go_num, by rw [HNX.out]; exact ⟨HROW.out, HB.out⟩⟩
        case measure => first | exact measWV HKM.out hwk | exact meas1V HKM.out
    · have hlt' : ¬ (k : Int) < (n : Int) := by omega
      obtain rfl : k = n := by omega
      obtain ⟨ao, cp, hv⟩ := own_sliceV HR.out.1
      subst hv
      have HROW := hid HR.out.1
      have HB := hid HR.out.2
      clear HR
      go_wp2
      go_ret
      exact ⟨_, _, rfl, HROW.out, HB.out⟩
end Go.Proofs.YtfmnbehopdmahaaGreat
/-
  pannierref16.sameEntry of any two.
-/
namespace Go.Proofs.YtfmnbehopdmahaaGreat
open Go.RowKit Go.Maps
attribute [local go_sem] undef

theorem str_ne {a b : ByteArray} (h : a ≠ b) : (a.toList == b.toList) = false ∧ ¬ a.toList = b.toList := by
  have h1 : ¬ a.toList = b.toList := fun hh => h (by
    rw [ByteArray.toList_eq, ByteArray.toList_eq] at hh
    exact ByteArray.ext (Array.ext' hh))
  exact ⟨beq_eq_false_iff_ne.2 h1, h1⟩
def CutTo (a b : List Int) (k : Nat) : Prop := ∀ j, j < k → a.getD j 0 = b.getD j 0
theorem cut_eq {a b : List Int} (hl : a.length = b.length) (h : CutTo a b a.length) : a = b := by
  refine List.ext_getElem hl (fun j h1 h2 => ?_)
  have := h j h1
  simpa [List.getD, List.getElem?_eq_getElem h1, List.getElem?_eq_getElem h2] using this
set_option maxRecDepth 100000 in
set_option maxHeartbeats 1000000 in
theorem sameEntry_R (w : World) (x y : EnM) (hx : EnOk w x) (hy : EnOk w y) : Calls Tryz.prog 43 #[x.val, y.val] w fun e w' => e = .returned (.bool (decide (x.e = y.e))) ∧ Below w.heap.size w w' := by
  obtain ⟨⟨xn, xt, xc, xe, xd⟩, xo, xcap⟩ := x
  obtain ⟨⟨yn, yt, yc, ye, yd⟩, yo, ycap⟩ := y
  obtain ⟨XL, HXL⟩ : ∃ z, Hid (xd.length = z) := ⟨_, hid rfl⟩
  obtain ⟨YL, HYL⟩ : ∃ z, Hid (yd.length = z) := ⟨_, hid rfl⟩
  simp only [EnM.val]
  rw [HXL.out, HYL.out]
  obtain ⟨W, hW⟩ : ∃ W, W = (w.alloc (.cells #[.bool xn, .string xt, .string xc, .int .i64 xe, .slice xo XL xcap] 39)).alloc (.cells #[.bool yn, .string yt, .string yc, .int .i64 ye, .slice yo YL ycap] 39) := ⟨_, rfl⟩
  have HB : Hid (Below w.heap.size w W) := by rw [hW]; exact ((Below.refl _ _).alloc (Nat.le_refl _) _).alloc (by simp) _
  have HX : Hid (Blk W w.heap.size 39 [.bool xn, .string xt, .string xc, .int .i64 xe, .slice xo XL xcap]) := by rw [hW]; exact (Blk.new w _ _).alloc _
  have HY : Hid (Blk W (w.heap.size + 1) 39 [.bool yn, .string yt, .string yc, .int .i64 ye, .slice yo YL ycap]) := by
    have := Blk.new (w.alloc (.cells #[.bool xn, .string xt, .string xc, .int .i64 xe, .slice xo XL xcap] 39)) 39 [.bool yn, .string yt, .string yc, .int .i64 ye, .slice yo YL ycap]
    rw [World.size_alloc] at this
    rw [hW]
    exact this
  have HVX := hid (hx.cut.below HB.out)
  have HVY := hid (hy.cut.below HB.out)
  have HFX : Hid (XL ≤ 17592186044416) := by rw [← HXL.out]; exact hx.cut.few
  obtain ⟨Z, HZ⟩ : ∃ z, Hid (decide ((⟨xn, xt, xc, xe, xd⟩ : En) = ⟨yn, yt, yc, ye, yd⟩) = z) := ⟨_, hid rfl⟩
  rw [HZ.out]
  have HNE : Hid ((xn ≠ yn ∨ xt ≠ yt ∨ xc ≠ yc ∨ xe ≠ ye ∨ xd ≠ yd) → Z = false) := fun hh => by
    rw [← HZ.out]
    refine decide_eq_false (fun he => ?_)
    simp only [En.mk.injEq] at he
    rcases hh with h | h | h | h | h
    · exact h he.1
    · exact h he.2.1
    · exact h he.2.2.1
    · exact h he.2.2.2.1
    · exact h he.2.2.2.2
  have HEQ : Hid (xn = yn → xt = yt → xc = yc → xe = ye → xd = yd → Z = true) := fun h1 h2 h3 h4 h5 => by
    rw [← HZ.out]
    exact decide_eq_true (by rw [h1, h2, h3, h4, h5])
  obtain ⟨q, HQ⟩ : ∃ q, Hid (q = w.heap.size) := ⟨_, hid rfl⟩
  rw [← HQ.out] at HX HY
  have HW := hid hW
  clear hx hy HZ hW
  have c0 := HX.out.cell (i := 0) rfl
  have c1 := HX.out.cell (i := 1) rfl
  have c2 := HX.out.cell (i := 2) rfl
  have c3 := HX.out.cell (i := 3) rfl
  have c4 := HX.out.cell (i := 4) rfl
  have d0 := HY.out.cell (i := 0) rfl
  have d1 := HY.out.cell (i := 1) rfl
  have d2 := HY.out.cell (i := 2) rfl
  have d3 := HY.out.cell (i := 3) rfl
  have d4 := HY.out.cell (i := 4) rfl

  by_cases e1 : xn = yn
  rotate_left 1
  · have HF : Hid (Z = false) := HNE.out (.inl e1)
    clear HNE HEQ
    have b1 : (xn != yn) = true := bne_iff_ne.2 e1
    go_enter Tryz.func43, Tryz.ntmps43
    go_wp2
    go_ret
    exact ⟨by rw [HF.out]; rfl, by rw [← HW.out]; exact HB.out⟩
  have HE1 := hid e1
  subst e1
  by_cases e2 : xt = yt
  rotate_left 1
  · have HF : Hid (Z = false) := HNE.out (.inr (.inl e2))
    clear HNE HEQ
    obtain ⟨b2, b2n⟩ := str_ne e2
    go_enter Tryz.func43, Tryz.ntmps43
    go_wp2
    go_ret
    exact ⟨by rw [HF.out]; rfl, by rw [← HW.out]; exact HB.out⟩
  subst e2
  by_cases e3 : xc = yc
  rotate_left 1
  · have HF : Hid (Z = false) := HNE.out (.inr (.inr (.inl e3)))
    clear HNE HEQ
    obtain ⟨b3, b3n⟩ := str_ne e3
    go_enter Tryz.func43, Tryz.ntmps43
    go_wp2
    go_ret
    exact ⟨by rw [HF.out]; rfl, by rw [← HW.out]; exact HB.out⟩
  subst e3
  by_cases e4 : xe = ye
  rotate_left 1
  · have HF : Hid (Z = false) := HNE.out (.inr (.inr (.inr (.inl e4))))
    clear HNE HEQ
    have b4 : (xe != ye) = true := bne_iff_ne.2 e4
    go_enter Tryz.func43, Tryz.ntmps43
    go_wp2
    go_ret
    exact ⟨by rw [HF.out]; rfl, by rw [← HW.out]; exact HB.out⟩
  subst e4
  by_cases e5 : XL = YL
  rotate_left 1
  · have HF : Hid (Z = false) := HNE.out (.inr (.inr (.inr (.inr (fun h => e5 (by rw [← HXL.out, ← HYL.out, h]))))))
    clear HNE HEQ
    have b5 : ((XL : Int) != (YL : Int)) = true := bne_iff_ne.2 (by omega)
    go_enter Tryz.func43, Tryz.ntmps43
    go_wp2
    go_ret
    exact ⟨by rw [HF.out]; rfl, by rw [← HW.out]; exact HB.out⟩
  subst e5
  have HLX : Hid (xd.length = yd.length) := by rw [HXL.out, HYL.out]; exact hid rfl
  have HEQ2 : Hid (xd = yd → Z = true) := fun h => HEQ.out rfl rfl rfl rfl h
  have HNE2 : Hid (xd ≠ yd → Z = false) := fun h => HNE.out (.inr (.inr (.inr (.inr h))))
  clear HEQ HNE
  go_enter Tryz.func43, Tryz.ntmps43
  go_wp2
  rw [← HW.out, ← HQ.out]
  go_loopw [5] (fun i wr => ∃ k : Nat, k ≤ XL ∧ i = .int .i64 k ∧ Hid (Below W.heap.size W wr ∧ CutTo xd yd k)) (fun i _ => XL - (intOf i).toNat)
  case atStart => exact ⟨0, Nat.zero_le _, rfl, Below.refl _ _, fun j hj => (by omega)⟩
  case round =>
    obtain ⟨k, hk, rfl, HR⟩ := hrel
    have f4 := (HR.out.1.cell (p := ⟨q, 4, none⟩) HX.out.lt).trans c4
    have g4 := (HR.out.1.cell (p := ⟨q + 1, 4, none⟩) HY.out.lt).trans d4
    clear c0 c1 c2 c3 c4 d0 d1 d2 d3 d4
    by_cases hlt : k < XL
    · have hlt' : (k : Int) < (XL : Int) := by omega
      have HKM : Hid (k + 1 ≤ XL) := (by omega : k + 1 ≤ XL)
      have hwk : wrap64 ((k : Int) + 1) = (k : Int) + 1 := wrapS (by omega) (by have := HFX.out; omega)
      obtain ⟨b1, o1, hb1, hc1⟩ := (HVX.out.below HR.out.1).held.cellAt (k := k) (by rw [HXL.out]; exact hlt)
      obtain ⟨b2, o2, hb2, hc2⟩ := (HVY.out.below HR.out.1).held.cellAt (k := k) (by rw [HYL.out]; exact hlt)
      have x0 := hc1 k (by rw [HXL.out]; exact hlt)
      have y0 := hc2 k (by rw [HYL.out]; exact hlt)
      obtain ⟨a1, HA1⟩ : ∃ z, Hid (xd.getD k 0 = z) := ⟨_, hid rfl⟩
      obtain ⟨a2, HA2⟩ : ∃ z, Hid (yd.getD k 0 = z) := ⟨_, hid rfl⟩
      rw [HA1.out] at x0
      rw [HA2.out] at y0
      subst hb1
      subst hb2
      clear hc1 hc2 hlt
      by_cases he : a1 = a2
      · have HG : Hid (CutTo xd yd (k + 1)) := fun j hj => by
          by_cases e : j = k
          · subst e
            rw [HA1.out, HA2.out]
            exact he
          · exact HR.out.2 j (by omega)
        subst he
        clear HNE2 HEQ2
        go_wp2
        go_big_quiet (fail)
        go_wp2
        go_roundw
        case rel => exact ⟨k + 1, HKM.out, by go_num, below_dn HR.out.1 _, HG.out⟩
        case measure => first | exact measWV HKM.out hwk | exact meas1V HKM.out
      · have HF : Hid (Z = false) := HNE2.out (fun h => he (by rw [← HA1.out, ← HA2.out, h]))
        have he2 : (a1 != a2) = true := bne_iff_ne.2 he
        clear HNE2 HEQ2
        go_wp2
        go_big_quiet (fail)
        go_wp2
        go_ret
        exact ⟨by rw [HF.out]; rfl, below_dn (bt' HB.out HR.out.1) _⟩
    · have hlt' : ¬ (k : Int) < (XL : Int) := by omega
      have HF : Hid (Z = true) := HEQ2.out (cut_eq HLX.out (fun j hj => HR.out.2 j (by have := HXL.out; omega)))
      have HBF := hid (bt' HB.out HR.out.1)
      clear HNE2 HEQ2 HR
      go_wp2
      go_ret
      exact ⟨by rw [HF.out]; rfl, HBF.out⟩
end Go.Proofs.YtfmnbehopdmahaaGreat
