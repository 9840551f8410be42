/-
  DotsDoes: rounds of the law's looks; rows of dots compared.
-/
import Derived.Test.YtplecopphddjhaaDdQ
import Derived.Test.YtplecopphddjhaaLoopM
import Derived.Test.YtplecopphddjhaaDdP
import Derived.Test.YtplecopphddjhaaDotsM
import Derived.Deep.QuietTactic
import Derived.BigQuiet
namespace Go.Proofs.Ytplecopphddjhaa
open Go.RowKit Go.Shelf Go.Maps
attribute [local go_sem] Oper.semAt_some

set_option maxRecDepth 100000 in
theorem sameDotsX (w : World) (ao bo : Option Addr) (ca cb B1 B2 : Nat) (ds : List (Int × Int)) (n : Nat) (hn : ds.length = n) (ha : w.ownsRow B1 25 2 (.slice ao n ca) ds.length (flatD ds)) (hb : w.ownsRow B2 25 2 (.slice bo n cb) ds.length (flatD ds)) (hl : n ≤ 100000) :
    Calls Try.prog 27 #[.slice ao n ca, .slice bo n cb] w fun e w' => e = .returned (.bool true) ∧ Below w.heap.size w w' := by
  have HA := hid ha
  have HB := hid hb
  have HN := hid hn
  have HL := hid hl
  clear ha hb hn
  go_enter Try.func27, Try.ntmps27
  go_wp2
  go_loopw [5] (fun s5 wr => ∃ k : Nat, k ≤ n ∧ s5 = .int .i64 k ∧ Hid (Below w.heap.size w wr)) (fun s5 _ => n - (intOf s5).toNat)
  case atStart => exact ⟨0, Nat.zero_le _, rfl, Below.refl _ _⟩
  case round =>
    obtain ⟨k, hk, rfl, HR⟩ := hrel
    by_cases hlt : k < n
    · have hlt' : (k : Int) < (n : Int) := by omega
      have HKM : Hid (k + 1 ≤ n) := (by omega : k + 1 ≤ n)
      have HKD : Hid (k < ds.length) := by rw [HN.out]; exact hlt
      obtain ⟨g, hg, _, hgl, hc⟩ := dots_cells HA.out (by have := HKD.out; omega)
      obtain ⟨g', hg', _, hgl', hc'⟩ := dots_cells HB.out (by have := HKD.out; omega)
      obtain ⟨x, HX⟩ : ∃ x, Hid ((ds.getD k (0, 0)).1 = x) := ⟨_, hid rfl⟩
      obtain ⟨y, HY⟩ : ∃ y, Hid ((ds.getD k (0, 0)).2 = y) := ⟨_, hid rfl⟩
      have c0 := (HR.out.cell (p := ⟨g, k * 2, none⟩) hgl).trans (hc k HKD.out).1
      have c1 := (HR.out.cell (p := ⟨g, k * 2 + 1, none⟩) hgl).trans (hc k HKD.out).2
      have d0 := (HR.out.cell (p := ⟨g', k * 2, none⟩) hgl').trans (hc' k HKD.out).1
      have d1 := (HR.out.cell (p := ⟨g', k * 2 + 1, none⟩) hgl').trans (hc' k HKD.out).2
      rw [HX.out] at c0 d0
      rw [HY.out] at c1 d1
      subst hg
      subst hg'
      clear hc hc' hgl hgl' HX HY hlt
      go_wp2
      go_quiet (fail)
      go_wp2
      go_roundw
      case rel => exact ⟨k + 1, HKM.out, by go_num, below_dn HR.out _⟩
      case measure => simp [intOf]; have := HKM.out; omega
    · have hlt' : ¬ (k : Int) < (n : Int) := by omega
      go_wp2
      go_ret
      exact ⟨rfl, HR.out⟩
theorem neq_prD (W : World) (a b : Int) (s : ByteArray) : (binOp .neq 35 (.agg #[.int .i64 a, .int .i64 b, .string s]) (.agg #[.int .i64 a, .int .i64 b, .string s])).run Try.prog W = .ok (.bool false) W := by
  simp [go_sem]
/-- Between two items. -/
structure RnD (X : World) (ib l : Nat) (pr : List It) (V : World) : Prop where
  ibx : Boxed V ib 3 (.int .i64 ((pr.length : Nat) : Int))
  kp : KpJ ib l X V
theorem rnD_own (X : World) (ib l : Nat) : OwnFrom X.heap.size (RnD X ib l) := by
  rintro pr V V' row h hg hr
  exact ⟨boxed_own h.ibx hg (fun r e => (hr r e).2), Turns.grown h.kp hg (fun j e => .inr (hr j e).1)⟩
/-- Between two rounds. -/
structure LkD (w V : World) (x rb xb rnb r : Nat) (Ds : List Nat) : Prop where
  bel : Below w.heap.size w V
  res : Boxed V rb 4 (.bool false)
  xbx : Boxed V xb 28 (.pointer (some ⟨x, 0, none⟩))
  rdx : Boxed V rnb 3 (.int .i64 (r : Int))
  mks : Marks w.heap.size Ds V
  rl : w.heap.size ≤ rb
  xl : w.heap.size ≤ xb
  nl : w.heap.size ≤ rnb
  le : r ≤ 2
section
variable {w V V' : World} {x rb xb rnb r : Nat} {Ds : List Nat}
theorem LkD.below (h : LkD w V x rb xb rnb r Ds) (hb : Below V.heap.size V V') : LkD w V' x rb xb rnb r Ds :=
  ⟨btN h.bel hb, (hb.block _ h.res.lt).trans h.res, (hb.block _ h.xbx.lt).trans h.xbx, (hb.block _ h.rdx.lt).trans h.rdx, h.mks.below hb, h.rl, h.xl, h.nl, h.le⟩
/-- The next round has a number of its own. -/
theorem LkD.next {U W : World} (h : LkD w U x rb xb rnb r Ds) (hr : r < 2) {D : Nat} (hD : w.heap.size ≤ D) (hDef : U.heap[D]? = some (.deferred (some []))) (hnot : D ∉ Ds) (hW : W = U.alloc (.cells #[.int .i64 ((r : Int) + 1)] 3)) : LkD w W x rb xb U.heap.size (r + 1) (D :: Ds) := by
  have hb : Below U.heap.size U W := by rw [hW]; exact (Below.refl _ _).alloc (Nat.le_refl _) _
  have h1 := h.below hb
  have hm : Marks w.heap.size (D :: Ds) W := h1.mks.push hD ((hb.block D (Array.getElem?_eq_some_iff.1 hDef).1).trans hDef) hnot
  refine ⟨h1.bel, h1.res, h1.xbx, ?_, hm, h1.rl, h1.xl, h.bel.size, by omega⟩
  have := Boxed.new U 3 (.int .i64 ((r : Int) + 1))
  rw [hW, show (((r + 1 : Nat)) : Int) = (r : Int) + 1 by omega]
  exact this
end
theorem arr135 (A : Array Value) (h : A.size = 135) : A = ((List.range 135).map (fun i => A.getD i undef)).toArray := by
  apply Array.ext
  · simp [h]
  · intro i h1 h2
    simp [h1]
theorem arr135L (A : Array Value) (h : A.size = 135) : A = #[A.getD 0 undef, A.getD 1 undef, A.getD 2 undef, A.getD 3 undef, A.getD 4 undef, A.getD 5 undef, A.getD 6 undef, A.getD 7 undef, A.getD 8 undef, A.getD 9 undef, A.getD 10 undef, A.getD 11 undef, A.getD 12 undef, A.getD 13 undef, A.getD 14 undef, A.getD 15 undef, A.getD 16 undef, A.getD 17 undef, A.getD 18 undef, A.getD 19 undef, A.getD 20 undef, A.getD 21 undef, A.getD 22 undef, A.getD 23 undef, A.getD 24 undef, A.getD 25 undef, A.getD 26 undef, A.getD 27 undef, A.getD 28 undef, A.getD 29 undef, A.getD 30 undef, A.getD 31 undef, A.getD 32 undef, A.getD 33 undef, A.getD 34 undef, A.getD 35 undef, A.getD 36 undef, A.getD 37 undef, A.getD 38 undef, A.getD 39 undef, A.getD 40 undef, A.getD 41 undef, A.getD 42 undef, A.getD 43 undef, A.getD 44 undef, A.getD 45 undef, A.getD 46 undef, A.getD 47 undef, A.getD 48 undef, A.getD 49 undef, A.getD 50 undef, A.getD 51 undef, A.getD 52 undef, A.getD 53 undef, A.getD 54 undef, A.getD 55 undef, A.getD 56 undef, A.getD 57 undef, A.getD 58 undef, A.getD 59 undef, A.getD 60 undef, A.getD 61 undef, A.getD 62 undef, A.getD 63 undef, A.getD 64 undef, A.getD 65 undef, A.getD 66 undef, A.getD 67 undef, A.getD 68 undef, A.getD 69 undef, A.getD 70 undef, A.getD 71 undef, A.getD 72 undef, A.getD 73 undef, A.getD 74 undef, A.getD 75 undef, A.getD 76 undef, A.getD 77 undef, A.getD 78 undef, A.getD 79 undef, A.getD 80 undef, A.getD 81 undef, A.getD 82 undef, A.getD 83 undef, A.getD 84 undef, A.getD 85 undef, A.getD 86 undef, A.getD 87 undef, A.getD 88 undef, A.getD 89 undef, A.getD 90 undef, A.getD 91 undef, A.getD 92 undef, A.getD 93 undef, A.getD 94 undef, A.getD 95 undef, A.getD 96 undef, A.getD 97 undef, A.getD 98 undef, A.getD 99 undef, A.getD 100 undef, A.getD 101 undef, A.getD 102 undef, A.getD 103 undef, A.getD 104 undef, A.getD 105 undef, A.getD 106 undef, A.getD 107 undef, A.getD 108 undef, A.getD 109 undef, A.getD 110 undef, A.getD 111 undef, A.getD 112 undef, A.getD 113 undef, A.getD 114 undef, A.getD 115 undef, A.getD 116 undef, A.getD 117 undef, A.getD 118 undef, A.getD 119 undef, A.getD 120 undef, A.getD 121 undef, A.getD 122 undef, A.getD 123 undef, A.getD 124 undef, A.getD 125 undef, A.getD 126 undef, A.getD 127 undef, A.getD 128 undef, A.getD 129 undef, A.getD 130 undef, A.getD 131 undef, A.getD 132 undef, A.getD 133 undef, A.getD 134 undef] := (arr135 A h).trans rfl
def LdI (w : World) (p x xb rb : Nat) (vo : Option Addr) (k0 vc : Nat) (a : Act) (V : World) : Prop := ∃ (r : Nat) (Ds : List Nat) (rnb : Nat) (f : Nat → Value),
  a = { tmps := #[.pointer (some ⟨p, 0, none⟩), .pointer (some ⟨x, 0, none⟩), .slice vo k0 vc, f 3, .pointer (some ⟨xb, 0, none⟩), f 5, .pointer (some ⟨rb, 0, none⟩), .pointer (some ⟨rnb, 0, none⟩), f 8, f 9, f 10, f 11, f 12, f 13, f 14, f 15, f 16, f 17, f 18, f 19, f 20, f 21, f 22, f 23, f 24, f 25, f 26, f 27, f 28, f 29, f 30, f 31, f 32, f 33, f 34, f 35, f 36, f 37, f 38, f 39, f 40, f 41, f 42, f 43, f 44, f 45, f 46, f 47, f 48, f 49, f 50, f 51, f 52, f 53, f 54, f 55, f 56, f 57, f 58, f 59, f 60, f 61, f 62, f 63, f 64, f 65, f 66, f 67, f 68, f 69, f 70, f 71, f 72, f 73, f 74, f 75, f 76, f 77, f 78, f 79, f 80, f 81, f 82, f 83, f 84, f 85, f 86, f 87, f 88, f 89, f 90, f 91, f 92, f 93, f 94, f 95, f 96, f 97, f 98, f 99, f 100, f 101, f 102, f 103, f 104, f 105, f 106, f 107, f 108, f 109, f 110, f 111, f 112, f 113, f 114, f 115, f 116, f 117, f 118, f 119, f 120, f 121, f 122, f 123, f 124, f 125, f 126, f 127, f 128, f 129, f 130, f 131, f 132, f 133, f 134], defers := Ds.map markD } ∧ LkD w V x rb xb rnb r Ds
theorem ldI_of {w : World} {p x xb rb : Nat} {vo : Option Addr} {k0 vc : Nat} {a : Act} {V : World} {r : Nat} {Ds : List Nat} {rnb : Nat} (hsz : a.tmps.size = 135) (h0 : a.tmps.getD 0 undef = .pointer (some ⟨p, 0, none⟩)) (h1 : a.tmps.getD 1 undef = .pointer (some ⟨x, 0, none⟩)) (h2 : a.tmps.getD 2 undef = .slice vo k0 vc) (h4 : a.tmps.getD 4 undef = .pointer (some ⟨xb, 0, none⟩)) (h6 : a.tmps.getD 6 undef = .pointer (some ⟨rb, 0, none⟩)) (h7 : a.tmps.getD 7 undef = .pointer (some ⟨rnb, 0, none⟩)) (hd : a.defers = Ds.map markD) (h : LkD w V x rb xb rnb r Ds) : LdI w p x xb rb vo k0 vc a V := by
  refine ⟨r, Ds, rnb, fun i => a.tmps.getD i undef, ?_, h⟩
  obtain ⟨A, d⟩ := a
  simp only at hsz h0 h1 h2 h4 h6 h7 hd
  subst hd
  have e := arr135L A hsz
  rw [h0, h1, h2, h4, h6, h7] at e
  exact congrArg (fun T => ({ tmps := T, defers := Ds.map markD } : Act)) e
def LdMu (a : Act) (V : World) : Nat := 2 - (match a.tmps.getD 7 undef with
  | .pointer (some q) => (match V.cell? q with
    | some u => (intOf u).toNat
    | none => 0)
  | _ => 0)
theorem ldMu_eq {a : Act} {V : World} {rnb r : Nat} (h : Boxed V rnb 3 (.int .i64 (r : Int))) (ht : a.tmps.getD 7 undef = .pointer (some ⟨rnb, 0, none⟩)) : LdMu a V = 2 - r := by
  unfold LdMu
  rw [ht]
  simp only [h.cell]
  simp [intOf]
/-- Behind a world, but for one box. -/
structure ScT (rb : Nat) (W V : World) : Prop where
  out : Turns (fun i => i = rb) W V
theorem ScT.start (rb : Nat) (W : World) : ScT rb W W := ⟨Turns.refl _ _⟩
theorem ScT.go {rb : Nat} {W V U : World} (h : ScT rb W V) (hb : Below V.heap.size V U) : ScT rb W U := ⟨h.out.trans (Turns.of_below (F := fun i => i = rb) hb (Nat.le_refl _)) (fun _ hi => .inl hi)⟩
theorem ScT.dr {rb : Nat} {W V : World} (h : ScT rb W V) : ScT rb W V.drew := ⟨h.out.drew⟩
theorem ScT.set {rb : Nat} {W V : World} (h : ScT rb W V) (u : Value) : ScT rb W (V.setCell ⟨rb, 0, none⟩ u) := ⟨h.out.setCell (p := ⟨rb, 0, none⟩) (.inl rfl) u⟩
theorem HeldPp.belowK {w w' : World} {K : Nat} {ao : Option Addr} {xs : List PairV} (h : HeldPp w ao xs) (hb : Below K w w') (hlt : xs = [] ∨ ∀ b off, ao = some ⟨b, off, none⟩ → b < K) : HeldPp w' ao xs := by
  rcases h with h0 | ⟨b, off, h1, h2, h3⟩
  · exact .inl h0
  · rcases hlt with h0 | hlt
    · exact .inl h0
    · have hK := hlt b off h1
      exact .inr ⟨b, off, h1, Nat.lt_of_lt_of_le h2 hb.size, fun j hj c u hu => (hb.cell (p := ⟨b, off + j * 3 + c, none⟩) hK).trans (h3 j hj c u hu)⟩
theorem HeldPp.lt {w : World} {ao : Option Addr} {xs : List PairV} (h : HeldPp w ao xs) : xs = [] ∨ ∀ b off, ao = some ⟨b, off, none⟩ → b < w.heap.size := by
  rcases h with h0 | ⟨b, off, h1, h2, h3⟩
  · exact .inl h0
  · refine .inr (fun b' off' e => ?_)
    rw [h1] at e
    cases e
    exact h2
/-- Behind the rounds. -/
structure LkE (w V : World) (x rb xb lb : Nat) (lo : Option Addr) (M lc : Nat) (YS : List PairV) (Ds : List Nat) : Prop where
  bel : Below w.heap.size w V
  res : Boxed V rb 4 (.bool false)
  xbx : Boxed V xb 28 (.pointer (some ⟨x, 0, none⟩))
  lbx : Boxed V lb 22 (.slice lo M lc)
  row : HeldPp V lo YS
  rlt : YS = [] ∨ ∀ b off, lo = some ⟨b, off, none⟩ → b < lb
  mks : Marks w.heap.size Ds V
  rl : w.heap.size ≤ rb
  xl : w.heap.size ≤ xb
section
variable {w V V' : World} {x rb xb lb M lc : Nat} {lo : Option Addr} {YS : List PairV} {Ds : List Nat}
theorem LkE.below (h : LkE w V x rb xb lb lo M lc YS Ds) (hb : Below V.heap.size V V') : LkE w V' x rb xb lb lo M lc YS Ds :=
  ⟨btN h.bel hb, (hb.block _ h.res.lt).trans h.res, (hb.block _ h.xbx.lt).trans h.xbx, (hb.block _ h.lbx.lt).trans h.lbx, h.row.below hb, h.rlt, h.mks.below hb, h.rl, h.xl⟩
theorem LkE.kp {K : Nat} (h : LkE w V x rb xb lb lo M lc YS Ds) (hK : w.heap.size ≤ K) (hb : Below K V V') (h1 : rb < K) (h2 : xb < K) (h3 : lb < K) (h4 : ∀ D ∈ Ds, D < K) : LkE w V' x rb xb lb lo M lc YS Ds :=
  ⟨h.bel.trans (hb.mono hK), (hb.block _ h1).trans h.res, (hb.block _ h2).trans h.xbx, (hb.block _ h3).trans h.lbx, h.row.belowK hb (h.rlt.imp (fun e => e) (fun e b off hbo => Nat.lt_trans (e b off hbo) h3)), h.rlt, ⟨h.mks.one, fun D hD => ⟨(h.mks.at_ D hD).1, (hb.block D (h4 D hD)).trans (h.mks.at_ D hD).2⟩⟩, h.rl, h.xl⟩
end
theorem ScN.t {rb : Nat} {W V : World} (h : ScN W V) : ScT rb W V := ⟨Turns.of_below h.out (Nat.le_refl _)⟩
end Go.Proofs.Ytplecopphddjhaa
