/-
  Rounds of the law's looks: what stands between two of them; packets compared.
-/
import Derived.Test.YtoacfdicjpoohaaNdF
namespace Go.Proofs.Ytoacfdicjpoohaa
open Go.RowKit Go.Shelf Go.Maps
attribute [local go_sem] Oper.semAt_some

theorem neq_pk (W : World) (a b c : Int) (s : ByteArray) : (binOp .neq 36 (.agg #[.int .i64 a, .int .i64 b, .int .i64 c, .string s]) (.agg #[.int .i64 a, .int .i64 b, .int .i64 c, .string s])).run Try.prog W = .ok (.bool false) W := by
  simp [go_sem]
theorem eql_pk (W : World) (a b c : Int) (s : ByteArray) : (binOp .eql 36 (.agg #[.int .i64 a, .int .i64 b, .int .i64 c, .string s]) (.agg #[.int .i64 a, .int .i64 b, .int .i64 c, .string s])).run Try.prog W = .ok (.bool true) W := by
  simp [go_sem]
def markD (D : Nat) : Deferred := { target := .collected D, args := #[] }
structure Marks (B : Nat) (Ds : List Nat) (V : World) : Prop where
  one : Ds.Nodup
  at_ : ∀ D ∈ Ds, B ≤ D ∧ V.heap[D]? = some (.deferred (some []))
theorem Marks.nil (B : Nat) (V : World) : Marks B [] V := ⟨List.nodup_nil, fun D h => (by cases h)⟩
theorem Marks.turned {B : Nat} {Ds : List Nat} {V V' : World} {F : Nat → Prop} (h : Marks B Ds V) (ht : Turns F V V') (hF : ∀ i, F i → V.heap[i]? ≠ some (.deferred (some []))) : Marks B Ds V' :=
  ⟨h.one, fun D hD => ⟨(h.at_ D hD).1, (ht.block D (Array.getElem?_eq_some_iff.1 (h.at_ D hD).2).1 (fun hf => hF D hf (h.at_ D hD).2)).trans (h.at_ D hD).2⟩⟩
theorem Marks.below {B : Nat} {Ds : List Nat} {V V' : World} (h : Marks B Ds V) (hb : Below V.heap.size V V') : Marks B Ds V' := h.turned (F := fun _ => False) (Turns.of_below hb (Nat.le_refl _)) (fun _ h => h.elim)
theorem Marks.push {B : Nat} {Ds : List Nat} {V : World} (h : Marks B Ds V) {D : Nat} (h1 : B ≤ D) (h2 : V.heap[D]? = some (.deferred (some []))) (h3 : D ∉ Ds) : Marks B (D :: Ds) V :=
  ⟨List.nodup_cons.2 ⟨h3, h.one⟩, fun E hE => by
    rcases List.mem_cons.1 hE with rfl | hE
    · exact ⟨h1, h2⟩
    · exact h.at_ E hE⟩
/-- The end of a function that left marks: they are taken, one by one. -/
theorem leavesM_all {F : Fence} {n : Nat} {P : Program} {fn : Func} {tmps : Array Value} {R : Ending → World → Prop} {B : Nat} (Inv : World → Prop) (hInv : ∀ V D, Inv V → B ≤ D → V.heap[D]? = some (.deferred (some [])) → Inv (V.putObj D (.deferred none)))
    (hend : ∀ V, Inv V → LeavesIn F n P fn tmps R [] .returning V) : ∀ (Ds : List Nat) (V : World), Marks B Ds V → Inv V → LeavesInM F n P fn tmps R (Ds.map markD) .returning V
  | [], V, _, h => hend V h
  | D :: Ds, V, hm, h => by
    obtain ⟨h1, h2⟩ := hm.at_ D List.mem_cons_self
    refine ⟨by simp, .inl ⟨D, V.putObj D (.deferred none), rfl, run_takeDeferred h2, ?_⟩⟩
    refine leavesM_all Inv hInv hend Ds _ ⟨(List.nodup_cons.1 hm.one).2, fun E hE => ?_⟩ (hInv V D h h1 h2)
    obtain ⟨h3, h4⟩ := hm.at_ E (List.mem_cons_of_mem _ hE)
    refine ⟨h3, ?_⟩
    rw [World.putObj_heap_other (by rintro rfl; exact (List.nodup_cons.1 hm.one).1 hE)]
    exact h4
theorem infoBR : (Try.prog.info? 4).map (fun i => (i.zero, i.size, i.bytes)) = some (some (.bool false), 1, 1) := by kernel_rfl
theorem results_cellR {fn : Func} {t : Tmp} (h : fn.results = #[.cell t 4]) (tmps : Array Value) (w : World) {B : Nat} {v : Value} (hp : tmps.getD t undef = .pointer (some ⟨B, 0, none⟩)) (hc : w.cell? ⟨B, 0, none⟩ = some v) :
    (results fn tmps).run Try.prog w = .ok v w := by
  obtain ⟨i, hi, _, hs, _⟩ := info_parts infoBR
  have hp' : tmps[t]?.getD undef = .pointer (some ⟨B, 0, none⟩) := by simpa using hp
  simp [results, h, hp', hc, go_sem]
theorem boxed_own {W W' : World} {B : Nat} {t : TypeId} {v : Value} {row : Option Nat} (h : Boxed W B t v) (hg : W.grownBy W' row) (hr : ∀ r, row = some r → ∃ o : Obj, W.heap[r]? = some o ∧ o.isCells = false) : Boxed W' B t v := h.kept hg (fun e => by
  obtain ⟨o, ho, hc⟩ := hr B e.symm
  have h' : W.heap[B]? = some (.cells #[v] t (0, 0)) := h
  rw [h'] at ho
  cases ho
  cases hc)
theorem turns_set (V : World) (b : Nat) (u : Value) : Turns (fun i => i = b) V (V.setCell ⟨b, 0, none⟩ u) := (Turns.refl (fun i => i = b) V).setCell (p := ⟨b, 0, none⟩) (.inl rfl) _
theorem boxed_turned {V V' : World} {F : Nat → Prop} {b : Nat} {t : TypeId} {v : Value} (h : Boxed V b t v) (ht : Turns F V V') (hn : ¬ F b) : Boxed V' b t v := (ht.block _ h.lt hn).trans h
/-- n's box is set. -/
theorem belowJ {w V : World} {D : Nat} (hb : Below w.heap.size w V) (hD : w.heap.size ≤ D) (o : Obj) : Below w.heap.size w (V.putObj D o) := by
  have hT : Turns (fun i => i = D) V (V.putObj D o) := Turns.of_grown (grownBy_putObj' V _ _) (fun j e => by cases e; rfl)
  exact hb.trans (hT.below (fun i hi => by rw [hi]; exact hD) hb.size)
/-- What a round may change. -/
def FoJ (ib l : Nat) (k : Nat) : Prop := k = ib ∨ k = l
def KpJ (ib l : Nat) (A B : World) : Prop := Turns (FoJ ib l) A B
theorem KpJ.refl (ib l : Nat) (A : World) : KpJ ib l A A := Turns.refl _ _
theorem KpJ.trans {ib l : Nat} {A B C : World} (h : KpJ ib l A B) (k : KpJ ib l B C) : KpJ ib l A C := Turns.trans h k (fun _ hi => .inl hi)
theorem KpJ.below {ib l : Nat} {A B : World} (h : Below A.heap.size A B) : KpJ ib l A B := Turns.of_below h (Nat.le_refl _)
theorem wpIn_loop_k {F : Fence} {n : Nat} {P : Program} {Q : Exit → Act → World → Prop} {a : Act} {w : World} {c : Code} (I : Act → World → Prop) (μ : Act → World → Nat) (h₀ : I a w)
    (round : ∀ a w, I a w → ∀ K : Act → World → Prop, (∀ a' w', I a' w' → μ a' w' < μ a w → K a' w') → c.wpIn F n P (Exit.then K Q) a w) : (Code.loop c).wpIn F n P Q a w :=
  wpIn_loop I μ h₀ fun a w h => round a w h _ fun _ _ h1 h2 => ⟨h1, h2⟩

/-- Between two items. -/
structure RnK (X : World) (ib l : Nat) (pr : List Pk) (V : World) : Prop where
  ibx : Boxed V ib 3 (.int .i64 ((pr.length : Nat) : Int))
  kp : KpJ ib l X V
theorem rnK_own (X : World) (ib l : Nat) : OwnFrom X.heap.size (RnK X ib l) := by
  rintro pr V V' row h hg hr
  exact ⟨boxed_own h.ibx hg (fun r e => (hr r e).2), Turns.grown h.kp hg (fun j e => .inr (hr j e).1)⟩
/-- Between two rounds. -/
structure LkS (w V : World) (rb mb rnb r : Nat) (mo : Option Addr) (M mc : Nat) (ys : List Pk) (Ds : List Nat) : Prop where
  bel : Below w.heap.size w V
  res : Boxed V rb 4 (.bool false)
  mbx : Boxed V mb 49 (.slice mo M mc)
  row : HeldPk V mo ys
  rdx : Boxed V rnb 3 (.int .i64 (r : Int))
  mks : Marks w.heap.size Ds V
  rl : w.heap.size ≤ rb
  nl : w.heap.size ≤ rnb
  le : r ≤ 2
section
variable {w V V' : World} {rb mb rnb r : Nat} {mo : Option Addr} {M mc : Nat} {ys : List Pk} {Ds : List Nat}
theorem LkS.below (h : LkS w V rb mb rnb r mo M mc ys Ds) (hb : Below V.heap.size V V') : LkS w V' rb mb rnb r mo M mc ys Ds :=
  ⟨btN h.bel hb, (hb.block _ h.res.lt).trans h.res, (hb.block _ h.mbx.lt).trans h.mbx, h.row.below hb, (hb.block _ h.rdx.lt).trans h.rdx, h.mks.below hb, h.rl, h.nl, h.le⟩
/-- The next round has a number of its own. -/
theorem LkS.next {U W : World} (h : LkS w U rb mb rnb r mo M mc ys Ds) (hr : r < 2) {D : Nat} (hD : w.heap.size ≤ D) (hDef : U.heap[D]? = some (.deferred (some []))) (hnot : D ∉ Ds) (hW : W = U.alloc (.cells #[.int .i64 ((r : Int) + 1)] 3)) : LkS w W rb mb U.heap.size (r + 1) mo M mc ys (D :: Ds) := by
  have hb : Below U.heap.size U W := by rw [hW]; exact (Below.refl _ _).alloc (Nat.le_refl _) _
  have h1 := h.below hb
  have hm : Marks w.heap.size (D :: Ds) W := h1.mks.push hD ((hb.block D (Array.getElem?_eq_some_iff.1 hDef).1).trans hDef) hnot
  refine ⟨h1.bel, h1.res, h1.mbx, h1.row, ?_, hm, h1.rl, h.bel.size, by omega⟩
  have := Boxed.new U 3 (.int .i64 ((r : Int) + 1))
  rw [hW, show (((r + 1 : Nat)) : Int) = (r : Int) + 1 by omega]
  exact this
end
def LkI (w : World) (p x : Nat) (to : Int) (rb mb : Nat) (mo : Option Addr) (M mc : Nat) (ys : List Pk) (a : Act) (V : World) : Prop := ∃ (r : Nat) (Ds : List Nat) (rnb : Nat) (u3 u4 u5 u7 u8 u11 u12 u13 u14 u15 u16 u17 u18 u19 u20 u21 u22 u23 u24 u25 u26 u27 u28 u29 u30 u31 u32 u33 u34 u35 u36 u37 u38 u39 u40 u41 u42 u43 u44 u45 u46 u47 u48 u49 u50 u51 u52 u53 u54 u55 u56 u57 u58 u59 u60 u61 u62 u63 u64 u65 u66 u67 u68 u69 u70 u71 u72 u73 u74 u75 u76 u77 u78 u79 u80 u81 u82 u83 u84 u85 u86 u87 u88 u89 u90 u91 u92 u93 u94 u95 u96 u97 u98 : Value),
  a = { tmps := #[.pointer (some ⟨p, 0, none⟩), .pointer (some ⟨x, 0, none⟩), .int .i64 to, u3, u4, u5, .pointer (some ⟨rb, 0, none⟩), u7, u8, .pointer (some ⟨mb, 0, none⟩), .pointer (some ⟨rnb, 0, none⟩), u11, u12, u13, u14, u15, u16, u17, u18, u19, u20, u21, u22, u23, u24, u25, u26, u27, u28, u29, u30, u31, u32, u33, u34, u35, u36, u37, u38, u39, u40, u41, u42, u43, u44, u45, u46, u47, u48, u49, u50, u51, u52, u53, u54, u55, u56, u57, u58, u59, u60, u61, u62, u63, u64, u65, u66, u67, u68, u69, u70, u71, u72, u73, u74, u75, u76, u77, u78, u79, u80, u81, u82, u83, u84, u85, u86, u87, u88, u89, u90, u91, u92, u93, u94, u95, u96, u97, u98], defers := Ds.map markD } ∧ LkS w V rb mb rnb r mo M mc ys Ds
def LkMu (a : Act) (V : World) : Nat := 2 - (match a.tmps.getD 10 undef with
  | .pointer (some q) => (match V.cell? q with
    | some u => (intOf u).toNat
    | none => 0)
  | _ => 0)
theorem lkMu_eq {a : Act} {V : World} {rnb r : Nat} (h : Boxed V rnb 3 (.int .i64 (r : Int))) (ht : a.tmps.getD 10 undef = .pointer (some ⟨rnb, 0, none⟩)) : LkMu a V = 2 - r := by
  unfold LkMu
  rw [ht]
  simp only [h.cell]
  simp [intOf]
end Go.Proofs.Ytoacfdicjpoohaa
