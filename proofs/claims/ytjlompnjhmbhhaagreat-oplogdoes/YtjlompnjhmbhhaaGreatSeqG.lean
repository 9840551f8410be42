/-
  Package oplog: Waiting, Applied, All.
-/
import Derived.Test.YtjlompnjhmbhhaaGreatLogJb
import Derived.Test.YtjlompnjhmbhhaaGreatVvO
import Derived.RangeFuncNested
namespace Go.Proofs.YtjlompnjhmbhhaaGreat
open Go.RowKit Go.Maps

/-- The dots that wait, in order. -/
def WaitsOf (g : Lg) (ss : List (Int × Int)) : Prop := ss.Nodup ∧ (∀ o s, (o, s) ∈ ss ↔ (g.W o s).isSome = true) ∧ ss.Pairwise (fun x y => cmpD x y < 0)
def WaitP (w : World) (g : Lg) (e : Ending) (w' : World) : Prop := ∃ v ss, e = .returned v ∧ WaitsOf g ss ∧ ss.length ≤ 4096 ∧ w'.ownsRow w.heap.size 25 2 v ss.length (flatD ss) ∧ Below w.heap.size w w'
theorem waiting_nil (w : World) : Calls Tryz.prog 14 #[.pointer none] w fun e w' => e = .returned (.slice none 0 0) ∧ w' = w := by
  go_enter Tryz.func14, Tryz.ntmps14
  go_wp2_with fail
  refine (closedL_nil _).mono ?_
  rintro e w' ⟨rfl, rfl⟩
  go_wp2
  go_ret
  exact ⟨rfl, rfl⟩
theorem waiting_any {w : World} {p me mw : Nat} {g : Lg} (h : LogAt w p me mw g) : Calls Tryz.prog 14 #[.pointer (some ⟨p, 0, none⟩)] w (WaitP w g) := by
  obtain ⟨ao, cap, _, _, _, c2⟩ := h.cells
  obtain ⟨D, hD⟩ := h.wm
  have HD := hid hD
  have HFW := hid h.fewW
  have HB : Hid (Below w.heap.size w (w.alloc (.cells #[.map (some mw)] 41))) := (Below.refl _ _).alloc (Nat.le_refl _) _
  have HS := hid (sortedLog (w.alloc (.cells #[.map (some mw)] 41)) w.heap.size mw g.nw D (Boxed.new w 41 _).cell (hD.map.alloc _) (by have := hD.cnt; have := h.fewW; omega))
  have HCL := hid (closedL_no h)
  clear h hD
  go_enter Tryz.func14, Tryz.ntmps14
  go_wp2_with fail
  refine HCL.out.mono ?_
  rintro e w' ⟨rfl, rfl⟩
  go_wp2_with fail
  refine (keysLog_any _ _).mono ?_
  rintro e w1 ⟨rfl, rfl⟩
  go_wp2_with fail
  refine HS.out.mono ?_
  rintro e w2 ⟨v, ss, rfl, h1, h2, h3, h4⟩
  have H1 := hid h1
  have H2 : Hid (ss.length ≤ 4096) := by have := HD.out.cnt; have := HFW.out; show _ ≤ _; omega
  have H3 : Hid (w2.ownsRow w'.heap.size 25 2 v ss.length (flatD ss)) := own_mono h3 HB.out.size
  have H4 := hid (bt HB.out h4)
  clear h1 h2 h3 h4
  go_wp2
  go_ret
  refine ⟨v, ss, rfl, ⟨H1.out.1.1, fun o s => ?_, H1.out.2⟩, H2.out, H3.out, H4.out⟩
  rw [H1.out.1.2]
  constructor
  · rintro ⟨ho, hs, hl⟩
    rw [HD.out.key o s ho hs] at hl
    simpa using hl
  · intro hl
    obtain ⟨x, hx⟩ := Option.isSome_iff_exists.1 hl
    obtain ⟨hk, h5, h6⟩ := HD.out.ok o s x hx
    have ho : I64 o := h5 ▸ hk.ok.io
    have hs : I64 s := h6 ▸ hk.ok.is
    refine ⟨ho, hs, ?_⟩
    rw [HD.out.key o s ho hs]
    simpa using hl
theorem applied_nil (w : World) : Calls Tryz.prog 15 #[.pointer none] w fun e w' => e = .returned (.slice none 0 0) ∧ w' = w := by
  go_enter Tryz.func15, Tryz.ntmps15
  go_wp2_with fail
  refine (closedL_nil _).mono ?_
  rintro e w' ⟨rfl, rfl⟩
  go_wp2
  go_ret
  exact ⟨rfl, rfl⟩
theorem applied_any {w : World} {p me mw : Nat} {g : Lg} (h : LogAt w p me mw g) : Calls Tryz.prog 15 #[.pointer (some ⟨p, 0, none⟩)] w (AnsV w (plainOf g.A)) := by
  obtain ⟨ao, cap, hv, c0, _, _⟩ := h.cells
  have HP := hid (plain_any w ao cap g.A g.A.length rfl hv)
  have HCL := hid (closedL_no h)
  obtain ⟨L, HL⟩ : ∃ L, Hid (g.A.length = L) := ⟨_, hid rfl⟩
  rw [HL.out] at c0 HP
  clear h hv
  go_enter Tryz.func15, Tryz.ntmps15
  go_wp2_with fail
  refine HCL.out.mono ?_
  rintro e w' ⟨rfl, rfl⟩
  go_wp2_with fail
  refine HP.out.mono ?_
  rintro e w1 ⟨bo, cp, rfl, h1, h2⟩
  have H1 := hid h1
  have H2 := hid h2
  obtain ⟨M, HM⟩ : ∃ L, Hid ((plainOf g.A).length = L) := ⟨_, hid rfl⟩
  rw [HM.out]
  clear h1 h2
  go_wp2
  go_ret
  exact ⟨bo, cp, by rw [HM.out]; rfl, H1.out, H2.out⟩
theorem all_any (w : World) (q : Option Addr) : Calls Tryz.prog 13 #[.pointer q] w fun e w' => e = .returned (.func (.func 61) #[] #[.pointer (some ⟨w.heap.size, 0, none⟩), .pointer (some ⟨w.heap.size + 1, 0, none⟩)]) ∧ w' = (w.alloc (.cells #[.pointer q] 26)).alloc (.cells #[.slice none 0 0] 23) := by
  have HS : Hid (Calls Tryz.prog 39 #[.pointer q, .slice none 0 0] w fun e w' => e = .returned (.func (.func 61) #[] #[.pointer (some ⟨w.heap.size, 0, none⟩), .pointer (some ⟨w.heap.size + 1, 0, none⟩)]) ∧ w' = (w.alloc (.cells #[.pointer q] 26)).alloc (.cells #[.slice none 0 0] 23)) := by
    show Calls _ _ _ _ _
    go_enter Tryz.func39, Tryz.ntmps39
    go_wp2
    go_ret
    exact ⟨rfl, rfl⟩
  go_enter Tryz.func13, Tryz.ntmps13
  go_wp2_with fail
  refine HS.out.mono ?_
  rintro e w' ⟨rfl, rfl⟩
  go_wp2
  go_ret
  exact ⟨rfl, rfl⟩
end Go.Proofs.YtjlompnjhmbhhaaGreat
/-
  Package oplog: the calls of a nil log; a range over an iterator that yields nothing.
-/
namespace Go.Proofs.YtjlompnjhmbhhaaGreat
open Go.RowKit Go.Shelf Go.Maps
attribute [local go_sem] Oper.semAt_some

/-- What yields nothing. -/
def noEncs : Empty → Array Value := fun x => nomatch x
/-- A range over an iterator that yields nothing. -/
theorem wpIn_rangeFunc_no {F : Fence} {n : Nat} {P : Program} {g : Operand} {ps : Array Tmp} {assign body : Code} {Q : Exit → Act → World → Prop} {a : Act} {w : World}
    (hro : F.round = none) (h1 : 1 ≤ n) {gf : Nat} {lb : Array Value} (hg : a.eval g = .func (.func gf) #[] lb) (hFg : F.fn gf) (eg : ∀ args w, (callFunc gf args).run P w = .ok (.enter gf args) w)
    {Sp : List Empty → Prop} (hseq : SeqStopsK F (n - 1) P gf lb noEncs KeepsWalks (fun ys => ys = []) Sp 0 w)
    (hafter : ∀ (D : Nat) (W : World), w.heap.size ≤ D → Below w.heap.size w W → W.heap[D]? = some (.deferred (some [])) → Q .normal { a with defers := { target := .collected D, args := #[] } :: a.defers } W) :
    (Code.rangeFunc g ps assign body).wpIn F n P Q a w :=
  wpIn_rangeFunc_ownG hro h1 hg hFg eg hseq (fun h k => walksK_t h k) (fun W l o o' hl ho hc hw => walksK_b (w := w) W l o o' hl ho hc hw) (Below.refl _ _) (fun x => nomatch x) (fun _ W => Below w.heap.size w W) (fun _ _ _ => False)
    (ownFrom_below (Nat.le_refl _) (Nat.le_refl _)) (fun _ _ _ _ _ h _ _ => h) (Below.refl _ _) (fun x => nomatch x) (fun _ x => nomatch x) (fun _ _ x => nomatch x) (fun D _ W hD _ hI hd => hafter D W hD hI hd) (fun _ _ _ _ _ _ h _ => h.elim)

theorem forkL_nil (w : World) : Calls Tryz.prog 11 #[.pointer none] w fun e w' => e = .returned (.pointer none) ∧ w' = w := by
  go_enter Tryz.func11, Tryz.ntmps11
  go_wp2_with fail
  refine (closedL_nil _).mono ?_
  rintro e w' ⟨rfl, rfl⟩
  go_wp2
  go_ret
  exact ⟨rfl, rfl⟩
theorem since_any (w : World) (q : Option Addr) (vo : Option Addr) (vl vc : Nat) : Calls Tryz.prog 39 #[.pointer q, .slice vo vl vc] w fun e w' => e = .returned (.func (.func 61) #[] #[.pointer (some ⟨w.heap.size, 0, none⟩), .pointer (some ⟨w.heap.size + 1, 0, none⟩)]) ∧ w' = (w.alloc (.cells #[.pointer q] 26)).alloc (.cells #[.slice vo vl vc] 23) := by
  go_enter Tryz.func39, Tryz.ntmps39
  go_wp2
  go_ret
  exact ⟨rfl, rfl⟩
theorem since_boxes (w : World) (q : Option Addr) (v : Value) {W : World} (hW : W = (w.alloc (.cells #[.pointer q] 26)).alloc (.cells #[v] 23)) : Boxed W w.heap.size 26 (.pointer q) ∧ Below w.heap.size w W := by
  subst hW
  exact ⟨(Boxed.new w 26 (.pointer q)).alloc _, ((Below.refl _ w).alloc (Nat.le_refl _) _).alloc (by simp) _⟩
set_option maxRecDepth 100000 in
theorem since_nil_seq (n : Nat) (hn : 1 ≤ n) (q0 q1 : Nat) (V : World) (h0 : Boxed V q0 26 (.pointer none)) :
    SeqStopsK Fence.wide n Tryz.prog 61 #[.pointer (some ⟨q0, 0, none⟩), .pointer (some ⟨q1, 0, none⟩)] noEncs KeepsWalks (fun ys => ys = []) (fun _ => True) 0 V := by
  intro l J Jx W hW hJ hJx hY hj
  have hb0 : Boxed W q0 26 (.pointer none) := (hW.block _ h0.lt).trans h0
  have hb0' := hb0.alloc (.cells #[.func (.yield l) #[] #[]] 38)
  have hc0 := hb0'.cell
  have HB : Hid (Below W.heap.size W (W.alloc (.cells #[.func (.yield l) #[] #[]] 38))) := (Below.refl _ _).alloc (Nat.le_refl _) _
  have HJ := hid hJ
  clear hW hJx hY hb0 hb0' h0 hJ
  change CallsIn Fence.wide n Tryz.prog 61 #[.func (.yield l) #[] #[], .pointer (some ⟨q0, 0, none⟩), .pointer (some ⟨q1, 0, none⟩)] W _
  refine callsIn_of_wp Tryz.func61 rfl trivial ?_ rfl
  simp only [Tryz.ntmps61, List.size_toArray, List.length_cons, List.length_nil, Nat.reduceAdd, Nat.reduceSub, Array.replicate_succ, Array.replicate_zero, List.push_toArray, List.append_toArray, List.nil_append, List.cons_append]
  gi_wp2_with fail
  refine ⟨trivial, (callsIn_wide.2 (closedL_nil _)).mono ?_⟩
  rintro e w2 ⟨rfl, rfl⟩
  have HJ2 := hid (HJ.out [] W _ none hj ⟨HB.out.os, HB.out.tape, HB.out.output, HB.out.size, fun k hk _ => HB.out.block k hk⟩ (fun r e => by cases e))
  gi_wp2
  refine bodyPost_ret (results_none rfl _ _ _) rfl ?_
  exact ⟨⟨_, rfl⟩, .inl ⟨[], rfl, HJ2.out⟩⟩
theorem getL_nil (w : World) (o s : Int) : Calls Tryz.prog 37 #[.pointer none, .agg #[.int .i64 o, .int .i64 s]] w fun e w' => e = .returned (.tuple #[zeroV, .bool false]) ∧ Below w.heap.size w w' := by
  obtain ⟨W, hW⟩ : ∃ W, W = (w.alloc (.cells #[.int .i64 o, .int .i64 s] 25)).alloc (.cells #[.int .i64 0, .int .i64 0, .slice none 0 0, .string ⟨#[]⟩, .int .i64 0, .string ⟨#[]⟩, .int .i64 0, .bool false] 33) := ⟨_, rfl⟩
  have HB : Hid (Below w.heap.size w W) := by rw [hW]; exact ((Below.refl _ _).alloc (Nat.le_refl _) _).alloc (by simp) _
  have HK : Hid (Blk W (w.heap.size + 1) 33 [.int .i64 0, .int .i64 0, .slice none 0 0, .string ⟨#[]⟩, .int .i64 0, .string ⟨#[]⟩, .int .i64 0, .bool false]) := by
    have := Blk.new (w.alloc (.cells #[.int .i64 o, .int .i64 s] 25)) 33 [.int .i64 0, .int .i64 0, .slice none 0 0, .string ⟨#[]⟩, .int .i64 0, .string ⟨#[]⟩, .int .i64 0, .bool false]
    rw [World.size_alloc] at this
    rw [hW]
    exact this
  have HW := hid hW
  obtain ⟨r, hr⟩ : ∃ r, r = w.heap.size + 1 := ⟨_, rfl⟩
  have HRR := hid hr
  rw [← hr] at HK
  have k0 := HK.out.cell (i := 0) rfl
  have k1 := HK.out.cell (i := 1) rfl
  have k2 := HK.out.cell (i := 2) rfl
  have k3 := HK.out.cell (i := 3) rfl
  have k4 := HK.out.cell (i := 4) rfl
  have k5 := HK.out.cell (i := 5) rfl
  have k6 := HK.out.cell (i := 6) rfl
  have k7 := HK.out.cell (i := 7) rfl
  have f0 := HK.out.frozen 0
  have f1 := HK.out.frozen 1
  have f2 := HK.out.frozen 2
  have f3 := HK.out.frozen 3
  have f4 := HK.out.frozen 4
  have f5 := HK.out.frozen 5
  have f6 := HK.out.frozen 6
  have f7 := HK.out.frozen 7
  clear hW hr
  obtain ⟨W3, hW3⟩ : ∃ V, V = st8 W r (.int .i64 0) (.int .i64 0) (.slice none 0 0) (.string ⟨#[]⟩) (.int .i64 0) (.string ⟨#[]⟩) (.int .i64 0) (.bool false) := ⟨_, rfl⟩
  have hk9 : Blk W3 r 33 [.int .i64 0, .int .i64 0, .slice none 0 0, .string ⟨#[]⟩, .int .i64 0, .string ⟨#[]⟩, .int .i64 0, .bool false] := by rw [hW3]; exact st8_blk HK.out _ _ _ _ _ _ _ _
  have HBF : Hid (Below w.heap.size w W3) := by rw [hW3]; exact HB.out.trans ((st8_turns _ _ _ _ _ _ _ _ _ _).below (fun i hi => by rw [hi, HRR.out]; exact Nat.le_succ _) HB.out.size)
  have q0 := hk9.cell (i := 0) rfl
  have q1 := hk9.cell (i := 1) rfl
  have q2 := hk9.cell (i := 2) rfl
  have q3 := hk9.cell (i := 3) rfl
  have q4 := hk9.cell (i := 4) rfl
  have q5 := hk9.cell (i := 5) rfl
  have q6 := hk9.cell (i := 6) rfl
  have q7 := hk9.cell (i := 7) rfl
  unfold st8 at hW3
  clear hk9
  go_enter Tryz.func37, Tryz.ntmps37
  go_wp2_with fail
  rw [← HW.out, ← HRR.out]
  refine (closedL_nil _).mono ?_
  rintro e w' ⟨rfl, rfl⟩
  go_wp2
  rw [← hW3]
  (try simp only [Exit.inBlock, Exit.then])
  refine bodyPost_ret (v := .tuple #[zeroV, .bool false]) ?_ rfl ⟨rfl, HBF.out⟩
  rw [results_cell_tmp rfl]
  unfold zeroV
  go_simp
set_option maxRecDepth 100000 in
theorem after_nil (w : World) (vo : Option Addr) (vl vc : Nat) (m : Int) : Calls Tryz.prog 34 #[.pointer none, .slice vo vl vc, .int .i64 m] w fun e w' => e = .returned (.slice none 0 0) ∧ Below w.heap.size w w' := by
  refine (callsIn_wide (n := 5)).1 ?_
  obtain ⟨W0, hW0⟩ : ∃ W0, W0 = (w.alloc (.cells #[.int .i64 m] 3)).alloc (.cells #[.slice none 0 0] 22) := ⟨_, rfl⟩
  have HA : Hid (Below w.heap.size w W0) := by rw [hW0]; exact ((Below.refl _ w).alloc (Nat.le_refl _) _).alloc (by simp) _
  have HR : Hid (Boxed W0 (w.heap.size + 1) 22 (.slice none 0 0)) := by
    have := Boxed.new (w.alloc (.cells #[.int .i64 m] 3)) 22 (.slice none 0 0)
    rw [World.size_alloc] at this
    rw [hW0]
    exact this
  refine callsIn_of_wp_marks Tryz.func34 rfl trivial ?_ rfl
  simp only [Tryz.ntmps34, List.size_toArray, List.length_cons, List.length_nil, Nat.reduceAdd, Nat.reduceSub, Array.replicate_succ, Array.replicate_zero, List.push_toArray, List.append_toArray, List.nil_append, List.cons_append]
  gi_wp2_with fail
  rw [← hW0]
  clear hW0
  refine ⟨trivial, (callsIn_wide.2 (since_any W0 none vo vl vc)).mono ?_⟩
  rintro e w1 ⟨rfl, hw1⟩
  obtain ⟨hx, hb⟩ := since_boxes _ _ _ hw1
  have HA1 := hid (bt HA.out hb)
  have HR1 : Hid (Boxed w1 (w.heap.size + 1) 22 (.slice none 0 0)) := (hb.block _ HR.out.lt).trans HR.out
  have hseq := since_nil_seq 4 (by omega) W0.heap.size (W0.heap.size + 1) w1 hx
  clear hw1 hb hx HA HR
  gi_wp2
  refine wpIn_rangeFunc_no rfl (by omega) (gf := 61) (lb := #[.pointer (some ⟨W0.heap.size, 0, none⟩), .pointer (some ⟨W0.heap.size + 1, 0, none⟩)]) rfl trivial (enters_of Tryz.func61 (by kernel_rfl) rfl) hseq ?_
  intro D0 w4 hD0 hb hDef
  have HA4 := hid (bt HA1.out hb)
  have HR4 : Hid (Boxed w4 (w.heap.size + 1) 22 (.slice none 0 0)) := (hb.block _ HR1.out.lt).trans HR1.out
  have HDef := hid hDef
  have HDR : Hid (w.heap.size + 1 < D0) := (by have := HR1.out.lt; omega : w.heap.size + 1 < D0)
  have hcb := HR4.out.cell
  clear hb hDef hseq HA1 HR1
  gi_wp2
  refine ⟨by simp, .inl ⟨_, _, rfl, run_takeDeferred HDef.out, ?_⟩⟩
  exact ⟨_, results_tmp rfl _ _ _, rfl, HA4.out.trans (belowK_b (w := w) (Nat.le_refl _) _ D0 _ _ (by have := HDR.out; omega) HDef.out rfl rfl)⟩
end Go.Proofs.YtjlompnjhmbhhaaGreat
/-
  A range over an iterator that yields what it has just made: a round is told, in the world where it begins, what is known of the item ('G').
-/
namespace Go.Proofs.YtjlompnjhmbhhaaGreat
open Go.RowKit Go.Shelf Go.Maps

/-- The iterator's contract at the world where it is called: each item comes with a word about it ('G'); what a round keeps is Kp. Ahead of the first round, and between two, the iterator lays blocks and turns such of its own as hold no cells (a walk, the record of a loop of its own). -/
def SeqAt {α : Type} (F : Fence) (n : Nat) (P : Program) (l g : Nat) (lb : Array Value) (encs : α → Array Value) (Kp : World → World → Prop) (G : List α → α → World → Prop) (S Sp : List α → Prop) (W : World) : Prop :=
  ∀ (J Jx : List α → World → Prop), OwnFrom W.heap.size J → OwnFrom W.heap.size Jx →
    (∀ pre x V, J pre V → G pre x V → YieldAt F (n - 1) P l (encs x) V fun e V' =>
      (e = .returned (.bool true) ∧ J (pre ++ [x]) V' ∧ Kp V V') ∨ (e = .returned (.bool false) ∧ Jx (pre ++ [x]) V' ∧ Kp V V')) →
    J [] W →
    CallsIn F n P g (#[.func (.yield l) #[] #[]] ++ lb) W fun e V' => (∃ v, e = .returned v) ∧ ((∃ xs, S xs ∧ J xs V') ∨ (∃ pre, Sp pre ∧ Jx pre V'))

variable {F : Fence} {n : Nat} {P : Program} {α : Type}

/-- How a loop's record and its block for deferred calls lie. -/
structure Kept (B : Nat) (r : Loop) (V : World) : Prop where
  loop : V.heap[B + 1]? = some (.loop r)
  calls : V.heap[B]? = some (.deferred (some []))
theorem Kept.lt {B : Nat} {r : Loop} {V : World} (h : Kept B r V) : B + 1 < V.heap.size := (Array.getElem?_eq_some_iff.1 h.loop).1
theorem Kept.grown {B : Nat} {r : Loop} {V V' : World} {row : Option Nat} (h : Kept B r V) (hg : V.grownBy V' row) (hr : ∀ k, row = some k → B + 2 ≤ k) : Kept B r V' :=
  ⟨(hg.block _ h.lt (fun e => by have := hr _ e.symm; omega)).trans h.loop, (hg.block _ (by have := h.lt; omega) (fun e => by have := hr _ e.symm; omega)).trans h.calls⟩
/-- The loop's two blocks stay. -/
def KeptAs (B : Nat) (V V' : World) : Prop := V'.heap[B + 1]? = V.heap[B + 1]? ∧ V'.heap[B]? = V.heap[B]?
theorem KeptAs.refl (B : Nat) (V : World) : KeptAs B V V := ⟨rfl, rfl⟩
theorem KeptAs.trans {B : Nat} {V V' V'' : World} (h : KeptAs B V V') (k : KeptAs B V' V'') : KeptAs B V V'' := ⟨k.1.trans h.1, k.2.trans h.2⟩
theorem KeptAs.turns {F' : Nat → Prop} {B : Nat} {V V' : World} (h : Turns F' V V') (hB : B + 1 < V.heap.size) (h0 : ¬ F' B) (h1 : ¬ F' (B + 1)) : KeptAs B V V' := ⟨h.block _ hB h1, h.block _ (by omega) h0⟩
theorem Kept.from {B : Nat} {r : Loop} {V V' : World} (h : Kept B r V) (hk : KeptAs B V V') : Kept B r V' := ⟨hk.1.trans h.loop, hk.2.trans h.calls⟩
/-- What a round leaves, by its ways out. -/
def roundG {α : Type} (B : Nat) (Kp : World → World → Prop) (I : List α → World → Prop) (Ix : Code → List α → World → Prop) (xs : List α) (V : World) : Exit → Act → World → Prop
  | .normal, _, V' => KeptAs B V V' ∧ Kp V V' ∧ I xs V'
  | .ret, _, V' => KeptAs B V V' ∧ Kp V V' ∧ Ix .ret xs V'
  | .exit id, _, V' => KeptAs B V V' ∧ Kp V V' ∧ Ix (.exit id) xs V'
  | .goto t, _, V' => KeptAs B V V' ∧ Kp V V' ∧ Ix (.goto t) xs V'
  | .panic _, _, _ => False
  | .outgrown, _, _ => False
theorem Kept.turn {B : Nat} {r : Loop} {V : World} (h : Kept B r V) (r' : Loop) : Kept B r' (V.putObj (B + 1) (.loop r')) :=
  ⟨World.putObj_heap_same h.lt, (World.putObj_heap_other (by omega)).trans h.calls⟩

theorem wpIn_rangeFunc_G {g : Operand} {ps : Array Tmp} {assign body : Code} {Q : Exit → Act → World → Prop} {a : Act} {w : World}
    (hro : F.round = none) (h1 : 1 ≤ n) {gf : Nat} {lb : Array Value} (hg : a.eval g = .func (.func gf) #[] lb) (hFg : F.fn gf) (eg : ∀ args w, (callFunc gf args).run P w = .ok (.enter gf args) w)
    {encs : α → Array Value} {Kp : World → World → Prop} {G : List α → α → World → Prop} {S Sp : List α → Prop} (hseq : ∀ r, SeqAt F (n - 1) P (w.heap.size + 1) gf lb encs Kp G S Sp ((w.alloc (.deferred (some []))).alloc (.loop r)))
    (hKt : ∀ {A B C : World}, Kp A B → Kp B C → Kp A C) (hKb : ∀ (V : World) (r r' : Loop), V.heap[w.heap.size + 1]? = some (.loop r) → Kp V (V.putObj (w.heap.size + 1) (.loop r'))) (hps : ∀ x, (encs x).size = ps.size)
    (I : List α → World → Prop) (Ix : Code → List α → World → Prop) (hI : OwnFrom w.heap.size I) (hIx : ∀ c, OwnFrom w.heap.size (Ix c)) (h0 : I [] w) (Ax : List α → α → Act → World → Prop) (hAx : ∀ pre x a', OwnFrom w.heap.size (fun (_ : Unit) V => Ax pre x a' V))
    (hassign : ∀ (l : Nat) (pre : List α) (x : α) (V : World) (K : Act → World → Prop), w.heap.size + 1 < V.heap.size → I pre V → G pre x V → (∀ a' V', KeptAs w.heap.size V V' → Kp V V' → I pre V' → Ax pre x a' V' → K a' V') →
      assign.wpIn (F.inRound l) (n - 1 - 1) P (Exit.then K (fun _ _ _ => False)) { tmps := (ps.zip (encs x)).foldl (fun t (p, v) => t.setIfInBounds p v) a.tmps, defers := [] } V)
    (hbody : ∀ (l : Nat) (pre : List α) (x : α) (a' : Act) (V : World), l = w.heap.size + 1 → (∃ r, Kept w.heap.size r V) → I pre V → Ax pre x a' V → body.wpIn (F.inRound l) (n - 1 - 1) P (roundG w.heap.size Kp I Ix (pre ++ [x]) V) a' V)
    (hdone : ∀ (D : Nat) (xs : List α) (V : World), w.heap.size ≤ D → S xs → I xs V → V.heap[D]? = some (.deferred (some [])) → Q .normal { a with defers := { target := .collected D, args := #[] } :: a.defers } V)
    (hstop : ∀ (D : Nat) (c : Code) (pre : List α) (V : World), w.heap.size ≤ D → Sp pre → Ix c pre V → V.heap[D]? = some (.deferred (some [])) → c.wpIn F n P Q { a with defers := { target := .collected D, args := #[] } :: a.defers } V) :
    (Code.rangeFunc g ps assign body).wpIn F n P Q a w := by
  refine wpIn_rangeFunc fun fn hfn => ?_
  rw [hro]
  obtain ⟨B, hB⟩ : ∃ B, B = w.heap.size := ⟨_, rfl⟩
  obtain ⟨R, hR⟩ : ∃ R : LoopState → Option Code → Loop, R = fun st pe => { state := st, pending := pe, fn, tmps := a.tmps, params := ps, assign, body, defers := B } := ⟨_, rfl⟩
  obtain ⟨W1, hW1⟩ : ∃ W1, W1 = (w.alloc (.deferred (some []))).alloc (.loop (R .ready none)) := ⟨_, rfl⟩
  have hk1 : Kept B (R .ready none) W1 := by
    subst hB hW1
    refine ⟨?_, (Below.heap_alloc _ _ _ (by simp)).trans (World.alloc_heap_new w _)⟩
    have := World.alloc_heap_new (w.alloc (.deferred (some []))) (.loop (R .ready none))
    rwa [World.size_alloc] at this
  have hI1 : I [] W1 := by rw [hW1]; exact hI.alloc _ (hI.alloc _ h0)
  have hs1 : W1.heap.size = B + 2 := by rw [hW1, hB]; simp
  refine ⟨B + 1, [{ target := .collected B, args := #[] }], W1, { target := .fn (.func gf) lb, args := #[.func (.yield (B + 1)) #[] #[]] }, W1, gf, #[.func (.yield (B + 1)) #[] #[]] ++ lb, W1, ?_, ?_, ?_, ?_, fun _ => h1, ?_⟩
  · rw [hW1, hR, hB]; exact run_enterLoop_outer _ _ _ _ _
  · simp only [resolve, hg]
    simp [go_sem]
  · intro f' hf'
    simp [Target.leads] at hf'
    subst hf'
    exact hFg
  · simp [invoke, go_sem, eg]
  rw [← hB] at hI hIx hAx hassign hbody hdone hstop hKb hseq
  have hseq1 : SeqAt F (n - 1) P (B + 1) gf lb encs Kp G S Sp W1 := by rw [hW1]; exact hseq _
  refine (hseq1 (fun pre V => I pre V ∧ Kept B (R .ready none) V) (fun pre V => ∃ c, Ix c pre V ∧ Kept B (R .done (some c)) V) ?_ ?_ ?_ ⟨hI1, hk1⟩).mono ?_
  · rintro s V V' row ⟨hi, hk⟩ hg' hr
    exact ⟨hI s V V' row hi hg' (fun r e => ⟨by have := (hr r e).1; omega, (hr r e).2⟩), hk.grown hg' (fun r e => by have := (hr r e).1; omega)⟩
  · rintro s V V' row ⟨c, hi, hk⟩ hg' hr
    exact ⟨c, hIx c s V V' row hi hg' (fun r e => ⟨by have := (hr r e).1; omega, (hr r e).2⟩), hk.grown hg' (fun r e => by have := (hr r e).1; omega)⟩
  · rintro pre x V ⟨hi, hk⟩ hG
    have hy := run_yield (P := P) (args := encs x) hk.loop (by rw [hR]; exact hps x)
    rw [hR] at hy
    refine ⟨fn, _, assign, body, hy, roundIn_of_wpIn hfn (hassign _ pre x V _ hk.lt hi hG ?_)⟩
    clear hy
    intro a' Va hka hkp hia hax
    have hk2 := hk.from hka
    refine ⟨_, run_beginRound hk2.loop (by rw [hR]), ?_⟩
    obtain ⟨U, hU⟩ : ∃ U, U = Va.putObj (B + 1) (.loop { R .ready none with state := .busy }) := ⟨_, rfl⟩
    have hk3 : Kept B { R .ready none with state := .busy } U := by rw [hU]; exact hk2.turn _
    have hkU : Kp V U := hKt hkp (by rw [hU]; exact hKb _ _ _ hk2.loop)
    rw [← hU]
    refine wpIn_mono (hbody _ pre x a' U rfl ⟨_, hk3⟩ (by rw [hU]; exact hI.putObj _ hia (by omega) hk2.loop rfl) (by rw [hU]; exact (hAx pre x a').putObj (s := ()) _ hax (by omega) hk2.loop rfl)) ?_
    have fin : ∀ (jump : Option Code) (V3 : World), KeptAs B U V3 → (Instr.endRound (B + 1) jump).run P V3 = .ok (.bool jump.isNone) (V3.putObj (B + 1) (.loop (R (if jump.isNone then .ready else .done) jump))) ∧ Kept B { R .ready none with state := .busy } V3 := fun jump V3 h3 => by
      have h4 := hk3.from h3
      have h5 := run_endRound (P := P) jump h4.loop
      rw [hR] at h5 h4 ⊢
      exact ⟨h5, h4⟩
    intro e a3 V3 hp
    cases e with
    | normal =>
      obtain ⟨h3, hkp3, hi3⟩ := hp
      obtain ⟨hr, h4⟩ := fin none V3 h3
      exact ⟨_, _, hr, .inl ⟨rfl, ⟨hI.putObj _ hi3 (by omega) h4.loop rfl, h4.turn _⟩, hKt (hKt hkU hkp3) (hKb _ _ _ h4.loop)⟩⟩
    | ret =>
      obtain ⟨h3, hkp3, hi3⟩ := hp
      obtain ⟨hr, h4⟩ := fin (some .ret) V3 h3
      exact ⟨_, _, hr, .inr ⟨rfl, ⟨.ret, (hIx _).putObj _ hi3 (by omega) h4.loop rfl, h4.turn _⟩, hKt (hKt hkU hkp3) (hKb _ _ _ h4.loop)⟩⟩
    | exit id =>
      obtain ⟨h3, hkp3, hi3⟩ := hp
      obtain ⟨hr, h4⟩ := fin (some (.exit id)) V3 h3
      exact ⟨_, _, hr, .inr ⟨rfl, ⟨.exit id, (hIx _).putObj _ hi3 (by omega) h4.loop rfl, h4.turn _⟩, hKt (hKt hkU hkp3) (hKb _ _ _ h4.loop)⟩⟩
    | goto t =>
      obtain ⟨h3, hkp3, hi3⟩ := hp
      obtain ⟨hr, h4⟩ := fin (some (.goto t)) V3 h3
      exact ⟨_, _, hr, .inr ⟨rfl, ⟨.goto t, (hIx _).putObj _ hi3 (by omega) h4.loop rfl, h4.turn _⟩, hKt (hKt hkU hkp3) (hKb _ _ _ h4.loop)⟩⟩
    | panic ch => exact hp.elim
    | outgrown => exact hp.elim
  · rintro e V2 ⟨⟨v, rfl⟩, (⟨xs, hS, hi, hk⟩ | ⟨pre, hSp, c, hi, hk⟩)⟩
    · have hr := run_endLoop (P := P) hk.loop (by rw [hR]; simp)
      rw [hR] at hr
      exact ⟨none, _, hr, hdone _ xs _ (Nat.le_refl _) hS (hI.putObj _ hi (by omega) hk.loop rfl) ((World.putObj_heap_other (by omega)).trans hk.calls)⟩
    · have hr := run_endLoop (P := P) hk.loop (by rw [hR]; simp)
      rw [hR] at hr
      exact ⟨some c, _, hr, hstop _ c pre _ (Nat.le_refl _) hSp ((hIx c).putObj _ hi (by omega) hk.loop rfl) ((World.putObj_heap_other (by omega)).trans hk.calls)⟩
end Go.Proofs.YtjlompnjhmbhhaaGreat
