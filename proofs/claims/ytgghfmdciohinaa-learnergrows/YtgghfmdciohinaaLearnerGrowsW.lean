/-
  LearnerGrows: the walk.
-/
import Derived.Test.YtgghfmdciohinaaSaE
import Derived.Test.YtgghfmdciohinaaLrJ
import Derived.Test.YtgghfmdciohinaaNums
namespace Go.Proofs.Ytgghfmdciohinaa
open Go.RowKit Go.Shelf Go.Maps
attribute [local go_sem] Oper.semAt_some

theorem wpIn_loop_k {F : Fence} {n : Nat} {P : Program} {Q : Exit → Act → World → Prop} {a : Act} {w : World} {c : Code} (I : Act → World → Prop) (μ : Act → World → Nat) (h₀ : I a w)
    (round : ∀ a w, I a w → ∀ K : Act → World → Prop, (∀ a' w', I a' w' → μ a' w' < μ a w → K a' w') → c.wpIn F n P (Exit.then K Q) a w) : (Code.loop c).wpIn F n P Q a w :=
  wpIn_loop I μ h₀ fun a w h => round a w h _ fun _ _ h1 h2 => ⟨h1, h2⟩
/-- Between two entries. -/
structure GrS (w V : World) (rb hb p m n i : Nat) (Ds : List Nat) (g : Lr) (H : List EnM) (eo : Option Addr) (cap : Nat) : Prop where
  gr : GrB w V rb hb Ds H eo cap
  lr : ∃ z, LrAt V p m H.length z g
  fit : FitH g H
  foot : ∀ x, FootR p m x → w.heap.size ≤ x
  le : i ≤ n
  few : i ≤ 2000
def GrI (w : World) (lo : Option Addr) (n lc rb hb p m : Nat) (a : Act) (V : World) : Prop := ∃ (i : Nat) (Ds : List Nat) (g : Lr) (H : List EnM) (eo : Option Addr) (cap : Nat) (u1 u6 u7 u8 u9 u10 u11 u12 u13 u14 u15 u16 u17 u18 u19 u20 u21 u22 u23 u24 u25 u26 u27 u28 u29 u30 u31 u32 u33 u34 u35 u36 u37 u38 u39 u40 u41 u42 u43 u44 u45 u46 u47 u48 u49 u50 u51 u52 u53 u54 u55 u56 u57 u58 u59 u60 u61 u62 u63 u64 u65 u66 u67 u68 u69 u70 u71 u72 u73 u74 u75 u76 u77 u78 u79 u80 u81 u82 : Value),
  a = { tmps := #[.slice lo n lc, u1, .pointer (some ⟨rb, 0, none⟩), .pointer (some ⟨p, 0, none⟩), .pointer (some ⟨hb, 0, none⟩), .int .i64 (i : Int), u6, u7, u8, u9, u10, u11, u12, u13, u14, u15, u16, u17, u18, u19, u20, u21, u22, u23, u24, u25, u26, u27, u28, u29, u30, u31, u32, u33, u34, u35, u36, u37, u38, u39, u40, u41, u42, u43, u44, u45, u46, u47, u48, u49, u50, u51, u52, u53, u54, u55, u56, u57, u58, u59, u60, u61, u62, u63, u64, u65, u66, u67, u68, u69, u70, u71, u72, u73, u74, u75, u76, u77, u78, u79, u80, u81, u82], defers := Ds.map markD } ∧ GrS w V rb hb p m n i Ds g H eo cap
/-- Behind Choose. -/
structure GrC (w V : World) (rb hb p m : Nat) (Ds : List Nat) (g : Lr) (H : List EnM) (eo : Option Addr) (cap pre : Nat) : Prop where
  gr : GrB w V rb hb Ds H eo cap
  lr : ∃ z, LrAt V p m pre z g
  fit : FitH g H
  le : H.length ≤ pre
theorem GrC.below {w V V' : World} {rb hb p m cap pre : Nat} {Ds : List Nat} {g : Lr} {H : List EnM} {eo : Option Addr} (h : GrC w V rb hb p m Ds g H eo cap pre) (hb' : Below V.heap.size V V') : GrC w V' rb hb p m Ds g H eo cap pre := by
  obtain ⟨z, h1⟩ := h.lr
  exact ⟨h.gr.below hb', ⟨z, h1.below hb'⟩, h.fit, h.le⟩
theorem belowQ {w V : World} {D : Nat} (hb : Below w.heap.size w V) (hD : w.heap.size ≤ D) (o : Obj) : Below w.heap.size w (V.putObj D o) := by
  have hT : Turns (fun i => i = D) V (V.putObj D o) := Turns.of_grown (grownBy_putObj' V _ _) (fun j e => by cases e; rfl)
  exact hb.trans (hT.below (fun i hi => by rw [hi]; exact hD) hb.size)
theorem fromG_own (B B' : Nat) (g : Lr) (a pre : Nat) (pr : List (Int × EnM)) (x : Int × EnM) : OwnFrom B' (fun (_ : Unit) V => FromG B g a pre pr x V) := fun _ _ _ _ h hg hr =>
  ⟨h.at_, h.lt, h.en, h.keep.noCells hg (fun r e => (hr r e).2), h.all, h.new⟩
def FoG (hb nb l : Nat) (k : Nat) : Prop := k = hb ∨ k = nb ∨ k = l
/-- What the iterator finds, whatever a round leaves. -/
theorem frAt_of {w V1 X W' : World} {rb hb p m pre cap nb q0 l : Nat} {Ds : List Nat} {g : Lr} {H : List EnM} {eo : Option Addr} {z : Nat} (hC : GrB w V1 rb hb Ds H eo cap) (hL : LrAt V1 p m pre z g) (hX : Below V1.heap.size V1 X) (hnb : nb = V1.heap.size) (hl : X.heap.size ≤ l)
    (b0 : Boxed X q0 23 (.pointer (some ⟨p, 0, none⟩))) (b1 : Boxed X (q0 + 1) 3 (.int .i64 0)) (hq : V1.heap.size < q0) (hk : Kn (FoG hb nb l) X W') : FrAt W' q0 (q0 + 1) p m pre z g 0 := by
  have hkV : Kn (FoG hb nb l) V1 W' := (Kn.below hX).trans hk
  have hhb : Blk V1 hb 40 _ := boxed_blk hC.hbx
  refine ⟨?_, ?_, ?_⟩
  · refine hk.blk (boxed_blk b0) ?_ (by decide)
    rintro (h | h | h)
    · have := hhb.lt; omega
    · omega
    · have := b0.lt; omega
  · refine hk.blk (boxed_blk b1) ?_ (by decide)
    rintro (h | h | h)
    · have := hhb.lt; omega
    · omega
    · have := b1.lt; omega
  · refine hkV.lr hL (fun i hi hc => ?_) (fun i hi cs hb1 => ?_)
    · have hlt := hL.toLrMid.lt i hi
      rcases hc with h | h | h
      · subst h
        rcases hi with h | h
        · subst h
          exact absurd (blk_typeQ hhb hL.blk) (by decide)
        · obtain ⟨S, D, hem, _⟩ := hL.map
          exact hhb.not_map hem.map h
      · omega
      · have := hX.size; omega
    · obtain ⟨hc, hlt⟩ := hi
      rcases hc with h | h | h
      · subst h
        exact absurd (blk_typeQ hhb hb1) (by decide)
      · omega
      · have := hX.size; omega
/-- An operation that is not wanted, a call too. -/
theorem quiet_skip {F : Fence} {n : Nat} {P : Program} {ops : Array Oper} {C : World → Prop} {R : Act → Prop} {o : Oper} {rest : List Oper} {a : Act} (hask : o.askedIn F P a C) (hw : Region.wanted o (yielded ops a.tmps) = false) (hK : wpQuietIn F n P ops C R rest (a.put o.dst undef)) : wpQuietIn F n P ops C R (o :: rest) a := by
  refine wpQuietIn_step hask (fun K hk => ?_)
  rw [if_neg (by rw [hw]; simp)]
  exact hk _ hK
def TurnG (hb nb : Nat) (U V : World) : Prop := Turns (fun i => i = hb ∨ i = nb ∨ EnTyped U i) U V
theorem TurnG.kn {hb nb l : Nat} {U V : World} (h : TurnG hb nb U V) : Kn (FoG hb nb l) U V := Turns.mono h (fun i hi => by
  rcases hi with h | h | h
  · exact .inl (.inl h)
  · exact .inl (.inr (.inl h))
  · exact .inr h)
theorem TurnG.kept {hb nb B : Nat} {U V : World} {r : Loop} (h : TurnG hb nb U V) (hk : Kept B r U) (h1 : hb < B) (h2 : nb < B) : KeptAs B U V := by
  refine KeptAs.turns h hk.lt ?_ ?_
  · rintro (h | h | ⟨cs, h⟩)
    · omega
    · omega
    · have h3 : U.heap[B]? = some (.cells cs.toArray 33 (0, 0)) := h
      rw [hk.calls] at h3
      cases h3
  · rintro (h | h | ⟨cs, h⟩)
    · omega
    · omega
    · have h3 : U.heap[B + 1]? = some (.cells cs.toArray 33 (0, 0)) := h
      rw [hk.loop] at h3
      cases h3
section
variable {w X U U2 : World} {rb hb nb cap L l : Nat} {Ds : List Nat} {H : List EnM} {eo : Option Addr} {g : Lr} {pr : List (Int × EnM)}
theorem RnI.below (h : RnI w X rb hb nb Ds g L (FoG hb nb l) pr U H eo cap) (hb2 : Below U.heap.size U U2) : RnI w X rb hb nb Ds g L (FoG hb nb l) pr U2 H eo cap :=
  ⟨h.gr.below hb2, h.len, h.fit, h.off, (hb2.block _ h.nbx.lt).trans h.nbx, h.kn.trans (Kn.below hb2), h.mlt⟩
/-- A round that finds what is there. -/
theorem round_same (h : RnI w X rb hb nb Ds g L (FoG hb nb l) pr U H eo cap) (hb2 : Below U.heap.size U U2) (hlt : pr.length < H.length) (x : Int × EnM) (hle : w.heap.size ≤ nb) {pl : Nat} (hpl : pr.length = pl) : RnP w X rb hb nb Ds g L (FoG hb nb l) (pr ++ [x]) (U2.setCell ⟨nb, 0, none⟩ (.int .i64 ((pl : Int) + 1))) ∧ TurnG hb nb U (U2.setCell ⟨nb, 0, none⟩ (.int .i64 ((pl : Int) + 1))) := by
  subst hpl
  have hn2 : Boxed U2 nb 3 (.int .i64 (pr.length : Int)) := (hb2.block _ h.nbx.lt).trans h.nbx
  have hT : TurnG hb nb U (U2.setCell ⟨nb, 0, none⟩ (.int .i64 ((pr.length : Int) + 1))) := (Turns.of_below (F := fun i => i = hb ∨ i = nb ∨ EnTyped U i) hb2 (Nat.le_refl _)).trans (turns_set U2 nb _) (fun i hi => .inl (.inr (.inl hi)))
  refine ⟨⟨H, eo, cap, (h.gr.below hb2).setN hn2 h.off hle _, ?_, h.fit, h.off, ?_, h.kn.trans hT.kn, h.mlt⟩, hT⟩
  · have := h.len
    simp
    omega
  · have := hn2.set (.int .i64 ((pr.length : Int) + 1))
    simpa using this
/-- A round that brings one more. -/
theorem round_push (h : RnI w X rb hb nb Ds g L (FoG hb nb l) pr U H eo cap) {o : Obj} {W6 : World} {k : Nat} (hk : H.length = k) {y : EnM} {s : Int} {bo : Option Addr} {cp : Nat} (hown : W6.ownsRow w.heap.size 33 5 (.slice bo (k + 1) cp) (k + 1) (flatEn (H ++ [y]))) (hg : (U.alloc o).grownBy W6 (Value.slice eo k cap).ownBlock) (hy : EnKeep U y) (hge : ¬ pr.length < H.length)
    (hne : ∀ b off, y.ao = some ⟨b, off, none⟩ → y.e.cut ≠ [] → b ≠ nb) (hfy : g.f (H.length : Int) = some y.e) (hle : w.heap.size ≤ nb) {pl : Nat} (hpl : pr.length = pl) :
    RnP w X rb hb nb Ds g L (FoG hb nb l) (pr ++ [(s, y)]) ((W6.setCell ⟨hb, 0, none⟩ (.slice bo (k + 1) cp)).setCell ⟨nb, 0, none⟩ (.int .i64 ((pl : Int) + 1))) ∧ TurnG hb nb U ((W6.setCell ⟨hb, 0, none⟩ (.slice bo (k + 1) cp)).setCell ⟨nb, 0, none⟩ (.int .i64 ((pl : Int) + 1))) ∧ Boxed W6 hb 40 (.slice eo k cap) ∧ Boxed (W6.setCell ⟨hb, 0, none⟩ (.slice bo (k + 1) cp)) nb 3 (.int .i64 (pl : Int)) := by
  obtain ⟨h7, hT7, hH6⟩ := h.gr.push hk hown hg hy
  subst hpl
  have hn7 : Boxed (W6.setCell ⟨hb, 0, none⟩ (.slice bo (k + 1) cp)) nb 3 (.int .i64 (pr.length : Int)) := boxed_turned h.nbx hT7 (by
    rintro (e | ⟨cs, hc⟩)
    · subst e
      exact absurd (blk_typeQ (boxed_blk h.nbx) (boxed_blk h.gr.hbx)) (by decide)
    · exact absurd (blk_typeQ (boxed_blk h.nbx) hc) (by decide))
  have hoff : ∀ x ∈ H ++ [y], ∀ b off, x.ao = some ⟨b, off, none⟩ → x.e.cut ≠ [] → b ≠ nb := fun x hx => by
    rcases List.mem_append.1 hx with hx | hx
    · exact h.off x hx
    · rw [List.mem_singleton.1 hx]
      exact hne
  have hT : TurnG hb nb U ((W6.setCell ⟨hb, 0, none⟩ (.slice bo (k + 1) cp)).setCell ⟨nb, 0, none⟩ (.int .i64 ((pr.length : Int) + 1))) := (Turns.mono hT7 (fun i hi => hi.elim .inl (fun h => .inr (.inr h)))).trans (turns_set _ nb _) (fun i hi => .inl (.inr (.inl hi)))
  refine ⟨⟨H ++ [y], bo, cp, h7.setN hn7 hoff hle _, ?_, h.fit.snoc hfy, hoff, ?_, h.kn.trans hT.kn, h.mlt⟩, hT, hH6, hn7⟩
  · have := h.len
    simp
    omega
  · have := hn7.set (.int .i64 ((pr.length : Int) + 1))
    simpa using this
end
def GrMu (n : Nat) (a : Act) : Nat := n - (intOf (a.tmps.getD 5 undef)).toNat
set_option maxRecDepth 1000000 in
set_option maxHeartbeats 4000000 in
theorem learnerGrows_walk (lo : Option Addr) (lc : Nat) (xs : List StM) (w : World) (hx : HeldSt w lo xs) (hlx : xs.length ≤ 1759218604441) :
    Calls Try.prog 4 #[.slice lo xs.length lc] w fun e w' => e = .returned (.bool true) ∧ Below w.heap.size w w' := by
  refine (callsIn_wide (n := 5)).1 ?_
  have HX := hid hx
  obtain ⟨n, HN⟩ : ∃ n, Hid (xs.length = n) := ⟨_, hid rfl⟩
  rw [HN.out] at hlx ⊢
  have HLX := hid hlx
  clear hx hlx
  refine callsIn_of_wp_marks Try.func4 rfl trivial ?_ rfl
  simp only [Try.ntmps4, List.size_toArray, List.length_cons, List.length_nil, Nat.reduceAdd, Nat.reduceSub, Array.replicate_succ, Array.replicate_zero, List.push_toArray, List.append_toArray, List.nil_append, List.cons_append]
  refine wpIn_wide.2 ?_
  obtain ⟨W0, hW0⟩ : ∃ W0, W0 = w.alloc (.cells #[.bool false] 4) := ⟨_, rfl⟩
  have HB0 : Hid (Below w.heap.size w W0) := by rw [hW0]; exact (Below.refl _ w).alloc (Nat.le_refl _) _
  have HR0 : Hid (Boxed W0 w.heap.size 4 (.bool false)) := by rw [hW0]; exact Boxed.new w _ _
  go_wp2_with fail
  rw [← hW0]
  clear hW0
  obtain ⟨rb, HRB⟩ : ∃ q, Hid (q = w.heap.size) := ⟨_, hid rfl⟩
  rw [← HRB.out] at HR0 ⊢
  refine (newLr W0).mono ?_
  rintro e w1 ⟨p, m, rfl, hat, hb1, hp, hm⟩
  have HL1 := hid hat
  have HB1 := hid (bt' HB0.out hb1)
  have HR1 : Hid (Boxed w1 rb 4 (.bool false)) := (hb1.block _ HR0.out.lt).trans HR0.out
  have HFT : Hid (∀ x, FootR p m x → w.heap.size ≤ x) := fun x hx => by
    have := HB0.out.size
    rcases hx with rfl | rfl <;> omega
  clear hat hb1 hp hm HR0 HB0
  go_wp2_with fail
  refine (livesLr w1).mono ?_
  rintro e w2 ⟨rfl, hb2⟩
  have HL2 := hid (HL1.out.below hb2)
  have HB2 := hid (bt' HB1.out hb2)
  have HR2 : Hid (Boxed w2 rb 4 (.bool false)) := (hb2.block _ HR1.out.lt).trans HR1.out
  clear hb2 HL1 HB1 HR1
  obtain ⟨W3, hW3⟩ : ∃ W, W = w2.alloc (.cells #[.slice none 0 0] 40) := ⟨_, rfl⟩
  obtain ⟨hb, HHB⟩ : ∃ q, Hid (q = w2.heap.size) := ⟨_, hid rfl⟩
  have hb3 : Below w2.heap.size w2 W3 := by rw [hW3]; exact (Below.refl _ _).alloc (Nat.le_refl _) _
  have HG3 : Hid (GrB w W3 rb hb [] [] none 0) := by
    refine ⟨bt' HB2.out hb3, (hb3.block _ HR2.out.lt).trans HR2.out, ?_, World.ownsRow_nil _ _ _ _, fun x hx => (by cases hx), Marks.nil _ _, by have := HRB.out; omega, by have := HHB.out; have := HB2.out.size; omega⟩
    rw [hW3, HHB.out]
    exact Boxed.new w2 _ _
  have HL3 := hid (HL2.out.below hb3)
  go_wp2
  rw [← HHB.out, ← hW3]
  clear hW3 hb3 HL2 HB2 HR2
  refine (wpIn_wide (n := 5)).1 ?_
  refine wpIn_loop_k (GrI w lo n lc rb hb p m) (fun a _ => GrMu n a) ?_ ?_
  · exact ⟨0, [], noLr, [], none, 0, _, _, _, _, _, _, _, _, _, _, _, _, _, _, _, _, _, _, _, _, _, _, _, _, _, _, _, _, _, _, _, _, _, _, _, _, _, _, _, _, _, _, _, _, _, _, _, _, _, _, _, _, _, _, _, _, _, _, _, _, _, _, _, _, _, _, _, _, _, _, _, _, _, _, _, _, _, _, rfl, ⟨HG3.out, ⟨_, HL3.out⟩, fun j h => (by cases h), HFT.out, Nat.zero_le _, Nat.zero_le _⟩⟩
  rintro a V ⟨i, Ds, g, H, eo, cap, u1, u6, u7, u8, u9, u10, u11, u12, u13, u14, u15, u16, u17, u18, u19, u20, u21, u22, u23, u24, u25, u26, u27, u28, u29, u30, u31, u32, u33, u34, u35, u36, u37, u38, u39, u40, u41, u42, u43, u44, u45, u46, u47, u48, u49, u50, u51, u52, u53, u54, u55, u56, u57, u58, u59, u60, u61, u62, u63, u64, u65, u66, u67, u68, u69, u70, u71, u72, u73, u74, u75, u76, u77, u78, u79, u80, u81, u82, rfl, hS⟩ K hK
  have HS := hid hS
  have HK := hid hK
  clear hS hK HG3 HL3
  refine wpIn_wide.2 ?_
  by_cases hlt : i < n ∧ i < 2000
  · have hlt1 : (i : Int) < (n : Int) := by omega
    have hlt2 : (i : Int) < 2000 := by omega
    have HLT := hid hlt
    clear hlt
    have HIX : Hid (i < xs.length) := by rw [HN.out]; exact HLT.out.1
    have HOKX := hid (HX.out.okD HIX.out)
    obtain ⟨bb, off, hao, hbb, d0, d1, d2, d3, d4, d5⟩ := HX.out.cellsD HIX.out
    subst hao
    obtain ⟨X, hXe⟩ : ∃ X, X = xs.getD i default := ⟨_, rfl⟩
    rw [← hXe] at d0 d1 d2 d3 d4 d5 HOKX
    obtain ⟨sl, ⟨np, tk, ct, ep, dp⟩, ao1, cap1⟩ := X
    simp only at d0 d1 d2 d3 d4 d5
    obtain ⟨XN, HXN⟩ : ∃ m, Hid (dp.length = m) := ⟨_, hid rfl⟩
    rw [HXN.out] at d5
    have HSA : Hid (∀ U, Below w.heap.size w U → (Below w.heap.size w U ∧ U.cell? ⟨bb, off + i * 6, none⟩ = some (.int .i64 sl) ∧ U.cell? ⟨bb, off + i * 6 + 1, none⟩ = some (.bool np) ∧ U.cell? ⟨bb, off + i * 6 + 2, none⟩ = some (.string tk) ∧ U.cell? ⟨bb, off + i * 6 + 3, none⟩ = some (.string ct) ∧ U.cell? ⟨bb, off + i * 6 + 4, none⟩ = some (.int .i64 ep) ∧ U.cell? ⟨bb, off + i * 6 + 5, none⟩ = some (.slice ao1 XN cap1))) := fun U hU => by
      have hV := hU
      exact ⟨hU, (hV.cell (p := ⟨bb, _, none⟩) hbb).trans d0, (hV.cell (p := ⟨bb, _, none⟩) hbb).trans d1, (hV.cell (p := ⟨bb, _, none⟩) hbb).trans d2, (hV.cell (p := ⟨bb, _, none⟩) hbb).trans d3, (hV.cell (p := ⟨bb, _, none⟩) hbb).trans d4, (hV.cell (p := ⟨bb, _, none⟩) hbb).trans d5⟩
    obtain ⟨g', HG'⟩ : ∃ g', Hid (chooseL g sl ⟨np, tk, ct, ep, dp⟩ = g') := ⟨_, hid rfl⟩
    have HCH : Hid (∀ U, ScL V U → Calls Try.prog 7 #[.pointer (some ⟨p, 0, none⟩), .int .i64 sl, .agg #[.bool np, .string tk, .string ct, .int .i64 ep, .slice ao1 XN cap1]] U fun e w' => (∃ c, e = .returned (.int .i64 c)) ∧ ∃ pre, GrC w w' rb hb p m Ds g' H eo cap pre) := fun U hU => by
      obtain ⟨z, hL⟩ := HS.out.lr
      have h1 := (hL.below hU.out).choose sl HOKX.out.is ⟨⟨np, tk, ct, ep, dp⟩, ao1, cap1⟩ (HOKX.out.en.below (bt' HS.out.gr.bel hU.out))
      simp only [EnM.val] at h1
      rw [HXN.out] at h1
      refine h1.mono ?_
      rintro e w' ⟨he, pre, z', hL', ht⟩
      rw [HG'.out] at hL'
      refine ⟨⟨_, he⟩, pre, (HS.out.gr.below hU.out).choose (hL.below hU.out) ht HS.out.foot, ⟨z', hL'⟩, ?_, ?_⟩
      · rw [← HG'.out]
        exact HS.out.fit.choose _ _
      · rw [← HG'.out] at hL'
        exact pre_grows hL hL'
    clear d0 d1 d2 d3 d4 d5 hXe hbb
    have HBV := hid HS.out.gr.bel
    go_wp2
    go_region_held3 (fun U => Below w.heap.size w U ∧ U.cell? ⟨bb, off + i * 6, none⟩ = some (.int .i64 sl) ∧ U.cell? ⟨bb, off + i * 6 + 1, none⟩ = some (.bool np) ∧ U.cell? ⟨bb, off + i * 6 + 2, none⟩ = some (.string tk) ∧ U.cell? ⟨bb, off + i * 6 + 3, none⟩ = some (.string ct) ∧ U.cell? ⟨bb, off + i * 6 + 4, none⟩ = some (.int .i64 ep) ∧ U.cell? ⟨bb, off + i * 6 + 5, none⟩ = some (.slice ao1 XN cap1))
      (first | (refine ⟨?_, ?_, ?_, ?_, ?_, ?_, ?_⟩ <;> assumption) | (refine HSA.out _ ?_; (repeat (first | assumption | exact HBV.out | apply Below.drew))))
      (first
        | (go_at_call 7; with_reducible refine (HCH.out _ (by (repeat (first | assumption | exact ScL.start _ | apply ScL.dr)))).mono ?_; rintro e V1 ⟨⟨c, rfl⟩, pre, hC1⟩; have hbl1 := hC1.gr.bel)
        | fail)
    have HC1 := hid hC1
    clear hC1 hbl1 HSA HCH HS HBV HOKX HG' HXN
    obtain ⟨nb, HNB⟩ : ∃ q, Hid (q = V1.heap.size) := ⟨_, hid rfl⟩
    obtain ⟨W2, hW2⟩ : ∃ W, W = V1.alloc (.cells #[.int .i64 0] 3) := ⟨_, rfl⟩
    have hbW2 : Below V1.heap.size V1 W2 := by rw [hW2]; exact (Below.refl _ _).alloc (Nat.le_refl _) _
    have HN2 : Hid (Boxed W2 nb 3 (.int .i64 0)) := by rw [hW2, HNB.out]; exact Boxed.new V1 _ _
    have HBX2 := hid hbW2
    have hql := eql_funcR
    go_wp2_with fail
    rw [← HNB.out, ← hW2]
    clear hW2 hbW2
    refine (fromR_any W2 (some ⟨p, 0, none⟩) 0).mono ?_
    rintro e w3 ⟨rfl, hw3⟩
    obtain ⟨_, _, hb3⟩ := from_boxes _ _ _ hw3
    have HBX3 := hid (bt' HBX2.out hb3)
    have HN3 : Hid (Boxed w3 nb 3 (.int .i64 0)) := (hb3.block _ HN2.out.lt).trans HN2.out
    clear hw3 hb3 HN2 HBX2
    go_wp2_with fail
    clear hql
    refine (fromR_any w3 (some ⟨p, 0, none⟩) 0).mono ?_
    rintro e X ⟨rfl, hX⟩
    obtain ⟨hq0, hq1, hb4⟩ := from_boxes _ _ _ hX
    have HBX := hid (bt' HBX3.out hb4)
    have HNX : Hid (Boxed X nb 3 (.int .i64 0)) := (hb4.block _ HN3.out.lt).trans HN3.out
    obtain ⟨q0, HQ0⟩ : ∃ q, Hid (q = w3.heap.size) := ⟨_, hid rfl⟩
    rw [← HQ0.out] at hq0 hq1 ⊢
    have HQ : Hid (V1.heap.size < q0) := by
      have h1 := HN3.out.lt
      have h2 := HNB.out
      have h3 := HQ0.out
      exact (by omega : V1.heap.size < q0)
    have HB0 := hid hq0
    have HB1 := hid hq1
    have HCX := hid (HC1.out.below HBX.out)
    clear hX hb4 HN3 HBX3 hq0 hq1
    obtain ⟨z, hL1⟩ := HC1.out.lr
    have HL1 := hid hL1
    clear hL1
    have HFR : Hid (∀ W', Kn (FoG hb nb (X.heap.size + 1)) X W' → FrAt W' q0 (q0 + 1) p m pre z g' 0) := fun W' hk => frAt_of HC1.out.gr HL1.out HBX.out HNB.out (by omega) HB0.out HB1.out HQ.out hk
    have HOFF : Hid (∀ x ∈ H, ∀ b off, x.ao = some ⟨b, off, none⟩ → x.e.cut ≠ [] → b ≠ nb) := fun x hx b off e hne hc => by
      obtain ⟨cs, hbk⟩ := (HC1.out.gr.ens x hx).num b off e hne
      have := hbk.lt
      have := HNB.out
      omega
    have HMLT : Hid (∀ D ∈ Ds, D < X.heap.size) := fun D hD => (Array.getElem?_eq_some_iff.1 (HCX.out.gr.mks.at_ D hD).2).1
    have HWX : Hid (w.heap.size ≤ X.heap.size) := HCX.out.gr.bel.size
    obtain ⟨L, HLL⟩ : ∃ L, Hid (H.length = L) := ⟨_, hid rfl⟩
    go_wp2
    refine (wpIn_wide (n := 5)).1 ?_
    apply wpIn_rangeFunc_Gc (encs := fun x : Int × EnM => #[.int .i64 x.1, x.2.val]) (Kp := Kn (FoG hb nb (X.heap.size + 1))) (G := fun pr x U => FromG (X.heap.size + 2) g' 0 pre pr x U) (S := fun ys => FromTo g' 0 ys ∧ 0 + ys.length = max pre 0) (Sp := fun pr => FromTo g' 0 pr) rfl (by omega) (gf := 31) (lb := #[.pointer (some ⟨q0, 0, none⟩), .pointer (some ⟨q0 + 1, 0, none⟩)]) rfl trivial (enters_of Try.func31 (by kernel_rfl) rfl)
      (I := RnP w X rb hb nb Ds g' L (FoG hb nb (X.heap.size + 1))) (Ix := fun _ _ _ => False) (X := fun pr x U => FromG (X.heap.size + 2) g' 0 pre pr x U) (Bx := fun x => x.2.cells) (t := 33)
    case hseq =>
      intro r J Jx hJ _ hY hj
      have hbr : Below X.heap.size X ((X.alloc (.deferred (some []))).alloc (.loop r)) := ((Below.refl _ _).alloc (Nat.le_refl _) _).alloc (by simp) _
      have hsz : ((X.alloc (.deferred (some []))).alloc (.loop r)).heap.size = X.heap.size + 2 := by simp
      refine from_inG 4 (by omega) (X.heap.size + 1) q0 (q0 + 1) (Kn (FoG hb nb (X.heap.size + 1))) (Kn.refl _) (fun h k => Kn.trans h k) (fun h => Kn.below h) (fun h => h.size) (s := 0) (a := 0) (by rfl) J Jx hJ (fun pr x U hj' hg => (hY pr x U hj' (by rw [hsz] at hg; exact hg)).mono (fun e V' h => h.elim (fun h => .inl h) (fun h => .inr ⟨h.1, h.2.1⟩))) (fun W' hk => HFR.out W' ((Kn.below hbr).trans hk)) hj
    case hKt => exact fun h k => Kn.trans h k
    case hKb =>
      intro U r r' _
      exact Turns.of_grown (grownBy_putObj' U _ _) (fun j e => by cases e; exact .inl (.inr (.inr rfl)))
    case hps => exact fun _ => rfl
    case hI => exact rnP_own w X rb hb nb Ds g' L _ HWX.out
    case hIx => exact fun _ _ _ _ _ h _ _ => h
    case h0 => exact ⟨H, eo, cap, HCX.out.gr, by rw [HLL.out]; simp, HCX.out.fit, HOFF.out, HNX.out, Kn.refl _ _, HMLT.out⟩
    case hX => exact fun pr x => fromG_own _ _ _ _ _ _ _
    case hassign =>
      rintro l' pr x U K' hltU hI hG hK'
      have hba : Below U.heap.size U (U.alloc (.cells #[.bool x.2.e.noop, .string x.2.e.tok, .string x.2.e.cart, .int .i64 x.2.e.ep, .slice x.2.ao x.2.e.cut.length x.2.cap] 33)) := (Below.refl _ _).alloc (Nat.le_refl _) _
      have hI2 := (rnP_own w X rb hb nb Ds g' L (FoG hb nb (X.heap.size + 1)) HWX.out).alloc (.cells #[.bool x.2.e.noop, .string x.2.e.tok, .string x.2.e.cart, .int .i64 x.2.e.ep, .slice x.2.ao x.2.e.cut.length x.2.cap] 33) hI
      have hG2 := (fromG_own (X.heap.size + 2) X.heap.size g' 0 pre pr x).alloc (.cells #[.bool x.2.e.noop, .string x.2.e.tok, .string x.2.e.cart, .int .i64 x.2.e.ep, .slice x.2.ao x.2.e.cut.length x.2.cap] 33) (s := ()) hG
      have hbk := Blk.new U 33 x.2.cells
      obtain ⟨gg, hgg⟩ : ∃ z, z = U.heap.size := ⟨_, rfl⟩
      have hgl : X.heap.size ≤ gg := by omega
      rw [← hgg] at hbk
      dsimp only [EnM.val]
      gi_wp2
      rw [← hgg]
      exact hK' gg _ ⟨hba.block _ hltU, hba.block _ (by omega)⟩ (Kn.below hba) hI2 hG2 hbk hgl
    case hbody =>
      rintro l' pr ⟨s, ⟨⟨yn, yt, yc, ye, yd⟩, yo, ycap⟩⟩ gg U ⟨rc, hkp⟩ ⟨H', eo', cap', hR⟩ hG hbk hgl
      have HR := hid hR
      have HG := hid hG
      have HKP := hid hkp
      obtain ⟨pl, HPL⟩ : ∃ z, Hid (pr.length = z) := ⟨_, hid rfl⟩
      obtain ⟨hl', HHL⟩ : ∃ z, Hid (H'.length = z) := ⟨_, hid rfl⟩
      have hsp : s = (pl : Int) := by have := hG.at_; rw [HPL.out] at this; simpa using this
      subst hsp
      have hp6 : pl < 65536 := by
        have h1 := hG.lt
        have h2 := HL1.out.pre_le
        have h3 := HL1.out.ok.few
        simp only at h1
        omega
      have hci := hR.nbx.cell
      have hfi := hR.nbx.frozen
      rw [HPL.out] at hci
      have hch := hR.gr.hbx.cell
      rw [HHL.out] at hch
      have e0 := hbk.cell (i := 0) rfl
      have e1 := hbk.cell (i := 1) rfl
      have e2 := hbk.cell (i := 2) rfl
      have e3 := hbk.cell (i := 3) rfl
      have e4 := hbk.cell (i := 4) rfl
      obtain ⟨YN, HYN⟩ : ∃ z, Hid (yd.length = z) := ⟨_, hid rfl⟩
      simp only at e0 e1 e2 e3 e4
      rw [HYN.out] at e4
      have HNX2 : Hid (nb < X.heap.size ∧ hb < X.heap.size) := ⟨HNX.out.lt, HCX.out.gr.hbx.lt⟩
      have HLE : Hid (w.heap.size ≤ nb) := by have h1 := HC1.out.gr.bel.size; have h2 := HNB.out; exact (by omega : w.heap.size ≤ nb)
      have HL6 : Hid (hl' ≤ 65536) := by
        have h1 := hR.len
        have h2 := HC1.out.le
        have h3 := HL1.out.pre_le
        have h4 := HL1.out.ok.few
        have h5 := HLL.out
        rw [HHL.out, HPL.out] at h1
        exact (by omega : hl' ≤ 65536)
      have hw1 : wrap64 ((pl : Int) + 1) = (pl : Int) + 1 := wrapS (by omega) (by omega)
      clear hR hG hkp hbk
      by_cases hlp : pl < hl'
      · have hlp' : (pl : Int) < (hl' : Int) := by omega
        have hdl2 : decide (pl < hl') = true := decide_eq_true hlp
        have hdl : decide ((pl : Int) < (hl' : Int)) = true := decide_eq_true hlp'
        have hge : ¬ (hl' : Int) ≤ (pl : Int) := by omega
        have HXL : Hid (pl < H'.length) := by rw [HHL.out]; exact hlp
        have HRW := hid HR.out.gr.row
        obtain ⟨gr, hgr⟩ : ∃ gr, eo' = some ⟨gr, 0, none⟩ := by
          rcases HRW.out.2 with ⟨_, h0⟩ | ⟨g9, c9, cur, he, _⟩
          · have := HXL.out
            omega
          · cases he
            exact ⟨g9, rfl⟩
        subst hgr
        have hcl : ∀ c u, (H'[pl]'HXL.out).cells[c]? = some u → U.cell? ⟨gr, pl * 5 + c, none⟩ = some u := fun c u hu => by
          have := HRW.out.cells (g := gr) rfl _ _ (flatEn_get H' pl HXL.out c u hu)
          simpa [Addr.add_lit] using this
        have x0 : U.cell? ⟨gr, pl * 5, none⟩ = some (.bool (H'[pl]'HXL.out).e.noop) := hcl 0 _ rfl
        have x1 := hcl 1 _ rfl
        have x2 := hcl 2 _ rfl
        have x3 := hcl 3 _ rfl
        have x4 := hcl 4 _ rfl
        have HXE : Hid ((H'[pl]'HXL.out).e = ⟨yn, yt, yc, ye, yd⟩) := by
          have h1 := HR.out.fit pl HXL.out
          have h2 : g'.f (pl : Int) = some ⟨yn, yt, yc, ye, yd⟩ := HG.out.en
          rw [h1] at h2
          exact hid (Option.some.inj h2)
        have HXK := hid (HR.out.gr.ens _ (List.getElem_mem HXL.out))
        obtain ⟨xx, HXX⟩ : ∃ x, Hid ((H'[pl]'HXL.out) = x) := ⟨_, hid rfl⟩
        rw [HXX.out] at x0 x1 x2 x3 x4 HXE HXK
        obtain ⟨⟨xn, xt, xc, xe, xd⟩, xo, xcap⟩ := xx
        obtain ⟨XL, HXD⟩ : ∃ z, Hid (xd.length = z) := ⟨_, hid rfl⟩
        simp only at x0 x1 x2 x3 x4
        rw [HXD.out] at x4
        have HSE : Hid (∀ B : Beyond U, CallsIn Fence.wide 2 Try.prog 12 #[.agg #[.bool xn, .string xt, .string xc, .int .i64 xe, .slice xo XL xcap], .agg #[.bool yn, .string yt, .string yc, .int .i64 ye, .slice yo YN ycap]] B.now (fun e w'' => e = .returned (.bool true) ∧ ∃ Y : Beyond U, w'' = Y.now)) := fun B => by
          have h1 := sameEntry_A B.now ⟨⟨xn, xt, xc, xe, xd⟩, xo, xcap⟩ ⟨⟨yn, yt, yc, ye, yd⟩, yo, ycap⟩ (HXK.out.ok.below B.is) (HG.out.keep.ok.below B.is)
          rw [decide_eq_true (show (⟨xn, xt, xc, xe, xd⟩ : En) = ⟨yn, yt, yc, ye, yd⟩ from HXE.out)] at h1
          simp only [EnM.val] at h1
          rw [HXD.out, HYN.out] at h1
          refine (callsIn_wide.2 h1).mono ?_
          rintro e w'' ⟨he, hb9⟩
          exact ⟨he, ⟨w'', B.is.trans (hb9.mono B.is.size)⟩, rfl⟩
        have HC0 : Hid (∃ B : Beyond U, { U with drawn := U.drawn + 1 } = B.now) := ⟨⟨_, below_dn (Below.refl _ _) 1⟩, rfl⟩
        have kci := fun B : Beyond U => B.cell hci (World.block_lt_of_cell? U _ hci)
        have kch := fun B : Beyond U => B.cell hch (World.block_lt_of_cell? U _ hch)
        have ke0 := fun B : Beyond U => B.cell e0 (World.block_lt_of_cell? U _ e0)
        have ke1 := fun B : Beyond U => B.cell e1 (World.block_lt_of_cell? U _ e1)
        have ke2 := fun B : Beyond U => B.cell e2 (World.block_lt_of_cell? U _ e2)
        have ke3 := fun B : Beyond U => B.cell e3 (World.block_lt_of_cell? U _ e3)
        have ke4 := fun B : Beyond U => B.cell e4 (World.block_lt_of_cell? U _ e4)
        have kx0 := fun B : Beyond U => B.cell x0 (World.block_lt_of_cell? U _ x0)
        have kx1 := fun B : Beyond U => B.cell x1 (World.block_lt_of_cell? U _ x1)
        have kx2 := fun B : Beyond U => B.cell x2 (World.block_lt_of_cell? U _ x2)
        have kx3 := fun B : Beyond U => B.cell x3 (World.block_lt_of_cell? U _ x3)
        have kx4 := fun B : Beyond U => B.cell x4 (World.block_lt_of_cell? U _ x4)
        clear hcl hlp hfi
        gi_wp2
        refine wpIn_region_round (fun w' => ∃ B : Beyond U, w' = B.now) l' rfl (by kernel_rfl) (by kernel_rfl) (by kernel_rfl) HC0.out ?_
        repeat (gi_big_quiet_step (fail))
        refine quiet_call (.bool true) (fun _ _ _ _ => trivial) rfl 12 #[.agg #[.bool xn, .string xt, .string xc, .int .i64 xe, .slice xo XL xcap], .agg #[.bool yn, .string yt, .string yc, .int .i64 ye, .slice yo YN ycap]] (fun w' _ => by go_simp) (fun h => by cases h) (fun w' hc => by obtain ⟨B, rfl⟩ := hc; exact HSE.out B) ?_
        go_simp
        repeat (gi_big_quiet_step (fail))
        refine wpQuietIn_nil ?_
        intro B
        obtain ⟨hRP, hTG⟩ := round_same HR.out B.is (by rw [HPL.out]; exact HXL.out) ((pl : Int), (⟨⟨yn, yt, yc, ye, yd⟩, yo, ycap⟩ : EnM)) HLE.out HPL.out
        have HRP := hid hRP
        have HTG := hid hTG
        have bn := (B.is.block _ HR.out.nbx.lt).trans HR.out.nbx
        rw [HPL.out] at bn
        have kn1 : B.now.cell? ⟨nb, 0, none⟩ = some (.int .i64 (pl : Int)) := Boxed.cell (t := 3) bn
        have kf1 : B.now.frozen? ⟨nb, 0, none⟩ = false := Boxed.frozen (t := 3) (v := .int .i64 (pl : Int)) bn
        have kh1 := kch B
        clear hRP hTG bn kci kch ke0 ke1 ke2 ke3 ke4 kx0 kx1 kx2 kx3 kx4 hci hch e0 e1 e2 e3 e4 x0 x1 x2 x3 x4 HSE HC0
        generalize B.now = W9 at *
        gi_wp2
        exact ⟨HTG.out.kept HKP.out HNX2.out.2 HNX2.out.1, HTG.out.kn, HRP.out⟩
      · have hlp' : ¬ (pl : Int) < (hl' : Int) := by omega
        have hlq : (hl' : Int) ≤ (pl : Int) := by omega
        have hdl : decide ((pl : Int) < (hl' : Int)) = false := decide_eq_false hlp'
        have hdl2 : decide (pl < hl') = false := decide_eq_false hlp
        have hdn : ((pl : Int) != (pl : Int)) = false := by simp
        have HOFY : Hid (∀ b off, yo = some ⟨b, off, none⟩ → b ≠ nb) := fun b off e hc => by
          have h1 := HG.out.new b off e
          have h2 := HNX2.out.1
          omega
        have HFY : Hid (g'.f (H'.length : Int) = some ⟨yn, yt, yc, ye, yd⟩ ∧ ¬ pr.length < H'.length) := by
          have h1 := HR.out.len
          have h2 : H'.length = pl := by rw [HPL.out] at h1; rw [HHL.out] at h1 ⊢; omega
          refine ⟨?_, by rw [h2, HPL.out]; omega⟩
          rw [h2]
          exact HG.out.en
        clear hlp hlp'
        gi_wp2
        refine wpIn_region_quiet_round l' rfl (by kernel_rfl) (by kernel_rfl) (by kernel_rfl) ?_
        repeat (gi_big_quiet_step (fail))
        refine quiet_skip (fun _ _ _ _ => trivial) rfl ?_
        simp only [Act.put, List.setIfInBounds_toArray, List.set_cons_zero, List.set_cons_succ]
        repeat (gi_big_quiet_step (fail))
        refine wpQuietIn_nil ?_
        intro _ hw
        obtain ⟨nq, hnq⟩ := hw
        have hbq : Below U.heap.size U (U.drewN nq) := below_dn (Below.refl _ _) nq
        rw [← hnq] at hbq
        rename_i U1
        have HR1 := hid (HR.out.below hbq)
        have HY1 : Hid (EnKeep U1 ⟨⟨yn, yt, yc, ye, yd⟩, yo, ycap⟩) := HG.out.keep.below hbq
        have HBQ := hid hbq
        have ci1 := HR1.out.nbx.cell
        rw [HPL.out] at ci1
        have ch1 := HR1.out.gr.hbx.cell
        have fh1 := HR1.out.gr.hbx.frozen
        rw [HHL.out] at ch1
        have e10 := (hbq.cell (p := ⟨gg, 0, none⟩) (World.block_lt_of_cell? U _ e0)).trans e0
        have e11 := (hbq.cell (p := ⟨gg, 0 + 1, none⟩) (World.block_lt_of_cell? U _ e1)).trans e1
        have e12 := (hbq.cell (p := ⟨gg, 0 + 2, none⟩) (World.block_lt_of_cell? U _ e2)).trans e2
        have e13 := (hbq.cell (p := ⟨gg, 0 + 3, none⟩) (World.block_lt_of_cell? U _ e3)).trans e3
        have e14 := (hbq.cell (p := ⟨gg, 0 + 4, none⟩) (World.block_lt_of_cell? U _ e4)).trans e4
        simp only [Nat.zero_add] at e11 e12 e13 e14
        have HROW : Hid (U1.ownsRow w.heap.size 33 5 (.slice eo' hl' cap') hl' (flatEn H')) := by rw [← HHL.out]; exact HR1.out.gr.row
        have HSW : Hid (w.heap.size ≤ U1.heap.size) := HR1.out.gr.bel.size
        have HYC : Hid ((⟨⟨yn, yt, yc, ye, yd⟩, yo, ycap⟩ : EnM).cells = [.bool yn, .string yt, .string yc, .int .i64 ye, .slice yo YN ycap]) := hid (by simp only [EnM.cells]; rw [HYN.out])
        clear hbq e0 e1 e2 e3 e4 hci hch hnq
        gi_wp2_with (gi_at_builtin; refine wpListIn_append_en U1 _ ⟨⟨yn, yt, yc, ye, yd⟩, yo, ycap⟩ (by rw [HYC.out]) rfl _ _ rfl w.heap.size _ H' hl' HHL.out rfl U1.heap.size rfl rfl HROW.out HSW.out (by have := HL6.out; omega) ?_)
        intro bo2 cp2 W6 hown6 _ hg6
        obtain ⟨hRP, hTG, hH6, hn7⟩ := round_push (s := (pl : Int)) HR1.out HHL.out hown6 hg6 HY1.out HFY.out.2 (fun b off e _ => HOFY.out b off e) HFY.out.1 HLE.out HPL.out
        have HRP := hid hRP
        have HTG := hid hTG
        have ch6 := hH6.cell
        have fh6 := hH6.frozen
        have cn7 := hn7.cell
        have fn7 := hn7.frozen
        clear hown6 hg6 hRP hTG hH6 hn7
        gi_wp2
        have hTU : TurnG hb nb U ((W6.setCell ⟨hb, 0, none⟩ (.slice bo2 (hl' + 1) cp2)).setCell ⟨nb, 0, none⟩ (.int .i64 ((pl : Int) + 1))) := by
          have h1 := HTG.out
          refine (Turns.of_below (F := fun i => i = hb ∨ i = nb ∨ EnTyped U i) HBQ.out (Nat.le_refl _)).trans h1 (fun i hi => ?_)
          rcases hi with h | h | ⟨cs, h⟩
          · exact .inl (.inl h)
          · exact .inl (.inr (.inl h))
          · by_cases hlt : i < U.heap.size
            · have h2 : Blk U i 33 cs := (HBQ.out.block i hlt).symm.trans h
              exact .inl (.inr (.inr ⟨cs, h2⟩))
            · exact .inr (by omega)
        exact ⟨hTU.kept HKP.out HNX2.out.2 HNX2.out.1, hTU.kn, HRP.out⟩
    case hdone =>
      intro D ys U hD hys hRP hDef
      obtain ⟨hft, hlen⟩ := hys
      obtain ⟨H2, eo2, cap2, hR⟩ := hRP
      have hyl : ys.length = pre := by omega
      have HHL : Hid (H2.length = pre) := by
        have h1 := hR.len
        rw [hyl] at h1
        have h2 := HC1.out.le
        have h3 := HLL.out
        exact (by omega : H2.length = pre)
      have hci := hR.nbx.cell
      rw [hyl] at hci
      have hch := hR.gr.hbx.cell
      rw [HHL.out] at hch
      have HPRE : Hid (∀ q, Calls Try.prog 13 #[.pointer (some ⟨p, 0, none⟩)] (U.drewN q) fun e w' => e = .returned (.int .i64 (pre : Int)) ∧ w' = U.drewN q) := fun q => ((HFR.out U hR.kn).lr.below (below_dn (Below.refl _ _) q)).toLrMid.prefix
      have HEND : Hid (∀ q, GrS w (U.drewN q) rb hb p m n (i + 1) (D :: Ds) g' H2 eo2 cap2) := fun q => by
        have hgr := hR.gr.below (V' := U.drewN q) (below_dn (Below.refl _ _) q)
        have hnot : D ∉ Ds := fun hm => by have := hR.mlt D hm; omega
        have hmk : Marks w.heap.size (D :: Ds) (U.drewN q) := hgr.mks.push (by have := HWX.out; omega) hDef hnot
        refine ⟨⟨hgr.bel, hgr.res, hgr.hbx, hgr.row, hgr.ens, hmk, hgr.rl, hgr.hl⟩, ⟨z, ?_⟩, hR.fit, HFT.out, by have := HLT.out; omega, by have := HLT.out; omega⟩
        rw [HHL.out]
        exact (HFR.out U hR.kn).lr.below (below_dn (Below.refl _ _) q)
      have hp6 : pre ≤ 65536 := Nat.le_trans HL1.out.pre_le HL1.out.ok.few
      have hdn : ((pre : Int) != (pre : Int)) = false := by simp
      have hwi : wrap64 ((i : Int) + 1) = (i : Int) + 1 := wrapS (by omega) (by omega)
      have HIM : Hid (i + 1 ≤ n) := by have := HLT.out; exact (by omega : i + 1 ≤ n)
      clear hR hft hlen hyl hDef hD HFR HCX HC1 HOFF HMLT HNX HB0 HB1
      go_wp2
      go_quiet (first | (go_at_call 13; refine Calls.quiet_of_same (HPRE.out _)))
      go_wp2
      refine HK.out _ _ ⟨i + 1, D :: Ds, g', H2, eo2, cap2, _, _, _, _, _, _, _, _, _, _, _, _, _, _, _, _, _, _, _, _, _, _, _, _, _, _, _, _, _, _, _, _, _, _, _, _, _, _, _, _, _, _, _, _, _, _, _, _, _, _, _, _, _, _, _, _, _, _, _, _, _, _, _, _, _, _, _, _, _, _, _, _, _, _, _, _, _, _, rfl, HEND.out _⟩ ?_
      unfold GrMu
      simp [intOf]
      have := HIM.out
      omega
    case hstop =>
      intro D c pr U _ _ hf
      exact hf.elim
  · have hlt1 : (i : Int) < (n : Int) → ¬ (i : Int) < 2000 := by omega
    have c0 := HS.out.gr.res.cell
    have f0 := HS.out.gr.res.frozen
    have HRT : Hid (Boxed (V.setCell ⟨rb, 0, none⟩ (.bool true)) rb 4 (.bool true)) := HS.out.gr.res.set (.bool true)
    have HBF : Hid (Below w.heap.size w (V.setCell ⟨rb, 0, none⟩ (.bool true))) := HS.out.gr.bel.setCell (p := ⟨rb, 0, none⟩) HS.out.gr.rl _
    have HMK : Hid (Marks w.heap.size Ds (V.setCell ⟨rb, 0, none⟩ (.bool true))) := HS.out.gr.mks.turned (F := fun i => i = rb) ((Turns.refl (fun i => i = rb) _).setCell (p := ⟨rb, 0, none⟩) (.inl rfl) _) (fun i hi => by
      have h1 : V.heap[rb]? = some (.cells #[.bool false] 4 (0, 0)) := HS.out.gr.res
      rw [hi, h1]
      simp)
    have HEND : Hid (∀ fr : Array Value, fr.getD 2 undef = .pointer (some ⟨rb, 0, none⟩) → LeavesInM Fence.wide 5 Try.prog Try.f4 fr (fun e w' => e = .returned (.bool true) ∧ Below w.heap.size w w') (Ds.map markD) .returning (V.setCell ⟨rb, 0, none⟩ (.bool true))) := fun fr hfr => by
      refine leavesM_all (B := w.heap.size) (fun U => Below w.heap.size w U ∧ Boxed U rb 4 (.bool true)) ?_ ?_ Ds _ HMK.out ⟨HBF.out, HRT.out⟩
      · rintro U D ⟨h1, h2⟩ hD hU
        refine ⟨belowQ h1 hD _, ?_⟩
        have h3 : U.heap[rb]? = some (.cells #[.bool true] 4 (0, 0)) := h2
        show (U.putObj D (.deferred none)).heap[rb]? = _
        rw [World.putObj_heap_other (by rintro rfl; rw [h3] at hU; cases hU)]
        exact h3
      · rintro U ⟨h1, h2⟩
        exact ⟨_, results_cellR rfl _ _ hfr h2.cell, rfl, h1⟩
    clear HRT HBF HMK HK
    by_cases hi : (i : Int) < (n : Int)
    · have hi2 := hlt1 hi
      clear hlt1 hlt
      go_wp2
      exact HEND.out _ rfl
    · clear hlt1 hlt
      go_wp2
      exact HEND.out _ rfl
end Go.Proofs.Ytgghfmdciohinaa
