/-
  The document's log: Put.
-/
import Derived.Test.YtjlompnjhmbhhaaGreatOlJ
import Derived.Test.YtjlompnjhmbhhaaGreatOlK1
import Derived.Test.YtjlompnjhmbhhaaGreatOlK2
import Derived.Test.YtjlompnjhmbhhaaGreatOlK3
import Derived.Test.YtjlompnjhmbhhaaGreatOlL1
import Derived.Test.YtjlompnjhmbhhaaGreatOlL2
import Derived.Test.YtjlompnjhmbhhaaGreatOlO
import Derived.Shelf.SlMaps.Clone
import Derived.Shelf.Lay
import Derived.Ground.SlmcProg
import Derived.Deep.RegionHeld3
namespace Go.Proofs.YtjlompnjhmbhhaaGreat
open Go.RowKit Go.Maps

theorem DlAt.put {w0 w : World} {x cap cap2 : Nat} {g : Dm} {eo fo : Option Addr} (h : DlAt w0 w x g eo cap fo cap2) (y : EvM) (hy : EvOk w0 y) : Calls Tryz.prog 7 #[.pointer (some ⟨x, 0, none⟩), y.val] w (RPutP w0 w x (FootR x eo g.L.length cap fo g.W.length cap2) g y) := by
  by_cases hm : MayE y.e
  rotate_left 1
  · exact h.putNo y hy ⟨100, .wrong hm⟩
  by_cases hh : HasV (vecL (evs g.L)) y.e.o y.e.s
  · exact h.putNo y hy ⟨5, .has hm hh⟩
  by_cases hk : KnowM g.W y.e
  · exact h.putNo y hy ⟨5, .known hm hk⟩
  by_cases hl : 65536 ≤ g.L.length
  · exact h.putNo y hy ⟨2, .full hm hh hk hl⟩
  have hpl := posM_le g.W y.e
  by_cases hr : ReadyE (vecL (evs g.L)) y.e
  · by_cases hpos : posM g.W y.e < g.W.length
    · exact h.putGoMid y hy hm hh hk (by omega) hr hpos
    · exact h.putGoEnd y hy hm hh hk (by omega) hr (by omega)
  · by_cases hw : 4096 ≤ g.W.length
    · exact h.putNo y hy ⟨2, .fullW hm hh hk (by omega) hr hw⟩
    by_cases hpos : posM g.W y.e < g.W.length
    · exact h.putWaitMid y hy hm hh hk (by omega) hr (by omega) hpos
    · cases fo with
      | none => exact h.putWaitNone y hy hm hh hk (by omega) hr (by omega) (by omega) rfl
      | some ad =>
        obtain ⟨b, rfl⟩ := row_someE h.rowW
        exact h.putWaitEnd y hy hm hh hk (by omega) hr (by omega) (by omega) b 0 rfl
end Go.Proofs.YtjlompnjhmbhhaaGreat
/-
  Package oplog: Fork.
-/
namespace Go.Proofs
open Go.Shelf Go.RowKit Go.Lib
shelf_lay_g SlLaysW.n5 Slmc 5 at Tryz 32 as YtjlompnjhmbhhaaGreat.cloneLm
end Go.Proofs
namespace Go.Proofs.YtjlompnjhmbhhaaGreat
open Go.RowKit Go.Maps

theorem cloneEvs {V : World} {m n : Nat} {S : Dots} {D : DataW Value} (h : EvMap V m S n D) : Calls Tryz.prog 32 #[.map (some m)] V fun e w' => ∃ m', e = .returned (.map (some m')) ∧ EvMap w' m' S n D ∧ V.heap.size ≤ m' ∧ m' < w'.heap.size ∧ Below V.heap.size V w' := by
  have hc := AnyW.maps_Clone_owns cloneLm 25 valR m n D V h.map
  refine Calls.mono hc ?_
  rintro e w' ⟨rfl, h1, _, h3⟩
  exact ⟨_, rfl, ⟨h1, h.key, (h.below h3).ok, h.cnt⟩, Nat.le_refl _, h1.lt, h3⟩
/-- What Fork answers. -/
def LkFork (w : World) (g : Lg) (p' me' mw' : Nat) (w' : World) : Prop := LogAt w' p' me' mw' g ∧ (∀ i, FootL p' me' mw' i → w.heap.size ≤ i) ∧ Below w.heap.size w w'
set_option maxRecDepth 1000000 in
set_option maxHeartbeats 2000000 in
theorem LogAt.fork {w : World} {p me mw : Nat} {g : Lg} (h : LogAt w p me mw g) : Calls Tryz.prog 11 #[.pointer (some ⟨p, 0, none⟩)] w fun e w' => ∃ p' me' mw', e = .returned (.pointer (some ⟨p', 0, none⟩)) ∧ LkFork w g p' me' mw' w' := by
  have H := hid h
  have HCL := hid (closedL_no h)
  obtain ⟨De, hem⟩ := h.em
  obtain ⟨Dw, hwm⟩ := h.wm
  obtain ⟨ao, cap, hbk, hhv, hnev⟩ := h.blk
  have HEM := hid hem
  have HWM := hid hwm
  have HBK := hid hbk
  have HHV := hid hhv
  obtain ⟨N, HN⟩ : ∃ n, Hid (g.A.length = n) := ⟨_, hid rfl⟩
  rw [HN.out] at HBK
  have HC1 : Hid (∀ V, Sc w V → Calls Tryz.prog 31 #[.slice ao N cap] V fun e w' => ∃ bo cp, e = .returned (.slice bo N cp) ∧ Hid (HV w' bo cp g.A ∧ NEv w' bo g.A) ∧ Sc w w') := fun V hV => by
    refine (clone3_any V ao cap g.A N HN.out (HHV.out.below hV.out)).mono ?_
    rintro e w' ⟨bo, cp, rfl, h1, h2, _, h4⟩
    rw [HN.out]
    exact ⟨bo, cp, rfl, ⟨h1, h4⟩, hV.go h2⟩
  have HC2 : Hid (∀ U V, Sc w U → Sc U V → Calls Tryz.prog 32 #[.map (some me)] V fun e w' => ∃ m', e = .returned (.map (some m')) ∧ Hid (EvMap w' m' g.E g.ne De ∧ U.heap.size ≤ m' ∧ m' < w'.heap.size) ∧ Sc U w') := fun U V hU hV => by
    refine (cloneEvs (HEM.out.below (bt hU.out hV.out))).mono ?_
    rintro e w' ⟨m', rfl, h1, h2, h3, h4⟩
    exact ⟨m', rfl, ⟨h1, Nat.le_trans hV.size h2, h3⟩, hV.go h4⟩
  have HC3 : Hid (∀ U V, Sc w U → Sc U V → Calls Tryz.prog 32 #[.map (some mw)] V fun e w' => ∃ m', e = .returned (.map (some m')) ∧ Hid (EvMap w' m' g.W g.nw Dw ∧ U.heap.size ≤ m' ∧ m' < w'.heap.size) ∧ Sc U w') := fun U V hU hV => by
    refine (cloneEvs (HWM.out.below (bt hU.out hV.out))).mono ?_
    rintro e w' ⟨m', rfl, h1, h2, h3, h4⟩
    exact ⟨m', rfl, ⟨h1, Nat.le_trans hV.size h2, h3⟩, hV.go h4⟩
  have HSA : Hid (∀ V, Sc w V → (Sc w V ∧ V.cell? ⟨p, 0, none⟩ = some (.slice ao N cap) ∧ V.cell? ⟨p, 1, none⟩ = some (.map (some me)) ∧ V.cell? ⟨p, 2, none⟩ = some (.map (some mw)))) := fun V hV => by
    have h1 := HBK.out.below hV.out HBK.out.lt
    exact ⟨hV, h1.cell rfl, h1.cell rfl, h1.cell rfl⟩
  have HMK : Hid (∀ w5 w6 w7 a5 c5 m6 m7, Sc w w5 → (HV w5 a5 c5 g.A ∧ NEv w5 a5 g.A) → Sc w5 w6 → (EvMap w6 m6 g.E g.ne De ∧ w5.heap.size ≤ m6 ∧ m6 < w6.heap.size) → Sc w6 w7 → (EvMap w7 m7 g.W g.nw Dw ∧ w6.heap.size ≤ m7 ∧ m7 < w7.heap.size) → LkFork w g w7.heap.size m6 m7 (w7.alloc (.cells #[.slice a5 N c5, .map (some m6), .map (some m7)] 43))) := fun w5 w6 w7 a5 c5 m6 m7 s5 h5 s6 h6 s7 h7 => by
    have hb : Below w7.heap.size w7 (w7.alloc (.cells #[.slice a5 N c5, .map (some m6), .map (some m7)] 43)) := (Below.refl _ _).alloc (Nat.le_refl _) _
    have hbk := Blk.new w7 43 [.slice a5 N c5, .map (some m6), .map (some m7)]
    have b57 : Below w5.heap.size w5 (w7.alloc (.cells #[.slice a5 N c5, .map (some m6), .map (some m7)] 43)) := bt (bt s6.out s7.out) hb
    have b67 : Below w6.heap.size w6 (w7.alloc (.cells #[.slice a5 N c5, .map (some m6), .map (some m7)] 43)) := bt s7.out hb
    refine ⟨⟨⟨a5, c5, by rw [HN.out]; exact hbk, h5.1.below b57, h5.2.stay h5.1.held (Turns.of_below (F := fun _ => False) b57 (Nat.le_refl _)) (fun _ _ _ _ h => h)⟩, by have := h6.2.2; have := h7.2.1; omega, H.out.may, ⟨De, h6.1.below b67⟩, ⟨Dw, h7.1.below hb⟩, H.out.has, H.out.evs, H.out.wait, H.out.fewE, H.out.fewW⟩, ?_, bt (bt (bt s5.out s6.out) s7.out) hb⟩
    have z1 := s5.size
    have z2 := s6.size
    have z3 := s7.size
    have z4 := h6.2.1
    have z5 := h7.2.1
    rintro i (rfl | rfl | rfl) <;> omega
  clear h hem hwm hbk hhv hnev
  go_enter Tryz.func11, Tryz.ntmps11
  go_wp2_with fail
  refine HCL.out.mono ?_
  rintro e w1 ⟨rfl, rfl⟩
  go_wp2
  go_region_held3 (fun V => Sc w1 V ∧ V.cell? ⟨p, 0, none⟩ = some (.slice ao N cap) ∧ V.cell? ⟨p, 1, none⟩ = some (.map (some me)) ∧ V.cell? ⟨p, 2, none⟩ = some (.map (some mw)))
    ((refine HSA.out _ ?_; (repeat (first | with_reducible assumption | exact Sc.start _ | apply Sc.dr | apply Sc.alloc | (refine Sc.go ?_ (Sc.out (by assumption)))))))
    (first
      | (go_at_call 31; with_reducible refine (HC1.out _ (by (repeat (first | with_reducible assumption | exact Sc.start _ | apply Sc.dr)))).mono ?_; rintro e w5 ⟨a5, c5, rfl, HF5, hs5⟩)
      | (go_at_call 32; with_reducible refine (HC2.out w5 _ hs5 (by (repeat (first | with_reducible assumption | exact Sc.start _ | apply Sc.dr)))).mono ?_; rintro e w6 ⟨m6, rfl, HF6, hs6⟩; have hs6' : Sc w1 w6 := hs5.go hs6.out)
      | (go_at_call 32; with_reducible refine (HC3.out w6 _ hs6' (by (repeat (first | with_reducible assumption | exact Sc.start _ | apply Sc.dr)))).mono ?_; rintro e w7 ⟨m7, rfl, HF7, hs7⟩; have hs7' : Sc w1 w7 := hs6'.go hs7.out)
      | fail)
  have hF : Hid (LkFork w1 g w7.heap.size m6 m7 (w7.alloc (.cells #[.slice a5 N c5, .map (some m6), .map (some m7)] 43))) := HMK.out w5 w6 w7 a5 c5 m6 m7 hs5 HF5.out hs6 HF6.out hs7 HF7.out
  go_wp2
  go_ret
  exact ⟨_, m6, m7, rfl, hF.out⟩
end Go.Proofs.YtjlompnjhmbhhaaGreat
/-
  Both logs side by side in one world; Put of both, in memory; what is turned beside them.
-/
namespace Go.Proofs.YtjlompnjhmbhhaaGreat
open Go.RowKit Go.Maps

/-- The program's log, the document's: the same, behind w0. -/
structure DuL (w0 w : World) (p me mw x : Nat) (g : Lg) (gm : Dm) : Prop where
  L : LogAt w p me mw g
  D : ∃ eo cap fo cap2, DlAt w0 w x gm eo cap fo cap2
  same : SameO g gm.d
  nod : NodE gm.d.L
  bl : ∀ i, FootL p me mw i → w0.heap.size ≤ i
section
variable {w0 w w' : World} {p me mw x : Nat} {g : Lg} {gm : Dm} {eo fo : Option Addr} {cap cap2 : Nat}
theorem not_footL (hL : LogAt w p me mw g) {i : Nat} {t : TypeId} {cs : List Value} (hb : Blk w i t cs) (ht : t ≠ 43) : ¬ FootL p me mw i := by
  rintro (rfl | rfl | rfl)
  · obtain ⟨_, _, h, _⟩ := hL.blk
    exact ht (blk_typeL hb h)
  · obtain ⟨D, h⟩ := hL.em
    exact hb.not_map h.map rfl
  · obtain ⟨D, h⟩ := hL.wm
    exact hb.not_map h.map rfl
theorem foot_apart (hL : LogAt w p me mw g) (hD : DlAt w0 w x gm eo cap fo cap2) : ∀ i, FootR x eo gm.L.length cap fo gm.W.length cap2 i → ¬ FootL p me mw i := by
  rintro i (rfl | hi | hi)
  · exact not_footL hL hD.blk (by decide)
  · obtain ⟨cs, hb⟩ := row_blk hD.rowL hi
    exact not_footL hL hb (by decide)
  · obtain ⟨cs, hb⟩ := row_blk hD.rowW hi
    exact not_footL hL hb (by decide)
theorem DuL.bel (h : DuL w0 w p me mw x g gm) : Below w0.heap.size w0 w := by
  obtain ⟨_, _, _, _, hD⟩ := h.D
  exact hD.bel
theorem DuL.below (h : DuL w0 w p me mw x g gm) (hb : Below w.heap.size w w') : DuL w0 w' p me mw x g gm := by
  obtain ⟨eo, cap, fo, cap2, hD⟩ := h.D
  exact ⟨h.L.below hb, ⟨eo, cap, fo, cap2, hD.below hb⟩, h.same, h.nod, h.bl⟩
/-- What a call on the document's log turns is none of the program's. -/
theorem ke_of (hD : DlAt w0 w x gm eo cap fo cap2) (ht : Turns (FootR x eo gm.L.length cap fo gm.W.length cap2) w w') : Ke (fun i => i = x) w w' := by
  refine Turns.mono ht (fun i hi => ?_)
  rcases hi with rfl | hi | hi
  · exact .inl rfl
  · exact .inr (row_blk hD.rowL hi)
  · exact .inr (row_blk hD.rowW hi)
theorem noInt_x (hD : DlAt w0 w x gm eo cap fo cap2) : NoInt w (fun i => i = x ∧ i < w.heap.size) := by
  have h := noInt_blk hD.blk (by simp)
  exact fun i hi => h i hi.1
/-- What both Puts leave: rows that tell the same, apart from what was there. -/
structure PairP (w0 w w2 : World) (p me mw x : Nat) (F : Nat → Prop) (g : Lg) (ro qo : Option Addr) (n : Nat) : Prop where
  out : ∃ (g' : Lg) (gm' : Dm) (ys zs : List EvM), DuL w0 w2 p me mw x g' gm' ∧ HeldE w2 ro ys ∧ AllOk w0 zs ∧ HeldE w2 qo zs ∧ ys.length = n ∧ zs.length = n ∧ ys.map (·.e) = zs.map (·.e) ∧ n ≤ 65536 ∧
    (∀ b, b < w.heap.size → AwayL w p g b → AwayL w2 p g' b) ∧ (∀ y ∈ ys, ∀ b, b < w.heap.size → NotIn y.ao y.e.deps b) ∧ (∀ b, ro = some ⟨b, 0, none⟩ → w.heap.size ≤ b) ∧ (ro = none ∨ ∃ b, ro = some ⟨b, 0, none⟩) ∧ w.heap.size ≤ w2.heap.size ∧ Turns F w w2 ∧ ∀ b off, qo = some ⟨b, off, none⟩ → w.heap.size ≤ b
theorem held_of_rowE {B : Nat} {eo : Option Addr} {n c : Nat} {ys : List EvM} (h : RowE B w (.slice eo n c) ys) : HeldE w eo ys ∧ ys.length = n ∧ (∀ b, eo = some ⟨b, 0, none⟩ → B ≤ b) ∧ (eo = none ∨ ∃ b, eo = some ⟨b, 0, none⟩) := by
  have hn : ys.length = n := by
    rcases h.row.2 with ⟨he, h0⟩ | ⟨g, c', cur, he, _⟩
    · cases he; exact h0
    · cases he; rfl
  subst hn
  obtain ⟨ao, cp, he, _, h2⟩ := heldE_of_own rfl h.row (fun y hy => (h.keep y hy).ok)
  cases he
  refine ⟨h2, rfl, fun b e => ?_, ?_⟩
  · subst e
    exact (h.row.lt b rfl).1
  · rcases h.row.2 with ⟨he, h0⟩ | ⟨g, c', cur, he, _⟩
    · injection he with h1 _ _; exact .inl h1
    · injection he with h1 _ _; exact .inr ⟨_, h1⟩
theorem own_lenE {B n : Nat} {eo : Option Addr} {k c : Nat} {xs : List Value} (h : w.ownsRow B 33 8 (.slice eo k c) n xs) : k = n := by
  rcases h.2 with ⟨he, h0⟩ | ⟨g, c', cur, he, _⟩
  · cases he; exact h0.symm
  · cases he; rfl
theorem PutP2.mid {w1 : World} {X : Ev} {e1 : Ending} (hL : LogAt w p me mw g) (hp : PutP2 w p me mw g X e1 w1) : (∃ g', AtG w p me mw g' w1) ∧ ∃ (ro : Option Addr) (n rc : Nat) (c : Int), e1 = .returned (.tuple #[.slice ro n rc, .int .i64 c]) := by
  constructor
  · cases hp with
    | wrong _ hb => exact ⟨g, hL.below hb, Turns.of_below hb (Nat.le_refl _)⟩
    | twice _ _ hb => exact ⟨g, hL.below hb, Turns.of_below hb (Nat.le_refl _)⟩
    | full _ _ _ _ hb => exact ⟨g, hL.below hb, Turns.of_below hb (Nat.le_refl _)⟩
    | goes _ _ _ _ _ _ _ _ _ ha _ _ => exact ⟨_, ha⟩
    | waits _ _ _ _ _ _ _ ha _ => exact ⟨_, ha⟩
  · cases hp with
    | wrong _ _ => exact ⟨none, 0, 0, 100, rfl⟩
    | twice _ _ _ => exact ⟨none, 0, 0, 5, rfl⟩
    | full _ _ _ _ _ => exact ⟨none, 0, 0, 2, rfl⟩
    | goes _ _ _ _ _ hrow _ _ _ _ _ _ =>
      obtain ⟨eo', cp', rfl⟩ := own_slice' hrow.row
      exact ⟨eo', _, cp', 0, rfl⟩
    | waits _ _ _ _ _ _ _ _ _ => exact ⟨none, 0, 0, 0, rfl⟩
theorem DuL.puts (h : DuL w0 w p me mw x g gm) (hD : DlAt w0 w x gm eo cap fo cap2) {w1 : World} {X Y : EvM} {e1 : Ending} (hp : PutP2 w p me mw g X.e e1 w1) (hY : EvOk w0 Y) (hXY : Y.e = X.e) :
    ∃ (ro : Option Addr) (n rc : Nat) (c : Int), e1 = .returned (.tuple #[.slice ro n rc, .int .i64 c]) ∧ Calls Tryz.prog 7 #[.pointer (some ⟨x, 0, none⟩), Y.val] w1 (fun e2 w2 => ∃ qo qc, e2 = .returned (.tuple #[.slice qo n qc, .int .i64 c]) ∧ PairP w0 w w2 p me mw x (fun i => FootL p me mw i ∨ FootR x eo gm.L.length cap fo gm.W.length cap2 i) g ro qo n) := by
  -- the program's log and the document's, behind the first call
  have hat := (hp.mid h.L).1
  obtain ⟨_, _, ht1⟩ := hat
  have hap := foot_apart h.L hD
  have hD1 : DlAt w0 w1 x gm eo cap fo cap2 := hD.turned ht1 hap h.bl
  have hcall := hD1.put Y hY
  -- its answer
  have hans := (hp.mid h.L).2
  obtain ⟨ro, n, rc, c, rfl⟩ := hans
  refine ⟨ro, n, rc, c, rfl, hcall.mono ?_⟩
  intro e2 w2 hr
  have hb := put_same2 h.same h.L hD1 h.nod hXY hp hr
  obtain ⟨r, r', c', g', gm', ys, zs, he1, rfl, hS', hn', hG', hto, hrow, hown, hok, hev, hlen, haw, hfr⟩ := hb
  injection he1 with he1
  injection he1 with he1
  simp only [Array.mk.injEq, List.cons.injEq, and_true, Value.int.injEq, true_and] at he1
  obtain ⟨rfl, rfl⟩ := he1
  obtain ⟨eo', cap', fo', cap2', hD2, ht2, hf2⟩ := hto
  obtain ⟨q1, q2, q3, q4⟩ := held_of_rowE hrow
  have hzl : zs.length = n := by
    have := congrArg List.length hev
    rw [List.length_map] at this
    rw [evs_len] at this
    omega
  obtain ⟨qo, qc, hq⟩ := own_slice' hown
  subst hq
  have hK := ke_of hD1 ht2
  have hNI := noInt_x hD1
  have hxF : ∀ i, FootL p me mw i → ¬ i = x := fun i hi e => by
    subst e
    exact not_footL hG'.1 hD1.blk (by decide) hi
  have hL2 : LogAt w2 p me mw g' := hK.log hG'.1 hxF hNI
  have hrowF : ∀ b, (Value.slice ro n rc).ownBlock = some b → ¬ FootR x eo gm.L.length cap fo gm.W.length cap2 b := fun b hb hf => by
    have h1 := (hrow.row.lt b hb).1
    have h2 := hD.foot_lt b hf
    omega
  have hrow2 : RowE w.heap.size w2 (.slice ro n rc) ys := ⟨ht2.row hrow.row hrowF, fun y hy => hK.keep (hrow.keep y hy) (noInt_fo hNI (hrow.keep y hy).ok.deps.held)⟩
  have hpl : p < w.heap.size := h.L.lt p (.inl rfl)
  refine ⟨qo, qc, by rw [hzl], ⟨g', gm', ys, zs, ⟨hL2, ⟨eo', cap', fo', cap2', hD2⟩, hS', hn', h.bl⟩, (held_of_rowE hrow2).1, hok, ?_, q2, hzl, hev, by omega, fun b hb ha => (haw b hb ha).of_cell (cell_block (ht2.block p (Nat.lt_of_lt_of_le hpl hG'.2.size) (fun hf => hap p hf (.inl rfl)))), hfr, q3, q4, Nat.le_trans hG'.2.size ht2.size, ?_, fun b off e => ?_⟩⟩
  · obtain ⟨ao, cp, he, _, h2⟩ := heldE_of_own rfl hown (hok.below hD2.bel)
    cases he
    exact h2
  · exact (hG'.2.mono (fun i hi => .inl hi)).trans (ht2.mono (fun i hi => .inr hi)) (fun i hi => .inl hi)
  · subst e
    exact Nat.le_trans ht1.size (hown.lt b rfl).1
/-- A block of numbers beside both logs, away from what they keep, may be turned. -/
theorem held_away {b : Nat} {ao : Option Addr} {xs : List Int} (h : HeldInt w ao xs) (ha : NotIn ao xs b) (ht : Turns (fun i => i = b) w w') : HeldInt w' ao xs := h.turned ht (fun b' off e hne k => ha hne off (by rw [e, k]))
theorem keep_away {b : Nat} {y : EvM} (h : EvKeep w y) (ha : NotIn y.ao y.e.deps b) (ht : Turns (fun i => i = b) w w') : EvKeep w' y :=
  ⟨⟨⟨held_away h.ok.deps.held ha ht, h.ok.deps.room, h.ok.deps.few⟩, h.ok.io, h.ok.is, h.ok.ie, h.ok.iq, h.ok.hc, h.ok.hs⟩, h.ne.stay h.ok.deps.held ht (fun b' off e hne k => ha hne off (by rw [e, k]))⟩
theorem LogAt.away {b : Nat} (h : LogAt w p me mw g) (ha : AwayL w p g b) (ht : Turns (fun i => i = b) w w') (hb : ¬ FootL p me mw b) : LogAt w' p me mw g := by
  obtain ⟨ao, cap, h1, h2, h2'⟩ := h.blk
  obtain ⟨De, h3⟩ := h.em
  obtain ⟨Dw, h4⟩ := h.wm
  have hao := ha.vec ao _ cap (h1.cell (i := 0) rfl)
  have hne : ∀ i, FootL p me mw i → ¬ i = b := fun i hi e => hb (by rw [← e]; exact hi)
  refine ⟨⟨ao, cap, ht.blk h1 (hne p (.inl rfl)), ⟨held_away h2.held hao ht, h2.room, h2.few⟩, h2'.stay h2.held ht (fun b' off e hne k => hao hne off (by rw [e, k]))⟩, h.apart, h.may, ⟨De, ?_⟩, ⟨Dw, ?_⟩, h.has, h.evs, h.wait, h.fewE, h.fewW⟩
  · exact ⟨ht.map h3.map (hne me (.inr (.inl rfl))), h3.key, fun o s y hy => ⟨keep_away (h3.ok o s y hy).1 (ha.E o s y hy) ht, (h3.ok o s y hy).2⟩, h3.cnt⟩
  · exact ⟨ht.map h4.map (hne mw (.inr (.inr rfl))), h4.key, fun o s y hy => ⟨keep_away (h4.ok o s y hy).1 (ha.W o s y hy) ht, (h4.ok o s y hy).2⟩, h4.cnt⟩
theorem held_lt {b : Nat} {ao : Option Addr} {xs : List Int} (h : HeldInt w ao xs) (hb : w.heap.size ≤ b) : NotIn ao xs b := fun hne off e => by
  rcases h.2 with h0 | ⟨b', off', e', hl, _⟩
  · exact hne h0
  · rw [e] at e'
    cases e'
    omega
/-- What the log keeps lies in no block that is yet to come. -/
theorem LogAt.far {b : Nat} (h : LogAt w p me mw g) (hb : w.heap.size ≤ b) : AwayL w p g b := by
  obtain ⟨ao, cap, h1, h2, _⟩ := h.blk
  obtain ⟨De, h3⟩ := h.em
  obtain ⟨Dw, h4⟩ := h.wm
  refine ⟨fun ao' n' cap' hc => ?_, fun o s y hy => held_lt (h3.ok o s y hy).1.ok.deps.held hb, fun o s y hy => held_lt (h4.ok o s y hy).1.ok.deps.held hb⟩
  have h5 := (h1.cell (i := 0) rfl).symm.trans hc
  cases h5
  exact held_lt h2.held hb
theorem DuL.away {b : Nat} {t : TypeId} {cs : List Value} (h : DuL w0 w p me mw x g gm) (ha : AwayL w p g b) (ht : Turns (fun i => i = b) w w') (hb : Blk w b t cs) (h1 : t ≠ 43) (h2 : t ≠ 30) (h3 : t ≠ 33) (hB : w0.heap.size ≤ b) : DuL w0 w' p me mw x g gm := by
  obtain ⟨eo, cap, fo, cap2, hD⟩ := h.D
  refine ⟨h.L.away ha ht (not_footL h.L hb h1), ⟨eo, cap, fo, cap2, hD.turned ht (fun i hi e => ?_) (fun i hi => by rw [hi]; exact hB)⟩, h.same, h.nod, h.bl⟩
  subst e
  rcases hi with rfl | hi | hi
  · exact h2 (blk_typeL hb hD.blk)
  · obtain ⟨_, hc⟩ := row_blk hD.rowL hi
    exact h3 (blk_typeL hb hc)
  · obtain ⟨_, hc⟩ := row_blk hD.rowW hi
    exact h3 (blk_typeL hb hc)
/-- Both logs, both rows, the event's box and its vector that is turned. -/
structure SevL (w0 V : World) (p me mw x eb b XN : Nat) (g : Lg) (gm : Dm) (ro qo : Option Addr) (ys zs : List EvM) (bo : Option Addr) (cells : List Value) : Prop where
  du : DuL w0 V p me mw x g gm
  aw : AwayL V p g b
  hy : HeldE V ro ys
  fr : ∀ y ∈ ys, NotIn y.ao y.e.deps b
  rb : ∀ b' off, ro = some ⟨b', off, none⟩ → b' ≠ b
  ok : AllOk w0 zs
  hz : HeldE V qo zs
  qb : ∀ b' off, qo = some ⟨b', off, none⟩ → b' ≠ b
  box : Blk V eb 33 cells
  dep : XN = 0 ∨ (bo = some ⟨b, 0, none⟩ ∧ ∃ cs, Blk V b 3 cs ∧ XN ≤ cs.length)
  hb : w0.heap.size ≤ b
theorem heldE_turnB {b : Nat} {ao : Option Addr} {xs : List EvM} (h : HeldE w ao xs) (ha : AllOk w' xs) (ht : Turns (fun i => i = b) w w') (hn : ∀ b' off, ao = some ⟨b', off, none⟩ → b' ≠ b) : HeldE w' ao xs := by
  refine ⟨ha, ?_⟩
  rcases h.2 with h0 | ⟨b', off, e, h2, h3⟩
  · exact .inl h0
  · refine .inr ⟨b', off, e, Nat.lt_of_lt_of_le h2 ht.size, fun j hj c u hu => ?_⟩
    have h4 := h3 j hj c u hu
    have h5 := ht.block b' h2 (hn b' off e)
    unfold World.cell? at h4 ⊢
    rw [h5]
    exact h4
theorem SevL.step {eb b XN j : Nat} {ro qo bo : Option Addr} {ys zs : List EvM} {cells : List Value} {u : Value} {V V' : World} (h : SevL w0 V p me mw x eb b XN g gm ro qo ys zs bo cells) (hj : j < XN) (hV : V' = V.setCell ⟨b, j, none⟩ u) : SevL w0 V' p me mw x eb b XN g gm ro qo ys zs bo cells := by
  obtain ⟨hbo, cs, hblk, hlen⟩ := h.dep.resolve_left (by omega)
  have ht : Turns (fun i => i = b) V V' := by rw [hV]; exact (Turns.refl (fun i => i = b) V).setCell (p := ⟨b, j, none⟩) (.inl rfl) _
  have hpb : p ≠ b := fun e => not_footL h.du.L hblk (by decide) (.inl e.symm)
  have hdu := h.du.away h.aw ht hblk (by decide) (by decide) (by decide) h.hb
  have heb : eb ≠ b := fun e => by
    subst e
    exact absurd (blk_typeL h.box hblk) (by decide)
  refine ⟨hdu, h.aw.turned (h.du.L.lt p (.inl rfl)) ht hpb, heldE_turnB h.hy (fun y hy => ?_) ht h.rb, h.fr, h.rb, h.ok, heldE_turnB h.hz (h.ok.below hdu.bel) ht h.qb, h.qb, ht.blk h.box heb, .inr ⟨hbo, cs.set j u, ?_, ?_⟩, h.hb⟩
  · have hk := h.hy.1 y hy
    exact ⟨⟨held_away hk.deps.held (h.fr y hy) ht, hk.deps.room, hk.deps.few⟩, hk.io, hk.is, hk.ie, hk.iq, hk.hc, hk.hs⟩
  · rw [hV]
    exact hblk.set j u
  · rw [List.length_set]
    exact hlen
/-- A fork in the place of the log, while the old one is turned. -/
theorem DuL.forked {w1 w2 : World} {p' me' mw' : Nat} (h : DuL w0 w p me mw x g gm) (hf : LkFork w g p' me' mw' w1) (ht : Turns (FootL p me mw) w1 w2) : DuL w0 w2 p' me' mw' x g gm := by
  have h1 := h.below hf.2.2
  obtain ⟨eo, cap, fo, cap2, hD⟩ := h1.D
  refine ⟨hf.1.turned ht (fun i hi hc => ?_) h1.L.noInt, ⟨eo, cap, fo, cap2, hD.turned ht (foot_apart h1.L hD) h1.bl⟩, h.same, h.nod, fun i hi => Nat.le_trans h.bel.size (hf.2.1 i hi)⟩
  have a1 := hf.2.1 i hi
  have a2 := h.L.lt i hc
  omega
end
end Go.Proofs.YtjlompnjhmbhhaaGreat
