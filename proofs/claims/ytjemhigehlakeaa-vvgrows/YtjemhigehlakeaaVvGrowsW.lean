/-
  pannierlaw08.VvGrows answers true for any vector and number.
-/
import Derived.Test.YtjemhigehlakeaaVvGrowsM
namespace Go.Proofs.Ytjemhigehlakeaa
open Go.RowKit Go.Shelf Go.Maps
attribute [local go_sem] Oper.semAt_some

theorem may_getD {v : List Int} (h : MayV v) (k : Nat) : 0 ≤ v.getD k 0 ∧ v.getD k 0 ≤ 2147483647 := by
  by_cases hk : k < v.length
  · exact h.2 _ (getD_mem hk)
  · rw [getD_far (by omega)]
    decide
theorem blk_own {β : Type} {B g : Nat} {t : TypeId} {cs : List Value} : OwnFrom B (fun (_ : β) W => Blk W g t cs) := fun _ W W' row hs hg hr => hs.kept hg (fun e => by
  obtain ⟨_, o, ho, hc⟩ := hr g e.symm
  have h' : W.heap[g]? = some (.cells cs.toArray t (0, 0)) := hs
  rw [h'] at ho
  cases ho
  cases hc)
theorem wpIn_rangeFunc_box {F : Fence} {n : Nat} {P : Program} {α : Type} {g : Operand} {ps : Array Tmp} {assign body : Code} {Q : Exit → Act → World → Prop} {a : Act} {w : World}
    (hro : F.round = none) (h1 : 1 ≤ n) {gf : Nat} {lb : Array Value} (hg : a.eval g = .func (.func gf) #[] lb) (hFg : F.fn gf) (eg : ∀ args w, (callFunc gf args).run P w = .ok (.enter gf args) w)
    {encs : α → Array Value} {Kp : World → World → Prop} {S Sp : List α → Prop} {N : Nat} {w0 : World} (hseq : SeqStopsK F (n - 1) P gf lb encs Kp S Sp N w0)
    (hKt : ∀ {A B C : World}, Kp A B → Kp B C → Kp A C) (hKb : ∀ (W : World) (l : Nat) (o o' : Obj), w.heap.size ≤ l → W.heap[l]? = some o → o.isCells = false → o.isWalk = false → Kp W (W.putObj l o')) (hb0 : Below w0.heap.size w0 w) (hps : ∀ x, (encs x).size = ps.size)
    (I : List α → World → Prop) (Ix : Code → List α → World → Prop) (hI : OwnFrom w.heap.size I) (hIx : ∀ c, OwnFrom w.heap.size (Ix c)) (h0 : I [] w) (Bx : α → List Value) (t : TypeId) (B : Nat) (A : α → Nat → Act)
    (hassign : ∀ (l : Nat) (pre : List α) (x : α) (W : World) (K : Act → World → Prop), I pre W → (∀ gg W', KeepsFrom w.heap.size W W' → Kp W W' → I pre W' → Blk W' gg t (Bx x) → B ≤ gg → K (A x gg) W') →
      assign.wpIn (F.inRound l) (n - 1 - 1) P (Exit.then K (fun _ _ _ => False)) { tmps := (ps.zip (encs x)).foldl (fun t (p, v) => t.setIfInBounds p v) a.tmps, defers := [] } W)
    (hbody : ∀ (l : Nat) (pre : List α) (x : α) (gg : Nat) (W : World), I pre W → Blk W gg t (Bx x) → B ≤ gg → pre.length < N → body.wpIn (F.inRound l) (n - 1 - 1) P (ownPostG w.heap.size Kp I Ix (pre ++ [x]) W) (A x gg) W)
    (hdone : ∀ (D : Nat) (xs : List α) (W : World), w.heap.size ≤ D → S xs → I xs W → W.heap[D]? = some (.deferred (some [])) → Q .normal { a with defers := { target := .collected D, args := #[] } :: a.defers } W)
    (hstop : ∀ (D : Nat) (c : Code) (pre : List α) (W : World), w.heap.size ≤ D → Sp pre → Ix c pre W → W.heap[D]? = some (.deferred (some [])) → c.wpIn F n P Q { a with defers := { target := .collected D, args := #[] } :: a.defers } W) :
    (Code.rangeFunc g ps assign body).wpIn F n P Q a w :=
  wpIn_rangeFunc_ownH hro h1 hg hFg eg hseq (fun h k => hKt h k) hKb hb0 hps I Ix hI hIx h0 (fun x a' W => ∃ gg, a' = A x gg ∧ Blk W gg t (Bx x) ∧ B ≤ gg)
    (fun x a' _ W W' row ⟨gg, e, hb, hl⟩ hg hr => ⟨gg, e, blk_own () W W' row hb hg hr, hl⟩)
    (fun l pre x W K hi hK => hassign l pre x W K hi (fun gg W' h1 h2 h3 h4 h5 => hK _ W' h1 h2 h3 ⟨gg, rfl, h4, h5⟩))
    (fun l pre x a' W _ _ hi ⟨gg, e, hb, hl⟩ hlt => by subst e; exact hbody l pre x gg W hi hb hl hlt) hdone hstop
theorem ownFrom_size {β : Type} {B c : Nat} : OwnFrom B (fun (_ : β) W => c ≤ W.heap.size) := fun _ _ _ _ hs hg _ => Nat.le_trans hs hg.size
theorem n_rng {X N : Int} (h : N = X + 1) (hX : 0 ≤ X ∧ X ≤ 2147483647) (hx : ¬ 2147483647 ≤ X) : 1 ≤ N ∧ 0 ≤ N ∧ N ≤ 2147483647 := by omega

set_option maxRecDepth 100000 in
set_option maxHeartbeats 3200000 in
theorem vvGrows_walk (vo : Option Addr) (vc : Nat) (v : List Int) (origin : Int) (w : World) (hv : HV w vo vc v) (_ho : -9223372036854775808 ≤ origin ∧ origin ≤ 9223372036854775807) :
    Calls Try.prog 8 #[.slice vo v.length vc, .int .i64 origin] w fun e w' => e = .returned (.bool true) ∧ Below w.heap.size w w' := by
  clear _ho
  refine (callsIn_wide (n := 5)).1 ?_
  obtain ⟨m, HM⟩ : ∃ l, Hid (v.length = l) := ⟨_, hid rfl⟩
  rw [HM.out]
  have HV := hid hv
  clear hv
  refine callsIn_of_wp_marks Try.func8 rfl trivial ?_ rfl
  simp only [Try.ntmps8, List.size_toArray, List.length_cons, List.length_nil, Nat.reduceAdd, Nat.reduceSub, Array.replicate_succ, Array.replicate_zero, List.push_toArray, List.append_toArray, List.nil_append, List.cons_append]
  obtain ⟨W0, hW0⟩ : ∃ W0, W0 = (w.alloc (.cells #[.int .i64 origin] 3)).alloc (.cells #[.bool false] 4) := ⟨_, rfl⟩
  have hA : Below w.heap.size w W0 := by rw [hW0]; exact ((Below.refl _ w).alloc (Nat.le_refl _) _).alloc (by simp) _
  have bO : Boxed W0 w.heap.size 3 (.int .i64 origin) := by rw [hW0]; exact (Boxed.new w 3 _).alloc _
  have bR : Boxed W0 (w.heap.size + 1) 4 (.bool false) := by
    have := Boxed.new (w.alloc (.cells #[.int .i64 origin] 3)) 4 (.bool false)
    rw [World.size_alloc] at this
    rw [hW0]
    exact this
  have HA := hid hA
  have HO := hid bO
  have HR := hid bR
  have HV0 := hid (HV.out.below hA)
  clear hA bO bR HV
  gi_wp2_with fail
  rw [← hW0]
  clear hW0
  refine ⟨trivial, (callsIn_wide.2 (lives_any W0)).mono ?_⟩
  rintro e w1 ⟨rfl, hb1⟩
  have HA1 := hid (bt HA.out hb1)
  have HO1 : Hid (Boxed w1 w.heap.size 3 (.int .i64 origin)) := (hb1.block _ HO.out.lt).trans HO.out
  have HR1 : Hid (Boxed w1 (w.heap.size + 1) 4 (.bool false)) := (hb1.block _ HR.out.lt).trans HR.out
  have HV1 := hid (HV0.out.below hb1)
  clear hb1 HA HO HR HV0
  have co := HO1.out.cell
  have cr := HR1.out.cell
  have fr := HR1.out.frozen
  have HMY := hid (may_any w1 vo vc v m HM.out HV1.out)
  have HOF := hid (of_any w1 vo vc v m HM.out origin HV1.out.held)
  have hRt : Boxed (w1.setCell ⟨w.heap.size + 1, 0, none⟩ (.bool true)) (w.heap.size + 1) 4 (.bool true) := HR1.out.set (.bool true)
  have hbF : Below w.heap.size w (w1.setCell ⟨w.heap.size + 1, 0, none⟩ (.bool true)) := HA1.out.setCell (p := ⟨w.heap.size + 1, 0, none⟩) (by simp) _
  have HRT := hid hRt
  have HBF := hid hbF
  clear hRt hbF
  by_cases hmay : MayV v
  rotate_left 1
  · rw [decide_eq_false hmay] at HMY
    clear hmay
    gi_wp2_with fail
    refine ⟨trivial, (callsIn_wide.2 HMY.out).mono ?_⟩
    rintro e w9 ⟨rfl, rfl⟩
    gi_wp2
    repeat (refine ⟨trivial, ?_⟩; gi_wp2)
    exact ⟨_, results_cell4 rfl _ _ rfl HRT.out.cell, rfl, HBF.out⟩
  rw [decide_eq_true hmay] at HMY
  have HMAY := hid hmay
  clear hmay
  by_cases ho0 : origin < 0
  · gi_wp2_with fail
    refine ⟨trivial, (callsIn_wide.2 HMY.out).mono ?_⟩
    rintro e w9 ⟨rfl, rfl⟩
    gi_wp2
    repeat (refine ⟨trivial, ?_⟩; gi_wp2)
    exact ⟨_, results_cell4 rfl _ _ rfl HRT.out.cell, rfl, HBF.out⟩
  by_cases ho6 : 6 < origin
  · gi_wp2_with fail
    refine ⟨trivial, (callsIn_wide.2 HMY.out).mono ?_⟩
    rintro e w9 ⟨rfl, rfl⟩
    gi_wp2
    repeat (refine ⟨trivial, ?_⟩; gi_wp2)
    exact ⟨_, results_cell4 rfl _ _ rfl HRT.out.cell, rfl, HBF.out⟩
  obtain ⟨k, rfl⟩ := Int.eq_ofNat_of_zero_le (by omega : 0 ≤ origin)
  have HK : Hid (k ≤ 6) := (by omega : k ≤ 6)
  rw [ofV_nat] at HOF
  have HXR := hid (may_getD HMAY.out k)
  obtain ⟨X, HX⟩ : ∃ X, Hid (v.getD k 0 = X) := ⟨_, hid rfl⟩
  rw [HX.out] at HOF HXR
  have d0 : decide ((k : Int) < 0) = false := decide_eq_false ho0
  have d6 : decide (6 < (k : Int)) = false := decide_eq_false ho6
  by_cases hx : 2147483647 ≤ X
  · have dx : decide (2147483647 ≤ X) = true := decide_eq_true hx
    clear ho0 ho6
    gi_wp2_with fail
    refine ⟨trivial, (callsIn_wide.2 HMY.out).mono ?_⟩
    rintro e w9 ⟨rfl, rfl⟩
    gi_wp2_with fail
    refine ⟨trivial, (callsIn_wide.2 HOF.out).mono ?_⟩
    rintro e w9 ⟨rfl, rfl⟩
    gi_wp2
    repeat (refine ⟨trivial, ?_⟩; gi_wp2)
    exact ⟨_, results_cell4 rfl _ _ rfl HRT.out.cell, rfl, HBF.out⟩
  have dx : decide (2147483647 ≤ X) = false := decide_eq_false hx
  obtain ⟨N, HN⟩ : ∃ N, Hid (N = X + 1) := ⟨_, hid rfl⟩
  have HNV : Hid (N = v.getD k 0 + 1) := by show _ = _; rw [HX.out]; exact HN.out
  have HN1 := hid (n_rng HN.out HXR.out hx)
  have hw : wrap64 (X + 1) = N := by rw [HN.out]; exact wrapS (by have := HXR.out; omega) (by have := HXR.out; omega)
  obtain ⟨w2, hw2⟩ : ∃ w2, w2 = w1.alloc (.cells #[.int .i64 N] 3) := ⟨_, rfl⟩
  have hb12 : Below w1.heap.size w1 w2 := by rw [hw2]; exact (Below.refl _ _).alloc (Nat.le_refl _) _
  have HA2 := hid (bt HA1.out hb12)
  have HO2 : Hid (Boxed w2 w.heap.size 3 (.int .i64 (k : Int))) := (hb12.block _ HO1.out.lt).trans HO1.out
  have HR2 : Hid (Boxed w2 (w.heap.size + 1) 4 (.bool false)) := (hb12.block _ HR1.out.lt).trans HR1.out
  have HNB : Hid (Boxed w2 w1.heap.size 3 (.int .i64 N)) := by rw [hw2]; exact Boxed.new w1 3 _
  have HV2 := hid (HV1.out.below hb12)
  have co2 := HO2.out.cell
  have cn2 := HNB.out.cell
  rw [hw2] at co2 cn2
  have HS12 := hid hb12.size
  have HWI := hid (with_good w2 vo vc v m HM.out HV2.out k HK.out N HN1.out.2)
  clear hb12 ho0 ho6
  gi_wp2_with fail
  refine ⟨trivial, (callsIn_wide.2 HMY.out).mono ?_⟩
  rintro e w9 ⟨rfl, rfl⟩
  gi_wp2_with fail
  refine ⟨trivial, (callsIn_wide.2 HOF.out).mono ?_⟩
  rintro e w9 ⟨rfl, rfl⟩
  gi_wp2_with fail
  refine ⟨trivial, (callsIn_wide.2 HOF.out).mono ?_⟩
  rintro e w9 ⟨rfl, rfl⟩
  gi_wp2_with fail
  rw [← hw2]
  clear co2 cn2 hw2 hw co cr fr HRT HBF
  refine ⟨trivial, (callsIn_wide.2 HWI.out).mono ?_⟩
  rintro e w3 ⟨xo, xc, rfl, hx3, hb3⟩
  obtain ⟨L, HL⟩ : ∃ l, Hid ((plainOf (withOf v k N)).length = l) := ⟨_, hid rfl⟩
  rw [HL.out]
  have HA3 := hid (bt HA2.out hb3)
  have HO3 : Hid (Boxed w3 w.heap.size 3 (.int .i64 (k : Int))) := (hb3.block _ HO2.out.lt).trans HO2.out
  have HR3 : Hid (Boxed w3 (w.heap.size + 1) 4 (.bool false)) := (hb3.block _ HR2.out.lt).trans HR2.out
  have HN3 : Hid (Boxed w3 w9.heap.size 3 (.int .i64 N)) := (hb3.block _ HNB.out.lt).trans HNB.out
  have HV3 := hid (HV2.out.below hb3)
  have HX3 : Hid (HV w3 xo xc (oneMore v k N)) := hx3
  clear hx3 hb3 HA2 HO2 HR2 HNB HV2 HWI
  have co := HO3.out.cell
  have cn := HN3.out.cell
  have HC1 := hid (compare_any w3 vo xo vc xc v (oneMore v k N) m L HM.out HL.out HV3.out HX3.out)
  rw [one_cmp HNV.out] at HC1
  have HC2 := hid (count_any w3 xo xc (oneMore v k N) L HL.out HX3.out (one_may HMAY.out HK.out HN1.out.2))
  rw [one_cnt HNV.out HN1.out.1] at HC2
  have HC3 := hid (count_any w3 vo vc v m HM.out HV3.out HMAY.out)
  have HTR := hid (cnt_may HMAY.out v.length)
  rw [List.take_length] at HTR
  obtain ⟨T, HT⟩ : ∃ T, Hid (cntV v = T) := ⟨_, hid rfl⟩
  rw [HT.out] at HC2 HC3 HTR
  have hwT : wrap64 (T + 1) = T + 1 := wrapS (by have := HTR.out; omega) (by have := HTR.out; omega)
  gi_wp2_with fail
  refine ⟨trivial, (callsIn_wide.2 HC1.out).mono ?_⟩
  rintro e w4 ⟨rfl, rfl⟩
  gi_wp2_with fail
  refine ⟨trivial, (callsIn_wide.2 HC2.out).mono ?_⟩
  rintro e w5 ⟨rfl, rfl⟩
  gi_wp2_with fail
  refine ⟨trivial, (callsIn_wide.2 HC3.out).mono ?_⟩
  rintro e w6 ⟨rfl, rfl⟩
  clear HC1 HC2 HC3
  have HC4 := hid (has_any w6 xo xc (oneMore v k N) L HL.out HX3.out (k : Int) N)
  rw [one_has HN1.out.1] at HC4
  gi_wp2_with fail
  refine ⟨trivial, (callsIn_wide.2 HC4.out).mono ?_⟩
  rintro e w7 ⟨rfl, hb7⟩
  have HA7 := hid (bt HA3.out hb7)
  have HO7 : Hid (Boxed w7 w.heap.size 3 (.int .i64 (k : Int))) := (hb7.block _ HO3.out.lt).trans HO3.out
  have HR7 : Hid (Boxed w7 (w.heap.size + 1) 4 (.bool false)) := (hb7.block _ HR3.out.lt).trans HR3.out
  have HN7 : Hid (Boxed w7 w9.heap.size 3 (.int .i64 N)) := (hb7.block _ HN3.out.lt).trans HN3.out
  have HV7 := hid (HV3.out.below hb7)
  have HX7 := hid (HX3.out.below hb7)
  clear hb7 HA3 HO3 HR3 HN3 HV3 HX3 HC4 co cn
  have co := HO7.out.cell
  have cn := HN7.out.cell
  have HC5 := hid (has_any w7 vo vc v m HM.out HV7.out (k : Int) N)
  rw [one_not HNV.out] at HC5
  gi_wp2_with fail
  refine ⟨trivial, (callsIn_wide.2 HC5.out).mono ?_⟩
  rintro e w8 ⟨rfl, hb8⟩
  have HA8 := hid (bt HA7.out hb8)
  have HO8 : Hid (Boxed w8 w.heap.size 3 (.int .i64 (k : Int))) := (hb8.block _ HO7.out.lt).trans HO7.out
  have HR8 : Hid (Boxed w8 (w.heap.size + 1) 4 (.bool false)) := (hb8.block _ HR7.out.lt).trans HR7.out
  have HN8 : Hid (Boxed w8 w9.heap.size 3 (.int .i64 N)) := (hb8.block _ HN7.out.lt).trans HN7.out
  have HV8 := hid (HV7.out.below hb8)
  have HX8 := hid (HX7.out.below hb8)
  clear hb8 HA7 HO7 HR7 HN7 HV7 HX7 HC5 co cn
  have HU0 : Hid (Below w8.heap.size w8 (w8.alloc (.cells #[.int .i64 0] 3))) := (Below.refl _ _).alloc (Nat.le_refl _) _
  have HUi : Hid (Boxed (w8.alloc (.cells #[.int .i64 0] 3)) w8.heap.size 3 (.int .i64 0)) := Boxed.new w8 3 _
  have hU0s : w8.heap.size < (w8.alloc (.cells #[.int .i64 0] 3)).heap.size := by simp
  gi_wp2_with fail
  generalize w8.alloc (.cells #[.int .i64 0] 3) = U0 at *
  refine ⟨trivial, (callsIn_wide.2 (between2_any U0 vo xo vc xc v (oneMore v k N) m L HM.out HL.out (HV8.out.below HU0.out) (HX8.out.below HU0.out))).mono ?_⟩
  rintro e U1 ⟨_, _, _, _, rfl, _, hb01, _, _⟩
  have HU1 : Hid (Below w8.heap.size w8 U1) := bt HU0.out hb01
  have HUi1 : Hid (Boxed U1 w8.heap.size 3 (.int .i64 0)) := (hb01.block _ HUi.out.lt).trans HUi.out
  have s01 := hb01.size
  have hql := fun W => it_eql (U0.heap.size + 1) U0.heap.size W
  clear hb01
  gi_wp2_with fail
  clear hql
  refine ⟨trivial, (callsIn_wide.2 (between2_any U1 vo xo vc xc v (oneMore v k N) m L HM.out HL.out (HV8.out.below HU1.out) (HX8.out.below HU1.out))).mono ?_⟩
  rintro e U2 ⟨io, jo, ic, jc, rfl, hit, hb12, hoa, hob⟩
  have HU2 : Hid (Below w8.heap.size w8 U2) := bt HU1.out hb12
  have HUi2 : Hid (Boxed U2 w8.heap.size 3 (.int .i64 0)) := (hb12.block _ HUi1.out.lt).trans HUi1.out
  have s12 := hb12.size
  have HSQ := hid (betw_seq 4 (by omega) w8.heap.size U1.heap.size U1.heap.size (U1.heap.size + 1) U2 io jo ic jc v (oneMore v k N) (by omega) (Nat.le_refl _) (by omega) hit hoa hob s12)
  rw [one_dots HNV.out HN1.out.1 HMAY.out] at HSQ
  clear hit hb12 hoa hob HUi HUi1 HU0 HU1
  gi_wp2
  obtain ⟨I, hI0⟩ : ∃ I : List (Int × Int) → World → Prop, I = (fun (pre : List (Int × Int)) (W : World) => Boxed W w8.heap.size 3 (.int .i64 (pre.length : Int)) ∧ Below w8.heap.size w8 W ∧ U2.heap.size ≤ W.heap.size) := ⟨_, rfl⟩
  have hIo : OwnFrom U2.heap.size I := by
    rw [hI0]
    exact OwnFrom.and (Own.from (boxed_own w8.heap.size 3 (fun pre : List (Int × Int) => .int .i64 (pre.length : Int))) _) (OwnFrom.and (ownFrom_below (Nat.le_refl _) (by omega)) ownFrom_size)
  have hseq := HSQ.out
  apply wpIn_rangeFunc_box (encs := fun x : Int × Int => #[dotV x]) (Kp := Kq w8.heap.size U1.heap.size U2.heap.size) rfl (by omega) (gf := 44) (lb := #[.pointer (some ⟨U1.heap.size + 1, 0, none⟩), .pointer (some ⟨U1.heap.size, 0, none⟩)]) rfl trivial (enters_of Try.func44 (by kernel_rfl) rfl)
    hseq (fun a b => Kq.trans a b)
    (fun W l o o' hl ho hc hw => ⟨belowK_b (w := U2) (by omega) W l o o' hl ho hc hw, fun k _ h2 => (grownBy_putObj' W l o').block k (by have := (Array.getElem?_eq_some_iff.1 ho).1; omega) (by intro e; have := Option.some.inj e; omega)⟩)
    (Below.refl _ _) (fun _ => rfl) I (fun c pre W => (c = .ret ∧ ¬ pre <+: [((k : Int), N)]) ∨ (False ∧ I pre W)) hIo
    (fun c => ownFrom_or hIo (fun pre => False))
    (by rw [hI0]; exact ⟨HUi2.out, HU2.out, Nat.le_refl _⟩) (Bx := fun x => [.int .i64 x.1, .int .i64 x.2]) (t := 24) (B := U2.heap.size)
  case hassign =>
    intro l pre x W K hIp hK
    dsimp only [dotV]
    have hsW : U2.heap.size ≤ W.heap.size := by
      rw [hI0] at hIp
      exact hIp.2.2
    gi_wp2
    obtain ⟨g, hg⟩ : ∃ g, g = W.heap.size := ⟨_, rfl⟩
    have hbk : Blk (W.alloc (.cells #[.int .i64 x.1, .int .i64 x.2] 24)) g 24 [.int .i64 x.1, .int .i64 x.2] := by rw [hg]; exact Blk.new W 24 [.int .i64 x.1, .int .i64 x.2]
    have hgl : U2.heap.size ≤ g := by rw [hg]; exact hsW
    rw [← hg]
    exact hK g (W.alloc (.cells #[.int .i64 x.1, .int .i64 x.2] 24)) ((KeepsOthers.alloc W _).from _) (Kq.alloc W (by omega) hsW _) (hIo.alloc _ hIp) hbk hgl
  case hbody =>
    rintro l pre ⟨x1, x2⟩ g W hIp hbk hgl hlt
    rw [hI0] at hIp
    obtain ⟨hii, hB, hsW⟩ := hIp
    have hp0 : pre = [] := List.eq_nil_of_length_eq_zero (by simpa using hlt)
    subst hp0
    have hci := hii.cell
    have hfi := hii.frozen
    have bO : Boxed W w.heap.size 3 (.int .i64 (k : Int)) := (hB.block _ HO8.out.lt).trans HO8.out
    have bN : Boxed W w9.heap.size 3 (.int .i64 N) := (hB.block _ HN8.out.lt).trans HN8.out
    have bR : Boxed W (w.heap.size + 1) 4 (.bool false) := (hB.block _ HR8.out.lt).trans HR8.out
    have co := bO.cell
    have cn := bN.cell
    have cr := bR.cell
    have fr := bR.frozen
    have c0 := hbk.cell (i := 0) rfl
    have c1 := hbk.cell (i := 1) rfl
    have Hii := hid hii
    have HB := hid hB
    clear hii hB bO bN bR hbk hlt
    have hgne : w8.heap.size ≠ g := by omega
    by_cases hx1 : x1 = (k : Int)
    · by_cases hx2 : x2 = N
      · subst x1
        subst x2
        subst hI0
        gi_wp2
        refine ⟨(KeepsOthers.setCell _ _ _).from _, Kq.set W (Nat.le_refl _) (by omega) _, ?_⟩
        exact ⟨Hii.out.set (.int .i64 1), HB.out.setCell (p := ⟨w8.heap.size, 0, none⟩) (Nat.le_refl _) _, by simpa using hsW⟩
      · subst x1
        have hno : ¬ [((k : Int), x2)] <+: [((k : Int), N)] := fun hpf => hx2 (by have := hpf.eq_of_length rfl; simpa using this)
        have HNO := hid hno
        have hb2 : (x2 == N) = false := by simpa using hx2
        clear hno
        subst hI0
        gi_wp2
        first | exact ⟨(KeepsOthers.setCell _ _ _).from _, rfl, HNO.out⟩ | exact ⟨(KeepsOthers.setCell _ _ _).from _, .inl ⟨rfl, HNO.out⟩⟩
    · have hno : ¬ [(x1, x2)] <+: [((k : Int), N)] := fun hpf => hx1 (by have := hpf.eq_of_length rfl; simp at this; exact this.1)
      have HNO := hid hno
      have hb2 : (x1 == (k : Int)) = false := by simpa using hx1
      clear hno
      subst hI0
      gi_wp2
      first | exact ⟨(KeepsOthers.setCell _ _ _).from _, rfl, HNO.out⟩ | exact ⟨(KeepsOthers.setCell _ _ _).from _, .inl ⟨rfl, HNO.out⟩⟩
  case hdone =>
    rintro D xs W hD rfl hIp hDef
    rw [hI0] at hIp
    obtain ⟨hii, hB, hsW⟩ := hIp
    have hci : W.cell? ⟨w8.heap.size, 0, none⟩ = some (.int .i64 1) := hii.cell
    have bO : Boxed W w.heap.size 3 (.int .i64 (k : Int)) := (hB.block _ HO8.out.lt).trans HO8.out
    have bN : Boxed W w9.heap.size 3 (.int .i64 N) := (hB.block _ HN8.out.lt).trans HN8.out
    have bR : Boxed W (w.heap.size + 1) 4 (.bool false) := (hB.block _ HR8.out.lt).trans HR8.out
    have co := bO.cell
    have cn := bN.cell
    have HRW := hid bR
    have hrl : w.heap.size + 1 < w8.heap.size := HR8.out.lt
    have HIW : Hid (Boxed W w8.heap.size 3 (.int .i64 1)) := hii
    have HAW := hid (bt HA8.out hB)
    have HVW := hid (HV8.out.below hB)
    have HXW := hid (HX8.out.below hB)
    have HDef := hid hDef
    have hDl : D < W.heap.size := (Array.getElem?_eq_some_iff.1 hDef).1
    have hwn : wrap64 (N - 1) = N - 1 := wrapS (by have := HN1.out; omega) (by have := HN1.out; omega)
    have HW1 := hid (with_good W xo xc (oneMore v k N) L HL.out HXW.out k HK.out (N - 1) (by have := HN1.out; omega))
    rw [one_back HNV.out] at HW1
    obtain ⟨L2, HL2⟩ : ∃ l, Hid ((plainOf v).length = l) := ⟨_, hid rfl⟩
    clear hii hB bO bN bR hDef hI0 hIo hseq
    gi_wp2_with fail
    refine ⟨trivial, (callsIn_wide.2 HW1.out).mono ?_⟩
    rintro e Y1 ⟨yo, yc, rfl, hy, hbY⟩
    rw [HL2.out]
    have HY1 := hid hbY
    have HYV := hid hy
    have bi1 : Boxed Y1 w8.heap.size 3 (.int .i64 1) := (hbY.block _ HIW.out.lt).trans HIW.out
    have hci := bi1.cell
    clear bi1
    clear hy hbY HW1
    have HPL := hid (plain_any Y1 vo vc v m HM.out (HVW.out.below HY1.out))
    gi_wp2_with fail
    refine ⟨trivial, (callsIn_wide.2 HPL.out).mono ?_⟩
    rintro e Y2 ⟨zo, zc, rfl, hz, hbZ⟩
    rw [HL2.out]
    have HZV := hid hz
    have HY2 := hid (bt HY1.out hbZ)
    have HYV2 := hid (HYV.out.below hbZ)
    clear hz hbZ HPL
    have HSM := hid (same_any Y2 yo zo yc zc (plainOf v) (plainOf v) L2 L2 HL2.out HL2.out HYV2.out HZV.out)
    rw [decide_eq_true (show plainOf v = plainOf v by rfl)] at HSM
    gi_wp2_with fail
    refine ⟨trivial, (callsIn_wide.2 HSM.out).mono ?_⟩
    rintro e Y3 ⟨rfl, q3, hq3⟩
    have HY3 : Hid (Below W.heap.size W Y3) := (by rw [hq3]; exact below_dn HY2.out q3 : Below W.heap.size W Y3)
    have HR3 : Hid (Boxed Y3 (w.heap.size + 1) 4 (.bool false)) := (HY3.out.block _ HRW.out.lt).trans HRW.out
    have hcr := HR3.out.cell
    have hfr := HR3.out.frozen
    clear hq3 HSM
    gi_wp2
    have hK1 : (Y3.setCell ⟨w.heap.size + 1, 0, none⟩ (.bool true)).heap[D]? = some (.deferred (some [])) := by
      rw [Below.heap_setCell _ _ _ _ (by simp; omega)]
      exact (HY3.out.block D hDl).trans HDef.out
    have hRf : Boxed ((Y3.setCell ⟨w.heap.size + 1, 0, none⟩ (.bool true)).putObj D (.deferred none)) (w.heap.size + 1) 4 (.bool true) := by
      unfold Boxed
      rw [World.putObj_heap_other (by omega)]
      exact HR3.out.set (.bool true)
    have hbF : Below w.heap.size w ((Y3.setCell ⟨w.heap.size + 1, 0, none⟩ (.bool true)).putObj D (.deferred none)) :=
      ((bt HAW.out HY3.out).setCell (p := ⟨w.heap.size + 1, 0, none⟩) (by simp) _).trans (belowK_b (w := w) (Nat.le_refl _) _ D _ _ (by omega) hK1 rfl rfl)
    refine ⟨by simp, .inl ⟨_, _, rfl, run_takeDeferred hK1, ?_⟩⟩
    exact ⟨_, results_cell4 rfl _ _ rfl hRf.cell, rfl, hbF⟩
  case hstop =>
    rintro D c pre W hD hpf hIp hDef
    rcases hIp with ⟨_, hno⟩ | ⟨hf, _⟩
    · exact absurd hpf hno
    · exact hf.elim
end Go.Proofs.Ytjemhigehlakeaa
