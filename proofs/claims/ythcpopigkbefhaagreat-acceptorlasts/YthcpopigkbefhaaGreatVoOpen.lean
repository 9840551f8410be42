/-
  SameVoted of lists of votes that are the same.
-/
import Derived.Test.YthcpopigkbefhaaGreatAcH
import Derived.Test.YthcpopigkbefhaaGreatScLa
import Derived.Test.YthcpopigkbefhaaGreatAcY
import Derived.Test.YthcpopigkbefhaaGreatRows
import Derived.Test.YthcpopigkbefhaaGreatIntsA
import Derived.Lib.SmallJoins
import Derived.Test.YthcpopigkbefhaaGreatVoA
import Derived.Deep.SlicePairs
import Derived.ChangeSlices
import Derived.SizedLaws
namespace Go.Proofs.YthcpopigkbefhaaGreat
open Go.RowKit Go.Shelf Go.Maps

theorem sv_parts {x y : VoM} (h : x.sv = y.sv) : ∃ sl r n e ao1 c1 ao2 c2, x = ⟨sl, (r, n), ⟨e, ao1, c1⟩⟩ ∧ y = ⟨sl, (r, n), ⟨e, ao2, c2⟩⟩ := by
  obtain ⟨s1, ⟨r1, n1⟩, e1, ao1, c1⟩ := x
  obtain ⟨s2, ⟨r2, n2⟩, e2, ao2, c2⟩ := y
  simp only [VoM.sv, VoM.vt, Prod.mk.injEq] at h
  obtain ⟨rfl, ⟨rfl, rfl⟩, rfl⟩ := h
  exact ⟨_, _, _, _, _, _, _, _, rfl, rfl⟩
set_option maxRecDepth 1000000 in
set_option maxHeartbeats 4000000 in
theorem sameVos_B (w : World) (ao bo : Option Addr) (ca cb : Nat) (xs ys : List VoM) (N : Nat) (hn : xs.length = N) (hx : HeldVo w ao xs) (hy : HeldVo w bo ys) (he : xs.map VoM.sv = ys.map VoM.sv) (hl : N ≤ 4096) :
    Calls Tryz.prog 9 #[.slice ao N ca, .slice bo N cb] w fun e w' => e = .returned (.bool true) ∧ Below w.heap.size w w' := by
  have HN := hid hn
  have HM : Hid (ys.length = N) := by have := congrArg List.length he; simp at this; exact hid (by omega)
  have HX := hid hx
  have HY := hid hy
  have HE := hid he
  clear hn hx hy he
  go_enter Tryz.func9, Tryz.ntmps9
  go_wp2
  go_loopw [5] (fun x wr => ∃ i : Nat, i ≤ N ∧ x = .int .i64 i ∧ Hid (Below w.heap.size w wr)) (fun x _ => N - (intOf x).toNat)
  case atStart => exact ⟨0, Nat.zero_le _, rfl, Below.refl _ _⟩
  case round =>
    obtain ⟨i, hi, rfl, HB⟩ := hrel
    by_cases hlt : i < N
    · have hlt' : (i : Int) < (N : Int) := by omega
      have hix : Hid (i < xs.length) := (by rw [HN.out]; exact hlt : i < xs.length)
      have hiy : Hid (i < ys.length) := (by rw [HM.out]; exact hlt : i < ys.length)
      have HIM : Hid (i + 1 ≤ N) := (by omega : i + 1 ≤ N)
      obtain ⟨g1, f1, hao, hg1, e1⟩ := (HX.out.below HB.out).at hix.out
      obtain ⟨g2, f2, hbo, hg2, e2⟩ := (HY.out.below HB.out).at hiy.out
      subst hao hbo
      have HL1 := hid hg1
      have HL2 := hid hg2
      clear hg1 hg2
      have HOX := hid ((HX.out.1 _ (List.getElem_mem hix.out)).below HB.out)
      have HOY := hid ((HY.out.1 _ (List.getElem_mem hiy.out)).below HB.out)
      have hsv : (xs[i]'hix.out).sv = (ys[i]'hiy.out).sv := by
        have h1 : (xs.map VoM.sv)[i]? = (ys.map VoM.sv)[i]? := by rw [HE.out]
        rw [List.getElem?_map, List.getElem?_map, List.getElem?_eq_getElem hix.out, List.getElem?_eq_getElem hiy.out] at h1
        exact Option.some.inj h1
      obtain ⟨sl, r, n, ⟨np, tk, ct, ep, dp⟩, ao1, cap1, ao2, cap2, hX, hY⟩ := sv_parts hsv
      rw [hX] at e1 HOX
      rw [hY] at e2 HOY
      simp only [VoM.cells] at e1 e2
      obtain ⟨XN, HXN⟩ : ∃ m, Hid (dp.length = m) := ⟨_, hid rfl⟩
      rw [HXN.out] at e1 e2
      have HSE : Hid (∀ V, ScL wr V → Calls Tryz.prog 15 #[.agg #[.bool np, .string tk, .string ct, .int .i64 ep, .slice ao1 XN cap1], .agg #[.bool np, .string tk, .string ct, .int .i64 ep, .slice ao2 XN cap2]] V fun e w' => e = .returned (.bool true) ∧ ScL wr w') := fun V hV => by
        have h1 := sameEntry_B V ⟨np, tk, ct, ep, dp⟩ ao1 ao2 cap1 cap2 (HOX.out.en.cut.below hV.out) (HOY.out.en.cut.below hV.out)
        simp only [EnM.val] at h1
        rw [HXN.out] at h1
        exact h1.mono fun e w' ⟨h2, h3⟩ => ⟨h2, hV.go h3⟩
      have HSA : Hid (∀ V, ScL wr V → (ScL wr V ∧ V.cell? ⟨g1, f1 + i * 8, none⟩ = some (.int .i64 sl) ∧ V.cell? ⟨g1, f1 + i * 8 + 1, none⟩ = some (.int .i64 r) ∧ V.cell? ⟨g1, f1 + i * 8 + 2, none⟩ = some (.int .i64 n) ∧ V.cell? ⟨g1, f1 + i * 8 + 3, none⟩ = some (.bool np) ∧ V.cell? ⟨g1, f1 + i * 8 + 4, none⟩ = some (.string tk) ∧ V.cell? ⟨g1, f1 + i * 8 + 5, none⟩ = some (.string ct) ∧ V.cell? ⟨g1, f1 + i * 8 + 6, none⟩ = some (.int .i64 ep) ∧ V.cell? ⟨g1, f1 + i * 8 + 7, none⟩ = some (.slice ao1 XN cap1) ∧ V.cell? ⟨g2, f2 + i * 8, none⟩ = some (.int .i64 sl) ∧ V.cell? ⟨g2, f2 + i * 8 + 1, none⟩ = some (.int .i64 r) ∧ V.cell? ⟨g2, f2 + i * 8 + 2, none⟩ = some (.int .i64 n) ∧ V.cell? ⟨g2, f2 + i * 8 + 3, none⟩ = some (.bool np) ∧ V.cell? ⟨g2, f2 + i * 8 + 4, none⟩ = some (.string tk) ∧ V.cell? ⟨g2, f2 + i * 8 + 5, none⟩ = some (.string ct) ∧ V.cell? ⟨g2, f2 + i * 8 + 6, none⟩ = some (.int .i64 ep) ∧ V.cell? ⟨g2, f2 + i * 8 + 7, none⟩ = some (.slice ao2 XN cap2))) := fun V hV => ⟨hV, (hV.out.cell (p := ⟨g1, _, none⟩) HL1.out).trans (e1 0 _ rfl), (hV.out.cell (p := ⟨g1, _, none⟩) HL1.out).trans (e1 1 _ rfl), (hV.out.cell (p := ⟨g1, _, none⟩) HL1.out).trans (e1 2 _ rfl), (hV.out.cell (p := ⟨g1, _, none⟩) HL1.out).trans (e1 3 _ rfl), (hV.out.cell (p := ⟨g1, _, none⟩) HL1.out).trans (e1 4 _ rfl), (hV.out.cell (p := ⟨g1, _, none⟩) HL1.out).trans (e1 5 _ rfl), (hV.out.cell (p := ⟨g1, _, none⟩) HL1.out).trans (e1 6 _ rfl), (hV.out.cell (p := ⟨g1, _, none⟩) HL1.out).trans (e1 7 _ rfl), (hV.out.cell (p := ⟨g2, _, none⟩) HL2.out).trans (e2 0 _ rfl), (hV.out.cell (p := ⟨g2, _, none⟩) HL2.out).trans (e2 1 _ rfl), (hV.out.cell (p := ⟨g2, _, none⟩) HL2.out).trans (e2 2 _ rfl), (hV.out.cell (p := ⟨g2, _, none⟩) HL2.out).trans (e2 3 _ rfl), (hV.out.cell (p := ⟨g2, _, none⟩) HL2.out).trans (e2 4 _ rfl), (hV.out.cell (p := ⟨g2, _, none⟩) HL2.out).trans (e2 5 _ rfl), (hV.out.cell (p := ⟨g2, _, none⟩) HL2.out).trans (e2 6 _ rfl), (hV.out.cell (p := ⟨g2, _, none⟩) HL2.out).trans (e2 7 _ rfl)⟩
      clear e1 e2 hX hY hsv HOX HOY
      have hsc0 := ScL.start wr
      go_wp2
      go_region_held3 (fun V => ScL wr V ∧ V.cell? ⟨g1, f1 + i * 8, none⟩ = some (.int .i64 sl) ∧ V.cell? ⟨g1, f1 + i * 8 + 1, none⟩ = some (.int .i64 r) ∧ V.cell? ⟨g1, f1 + i * 8 + 2, none⟩ = some (.int .i64 n) ∧ V.cell? ⟨g1, f1 + i * 8 + 3, none⟩ = some (.bool np) ∧ V.cell? ⟨g1, f1 + i * 8 + 4, none⟩ = some (.string tk) ∧ V.cell? ⟨g1, f1 + i * 8 + 5, none⟩ = some (.string ct) ∧ V.cell? ⟨g1, f1 + i * 8 + 6, none⟩ = some (.int .i64 ep) ∧ V.cell? ⟨g1, f1 + i * 8 + 7, none⟩ = some (.slice ao1 XN cap1) ∧ V.cell? ⟨g2, f2 + i * 8, none⟩ = some (.int .i64 sl) ∧ V.cell? ⟨g2, f2 + i * 8 + 1, none⟩ = some (.int .i64 r) ∧ V.cell? ⟨g2, f2 + i * 8 + 2, none⟩ = some (.int .i64 n) ∧ V.cell? ⟨g2, f2 + i * 8 + 3, none⟩ = some (.bool np) ∧ V.cell? ⟨g2, f2 + i * 8 + 4, none⟩ = some (.string tk) ∧ V.cell? ⟨g2, f2 + i * 8 + 5, none⟩ = some (.string ct) ∧ V.cell? ⟨g2, f2 + i * 8 + 6, none⟩ = some (.int .i64 ep) ∧ V.cell? ⟨g2, f2 + i * 8 + 7, none⟩ = some (.slice ao2 XN cap2))
        (first | (refine HSA.out _ ?_; (repeat (first | with_reducible assumption | with_reducible exact ScL.start _ | with_reducible apply ScL.dr)); done))
        ((go_at_call 15; with_reducible refine (HSE.out _ (by (repeat (first | assumption | exact ScL.start _ | apply ScL.dr)))).mono ?_; rintro e w5 ⟨rfl, hs5⟩; have HS5 := hid hs5))
      all_goals
        go_wp2
        go_roundw
        case rel => exact ⟨i + 1, HIM.out, by go_num, bt' HB.out HS5.out.out⟩
        case measure => simp [intOf]; have := HIM.out; omega
    · have hlt' : ¬ (i : Int) < (N : Int) := by omega
      go_wp2
      go_ret
      exact ⟨rfl, HB.out⟩
end Go.Proofs.YthcpopigkbefhaaGreat
/-
  What AcceptorLasts asks of acceptors behind a first world: Replay of a record that On told, Promised, Votes.
-/
namespace Go.Proofs.YthcpopigkbefhaaGreat
open Go.RowKit Go.Maps

section
variable {a b : Ac} {x : MsM} {k r n : Int} {R : ByteArray} {ok : Bool}
/-- No record: nothing changed. -/
theorem OnF.empty (h : OnF a x k r n R ok b) (ha : AcOk a) (hR : R = ⟨#[]⟩) : b = a := by
  cases ok with
  | false => exact (h.no rfl).1
  | true =>
    obtain ⟨_, _, h3, h4⟩ := h.yes rfl
    by_cases hc : changesA a x = true
    · rw [if_pos hc, hR] at h4
      exact absurd h4.symm (recOf_ne x)
    · rw [h3]
      exact after_same ha (by simpa using hc)
/-- A record: it is the message, which was taken. -/
theorem OnF.full (h : OnF a x k r n R ok b) (hR : ¬ R = ⟨#[]⟩) : takesA a x = true ∧ kindA a x ≠ 5 ∧ b = afterA a x ∧ R = recOf x := by
  cases ok with
  | false => exact absurd (h.no rfl).2 hR
  | true =>
    obtain ⟨_, _, h3, h4⟩ := h.yes rfl
    by_cases hc : changesA a x = true
    · rw [if_pos hc] at h4
      refine ⟨h.is, fun h5 => ?_, h3, h4⟩
      unfold changesA at hc
      rw [if_neg (by rw [h5]; decide), if_neg (by rw [h5]; decide)] at hc
      cases hc
    · rw [if_neg hc] at h4
      exact absurd h4 hR
end
theorem takesA_len {a : Ac} {x : MsM} (h : takesA a x = true) : (encMs x).length ≤ 65536 := by
  unfold takesA at h
  simp only [Bool.and_eq_true] at h
  exact of_decide_eq_true h.2.2.2
theorem recOf_size (x : MsM) : (recOf x).size = (encMs x).length := by
  unfold recOf
  rw [strOfNums_size]
section
variable {B : Nat} {w : World} {p m : Nat} {a : Ac}
theorem AcIn.replays (h : AcIn B w p m a) (hB : B ≤ w.heap.size) {x : MsM} (ht : takesA a x = true) (hk : kindA a x ≠ 5) : Calls Tryz.prog 7 #[.pointer (some ⟨p, 0, none⟩), .string (recOf x)] w fun e w' => e = .returned (.int .i64 0) ∧ AcIn B w' p m (afterA a x) ∧ Turns (FootA p m) w w' ∧ Below B w w' := by
  have hl : (recOf x).size ≤ 65536 := by rw [recOf_size]; exact takesA_len ht
  have hr := recOf_reads (takesA_right ht)
  refine (h.at'.replay (recOf x) (by unfold maxLen; omega)).mono ?_
  rintro e w' ⟨b, E, rfl, h1, h2, h3⟩
  have hbl : Below B w w' := h2.below h.foot hB
  rcases h3 with ⟨rfl, y, _, hy, _, _, rfl⟩ | ⟨_, _, hno⟩
  · rw [hr] at hy
    have hd : x.d = y.d := by injection hy with hy; injection hy
    refine ⟨rfl, ⟨?_, h.bp, h.bm⟩, h2, hbl⟩
    rw [after_d hd]
    exact h1
  · exact absurd ⟨x, hl, hr, ht, hk⟩ hno
theorem AcIn.prom {r n : Int} (h : AcIn B w p m a) (hp : a.pr = (r, n)) : Calls Tryz.prog 8 #[.pointer (some ⟨p, 0, none⟩)] w fun e w' => e = .returned (.agg #[.int .i64 r, .int .i64 n]) ∧ Below w.heap.size w w' := by
  have h1 := h.at'.promised
  unfold PromP at h1
  rw [hp] at h1
  exact h1
theorem AcIn.vots {N : Nat} (h : AcIn B w p m a) (hN : a.ks.length = N) : Calls Tryz.prog 10 #[.pointer (some ⟨p, 0, none⟩)] w fun e w' => ∃ vo vc, e = .returned (.slice vo N vc) ∧ Hid (∃ ys, ys.map VoM.sv = fromTo a 0 a.ks.length ∧ HeldVI w' vo ys ∧ ys.length = N ∧ N ≤ 4096) ∧ Below w.heap.size w w' := by
  refine h.at'.votes.mono ?_
  rintro e w' ⟨vo, vc, ys, rfl, h1, h2, h3, _, h4⟩
  have hl : ys.length = N := by
    rw [fromTo_all h.at'.ok] at h1
    have := congrArg List.length h1
    simpa [hN] using this
  rw [hl]
  exact ⟨vo, vc, rfl, ⟨ys, h1, h2, hl, by rw [← hl]; exact h3⟩, h4⟩
end
/-- SameVoted of what two acceptors that are the same answer. -/
theorem sameVo2 {V u1 u2 : World} {vo vo' : Option Addr} {vc vc' N : Nat} {a : Ac} (h1 : Hid (∃ ys, ys.map VoM.sv = fromTo a 0 a.ks.length ∧ HeldVI u1 vo ys ∧ ys.length = N ∧ N ≤ 4096)) (h2 : Hid (∃ ys, ys.map VoM.sv = fromTo a 0 a.ks.length ∧ HeldVI u2 vo' ys ∧ ys.length = N ∧ N ≤ 4096)) (b1 : Below u1.heap.size u1 V) (b2 : Below u2.heap.size u2 V) : Calls Tryz.prog 9 #[.slice vo N vc, .slice vo' N vc'] V fun e w' => e = .returned (.bool true) ∧ Below V.heap.size V w' := by
  obtain ⟨ys, e1, k1, l1, n1⟩ := h1.out
  obtain ⟨zs, e2, k2, l2, n2⟩ := h2.out
  exact sameVos_B V vo vo' vc vc' ys zs N l1 (k1.below b1).held (k2.below b2).held (e1.trans e2.symm) n1
end Go.Proofs.YthcpopigkbefhaaGreat
/-
  How an argument of type api.Ballot is read.
-/
namespace Go.Proofs.YthcpopigkbefhaaGreat
open Go.RowKit Go.ChangeShapes Go.WideShapes Go.Deep

/-- Whole numbers of 64 bits. -/
def In64B (x : Int) : Prop := -9223372036854775808 ≤ x ∧ x ≤ 9223372036854775807
theorem in64B_wf {x : Int} (h : (Lit.int .i64 x).wf = true) : In64B x := by
  simp [Lit.wf, IntKind.min, IntKind.max, IntKind.signed, IntKind.bits] at h
  exact ⟨by omega, by omega⟩
theorem arr2B {α : Type} {cs : List α} (h : cs.length = 2) : ∃ c0 c1, cs = [c0, c1] := by
  match cs, h with
  | [c0, c1], _ => exact ⟨c0, c1, rfl⟩
theorem Tryz.cellsBal : Tryz.prog.cellsOf 29 = 2 := by kernel_rfl

set_option maxRecDepth 100000 in
theorem bal_of_trod {H : Type} {enc : TypeId × Value → H} {w : World} {base : Nat} {spare : Nat → Bool} {held : Bool} {fuel : Nat} {cs : List Value} {x : DataW H × List MemPlace} (h : DataW.trod enc Tryz.prog w base spare held fuel 29 cs = some x) :
    ∃ o s : Int, cs = [.int .i64 o, .int .i64 s] ∧ In64B o ∧ In64B s := by
  obtain ⟨xs, n, _, _, hl, hlen, hf⟩ := DataW.trod_struct Tryz.underlying29 h
  rw [Tryz.cellsBal] at hl
  obtain ⟨c0, c1, rfl⟩ := arr2B hl
  obtain ⟨y0, y1, rfl⟩ := arr2B hlen
  have g : ∀ (i : Nat) (f : Field), (#[_, _] : Array Field)[i]? = some f → _ := hf
  have h0 := g 0 _ rfl
  have h1 := g 1 _ rfl
  have k3 : Tryz.prog.cellsOf 3 = 1 := by kernel_rfl
  simp [k3] at h0 h1
  obtain ⟨a0, e0, _, w0⟩ := DataW.trod_int Tryz.underlying3 h0
  obtain ⟨a1, e1, _, w1⟩ := DataW.trod_int Tryz.underlying3 h1
  simp at e0 e1
  subst e0 e1
  exact ⟨a0, a1, rfl, in64B_wf w0, in64B_wf w1⟩
set_option maxRecDepth 100000 in
theorem open_bal {H : Type} {enc : TypeId × Value → H} {w : World} {base b0 : Nat} {r : Reach} {spare : Nat → Bool} {held : Bool} {v : Value} {d : DataW H} {p : List MemPlace} (hv : Value.okWide Tryz.prog w r b0 29 v) (h : DataW.Trod enc Tryz.prog w base spare held 29 v d p) :
    ∃ o s : Int, v = .agg #[.int .i64 o, .int .i64 s] ∧ In64B o ∧ In64B s := by
  obtain ⟨cs, rfl, _⟩ := okWide_struct Tryz.underlying29 hv
  obtain ⟨fuel, hf⟩ := h
  obtain ⟨o, s, ho, h1, h2⟩ := bal_of_trod hf
  refine ⟨o, s, ?_, h1, h2⟩
  simp [Value.cells] at ho
  rw [show cs = #[.int .i64 o, .int .i64 s] from Array.ext' ho]
end Go.Proofs.YthcpopigkbefhaaGreat
/-
  How an argument of type []api.Voted is read, where it takes no more than the form's own reach.
-/
namespace Go.Proofs.YthcpopigkbefhaaGreat
open Go.RowKit Go.ChangeShapes Go.WideShapes Go.Deep

theorem weightsAll_inB {H : Type} {P : Program} {e : TypeId} : ∀ {l : List (DataW H)} {d : DataW H}, d ∈ l → ∀ n ∈ d.weights P e, n ∈ DataW.weightsAll P e l
  | [], _, h, _, _ => by cases h
  | x :: l, d, h, n, hn => by
    simp only [DataW.weightsAll, List.mem_append]
    rcases List.mem_cons.1 h with rfl | h
    · exact .inl hn
    · exact .inr (weightsAll_inB h n hn)
/-- What an element of a slice takes. -/
theorem sized_elemB {H : Type} {P : Program} {ts : List TypeId} {ds : List (DataW H)} (h : (DataW.weightsEach P ts ds).all (· ≤ reachBytes) = true) {j : Nat} {t e : TypeId} {elems spare : List (DataW H)} (ht : ts[j]? = some t) (hd : ds[j]? = some (.slice elems spare)) (hu : P.underlying t = some (.slice e))
    {d : DataW H} (hm : d ∈ elems) : ∀ n ∈ d.weights P e, n ≤ reachBytes := by
  intro n hn
  have h2 := weightsAll_inB hm n hn
  have := List.all_eq_true.1 h n (DataW.weights_mem_each ht hd n (by simp only [DataW.weights, hu]; exact List.mem_cons_of_mem _ (List.mem_append_left _ h2)))
  simpa using this
theorem slice_trodB {H : Type} {enc : TypeId × Value → H} {w : World} {base : Nat} {spare : Nat → Bool} {held : Bool} {fuel : Nat} {v : Value} {x : DataW H × List MemPlace} (h : DataW.trod enc Tryz.prog w base spare held fuel 30 [v] = some x) : ∃ a l c, v = .slice a l c := by
  rcases open_ints Tryz.underlying30 Tryz.underlying3 (by kernel_rfl) h with ⟨hcs, _⟩ | ⟨x, l, c, zs, hcs, _⟩
  · simp at hcs; exact ⟨_, _, _, hcs⟩
  · simp at hcs; exact ⟨_, _, _, hcs⟩
theorem arr4B {α : Type} {cs : List α} (h : cs.length = 4) : ∃ c0 c1 c2 c3, cs = [c0, c1, c2, c3] := by
  match cs, h with
  | [c0, c1, c2, c3], _ => exact ⟨c0, c1, c2, c3, rfl⟩
theorem arr5B {α : Type} {cs : List α} (h : cs.length = 5) : ∃ c0 c1 c2 c3 c4, cs = [c0, c1, c2, c3, c4] := by
  match cs, h with
  | [c0, c1, c2, c3, c4], _ => exact ⟨c0, c1, c2, c3, c4, rfl⟩
theorem arr3B {α : Type} {cs : List α} (h : cs.length = 3) : ∃ c0 c1 c2, cs = [c0, c1, c2] := by
  match cs, h with
  | [c0, c1, c2], _ => exact ⟨c0, c1, c2, rfl⟩
theorem arr8B {α : Type} {cs : List α} (h : cs.length = 8) : ∃ c0 c1 c2 c3 c4 c5 c6 c7, cs = [c0, c1, c2, c3, c4, c5, c6, c7] := by
  match cs, h with
  | [c0, c1, c2, c3, c4, c5, c6, c7], _ => exact ⟨c0, c1, c2, c3, c4, c5, c6, c7, rfl⟩
theorem Tryz.cellsSeB : Tryz.prog.cellsOf 32 = 4 := by kernel_rfl
theorem Tryz.cellsEn : Tryz.prog.cellsOf 34 = 5 := by kernel_rfl
theorem Tryz.cellsVo : Tryz.prog.cellsOf 58 = 8 := by kernel_rfl
set_option maxRecDepth 100000 in
theorem sl_sizedB {H : Type} {enc : TypeId × Value → H} {w : World} {base : Nat} {held : Bool} {fuel : Nat} {cs : List Value} {x : DataW H × List MemPlace} (h : DataW.trod enc Tryz.prog w base (fun _ => true) held fuel 32 cs = some x) (hw : ∀ n ∈ x.1.weights Tryz.prog 32, n ≤ reachBytes) :
    ∃ (tk ct : ByteArray) (ep : Int) (cut : List Int) (ao : Option Addr) (cap : Nat), cs = [.string tk, .string ct, .int .i64 ep, .slice ao cut.length cap] ∧ HV w ao cap cut ∧ In64B ep ∧ tk.size ≤ maxLen ∧ ct.size ≤ maxLen := by
  obtain ⟨xs, n, _, hxe, hl, hlen, hf⟩ := DataW.trod_struct Tryz.underlying32 h
  rw [Tryz.cellsSeB] at hl
  obtain ⟨c0, c1, c2, c3, rfl⟩ := arr4B hl
  obtain ⟨y0, y1, y2, y3, rfl⟩ := arr4B hlen
  have g : ∀ (i : Nat) (f : Field), (#[_, _, _, _] : Array Field)[i]? = some f → _ := hf
  have h0 := g 0 _ rfl
  have h1 := g 1 _ rfl
  have h2 := g 2 _ rfl
  have h3 := g 3 _ rfl
  have k3 : Tryz.prog.cellsOf 3 = 1 := by kernel_rfl
  have k9 : Tryz.prog.cellsOf 9 = 1 := by kernel_rfl
  have k27 : Tryz.prog.cellsOf 30 = 1 := by kernel_rfl
  simp [k3, k9, k27] at h0 h1 h2 h3
  obtain ⟨s0, e0, _, w0⟩ := DataW.trod_string Tryz.underlying9 h0
  obtain ⟨s1, e1, _, w1⟩ := DataW.trod_string Tryz.underlying9 h1
  obtain ⟨a2, e2, _, w2⟩ := DataW.trod_int Tryz.underlying3 h2
  obtain ⟨a3, l3, d3, rfl⟩ := slice_trodB h3
  simp at e0 e1 e2
  subst e0 e1 e2
  obtain ⟨ds, hds, ⟨hh, hr⟩, hd⟩ := open_nums (d := y3.1) (p := y3.2) ⟨n, h3⟩
  have hb : l3 ≤ 17592186044416 := by
    rcases hd with h | ⟨es, sp, hd, he⟩
    · omega
    · have hreach := hw ((es.length + sp.length) * 8) (by
        rw [hxe]
        simp only [DataW.weights, Tryz.underlying32]
        refine DataW.weights_mem_each (j := 3) rfl rfl _ ?_
        show _ ∈ DataW.weights Tryz.prog 30 y3.1
        rw [hd]
        simp only [DataW.weights, Tryz.underlying30]
        rw [show Tryz.prog.bytesOf 3 = 8 by kernel_rfl]
        exact List.mem_cons_self)
      simp only [reachBytes] at hreach
      omega
  subst hds
  exact ⟨s0, s1, a2, ds, a3, d3, rfl, ⟨hh, hr, hb⟩, in64B_wf w2, w0, w1⟩
set_option maxRecDepth 100000 in
theorem en_sizedB {H : Type} {enc : TypeId × Value → H} {w : World} {base : Nat} {held : Bool} {fuel : Nat} {cs : List Value} {x : DataW H × List MemPlace} (h : DataW.trod enc Tryz.prog w base (fun _ => true) held fuel 34 cs = some x) (hw : ∀ n ∈ x.1.weights Tryz.prog 34, n ≤ reachBytes) :
    ∃ o : EnM, cs = o.cells ∧ EnOk w o := by
  obtain ⟨xs, n, _, hxe, hl, hlen, hf⟩ := DataW.trod_struct Tryz.underlying34 h
  rw [Tryz.cellsEn] at hl
  obtain ⟨c0, c1, c2, c3, c4, rfl⟩ := arr5B hl
  obtain ⟨y0, y1, rfl⟩ := arr2B hlen
  have g : ∀ (i : Nat) (f : Field), (#[_, _] : Array Field)[i]? = some f → _ := hf
  have h0 := g 0 _ rfl
  have h1 := g 1 _ rfl
  have k4 : Tryz.prog.cellsOf 4 = 1 := by kernel_rfl
  have k5 := Tryz.cellsSeB
  simp [k4, k5] at h0 h1
  obtain ⟨b0, e0, _⟩ := DataW.trod_bool Tryz.underlying4 h0
  simp at e0
  subst e0
  obtain ⟨tk, ct, ep, cut, ao, cap, e1, hv, hi, ht, hc⟩ := sl_sizedB h1 (fun m hm => hw m (by
    rw [hxe]
    simp only [DataW.weights, Tryz.underlying34]
    exact DataW.weights_mem_each (j := 1) rfl rfl _ hm))
  simp at e1
  obtain ⟨rfl, rfl, rfl, rfl⟩ := e1
  exact ⟨⟨⟨b0, tk, ct, ep, cut⟩, ao, cap⟩, rfl, ⟨hv, hi, ht, hc⟩⟩
set_option maxRecDepth 100000 in
theorem vo_sized {H : Type} {enc : TypeId × Value → H} {w : World} {base : Nat} {held : Bool} {fuel : Nat} {cs : List Value} {x : DataW H × List MemPlace} (h : DataW.trod enc Tryz.prog w base (fun _ => true) held fuel 58 cs = some x) (hw : ∀ n ∈ x.1.weights Tryz.prog 58, n ≤ reachBytes) :
    ∃ o : VoM, cs = o.cells ∧ VoOk w o := by
  obtain ⟨xs, n, _, hxe, hl, hlen, hf⟩ := DataW.trod_struct Tryz.underlying58 h
  rw [Tryz.cellsVo] at hl
  obtain ⟨c0, c1, c2, c3, c4, c5, c6, c7, rfl⟩ := arr8B hl
  obtain ⟨y0, y1, y2, rfl⟩ := arr3B hlen
  have g : ∀ (i : Nat) (f : Field), (#[_, _, _] : Array Field)[i]? = some f → _ := hf
  have h0 := g 0 _ rfl
  have h1 := g 1 _ rfl
  have h2 := g 2 _ rfl
  have k3 : Tryz.prog.cellsOf 3 = 1 := by kernel_rfl
  have k4 := Tryz.cellsBal
  have k5 := Tryz.cellsEn
  simp [k3, k4, k5] at h0 h1 h2
  obtain ⟨a0, e0, _, w0⟩ := DataW.trod_int Tryz.underlying3 h0
  obtain ⟨r, m, e1, w1, w2⟩ := bal_of_trod h1
  simp at e0 e1
  subst e0
  obtain ⟨rfl, rfl⟩ := e1
  obtain ⟨o, e2, ho⟩ := en_sizedB h2 (fun m hm => hw m (by
    rw [hxe]
    simp only [DataW.weights, Tryz.underlying58]
    exact DataW.weights_mem_each (j := 2) rfl rfl _ hm))
  simp [EnM.cells] at e2
  obtain ⟨rfl, rfl, rfl, rfl, rfl⟩ := e2
  exact ⟨⟨a0, (r, m), o⟩, rfl, ⟨ho, in64B_wf w0, w1, w2⟩⟩
set_option maxRecDepth 100000 in
theorem open_vos {H : Type} {enc : TypeId × Value → H} {w : World} {base : Nat} {held : Bool} {ao : Option Addr} {len cap : Nat} {d : DataW H} {p : List MemPlace} (h : DataW.Trod enc Tryz.prog w base (fun _ => true) held 35 (.slice ao len cap) d p)
    (hw : ∀ es sp, d = .slice es sp → ∀ x ∈ es, ∀ n ∈ x.weights Tryz.prog 58, n ≤ reachBytes) :
    ∃ os : List VoM, os.length = len ∧ (HeldVo w ao os ∧ len ≤ cap) ∧ (len = 0 ∨ ∃ es sp, d = .slice es sp ∧ es.length = len) := by
  obtain ⟨fuel, hf⟩ := h
  rcases open_slice Tryz.underlying35 hf with ⟨hcs, hx⟩ | ⟨a, l, c, m, n, Dd, Pl, hcs, _, hl, hm, hmm, hx, hall⟩
  · simp [Value.cells] at hcs
    obtain ⟨rfl, rfl, rfl⟩ := hcs
    exact ⟨[], rfl, ⟨⟨fun o ho => (by cases ho), .inl rfl⟩, Nat.le_refl _⟩, .inl rfl⟩
  · simp [Value.cells] at hcs
    obtain ⟨rfl, rfl, rfl⟩ := hcs
    rw [Tryz.cellsVo] at hall
    have hlm : len ≤ m := by rw [hmm]; split <;> omega
    simp only [Prod.mk.injEq] at hx
    obtain ⟨O, hO⟩ := choose_lt (α := VoM) (n := len) (p := fun i o => VoOk w o ∧ w.cells? base (a.add (i * 8)) 8 = some o.cells) (fun i hi => by
      obtain ⟨cs', h1, h2⟩ := hall i (by omega)
      obtain ⟨o, rfl, hok⟩ := vo_sized h2 (hw _ _ hx.1 _ (List.mem_map.2 ⟨i, List.mem_range.2 hi, rfl⟩))
      exact ⟨o, hok, h1⟩)
    refine ⟨(List.range len).map O, by simp, ⟨⟨fun o ho => ?_, ?_⟩, hl⟩, .inr ⟨_, _, hx.1, by simp⟩⟩
    · obtain ⟨i, hi, rfl⟩ := List.mem_map.1 ho
      exact (hO i (List.mem_range.1 hi)).1
    · by_cases h0 : len = 0
      · left
        simp [h0]
      · right
        have hc0 : ∀ i, i < len → ∀ c u, (O i).cells[c]? = some u → w.cell? (a.add (i * 8 + c)) = some u := by
          intro i hi c u hu
          have hc := (World.cells?_some (hO i hi).2).2.2 c (by have := (List.getElem?_eq_some_iff.1 hu).1; simpa [VoM.cells] using this)
          rw [add_add] at hc
          rw [hc, hu]
        obtain ⟨b, off, spot⟩ := a
        have hz := hc0 0 (by omega) 0 _ rfl
        have hspot : spot = none := by simpa [Addr.add] using World.cell?_spot hz
        subst hspot
        have hlt := World.block_lt_of_cell? w _ hz
        refine ⟨b, off, rfl, by simpa [Addr.add] using hlt, fun j hj c u hu => ?_⟩
        have hj' : j < len := by simpa using hj
        have := hc0 j hj' c u (by simpa using hu)
        rwa [Addr.add_lit, ← Nat.add_assoc] at this
end Go.Proofs.YthcpopigkbefhaaGreat
