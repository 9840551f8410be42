/-
  What must come of every learner: the laws' lives.
-/
import Derived.Test.YtgghfmdciohinaaLrH
import Derived.Test.YtgghfmdciohinaaRows
import Derived.Test.YtgghfmdciohinaaBlk
import Derived.Lib.SmallJoins
import Derived.Test.YtgghfmdciohinaaVoA
import Derived.Deep.SlicePairs
import Derived.ChangeSlices
import Derived.SizedLaws
namespace Go.Proofs.Ytgghfmdciohinaa
open Go.RowKit Go.Maps

theorem fromR_any (w : World) (v : Option Addr) (s : Int) : Calls Try.prog 11 #[.pointer v, .int .i64 s] w fun e w' => e = .returned (.func (.func 31) #[] #[.pointer (some ⟨w.heap.size, 0, none⟩), .pointer (some ⟨w.heap.size + 1, 0, none⟩)]) ∧ w' = (w.alloc (.cells #[.pointer v] 23)).alloc (.cells #[.int .i64 s] 3) := by
  go_enter Try.func11, Try.ntmps11
  go_wp2
  go_ret
  exact ⟨rfl, rfl⟩
theorem eql_funcR (W : World) (f : FuncId) (c : Array Value) (b : Array Value) : (binOp .eql 42 (.func (.func f) c b) .nilFunc).run Try.prog W = .ok (.bool false) W := by kernel_rfl
def enTC : En := ⟨false, ⟨#[116]⟩, ⟨#[99]⟩, 0, []⟩
def lr1 : Lr := chooseL noLr 1 noopEn
def lr2 : Lr := chooseL lr1 0 noopEn
theorem right_noop : RightEn noopEn = true := by decide
theorem right_tc : RightEn enTC = true := by decide
theorem c_lr1 : chooseC noLr 1 noopEn = 0 := by
  unfold chooseC
  rw [if_pos ⟨by decide, by decide, right_noop⟩]
  rfl
theorem lr1_eq : lr1 = putL noLr 1 noopEn := by unfold lr1 chooseL; rw [if_pos c_lr1]
theorem lr1_ks : lr1.ks = [1] := by rw [lr1_eq]; decide
theorem lr1_f0 : lr1.f 0 = none := by rw [lr1_eq]; rfl
theorem c_lr2 : chooseC lr1 0 noopEn = 0 := by
  unfold chooseC
  rw [if_pos ⟨by decide, by decide, right_noop⟩, lr1_f0, lr1_ks]
  rfl
theorem lr2_eq : lr2 = putL lr1 0 noopEn := by unfold lr2 chooseL; rw [if_pos c_lr2]
theorem lr2_ks : lr2.ks = [0, 1] := by rw [lr2_eq]; show putS lr1.ks 0 = _; rw [lr1_ks]; decide
theorem lr2_f0 : lr2.f 0 = some noopEn := by rw [lr2_eq]; rfl
theorem c_lr3 : chooseC lr2 0 enTC = 180 := by
  unfold chooseC
  rw [if_pos ⟨by decide, by decide, right_tc⟩, lr2_f0]
  exact if_neg (by decide)
theorem lr3_eq : chooseL lr2 0 enTC = lr2 := by unfold chooseL; rw [if_neg (by rw [c_lr3]; decide)]
theorem pre_lr1 : IsPre lr1.ks 0 := by rw [lr1_ks]; exact ⟨fun s h0 h1 => by omega, by decide⟩
theorem end_lr1 : IsEnd lr1.ks 2 := by rw [lr1_ks]; exact ⟨fun s h => by simp at h; omega, .inr (by decide)⟩
theorem pre_lr2 : IsPre lr2.ks 2 := by rw [lr2_ks]; exact ⟨fun s h0 h1 => by simp; omega, by decide⟩
theorem miss_lr1 : missL lr1.ks 0 2 5 = [0] := by rw [lr1_ks]; decide
theorem extra_lr2 : extraL lr2.ks 2 = [] := by rw [lr2_ks]; decide
theorem LrAt.pre_eq {w : World} {p m pre z n : Nat} {g : Lr} (h : LrAt w p m pre z g) (k : IsPre g.ks n) : pre = n := h.isPre.unique k
theorem LrAt.end_eq {w : World} {p m pre z n : Nat} {g : Lr} (h : LrAt w p m pre z g) (k : IsEnd g.ks n) : z = n := h.fin.unique (fun s hs => (h.ok.slot s hs).1) k
/-- A learner whose blocks lie behind B. -/
structure LrIn (B : Nat) (w : World) (p m : Nat) (g : Lr) : Prop where
  lr : ∃ pre z, LrAt w p m pre z g
  bp : B ≤ p
  bm : B ≤ m
theorem LrIn.below {B : Nat} {w w' : World} {p m : Nat} {g : Lr} (h : LrIn B w p m g) (hb : Below w.heap.size w w') : LrIn B w' p m g := by
  obtain ⟨pre, z, h1⟩ := h.lr
  exact ⟨⟨pre, z, h1.below hb⟩, h.bp, h.bm⟩
theorem LrIn.turned {B : Nat} {F : Nat → Prop} {w w' : World} {p m : Nat} {g : Lr} (h : LrIn B w p m g) (ht : Turns F w w') (hd : ∀ i, FootR p m i → ¬ F i) (hF : NoNum w F) : LrIn B w' p m g := by
  obtain ⟨pre, z, h1⟩ := h.lr
  exact ⟨⟨pre, z, h1.turned ht hd hF⟩, h.bp, h.bm⟩
theorem LrIn.lt {B : Nat} {w : World} {p m : Nat} {g : Lr} (h : LrIn B w p m g) : ∀ i, FootR p m i → i < w.heap.size := by
  obtain ⟨pre, z, h1⟩ := h.lr
  exact h1.toLrMid.lt
theorem LrIn.noNum {B : Nat} {w : World} {p m : Nat} {g : Lr} (h : LrIn B w p m g) : NoNum w (FootR p m) := by
  obtain ⟨pre, z, h1⟩ := h.lr
  exact h1.toLrMid.noNum
theorem LrIn.ok {B : Nat} {w : World} {p m : Nat} {g : Lr} (h : LrIn B w p m g) : LrOk g := by
  obtain ⟨pre, z, h1⟩ := h.lr
  exact h1.ok
/-- What Choose does, below B. -/
theorem LrIn.choose {w : World} {B p m : Nat} {g : Lr} (h : LrIn B w p m g) (hB : B ≤ w.heap.size) (s : Int) (hs : I64 s) (x : EnM) (hx : EnOk w x) : Calls Try.prog 7 #[.pointer (some ⟨p, 0, none⟩), .int .i64 s, x.val] w fun e w' => e = .returned (.int .i64 (chooseC g s x.e)) ∧ LrIn B w' p m (chooseL g s x.e) ∧ Turns (FootR p m) w w' ∧ Below B w w' := by
  obtain ⟨pre, z, h1⟩ := h.lr
  refine (h1.choose s hs x hx).mono ?_
  rintro e w' ⟨he, pre', z', hat, ht⟩
  refine ⟨he, ⟨⟨pre', z', hat⟩, h.bp, h.bm⟩, ht, ht.below (fun i hi => ?_) hB⟩
  rcases hi with rfl | rfl
  · exact h.bp
  · exact h.bm
theorem enOk_noop (w : World) : EnOk w ⟨noopEn, none, 0⟩ := ⟨hv_nil w, by unfold I64; decide, by decide, by decide⟩
theorem enOk_tc (w : World) : EnOk w ⟨enTC, none, 0⟩ := ⟨hv_nil w, by unfold I64; decide, by decide, by decide⟩
set_option maxRecDepth 100000 in
set_option maxHeartbeats 1000000 in
theorem livesLr (w : World) : Calls Try.prog 6 #[] w fun e w' => e = .returned (.bool true) ∧ Below w.heap.size w w' := by
  have HNEW := hid (newLr w)
  have hef := eql_funcR
  go_enter Try.func6, Try.ntmps6
  go_wp2_with fail
  refine HNEW.out.mono ?_
  rintro e w1 ⟨p, m, rfl, hat, hb1, hp, hm⟩
  have HL1 : Hid (LrIn w.heap.size w1 p m noLr) := ⟨⟨_, _, hat⟩, hp, hm⟩
  have HB1 := hid hb1
  have HFR := hid (fromR_any w1 (some ⟨p, 0, none⟩) 0)
  clear hat hb1 hp hm HNEW
  go_wp2_with fail
  refine HFR.out.mono ?_
  rintro e w2 ⟨rfl, hw2⟩
  have hb2 : Below w1.heap.size w1 w2 := by rw [hw2]; exact ((Below.refl _ _).alloc (Nat.le_refl _) _).alloc (by simp) _
  have HL2 := hid (HL1.out.below hb2)
  have HB2 := hid (bt' HB1.out hb2)
  obtain ⟨W3, hW3⟩ : ∃ V, V = w2.alloc (.cells #[.bool true, .string ⟨#[]⟩, .string ⟨#[]⟩, .int .i64 0, .slice none 0 0] 33) := ⟨_, rfl⟩
  have hb3 : Below w2.heap.size w2 W3 := by rw [hW3]; exact (Below.refl _ _).alloc (Nat.le_refl _) _
  have HK3 : Hid (Blk W3 w2.heap.size 33 [.bool true, .string ⟨#[]⟩, .string ⟨#[]⟩, .int .i64 0, .slice none 0 0]) := by rw [hW3]; exact Blk.new w2 _ _
  have HL3 := hid (HL2.out.below hb3)
  have HB3 := hid (bt' HB2.out hb3)
  have HW3 := hid hW3
  have HC1 := hid (HL3.out.choose HB3.out.size 1 (by unfold I64; omega) ⟨noopEn, none, 0⟩ (enOk_noop _))
  simp only [EnM.val, noopEn, List.length_nil] at HC1
  rw [show chooseC noLr 1 ⟨true, ⟨#[]⟩, ⟨#[]⟩, 0, []⟩ = 0 from c_lr1, show chooseL noLr 1 ⟨true, ⟨#[]⟩, ⟨#[]⟩, 0, []⟩ = lr1 from rfl] at HC1
  clear hw2 hb2 hb3 hW3 HFR
  go_wp2_with fail
  rw [← HW3.out]
  refine HC1.out.mono ?_
  rintro e w4 ⟨rfl, hl4, ht4, hb4⟩
  have HL4 := hid hl4
  have HB4 := hid (HB3.out.trans hb4)
  obtain ⟨pb, hpb⟩ : ∃ q, q = w2.heap.size := ⟨_, rfl⟩
  have HPF : Hid (¬ FootR p m pb) := fun hf => by have := HL2.out.lt _ hf; omega
  have HK4 : Hid (Blk w4 pb 33 [.bool true, .string ⟨#[]⟩, .string ⟨#[]⟩, .int .i64 0, .slice none 0 0]) := by rw [hpb] at HPF ⊢; exact ht4.blk HK3.out HPF.out
  rw [← hpb]
  have HMS : Hid (Calls Try.prog 14 #[.pointer (some ⟨p, 0, none⟩), .int .i64 5] w4 (RowP w4 [0])) := by
    obtain ⟨pre, z, h1⟩ := hl4.lr
    have h2 := h1.missing 5
    rw [h1.pre_eq pre_lr1, h1.end_eq end_lr1, miss_lr1] at h2
    exact h2
  clear hl4 ht4 hb4 hpb HC1
  go_wp2_with fail
  refine HMS.out.mono ?_
  rintro e w5 ⟨ao, cap, rfl, hv5, hab, hb5⟩
  have HV5 := hid hv5
  have HAB := hid hab
  have HL5 := hid (HL4.out.below hb5)
  have HB5 := hid (bt' HB4.out hb5)
  have HK5 := hid (HK4.out.below hb5 HK4.out.lt)
  have HC2 := hid (HL5.out.choose HB5.out.size 0 (by unfold I64; omega) ⟨noopEn, none, 0⟩ (enOk_noop _))
  simp only [EnM.val, noopEn, List.length_nil] at HC2
  rw [show chooseC lr1 0 ⟨true, ⟨#[]⟩, ⟨#[]⟩, 0, []⟩ = 0 from c_lr2, show chooseL lr1 0 ⟨true, ⟨#[]⟩, ⟨#[]⟩, 0, []⟩ = lr2 from rfl] at HC2
  have d0 := HK5.out.cell (i := 0) rfl
  have d1 := HK5.out.cell (i := 1) rfl
  have d2 := HK5.out.cell (i := 2) rfl
  have d3 := HK5.out.cell (i := 3) rfl
  have d4 := HK5.out.cell (i := 4) rfl
  have HAF : Hid (∀ b off, ao = some ⟨b, off, none⟩ → [(0 : Int)] ≠ [] → ¬ FootR p m b) := fun b off e _ hf => by have h1 := HAB.out b off e; have := HL4.out.lt _ hf; omega
  clear hv5 hab hb5 HMS
  simp only [List.length_cons, List.length_nil]
  go_wp2_with fail
  refine HC2.out.mono ?_
  rintro e w6 ⟨rfl, hl6, ht6, hb6⟩
  have HL6 := hid hl6
  have HB6 := hid (HB5.out.trans hb6)
  have HV6 := hid (HV5.out.held.turned ht6 HAF.out)
  have HC3 := hid (HL6.out.choose HB6.out.size 0 (by unfold I64; omega) ⟨enTC, none, 0⟩ (enOk_tc _))
  simp only [EnM.val, enTC, List.length_nil] at HC3
  rw [show chooseC lr2 0 ⟨false, ⟨#[116]⟩, ⟨#[99]⟩, 0, []⟩ = 180 from c_lr3, show chooseL lr2 0 ⟨false, ⟨#[116]⟩, ⟨#[99]⟩, 0, []⟩ = lr2 from lr3_eq] at HC3
  clear hl6 ht6 hb6 HC2 d0 d1 d2 d3 d4
  go_wp2_with fail
  refine HC3.out.mono ?_
  rintro e w7 ⟨rfl, hl7, ht7, hb7⟩
  have HL7 := hid hl7
  have HB7 := hid (HB6.out.trans hb7)
  have HV7 := hid (HV6.out.turned ht7 HAF.out)
  obtain ⟨pre, z, hat⟩ := hl7.lr
  have hpre := hat.pre_eq pre_lr2
  subst hpre
  have HPR := hid hat.toLrMid.prefix
  have HEX := hid hat.extras
  rw [extra_lr2] at HEX
  have HLE : Hid (∀ V, Below w7.heap.size w7 V → Calls Try.prog 16 #[.pointer (some ⟨p, 0, none⟩)] V fun e w' => e = .returned (.int .i64 2) ∧ w' = V) := fun V hV => by
    have := (hat.toLrMid.below hV).len
    rw [lr2_ks] at this
    exact this
  obtain ⟨b1, o1, hao, hc1⟩ := HV7.out.cellAt (k := 0) (by simp)
  subst hao
  have c1 : w7.cell? ⟨b1, o1, none⟩ = some (.int .i64 0) := hc1 0 (by simp)
  clear hl7 ht7 hb7 HC3 hat hc1
  go_wp2_with fail
  refine HPR.out.mono ?_
  rintro e w8 ⟨rfl, rfl⟩
  go_wp2_with fail
  refine HEX.out.mono ?_
  rintro e w9 ⟨eo, ecap, rfl, _, _, hb9⟩
  have HB9 := hid (bt' HB7.out hb9)
  have HLE9 := hid (HLE.out w9 hb9)
  clear hb9
  simp only [List.length_nil]
  go_wp2_with fail
  refine HLE9.out.mono ?_
  rintro e w10 ⟨rfl, rfl⟩
  go_wp2
  go_ret
  exact ⟨rfl, HB9.out⟩
end Go.Proofs.Ytgghfmdciohinaa
/-
  How an argument of type api.Ballot is read.
-/
namespace Go.Proofs.Ytgghfmdciohinaa
open Go.RowKit Go.ChangeShapes Go.WideShapes Go.Deep

/-- Whole numbers of 64 bits. -/
def In64B (x : Int) : Prop := -9223372036854775808 ≤ x ∧ x ≤ 9223372036854775807
theorem in64B_wf {x : Int} (h : (Lit.int .i64 x).wf = true) : In64B x := by
  simp [Lit.wf, IntKind.min, IntKind.max, IntKind.signed, IntKind.bits] at h
  exact ⟨by omega, by omega⟩
theorem arr2B {α : Type} {cs : List α} (h : cs.length = 2) : ∃ c0 c1, cs = [c0, c1] := by
  match cs, h with
  | [c0, c1], _ => exact ⟨c0, c1, rfl⟩
theorem Try.cellsBal : Try.prog.cellsOf 66 = 2 := by kernel_rfl

set_option maxRecDepth 100000 in
theorem bal_of_trod {H : Type} {enc : TypeId × Value → H} {w : World} {base : Nat} {spare : Nat → Bool} {held : Bool} {fuel : Nat} {cs : List Value} {x : DataW H × List MemPlace} (h : DataW.trod enc Try.prog w base spare held fuel 66 cs = some x) :
    ∃ o s : Int, cs = [.int .i64 o, .int .i64 s] ∧ In64B o ∧ In64B s := by
  obtain ⟨xs, n, _, _, hl, hlen, hf⟩ := DataW.trod_struct Try.underlying66 h
  rw [Try.cellsBal] at hl
  obtain ⟨c0, c1, rfl⟩ := arr2B hl
  obtain ⟨y0, y1, rfl⟩ := arr2B hlen
  have g : ∀ (i : Nat) (f : Field), (#[_, _] : Array Field)[i]? = some f → _ := hf
  have h0 := g 0 _ rfl
  have h1 := g 1 _ rfl
  have k3 : Try.prog.cellsOf 3 = 1 := by kernel_rfl
  simp [k3] at h0 h1
  obtain ⟨a0, e0, _, w0⟩ := DataW.trod_int Try.underlying3 h0
  obtain ⟨a1, e1, _, w1⟩ := DataW.trod_int Try.underlying3 h1
  simp at e0 e1
  subst e0 e1
  exact ⟨a0, a1, rfl, in64B_wf w0, in64B_wf w1⟩
set_option maxRecDepth 100000 in
theorem open_bal {H : Type} {enc : TypeId × Value → H} {w : World} {base b0 : Nat} {r : Reach} {spare : Nat → Bool} {held : Bool} {v : Value} {d : DataW H} {p : List MemPlace} (hv : Value.okWide Try.prog w r b0 66 v) (h : DataW.Trod enc Try.prog w base spare held 66 v d p) :
    ∃ o s : Int, v = .agg #[.int .i64 o, .int .i64 s] ∧ In64B o ∧ In64B s := by
  obtain ⟨cs, rfl, _⟩ := okWide_struct Try.underlying66 hv
  obtain ⟨fuel, hf⟩ := h
  obtain ⟨o, s, ho, h1, h2⟩ := bal_of_trod hf
  refine ⟨o, s, ?_, h1, h2⟩
  simp [Value.cells] at ho
  rw [show cs = #[.int .i64 o, .int .i64 s] from Array.ext' ho]
end Go.Proofs.Ytgghfmdciohinaa
/-
  How an argument of type []api.Voted is read, where it takes no more than the form's own reach.
-/
namespace Go.Proofs.Ytgghfmdciohinaa
open Go.RowKit Go.ChangeShapes Go.WideShapes Go.Deep

theorem weightsAll_inB {H : Type} {P : Program} {e : TypeId} : ∀ {l : List (DataW H)} {d : DataW H}, d ∈ l → ∀ n ∈ d.weights P e, n ∈ DataW.weightsAll P e l
  | [], _, h, _, _ => by cases h
  | x :: l, d, h, n, hn => by
    simp only [DataW.weightsAll, List.mem_append]
    rcases List.mem_cons.1 h with rfl | h
    · exact .inl hn
    · exact .inr (weightsAll_inB h n hn)
/-- What an element of a slice takes. -/
theorem sized_elemB {H : Type} {P : Program} {ts : List TypeId} {ds : List (DataW H)} (h : (DataW.weightsEach P ts ds).all (· ≤ reachBytes) = true) {j : Nat} {t e : TypeId} {elems spare : List (DataW H)} (ht : ts[j]? = some t) (hd : ds[j]? = some (.slice elems spare)) (hu : P.underlying t = some (.slice e))
    {d : DataW H} (hm : d ∈ elems) : ∀ n ∈ d.weights P e, n ≤ reachBytes := by
  intro n hn
  have h2 := weightsAll_inB hm n hn
  have := List.all_eq_true.1 h n (DataW.weights_mem_each ht hd n (by simp only [DataW.weights, hu]; exact List.mem_cons_of_mem _ (List.mem_append_left _ h2)))
  simpa using this
theorem slice_trodB {H : Type} {enc : TypeId × Value → H} {w : World} {base : Nat} {spare : Nat → Bool} {held : Bool} {fuel : Nat} {v : Value} {x : DataW H × List MemPlace} (h : DataW.trod enc Try.prog w base spare held fuel 29 [v] = some x) : ∃ a l c, v = .slice a l c := by
  rcases open_ints Try.underlying29 Try.underlying3 (by kernel_rfl) h with ⟨hcs, _⟩ | ⟨x, l, c, zs, hcs, _⟩
  · simp at hcs; exact ⟨_, _, _, hcs⟩
  · simp at hcs; exact ⟨_, _, _, hcs⟩
theorem arr4B {α : Type} {cs : List α} (h : cs.length = 4) : ∃ c0 c1 c2 c3, cs = [c0, c1, c2, c3] := by
  match cs, h with
  | [c0, c1, c2, c3], _ => exact ⟨c0, c1, c2, c3, rfl⟩
theorem arr5B {α : Type} {cs : List α} (h : cs.length = 5) : ∃ c0 c1 c2 c3 c4, cs = [c0, c1, c2, c3, c4] := by
  match cs, h with
  | [c0, c1, c2, c3, c4], _ => exact ⟨c0, c1, c2, c3, c4, rfl⟩
theorem arr3B {α : Type} {cs : List α} (h : cs.length = 3) : ∃ c0 c1 c2, cs = [c0, c1, c2] := by
  match cs, h with
  | [c0, c1, c2], _ => exact ⟨c0, c1, c2, rfl⟩
theorem arr8B {α : Type} {cs : List α} (h : cs.length = 8) : ∃ c0 c1 c2 c3 c4 c5 c6 c7, cs = [c0, c1, c2, c3, c4, c5, c6, c7] := by
  match cs, h with
  | [c0, c1, c2, c3, c4, c5, c6, c7], _ => exact ⟨c0, c1, c2, c3, c4, c5, c6, c7, rfl⟩
theorem Try.cellsSeB : Try.prog.cellsOf 31 = 4 := by kernel_rfl
theorem Try.cellsEn : Try.prog.cellsOf 33 = 5 := by kernel_rfl
theorem Try.cellsVo : Try.prog.cellsOf 98 = 8 := by kernel_rfl
set_option maxRecDepth 100000 in
theorem sl_sizedB {H : Type} {enc : TypeId × Value → H} {w : World} {base : Nat} {held : Bool} {fuel : Nat} {cs : List Value} {x : DataW H × List MemPlace} (h : DataW.trod enc Try.prog w base (fun _ => true) held fuel 31 cs = some x) (hw : ∀ n ∈ x.1.weights Try.prog 31, n ≤ reachBytes) :
    ∃ (tk ct : ByteArray) (ep : Int) (cut : List Int) (ao : Option Addr) (cap : Nat), cs = [.string tk, .string ct, .int .i64 ep, .slice ao cut.length cap] ∧ HV w ao cap cut ∧ In64B ep ∧ tk.size ≤ maxLen ∧ ct.size ≤ maxLen := by
  obtain ⟨xs, n, _, hxe, hl, hlen, hf⟩ := DataW.trod_struct Try.underlying31 h
  rw [Try.cellsSeB] at hl
  obtain ⟨c0, c1, c2, c3, rfl⟩ := arr4B hl
  obtain ⟨y0, y1, y2, y3, rfl⟩ := arr4B hlen
  have g : ∀ (i : Nat) (f : Field), (#[_, _, _, _] : Array Field)[i]? = some f → _ := hf
  have h0 := g 0 _ rfl
  have h1 := g 1 _ rfl
  have h2 := g 2 _ rfl
  have h3 := g 3 _ rfl
  have k3 : Try.prog.cellsOf 3 = 1 := by kernel_rfl
  have k9 : Try.prog.cellsOf 9 = 1 := by kernel_rfl
  have k27 : Try.prog.cellsOf 29 = 1 := by kernel_rfl
  simp [k3, k9, k27] at h0 h1 h2 h3
  obtain ⟨s0, e0, _, w0⟩ := DataW.trod_string Try.underlying9 h0
  obtain ⟨s1, e1, _, w1⟩ := DataW.trod_string Try.underlying9 h1
  obtain ⟨a2, e2, _, w2⟩ := DataW.trod_int Try.underlying3 h2
  obtain ⟨a3, l3, d3, rfl⟩ := slice_trodB h3
  simp at e0 e1 e2
  subst e0 e1 e2
  obtain ⟨ds, hds, ⟨hh, hr⟩, hd⟩ := open_nums (d := y3.1) (p := y3.2) ⟨n, h3⟩
  have hb : l3 ≤ 17592186044416 := by
    rcases hd with h | ⟨es, sp, hd, he⟩
    · omega
    · have hreach := hw ((es.length + sp.length) * 8) (by
        rw [hxe]
        simp only [DataW.weights, Try.underlying31]
        refine DataW.weights_mem_each (j := 3) rfl rfl _ ?_
        show _ ∈ DataW.weights Try.prog 29 y3.1
        rw [hd]
        simp only [DataW.weights, Try.underlying29]
        rw [show Try.prog.bytesOf 3 = 8 by kernel_rfl]
        exact List.mem_cons_self)
      simp only [reachBytes] at hreach
      omega
  subst hds
  exact ⟨s0, s1, a2, ds, a3, d3, rfl, ⟨hh, hr, hb⟩, in64B_wf w2, w0, w1⟩
set_option maxRecDepth 100000 in
theorem en_sizedB {H : Type} {enc : TypeId × Value → H} {w : World} {base : Nat} {held : Bool} {fuel : Nat} {cs : List Value} {x : DataW H × List MemPlace} (h : DataW.trod enc Try.prog w base (fun _ => true) held fuel 33 cs = some x) (hw : ∀ n ∈ x.1.weights Try.prog 33, n ≤ reachBytes) :
    ∃ o : EnM, cs = o.cells ∧ EnOk w o := by
  obtain ⟨xs, n, _, hxe, hl, hlen, hf⟩ := DataW.trod_struct Try.underlying33 h
  rw [Try.cellsEn] at hl
  obtain ⟨c0, c1, c2, c3, c4, rfl⟩ := arr5B hl
  obtain ⟨y0, y1, rfl⟩ := arr2B hlen
  have g : ∀ (i : Nat) (f : Field), (#[_, _] : Array Field)[i]? = some f → _ := hf
  have h0 := g 0 _ rfl
  have h1 := g 1 _ rfl
  have k4 : Try.prog.cellsOf 4 = 1 := by kernel_rfl
  have k5 := Try.cellsSeB
  simp [k4, k5] at h0 h1
  obtain ⟨b0, e0, _⟩ := DataW.trod_bool Try.underlying4 h0
  simp at e0
  subst e0
  obtain ⟨tk, ct, ep, cut, ao, cap, e1, hv, hi, ht, hc⟩ := sl_sizedB h1 (fun m hm => hw m (by
    rw [hxe]
    simp only [DataW.weights, Try.underlying33]
    exact DataW.weights_mem_each (j := 1) rfl rfl _ hm))
  simp at e1
  obtain ⟨rfl, rfl, rfl, rfl⟩ := e1
  exact ⟨⟨⟨b0, tk, ct, ep, cut⟩, ao, cap⟩, rfl, ⟨hv, hi, ht, hc⟩⟩
set_option maxRecDepth 100000 in
theorem vo_sized {H : Type} {enc : TypeId × Value → H} {w : World} {base : Nat} {held : Bool} {fuel : Nat} {cs : List Value} {x : DataW H × List MemPlace} (h : DataW.trod enc Try.prog w base (fun _ => true) held fuel 98 cs = some x) (hw : ∀ n ∈ x.1.weights Try.prog 98, n ≤ reachBytes) :
    ∃ o : VoM, cs = o.cells ∧ VoOk w o := by
  obtain ⟨xs, n, _, hxe, hl, hlen, hf⟩ := DataW.trod_struct Try.underlying98 h
  rw [Try.cellsVo] at hl
  obtain ⟨c0, c1, c2, c3, c4, c5, c6, c7, rfl⟩ := arr8B hl
  obtain ⟨y0, y1, y2, rfl⟩ := arr3B hlen
  have g : ∀ (i : Nat) (f : Field), (#[_, _, _] : Array Field)[i]? = some f → _ := hf
  have h0 := g 0 _ rfl
  have h1 := g 1 _ rfl
  have h2 := g 2 _ rfl
  have k3 : Try.prog.cellsOf 3 = 1 := by kernel_rfl
  have k4 := Try.cellsBal
  have k5 := Try.cellsEn
  simp [k3, k4, k5] at h0 h1 h2
  obtain ⟨a0, e0, _, w0⟩ := DataW.trod_int Try.underlying3 h0
  obtain ⟨r, m, e1, w1, w2⟩ := bal_of_trod h1
  simp at e0 e1
  subst e0
  obtain ⟨rfl, rfl⟩ := e1
  obtain ⟨o, e2, ho⟩ := en_sizedB h2 (fun m hm => hw m (by
    rw [hxe]
    simp only [DataW.weights, Try.underlying98]
    exact DataW.weights_mem_each (j := 2) rfl rfl _ hm))
  simp [EnM.cells] at e2
  obtain ⟨rfl, rfl, rfl, rfl, rfl⟩ := e2
  exact ⟨⟨a0, (r, m), o⟩, rfl, ⟨ho, in64B_wf w0, w1, w2⟩⟩
set_option maxRecDepth 100000 in
theorem open_vos {H : Type} {enc : TypeId × Value → H} {w : World} {base : Nat} {held : Bool} {ao : Option Addr} {len cap : Nat} {d : DataW H} {p : List MemPlace} (h : DataW.Trod enc Try.prog w base (fun _ => true) held 67 (.slice ao len cap) d p)
    (hw : ∀ es sp, d = .slice es sp → ∀ x ∈ es, ∀ n ∈ x.weights Try.prog 98, n ≤ reachBytes) :
    ∃ os : List VoM, os.length = len ∧ (HeldVo w ao os ∧ len ≤ cap) ∧ (len = 0 ∨ ∃ es sp, d = .slice es sp ∧ es.length = len) := by
  obtain ⟨fuel, hf⟩ := h
  rcases open_slice Try.underlying67 hf with ⟨hcs, hx⟩ | ⟨a, l, c, m, n, Dd, Pl, hcs, _, hl, hm, hmm, hx, hall⟩
  · simp [Value.cells] at hcs
    obtain ⟨rfl, rfl, rfl⟩ := hcs
    exact ⟨[], rfl, ⟨⟨fun o ho => (by cases ho), .inl rfl⟩, Nat.le_refl _⟩, .inl rfl⟩
  · simp [Value.cells] at hcs
    obtain ⟨rfl, rfl, rfl⟩ := hcs
    rw [Try.cellsVo] at hall
    have hlm : len ≤ m := by rw [hmm]; split <;> omega
    simp only [Prod.mk.injEq] at hx
    obtain ⟨O, hO⟩ := choose_lt (α := VoM) (n := len) (p := fun i o => VoOk w o ∧ w.cells? base (a.add (i * 8)) 8 = some o.cells) (fun i hi => by
      obtain ⟨cs', h1, h2⟩ := hall i (by omega)
      obtain ⟨o, rfl, hok⟩ := vo_sized h2 (hw _ _ hx.1 _ (List.mem_map.2 ⟨i, List.mem_range.2 hi, rfl⟩))
      exact ⟨o, hok, h1⟩)
    refine ⟨(List.range len).map O, by simp, ⟨⟨fun o ho => ?_, ?_⟩, hl⟩, .inr ⟨_, _, hx.1, by simp⟩⟩
    · obtain ⟨i, hi, rfl⟩ := List.mem_map.1 ho
      exact (hO i (List.mem_range.1 hi)).1
    · by_cases h0 : len = 0
      · left
        simp [h0]
      · right
        have hc0 : ∀ i, i < len → ∀ c u, (O i).cells[c]? = some u → w.cell? (a.add (i * 8 + c)) = some u := by
          intro i hi c u hu
          have hc := (World.cells?_some (hO i hi).2).2.2 c (by have := (List.getElem?_eq_some_iff.1 hu).1; simpa [VoM.cells] using this)
          rw [add_add] at hc
          rw [hc, hu]
        obtain ⟨b, off, spot⟩ := a
        have hz := hc0 0 (by omega) 0 _ rfl
        have hspot : spot = none := by simpa [Addr.add] using World.cell?_spot hz
        subst hspot
        have hlt := World.block_lt_of_cell? w _ hz
        refine ⟨b, off, rfl, by simpa [Addr.add] using hlt, fun j hj c u hu => ?_⟩
        have hj' : j < len := by simpa using hj
        have := hc0 j hj' c u (by simpa using hu)
        rwa [Addr.add_lit, ← Nat.add_assoc] at this
end Go.Proofs.Ytgghfmdciohinaa
