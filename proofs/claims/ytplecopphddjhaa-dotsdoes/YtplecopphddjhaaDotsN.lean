/-
  Package dots: Missing.
-/
import Derived.Test.YtplecopphddjhaaDotsM
namespace Go.Proofs.Ytplecopphddjhaa
open Go.RowKit Go.Shelf Go.Maps
attribute [local go_sem] Oper.semAt_some

/-- The dots that are not there. -/
def notIn (S : Int → Int → Option Value) (ds : List (Int × Int)) : List (Int × Int) := ds.filter fun d => !(S d.1 d.2).isSome
theorem notIn_snoc (S : Int → Int → Option Value) (ds : List (Int × Int)) (x : Int × Int) : notIn S (ds ++ [x]) = notIn S ds ++ (if (S x.1 x.2).isSome then [] else [x]) := by
  unfold notIn
  rw [List.filter_append]
  cases h : S x.1 x.2 <;> simp [h]
theorem notIn_pre {S : Int → Int → Option Value} {a b : List (Int × Int)} (h : a <+: b) : notIn S a <+: notIn S b := by
  obtain ⟨r, rfl⟩ := h
  unfold notIn
  rw [List.filter_append]
  exact List.prefix_append _ _
def missOf (S : Int → Int → Option Value) (R : Nat → List Value) (v : List Int) : List (Int × Int) := (notIn S (dotsAll (plainOf (lensOf R)) v)).take 4096
def AnsM (w : World) (ds : List (Int × Int)) (e : Ending) (w' : World) : Prop := ∃ eo cap, e = .returned (.slice eo ds.length cap) ∧ w'.ownsRow w.heap.size 25 2 (.slice eo ds.length cap) ds.length (flatD ds) ∧ Below w.heap.size w w'
/-- Between two rounds: the box at B1 holds the row of what is missing so far. -/
def Miss (Rw : World) (B1 : Nat) (S : Int → Int → Option Value) (pre : List (Int × Int)) (W : World) : Prop :=
  (notIn S pre).length ≤ 4096 ∧ ∃ eo cap, Boxed W B1 50 (.slice eo (notIn S pre).length cap) ∧ W.ownsRow Rw.heap.size 25 2 (.slice eo (notIn S pre).length cap) (notIn S pre).length (flatD (notIn S pre)) ∧ Below B1 Rw W ∧ Like Rw (B1 + 1) Rw.heap.size W ∧ Rw.heap.size ≤ W.heap.size
/-- .. broken off. -/
def MissX (kb : Nat) (Rw : World) (B1 : Nat) (S : Int → Int → Option Value) (c : Code) (pre : List (Int × Int)) (W : World) : Prop := c = .exit kb ∧ ∃ pre0 x, pre = pre0 ++ [x] ∧ (notIn S pre0).length = 4096 ∧ Miss Rw B1 S pre0 W
theorem MissX.mk {kb : Nat} {Rw : World} {B1 : Nat} {S : Int → Int → Option Value} {pre : List (Int × Int)} {x : Int × Int} {W : World} (h1 : (notIn S pre).length = 4096) (h2 : Miss Rw B1 S pre W) : MissX kb Rw B1 S (.exit kb) (pre ++ [x]) W := ⟨rfl, pre, x, rfl, h1, h2⟩
theorem row_own {W W' : World} {B e size n : Nat} {v : Value} {xs : List Value} {row : Option Nat} (h : W.ownsRow B e size v n xs) (hg : W.grownBy W' row) (hr : ∀ r, row = some r → ∃ o : Obj, W.heap[r]? = some o ∧ o.isCells = false) : W'.ownsRow B e size v n xs := by
  refine (Turns.of_grown (F := fun i => row = some i) hg (fun _ h => h)).row h (fun g hgb e => ?_)
  obtain ⟨o, ho, hc⟩ := hr g e
  rcases h.2 with ⟨h0, _⟩ | ⟨g', c', cur, h0, _, hb, _⟩
  · rw [h0] at hgb
    simp [Value.ownBlock] at hgb
  · rw [h0] at hgb
    have : g' = g := by simpa [Value.ownBlock] using hgb
    subst this
    rw [hb] at ho
    cases ho
    cases hc
theorem box_own {W W' : World} {B : Nat} {t : TypeId} {v : Value} {row : Option Nat} (h : Boxed W B t v) (hg : W.grownBy W' row) (hr : ∀ r, row = some r → ∃ o : Obj, W.heap[r]? = some o ∧ o.isCells = false) : Boxed W' B t v := h.kept hg (fun e => by
  obtain ⟨o, ho, hc⟩ := hr B e.symm
  have h' : W.heap[B]? = some (.cells #[v] t (0, 0)) := h
  rw [h'] at ho
  cases ho
  cases hc)
theorem miss_own (Rw : World) (B1 : Nat) (hB : B1 ≤ Rw.heap.size) (S : Int → Int → Option Value) : OwnFrom Rw.heap.size (Miss Rw B1 S) := fun _ W W' row ⟨h0, eo, cap, h1, h2, h3, h4, h5⟩ hg hr =>
  ⟨h0, eo, cap, box_own h1 hg (fun r e => (hr r e).2), row_own h2 hg (fun r e => (hr r e).2), h3.grown hg (Nat.le_trans hB h3.size) (fun k e => Nat.le_trans hB (hr k e).1), ownFrom_like (β := Unit) (Nat.le_refl _) () W W' row h4 hg hr, Nat.le_trans h5 hg.size⟩
theorem miss_below {Rw W W' : World} {B1 : Nat} {S : Int → Int → Option Value} {pre : List (Int × Int)} (h : Miss Rw B1 S pre W) (hb : Below W.heap.size W W') (hB : B1 ≤ Rw.heap.size) : Miss Rw B1 S pre W' := by
  obtain ⟨h0, eo, cap, h1, h2, h3, h4, h5⟩ := h
  exact ⟨h0, eo, cap, (hb.block _ h1.lt).trans h1, (Turns.of_below (F := fun _ => False) hb (Nat.le_refl _)).row h2 (fun _ _ h => h), h3.trans (hb.mono (by omega)), fun k a b => (hb.block k (by omega)).trans (h4 k a b), Nat.le_trans h5 hb.size⟩
theorem row_base {w : World} {B C e size n : Nat} {v : Value} {xs : List Value} (h : w.ownsRow B e size v n xs) (hC : C ≤ B) : w.ownsRow C e size v n xs := by
  refine ⟨h.1, ?_⟩
  rcases h.2 with h0 | ⟨g, cap, cur, e, hb, r⟩
  · exact .inl h0
  · exact .inr ⟨g, cap, cur, e, by omega, r⟩
section
variable {w : World} {p m N : Nat} {rs : Nat → Value} {R : Nat → List Value} {D : DataW Value} {S : Int → Int → Option Value}
set_option maxRecDepth 100000 in
set_option maxHeartbeats 2000000 in
theorem missing_any (h : DotsPre w p rs R m D S N) (vo : Option Addr) (vc : Nat) (v : List Int) (k : Nat) (hk : v.length = k) (hv : HV w vo vc v) : Calls Try.prog 30 #[.pointer (some ⟨p, 0, none⟩), .slice vo k vc] w (AnsM w (missOf S R v)) := by
  refine (callsIn_wide (n := 5)).1 ?_
  obtain ⟨W1, hW1⟩ : ∃ W1, W1 = (w.alloc (.cells #[.pointer (some ⟨p, 0, none⟩)] 26)).alloc (.cells #[.slice none 0 0] 50) := ⟨_, rfl⟩
  have hc7 := (h.below ((Below.refl w.heap.size w).alloc (Nat.le_refl _) (.cells #[.pointer (some ⟨p, 0, none⟩)] 26))).blk.cell (i := 7) rfl
  have HB1 : Hid (Below w.heap.size w W1) := by rw [hW1]; exact ((Below.refl _ w).alloc (Nat.le_refl _) _).alloc (by simp) _
  have HX1 : Hid (Boxed W1 w.heap.size 26 (.pointer (some ⟨p, 0, none⟩))) := by rw [hW1]; exact (Boxed.new w _ _).alloc _
  have HM1 : Hid (Boxed W1 (w.heap.size + 1) 50 (.slice none 0 0)) := by
    have := Boxed.new (w.alloc (.cells #[.pointer (some ⟨p, 0, none⟩)] 26)) 50 (.slice none 0 0)
    rw [World.size_alloc] at this
    rw [hW1]
    exact this
  have HS1 : Hid (W1.heap.size = w.heap.size + 2) := by
    show _ = _
    rw [hW1]
    simp
  have HP := hid h
  have HV := hid hv
  have HK := hid hk
  clear h hv hk
  refine callsIn_of_wp_marks Try.func30 rfl trivial ?_ rfl
  simp only [Try.ntmps30, List.size_toArray, List.length_cons, List.length_nil, Nat.reduceAdd, Nat.reduceSub, Array.replicate_succ, Array.replicate_zero, List.push_toArray, List.append_toArray, List.nil_append, List.cons_append]
  gi_wp2_with fail
  refine ⟨trivial, (callsIn_wide.2 (closedD_no _ p m hc7)).mono ?_⟩
  rintro e w0 ⟨rfl, rfl⟩
  clear hc7
  have hcs : W1.cell? ⟨w.heap.size, 0, none⟩ = some (.pointer (some ⟨p, 0, none⟩)) := HX1.out.cell
  rw [hW1] at hcs
  gi_wp2_with fail
  rw [← hW1]
  clear hcs hW1
  refine ⟨trivial, (callsIn_wide.2 (vector_any (HP.out.below HB1.out))).mono ?_⟩
  rintro e w2 ⟨xo, xc, rfl, hx, hb2⟩
  obtain ⟨L, HL⟩ : ∃ L, Hid ((plainOf (lensOf R)).length = L) := ⟨_, hid rfl⟩
  rw [HL.out]
  have HXV := hid hx
  have HB2 := hid (bt HB1.out hb2)
  have HB12 := hid hb2
  clear hx hb2
  gi_wp2_with fail
  refine ⟨trivial, (callsIn_wide.2 (between2_any w2 xo vo xc vc (plainOf (lensOf R)) v L k HL.out HK.out HXV.out (HV.out.below HB2.out))).mono ?_⟩
  rintro e Rw ⟨io, jo, ic, jc, rfl, hit, hb3, hoa, hob⟩
  have s2 := HB12.out.size
  have s3 := hb3.size
  have hs1 := HS1.out
  have HSQ := hid (betw_seq 4 (by omega) (w.heap.size + 1) (w.heap.size + 2) w2.heap.size (w2.heap.size + 1) Rw io jo ic jc (plainOf (lensOf R)) v (by omega) (by omega) (by omega) hit (hoa.mono (by omega)) (hob.mono (by omega)) (by omega))
  have HBR := hid (bt HB2.out hb3)
  have HXR : Hid (Boxed Rw w.heap.size 26 (.pointer (some ⟨p, 0, none⟩))) := (hb3.block _ (by omega)).trans ((HB12.out.block _ (by omega)).trans HX1.out)
  have HMR : Hid (Boxed Rw (w.heap.size + 1) 50 (.slice none 0 0)) := (hb3.block _ (by omega)).trans ((HB12.out.block _ (by omega)).trans HM1.out)
  have hRs : w.heap.size + 2 ≤ Rw.heap.size := by omega
  clear hit hb3 hoa hob HB12 HB2 HX1 HM1 HS1 hs1 s2 s3
  gi_wp2
  have hseq := HSQ.out
  obtain ⟨J, hJ⟩ : ∃ J : World → Prop, J = (fun W : World => ∃ eo cap, Boxed W (w.heap.size + 1) 50 (.slice eo (missOf S R v).length cap) ∧ W.ownsRow Rw.heap.size 25 2 (.slice eo (missOf S R v).length cap) (missOf S R v).length (flatD (missOf S R v)) ∧ Below (w.heap.size + 1) Rw W) := ⟨_, rfl⟩
  apply wpIn_rangeFunc_boxB (encs := fun x : Int × Int => #[dotV x]) (Kp := Kq (w.heap.size + 1) (w.heap.size + 2) Rw.heap.size) rfl (by omega) (gf := 56) (lb := #[.pointer (some ⟨w2.heap.size + 1, 0, none⟩), .pointer (some ⟨w2.heap.size, 0, none⟩)]) rfl trivial (enters_of Try.func56 (by kernel_rfl) rfl)
    hseq (fun a b => Kq.trans a b)
    (fun W l o o' hl ho hc hw => ⟨belowK_b (w := Rw) (by omega) W l o o' hl ho hc hw, fun k _ h2 => (grownBy_putObj' W l o').block k (by have := (Array.getElem?_eq_some_iff.1 ho).1; omega) (by intro e; have := Option.some.inj e; omega)⟩)
    (Below.refl _ _) (fun _ => rfl) (Miss Rw (w.heap.size + 1) S) (MissX 0 Rw (w.heap.size + 1) S) (miss_own Rw _ (by omega) S)
    (fun c => fun pre W W' row ⟨h1, pre0, x, h2, h3, h4⟩ hg hr => ⟨h1, pre0, x, h2, h3, miss_own Rw _ (by omega) S pre0 W W' row h4 hg hr⟩)
    (by exact ⟨Nat.zero_le _, none, 0, HMR.out, ⟨rfl, .inl ⟨rfl, rfl⟩⟩, Below.refl _ _, Like.refl _ _ _, Nat.le_refl _⟩) (Bx := fun x => [.int .i64 x.1, .int .i64 x.2]) (t := 25) (B := Rw.heap.size) (kb := 0) (J := J)
  case hS =>
    rintro xs W rfl ⟨h0, eo, cap, h1, h2, h3, _⟩
    rw [hJ]
    have hm : missOf S R v = notIn S (dotsAll (plainOf (lensOf R)) v) := by unfold missOf; exact List.take_of_length_le h0
    rw [hm]
    exact ⟨eo, cap, h1, h2, h3⟩
  case hSp =>
    rintro c pre W hpf ⟨hc, pre0, x, rfl, hl, h0, eo, cap, h1, h2, h3, _⟩
    refine ⟨hc, ?_⟩
    rw [hJ]
    have hm : missOf S R v = notIn S pre0 := by
      unfold missOf
      have := notIn_pre (S := S) (a := pre0) ((List.prefix_append pre0 [x]).trans hpf)
      rw [← take_full this (by omega), List.take_of_length_le (by omega)]
    rw [hm]
    exact ⟨eo, cap, h1, h2, h3⟩
  case hex => exact fun a W h => h
  case hassign =>
    intro l pre x W K hIp hK
    dsimp only [dotV]
    have hsW : Rw.heap.size ≤ W.heap.size := by
      obtain ⟨_, _, _, _, _, _, _, h⟩ := hIp
      exact h
    gi_wp2
    obtain ⟨g, hg⟩ : ∃ g, g = W.heap.size := ⟨_, rfl⟩
    have hbk : Blk (W.alloc (.cells #[.int .i64 x.1, .int .i64 x.2] 25)) g 25 [.int .i64 x.1, .int .i64 x.2] := by rw [hg]; exact Blk.new W 25 [.int .i64 x.1, .int .i64 x.2]
    have hgl : Rw.heap.size ≤ g := by rw [hg]; exact hsW
    rw [← hg]
    exact hK g (W.alloc (.cells #[.int .i64 x.1, .int .i64 x.2] 25)) ((KeepsOthers.alloc W _).from _) (Kq.alloc W (by omega) hsW _) ((miss_own Rw _ (by omega) S).alloc _ hIp) hbk hgl
  case hbody =>
    rintro l pre ⟨x1, x2⟩ g W hIp hbk hgl hlt
    have HIP := hid hIp
    obtain ⟨hl0, eo, cap, hbx, hrow, hbl, hlk, hsz⟩ := hIp
    obtain ⟨n0, HN0⟩ : ∃ n, Hid ((notIn S pre).length = n) := ⟨_, hid rfl⟩
    rw [HN0.out] at hbx hl0
    have hcb := hbx.cell
    have hfb := hbx.frozen
    have bS : Boxed W w.heap.size 26 (.pointer (some ⟨p, 0, none⟩)) := (hbl.block _ (by omega)).trans HXR.out
    have cS := bS.cell
    have c0 := hbk.cell (i := 0) rfl
    have c1 := hbk.cell (i := 1) rfl
    have HROW := hid hrow
    have HBOX := hid hbx
    have HBL := hid hbl
    have HLK := hid hlk
    have HBK := hid hbk
    clear hrow hbx hbl hlk hbk hlt bS
    by_cases hn4 : n0 = 4096
    · subst hn4
      gi_wp2
      exact ⟨(KeepsOthers.refl _).from _, MissX.mk HN0.out HIP.out⟩
    · have hn4' : ((n0 : Int) == 4096) = false := by simp; omega
      have hn4'' : ¬ (n0 : Int) = 4096 := by omega
      have HWP : Hid (DotsPre W p rs R m D S N) := (HP.out.below HBR.out).turned (F := fun i => w.heap.size + 1 ≤ i) ⟨HBL.out.os, HBL.out.tape, HBL.out.output, HBL.out.size, fun k _ hn => HBL.out.block k (by omega)⟩ (fun i hi => by have := HP.out.foot_lt i hi; omega)
      have HHAS := hid (has_dot HWP.out x1 x2)
      by_cases hS : (S x1 x2).isSome = true
      · rw [hS] at HHAS
        have HSN : Hid (notIn S (pre ++ [(x1, x2)]) = notIn S pre) := by show _ = _; rw [notIn_snoc]; simp [hS]
        clear hS
        gi_wp2_with fail
        refine ⟨trivial, (CallsIn.inRound l (callsIn_wide.2 HHAS.out)).mono ?_⟩
        rintro e w9 ⟨rfl, hb9⟩
        have HK9 := hid (keepsB hb9)
        have HQ9 : Hid (Kq (w.heap.size + 1) (w.heap.size + 2) Rw.heap.size W w9) := ⟨hb9.mono (by omega), fun k _ h2 => hb9.block k (by omega)⟩
        have HM9 : Hid (Miss Rw (w.heap.size + 1) S (pre ++ [(x1, x2)]) w9) := by
          have := miss_below HIP.out hb9 (by omega)
          unfold Miss at this ⊢
          rw [HSN.out]
          exact this
        clear hb9
        gi_wp2
        exact ⟨HK9.out.from _, HQ9.out, HM9.out⟩
      · have hS' : (S x1 x2).isSome = false := by simpa using hS
        rw [hS'] at HHAS
        have HSN : Hid (notIn S (pre ++ [(x1, x2)]) = notIn S pre ++ [(x1, x2)]) := by show _ = _; rw [notIn_snoc]; simp [hS']
        clear hS hS'
        gi_wp2_with fail
        refine ⟨trivial, (CallsIn.inRound l (callsIn_wide.2 HHAS.out)).mono ?_⟩
        rintro e w9 ⟨rfl, hb9⟩
        obtain ⟨_, eo9, cap9, hbx9, hrow9, hbl9, hlk9, hsz9⟩ := miss_below HIP.out hb9 (by omega)
        rw [HN0.out] at hbx9
        have hcb9 := hbx9.cell
        have hfb9 := hbx9.frozen
        have hbk9 := HBK.out.below hb9 HBK.out.lt
        have d0 := hbk9.cell (i := 0) rfl
        have d1 := hbk9.cell (i := 1) rfl
        have HK9 := hid (keepsB hb9)
        have HQ9 : Hid (Kq (w.heap.size + 1) (w.heap.size + 2) Rw.heap.size W w9) := ⟨hb9.mono (by omega), fun k _ h2 => hb9.block k (by omega)⟩
        have HROW9 : Hid (w9.ownsRow Rw.heap.size 25 2 (.slice eo9 n0 cap9) (notIn S pre).length (flatD (notIn S pre))) := by
          rw [HN0.out] at hrow9 ⊢
          exact hrow9
        have HBOX9 := hid hbx9
        have HBL9 := hid hbl9
        have HLK9 := hid hlk9
        have HPL : Hid ((notIn S pre).length ≤ 1000000) := by show _ ≤ _; rw [HN0.out]; omega
        have hlt9 := hbx9.lt
        clear hb9 hbx9 hrow9 hbl9 hlk9 hbk9 c0 c1 hcb hfb HHAS
        gi_wp2_with (gi_at_builtin; refine wpListIn_append_dot w9 _ (x1, x2) rfl rfl _ _ rfl Rw.heap.size _ (notIn S pre) rfl rfl HROW9.out hsz9 HPL.out ?_)
        intro v' w' hown' hb' hgrow
        have hk1 : KeepsOthers w9 w' := (KeepsOthers.alloc w9 _).trans (keeps_row (HROW9.out.alloc _) hgrow)
        have hbx' : Boxed w' (w.heap.size + 1) 50 (.slice eo9 n0 cap9) := (hb'.block _ (by omega)).trans HBOX9.out
        have hcb2 := hbx'.cell
        have hfb2 := hbx'.frozen
        obtain ⟨eo2, cap2, hv'⟩ := own_slice hown'
        have hl1 : (notIn S pre ++ [(x1, x2)]).length = n0 + 1 := by simp [HN0.out]
        have hown2 : w'.ownsRow Rw.heap.size 25 2 (.slice eo2 (n0 + 1) cap2) (n0 + 1) (flatD (notIn S pre ++ [(x1, x2)])) := by
          have h9 : w'.ownsRow Rw.heap.size 25 2 v' (notIn S pre ++ [(x1, x2)]).length (flatD (notIn S pre ++ [(x1, x2)])) := by simpa using hown'
          have e9 : v' = .slice eo2 (n0 + 1) cap2 := by
            rw [hv']
            congr 1
            simp [HN0.out]
          rw [hl1, e9] at h9
          exact h9
        have hv2 : v' = .slice eo2 (n0 + 1) cap2 := by
          rw [hv']
          congr 1
          simp [HN0.out]
        subst hv2
        have HK1 := hid (HK9.out.trans hk1)
        have HBX' := hid hbx'
        have HOWN' := hid hown2
        have HBL' : Hid (Below (w.heap.size + 1) Rw w') := HBL9.out.trans (hb'.mono (by omega))
        have HLK' : Hid (Like Rw (w.heap.size + 1 + 1) Rw.heap.size w') := fun k h1 h2 => (hb'.block k h2).trans (HLK9.out k h1 h2)
        have HQ' : Hid (Kq (w.heap.size + 1) (w.heap.size + 2) Rw.heap.size w9 w') := ⟨hb'.mono (by omega), fun k _ h2 => hb'.block k h2⟩
        have HSZ' : Hid (Rw.heap.size ≤ w'.heap.size) := Nat.le_trans hsz9 hb'.size
        have HL1 := hid hl1
        clear hk1 hbx' hown' hb' hgrow hl1 hown2 hv'
        gi_wp2
        refine ⟨(HK1.out.trans (KeepsOthers.setCell _ _ _)).from _, Kq.trans HQ9.out (Kq.trans HQ'.out (Kq.set _ (Nat.le_refl _) (by omega) _)), ?_⟩
        unfold Miss
        rw [HSN.out, HL1.out]
        have hnr := (show Blk w' (w.heap.size + 1) 50 [.slice eo9 n0 cap9] from HBX'.out).not_row (by decide) HOWN'.out
        refine ⟨by omega, eo2, cap2, HBX'.out.set _, ?_, HBL'.out.setCell (p := ⟨w.heap.size + 1, 0, none⟩) (Nat.le_refl _) _, HLK'.out.set (by omega) _, by simpa using HSZ'.out⟩
        exact ((Turns.refl (fun i => i = w.heap.size + 1) w').setCell (p := ⟨w.heap.size + 1, 0, none⟩) (.inl rfl) _).row HOWN'.out (fun g hg e => hnr (by rw [hg, e]))
  case hafter =>
    intro D9 W hD hj hDef
    rw [hJ] at hj
    obtain ⟨eo, cap, hbx, hrow, hbl⟩ := hj
    have hcb := hbx.cell
    have HROW := hid hrow
    have HBL := hid hbl
    have HDef := hid hDef
    obtain ⟨n9, HN9⟩ : ∃ n, Hid ((missOf S R v).length = n) := ⟨_, hid rfl⟩
    rw [HN9.out] at hcb HROW
    clear hrow hbl hDef hbx hJ hseq
    gi_wp2
    refine ⟨by simp, .inl ⟨_, _, rfl, run_takeDeferred HDef.out, ?_⟩⟩
    refine ⟨_, results_tmp rfl _ _ _, eo, cap, by rw [HN9.out]; rfl, ?_, (HBR.out.trans (HBL.out.mono (by omega))).trans (belowK_b (w := w) (Nat.le_refl _) _ D9 _ _ (by omega) HDef.out rfl rfl)⟩
    rw [HN9.out]
    refine row_base (row_own HROW.out (grownBy_putObj' W D9 (.deferred none)) (fun r e => ?_)) (by omega)
    cases e
    exact ⟨_, HDef.out, rfl⟩
end
end Go.Proofs.Ytplecopphddjhaa
