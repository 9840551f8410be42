/-
  SameEvents of lists that are the same; package cart: Merge.
-/
import Derived.Test.YtdfdgijaekhioaaCartX
import Derived.Test.YtdfdgijaekhioaaCartY
import Derived.Test.YtdfdgijaekhioaaCartO
namespace Go.Proofs.Ytdfdgijaekhioaa
open Go.RowKit Go.Maps

def dotLt (e f : Ev) : Prop := e.o < f.o ∨ e.o = f.o ∧ e.s < f.s
/-- m: of each dot of l the first event, by dots. -/
def MergeOf (l m : List Ev) : Prop := m.Perm (firstsFrom [] l) ∧ m.Pairwise (fun e f => ¬ dotLt f e)
theorem MergeOf.sorted {l m : List Ev} (h : MergeOf l m) : m.Pairwise dotLt := by
  have h1 : (m.map fun e => (e.o, e.s)).Nodup := (h.1.map _).nodup_iff.2 (firstsFrom_dots l []).1
  rw [List.nodup_iff_pairwise_ne, List.pairwise_map] at h1
  refine (h1.and h.2).imp ?_
  rintro e f ⟨h2, h3⟩
  unfold dotLt at h3 ⊢
  have h4 : ¬ (e.o = f.o ∧ e.s = f.s) := fun hh => h2 (by rw [hh.1, hh.2])
  omega
theorem MergeOf.mem {l m : List Ev} (h : MergeOf l m) (h1 : OneEach l) (x : Ev) : x ∈ m ↔ x ∈ l := by
  rw [h.1.mem_iff, firsts_mem h1]
theorem dsorted_eq : ∀ l m : List Ev, l.Pairwise dotLt → m.Pairwise dotLt → (∀ x, x ∈ l ↔ x ∈ m) → l = m
  | [], [], _, _, _ => rfl
  | [], y :: s, _, _, h => by have := (h y).2 (List.mem_cons_self ..); cases this
  | x :: r, [], _, _, h => by have := (h x).1 (List.mem_cons_self ..); cases this
  | x :: r, y :: s, h1, h2, h => by
    rw [List.pairwise_cons] at h1 h2
    have hxy : x = y := by
      rcases List.mem_cons.1 ((h x).1 (List.mem_cons_self ..)) with e | e
      · exact e
      · rcases List.mem_cons.1 ((h y).2 (List.mem_cons_self ..)) with e' | e'
        · exact e'.symm
        · have a := h1.1 y e'
          have b := h2.1 x e
          unfold dotLt at a b
          omega
    subst hxy
    have hirr : ∀ z, z ≠ x ∨ ¬ dotLt x z := fun z => by
      by_cases e : z = x
      · subst e
        exact .inr (by unfold dotLt; omega)
      · exact .inl e
    rw [dsorted_eq r s h1.2 h2.2 fun z => ?_]
    constructor
    · intro hz
      rcases List.mem_cons.1 ((h z).1 (List.mem_cons_of_mem _ hz)) with e | e
      · exact ((hirr z).elim (fun h0 => absurd e h0) (fun h0 => absurd (h1.1 z hz) h0))
      · exact e
    · intro hz
      rcases List.mem_cons.1 ((h z).2 (List.mem_cons_of_mem _ hz)) with e | e
      · exact ((hirr z).elim (fun h0 => absurd e h0) (fun h0 => absurd (h2.1 z hz) h0))
      · exact e
theorem merge_unique {l l' m m' : List Ev} (h : MergeOf l m) (h' : MergeOf l' m') (h1 : OneEach l) (h1' : OneEach l') (hm : ∀ x, x ∈ l ↔ x ∈ l') : m = m' :=
  dsorted_eq m m' h.sorted h'.sorted fun x => by rw [h.mem h1, h'.mem h1', hm]

set_option maxRecDepth 1000000 in
set_option maxHeartbeats 4000000 in
theorem sameEvs_any (w : World) (ao bo : Option Addr) (ca cb : Nat) (xs ys : List EvM) (n : Nat) (hn : xs.length = n) (hm : ys.length = n) (hx : HeldE w ao xs) (hy : HeldE w bo ys) (he : xs.map (·.e) = ys.map (·.e)) (hl : n ≤ 4194304) :
    Calls Try.prog 14 #[.slice ao n ca, .slice bo n cb] w fun e w' => e = .returned (.bool true) ∧ Below w.heap.size w w' := by
  have HN := hid hn
  have HM := hid hm
  have HX := hid hx
  have HY := hid hy
  have HE := hid he
  clear hn hm hx hy he
  go_enter Try.func14, Try.ntmps14
  go_wp2
  go_loopw [5] (fun x wr => ∃ i : Nat, i ≤ n ∧ x = .int .i64 i ∧ Hid (Below w.heap.size w wr)) (fun x _ => n - (intOf x).toNat)
  case atStart => exact ⟨0, Nat.zero_le _, rfl, Below.refl _ _⟩
  case round =>
    obtain ⟨i, hi, rfl, HB⟩ := hrel
    by_cases hlt : i < n
    · have hlt' : (i : Int) < (n : Int) := by omega
      have hix : Hid (i < xs.length) := (by rw [HN.out]; exact hlt : i < xs.length)
      have hiy : Hid (i < ys.length) := (by rw [HM.out]; exact hlt : i < ys.length)
      have HIM : Hid (i + 1 ≤ n) := (by omega : i + 1 ≤ n)
      obtain ⟨g1, f1, hao, hg1, e0, e1, e2, e3, e4, e5, e6, e7⟩ := (HX.out.below HB.out).at hix.out
      obtain ⟨g2, f2, hbo, hg2, r0, r1, r2, r3, r4, r5, r6, r7⟩ := (HY.out.below HB.out).at hiy.out
      subst hao hbo
      have HL1 := hid hg1
      have HL2 := hid hg2
      clear hg1 hg2
      have HOX := hid ((HX.out.1 _ (List.getElem_mem hix.out)).below HB.out)
      have HOY := hid ((HY.out.1 _ (List.getElem_mem hiy.out)).below HB.out)
      have HEE : Hid ((xs[i]'hix.out).e = (ys[i]'hiy.out).e) := by
        have h1 : (xs.map (·.e))[i]? = (ys.map (·.e))[i]? := by rw [HE.out]
        rw [List.getElem?_map, List.getElem?_map, List.getElem?_eq_getElem hix.out, List.getElem?_eq_getElem hiy.out] at h1
        exact Option.some.inj h1
      obtain ⟨X, HXX⟩ : ∃ X, Hid (xs[i]'hix.out = X) := ⟨_, hid rfl⟩
      obtain ⟨Y, HYY⟩ : ∃ Y, Hid (ys[i]'hiy.out = Y) := ⟨_, hid rfl⟩
      rw [HXX.out] at e0 e1 e2 e3 e4 e5 e6 e7 HOX
      rw [HYY.out] at r0 r1 r2 r3 r4 r5 r6 r7 HOY
      rw [HXX.out, HYY.out] at HEE
      have HSE : Hid (∀ V, Sc wr V → Calls Try.prog 22 #[X.val, Y.val] V fun e w' => e = .returned (.bool true) ∧ Sc wr w') := fun V hV => by
        have h1 := sameEv_any V X Y (HOX.out.below hV.out) (HOY.out.below hV.out)
        rw [decide_eq_true HEE.out] at h1
        exact h1.mono fun e w' ⟨h2, h3⟩ => ⟨h2, hV.go h3⟩
      clear HXX HYY HOX HOY HEE
      obtain ⟨⟨o1, s1, d1, c1, p1, k1, q1, b1⟩, ao1, cap1⟩ := X
      obtain ⟨⟨o2, s2, d2, c2, p2, k2, q2, b2⟩, ao2, cap2⟩ := Y
      simp only [EvM.val] at e0 e1 e2 e3 e4 e5 e6 e7 r0 r1 r2 r3 r4 r5 r6 r7 HSE
      obtain ⟨n1, HN1⟩ : ∃ n, Hid (d1.length = n) := ⟨_, hid rfl⟩
      obtain ⟨n2, HN2⟩ : ∃ n, Hid (d2.length = n) := ⟨_, hid rfl⟩
      rw [HN1.out] at e2
      rw [HN2.out] at r2
      rw [HN1.out, HN2.out] at HSE
      have HSA : Hid (∀ V, Sc wr V → (Sc wr V ∧ V.cell? ⟨g1, f1 + i * 8, none⟩ = some (.int .i64 o1) ∧ V.cell? ⟨g1, f1 + i * 8 + 1, none⟩ = some (.int .i64 s1) ∧ V.cell? ⟨g1, f1 + i * 8 + 2, none⟩ = some (.slice ao1 n1 cap1) ∧ V.cell? ⟨g1, f1 + i * 8 + 3, none⟩ = some (.string c1) ∧ V.cell? ⟨g1, f1 + i * 8 + 4, none⟩ = some (.int .i64 p1) ∧ V.cell? ⟨g1, f1 + i * 8 + 5, none⟩ = some (.string k1) ∧ V.cell? ⟨g1, f1 + i * 8 + 6, none⟩ = some (.int .i64 q1) ∧ V.cell? ⟨g1, f1 + i * 8 + 7, none⟩ = some (.bool b1) ∧ V.cell? ⟨g2, f2 + i * 8, none⟩ = some (.int .i64 o2) ∧ V.cell? ⟨g2, f2 + i * 8 + 1, none⟩ = some (.int .i64 s2) ∧ V.cell? ⟨g2, f2 + i * 8 + 2, none⟩ = some (.slice ao2 n2 cap2) ∧ V.cell? ⟨g2, f2 + i * 8 + 3, none⟩ = some (.string c2) ∧ V.cell? ⟨g2, f2 + i * 8 + 4, none⟩ = some (.int .i64 p2) ∧ V.cell? ⟨g2, f2 + i * 8 + 5, none⟩ = some (.string k2) ∧ V.cell? ⟨g2, f2 + i * 8 + 6, none⟩ = some (.int .i64 q2) ∧ V.cell? ⟨g2, f2 + i * 8 + 7, none⟩ = some (.bool b2))) := fun V hV => ⟨hV, (hV.out.cell (p := ⟨g1, f1 + i * 8, none⟩) HL1.out).trans e0, (hV.out.cell (p := ⟨g1, f1 + i * 8 + 1, none⟩) HL1.out).trans e1, (hV.out.cell (p := ⟨g1, f1 + i * 8 + 2, none⟩) HL1.out).trans e2, (hV.out.cell (p := ⟨g1, f1 + i * 8 + 3, none⟩) HL1.out).trans e3, (hV.out.cell (p := ⟨g1, f1 + i * 8 + 4, none⟩) HL1.out).trans e4, (hV.out.cell (p := ⟨g1, f1 + i * 8 + 5, none⟩) HL1.out).trans e5, (hV.out.cell (p := ⟨g1, f1 + i * 8 + 6, none⟩) HL1.out).trans e6, (hV.out.cell (p := ⟨g1, f1 + i * 8 + 7, none⟩) HL1.out).trans e7, (hV.out.cell (p := ⟨g2, f2 + i * 8, none⟩) HL2.out).trans r0, (hV.out.cell (p := ⟨g2, f2 + i * 8 + 1, none⟩) HL2.out).trans r1, (hV.out.cell (p := ⟨g2, f2 + i * 8 + 2, none⟩) HL2.out).trans r2, (hV.out.cell (p := ⟨g2, f2 + i * 8 + 3, none⟩) HL2.out).trans r3, (hV.out.cell (p := ⟨g2, f2 + i * 8 + 4, none⟩) HL2.out).trans r4, (hV.out.cell (p := ⟨g2, f2 + i * 8 + 5, none⟩) HL2.out).trans r5, (hV.out.cell (p := ⟨g2, f2 + i * 8 + 6, none⟩) HL2.out).trans r6, (hV.out.cell (p := ⟨g2, f2 + i * 8 + 7, none⟩) HL2.out).trans r7⟩
      have hsc0 := Sc.start wr
      go_wp2
      go_region_held3 (fun V => Sc wr V ∧ V.cell? ⟨g1, f1 + i * 8, none⟩ = some (.int .i64 o1) ∧ V.cell? ⟨g1, f1 + i * 8 + 1, none⟩ = some (.int .i64 s1) ∧ V.cell? ⟨g1, f1 + i * 8 + 2, none⟩ = some (.slice ao1 n1 cap1) ∧ V.cell? ⟨g1, f1 + i * 8 + 3, none⟩ = some (.string c1) ∧ V.cell? ⟨g1, f1 + i * 8 + 4, none⟩ = some (.int .i64 p1) ∧ V.cell? ⟨g1, f1 + i * 8 + 5, none⟩ = some (.string k1) ∧ V.cell? ⟨g1, f1 + i * 8 + 6, none⟩ = some (.int .i64 q1) ∧ V.cell? ⟨g1, f1 + i * 8 + 7, none⟩ = some (.bool b1) ∧ V.cell? ⟨g2, f2 + i * 8, none⟩ = some (.int .i64 o2) ∧ V.cell? ⟨g2, f2 + i * 8 + 1, none⟩ = some (.int .i64 s2) ∧ V.cell? ⟨g2, f2 + i * 8 + 2, none⟩ = some (.slice ao2 n2 cap2) ∧ V.cell? ⟨g2, f2 + i * 8 + 3, none⟩ = some (.string c2) ∧ V.cell? ⟨g2, f2 + i * 8 + 4, none⟩ = some (.int .i64 p2) ∧ V.cell? ⟨g2, f2 + i * 8 + 5, none⟩ = some (.string k2) ∧ V.cell? ⟨g2, f2 + i * 8 + 6, none⟩ = some (.int .i64 q2) ∧ V.cell? ⟨g2, f2 + i * 8 + 7, none⟩ = some (.bool b2)) (first | (refine ⟨?_, ?_, ?_, ?_, ?_, ?_, ?_, ?_, ?_, ?_, ?_, ?_, ?_, ?_, ?_, ?_, ?_⟩ <;> assumption) | (refine HSA.out _ ?_; (repeat (first | assumption | exact Sc.start _ | apply Sc.dr | apply Sc.alloc))))
        ((go_at_call 22; with_reducible refine (HSE.out _ (by (repeat (first | assumption | exact Sc.start _ | apply Sc.dr | apply Sc.alloc)))).mono ?_; rintro e w5 ⟨rfl, hs5⟩; have HS5 := hid hs5))
      all_goals
        go_wp2
        go_roundw
        case rel => exact ⟨i + 1, HIM.out, by go_num, bt HB.out HS5.out.out⟩
        case measure => simp [intOf]; have := HIM.out; omega
    · have hlt' : ¬ (i : Int) < (n : Int) := by omega
      go_wp2
      go_ret
      exact ⟨rfl, HB.out⟩

/-- What Merge answers. -/
def Merged (V : World) (l : List Ev) (e : Ending) (w' : World) : Prop :=
  ∃ o k c ms, e = .returned (.slice o k c) ∧ ms.length = k ∧ k ≤ l.length ∧ HeldE w' o ms ∧ MergeOf l (ms.map (·.e)) ∧ Below V.heap.size V w'
set_option maxRecDepth 1000000 in
set_option maxHeartbeats 2000000 in
theorem cmerge_any (w : World) (ao bo : Option Addr) (ca cb : Nat) (xs ys : List EvM) (n m : Nat) (hn : xs.length = n) (hm : ys.length = m) (hx : HeldE w ao xs) (hy : HeldE w bo ys) (hl : n + m ≤ 4194304) :
    Calls Try.prog 13 #[.slice ao n ca, .slice bo m cb] w (Merged w (xs.map (·.e) ++ ys.map (·.e))) := by
  obtain ⟨W, hW⟩ : ∃ W, W = w.alloc (.cells #[.slice ao n ca, .slice bo m cb] 22) := ⟨_, rfl⟩
  have HBW : Hid (Below w.heap.size w W) := by rw [hW]; exact (Below.refl _ _).alloc (Nat.le_refl _) _
  have hk : Blk W w.heap.size 22 [.slice ao n ca, .slice bo m cb] := by rw [hW]; exact Blk.new w _ _
  have HCC := hid (concatE_any W w.heap.size ao bo ca cb xs ys n m hn hm (hk.cell (i := 0) rfl) (hk.cell (i := 1) rfl) hk.lt (hx.below HBW.out) (hy.below HBW.out) hl)
  obtain ⟨zs, hz⟩ : ∃ zs, zs = xs ++ ys := ⟨_, rfl⟩
  have HZA : Hid (AllOk w zs) := by
    rw [hz]
    intro x hx'
    rcases List.mem_append.1 hx' with h1 | h1
    · exact hx.1 x h1
    · exact hy.1 x h1
  have HZE : Hid (zs.map (·.e) = xs.map (·.e) ++ ys.map (·.e)) := by show _ = _; rw [hz, List.map_append]
  have hzl : zs.length = n + m := by rw [hz, List.length_append, hn, hm]
  rw [← hz] at HCC
  rw [← HZE.out]
  obtain ⟨N, hN⟩ : ∃ N, zs.length = N := ⟨_, rfl⟩
  have hNl : N ≤ 4194304 := by omega
  have HNN := hid hN
  have HW := hid hW
  clear hW hk hz hzl hN hx hy hn hm
  go_enter Try.func13, Try.ntmps13
  go_wp2_with fail
  rw [← HW.out]
  refine HCC.out.mono ?_
  rintro e w1 ⟨v1, rfl, hrow1, hb1⟩
  have HB1 := hid (bt HBW.out hb1)
  rw [HNN.out] at hrow1
  obtain ⟨o1, c1, hv1, _, hh1⟩ := heldE_of_own HNN.out hrow1 (HZA.out.below HB1.out)
  have HF := hid (firsts_any w1 o1 c1 zs N HNN.out hh1 hNl)
  subst hv1
  clear hrow1 hb1 hh1
  go_wp2_with fail
  refine HF.out.mono ?_
  rintro e w2 ⟨v2, rfl, hrow2, hb2⟩
  obtain ⟨fs, hfs⟩ : ∃ fs, fs = firstsM zs := ⟨_, rfl⟩
  rw [← hfs] at hrow2
  have HFE : Hid (fs.map (·.e) = firstsFrom [] (zs.map (·.e))) := by show _ = _; rw [hfs]; exact firstsM_e zs
  have HFS : Hid (∀ x ∈ fs, x ∈ zs) := by rw [hfs]; exact firstsM_sub zs
  obtain ⟨K, hK⟩ : ∃ K, fs.length = K := ⟨_, rfl⟩
  have HKL : Hid (K ≤ N) := by show _ ≤ _; rw [← hK, hfs, ← HNN.out]; exact firstsM_len zs
  have hKs : K ≤ 4194304 := Nat.le_trans HKL.out hNl
  have HLT := hid hrow2.lt
  have HST := hid (sortE_any hrow2 (by rw [hK]; exact hKs))
  rw [hK] at HST hrow2
  obtain ⟨o2, c2, hv2⟩ := own_slice' hrow2
  have HB2 := hid (bt HB1.out hb2)
  have HB12 := hid hb2
  have HKK := hid hK
  clear hrow2 hb2 hfs hK
  subst hv2
  go_wp2_with fail
  refine HST.out.mono ?_
  rintro e w3 ⟨rfl, hs, hp, hso, hrow3, hgr⟩
  have HP := hid hp
  have HSO := hid hso
  have HB3 : Hid (Below w1.heap.size w1 w3) := HB12.out.trans ((Below.refl w1.heap.size w2).grown hgr HB12.out.size (fun k hk => (HLT.out k hk).1))
  have HBW3 : Hid (Below w.heap.size w w3) := bt HB1.out HB3.out
  have HSL : Hid (hs.length = K) := by show _ = _; rw [hp.length_eq, HKK.out]
  have HTD := hid (told_any HSL.out hKs hrow3 (fun x hx => (HZA.out x (HFS.out x (hp.mem_iff.1 hx))).below HBW3.out) (fun g hg x hx => evOff_of (HZA.out x (HFS.out x (hp.mem_iff.1 hx))) (Nat.le_trans HB1.out.size (HLT.out g hg).1)))
  clear hp hso hrow3 hgr
  go_wp2_with fail
  refine HTD.out.mono ?_
  rintro e w4 ⟨ms, rfl, hme, hrow4, hok4, ht⟩
  have HB4 : Hid (Below w1.heap.size w1 w4) := HB3.out.trans (ht.below (fun i hi => (HLT.out i hi).1) HB3.out.size)
  have HML : Hid (ms.length = K) := by
    have h1 := congrArg List.length hme
    simp at h1
    show _ = _
    rw [h1, HSL.out]
  obtain ⟨o3, c3, hv3, _, hh4⟩ := heldE_of_own HML.out hrow4 hok4
  have HH4 := hid hh4
  have HME := hid hme
  cases hv3
  clear hrow4 hok4 ht hh4 hme
  go_wp2
  go_ret
  refine ⟨o2, K, c2, ms, rfl, HML.out, ?_, HH4.out, ⟨?_, ?_⟩, bt HB1.out HB4.out⟩
  · rw [List.length_map, HNN.out]
    exact HKL.out
  · rw [HME.out, ← HFE.out]
    exact HP.out.map _
  · rw [HME.out, List.pairwise_map]
    exact HSO.out.imp fun {a b} h1 h2 => by have h3 := (kE_lt b a).2 h2; omega
end Go.Proofs.Ytdfdgijaekhioaa
