/-
  The document's log: After.
-/
import Derived.Test.YtjlompnjhmbhhaaGreatOlO
import Derived.Test.YtjlompnjhmbhhaaGreatSeqG
import Derived.Test.YtjlompnjhmbhhaaGreatOlK0
namespace Go.Proofs.YtjlompnjhmbhhaaGreat
open Go.RowKit Go.Maps
set_option linter.unusedSimpArgs false

def hasNo (v : List Int) (e : Ev) : Bool := !decide (HasV v e.o e.s)
/-- Those that v has not. -/
def restE (v : List Int) (xs : List EvM) : List EvM := xs.filter (fun y => hasNo v y.e)
theorem restE_snoc {v : List Int} {xs : List EvM} {k : Nat} (hk : k < xs.length) : restE v (xs.take (k + 1)) = restE v (xs.take k) ++ (if hasNo v xs[k].e then [xs[k]] else []) := by
  unfold restE
  rw [take_snocE hk, List.filter_append]
  simp [List.filter_cons]
theorem restE_take {v : List Int} {xs : List EvM} (k : Nat) : restE v (xs.take k) <+: restE v xs := by
  unfold restE
  have h : xs.filter (fun y => hasNo v y.e) = (xs.take k).filter (fun y => hasNo v y.e) ++ (xs.drop k).filter (fun y => hasNo v y.e) := by
    rw [← List.filter_append, List.take_append_drop]
  rw [h]
  exact List.prefix_append _ _
theorem prefix_takeE {a b : List EvM} (h : a <+: b) (n : Nat) (hn : a.length = n ∨ (a = b ∧ a.length ≤ n)) : b.take n = a := by
  rcases hn with hn | ⟨rfl, hn⟩
  · obtain ⟨r, rfl⟩ := h
    subst hn
    exact List.take_left
  · exact List.take_of_length_le hn
/-- What After answers. -/
def AftP (w0 w : World) (xs : List EvM) (e : Ending) (w' : World) : Prop := ∃ oo c, e = .returned (.slice oo xs.length c) ∧ w'.ownsRow w.heap.size 33 8 (.slice oo xs.length c) xs.length (flatE xs) ∧ AllOk w0 xs ∧ Below w.heap.size w w'
theorem aftP_of {w0 w w1 V : World} {oo : Option Addr} {c n : Nat} {s xs : List EvM} (hb : Below w.heap.size w w1) (h : SoAt w0 w1 oo c n s V) (he : xs = s) : AftP w0 w xs (.returned (.slice oo n c)) V := by
  subst he
  have h1 := h.len
  subst h1
  exact ⟨oo, c, rfl, ownsRow_baseL h.row hb.size, h.ok, bt hb h.bel⟩
set_option maxRecDepth 1000000 in
set_option maxHeartbeats 4000000 in
theorem DlAt.after {w0 w : World} {x cap cap2 : Nat} {g : Dm} {eo fo : Option Addr} (h : DlAt w0 w x g eo cap fo cap2) (vo : Option Addr) (vc : Nat) (v : List Int) (kl : Nat) (hkl : v.length = kl) (hv : HV w vo vc v) (most : Int) : Calls Tryz.prog 35 #[.pointer (some ⟨x, 0, none⟩), .slice vo kl vc, .int .i64 most] w (AftP w0 w ((restE v (sortM g.L)).take most.toNat)) := by
  have HSP := hid h.sorted
  have HFL : Hid (g.L.length ≤ 65536) := h.fewL
  have HLN : Hid ((sortM g.L).length = g.L.length) := by
    have := sortM_len_take g.L g.L.length (Nat.le_refl _)
    rw [List.take_length] at this
    exact this
  have HB00 := hid h.bel
  have HVV := hid hv
  obtain ⟨S, HS⟩ : ∃ S, Hid (sortM g.L = S) := ⟨_, hid rfl⟩
  rw [HS.out] at HSP HLN ⊢
  obtain ⟨n, HN⟩ : ∃ n, Hid (S.length = n) := ⟨_, hid rfl⟩
  have HNF : Hid (n ≤ 65536) := by have := HN.out; have := HLN.out; have := HFL.out; exact (by omega : n ≤ 65536)
  clear h hv
  go_enter Tryz.func35, Tryz.ntmps35
  go_wp2_with fail
  refine HSP.out.mono ?_
  rintro e w1 ⟨so, sc, rfl, hrow, hok, hb1⟩
  rw [HN.out] at hrow ⊢
  have HRW := hid hrow
  have HOK := hid hok
  have HB1 := hid hb1
  have HB0 : Hid (Below w0.heap.size w0 w1) := HB00.out.trans (hb1.mono HB00.out.size)
  have HHS : Hid (HeldE w1 so S) := by
    obtain ⟨ao, cp, he, _, h2⟩ := heldE_of_own HN.out hrow (hok.below HB0.out)
    cases he
    exact h2
  clear hrow hok hb1
  go_wp2
  go_loopw [7, 9] (fun o i wr => ∃ (k n' c : Nat) (oo : Option Addr), k ≤ n ∧ i = .int .i64 k ∧ o = .slice oo n' c ∧ Hid (SoAt w0 w1 oo c n' (restE v (S.take k)) wr) ∧ Hid ((n' : Int) ≤ max most 0)) (fun _ i _ => n - (intOf i).toNat)
  case atStart => exact ⟨0, 0, 0, none, Nat.zero_le _, rfl, rfl, ⟨World.ownsRow_nil _ _ _ _, Below.refl _ _, rfl, fun z hz => by simp [restE] at hz⟩, (by show _ ≤ _; omega)⟩
  case round =>
    obtain ⟨k, n', c, oo, hk, rfl, rfl, HSO, HMX⟩ := hrel
    have HKN : Hid (k ≤ n) := hk
    have HPRE := hid (restE_take (v := v) (xs := S) k)
    have hk0 : (0 : Int) ≤ (k : Int) := by omega
    by_cases hlt : k < n
    rotate_left 1
    · have hlt' : ¬ (k : Int) < (n : Int) := by omega
      have hld : decide ((k : Int) < (n : Int)) = false := decide_eq_false (by omega)
      have hle : decide (k < n) = false := decide_eq_false hlt
      have HFIN : Hid (AftP w0 w ((restE v S).take most.toNat) (.returned (.slice oo n' c)) wr) := by
        refine aftP_of HB1.out HSO.out (prefix_takeE HPRE.out _ (.inr ⟨?_, ?_⟩))
        · rw [List.take_of_length_le (by have := HN.out; have := HKN.out; omega)]
        · rw [HSO.out.len]; have := HMX.out; omega
      clear hlt hk
      go_wp2
      go_ret
      exact HFIN.out
    have hlt' : (k : Int) < (n : Int) := by omega
    have hld : decide ((k : Int) < (n : Int)) = true := decide_eq_true (by omega)
    have hle : decide (k < n) = true := decide_eq_true hlt
    have HKX : Hid (k < S.length) := by rw [HN.out]; exact hlt
    have HKM : Hid (k + 1 ≤ n) := (by omega : k + 1 ≤ n)
    have hwk : wrap64 ((k : Int) + 1) = (k : Int) + 1 := wrapN (by omega) (by have := HNF.out; omega)
    by_cases hmo : (n' : Int) < most
    rotate_left 1
    · have hmd : decide ((n' : Int) < most) = false := decide_eq_false hmo
      have HFIN : Hid (AftP w0 w ((restE v S).take most.toNat) (.returned (.slice oo n' c)) wr) := by
        refine aftP_of HB1.out HSO.out (prefix_takeE HPRE.out _ (.inl ?_))
        rw [HSO.out.len]; have := HMX.out; omega
      clear hlt hk hmo
      go_wp2
      go_ret
      exact HFIN.out
    have hmd : decide ((n' : Int) < most) = true := decide_eq_true hmo
    have HMO : Hid ((n' : Int) < most) := hmo
    have HHR := hid (HHS.out.below HSO.out.bel)
    obtain ⟨b, off, hao, hbl, a0, a1, a2, a3, a4, a5, a6, a7⟩ := HHR.out.at HKX.out
    subst hao
    have HYO : Hid (EvOk w0 (S[k]'HKX.out)) := HOK.out _ (List.getElem_mem _)
    have HSNC : Hid (restE v (S.take (k + 1)) = restE v (S.take k) ++ (if hasNo v (S[k]'HKX.out).e then [(S[k]'HKX.out)] else [])) := restE_snoc HKX.out
    obtain ⟨Y, HY⟩ : ∃ z, Hid (S[k]'HKX.out = z) := ⟨_, hid rfl⟩
    rw [HY.out] at a0 a1 a2 a3 a4 a5 a6 a7 HYO HSNC
    obtain ⟨Y2, HY2⟩ : ∃ z, Hid (Y = z) := ⟨_, hid rfl⟩
    rw [HY2.out] at HSNC
    have HYO2 : Hid (EvOk w0 Y2) := by rw [← HY2.out]; exact HYO.out
    obtain ⟨⟨o, s, dp, ct, ep, sk, qt, cl⟩, ao1, cap1⟩ := Y
    obtain ⟨XN, HXN⟩ : ∃ m, Hid (dp.length = m) := ⟨_, hid rfl⟩
    have HEQ : Hid (Y2.e.o = o ∧ Y2.e.s = s) := by rw [← HY2.out]; exact ⟨rfl, rfl⟩
    rw [HXN.out] at a2
    have HCS : Hid (∀ V, Below wr.heap.size wr V → V.cell? ⟨b, off + k * 8, none⟩ = some (.int .i64 o) ∧ V.cell? ⟨b, off + k * 8 + 1, none⟩ = some (.int .i64 s) ∧ V.cell? ⟨b, off + k * 8 + 2, none⟩ = some (.slice ao1 XN cap1) ∧ V.cell? ⟨b, off + k * 8 + 3, none⟩ = some (.string ct) ∧ V.cell? ⟨b, off + k * 8 + 4, none⟩ = some (.int .i64 ep) ∧ V.cell? ⟨b, off + k * 8 + 5, none⟩ = some (.string sk) ∧ V.cell? ⟨b, off + k * 8 + 6, none⟩ = some (.int .i64 qt) ∧ V.cell? ⟨b, off + k * 8 + 7, none⟩ = some (.bool cl)) := fun V hV =>
      ⟨(hV.cell (p := ⟨b, _, none⟩) hbl).trans a0, (hV.cell (p := ⟨b, _, none⟩) hbl).trans a1, (hV.cell (p := ⟨b, _, none⟩) hbl).trans a2, (hV.cell (p := ⟨b, _, none⟩) hbl).trans a3, (hV.cell (p := ⟨b, _, none⟩) hbl).trans a4, (hV.cell (p := ⟨b, _, none⟩) hbl).trans a5, (hV.cell (p := ⟨b, _, none⟩) hbl).trans a6, (hV.cell (p := ⟨b, _, none⟩) hbl).trans a7⟩
    have HHAS := hid (rhas_any wr vo vc v kl hkl (HVV.out.below (bt HB1.out HSO.out.bel)) o s)
    clear hlt hk hmo hbl a2 a3 a4 a5 a6 a7
    go_wp2_with fail
    refine HHAS.out.mono ?_
    rintro e w5 ⟨rfl, hb5⟩
    have HB5 := hid hb5
    have HSO5 := hid (HSO.out.below hb5)
    obtain ⟨d0, d1, d2, d3, d4, d5, d6, d7⟩ := HCS.out w5 hb5
    clear a0 a1 hb5
    by_cases hhs : HasV v o s
    · rw [decide_eq_true hhs]
      have HNX : Hid (restE v (S.take (k + 1)) = restE v (S.take k)) := by
        show _ = _
        rw [HSNC.out, if_neg (by simp [hasNo, HEQ.out.1, HEQ.out.2, hhs]), List.append_nil]
      clear hhs
      go_wp2
      go_roundw
      case rel => exact ⟨k + 1, n', c, oo, HKM.out, by go_num, rfl, by rw [HNX.out]; exact HSO5.out, HMX.out⟩
      case measure => first | exact measNW HKM.out hwk | exact measN1 HKM.out
    · rw [decide_eq_false hhs]
      have HNX : Hid (restE v (S.take (k + 1)) = restE v (S.take k) ++ [Y2]) := by
        show _ = _
        rw [HSNC.out, if_pos (by simp [hasNo, HEQ.out.1, HEQ.out.2, hhs])]
      clear hhs
      have HLE : Hid (n' ≤ 65536) := by
        have h1 := HSO.out.len
        have h2 : (restE v (S.take k)).length ≤ (S.take k).length := List.length_filter_le _ _
        rw [List.length_take] at h2
        have := HKN.out
        have := HNF.out
        exact (by omega : n' ≤ 65536)
      obtain ⟨R0, HR0⟩ : ∃ R, Hid (restE v (S.take k) = R) := ⟨_, hid rfl⟩
      rw [HR0.out] at HNX HSO5
      have HNE : Hid (EvOk w0 ⟨⟨o, s, dp, ct, ep, sk, qt, cl⟩, ao1, cap1⟩) := HYO.out
      have HBEL5 : Hid (Below w0.heap.size w0 w5) := HB0.out.trans (HSO5.out.bel.mono HB0.out.size)
      have HH3 : Hid (HeldE (w5.alloc (.cells #[.int .i64 o, .int .i64 s, .slice ao1 XN cap1, .string ct, .int .i64 ep, .string sk, .int .i64 qt, .bool cl] 33)) (some ⟨w5.heap.size, 0, none⟩) [⟨⟨o, s, dp, ct, ep, sk, qt, cl⟩, ao1, cap1⟩]) := by
        have h1 := held_newE (V := w5) (y := ⟨⟨o, s, dp, ct, ep, sk, qt, cl⟩, ao1, cap1⟩) (HNE.out.below (HBEL5.out.alloc (Nat.le_trans HBEL5.out.size (Nat.le_refl _)) _))
        simp only [EvM.cells] at h1
        rw [HXN.out] at h1
        exact h1
      have HBA : Hid (Below w5.heap.size w5 (w5.alloc (.cells #[.int .i64 o, .int .i64 s, .slice ao1 XN cap1, .string ct, .int .i64 ep, .string sk, .int .i64 qt, .bool cl] 33))) := (Below.refl _ _).alloc (Nat.le_refl _) _
      have HSA5 := hid (HSO5.out.below HBA.out)
      have HALL : Hid (AllOk w0 (R0 ++ [⟨⟨o, s, dp, ct, ep, sk, qt, cl⟩, ao1, cap1⟩])) := fun z hz => (List.mem_append.1 hz).elim (HSO5.out.ok z) (fun h => by rw [List.mem_singleton.1 h]; exact HNE.out)
      go_wp2_with (at_builtin; go_loud (refine wpList_append_evs rfl _ _ rfl w1.heap.size _ n' R0 HSO5.out.len rfl HSA5.out.row _ 1 1 [⟨⟨o, s, dp, ct, ep, sk, qt, cl⟩, ao1, cap1⟩] rfl rfl HH3.out (by have := HLE.out; omega) HSA5.out.bel.size (fun V hV => Dl0 HALL.out ((HB0.out.trans (HSA5.out.bel.mono HB0.out.size)).trans (hV.mono HB0.out.size))) ?_); intro bo cp w14 hown14 _ hb14; have HO14 := hid hown14; have HB14 := hid hb14; clear hown14 hb14)
      have HNW : Hid (SoAt w0 w1 bo cp (n' + 1) (restE v (S.take (k + 1))) w14) := by
        refine hid ?_
        rw [HNX.out, ← HY2.out]
        exact ⟨HO14.out, HSA5.out.bel.trans HB14.out, by rw [List.length_append, HSO5.out.len]; rfl, HALL.out⟩
      go_roundw
      case rel => exact ⟨k + 1, n' + 1, cp, bo, HKM.out, by go_num, rfl, HNW.out, (by show _ ≤ _; have := HMO.out; omega)⟩
      case measure => first | exact measNW HKM.out hwk | exact measN1 HKM.out
end Go.Proofs.YtjlompnjhmbhhaaGreat
/-
  The program's log, the document's: what is looked at, mathematics (sorted lists, gets, what waits).
-/
namespace Go.Proofs.YtjlompnjhmbhhaaGreat
open Go.RowKit Go.Maps

theorem sorted_unique {α : Type} {R : α → α → Prop} (hi : ∀ a, ¬ R a a) (ha : ∀ a b, R a b → ¬ R b a) : ∀ {a b : List α}, a.Pairwise R → b.Pairwise R → (∀ e, e ∈ a ↔ e ∈ b) → a = b
  | [], [], _, _, _ => rfl
  | [], y :: b, _, _, h => absurd ((h y).2 (by simp)) (by simp)
  | x :: a, [], _, _, h => absurd ((h x).1 (by simp)) (by simp)
  | x :: a, y :: b, h1, h2, h => by
    obtain ⟨p1, q1⟩ := List.pairwise_cons.1 h1
    obtain ⟨p2, q2⟩ := List.pairwise_cons.1 h2
    have hxy : x = y := by
      rcases List.mem_cons.1 ((h x).1 (by simp)) with e | hx
      · exact e
      · rcases List.mem_cons.1 ((h y).2 (by simp)) with e | hy
        · exact e.symm
        · exact absurd (p2 x hx) (ha _ _ (p1 y hy))
    subst hxy
    have ht := sorted_unique hi ha (a := a) (b := b) q1 q2 (fun e => by
      constructor
      · intro he
        rcases List.mem_cons.1 ((h e).1 (by simp [he])) with e' | he'
        · subst e'; exact absurd (p1 _ he) (hi _)
        · exact he'
      · intro he
        rcases List.mem_cons.1 ((h e).2 (by simp [he])) with e' | he'
        · subst e'; exact absurd (p2 _ he) (hi _)
        · exact he')
    rw [ht]
theorem rise_eq {a b : List Ev} (h1 : RiseO a) (h2 : RiseO b) (h : ∀ e, e ∈ a ↔ e ∈ b) : a = b :=
  sorted_unique (R := fun a b : Ev => a.o < b.o ∨ (a.o = b.o ∧ a.s < b.s)) (fun a => by omega) (fun a b h => by omega) h1 h2 h
theorem sortM_rise (L : List EvM) (hn : NodE (evs L)) : ∀ k, k ≤ L.length → RiseO (evs (sortM (L.take k))) ∧ ∀ e, e ∈ evs (sortM (L.take k)) ↔ e ∈ evs (L.take k)
  | 0, _ => ⟨.nil, fun e => by simp [sortM]⟩
  | k + 1, h => by
    obtain ⟨h1, h2⟩ := sortM_rise L hn k (by omega)
    have e1 : evs (sortM (L.take (k + 1))) = insO (evs (sortM (L.take k))) (L[k]'(by omega)).e := by
      rw [sortM_take (by omega), insM_evs]
    have e2 : evs (L.take (k + 1)) = evs (L.take k) ++ [(L[k]'(by omega)).e] := evs_take_snoc (by omega)
    rw [e1, e2]
    refine ⟨insO_rise h1 (fun y hy hd => ?_), fun e => ?_⟩
    · have hy2 := (h2 y).1 hy
      have e3 : evs L = evs (L.take k) ++ evs (L.drop k) := by rw [← evs_append, List.take_append_drop]
      rw [e3, NodE, List.pairwise_append] at hn
      exact hn.2.2 y hy2 (L[k]'(by omega)).e (List.mem_map.2 ⟨_, by rw [List.drop_eq_getElem_cons (show k < L.length by omega)]; exact List.mem_cons.2 (.inl rfl), rfl⟩) hd
    · rw [insO_mem, h2 e, List.mem_append, List.mem_singleton]
      exact Or.comm
theorem sortM_all (L : List EvM) (hn : NodE (evs L)) : RiseO (evs (sortM L)) ∧ ∀ e, e ∈ evs (sortM L) ↔ e ∈ evs L := by
  have := sortM_rise L hn L.length (Nat.le_refl _)
  rw [List.take_length] at this
  exact this
theorem mem_dotsL {a b : List Int} {x y : Int} : (x, y) ∈ dotsAll a b ↔ HasV b x y ∧ ¬ HasV a x y := by
  unfold dotsAll rowsFrom rowOf moreOf hadOf
  simp only [List.mem_flatMap, List.mem_map, List.mem_range, List.mem_range'_1, Prod.mk.injEq]
  constructor
  · rintro ⟨k, hk, i, hi, h1, h2⟩
    subst h1
    unfold HasV
    rw [ofV_nat, ofV_nat]
    omega
  · rintro ⟨h1, h2⟩
    have h3 : ¬ (x < 0 ∨ (b.length : Int) ≤ x) := fun hc => by
      have := h1.2
      have := h1.1
      unfold ofV at *
      rw [if_pos hc] at *
      omega
    obtain ⟨k, rfl⟩ := Int.eq_ofNat_of_zero_le (show 0 ≤ x by omega)
    unfold HasV at h1 h2
    rw [ofV_nat] at h1 h2
    exact ⟨k, by omega, (y - max (a.getD k 0) 0 - 1).toNat, by omega, rfl, by omega⟩
def LexD (x y : Int × Int) : Prop := x.1 < y.1 ∨ (x.1 = y.1 ∧ x.2 < y.2)
theorem dots_rise (a b : List Int) : ∀ (n k : Nat), ((List.range' k n).flatMap (rowOf a b)).Pairwise LexD ∧ ∀ d ∈ (List.range' k n).flatMap (rowOf a b), (k : Int) ≤ d.1
  | 0, k => by simp
  | n + 1, k => by
    obtain ⟨h1, h2⟩ := dots_rise a b n (k + 1)
    rw [List.range'_succ, List.flatMap_cons]
    have hf : ∀ d ∈ rowOf a b k, d.1 = (k : Int) := fun d hd => by
      unfold rowOf at hd
      obtain ⟨i, _, rfl⟩ := List.mem_map.1 hd
      rfl
    refine ⟨List.pairwise_append.2 ⟨?_, h1, fun x hx y hy => ?_⟩, fun d hd => ?_⟩
    · unfold rowOf
      rw [List.pairwise_map]
      refine List.Pairwise.imp (R := fun i j : Nat => i < j) (fun {i j} hij => ?_) List.pairwise_lt_range
      exact .inr ⟨rfl, by show _ < _; omega⟩
    · have := hf x hx
      have := h2 y hy
      exact .inl (by omega)
    · rcases List.mem_append.1 hd with hd | hd
      · have := hf d hd
        omega
      · have := h2 d hd
        omega
theorem dotsAll_rise (a b : List Int) : (dotsAll a b).Pairwise LexD := (dots_rise a b _ _).1
section
variable {w : World} {p me mw : Nat} {g : Lg} {d : Dl}
theorem evAt_dot (hL : LogAt w p me mw g) {o s : Int} (h : HasV g.A o s) : ∃ y, g.E o s = some y ∧ evAt g (o, s) = y.e ∧ y.e.o = o ∧ y.e.s = s := by
  have h1 := (hL.has o s).2 h
  obtain ⟨y, hy⟩ := Option.isSome_iff_exists.1 h1
  obtain ⟨D, hem⟩ := hL.em
  have h2 := hem.ok o s y hy
  refine ⟨y, hy, ?_, h2.2.1, h2.2.2⟩
  unfold evAt
  simp only [hy]
  rfl
theorem evL_mem (hS : SameO g d) (hL : LogAt w p me mw g) (v : List Int) (e : Ev) : e ∈ evL v g ↔ e ∈ d.L ∧ ¬ HasV v e.o e.s := by
  unfold evL
  rw [List.mem_map]
  constructor
  · rintro ⟨⟨o, s⟩, hd, rfl⟩
    obtain ⟨h1, h2⟩ := mem_dotsL.1 hd
    obtain ⟨y, hy, he, ho, hs⟩ := evAt_dot hL h1
    rw [he]
    exact ⟨(hS.E y.e).2 ⟨y, by rw [ho, hs]; exact hy, rfl⟩, by rw [ho, hs]; exact h2⟩
  · rintro ⟨h1, h2⟩
    obtain ⟨y, hy, hye⟩ := (hS.E e).1 h1
    have h3 : HasV g.A e.o e.s := (hL.has e.o e.s).1 (by rw [hy]; rfl)
    refine ⟨(e.o, e.s), mem_dotsL.2 ⟨h3, h2⟩, ?_⟩
    unfold evAt
    simp only [hy]
    exact hye
theorem evL_rise (hL : LogAt w p me mw g) (v : List Int) : RiseO (evL v g) := by
  unfold evL RiseO
  rw [List.pairwise_map]
  refine List.Pairwise.imp_of_mem (fun {a b} ha hb hab => ?_) (dotsAll_rise v g.A)
  obtain ⟨_, _, e1, e2, e3⟩ := evAt_dot hL (mem_dotsL.1 (show (a.1, a.2) ∈ dotsAll v g.A from ha)).1
  obtain ⟨_, _, f1, f2, f3⟩ := evAt_dot hL (mem_dotsL.1 (show (b.1, b.2) ∈ dotsAll v g.A from hb)).1
  rw [show evAt g a = _ from e1, show evAt g b = _ from f1, e2, e3, f2, f3]
  exact hab
theorem evs_restE (v : List Int) (xs : List EvM) : evs (restE v xs) = (evs xs).filter (hasNo v) := by
  unfold restE evs
  rw [List.filter_map]
  rfl
/-- What both tell of what v has not. -/
theorem after_same {gm : Dm} (hS : SameO g gm.d) (hL : LogAt w p me mw g) (hn : NodE gm.d.L) (v : List Int) : evL v g = evs (restE v (sortM gm.L)) := by
  obtain ⟨h1, h2⟩ := sortM_all gm.L hn
  refine rise_eq (evL_rise hL v) ?_ (fun e => ?_)
  · rw [evs_restE]
    exact List.Pairwise.filter _ h1
  · rw [evL_mem hS hL v e, evs_restE, List.mem_filter, h2 e]
    unfold hasNo
    simp only [Bool.not_eq_true', decide_eq_false_iff_not]
    exact Iff.rfl
theorem not_has_nil (o s : Int) : ¬ HasV [] o s := by
  unfold HasV ofV
  split <;> simp <;> omega
theorem all_same {gm : Dm} (hS : SameO g gm.d) (hL : LogAt w p me mw g) (hn : NodE gm.d.L) : evL [] g = evs (sortM gm.L) := by
  rw [after_same hS hL hn [], evs_restE]
  refine List.filter_eq_self.2 (fun e _ => ?_)
  unfold hasNo
  rw [decide_eq_false (not_has_nil _ _)]
  rfl
theorem get_same (hS : SameO g d) (hL : LogAt w p me mw g) (o s : Int) : (g.E o s).map (·.e) = d.L.find? (dotIs o s) := by
  obtain ⟨D, hem⟩ := hL.em
  cases hE : g.E o s with
  | none =>
    symm
    rw [Option.map_none, List.find?_eq_none]
    intro e he hd
    have hd' : e.o = o ∧ e.s = s := of_decide_eq_true hd
    obtain ⟨y, hy, _⟩ := (hS.E e).1 he
    rw [hd'.1, hd'.2, hE] at hy
    cases hy
  | some y =>
    have h2 := hem.ok o s y hE
    have h3 : y.e ∈ d.L := (hS.E y.e).2 ⟨y, by rw [h2.2.1, h2.2.2]; exact hE, rfl⟩
    cases hf : d.L.find? (dotIs o s) with
    | none =>
      have := (List.find?_eq_none.1 hf) y.e h3
      exact absurd (decide_eq_true h2.2) this
    | some e =>
      have he := List.mem_of_find?_eq_some hf
      have hd : e.o = o ∧ e.s = s := of_decide_eq_true (show dotIs o s e = true from List.find?_some hf)
      obtain ⟨z, hz, hze⟩ := (hS.E e).1 he
      rw [hd.1, hd.2, hE] at hz
      cases hz
      rw [Option.map_some, hze]
/-- The dots that wait. -/
theorem waits_same (hS : SameO g d) (hL : LogAt w p me mw g) {ss : List (Int × Int)} (h : WaitsOf g ss) : ss = d.W.map (fun e => (e.o, e.s)) := by
  obtain ⟨D, hwm⟩ := hL.wm
  refine sorted_unique (R := LexD) (fun a h => by unfold LexD at h; omega) (fun a b h k => by unfold LexD at h k; omega) ?_ ?_ (fun e => ?_)
  · exact h.2.2.imp (fun {a b} hab => (cmpD_lt a b).1 hab)
  · rw [List.pairwise_map]
    exact hS.rise
  · obtain ⟨o, s⟩ := e
    rw [h.2.1, hS.known o s (fun o s y h => (hwm.ok o s y h).2), List.mem_map]
    simp only [Prod.mk.injEq]
theorem applied_same (hS : SameO g d) : plainOf g.A = plainOf (vecL d.L) := plain_ext hS.A
end
end Go.Proofs.YtjlompnjhmbhhaaGreat
/-
  The document's log: Put, nothing is changed.
-/
namespace Go.Proofs.YtjlompnjhmbhhaaGreat
open Go.RowKit Go.Maps
set_option linter.unusedSimpArgs false
set_option maxRecDepth 1000000 in
set_option maxHeartbeats 40000000 in
theorem DlAt.putNo {w0 w : World} {x cap cap2 : Nat} {g : Dm} {eo fo : Option Addr} (h : DlAt w0 w x g eo cap fo cap2) (y : EvM) (hy : EvOk w0 y) (hno : ∃ c, RNo g y.e c) : Calls Tryz.prog 7 #[.pointer (some ⟨x, 0, none⟩), y.val] w (RPutP w0 w x (FootR x eo g.L.length cap fo g.W.length cap2) g y) := by
  suffices hsuf : ∀ Y, Y = y → Calls Tryz.prog 7 #[.pointer (some ⟨x, 0, none⟩), y.val] w (RPutP w0 w x (FootR x eo g.L.length cap fo g.W.length cap2) g Y) from hsuf y rfl
  intro Y hYE
  rw [← hYE] at hno
  have H_hno := hid hno
  obtain ⟨W1, hW1⟩ : ∃ V, V = w.alloc (.cells y.cells.toArray 33) := ⟨_, rfl⟩
  have hb1 : Below w.heap.size w W1 := by rw [hW1]; exact (Below.refl _ _).alloc (Nat.le_refl _) _
  obtain ⟨pb, hpb⟩ : ∃ q, q = w.heap.size := ⟨_, rfl⟩
  have HK : Hid (Blk W1 pb 33 y.cells) := by rw [hW1, hpb]; exact Blk.new _ _ _
  have HPL : Hid (w.heap.size ≤ pb) := by rw [hpb]; exact Nat.le_refl _
  have H := hid h
  have HY0 : Hid (EvOk w0 Y) := by rw [hYE]; exact hy
  have HMAY : Hid (Calls Tryz.prog 10 #[y.val] W1 fun e w' => e = .returned (.bool (decide (MayE Y.e))) ∧ Below W1.heap.size W1 w') := by rw [hYE]; exact rmayE_any W1 y (hy.below (h.below hb1).bel)
  have HAP := hid (fun V (hV : Below w.heap.size w V) => (h.below hV).applied)
  have HRD : Hid (∀ V, Below w.heap.size w V → Calls Tryz.prog 25 #[.pointer (some ⟨x, 0, none⟩), y.val] V fun e w' => e = .returned (.bool (decide (ReadyE (vecL (evs g.L)) Y.e))) ∧ Below V.heap.size V w') := fun V hV => by rw [hYE]; exact (h.below hV).ready y (hy.below (h.below hV).bel)
  obtain ⟨n, HN⟩ : ∃ n, Hid (g.W.length = n) := ⟨_, hid rfl⟩
  obtain ⟨m, HM⟩ : ∃ m, Hid (g.L.length = m) := ⟨_, hid rfl⟩
  have HNF : Hid (n ≤ 4096) := by rw [← HN.out]; exact h.fewW
  have HMF : Hid (m ≤ 65536) := by rw [← HM.out]; exact h.fewL
  have HCP : Hid (n ≤ cap2) := by rw [← HN.out]; exact h.heldW.2
  have HCL : Hid (m ≤ cap) := by rw [← HM.out]; exact h.heldL.2
  obtain ⟨V0, HV0⟩ : ∃ V0, Hid (vecL (evs g.L) = V0) := ⟨_, hid rfl⟩
  rw [HV0.out] at HAP HRD
  obtain ⟨L0, HL0⟩ : ∃ L, Hid ((plainOf V0).length = L) := ⟨_, hid rfl⟩
  have HB1 := hid hb1
  have HYE := hid hYE
  have HW1 := hid hW1
  have HPB := hid hpb
  clear h hy hb1 hpb hW1 hYE hno
  obtain ⟨⟨o, s, dp, ct, ep, sk, qt, cl⟩, ao1, cap1⟩ := y
  obtain ⟨XN, HXN⟩ : ∃ m, Hid (dp.length = m) := ⟨_, hid rfl⟩
  simp only [EvM.val, EvM.cells] at HW1 HK HMAY HRD ⊢
  rw [HXN.out] at HW1 HK HMAY HRD ⊢
  have HEQ : Hid (Y.e.o = o ∧ Y.e.s = s) := by rw [HYE.out]; exact ⟨rfl, rfl⟩
  have HIO : Hid (I64 o ∧ I64 s) := by
    have h1 := HY0.out.io
    have h2 := HY0.out.is
    rw [HEQ.out.1] at h1
    rw [HEQ.out.2] at h2
    exact ⟨h1, h2⟩
  have HBX : Hid (∀ V, Below W1.heap.size W1 V → Blk V pb 33 [.int .i64 o, .int .i64 s, .slice ao1 XN cap1, .string ct, .int .i64 ep, .string sk, .int .i64 qt, .bool cl]) := fun V hV => HK.out.below hV HK.out.lt
  have HHA : Hid (∀ V bo cp, HV V bo cp (plainOf V0) → Calls Tryz.prog 22 #[.slice bo L0 cp, .agg #[.int .i64 o, .int .i64 s]] V fun e w' => e = .returned (.bool (decide (HasV V0 Y.e.o Y.e.s))) ∧ Below V.heap.size V w') := fun V bo cp hv => by
    have h1 := rhas_any V bo cp (plainOf V0) L0 HL0.out hv o s
    rw [HEQ.out.1, HEQ.out.2]
    simpa only [hasV_plainOf] using h1
  go_enter Tryz.func7, Tryz.ntmps7
  go_wp2_with fail
  rw [← HW1.out, ← HPB.out]
  refine HMAY.out.mono ?_
  rintro e w2 ⟨rfl, hb2⟩
  have HB12 := hid hb2
  have HB2 := hid (bt HB1.out hb2)
  clear hb2 HMAY
  by_cases hm : MayE Y.e
  rotate_left 1
  · rw [decide_eq_false hm]
    have HC : Hid (RNo g Y.e 100) := RNo.wrong hm
    clear hm
    go_wp2
    go_ret2
    exact RPutP.no HC.out HB2.out
  rw [decide_eq_true hm]
  have HMY := hid hm
  clear hm
  have HSA2 : Hid (∀ V, Sc w2 V → (Sc w2 V ∧ V.cell? ⟨pb, 0, none⟩ = some (.int .i64 o) ∧ V.cell? ⟨pb, 1, none⟩ = some (.int .i64 s))) := fun V hV => by
    have h1 := HBX.out V (bt HB12.out hV.out)
    exact ⟨hV, h1.cell rfl, h1.cell rfl⟩
  have HCA : Hid (∀ V, Sc w2 V → Calls Tryz.prog 23 #[.pointer (some ⟨x, 0, none⟩)] V fun e w' => ∃ bo cp, e = .returned (.slice bo L0 cp) ∧ Hid (HV w' bo cp (plainOf V0)) ∧ Sc w2 w') := fun V hV => by
    refine (HAP.out V (bt HB2.out hV.out)).mono ?_
    rintro e w' ⟨bo, cp, rfl, h1, h2⟩
    rw [HL0.out]
    exact ⟨bo, cp, rfl, h1, hV.go h2⟩
  have HCH : Hid (∀ V bo cp, Sc w2 V → HV V bo cp (plainOf V0) → Calls Tryz.prog 22 #[.slice bo L0 cp, .agg #[.int .i64 o, .int .i64 s]] V fun e w' => e = .returned (.bool (decide (HasV V0 Y.e.o Y.e.s))) ∧ Sc w2 w') := fun V bo cp hV hv => by
    refine (HHA.out V bo cp hv).mono ?_
    rintro e w' ⟨rfl, h2⟩
    exact ⟨rfl, hV.go h2⟩
  go_wp2
  go_region_held3 (fun V => Sc w2 V ∧ V.cell? ⟨pb, 0, none⟩ = some (.int .i64 o) ∧ V.cell? ⟨pb, 1, none⟩ = some (.int .i64 s))
    ((refine HSA2.out _ ?_; (repeat (first | with_reducible assumption | exact Sc.start _ | apply Sc.dr | apply Sc.alloc))))
    (first
      | (go_at_call 23; with_reducible refine (HCA.out _ (by (repeat (first | with_reducible assumption | exact Sc.start _ | apply Sc.dr)))).mono ?_; rintro e w3 ⟨b3, c3, rfl, HV3, hs3⟩)
      | (go_at_call 22; with_reducible refine (HCH.out _ _ _ hs3 HV3.out).mono ?_; rintro e w4 ⟨rfl, hs4⟩)
      | fail)
  have HB24 := hid hs4.out
  have HB4 := hid (bt HB2.out hs4.out)
  clear hs3 hs4 HV3 HCA HCH HSA2
  by_cases hh : HasV V0 Y.e.o Y.e.s
  · rw [decide_eq_true hh]
    have HC : Hid (RNo g Y.e 5) := RNo.has HMY.out (by rw [HV0.out]; exact hh)
    clear hh
    go_wp2
    go_ret2
    exact RPutP.no HC.out HB4.out
  rw [decide_eq_false hh]
  have HHN := hid hh
  clear hh
  go_wp2
  go_loopw [6] (fun i wr => ∃ k : Nat, k ≤ n ∧ i = .int .i64 k ∧ Hid (AheadM g.W Y.e k) ∧ Hid (Below w4.heap.size w4 wr)) (fun i _ => n - (intOf i).toNat)
  case atStart => exact ⟨0, Nat.zero_le _, rfl, fun j _ h => (by omega), Below.refl _ _⟩
  case round =>
    obtain ⟨k, hk, rfl, HLO, HBR⟩ := hrel
    have HBW := hid (bt HB4.out HBR.out)
    have HBK := hid (bt HB12.out (bt HB24.out HBR.out))
    have HR := hid (H.out.below HBW.out)
    have HKN : Hid (k ≤ n) := hk
    have hk0 : (0 : Int) ≤ (k : Int) := by omega
    have e1 := HR.out.blk.cell (i := 1) rfl
    rw [HN.out] at e1
    have hxl := HR.out.blk.lt
    have hbx := HBX.out wr HBK.out
    have hpl := hbx.lt
    have ke1 := fun X : Beyond wr => X.cell e1 hxl
    have kb0 := fun X : Beyond wr => X.cell (hbx.cell (i := 0) rfl) hpl
    have kb1 := fun X : Beyond wr => X.cell (hbx.cell (i := 1) rfl) hpl
    clear e1 hbx hxl hpl
    by_cases hlt : k < n
    · have hlt' : (k : Int) < (n : Int) := by omega
      have hld : decide ((k : Int) < (n : Int)) = true := decide_eq_true (by omega)
      have hle : decide (k < n) = true := decide_eq_true hlt
      have HKX : Hid (k < g.W.length) := by rw [HN.out]; exact hlt
      have HKM : Hid (k + 1 ≤ n) := (by omega : k + 1 ≤ n)
      have hwk : wrap64 ((k : Int) + 1) = (k : Int) + 1 := wrapN (by omega) (by have := HNF.out; omega)
      obtain ⟨b, off, hao, hbl, a0, a1, _⟩ := HR.out.heldW.1.at HKX.out
      obtain ⟨q, HQ⟩ : ∃ z, Hid (g.W[k]'HKX.out = z) := ⟨_, hid rfl⟩
      rw [HQ.out] at a0 a1
      obtain ⟨⟨qo, qs, qd, qc, qe, qk, qq, ql⟩, qa, qp⟩ := q
      simp only at a0 a1
      have ka0 := fun X : Beyond wr => X.cell a0 hbl
      have ka1 := fun X : Beyond wr => X.cell a1 hbl
      have HLS : Hid (∀ X : Beyond wr, Calls Tryz.prog 24 #[.agg #[.int .i64 qo, .int .i64 qs], .agg #[.int .i64 o, .int .i64 s]] X.now (fun e w'' => e = .returned (.bool (lessO (g.W[k]'HKX.out).e Y.e)) ∧ ∃ Z : Beyond wr, w'' = Z.now)) := fun X => by
        have h2 : lessO (g.W[k]'HKX.out).e Y.e = decide (LessD qo qs o s) := by
          rw [HQ.out]
          unfold lessO
          rw [HEQ.out.1, HEQ.out.2]
          exact decide_eq_decide.2 Iff.rfl
        rw [h2]
        exact beyond_call X (rless_dot X.now qo qs o s)
      subst hao
      clear a0 a1 hbl
      obtain ⟨lb, HLB⟩ : ∃ lb, Hid (lessO (g.W[k]'HKX.out).e Y.e = lb) := ⟨_, hid rfl⟩
      rw [HLB.out] at HLS
      cases lb with
      | true =>
        have HNX : Hid (AheadM g.W Y.e (k + 1)) := fun j hj hjk => by
          by_cases e : j = k
          · subst e; exact HLB.out
          · exact HLO.out j hj (by omega)
        clear hlt hk
        go_wp2
        refine wp_region_beyond wr (by kernel_rfl) (by kernel_rfl) (Below.refl _ _) ?_
        repeat (go_big_quiet_step (first | (go_at_call 24; exact HLS.out _) | fail))
        refine wpQuiet_nil ?_
        rintro _ ⟨X, rfl⟩
        have HXX := hid (bt HBR.out X.is)
        clear ke1 kb0 kb1 ka0 ka1 HLS
        go_wp2
        go_roundw
        case rel => exact ⟨k + 1, HKM.out, by go_num, HNX.out, HXX.out⟩
        case measure => first | exact measNW HKM.out hwk | exact measN1 HKM.out
      | false =>
        have HKE : Hid (k = posM g.W Y.e) := posM_at HKX.out HLO.out HLB.out
        clear hlt hk
        go_wp2
        refine wp_region_beyond wr (by kernel_rfl) (by kernel_rfl) (Below.refl _ _) ?_
        repeat (go_big_quiet_step (first | (go_at_call 24; exact HLS.out _) | fail))
        refine wpQuiet_nil ?_
        rintro _ ⟨X, rfl⟩
        have c0 := ka0 X
        have c1 := ka1 X
        have c2 := ke1 X
        have c3 := kb0 X
        have c4 := kb1 X
        have HX := hid X.is
        obtain ⟨w7, HW7⟩ : ∃ V, Hid (V = X.now) := ⟨_, hid rfl⟩
        rw [← HW7.out] at c0 c1 c2 c3 c4 HX ⊢
        clear ke1 kb0 kb1 ka0 ka1 HLS
        by_cases hkw : qo = o ∧ qs = s
        · have HKW : Hid (KnowM g.W Y.e) := by
            refine ⟨by rw [← HKE.out]; exact HKX.out, ?_⟩
            have h1 : (g.W[posM g.W Y.e]'(by rw [← HKE.out]; exact HKX.out)) = g.W[k]'HKX.out := by congr 1; exact HKE.out.symm
            rw [h1, HQ.out, HEQ.out.1, HEQ.out.2]
            exact hkw
          obtain ⟨rfl, rfl⟩ := hkw
          go_wp2
          go_quiet (fail)
          go_wp2
          go_ret2
          exact RPutP.no (RNo.known HMY.out HKW.out) (below_dn (bt HBW.out HX.out) _)
        have HKW : Hid (¬ KnowM g.W Y.e) := by
          rintro ⟨h1, h2⟩
          have h3 : (g.W[posM g.W Y.e]'h1) = g.W[k]'HKX.out := by congr 1; exact HKE.out.symm
          rw [h3, HQ.out, HEQ.out.1, HEQ.out.2] at h2
          exact hkw h2
        have hqe := fun W => eql_dotL W qo qs o s hkw
        clear hkw
        go_wp2
        go_quiet (fail)
        clear hqe
        have HB7 := hid (below_dn (bt HBW.out HX.out) nq)
        obtain ⟨w8, HW8⟩ : ∃ V, Hid (V = w7.drewN nq) := ⟨_, hid rfl⟩
        rw [← HW8.out] at HB7 ⊢
        have HBK8 : Hid (Below W1.heap.size W1 w8) := by rw [HW8.out]; exact below_dn (bt HBK.out HX.out) nq
        clear c0 c1 c2 c3 c4
        have HR8 := hid (H.out.below HB7.out)
        have d0 := HR8.out.blk.cell (i := 0) rfl
        rw [HM.out] at d0
        by_cases hfl : 65536 ≤ m
        · have hfd : decide ((65536 : Int) ≤ (m : Int)) = true := decide_eq_true (by omega)
          have hfe : decide (65536 ≤ m) = true := decide_eq_true hfl
          have HC : Hid (RNo g Y.e 2) := RNo.full HMY.out (by rw [HV0.out]; exact HHN.out) HKW.out (by rw [HM.out]; exact hfl)
          clear hfl
          go_wp2
          go_ret2
          exact RPutP.no HC.out HB7.out
        have hfd : decide ((65536 : Int) ≤ (m : Int)) = false := decide_eq_false (by omega)
        have hfe : decide (65536 ≤ m) = false := decide_eq_false hfl
        have HFL : Hid (m < 65536) := (by omega : m < 65536)
        clear hfl
        have k0 := (HBX.out _ HBK8.out).cell (i := 0) rfl
        have k1 := (HBX.out _ HBK8.out).cell (i := 1) rfl
        have k2 := (HBX.out _ HBK8.out).cell (i := 2) rfl
        have k3 := (HBX.out _ HBK8.out).cell (i := 3) rfl
        have k4 := (HBX.out _ HBK8.out).cell (i := 4) rfl
        have k5 := (HBX.out _ HBK8.out).cell (i := 5) rfl
        have k6 := (HBX.out _ HBK8.out).cell (i := 6) rfl
        have k7 := (HBX.out _ HBK8.out).cell (i := 7) rfl
        go_wp2_with fail
        refine (HRD.out _ HB7.out).mono ?_
        rintro e w9 ⟨rfl, hb9⟩
        have HB9 := hid (bt HB7.out hb9)
        have HBK9 := hid (bt HBK8.out hb9)
        have HR9 := hid (H.out.below HB9.out)
        clear hb9 d0 k0 k1 k2 k3 k4 k5 k6 k7 hfd hfe
        by_cases hr : ReadyE V0 Y.e
        · exfalso
          exact RNo.elim H_hno.out HMY.out (by rw [HV0.out]; exact HHN.out) HKW.out (by rw [HM.out]; exact HFL.out) (.inl (by rw [HV0.out]; exact hr))
        rw [decide_eq_false hr]
        have HNR := hid hr
        have d1 := HR9.out.blk.cell (i := 1) rfl
        rw [HN.out] at d1
        by_cases hf4 : 4096 ≤ n
        rotate_left 1
        · exfalso
          exact RNo.elim H_hno.out HMY.out (by rw [HV0.out]; exact HHN.out) HKW.out (by rw [HM.out]; exact HFL.out) (.inr (by rw [HN.out]; omega))
        have hfd4 : decide ((4096 : Int) ≤ (n : Int)) = true := decide_eq_true (by omega)
        have hfe4 : decide (4096 ≤ n) = true := decide_eq_true hf4
        have HC : Hid (RNo g Y.e 2) := RNo.fullW HMY.out (by rw [HV0.out]; exact HHN.out) HKW.out (by rw [HM.out]; exact HFL.out) (by rw [HV0.out]; exact HNR.out) (by rw [HN.out]; exact hf4)
        clear hf4 hr
        go_wp2
        go_ret2
        exact RPutP.no HC.out HB9.out
    · have hlt' : ¬ (k : Int) < (n : Int) := by omega
      have hld : decide ((k : Int) < (n : Int)) = false := decide_eq_false (by omega)
      have hle : decide (k < n) = false := decide_eq_false hlt
      have HKE : Hid (k = posM g.W Y.e) := by
        have h1 : k = g.W.length := by have := HN.out; omega
        show _ = _
        rw [h1]
        exact posM_end (by rw [← h1]; exact HLO.out)
      have HKW : Hid (¬ KnowM g.W Y.e) := by
        rintro ⟨h1, _⟩
        have := HKE.out
        have := HN.out
        omega
      clear hlt hk
      go_wp2
      refine wp_region_beyond wr (by kernel_rfl) (by kernel_rfl) (Below.refl _ _) ?_
      repeat (go_big_quiet_step (fail))
      refine wpQuiet_nil ?_
      rintro _ ⟨X, rfl⟩
      have c2 := ke1 X
      have HX := hid X.is
      obtain ⟨w7, HW7⟩ : ∃ V, Hid (V = X.now) := ⟨_, hid rfl⟩
      rw [← HW7.out] at c2 HX ⊢
      clear ke1 kb0 kb1
      go_wp2
      go_quiet (fail)
      have HB7 := hid (below_dn (bt HBW.out HX.out) nq)
      obtain ⟨w8, HW8⟩ : ∃ V, Hid (V = w7.drewN nq) := ⟨_, hid rfl⟩
      rw [← HW8.out] at HB7 ⊢
      have HBK8 : Hid (Below W1.heap.size W1 w8) := by rw [HW8.out]; exact below_dn (bt HBK.out HX.out) nq
      clear c2
      have HR8 := hid (H.out.below HB7.out)
      have d0 := HR8.out.blk.cell (i := 0) rfl
      rw [HM.out] at d0
      by_cases hfl : 65536 ≤ m
      · have hfd : decide ((65536 : Int) ≤ (m : Int)) = true := decide_eq_true (by omega)
        have hfe : decide (65536 ≤ m) = true := decide_eq_true hfl
        have HC : Hid (RNo g Y.e 2) := RNo.full HMY.out (by rw [HV0.out]; exact HHN.out) HKW.out (by rw [HM.out]; exact hfl)
        clear hfl
        go_wp2
        go_ret2
        exact RPutP.no HC.out HB7.out
      have hfd : decide ((65536 : Int) ≤ (m : Int)) = false := decide_eq_false (by omega)
      have hfe : decide (65536 ≤ m) = false := decide_eq_false hfl
      have HFL : Hid (m < 65536) := (by omega : m < 65536)
      clear hfl
      have k0 := (HBX.out _ HBK8.out).cell (i := 0) rfl
      have k1 := (HBX.out _ HBK8.out).cell (i := 1) rfl
      have k2 := (HBX.out _ HBK8.out).cell (i := 2) rfl
      have k3 := (HBX.out _ HBK8.out).cell (i := 3) rfl
      have k4 := (HBX.out _ HBK8.out).cell (i := 4) rfl
      have k5 := (HBX.out _ HBK8.out).cell (i := 5) rfl
      have k6 := (HBX.out _ HBK8.out).cell (i := 6) rfl
      have k7 := (HBX.out _ HBK8.out).cell (i := 7) rfl
      go_wp2_with fail
      refine (HRD.out _ HB7.out).mono ?_
      rintro e w9 ⟨rfl, hb9⟩
      have HB9 := hid (bt HB7.out hb9)
      have HBK9 := hid (bt HBK8.out hb9)
      have HR9 := hid (H.out.below HB9.out)
      clear hb9 d0 k0 k1 k2 k3 k4 k5 k6 k7 hfd hfe
      by_cases hr : ReadyE V0 Y.e
      · exfalso
        exact RNo.elim H_hno.out HMY.out (by rw [HV0.out]; exact HHN.out) HKW.out (by rw [HM.out]; exact HFL.out) (.inl (by rw [HV0.out]; exact hr))
      rw [decide_eq_false hr]
      have HNR := hid hr
      have d1 := HR9.out.blk.cell (i := 1) rfl
      rw [HN.out] at d1
      by_cases hf4 : 4096 ≤ n
      rotate_left 1
      · exfalso
        exact RNo.elim H_hno.out HMY.out (by rw [HV0.out]; exact HHN.out) HKW.out (by rw [HM.out]; exact HFL.out) (.inr (by rw [HN.out]; omega))
      have hfd4 : decide ((4096 : Int) ≤ (n : Int)) = true := decide_eq_true (by omega)
      have hfe4 : decide (4096 ≤ n) = true := decide_eq_true hf4
      have HC : Hid (RNo g Y.e 2) := RNo.fullW HMY.out (by rw [HV0.out]; exact HHN.out) HKW.out (by rw [HM.out]; exact HFL.out) (by rw [HV0.out]; exact HNR.out) (by rw [HN.out]; exact hf4)
      clear hf4 hr
      go_wp2
      go_ret2
      exact RPutP.no HC.out HB9.out
end Go.Proofs.YtjlompnjhmbhhaaGreat
