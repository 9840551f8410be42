/-
  The document's set of dots: Extras.
-/
import Derived.Test.YtplecopphddjhaaDdD
import Derived.Test.YtplecopphddjhaaVvM
import Derived.Test.YtplecopphddjhaaDotsA
namespace Go.Proofs.Ytplecopphddjhaa
open Go.RowKit Go.Maps
set_option linter.unusedSimpArgs false

/-- Those that a vector has not. -/
def restP (ps : List PairV) (v : List Int) : List (Int × Int) := (ps.filter (fun q => !decide (HasV v q.o q.s))).map (fun q => (q.o, q.s))
theorem restP_step {ps : List PairV} {k : Nat} (hk : k < ps.length) (v : List Int) : restP (ps.take (k + 1)) v = restP (ps.take k) v ++ (if HasV v ps[k].o ps[k].s then [] else [(ps[k].o, ps[k].s)]) := by
  unfold restP
  rw [take_snocP hk, List.filter_append, List.map_append]
  congr 1
  by_cases h : HasV v ps[k].o ps[k].s <;> simp [h]
theorem restP_le (ps : List PairV) (k : Nat) (v : List Int) : (restP (ps.take k) v).length ≤ ps.length := by
  unfold restP
  rw [List.length_map]
  have h1 := List.length_filter_le (fun q : PairV => !decide (HasV v q.o q.s)) (ps.take k)
  rw [List.length_take] at h1
  omega
def ExtR (w : World) (ds : List (Int × Int)) (e : Ending) (w' : World) : Prop := ∃ v, e = .returned v ∧ w'.ownsRow w.heap.size 25 2 v ds.length (flatD ds) ∧ Below w.heap.size w w'
set_option maxRecDepth 100000 in
theorem RsAt.extras {w : World} {B x : Nat} {ps : List PairV} {eo : Option Addr} {cap : Nat} (h : RsAt w B x ps eo cap) (hmay : ∀ q ∈ ps, MayD q.o q.s) : Calls Try.prog 28 #[.pointer (some ⟨x, 0, none⟩)] w (ExtR w (restP ps (plainOf (vecP ps)))) := by
  have H := hid h
  have HVE := hid (h.vector hmay)
  obtain ⟨n, HN⟩ : ∃ n, Hid (ps.length = n) := ⟨_, hid rfl⟩
  have HF : Hid (n ≤ 65536) := by rw [← HN.out]; exact h.few
  clear h hmay
  go_enter Try.func28, Try.ntmps28
  obtain ⟨v, HVV⟩ : ∃ v, Hid (plainOf (vecP ps) = v) := ⟨_, hid rfl⟩
  obtain ⟨m, HM⟩ : ∃ m, Hid (v.length = m) := ⟨_, hid rfl⟩
  rw [HVV.out] at HVE
  go_wp2_with fail
  refine HVE.out.mono ?_
  rintro e w0 ⟨vo, vc, rfl, hv0, hb0⟩
  rw [HM.out]
  have HV0 := hid hv0
  have HB0 := hid hb0
  clear hv0 hb0
  go_wp2
  go_loopw [3, 5] (fun u i wr => ∃ k : Nat, i = .int .i64 k ∧ Hid (k ≤ n) ∧ Hid (wr.ownsRow w0.heap.size 25 2 u (restP (ps.take k) v).length (flatD (restP (ps.take k) v)) ∧ Below w0.heap.size w0 wr)) (fun _ i _ => n - (intOf i).toNat)
  case atStart => exact ⟨0, rfl, Nat.zero_le _, World.ownsRow_nil _ _ _ _, Below.refl _ _⟩
  case round =>
    obtain ⟨k, rfl, HK, HR⟩ := hrel
    have c1 := (H.out.below (btN HB0.out HR.out.2)).blk.cell (i := 0) rfl
    rw [HN.out] at c1
    have HROW := hid HR.out.1
    have HBV := hid HR.out.2
    have HB := hid (btN HB0.out HR.out.2)
    by_cases hlt : k < n
    · have hlt' : (k : Int) < (n : Int) := by omega
      have HKX : Hid (k < ps.length) := by rw [HN.out]; exact hlt
      have HKM : Hid (k + 1 ≤ n) := (by omega : k + 1 ≤ n)
      have hwk : wrap64 ((k : Int) + 1) = (k : Int) + 1 := wrapN (by omega) (by have := HF.out; omega)
      have hheld := (H.out.below (btN HB0.out HR.out.2)).held.1
      obtain ⟨b, off, hao, _, a0, a1, a2⟩ := hheld.cellsD HKX.out
      have HST := hid (restP_step HKX.out v)
      have HLE : Hid ((restP (ps.take k) v).length ≤ 1000000) := Nat.le_trans (restP_le ps k v) (by have := HN.out; have := HF.out; omega)
      obtain ⟨q, HQ⟩ : ∃ q, Hid (ps[k]'HKX.out = q) := ⟨_, hid rfl⟩
      rw [HQ.out] at a0 a1 a2 HST
      obtain ⟨qo, qs, qt⟩ := q
      simp only at a0 a1 a2 HST
      subst hao
      have HHAS := hid (rhas_any wr vo vc v m HM.out (HV0.out.below HBV.out) qo qs)
      have HCB := hid (H.out.below HB.out)
      clear hlt HR hheld
      by_cases he : ¬ HasV v qo qs
      · rw [if_neg he] at HST
        rw [decide_eq_false he] at HHAS
        clear he
        go_wp2_with fail
        refine HHAS.out.mono ?_
        rintro e w3 ⟨rfl, hb3⟩
        have HB3 := hid (btN HB.out hb3)
        have HBV3 := hid (btN HBV.out hb3)
        have c2 := (HCB.out.below hb3).blk.cell (i := 0) rfl
        rw [HN.out] at c2
        obtain ⟨b2, off2, hao2, _, e0, e1, e2⟩ := (HCB.out.below hb3).held.1.cellsD HKX.out
        cases hao2
        rw [HQ.out] at e0 e1 e2
        have HROW3 := hid ((Turns.of_below (F := fun _ => False) hb3 (Nat.le_refl _)).row HROW.out (fun _ _ h => h))
        clear hb3 c1 a0 a1 a2
        go_wp2_with (first | (at_builtin; refine wpList_append_dot w3 _ (qo, qs) rfl rfl _ _ rfl w0.heap.size _ (restP (ps.take k) v) rfl rfl HROW3.out HBV3.out.size HLE.out ?_; intro v' w5 hown hb5; have HO5 := hid hown; have HBV5 := hid (HBV3.out.trans hb5); clear hown hb5) | fail)
        go_roundw
        case rel => exact ⟨k + 1, by go_num, HKM.out, by rw [HST.out]; exact ⟨HO5.out, HBV5.out⟩⟩
        case measure => first | exact measNW HKM.out hwk | exact measN1 HKM.out
      · have he := Classical.not_not.1 he
        rw [if_pos he, List.append_nil] at HST
        rw [decide_eq_true he] at HHAS
        clear he
        go_wp2_with fail
        refine HHAS.out.mono ?_
        rintro e w3 ⟨rfl, hb3⟩
        have HB3 := hid (btN HB.out hb3)
        have HBV3 := hid (btN HBV.out hb3)
        have HROW3 := hid ((Turns.of_below (F := fun _ => False) hb3 (Nat.le_refl _)).row HROW.out (fun _ _ h => h))
        clear hb3 c1 a0 a1 a2
        go_wp2
        go_roundw
        case rel => exact ⟨k + 1, by go_num, HKM.out, by rw [HST.out]; exact ⟨HROW3.out, HBV3.out⟩⟩
        case measure => first | exact measNW HKM.out hwk | exact measN1 HKM.out
    · have hlt' : ¬ (k : Int) < (n : Int) := by omega
      have HE : Hid (ps.take k = ps) := List.take_of_length_le (by have := HN.out; omega)
      clear HR
      rw [HE.out] at HROW
      go_wp2
      go_ret
      exact ⟨_, rfl, by rw [HVV.out]; exact ownsRow_baseN HROW.out HB0.out.size, HB.out⟩
end Go.Proofs.Ytplecopphddjhaa
/-
  Package dots: Get and has.
-/
namespace Go.Proofs.Ytplecopphddjhaa
open Go.RowKit Go.Maps

theorem get_nil (w : World) (o s : Int) : Calls Try.prog 9 #[.pointer none, .agg #[.int .i64 o, .int .i64 s]] w fun e w' => e = .returned (.tuple #[zeroE, .bool false]) ∧ Below w.heap.size w w' := by
  have HB : Hid (Below w.heap.size w (w.alloc (.cells #[.int .i64 o, .int .i64 s] 25))) := (Below.refl _ _).alloc (Nat.le_refl _) _
  go_enter Try.func9, Try.ntmps9
  go_wp2_with fail
  refine (closedD_nil _).mono ?_
  rintro e w' ⟨rfl, rfl⟩
  go_wp2
  go_ret2
  exact ⟨rfl, HB.out⟩
theorem has_nil (w : World) (o s : Int) : Calls Try.prog 19 #[.pointer none, .agg #[.int .i64 o, .int .i64 s]] w fun e w' => e = .returned (.bool false) ∧ Below w.heap.size w w' := by
  have HB : Hid (Below w.heap.size w (w.alloc (.cells #[.int .i64 o, .int .i64 s] 25))) := (Below.refl _ _).alloc (Nat.le_refl _) _
  go_enter Try.func19, Try.ntmps19
  go_wp2_with fail
  refine (get_nil _ o s).mono ?_
  rintro e w' ⟨rfl, hb⟩
  have HB2 := hid (bt HB.out hb)
  clear hb
  go_wp2
  go_ret
  exact ⟨rfl, HB2.out⟩
theorem Try.zeroEl (w : World) : (zeroValue 9).run Try.prog w = .ok zeroE w := by kernel_rfl
section
variable {w w' : World} {p m N : Nat} {rs : Nat → Value} {R : Nat → List Value} {D : DataW Value} {S : Int → Int → Option Value}
set_option maxRecDepth 100000 in
theorem get_any (h : DotsPre w p rs R m D S N) (o s : Int) : Calls Try.prog 9 #[.pointer (some ⟨p, 0, none⟩), .agg #[.int .i64 o, .int .i64 s]] w fun e w' => e = .returned (.tuple #[(S o s).getD zeroE, .bool (S o s).isSome]) ∧ Below w.heap.size w w' := by
  have HB : Hid (Below w.heap.size w (w.alloc (.cells #[.int .i64 o, .int .i64 s] 25))) := (Below.refl _ _).alloc (Nat.le_refl _) _
  have HD : Hid (Blk (w.alloc (.cells #[.int .i64 o, .int .i64 s] 25)) w.heap.size 25 [.int .i64 o, .int .i64 s]) := Blk.new w 25 _
  have HH := hid h
  have HH1 := hid (h.below HB.out)
  clear h
  by_cases hm : MayD o s
  · obtain ⟨k, rfl⟩ := Int.eq_ofNat_of_zero_le hm.1.1
    have hk : k < 7 := by have := hm.1.2; omega
    have hk7 : (k : Int) < 7 := hm.1.2
    have hs1 : 1 ≤ s := hm.2.1
    have hs2 : s ≤ 2147483647 := hm.2.2
    have HAT := hid (HH.out.at hm)
    have HMD := hid hm
    clear hm
    go_enter Try.func9, Try.ntmps9
    go_wp2_with fail
    refine (closedD_no _ p m (HH1.out.blk.cell (i := 7) rfl)).mono ?_
    rintro e w1 ⟨rfl, rfl⟩
    have hd0 := HD.out.cell (i := 0) rfl
    have hd1 := HD.out.cell (i := 1) rfl
    go_wp2_with fail
    refine (may_dot _ (k : Int) s).mono ?_
    rintro e w2 ⟨rfl, hb2⟩
    rw [decide_eq_true HMD.out]
    have HB2 := hid (bt HB.out hb2)
    have HH2 := hid (HH1.out.below hb2)
    have HD2 : Hid (Blk w2 w.heap.size 25 [.int .i64 (k : Int), .int .i64 s]) := HD.out.below hb2 HD.out.lt
    clear hb2 hd0 hd1
    have hd0 := HD2.out.cell (i := 0) rfl
    have hd1 := HD2.out.cell (i := 1) rfl
    obtain ⟨ao, c, hrk⟩ := own_slice (HH2.out.run k hk)
    have hck := HH2.out.blk.cell (setCells_run rs m hk)
    rw [hrk] at hck
    have hc7 := HH2.out.blk.cell (i := 7) rfl
    have HRK := hid hrk
    have hlen := HH2.out.len hk
    obtain ⟨L, HL⟩ : ∃ L, Hid ((R k).length = L) := ⟨_, hid rfl⟩
    rw [HL.out] at hck hlen
    clear hrk
    go_wp2
    go_quiet (fail)
    have HH3 : Hid (DotsPre (w2.drewN nq) p rs R m D S N) := HH2.out.below (below_dn (Below.refl _ _) nq)
    have HB3 : Hid (Below w.heap.size w (w2.drewN nq)) := below_dn HB2.out nq
    have hd0 : (w2.drewN nq).cell? ⟨w.heap.size, 0, none⟩ = some (.int .i64 (k : Int)) := HD2.out.cell (i := 0) rfl
    have hd1 : (w2.drewN nq).cell? ⟨w.heap.size, 1, none⟩ = some (.int .i64 s) := HD2.out.cell (i := 1) rfl
    have hck : (w2.drewN nq).cell? ⟨p, k, none⟩ = some (.slice ao L c) := hck
    have hc7 : (w2.drewN nq).cell? ⟨p, 7, none⟩ = some (.map (some m)) := hc7
    clear HH2 HB2 HD2
    generalize w2.drewN nq = w3 at *
    by_cases hs : s ≤ (L : Int)
    · obtain ⟨j, hj⟩ := Int.eq_ofNat_of_zero_le (by omega : 0 ≤ s - 1)
      have hjL : j < L := by omega
      have hjI : (j : Int) < (L : Int) := by omega
      have hs3 : s - 1 = (j : Int) := hj
      obtain ⟨eo, cap, he, hec, hcell⟩ := own_form' (HH3.out.run k hk)
      rw [HRK.out] at he
      cases he
      obtain ⟨g, rfl, _, _, hgc⟩ := hcell (by rw [HL.out]; omega)
      have hx : (R k)[j]? = some ((R k)[j]'(by rw [HL.out]; exact hjL)) := List.getElem?_eq_getElem _
      obtain ⟨X, hX⟩ : ∃ X, (R k)[j]? = some X := ⟨_, hx⟩
      have hcj := hgc j X hX
      have HSX : Hid (S (k : Int) s = some X) := by
        show _ = _
        rw [HAT.out, if_pos (by rw [HL.out]; exact hs), hj]
        simpa using hX
      have hwj : wrap64 (s - 1) = (j : Int) := by rw [hj]; exact wrapS (by omega) (by omega)
      clear hgc hx hX hcell hj
      go_wp2
      go_ret2
      rw [HSX.out]
      exact ⟨rfl, HB3.out⟩
    · have hs' : ¬ s ≤ (L : Int) := hs
      obtain ⟨V, HV⟩ : ∃ V, Hid (look D (dk (k : Int) s) = V) := ⟨_, hid rfl⟩
      have hlk : ∀ q, (Instr.lookup 40 (.map (some m)) (.agg #[.int .i64 (k : Int), .int .i64 s]) true).run Try.prog (w3.drewN q) = .ok (.tuple #[V.getD zeroE, .bool V.isSome]) (w3.drewN q) := fun q => by
        have := run_look_ok (w := w3.drewN q) (HH3.out.map) Try.keyedDot Try.underlying40 (Try.zeroEl _) (key_dot HMD.out.i64.1 HMD.out.i64.2)
        rw [HV.out] at this
        exact this
      have HSX : Hid (S (k : Int) s = V) := by
        show _ = _
        rw [HAT.out, if_neg (by rw [HL.out]; exact hs), HV.out]
      clear hs
      go_wp2
      go_quiet (fail)
      go_wp2
      go_ret2
      rw [HSX.out]
      exact ⟨rfl, below_dn HB3.out _⟩
  · have hS : S o s = none := HH.out.out o s hm
    have HS := hid hS
    have HMD := hid hm
    clear hS hm
    go_enter Try.func9, Try.ntmps9
    go_wp2_with fail
    refine (closedD_no _ p m (HH1.out.blk.cell (i := 7) rfl)).mono ?_
    rintro e w1 ⟨rfl, rfl⟩
    have hd0 := HD.out.cell (i := 0) rfl
    have hd1 := HD.out.cell (i := 1) rfl
    go_wp2_with fail
    refine (may_dot _ o s).mono ?_
    rintro e w2 ⟨rfl, hb2⟩
    rw [decide_eq_false HMD.out]
    have HB2 := hid (bt HB.out hb2)
    clear hb2 hd0 hd1
    go_wp2
    go_ret2
    rw [HS.out]
    exact ⟨rfl, HB2.out⟩
theorem has_dot (h : DotsPre w p rs R m D S N) (o s : Int) : Calls Try.prog 19 #[.pointer (some ⟨p, 0, none⟩), .agg #[.int .i64 o, .int .i64 s]] w fun e w' => e = .returned (.bool (S o s).isSome) ∧ Below w.heap.size w w' := by
  have HB : Hid (Below w.heap.size w (w.alloc (.cells #[.int .i64 o, .int .i64 s] 25))) := (Below.refl _ _).alloc (Nat.le_refl _) _
  have HG := hid (get_any (h.below HB.out) o s)
  clear h
  obtain ⟨V, HV⟩ : ∃ V, Hid (S o s = V) := ⟨_, hid rfl⟩
  rw [HV.out] at HG ⊢
  go_enter Try.func19, Try.ntmps19
  go_wp2_with fail
  refine HG.out.mono ?_
  rintro e w' ⟨rfl, hb⟩
  have HB2 := hid (bt HB.out hb)
  clear hb
  go_wp2
  go_ret
  exact ⟨rfl, HB2.out⟩
end
end Go.Proofs.Ytplecopphddjhaa
