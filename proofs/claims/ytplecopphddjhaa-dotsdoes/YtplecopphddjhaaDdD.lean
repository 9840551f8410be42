/-
  The document's set of dots: Vector.
-/
import Derived.Test.YtplecopphddjhaaDdC
import Derived.Test.YtplecopphddjhaaVvE
namespace Go.Proofs.Ytplecopphddjhaa
open Go.RowKit Go.Maps

def bumpV (v : List Int) (q : PairV) : List Int := if q.s = v.getD q.o.toNat 0 + 1 then v.set q.o.toNat q.s else v
def vecP (ps : List PairV) : List Int := ps.foldl bumpV [0, 0, 0, 0, 0, 0, 0]
structure VecOk (v : List Int) : Prop where
  len : v.length = 7
  at_ : ∀ j, 0 ≤ v.getD j 0 ∧ v.getD j 0 ≤ 2147483647
theorem bumpV_ok {v : List Int} (h : VecOk v) {q : PairV} (hq : MayD q.o q.s) : VecOk (bumpV v q) := by
  unfold bumpV
  split
  · refine ⟨by rw [List.length_set]; exact h.len, fun j => ?_⟩
    have h1 := h.at_ j
    simp only [List.getD_eq_getElem?_getD, List.getElem?_set] at h1 ⊢
    split
    · split
      · have := hq.2
        simp
        omega
      · simp
    · exact h1
  · exact h
theorem vecP_ok {ps : List PairV} (h : ∀ q ∈ ps, MayD q.o q.s) (k : Nat) : VecOk (vecP (ps.take k)) := by
  unfold vecP
  have key : ∀ (l : List PairV) (v : List Int), (∀ q ∈ l, MayD q.o q.s) → VecOk v → VecOk (l.foldl bumpV v) := by
    intro l
    induction l with
    | nil => intro v _ hv; exact hv
    | cons x r ih => intro v hl hv; exact ih _ (fun q hq => hl q (List.mem_cons_of_mem _ hq)) (bumpV_ok hv (hl x List.mem_cons_self))
  refine key _ _ (fun q hq => h q (List.mem_of_mem_take hq)) ⟨rfl, fun j => ?_⟩
  match j with
  | 0 | 1 | 2 | 3 | 4 | 5 | 6 => decide
  | j + 7 => simp
theorem vecP_step {ps : List PairV} {k : Nat} (hk : k < ps.length) : vecP (ps.take (k + 1)) = bumpV (vecP (ps.take k)) ps[k] := by
  unfold vecP
  rw [take_snocP hk, List.foldl_append]
  rfl
theorem hv_of_blk {w : World} {g : Nat} {v : List Int} (h : Blk w g 3 (v.map (.int .i64 ·))) (hv : VecOk v) : HV w (some ⟨g, 0, none⟩) 7 v := by
  refine ⟨⟨fun y hy => ?_, .inr ⟨g, 0, rfl, h.lt, fun j hj => ?_⟩⟩, by rw [hv.len]; exact Nat.le_refl _, by rw [hv.len]; decide⟩
  · obtain ⟨j, hj, rfl⟩ := List.getElem_of_mem hy
    have := hv.at_ j
    rw [List.getD_eq_getElem?_getD, List.getElem?_eq_getElem hj] at this
    simp at this
    omega
  · rw [Nat.zero_add]
    exact h.cell (by rw [List.getElem?_map, List.getElem?_eq_getElem hj, List.getD_eq_getElem?_getD, List.getElem?_eq_getElem hj]; rfl)
set_option maxRecDepth 1000000 in
theorem RsAt.vector {w : World} {B x : Nat} {ps : List PairV} {eo : Option Addr} {cap : Nat} (h : RsAt w B x ps eo cap) (hmay : ∀ q ∈ ps, MayD q.o q.s) : Calls Try.prog 26 #[.pointer (some ⟨x, 0, none⟩)] w (AnsV w (plainOf (vecP ps))) := by
  have H := hid h
  have HMAY := hid hmay
  obtain ⟨n, HN⟩ : ∃ n, Hid (ps.length = n) := ⟨_, hid rfl⟩
  have HF : Hid (n ≤ 65536) := by rw [← HN.out]; exact h.few
  clear h hmay
  have hmk : ∀ W, (Instr.makeSlice 23 (.int .i64 7) (.int .i64 7)).run Try.prog W = .ok (.slice (some ⟨W.heap.size, 0, none⟩) 7 7) (W.alloc (.cells #[.int .i64 0, .int .i64 0, .int .i64 0, .int .i64 0, .int .i64 0, .int .i64 0, .int .i64 0] 3)) := fun W => by
    have h := run_make_row' (P := Try.prog) 23 3 (.int .i64 0) 8 Try.underlying23 Try.infoInt rfl .i64 .i64 7 (by decide) (by decide) W
    rw [show madeCells #[.int .i64 0] 7 = #[.int .i64 0, .int .i64 0, .int .i64 0, .int .i64 0, .int .i64 0, .int .i64 0, .int .i64 0] by kernel_rfl] at h
    exact h
  obtain ⟨W1, hW1⟩ : ∃ V, V = w.alloc (.cells #[.int .i64 0, .int .i64 0, .int .i64 0, .int .i64 0, .int .i64 0, .int .i64 0, .int .i64 0] 3) := ⟨_, rfl⟩
  obtain ⟨g, hg⟩ : ∃ q, q = w.heap.size := ⟨_, rfl⟩
  have hb1 : Below w.heap.size w W1 := by rw [hW1]; exact (Below.refl _ _).alloc (Nat.le_refl _) _
  have HG1 : Hid (Blk W1 g 3 ((vecP (ps.take 0)).map (.int .i64 ·))) := by rw [hW1, hg]; exact Blk.new _ _ [.int .i64 0, .int .i64 0, .int .i64 0, .int .i64 0, .int .i64 0, .int .i64 0, .int .i64 0]
  have H1 := hid (H.out.below hb1)
  have HB1 := hid hb1
  have HXG : Hid (x ≠ g) := by have := H.out.blk.lt; exact (by omega : x ≠ g)
  have HRG : Hid (∀ k, (Value.slice eo ps.length cap).ownBlock = some k → ¬ k = g) := fun k hk e => by have := (H.out.row.lt k hk).2; omega
  have HGW : Hid (w.heap.size ≤ g) := by rw [hg]; exact Nat.le_refl _
  have c0 := H1.out.blk.cell (i := 0) rfl
  rw [HN.out] at c0
  have HW1 := hid hW1
  have HG := hid hg
  clear hW1 hg hb1 c0
  go_enter Try.func26, Try.ntmps26
  go_wp2
  rw [← HW1.out, ← HG.out]
  clear hmk
  go_loopw [4, 5] (fun i _ wr => ∃ k : Nat, k ≤ n ∧ i = .int .i64 k ∧ Hid (Blk wr g 3 ((vecP (ps.take k)).map (.int .i64 ·)) ∧ Turns (fun i => i = g) W1 wr)) (fun i _ _ => n - (intOf i).toNat)
  case atStart => exact ⟨0, Nat.zero_le _, rfl, HG1.out, Turns.refl _ _⟩
  case round =>
    obtain ⟨k, hk, rfl, HR⟩ := hrel
    have H2 := hid (H1.out.turned HR.out.2 HXG.out HRG.out)
    have HT := hid HR.out.2
    have HBK := hid HR.out.1
    have c1 := H2.out.blk.cell (i := 0) rfl
    rw [HN.out] at c1
    clear HR
    by_cases hlt : k < n
    · have hlt' : (k : Int) < (n : Int) := by omega
      have HKX : Hid (k < ps.length) := by rw [HN.out]; exact hlt
      have HKM : Hid (k + 1 ≤ n) := (by omega : k + 1 ≤ n)
      have hwk : wrap64 ((k : Int) + 1) = (k : Int) + 1 := wrapN (by omega) (by have := HF.out; omega)
      obtain ⟨b, off, hao, _, a0, a1, a2⟩ := H2.out.held.1.cellsD HKX.out
      have HMD : Hid (MayD (ps[k]'HKX.out).o (ps[k]'HKX.out).s) := HMAY.out _ (List.getElem_mem _)
      have HST := hid (vecP_step HKX.out)
      have HOK := hid (vecP_ok HMAY.out k)
      obtain ⟨q, HQ⟩ : ∃ q, Hid (ps[k]'HKX.out = q) := ⟨_, hid rfl⟩
      rw [HQ.out] at a0 a1 a2 HST HMD
      obtain ⟨qo, qs, qt⟩ := q
      simp only at a0 a1 a2 HMD
      obtain ⟨m, hm⟩ : ∃ m : Nat, qo = (m : Int) := ⟨qo.toNat, by have := HMD.out.1; omega⟩
      subst hm
      subst hao
      have hm0 : (0 : Int) ≤ (m : Int) := by omega
      have hm7 : (m : Int) < 7 := HMD.out.1.2
      have hm7n : m < 7 := by omega
      obtain ⟨L, HL⟩ : ∃ L, Hid (vecP (ps.take k) = L) := ⟨_, hid rfl⟩
      rw [HL.out] at HST HOK HBK
      obtain ⟨V, HV⟩ : ∃ V, Hid (L.getD m 0 = V) := ⟨_, hid rfl⟩
      have HVB : Hid (0 ≤ V ∧ V ≤ 2147483647) := by rw [← HV.out]; exact HOK.out.at_ m
      have hwv : wrap64 (V + 1) = V + 1 := wrapN (by have := HVB.out; omega) (by have := HVB.out; omega)
      have hLm : (L.map (.int .i64 ·) : List Value)[m]? = some (.int .i64 V) := by
        have h1 : m < L.length := by rw [HOK.out.len]; exact hm7n
        rw [List.getElem?_map, List.getElem?_eq_getElem h1, ← HV.out, List.getD_eq_getElem?_getD, List.getElem?_eq_getElem h1]
        rfl
      obtain ⟨W2, hW2⟩ : ∃ U, U = wr.alloc (.cells #[.int .i64 (m : Int), .int .i64 qs] 25) := ⟨_, rfl⟩
      obtain ⟨qd, hqd⟩ : ∃ q, q = wr.heap.size := ⟨_, rfl⟩
      have hb2 : Below wr.heap.size wr W2 := by rw [hW2]; exact (Below.refl _ _).alloc (Nat.le_refl _) _
      have hD2 : Blk W2 qd 25 [.int .i64 (m : Int), .int .i64 qs] := by rw [hW2, hqd]; exact Blk.new _ _ _
      have HBK2 := hid (HBK.out.below hb2 HBK.out.lt)
      have HT2 : Hid (Turns (fun i => i = g) W1 W2) := HT.out.trans (Turns.of_below (F := fun i => i = g) hb2 (Nat.le_refl _)) (fun i hi => .inl hi)
      have HD2 := hid hD2
      have HW2 := hid hW2
      have HQD := hid hqd
      clear hW2 hqd hb2 hD2 hlt hk
      go_wp2
      rw [← HW2.out, ← HQD.out]
      have e0 := HD2.out.cell (i := 0) rfl
      have e1 := HD2.out.cell (i := 1) rfl
      have e2 := HBK2.out.cell hLm
      have e3 := HBK2.out.frozen m
      clear c1 a0 a1 a2 hLm
      by_cases hs : qs = V + 1
      · have HBU : Hid (bumpV L ⟨(m : Int), qs, qt⟩ = L.set m (V + 1)) := by
          show _ = _
          unfold bumpV
          rw [if_pos (by show qs = L.getD (m : Int).toNat 0 + 1; rw [Int.toNat_natCast, HV.out]; exact hs)]
          show L.set (m : Int).toNat qs = _
          rw [Int.toNat_natCast, hs]
        subst hs
        go_wp2
        go_quiet (fail)
        go_wp2
        have HBN : Hid (Blk (W2.drewN nq) g 3 (L.map (.int .i64 ·))) := HBK2.out.below (below_dn (Below.refl _ _) _) HBK2.out.lt
        have HTN : Hid (Turns (fun i => i = g) W1 (W2.drewN nq)) := HT2.out.trans (Turns.of_below (F := fun i => i = g) (below_dn (Below.refl _ _) _) (Nat.le_refl _)) (fun i hi => .inl hi)
        have hmap : (L.map (.int .i64 ·) : List Value).set m (.int .i64 (V + 1)) = (L.set m (V + 1)).map (.int .i64 ·) := by rw [List.map_set]
        have HBS : Hid (Blk ((W2.drewN nq).setCell ⟨g, m, none⟩ (.int .i64 (V + 1))) g 3 ((L.set m (V + 1)).map (.int .i64 ·))) := by
          show Blk _ _ _ _
          rw [← hmap]
          exact HBN.out.set m _
        go_roundw
        case rel => exact ⟨k + 1, HKM.out, by go_num, by rw [HST.out, HBU.out]; exact ⟨HBS.out, HTN.out.setCell (p := ⟨g, m, none⟩) (.inl rfl) _⟩⟩
        case measure => first | exact measNW HKM.out hwk | exact measN1 HKM.out
      · have HBU : Hid (bumpV L ⟨(m : Int), qs, qt⟩ = L) := by
          show _ = _
          unfold bumpV
          rw [if_neg (by show ¬ qs = L.getD (m : Int).toNat 0 + 1; rw [Int.toNat_natCast, HV.out]; exact hs)]
        have hs2 : (qs == V + 1) = false := beq_eq_false_iff_ne.2 hs
        clear hs
        go_wp2
        go_quiet (fail)
        go_wp2
        go_roundw
        case rel => exact ⟨k + 1, HKM.out, by go_num, by rw [HST.out, HBU.out]; exact ⟨HBK2.out.below (below_dn (Below.refl _ _) _) HBK2.out.lt, HT2.out.trans (Turns.of_below (F := fun i => i = g) (below_dn (Below.refl _ _) _) (Nat.le_refl _)) (fun i hi => .inl hi)⟩⟩
        case measure => first | exact measNW HKM.out hwk | exact measN1 HKM.out
    · have hlt' : ¬ (k : Int) < (n : Int) := by omega
      have HE : Hid (ps.take k = ps) := List.take_of_length_le (by have := HN.out; omega)
      rw [HE.out] at HBK
      have HOK : Hid (VecOk (vecP ps)) := by
        have := vecP_ok HMAY.out k
        rw [HE.out] at this
        exact this
      have HPL := hid (rplain_any wr (some ⟨g, 0, none⟩) 7 (vecP ps) 7 HOK.out.len (hv_of_blk HBK.out HOK.out))
      have HBE : Hid (Below w.heap.size w wr) := HB1.out.trans (HT.out.below (fun i hi => by rw [hi]; exact HGW.out) HB1.out.size)
      go_wp2_with fail
      refine HPL.out.mono ?_
      rintro e w5 ⟨bo, cp, rfl, hv5, hb5⟩
      have HV5 := hid hv5
      have HB5 := hid (btN HBE.out hb5)
      clear hv5 hb5
      go_wp2
      go_ret
      exact ⟨bo, cp, rfl, HV5.out, HB5.out⟩
end Go.Proofs.Ytplecopphddjhaa
