/-
  Package net: Fork; the packets for a node.
-/
import Derived.Test.YtoacfdicjpoohaaNdD
namespace Go.Proofs.Ytoacfdicjpoohaa
open Go.RowKit Go.Maps

section
variable {w : World} {p bm : Nat} {v : Value} {g : Nt} {D : DataW Value}
theorem map_ints (ps : List Pk) : (ps.map fun q => Value.int .i64 q.id) = ints (ps.map (·.id)) := map_ids
/-- What Fork answers: another bag in new blocks. -/
def NdFork (w : World) (g : Nt) (p' bm' : Nat) (v' : Value) (w' : World) : Prop := (∃ D', NetAt w' p' bm' v' g.nodes g.last g.ps D') ∧ Below w.heap.size w w' ∧ ∀ i, Foot p' bm' v' i → w.heap.size ≤ i
theorem cloneIds (V : World) (hr : V.ownsRow 0 3 1 v g.ps.length (g.ps.map fun q => Value.int .i64 q.id)) (hf : g.ps.length ≤ 65536) : Calls Try.prog 28 #[v] V fun e w' => ∃ v', e = .returned v' ∧ w'.ownsRow V.heap.size 3 1 v' g.ps.length (g.ps.map fun q => Value.int .i64 q.id) ∧ Below V.heap.size V w' := by
  rcases hr.2 with ⟨rfl, hn⟩ | ⟨b, cap, cur, rfl, _⟩
  · have hx : g.ps = [] := List.eq_nil_of_length_eq_zero hn
    rw [hx]
    have h := AnyE.slices_Clone_nil cloneNi 0 0 V
    refine Calls.mono h ?_
    rintro e w' ⟨rfl, rfl⟩
    exact ⟨_, rfl, ⟨rfl, .inl ⟨rfl, rfl⟩⟩, Below.refl _ _⟩
  · obtain ⟨iI, hj, hy0, hy1, hy2⟩ := info_parts Try.info3
    have hsz : ∀ w : World, (Go.sizeOf 3).run Try.prog w = .ok 1 w := fun w => by simp [Go.sizeOf, typeInfo, hj, hy1]
    have h := AnyE.slices_Clone cloneNi iI _ 1 8 hj hy0 hy1 hy2 rfl (by decide) hsz b 0 g.ps.length cap (g.ps.map fun q => Value.int .i64 q.id) V (by simp) (by unfold maxLen; omega) (by omega) (fun j u hu => by have h9 := hr.cells (g := b) rfl j u hu; rw [Addr.add_lit] at h9; exact h9) (fun u hu => by
      obtain ⟨q, _, rfl⟩ := List.mem_map.1 hu
      rfl)
    refine Calls.mono h ?_
    rintro e w' ⟨v', rfl, h1, _, h3⟩
    exact ⟨v', rfl, h1, h3⟩
theorem cloneMap {V : World} {n : Nat} (h : V.ownsMap Try.prog 3 valR bm n D) : Calls Try.prog 27 #[.map (some bm)] V fun e w' => ∃ m', e = .returned (.map (some m')) ∧ w'.ownsMap Try.prog 3 valR m' n D ∧ V.heap.size ≤ m' ∧ Below V.heap.size V w' := by
  have hc := AnyW.maps_Clone_owns cloneNp 3 valR bm n D V h
  refine Calls.mono hc ?_
  rintro e w' ⟨rfl, h1, _, h3⟩
  exact ⟨_, rfl, h1, Nat.le_refl _, h3⟩
set_option maxRecDepth 1000000 in
set_option maxHeartbeats 2000000 in
theorem NetAt.fork (h : NetAt w p bm v g.nodes g.last g.ps D) : Calls Try.prog 15 #[.pointer (some ⟨p, 0, none⟩)] w fun e w' => ∃ p' bm' v', e = .returned (.pointer (some ⟨p', 0, none⟩)) ∧ NdFork w g p' bm' v' w' := by
  have HCL := hid h.closed
  have H := hid h
  obtain ⟨nd, HND⟩ : ∃ n, Hid (g.nodes = n) := ⟨_, hid rfl⟩
  obtain ⟨la, HLA⟩ : ∃ n, Hid (g.last = n) := ⟨_, hid rfl⟩
  have HC1 : Hid (∀ V, ScN w V → Calls Try.prog 27 #[.map (some bm)] V fun e w' => ∃ m', e = .returned (.map (some m')) ∧ Hid (w'.ownsMap Try.prog 3 valR m' g.last.toNat D ∧ w.heap.size ≤ m') ∧ ScN w w') := fun V hV => by
    refine (cloneMap (h.below hV.out (Nat.le_refl _)).map).mono ?_
    rintro e w' ⟨m', rfl, h1, h2, h3⟩
    exact ⟨m', rfl, ⟨h1, Nat.le_trans hV.size h2⟩, hV.go h3⟩
  have HC2 : Hid (∀ V, ScN w V → Calls Try.prog 28 #[v] V fun e w' => ∃ ao cp, e = .returned (.slice ao g.ps.length cp) ∧ Hid (w'.ownsRow w.heap.size 3 1 (.slice ao g.ps.length cp) g.ps.length (g.ps.map fun q => Value.int .i64 q.id)) ∧ ScN w w' ∧ Hid (Below V.heap.size V w')) := fun V hV => by
    refine (cloneIds V (h.below hV.out (Nat.le_refl _)).row h.few).mono ?_
    rintro e w' ⟨v', rfl, h1, h2⟩
    obtain ⟨ao, cp, rfl⟩ := own_slice h1
    exact ⟨ao, cp, rfl, ownsRow_baseN h1 hV.size, hV.go h2, h2⟩
  obtain ⟨N, HN⟩ : ∃ n, Hid (g.ps.length = n) := ⟨_, hid rfl⟩
  rw [HN.out] at HC2
  have HSA : Hid (∀ V, ScN w V → (ScN w V ∧ V.cell? ⟨p, 0, none⟩ = some (.int .i64 nd) ∧ V.cell? ⟨p, 1, none⟩ = some (.int .i64 la) ∧ V.cell? ⟨p, 2, none⟩ = some (.map (some bm)) ∧ V.cell? ⟨p, 3, none⟩ = some v)) := fun V hV => by
    have h1 := (H.out.below hV.out (Nat.le_refl _)).blk
    rw [HND.out, HLA.out] at h1
    exact ⟨hV, h1.cell rfl, h1.cell rfl, h1.cell rfl, h1.cell rfl⟩
  have HMK : Hid (∀ U m' ao cp, ScN w U → U.ownsMap Try.prog 3 valR m' g.last.toNat D → w.heap.size ≤ m' → U.ownsRow w.heap.size 3 1 (.slice ao N cp) N (g.ps.map fun q => Value.int .i64 q.id) → NdFork w g U.heap.size m' (.slice ao N cp) (U.alloc (.cells #[.int .i64 nd, .int .i64 la, .map (some m'), .slice ao N cp] 48))) := fun U m' ao cp c1 c2 c3 c4 => by
    have hb : Below U.heap.size U (U.alloc (.cells #[.int .i64 nd, .int .i64 la, .map (some m'), .slice ao N cp] 48)) := (Below.refl _ _).alloc (Nat.le_refl _) _
    have ht := Turns.of_below (F := fun _ => False) hb (Nat.le_refl _)
    have hbk := Blk.new U 48 [.int .i64 nd, .int .i64 la, .map (some m'), .slice ao N cp]
    refine ⟨⟨D, ?_, ht.map c2 (fun h => h), ?_, H.out.look, H.out.rise, H.out.ids, H.out.few, H.out.zero⟩, btN c1.out hb, ?_⟩
    · rw [HND.out, HLA.out]; exact hbk
    · rw [HN.out]; exact ownsRow_baseN (ht.row c4 (fun _ _ h => h)) (Nat.zero_le _)
    · rintro i (rfl | rfl | hi)
      · exact c1.size
      · exact c3
      · exact (c4.lt i hi).1
  clear h
  go_enter Try.func15, Try.ntmps15
  go_wp2_with fail
  refine HCL.out.mono ?_
  rintro e w1 ⟨rfl, rfl⟩
  go_wp2
  go_region_held3 (fun V => ScN w1 V ∧ V.cell? ⟨p, 0, none⟩ = some (.int .i64 nd) ∧ V.cell? ⟨p, 1, none⟩ = some (.int .i64 la) ∧ V.cell? ⟨p, 2, none⟩ = some (.map (some bm)) ∧ V.cell? ⟨p, 3, none⟩ = some v)
    ((refine HSA.out _ ?_; (repeat (first | with_reducible assumption | exact ScN.start _ | apply ScN.dr | apply ScN.alloc))))
    (first
      | (go_at_call 27; with_reducible refine (HC1.out _ (by (repeat (first | with_reducible assumption | exact ScN.start _ | apply ScN.dr)))).mono ?_; rintro e w6 ⟨m6, rfl, HF6, hs6⟩)
      | (go_at_call 28; with_reducible refine (HC2.out _ (by (repeat (first | with_reducible assumption | exact ScN.start _ | apply ScN.dr)))).mono ?_; rintro e w7 ⟨a7, c7, rfl, HR7, hs7, HB7⟩)
      | fail)
  have hF : Hid (NdFork w1 g w7.heap.size m6 (.slice a7 N c7) (w7.alloc (.cells #[.int .i64 nd, .int .i64 la, .map (some m6), .slice a7 N c7] 48))) := HMK.out w7 m6 a7 c7 hs7 ((Turns.of_below (F := fun _ => False) HB7.out (Nat.le_refl _)).map HF6.out.1 (fun h => h)) HF6.out.2 HR7.out
  go_wp2
  go_ret
  exact ⟨_, m6, _, rfl, hF.out⟩
theorem wantTo (w : World) (q : Pk) (nb : Nat) (node : Int) (hc : w.cell? ⟨nb, 0, none⟩ = some (.int .i64 node)) : Calls Try.prog 33 #[.agg #[.int .i64 q.id, .int .i64 q.frm, .int .i64 q.dst, .string q.body], .pointer (some ⟨nb, 0, none⟩)] w fun e w' => e = .returned (.bool (q.dst == node)) ∧ w' = w.alloc (.cells #[.int .i64 q.id, .int .i64 q.frm, .int .i64 q.dst, .string q.body] 36) := by
  have hc2 : (w.alloc (.cells #[.int .i64 q.id, .int .i64 q.frm, .int .i64 q.dst, .string q.body] 36)).cell? ⟨nb, 0, none⟩ = some (.int .i64 node) := by
    have hlt := World.block_lt_of_cell? w _ hc
    exact (World.cell?_alloc_lt _ _ _ hlt).trans hc
  go_enter Try.func33, Try.ntmps33
  go_wp2
  go_ret
  exact ⟨rfl, rfl⟩
set_option maxRecDepth 100000 in
set_option maxHeartbeats 1000000 in
theorem toThose (h : NetAt w p bm v g.nodes g.last g.ps D) (hlast : g.last ≤ 4611686018427387904) (nb : Nat) (node : Int) (hnb : Blk w nb 3 [.int .i64 node]) :
    Calls Try.prog 32 #[.pointer (some ⟨p, 0, none⟩), .func (.func 33) #[] #[.pointer (some ⟨nb, 0, none⟩)]] w (ToR w (toN g.ps node)) := by
  obtain ⟨ao, cap, hv⟩ := own_slice h.row
  subst hv
  have hc3 := h.blk.cell (i := 3) rfl
  have HH := hid h
  have HCL := hid h.closed
  have HNBK := hid hnb
  obtain ⟨ps, HPS⟩ : ∃ ps, Hid (g.ps = ps) := ⟨_, hid rfl⟩
  have HFW : Hid (ps.length ≤ 65536) := by rw [← HPS.out]; exact h.few
  have HROW := hid h.row
  rw [HPS.out] at HROW hc3 ⊢
  clear h hnb
  go_enter Try.func32, Try.ntmps32
  go_wp2_with fail
  refine HCL.out.mono ?_
  rintro e w' ⟨rfl, h'⟩
  subst h'
  go_wp2
  go_loopw [5, 16] (fun a b wr => ∃ (j : Nat), b = .int .i64 j ∧ Hid (j ≤ ps.length) ∧ Hid (wr.ownsRow w'.heap.size 36 4 a (toN (ps.take j) node).length (flat (toN (ps.take j) node)) ∧ Below w'.heap.size w' wr)) (fun _ b _ => ps.length - (intOf b).toNat)
  case atStart => exact ⟨0, rfl, Nat.zero_le _, World.ownsRow_nil _ _ _ _, Below.refl _ _⟩
  case round =>
    obtain ⟨j, rfl, HJ, HR⟩ := hrel
    have HO := hid HR.out.1
    have HB := hid HR.out.2
    obtain ⟨vo, vc, hvo⟩ := own_slice HR.out.1
    clear HR
    subst hvo
    by_cases hlt : j < ps.length
    · obtain ⟨b, hao⟩ : ∃ b, ao = some ⟨b, 0, none⟩ := by
        rcases HROW.out.2 with ⟨e, h0⟩ | ⟨b, c, _, e, _⟩
        · omega
        · exact ⟨b, by cases e; rfl⟩
      subst hao
      have hn := HH.out.below HB.out (Nat.le_refl _)
      rw [HPS.out] at hn
      have HN := hid hn
      have hlt' : (j : Int) < (ps.length : Int) := by omega
      have HKX := hid hlt
      have HIN := hid (fun he => toN_in (node := node) HKX.out he)
      have HOUT := hid (fun he => toN_out (node := node) HKX.out he)
      have HLE : Hid ((toN (ps.take j) node).length ≤ 65536) := Nat.le_trans (toN_le ps j node) HFW.out
      obtain ⟨q, hq⟩ : ∃ q, ps[j]'HKX.out = q := ⟨_, rfl⟩
      have hqm : q ∈ ps := by rw [← hq]; exact List.getElem_mem hlt
      have hcell : wr.cell? ⟨b, j, none⟩ = some (.int .i64 q.id) := by
        have hr := HN.out.row
        rw [map_ids] at hr
        have := intsAt_row hr j (by simpa using hlt)
        rw [getD_ids hlt] at this
        rw [← hq]
        exact this
      have hc2 := HN.out.blk.cell (i := 2) rfl
      have hq1 := (HN.out.ids q hqm).1
      have hq2 := (HN.out.ids q hqm).2
      have HKEY := hid (Try.keyInt (x := q.id) (by omega) (by omega))
      have HV : Hid ((look D (.int .i64 q.id)).getD Pk.none = .agg #[.int .i64 q.id, .int .i64 q.frm, .int .i64 q.dst, .string q.body]) := by
        show _ = _
        rw [HN.out.look, ← hq, found_at HN.out.rise hlt]
        rfl
      have hwj : wrap64 ((j : Int) + 1) = (j : Int) + 1 := wrapN (by omega) (by have := HFW.out; omega)
      have HJM : Hid (j + 1 ≤ ps.length) := (by omega : j + 1 ≤ ps.length)
      have HWT := hid (fun V (hV : Below w'.heap.size w' V) => wantTo V q nb node ((hV.cell (p := ⟨nb, 0, none⟩) HNBK.out.lt).trans (HNBK.out.cell (i := 0) rfl)))
      have hsz : w'.heap.size ≤ wr.heap.size := HB.out.size
      rw [hq] at HIN HOUT
      clear hq hqm hn hlt
      obtain ⟨W1, hW1⟩ : ∃ V, V = wr.alloc (.cells #[.int .i64 q.id, .int .i64 q.frm, .int .i64 q.dst, .string q.body] 36) := ⟨_, rfl⟩
      have hb1 : Below w'.heap.size w' W1 := by rw [hW1]; exact HB.out.alloc hsz _
      have HB1 := hid hb1
      go_wp2_with (first | (at_lookup; refine wpList_look _ rfl _ _ 45 rfl 3 36 Try.keyedInt Try.underlying45 Pk.none (Try.zeroPk _) bm _ D rfl HN.out.map _ (.int .i64 q.id) rfl HKEY.out _ HV.out ?_) | fail)
      refine (HWT.out _ (by rw [← hW1]; exact HB1.out)).mono ?_
      rintro e w2 ⟨rfl, h'⟩
      obtain ⟨q0, q1, q2, q3⟩ := q
      simp only at HIN HOUT h'
      by_cases he : q2 = node
      · have HNX := hid (HIN.out he)
        subst he
        have hbe : (q2 == q2) = true := by simp
        have HO2 : Hid (w2.ownsRow w'.heap.size 36 4 (.slice vo (toN (ps.take j) q2).length vc) (toN (ps.take j) q2).length (flat (toN (ps.take j) q2))) := by rw [h']; exact (HO.out.alloc _).alloc _
        have HB2 : Hid (Below w'.heap.size w' w2) := by rw [h', ← hW1]; exact HB1.out.alloc HB1.out.size _
        have hp2 : w2.cell? ⟨wr.heap.size, 0, none⟩ = some (.int .i64 q0) ∧ w2.cell? ⟨wr.heap.size, 1, none⟩ = some (.int .i64 q1) ∧ w2.cell? ⟨wr.heap.size, 2, none⟩ = some (.int .i64 q2) ∧ w2.cell? ⟨wr.heap.size, 3, none⟩ = some (.string q3) := by
          have hb := (Blk.new wr 36 [.int .i64 q0, .int .i64 q1, .int .i64 q2, .string q3]).alloc (.cells #[.int .i64 q0, .int .i64 q1, .int .i64 q2, .string q3] 36)
          rw [h']
          exact ⟨hb.cell rfl, hb.cell rfl, hb.cell rfl, hb.cell rfl⟩
        obtain ⟨p0, p1, p2, p3⟩ := hp2
        clear HIN HOUT h' hW1 hb1
        rw [hbe]
        go_wp2_with (first | (at_builtin; refine wpList_append_pk w2 _ ⟨q0, q1, q2, q3⟩ rfl rfl _ _ rfl w'.heap.size _ (toN (ps.take j) q2) rfl rfl HO2.out HB2.out.size HLE.out ?_; intro v' w5 hown hb5; have HO5 := hid hown; have HB5 := hid (HB2.out.trans hb5); clear hown hb5) | fail)
        go_roundw
        case rel => exact ⟨j + 1, by go_num, HJM.out, by rw [HNX.out]; exact ⟨HO5.out, HB5.out⟩⟩
        case measure => first | exact measNW HJM.out hwj | exact measN1 HJM.out
      · have HNX := hid (HOUT.out he)
        have hbe : (q2 == node) = false := beq_eq_false_iff_ne.2 he
        have HO2 : Hid (w2.ownsRow w'.heap.size 36 4 (.slice vo (toN (ps.take j) node).length vc) (toN (ps.take j) node).length (flat (toN (ps.take j) node))) := by rw [h']; exact (HO.out.alloc _).alloc _
        have HB2 : Hid (Below w'.heap.size w' w2) := by rw [h', ← hW1]; exact HB1.out.alloc HB1.out.size _
        clear HIN HOUT h' hW1 hb1 he
        rw [hbe]
        go_wp2
        go_roundw
        case rel => exact ⟨j + 1, by go_num, HJM.out, by rw [HNX.out]; exact ⟨HO2.out, HB2.out⟩⟩
        case measure => first | exact measNW HJM.out hwj | exact measN1 HJM.out
    · have hlt' : ¬ (j : Int) < (ps.length : Int) := by omega
      have HE : Hid (ps.take j = ps) := List.take_of_length_le (by omega)
      rw [HE.out] at HO ⊢
      go_wp2
      go_ret
      exact ⟨_, rfl, HO.out, HB.out⟩
end
end Go.Proofs.Ytoacfdicjpoohaa
