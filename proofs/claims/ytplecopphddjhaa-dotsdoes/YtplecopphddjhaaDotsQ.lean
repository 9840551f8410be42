/-
  Package dots: items.
-/
import Derived.Test.YtplecopphddjhaaDotsP
namespace Go.Proofs.Ytplecopphddjhaa
open Go.RowKit Go.Maps

section
variable {w : World} {p m N : Nat} {rs : Nat → Value} {R : Nat → List Value} {D : DataW Value} {S : Int → Int → Option Value}
theorem idx_any (W : World) {k : Nat} (hk : k < 7) (v : Nat → Value) : (Instr.index 42 (.agg #[v 0, v 1, v 2, v 3, v 4, v 5, v 6]) (.int .i64 (k : Int))).run Try.prog W = .ok (v k) W := by
  match k, hk with
  | 0, _ => exact idx0 W _ _ _ _ _ _ _
  | 1, _ => exact idx1 W _ _ _ _ _ _ _
  | 2, _ => exact idx2 W _ _ _ _ _ _ _
  | 3, _ => exact idx3 W _ _ _ _ _ _ _
  | 4, _ => exact idx4 W _ _ _ _ _ _ _
  | 5, _ => exact idx5 W _ _ _ _ _ _ _
  | 6, _ => exact idx6 W _ _ _ _ _ _ _
/-- What has come of the extras, and what is left. -/
structure CollV (D : DataW Value) (left : Lit → Bool) (ss : List It) : Prop where
  coll : CollD D left (ss.map (·.1))
  vals : ∀ o s t, ((o, s), t) ∈ ss → look D (dk o s) = some (.string t)
theorem CollV.done {left : Lit → Bool} {ss : List It} (h : CollV D left ss) (hD : AllHeld D) (hl : ∀ kl, left kl = false) : KeysV D ss := by
  have hk := h.coll.done hD hl
  refine ⟨hk.1, fun o s t => ⟨fun hm => ?_, fun ⟨h1, h2, h3⟩ => ?_⟩⟩
  · have := (hk.2 o s).1 (List.mem_map.2 ⟨_, hm, rfl⟩)
    exact ⟨this.1, this.2.1, h.vals o s t hm⟩
  · obtain ⟨⟨⟨o', s'⟩, t'⟩, hm, he⟩ := List.mem_map.1 ((hk.2 o s).2 ⟨h1, h2, by rw [h3]; rfl⟩)
    simp only [Prod.mk.injEq] at he
    obtain ⟨rfl, rfl⟩ := he
    have := h.vals _ _ _ hm
    rw [h3] at this
    cases this
    exact hm
def AnsI (w : World) (S : Int → Int → Option Value) (f : Int → Int → Bool) (N : Nat) (e : Ending) (w' : World) : Prop := ∃ eo cap its, e = .returned (.slice eo its.length cap) ∧ ItsOf S f its ∧ (its.length ≤ N ∧ ((∀ o s, f o s = true) → its.length = N)) ∧ w'.ownsRow w.heap.size 77 3 (.slice eo its.length cap) its.length (flatI its) ∧ Below w.heap.size w w'
theorem full_len (h : DotsPre w p rs R m D S N) {ss : List It} (hk : KeysV D ss) (hs : ss.length ≤ Maps.size D) {f : Int → Int → Bool} {T : List It} (hT : (runsI R 7 ++ ss).filter (fI f) = T) (hf : ∀ o s, f o s = true) : T.length = N := by
  have h1 := keysV_len h.map (fun o s v ho hs hv => by
    rw [h.keys o s ho hs] at hv
    split at hv
    · exact h.ones o s v hv
    · cases hv) hk
  have h2 : (runsI R 7 ++ ss).filter (fI f) = runsI R 7 ++ ss := List.filter_eq_self.2 (fun x _ => hf x.1.1 x.1.2)
  rw [← hT, h2, List.length_append, runsI_len]
  have := h.cnt
  omega
set_option maxRecDepth 200000 in
set_option maxHeartbeats 2000000 in
theorem items_any (h : DotsPre w p rs R m D S N) {fv : Value} {f : Int → Int → Bool} (hw : Want w fv f) : Calls Try.prog 47 #[.pointer (some ⟨p, 0, none⟩), fv] w (AnsI w S f N) := by
  obtain ⟨a, c, hf⟩ := h.forms
  obtain ⟨hfc, hfo⟩ := hw.cells
  obtain ⟨W1, hW1⟩ : ∃ W1, W1 = (w.alloc (.cells #[fv] 53)).alloc (.cells #[.slice none 0 0] 74) := ⟨_, rfl⟩
  have HB1 : Hid (Below w.heap.size w W1) := by rw [hW1]; exact ((Below.refl _ w).alloc (Nat.le_refl _) _).alloc (by simp) _
  have HI1 : Hid (ItB w fv [] W1) := by
    refine ⟨by rw [hW1]; exact (Boxed.new w _ _).alloc _, none, 0, ?_, ⟨rfl, .inl ⟨rfl, rfl⟩⟩, HB1.out⟩
    have := Boxed.new (w.alloc (.cells #[fv] 53)) 74 (.slice none 0 0)
    rw [World.size_alloc] at this
    rw [hW1]
    exact this
  have hcl := (h.below ((Below.refl w.heap.size w).alloc (Nat.le_refl _) (.cells #[fv] 53))).blk.cell (i := 7) rfl
  have HP := hid h
  have HW := hid hw
  have HFO := hid hf
  have hP1 := h.below HB1.out
  have hc0 := hP1.blk.cell (i := 0) rfl
  have hc1 := hP1.blk.cell (i := 1) rfl
  have hc2 := hP1.blk.cell (i := 2) rfl
  have hc3 := hP1.blk.cell (i := 3) rfl
  have hc4 := hP1.blk.cell (i := 4) rfl
  have hc5 := hP1.blk.cell (i := 5) rfl
  have hc6 := hP1.blk.cell (i := 6) rfl
  rw [hf 0 (by decide)] at hc0
  rw [hf 1 (by decide)] at hc1
  rw [hf 2 (by decide)] at hc2
  rw [hf 3 (by decide)] at hc3
  rw [hf 4 (by decide)] at hc4
  rw [hf 5 (by decide)] at hc5
  rw [hf 6 (by decide)] at hc6
  rw [hW1] at hc0 hc1 hc2 hc3 hc4 hc5 hc6
  have HLN : Hid (∀ i, i < 7 → (R i).length ≤ 65536) := fun i hi => h.len hi
  clear hP1 h hw hf
  go_enter Try.func47, Try.ntmps47
  go_wp2_with fail
  refine (closedD_no _ p m hcl).mono ?_
  rintro e w0 ⟨rfl, rfl⟩
  clear hcl
  go_wp2
  rw [← hW1]
  clear hW1 hc0 hc1 hc2 hc3 hc4 hc5 hc6
  go_loopw [20] (fun i wr => ∃ k : Nat, k ≤ 7 ∧ i = .int .i64 k ∧ Hid (ItB w fv ((runsI R k).filter (fI f)) wr)) (fun i _ => 7 - (intOf i).toNat)
  case atStart => exact ⟨0, Nat.zero_le _, rfl, HI1.out⟩
  case round =>
    obtain ⟨k, hk, rfl, HI⟩ := hrel
    by_cases hlt : k < 7
    · have hlt' : (k : Int) < 7 := by omega
      have hix := fun W => idx_any W hlt (fun i => .slice (a i) (R i).length (c i))
      obtain ⟨L, HL⟩ : ∃ L, Hid ((R k).length = L) := ⟨_, hid rfl⟩
      have hL : L ≤ 65536 := by rw [← HL.out]; exact HLN.out k hlt
      simp only [HL.out] at hix
      go_wp2
      clear hix
      go_loopw [26] (fun i wi => ∃ j : Nat, j ≤ L ∧ i = .int .i64 j ∧ Hid (ItB w fv ((runsI R k ++ (rowI R k).take j).filter (fI f)) wi)) (fun i _ => L - (intOf i).toNat)
      case atStart => exact ⟨0, Nat.zero_le _, rfl, by show ItB _ _ _ _; rw [List.take_zero, List.append_nil]; exact HI.out⟩
      case round =>
        obtain ⟨j, hj, rfl, HJ⟩ := hrel
        by_cases hjl : j < L
        · have hjl' : (j : Int) < (L : Int) := by omega
          have hjr : j < (R k).length := by rw [HL.out]; exact hjl
          obtain ⟨eo, cap, he, _, hcell⟩ := own_form' (HP.out.run k hlt)
          rw [HFO.out k hlt] at he
          have hab : a k = eo := by
            injection he
          obtain ⟨g, hg, _, hgl, hgc⟩ := hcell (by omega)
          have hE : IsE (R k)[j] := HP.out.one k hlt _ (List.getElem_mem hjr)
          obtain ⟨t, ht⟩ := hE
          have hcj : wr.cell? ⟨g, j, none⟩ = some (.string t) := by
            obtain ⟨_, _, _, _, _, hb⟩ := HJ.out
            rw [hb.cell (p := ⟨g, j, none⟩) hgl, hgc j (R k)[j] (List.getElem?_eq_getElem hjr), ht]
          rw [hg] at hab
          have hln : ((runsI R k ++ (rowI R k).take j).filter (fI f)).length ≤ 100000 := by
            have h1 := List.length_filter_le (fI f) (runsI R k ++ (rowI R k).take j)
            have h2 := runsI_le R (k := k + 1) (by omega)
            rw [runsI_succ, List.length_append] at h2
            have h3 : ((rowI R k).take j).length ≤ (rowI R k).length := List.length_take_le' _ _
            have h4 := HP.out.cnt
            have h5 := HP.out.few
            rw [List.length_append] at h1
            omega
          have HPUT := hid (put_item HW.out HJ.out hln (k : Int) ((j : Int) + 1) t)
          have HSTEP : Hid (putI f ((runsI R k ++ (rowI R k).take j).filter (fI f)) (((k : Int), (j : Int) + 1), t) = (runsI R k ++ (rowI R k).take (j + 1)).filter (fI f)) := by
            show _ = _
            rw [putI_filter, rowI_take R k hjr, List.append_assoc]
            have : txt ((R k).getD j zeroE) = t := by
              rw [List.getD_eq_getElem?_getD, List.getElem?_eq_getElem hjr]
              show txt (R k)[j] = t
              rw [ht]
              rfl
            rw [this]
          clear hcell hgc ht hln he hg
          rw [hab]
          clear hab
          go_wp2_with fail
          refine HPUT.out.mono ?_
          rintro e w5 ⟨rfl, hi5, _⟩
          rw [HSTEP.out] at hi5
          have HI5 := hid hi5
          clear hi5 HPUT HSTEP hcj
          go_wp2
          go_roundw
          case rel => exact ⟨j + 1, by omega, by go_num, HI5.out⟩
          case measure => simp [intOf]; omega
        · have hjl' : ¬ (j : Int) < (L : Int) := by omega
          have HEND : Hid (ItB w fv ((runsI R (k + 1)).filter (fI f)) wr) := by
            have h1 := HJ.out
            rw [List.take_of_length_le (by rw [rowI_len, HL.out]; omega), ← runsI_succ] at h1
            exact h1
          go_wp2
          go_roundw
          case rel => exact ⟨k + 1, by omega, by go_num, HEND.out⟩
          case measure => simp [intOf]; omega
    · have hlt' : ¬ (k : Int) < 7 := by omega
      have hk7 : k = 7 := by omega
      have HI7 : Hid (ItB w fv ((runsI R 7).filter (fI f)) wr) := by rw [← hk7]; exact HI.out
      obtain ⟨_, _, _, _, _, hbw⟩ := HI7.out
      clear hk7
      have HPW := hid (HP.out.below hbw)
      have HBW := hid hbw
      have hc7 := HPW.out.blk.cell (i := 7) rfl
      clear hbw
      go_wp2_with (at_range; refine wpList_range_own _ rfl _ 40 rfl 25 9 Try.keyedDot Try.underlying40 valR m N D rfl HPW.out.map ?_; intro w0 hrg0 hg0 hs0)
      have HI0 : Hid (ItB w fv ((runsI R 7).filter (fI f)) w0) := HI7.out.below ⟨hg0.os, hg0.tape, hg0.output, hg0.size, fun k hk => hg0.block k hk (by simp)⟩
      have HRG := hid hrg0
      obtain ⟨rb, hrb⟩ : ∃ r, r = wr.heap.size := ⟨_, rfl⟩
      rw [← hrb] at HRG ⊢
      have HRB : Hid (w.heap.size ≤ rb) := by rw [hrb]; exact HBW.out.size
      clear hrg0 hg0 hs0 hc7 hrb
      go_wp2
      try go_frame
      have HAH := hid (allHeld_of HP.out.map)
      go_loopw [11, 12] (fun _ _ wx => Hid (∃ (left : Lit → Bool) (cnt : Nat) (ss : List It), wx.ranges Try.prog 25 valR m rb N D left cnt ∧ CollV D left ss ∧ ItB w fv ((runsI R 7 ++ ss).filter (fI f)) wx ∧ ss.length + cnt ≤ Maps.size D)) (fun _ _ wx => wx.rangeLeft m rb)
      case atStart => exact ⟨_, _, [], HRG.out, ⟨CollD.start D, fun _ _ _ h => by cases h⟩, by rw [List.append_nil]; exact HI0.out, by simp⟩
      case round =>
        obtain ⟨left, cnt, ss, hrg, hC, hI, hcnt⟩ := hrel.out
        clear hrel
        have hln : ((runsI R 7 ++ ss).filter (fI f)).length ≤ N := by
          have h1 := List.length_filter_le (fI f) (runsI R 7 ++ ss)
          rw [List.length_append, runsI_len] at h1
          have h4 := HP.out.cnt
          omega
        have hN := HP.out.few
        go_wp2_with (first
          | (at_next; refine wpList_next_ranges _ rfl _ rfl 25 Try.keyedDot valR (fun x : Int × Int => dotV x) (fun v : Value => v) (fun key kl hk => by obtain ⟨o, s, hx, _⟩ := dk_inv hk; exact ⟨(o, s), hx⟩) (fun v y _ => ⟨v, rfl⟩) m rb N _ _ _ rfl hrg ?_ ?_)
          | go_in)
        · intro hc0 hl0
          have HKV := hid (hC.done HAH.out hl0)
          have HSS : Hid (ss.length ≤ Maps.size D) := (by omega : ss.length ≤ Maps.size D)
          obtain ⟨_, eo, cap, hbx, hrow, hbl⟩ := hI
          have hcb := hbx.cell
          obtain ⟨T, hT⟩ : ∃ T, (runsI R 7 ++ ss).filter (fI f) = T := ⟨_, rfl⟩
          rw [hT] at hbx hrow hcb hln
          have HT := hid hT
          have HBX := hid hbx
          have HROW := hid hrow
          have HBL := hid hbl
          have HLEN := hid hln
          rcases hrow.2 with ⟨hnil, h0⟩ | ⟨g, cap', cur, hsl, hbg, _⟩
          · have hTn : T = [] := List.eq_nil_of_length_eq_zero h0
            subst hTn
            cases hnil
            clear hrow hbl hbx hC hrg hcnt hT hln hN hl0
            go_wp2_with fail
            refine (sortI_nil _ 60).mono ?_
            rintro e w5 ⟨rfl, rfl⟩
            go_wp2
            go_ret
            exact ⟨none, 0, [], rfl, its_of HP.out HKV.out f (by rw [HT.out]) .nil, ⟨Nat.zero_le _, fun hf => full_len HP.out HKV.out HSS.out HT.out hf⟩, HROW.out, HBL.out⟩
          · cases hsl
            have HS := hid (sortI_some hrow (by omega))
            have HBG := hid hbg
            obtain ⟨n9, HN9⟩ : ∃ n, Hid (T.length = n) := ⟨_, hid rfl⟩
            rw [HN9.out] at hcb HS
            have hbne : w.heap.size + 1 ≠ g := fun e => by
              have := (show Blk _ (w.heap.size + 1) 74 [.slice (some ⟨g, 0, none⟩) T.length cap] from hbx).not_row (by decide) hrow
              exact this (by rw [e]; rfl)
            clear hrow hbl hbx hC hrg hcnt hT hln hN hl0 hbg
            go_wp2_with fail
            refine HS.out.mono ?_
            rintro e w5 ⟨rfl, hs, hp, hw, ho, hg⟩
            have hcb5 := ((HBX.out).kept hg (by simp; exact hbne)).cell
            rw [HN9.out] at hcb5
            have HP5 := hid hp
            have HW5 := hid hw
            have HO5 := hid ho
            have HG5 := hid hg
            clear hp hw ho hg
            go_wp2
            go_ret
            have hl : hs.length = n9 := by rw [← HN9.out]; exact HP5.out.length_eq
            exact ⟨some ⟨g, 0, none⟩, cap, hs, by rw [hl]; rfl, its_of HP.out HKV.out f (by rw [HT.out]; exact HP5.out) (HW5.out.imp (fun {a b} h => by omega)), ⟨by rw [HP5.out.length_eq]; exact HLEN.out, fun hf => by rw [HP5.out.length_eq]; exact full_len HP.out HKV.out HSS.out HT.out hf⟩, by rw [hl]; exact HO5.out, HBL.out.grown HG5.out HBL.out.size (fun k e => by cases e; exact HBG.out)⟩
        · intro o s v kl yd yp w2 cnt2 hkey hlk hv hat hrg2 hlt2 hg2 hs2 hen
          obtain ⟨o', s', he, rfl, ho, hs⟩ := dk_inv hkey
          have hee : o = o' ∧ s = s' := by simpa [dotV, dotVal] using he
          obtain ⟨rfl, rfl⟩ := hee
          have hyd : yd = .held v := by
            unfold valR at hv
            cases hv
            rfl
          subst hyd
          have hlook := look_at hat
          have hE : IsE v := by
            have h1 := HP.out.keys o s ho hs
            rw [hlook] at h1
            split at h1
            · exact HP.out.ones o s v h1.symm
            · cases h1
          obtain ⟨t, rfl⟩ := hE
          have hh : Maps.has D (dk o s) = true := by rw [has_look HAH.out, hlook]; rfl
          have hC2 : CollV D (fun z => left z && !z.sameKey (dk o s)) (ss ++ [((o, s), t)]) := by
            refine ⟨?_, fun o' s' t' hm => ?_⟩
            · have := hC.coll.step ho hs hlk hh
              simpa using this
            · rcases List.mem_append.1 hm with hm | hm
              · exact hC.vals o' s' t' hm
              · simp at hm
                obtain ⟨⟨rfl, rfl⟩, rfl⟩ := hm
                exact hlook
          have hrlt : rb < wr.heap.size := hrg.lt
          have hI2 : ItB w fv ((runsI R 7 ++ ss).filter (fI f)) w2 := by
            obtain ⟨h0, eo, cap, h1, h2, h3⟩ := hI
            obtain ⟨ob, hob, hwk⟩ := hrg.iter_walk
            have hrc : ∀ r, (some rb : Option Nat) = some r → ∃ o : Obj, wr.heap[r]? = some o ∧ o.isCells = false := fun r e => by
              cases e
              exact ⟨ob, hob, Obj.not_cells_of_walk hwk⟩
            refine ⟨box_own h0 hg2 hrc, eo, cap, box_own h1 hg2 hrc, row_own h2 hg2 hrc, h3.grown hg2 h3.size (fun k e => ?_)⟩
            cases e
            exact HRB.out
          have hal : Below w2.heap.size w2 (w2.alloc (.cells #[.int .i64 o, .int .i64 s] 25)) := (Below.refl _ _).alloc (Nat.le_refl _) _
          have HRG2 := hid (hrg2.alloc (.cells #[.int .i64 o, .int .i64 s] 25))
          have HPUT := hid (put_item HW.out (hI2.below hal) (by omega) o s t)
          have HSTEP : Hid (putI f ((runsI R 7 ++ ss).filter (fI f)) ((o, s), t) = (runsI R 7 ++ (ss ++ [((o, s), t)])).filter (fI f)) := by
            show _ = _
            rw [putI_filter, List.append_assoc]
          have HC2 := hid hC2
          have HCN : Hid ((ss ++ [((o, s), t)]).length + cnt2 ≤ Maps.size D) := (by simp; omega : (ss ++ [((o, s), t)]).length + cnt2 ≤ Maps.size D)
          have HLT : Hid (∀ w9 : World, w9.ranges Try.prog 25 valR m rb N D (fun z => left z && !z.sameKey (dk o s)) cnt2 → w9.rangeLeft m rb < wr.rangeLeft m rb) := fun w9 h9 => by rw [h9.left_eq, hrg.left_eq]; exact hlt2
          clear hI2 hal hrg2 hC2 hI hC hln hN hs2 hat hlk hkey hv hg2 hcnt hlt2 hh hlook he hrlt hrg
          dsimp only [dotV] at hen ⊢
          go_wp2_with fail
          refine HPUT.out.mono ?_
          rintro e w5 ⟨rfl, hi5, hk5⟩
          rw [HSTEP.out] at hi5
          have HI5 := hid hi5
          have HRG5 := hid (HRG2.out.of_walks hk5.walks)
          clear hi5 hk5 HPUT HSTEP hen
          go_wp2
          go_roundw
          case rel =>
            exact ⟨_, cnt2, ss ++ [((o, s), t)], HRG5.out, HC2.out, HI5.out, HCN.out⟩
          case measure => exact HLT.out _ HRG5.out
end
end Go.Proofs.Ytplecopphddjhaa
