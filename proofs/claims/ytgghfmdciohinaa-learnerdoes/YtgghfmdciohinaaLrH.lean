/-
  Package learner: Extras.
-/
import Derived.Test.YtgghfmdciohinaaLrG
namespace Go.Proofs.Ytgghfmdciohinaa
open Go.RowKit Go.Maps

theorem wrapIL {x : Int} (h0 : -9223372036854775808 ≤ x) (h1 : x ≤ 9223372036854775807) : IntKind.i64.wrap x = x := by
  rw [IntKind.wrap_i64]
  omega
/-- The slots that came so far and are beyond the prefix. -/
def beyL (pre : Nat) (ss : List Int) : List Int := ss.filter (fun x => decide ((pre : Int) ≤ x))
theorem beyL_in (pre : Nat) (ss : List Int) {s : Int} (h : (pre : Int) ≤ s) : beyL pre (ss ++ [s]) = beyL pre ss ++ [s] := by simp [beyL, h]
theorem beyL_out (pre : Nat) (ss : List Int) {s : Int} (h : ¬ (pre : Int) ≤ s) : beyL pre (ss ++ [s]) = beyL pre ss := by simp [beyL]; omega
/-- While the map is gone over. -/
def GoingK (w : World) (m r N pre : Nat) (D : DataW Value) (a : Value) (wr : World) : Prop :=
  ∃ left cnt ss, wr.ranges Try.prog 3 valR m r N D left cnt ∧ CollK D left ss ∧ wr.ownsRow w.heap.size 3 1 a (beyL pre ss).length (ints (beyL pre ss)) ∧ a.ownBlock.isSome = true ∧ Below w.heap.size w wr ∧ ss.length + cnt ≤ Maps.size D
/-- append(out, n) of an owned row. -/
theorem wpList_append_oneG {ops : Array Oper} {rest : List Oper} {o : Oper} {a : Act} {Q : Exit → Act → World → Prop} (W0 W : World) (c : Int) (hW : W = W0.alloc (.cells #[.int .i64 c] 3)) (hgd : o.guard = none) (s x : Operand)
    (ho : o.op = .call { callee := .builtin .append, args := #[s, x], argTypes := #[29, 29] }) (B : Nat) (v : Value) (xs : List Int)
    (hs : a.eval s = v) (hx : a.eval x = .slice (some ⟨W0.heap.size, 0, none⟩) 1 1) (hown : W0.ownsRow B 3 1 v xs.length (ints xs)) (hB : B ≤ W0.heap.size) (hl : xs.length < 17592186044416)
    (h : ∀ v' w', w'.ownsRow B 3 1 v' (xs ++ [c]).length (ints (xs ++ [c])) → Below B W0 w' → W.grownBy w' v.ownBlock → wpList Try.prog ops Q rest (a.put o.dst v') w') :
    wpList Try.prog ops Q (o :: rest) a W := by
  subst hW
  obtain ⟨iI, hj, hy0, hy1, hy2⟩ := info_parts Try.infoInt
  have hn := Blk.new W0 3 [.int .i64 c]
  refine wpList_append_own_at _ hgd s x 29 ho B 3 iI (.int .i64 0) 1 8 Try.underlying29 hj hy0 hy1 hy2 rfl (by decide) v xs.length (ints xs) hs (hown.alloc _) ⟨W0.heap.size, 0, none⟩ 1 1 [.int .i64 c] hx rfl (fun j u hu => ?_) (one_int _ _) (by unfold maxLen; omega) (by omega) (by simp; omega) ?_
  · rw [Addr.add_lit, Nat.zero_add]
    exact hn.cell hu
  · intro v' w' hown' hgrow _ _
    exact h v' w' (by simpa [ints] using hown') (((Below.refl _ _).alloc hB _).grown hgrow (by simp; omega) (own_lt hown)) hgrow
theorem row_not_iterL {w : World} {base size k n r bm cnt : Nat} {e : TypeId} {u : Value} {xs : List Value} (hr : w.ownsRow base e size u k xs) {P : Program} {kt : TypeId} {D : DataW Value} {left : Lit → Bool} (hm : w.ranges P kt valR bm r n D left cnt) : some r ≠ u.ownBlock ∧ some bm ≠ u.ownBlock := by
  refine ⟨?_, row_not_map hr hm.owns⟩
  obtain ⟨es, clock, since, seen, c0, _, _, _, _, hb, _⟩ := hm
  rcases hr.2 with ⟨rfl, _⟩ | ⟨g, cap, cur, rfl, _, hg, _⟩
  · simp [Value.ownBlock]
  · intro he
    have e1 : r = g := by simpa [Value.ownBlock] using he
    subst e1
    rw [hb] at hg
    cases hg
set_option maxRecDepth 100000 in
set_option maxHeartbeats 1000000 in
theorem LrAt.extras {w : World} {p m pre z : Nat} {g : Lr} (h : LrAt w p m pre z g) : Calls Try.prog 15 #[.pointer (some ⟨p, 0, none⟩)] w (RowP w (extraL g.ks pre)) := by
  have H := hid h.toLrMid
  have HCL := hid H.out.closed
  obtain ⟨N, HN⟩ : ∃ N, Hid (g.ks.length = N) := ⟨_, hid rfl⟩
  have hpn : pre ≤ N := by have := H.out.pre_le; rw [HN.out] at this; exact this
  have hn6 : N ≤ 65536 := by have := H.out.ok.few; rw [HN.out] at this; exact this
  obtain ⟨c0, c1, _⟩ := H.out.cells
  obtain ⟨S, D, hEM, hSf⟩ := H.out.map
  have HEM := hid hEM
  have HSF := hid hSf
  have HPM := hid H.out.pne
  have HLEN : Hid (∀ V, Below w.heap.size w V → ∀ ty, (Builtin.len_ #[47] ty #[.map (some m)]).run Try.prog V = .ok (.int .i64 (N : Int)) V) := fun V hV ty => by
    have := (HEM.out.below hV).map.len Try.underlying47 ty
    rw [HEM.out.cnt, HN.out] at this
    exact this
  obtain ⟨C, hC⟩ : ∃ C, C = N - pre := ⟨_, rfl⟩
  have hC' : (N : Int) - (pre : Int) = (C : Int) := by omega
  obtain ⟨i0, hi, hz0, hz1, hz2⟩ := info_parts Try.infoInt
  obtain ⟨M, hM⟩ : ∃ M, M = madeCells (Value.int .i64 0).cells ((C : Int).toNat * i0.size) := ⟨_, rfl⟩
  have hmk : ∀ W : World, (Instr.makeSlice 29 (.int .i64 0) (.int .i64 (C : Int))).run Try.prog W = .ok (.slice (some ⟨W.heap.size, 0, none⟩) 0 C) (W.alloc (.cells M 3)) := fun W => by
    have h := run_make (P := Try.prog) W 29 3 i0 _ Try.underlying29 hi hz0 .i64 .i64 0 (C : Int) (by omega) (by omega) (by rw [hz2]; omega) (by omega)
    rw [← hM] at h
    simpa using h
  have hMs : M.size = C * 1 := by rw [hM, size_madeCells, hz1]; simp
  have HC6 : Hid (C ≤ 65536) := by show _ ≤ _; omega
  have HR0 : Hid (∀ V, Below w.heap.size w V → (V.alloc (.cells M 3)).ownsRow w.heap.size 3 1 (.slice (some ⟨V.heap.size, 0, none⟩) 0 C) 0 (ints [])) := fun V hV => ⟨rfl, .inr ⟨V.heap.size, C, M, rfl, hV.size, World.alloc_heap_new V _, Nat.zero_le _, by have := HC6.out; unfold maxLen; omega, hMs, by simp [ints]⟩⟩
  have hsub : IntKind.i64.wrap ((N : Int) - (pre : Int)) = (C : Int) := by rw [hC']; exact wrapIL (by omega) (by omega)
  have HPN := hid hpn
  have HN6 := hid hn6
  clear hM hi hz0 hz1 hz2 hMs hC hEM hSf h hC' hpn hn6
  have hlen := fun ty => HLEN.out _ ((Below.refl _ w).drew) ty
  have e0 : w.drew.cell? ⟨p, 0, none⟩ = some (.map (some m)) := c0
  have e1 : w.drew.cell? ⟨p, 1, none⟩ = some (.int .i64 (pre : Int)) := c1
  go_enter Try.func15, Try.ntmps15
  go_wp2_with fail
  refine HCL.out.mono ?_
  rintro e w1 ⟨rfl, rfl⟩
  go_wp2
  go_region_with (fail)
  all_goals
    have HB1 : Hid (Below w1.heap.size w1 (w1.alloc (.cells M 3)).drew) := ((Below.refl _ w1).alloc (Nat.le_refl _) _).drew
    have HR1 : Hid ((w1.alloc (.cells M 3)).drew.ownsRow w1.heap.size 3 1 (.slice (some ⟨w1.heap.size, 0, none⟩) 0 C) 0 (ints [])) := HR0.out w1 (Below.refl _ w1)
    have HEM1 := hid (HEM.out.below HB1.out)
    obtain ⟨W2, hW2⟩ : ∃ V, V = (w1.alloc (.cells M 3)).drew := ⟨_, rfl⟩
    have d0 : (w1.alloc (.cells M 3)).drew.cell? ⟨p, 0, none⟩ = some (.map (some m)) := (HB1.out.cell (p := ⟨p, 0, none⟩) H.out.blk.lt).trans c0
    rw [← hW2] at HB1 HR1 HEM1
    have HR2 : Hid (W2.ownsRow w1.heap.size 3 1 (.slice (some ⟨w1.heap.size, 0, none⟩) 0 C) 0 (ints [])) := HR1.out
    have HW2 := hid hW2
    clear hmk c0 c1 e0 e1 hlen hsub hW2 HR1
    go_wp2_with (at_range; rw [← HW2.out]; refine wpList_range_own _ rfl _ 47 rfl 3 33 Try.keyedIntL Try.underlying47 valR m _ D rfl HEM1.out.map ?_; intro w0 hrg0 hg0 hs0)
    have HG0 : Hid (GoingK w1 m W2.heap.size N pre D (.slice (some ⟨w1.heap.size, 0, none⟩) 0 C) w0) := by
      refine ⟨_, _, [], by rw [HN.out] at hrg0; exact hrg0, CollK.start (allHeld_of HEM.out.map), HR2.out.kept hg0 (.inr (by simp [Value.ownBlock])), rfl, HB1.out.grown hg0 HB1.out.size (fun k hk => by cases hk), by simp⟩
    have HSZ : Hid (Maps.size D ≤ 65536) := by show _ ≤ _; rw [HEM.out.cnt, HN.out]; exact HN6.out
    have HRW : Hid (w1.heap.size ≤ W2.heap.size) := HB1.out.size
    clear hrg0 hg0 hs0 d0
    obtain ⟨r, hr⟩ : ∃ r, r = W2.heap.size := ⟨_, rfl⟩
    rw [← hr] at HG0 HRW ⊢
    clear hr
    go_simp
    go_loopw [3, 4] (fun a _ wr => Hid (GoingK w1 m r N pre D a wr)) (fun _ _ wr => wr.rangeLeft m r)
    case atStart => exact HG0
    case round =>
      rename_i wr u3 u4
      obtain ⟨left, cnt, ss, hrg, hC, hrow, hown, hbel, hcnt⟩ := hrel.out
      have HRG := hid hrg
      have HCO := hid hC
      have HROW := hid hrow
      have HOW := hid hown
      have HB := hid hbel
      have HCNT := hid hcnt
      clear hrel hrg hC hrow hbel hcnt hown
      go_wp2_with (first | (at_next; refine wpList_next_intL _ rfl _ rfl m r N D left cnt rfl HRG.out ?_ ?_) | fail)
      · intro _ hl0
        have HDN := hid (HCO.out.done hl0)
        clear hl0
        have hsl : (beyL pre ss).length ≤ 65536 := by
          have h1 := HCNT.out
          have h2 := HSZ.out
          have h3 := List.length_filter_le (fun x => decide ((pre : Int) ≤ x)) ss
          unfold beyL
          omega
        have hvs := HOW.out
        obtain ⟨eo, cap, hv⟩ := own_sliceC HROW.out
        subst hv
        obtain ⟨gb, hgb⟩ : ∃ gb, eo = some ⟨gb, 0, none⟩ := by
          rcases HROW.out.2 with ⟨h0, _⟩ | ⟨g', cap', cur, he, _⟩
          · rw [h0] at hvs
            simp [Value.ownBlock] at hvs
          · cases he
            exact ⟨g', rfl⟩
        subst hgb
        clear hvs
        have HGB : Hid (w1.heap.size ≤ gb) := (HROW.out.lt gb rfl).1
        have HSO := hid (sortL_row (zs := beyL pre ss) HROW.out (by omega))
        have HEX : Hid ((beyL pre ss).mergeSort (fun x y => decide (x ≤ y)) = extraL g.ks pre) := by
          refine sorted_extra H.out.ok.rise pre (HCO.out.nodup.filter _) (fun x => ?_)
          unfold beyL
          rw [List.mem_filter, HDN.out]
          constructor
          · rintro ⟨⟨h1, h2⟩, h3⟩
            rw [HEM.out.key x h1] at h2
            refine ⟨?_, by simpa using h3⟩
            have := has_of H.out.ok HSF.out x
            simp at h2
            rw [h2] at this
            simpa using this.symm
          · rintro ⟨h1, h2⟩
            have hi : I64 x := by have := H.out.ok.slot x h1; unfold I64; omega
            refine ⟨⟨hi, ?_⟩, by simpa using h2⟩
            rw [HEM.out.key x hi]
            have := has_of H.out.ok HSF.out x
            rw [decide_eq_true h1] at this
            simp [this]
        obtain ⟨L, HL⟩ : ∃ L, Hid ((beyL pre ss).length = L) := ⟨_, hid rfl⟩
        rw [HEX.out, HL.out] at HSO
        rw [HL.out] at HROW
        go_wp2_with fail
        rw [HL.out]
        refine HSO.out.mono ?_
        rintro e w7 ⟨rfl, hrow7, ht7⟩
        have HLX : Hid (L = (extraL g.ks pre).length) := by
          show _ = _
          rw [← HL.out, ← HEX.out, List.length_mergeSort]
        have HB7 : Hid (Below w1.heap.size w1 w7) := HB.out.trans (ht7.below (fun i hi => by rw [hi]; exact HGB.out) HB.out.size)
        have HR7 := hid hrow7
        have HFW : Hid ((extraL g.ks pre).length ≤ 17592186044416) := by show _ ≤ _; rw [← HLX.out]; have := HL.out; omega
        have HRN : Hid (∀ x ∈ extraL g.ks pre, -9223372036854775808 ≤ x ∧ x ≤ 9223372036854775807) := fun x hx => by
          have := H.out.ok.slot x (List.mem_filter.1 hx).1
          omega
        clear hrow7 ht7 HSO hsl
        go_wp2
        go_ret
        refine rowP_of ?_ HRN.out HFW.out HB7.out
        rw [← HLX.out]
        exact HR7.out
      · intro s v w3 cnt1 hs hv hlf hrg1 hlt1 hgr hsz hen
        have HC1 := hid (HCO.out.step hs hlf hv)
        have HRW1 := hid (row_not_iterL HROW.out HRG.out)
        have HROW1 : Hid (w3.ownsRow w1.heap.size 3 1 u3 (beyL pre ss).length (ints (beyL pre ss))) := HROW.out.kept hgr (.inr HRW1.out.1.symm)
        have HB1' : Hid (Below w1.heap.size w1 w3) := HB.out.grown hgr HB.out.size (fun g hg => by cases hg; exact HRW.out)
        have HR1 := hid hrg1
        have HLT := hid hlt1
        have HCN1 : Hid ((ss ++ [s]).length + cnt1 ≤ Maps.size D) := by have := HCNT.out; show _ ≤ _; simp; omega
        have HSL : Hid ((beyL pre ss).length < 17592186044416) := by
          have h1 := HCNT.out
          have h2 := HSZ.out
          have h3 := List.length_filter_le (fun x => decide ((pre : Int) ≤ x)) ss
          show (beyL pre ss).length < _
          unfold beyL
          omega
        have e1 : w3.cell? ⟨p, 1, none⟩ = some (.int .i64 (pre : Int)) := (HB1'.out.cell (p := ⟨p, 1, none⟩) H.out.blk.lt).trans H.out.cells.2.1
        clear hs hv hlf hrg1 hlt1 hgr hsz
        by_cases hp : (pre : Int) ≤ s
        · have HF := hid (beyL_in pre ss hp)
          have hpd : decide ((pre : Int) ≤ s) = true := decide_eq_true hp
          clear hp
          go_wp2_with (at_builtin; refine wpList_append_oneG w3 _ s rfl rfl _ _ rfl w1.heap.size _ (beyL pre ss) rfl rfl HROW1.out HB1'.out.size HSL.out ?_; intro v' w5 hown hbel3 hgrow; have HO3 := hid hown; have HB3 := hid (HB1'.out.trans hbel3); have HG3 := hid hgrow; clear hown hbel3 hgrow)
          have hrow1 := row_not_iterL HROW1.out HR1.out
          have HR4 : Hid (w5.ranges Try.prog 3 valR m r N D (fun z => left z && !z.sameKey (.int .i64 s)) cnt1) := (HR1.out.alloc _).kept HG3.out hrow1.2 hrow1.1
          have HOW5 : Hid (v'.ownBlock.isSome = true) := by
            rcases HO3.out.2 with ⟨_, h0⟩ | ⟨g', cap', cur, he, _⟩
            · simp at h0
            · rw [he]; rfl
          clear hrow1
          go_wp2
          go_roundw
          case rel => exact ⟨_, cnt1, ss ++ [s], HR4.out, HC1.out, by rw [HF.out]; exact HO3.out, HOW5.out, HB3.out, HCN1.out⟩
          case measure => rw [HR4.out.left_eq, HRG.out.left_eq]; exact HLT.out
        · have HF := hid (beyL_out pre ss hp)
          have hpd : decide ((pre : Int) ≤ s) = false := decide_eq_false hp
          clear hp
          go_wp2
          go_roundw
          case rel => exact ⟨_, cnt1, ss ++ [s], HR1.out, HC1.out, by rw [HF.out]; exact HROW1.out, HOW.out, HB1'.out, HCN1.out⟩
          case measure => rw [HR1.out.left_eq, HRG.out.left_eq]; exact HLT.out
end Go.Proofs.Ytgghfmdciohinaa
