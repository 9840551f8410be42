/-
  Of sets of ints, what DotsB tells of sets of strings (tools/mkint.py writes this text out of that one).
-/
import Derived.Test.YtjcoahcbdlpcpaaGreatDotsC
import Derived.Test.YtjcoahcbdlpcpaaGreatDiA
import Derived.Deep.RegionHeld3
import Derived.Deep.AppendLies
import Derived.Deep.RegionLaw
namespace Go.Proofs.YtjcoahcbdlpcpaaGreat.In
open Go.RowKit Go.Maps

theorem get_nil (w : World) (o s : Int) : Calls Tryz.prog 40 #[.pointer none, .agg #[.int .i64 o, .int .i64 s]] w fun e w' => e = .returned (.tuple #[zeroE, .bool false]) ∧ Below w.heap.size w w' := by
  have HB : Hid (Below w.heap.size w (w.alloc (.cells #[.int .i64 o, .int .i64 s] 31))) := (Below.refl _ _).alloc (Nat.le_refl _) _
  go_enter Tryz.func40, Tryz.ntmps40
  go_wp2_with fail
  refine (closedD_nil _).mono ?_
  rintro e w' ⟨rfl, rfl⟩
  go_wp2
  go_ret2
  exact ⟨rfl, HB.out⟩
theorem has_nil (w : World) (o s : Int) : Calls Tryz.prog 23 #[.pointer none, .agg #[.int .i64 o, .int .i64 s]] w fun e w' => e = .returned (.bool false) ∧ Below w.heap.size w w' := by
  have HB : Hid (Below w.heap.size w (w.alloc (.cells #[.int .i64 o, .int .i64 s] 31))) := (Below.refl _ _).alloc (Nat.le_refl _) _
  go_enter Tryz.func23, Tryz.ntmps23
  go_wp2_with fail
  refine (get_nil _ o s).mono ?_
  rintro e w' ⟨rfl, hb⟩
  have HB2 := hid (bt HB.out hb)
  clear hb
  go_wp2
  go_ret
  exact ⟨rfl, HB2.out⟩
theorem Tryz.zeroEl (w : World) : (zeroValue 3).run Tryz.prog w = .ok zeroE w := by kernel_rfl
section
variable {w w' : World} {p m N : Nat} {rs : Nat → Value} {R : Nat → List Value} {D : DataW Value} {S : Int → Int → Option Value}
set_option maxRecDepth 100000 in
theorem get_any (h : DotsPre w p rs R m D S N) (o s : Int) : Calls Tryz.prog 40 #[.pointer (some ⟨p, 0, none⟩), .agg #[.int .i64 o, .int .i64 s]] w fun e w' => e = .returned (.tuple #[(S o s).getD zeroE, .bool (S o s).isSome]) ∧ Below w.heap.size w w' := by
  have HB : Hid (Below w.heap.size w (w.alloc (.cells #[.int .i64 o, .int .i64 s] 31))) := (Below.refl _ _).alloc (Nat.le_refl _) _
  have HD : Hid (Blk (w.alloc (.cells #[.int .i64 o, .int .i64 s] 31)) w.heap.size 31 [.int .i64 o, .int .i64 s]) := Blk.new w 31 _
  have HH := hid h
  have HH1 := hid (h.below HB.out)
  clear h
  by_cases hm : MayD o s
  · obtain ⟨k, rfl⟩ := Int.eq_ofNat_of_zero_le hm.1.1
    have hk : k < 7 := by have := hm.1.2; omega
    have hk7 : (k : Int) < 7 := hm.1.2
    have hs1 : 1 ≤ s := hm.2.1
    have hs2 : s ≤ 2147483647 := hm.2.2
    have HAT := hid (HH.out.at hm)
    have HMD := hid hm
    clear hm
    go_enter Tryz.func40, Tryz.ntmps40
    go_wp2_with fail
    refine (closedD_no _ p m (HH1.out.blk.cell (i := 7) rfl)).mono ?_
    rintro e w1 ⟨rfl, rfl⟩
    have hd0 := HD.out.cell (i := 0) rfl
    have hd1 := HD.out.cell (i := 1) rfl
    go_wp2_with fail
    refine (may_dot _ (k : Int) s).mono ?_
    rintro e w2 ⟨rfl, hb2⟩
    rw [decide_eq_true HMD.out]
    have HB2 := hid (bt HB.out hb2)
    have HH2 := hid (HH1.out.below hb2)
    have HD2 : Hid (Blk w2 w.heap.size 31 [.int .i64 (k : Int), .int .i64 s]) := HD.out.below hb2 HD.out.lt
    clear hb2 hd0 hd1
    have hd0 := HD2.out.cell (i := 0) rfl
    have hd1 := HD2.out.cell (i := 1) rfl
    obtain ⟨ao, c, hrk⟩ := own_slice (HH2.out.run k hk)
    have hck := HH2.out.blk.cell (setCells_run rs m hk)
    rw [hrk] at hck
    have hc7 := HH2.out.blk.cell (i := 7) rfl
    have HRK := hid hrk
    have hlen := HH2.out.len hk
    obtain ⟨L, HL⟩ : ∃ L, Hid ((R k).length = L) := ⟨_, hid rfl⟩
    rw [HL.out] at hck hlen
    clear hrk
    go_wp2
    go_quiet (fail)
    have HH3 : Hid (DotsPre (w2.drewN nq) p rs R m D S N) := HH2.out.below (below_dn (Below.refl _ _) nq)
    have HB3 : Hid (Below w.heap.size w (w2.drewN nq)) := below_dn HB2.out nq
    have hd0 : (w2.drewN nq).cell? ⟨w.heap.size, 0, none⟩ = some (.int .i64 (k : Int)) := HD2.out.cell (i := 0) rfl
    have hd1 : (w2.drewN nq).cell? ⟨w.heap.size, 1, none⟩ = some (.int .i64 s) := HD2.out.cell (i := 1) rfl
    have hck : (w2.drewN nq).cell? ⟨p, k, none⟩ = some (.slice ao L c) := hck
    have hc7 : (w2.drewN nq).cell? ⟨p, 7, none⟩ = some (.map (some m)) := hc7
    clear HH2 HB2 HD2
    generalize w2.drewN nq = w3 at *
    by_cases hs : s ≤ (L : Int)
    · obtain ⟨j, hj⟩ := Int.eq_ofNat_of_zero_le (by omega : 0 ≤ s - 1)
      have hjL : j < L := by omega
      have hjI : (j : Int) < (L : Int) := by omega
      have hs3 : s - 1 = (j : Int) := hj
      obtain ⟨eo, cap, he, hec, hcell⟩ := own_form' (HH3.out.run k hk)
      rw [HRK.out] at he
      cases he
      obtain ⟨g, rfl, _, _, hgc⟩ := hcell (by rw [HL.out]; omega)
      have hx : (R k)[j]? = some ((R k)[j]'(by rw [HL.out]; exact hjL)) := List.getElem?_eq_getElem _
      obtain ⟨X, hX⟩ : ∃ X, (R k)[j]? = some X := ⟨_, hx⟩
      have hcj := hgc j X hX
      have HSX : Hid (S (k : Int) s = some X) := by
        show _ = _
        rw [HAT.out, if_pos (by rw [HL.out]; exact hs), hj]
        simpa using hX
      have hwj : wrap64 (s - 1) = (j : Int) := by rw [hj]; exact wrapS (by omega) (by omega)
      clear hgc hx hX hcell hj
      go_wp2
      go_ret2
      rw [HSX.out]
      exact ⟨rfl, HB3.out⟩
    · have hs' : ¬ s ≤ (L : Int) := hs
      obtain ⟨V, HV⟩ : ∃ V, Hid (look D (dk (k : Int) s) = V) := ⟨_, hid rfl⟩
      have hlk : ∀ q, (Instr.lookup 46 (.map (some m)) (.agg #[.int .i64 (k : Int), .int .i64 s]) true).run Tryz.prog (w3.drewN q) = .ok (.tuple #[V.getD zeroE, .bool V.isSome]) (w3.drewN q) := fun q => by
        have := run_look_ok (w := w3.drewN q) (HH3.out.map) Tryz.keyedDot Tryz.underlying46 (Tryz.zeroEl _) (key_dot HMD.out.i64.1 HMD.out.i64.2)
        rw [HV.out] at this
        exact this
      have HSX : Hid (S (k : Int) s = V) := by
        show _ = _
        rw [HAT.out, if_neg (by rw [HL.out]; exact hs), HV.out]
      clear hs
      go_wp2
      go_quiet (fail)
      go_wp2
      go_ret2
      rw [HSX.out]
      exact ⟨rfl, below_dn HB3.out _⟩
  · have hS : S o s = none := HH.out.out o s hm
    have HS := hid hS
    have HMD := hid hm
    clear hS hm
    go_enter Tryz.func40, Tryz.ntmps40
    go_wp2_with fail
    refine (closedD_no _ p m (HH1.out.blk.cell (i := 7) rfl)).mono ?_
    rintro e w1 ⟨rfl, rfl⟩
    have hd0 := HD.out.cell (i := 0) rfl
    have hd1 := HD.out.cell (i := 1) rfl
    go_wp2_with fail
    refine (may_dot _ o s).mono ?_
    rintro e w2 ⟨rfl, hb2⟩
    rw [decide_eq_false HMD.out]
    have HB2 := hid (bt HB.out hb2)
    clear hb2 hd0 hd1
    go_wp2
    go_ret2
    rw [HS.out]
    exact ⟨rfl, HB2.out⟩
theorem has_dot (h : DotsPre w p rs R m D S N) (o s : Int) : Calls Tryz.prog 23 #[.pointer (some ⟨p, 0, none⟩), .agg #[.int .i64 o, .int .i64 s]] w fun e w' => e = .returned (.bool (S o s).isSome) ∧ Below w.heap.size w w' := by
  have HB : Hid (Below w.heap.size w (w.alloc (.cells #[.int .i64 o, .int .i64 s] 31))) := (Below.refl _ _).alloc (Nat.le_refl _) _
  have HG := hid (get_any (h.below HB.out) o s)
  clear h
  obtain ⟨V, HV⟩ : ∃ V, Hid (S o s = V) := ⟨_, hid rfl⟩
  rw [HV.out] at HG ⊢
  go_enter Tryz.func23, Tryz.ntmps23
  go_wp2_with fail
  refine HG.out.mono ?_
  rintro e w' ⟨rfl, hb⟩
  have HB2 := hid (bt HB.out hb)
  clear hb
  go_wp2
  go_ret
  exact ⟨rfl, HB2.out⟩
end
end Go.Proofs.YtjcoahcbdlpcpaaGreat.In
/-
  Of sets of ints, what DotsC tells of sets of strings (tools/mkint.py writes this text out of that one).
-/
namespace Go.Proofs.YtjcoahcbdlpcpaaGreat.In
open Go.RowKit Go.Maps

section
variable {w w2 w3 : World} {p m N k : Nat} {rs : Nat → Value} {R : Nat → List Value} {D : DataW Value} {S : Int → Int → Option Value}
theorem DotsPre.next (h : DotsPre w p rs R m D S N) (hk : k < 7) {x : Value} (hx : look D (dk (k : Int) (((R k).length : Int) + 1)) = some x) : MayD (k : Int) (((R k).length : Int) + 1) ∧ S (k : Int) (((R k).length : Int) + 1) = some x := by
  have hl := h.len hk
  have h1 := h.keys (k : Int) (((R k).length : Int) + 1) (by unfold I64; omega) (by unfold I64; omega)
  rw [hx] at h1
  split at h1
  · next hc => exact ⟨hc.1, h1.symm⟩
  · cases h1
theorem close_step (h : DotsPre w p rs R m D S N) (hk : k < 7) {x : Value} (hx : look D (dk (k : Int) (((R k).length : Int) + 1)) = some x) {g cap : Nat}
    (T2 : Turns (fun i => i = m) w w2) (hO2 : w2.ownsMap Tryz.prog 31 valR m N (D.del (dk (k : Int) (((R k).length : Int) + 1))))
    (T3 : Turns (fun i => (rs k).ownBlock = some i) w2 w3) (hO3 : w3.ownsRow 0 3 1 (.slice (some ⟨g, 0, none⟩) ((R k).length + 1) cap) ((R k).length + 1) (R k ++ [x])) (hat : (rs k).ownBlock = some g ∨ w2.heap.size ≤ g) :
    DotsPre (w3.setCell ⟨p, k, none⟩ (.slice (some ⟨g, 0, none⟩) ((R k).length + 1) cap)) p (upd rs k (.slice (some ⟨g, 0, none⟩) ((R k).length + 1) cap)) (upd R k (R k ++ [x])) m (D.del (dk (k : Int) (((R k).length : Int) + 1))) S N ∧
      Turns (FootD p m rs) w (w3.setCell ⟨p, k, none⟩ (.slice (some ⟨g, 0, none⟩) ((R k).length + 1) cap)) ∧
      ∀ i, FootD p m (upd rs k (.slice (some ⟨g, 0, none⟩) ((R k).length + 1) cap)) i → FootD p m rs i ∨ w.heap.size ≤ i := by
  obtain ⟨hmay, hS⟩ := h.next hk hx
  have hpm : p ≠ m := h.blk.not_map h.map
  have hnm : ∀ i, i < 7 → some m ≠ (rs i).ownBlock := fun i hi => row_not_map (h.run i hi) h.map
  have hnp : ∀ i, i < 7 → some p ≠ (rs i).ownBlock := fun i hi => h.blk.not_row (by decide) (h.run i hi)
  have hb2 := T2.blk h.blk (fun e => hpm e)
  have hr2 : ∀ i, i < 7 → w2.ownsRow 0 3 1 (rs i) (R i).length (R i) := fun i hi => T2.row (h.run i hi) (fun g hg e => hnm i hi (by rw [hg, e]))
  have hb3 := T3.blk hb2 (fun e => hnp k hk e.symm)
  have hm3 := T3.map hO2 (fun e => hnm k hk e.symm)
  have hr3 : ∀ i, i < 7 → i ≠ k → w3.ownsRow 0 3 1 (rs i) (R i).length (R i) := fun i hi hne => T3.row (hr2 i hi) (fun g hg e => hne (h.apart i k hi hk g hg e))
  have hpg : p ≠ g := by
    have := hb3.not_row (by decide) hO3
    intro e
    exact this (by rw [e]; rfl)
  have T4 : ∀ v, Turns (fun i => i = p) w3 (w3.setCell ⟨p, k, none⟩ v) := fun v => (Turns.refl (fun i => i = p) w3).setCell (p := ⟨p, k, none⟩) (.inl rfl) v
  have T23 := (T2.mono (G := fun i => i = m ∨ (rs k).ownBlock = some i) (fun _ hi => .inl hi)).trans T3 (fun i hi => .inl (.inr hi))
  have hTall : ∀ v, Turns (FootD p m rs) w (w3.setCell ⟨p, k, none⟩ v) := fun v => (T23.mono (G := FootD p m rs) (fun i hi => by
    rcases hi with rfl | hi
    · exact .inr (.inl rfl)
    · exact .inr (.inr ⟨k, hk, hi⟩))).trans (T4 v) (fun i hi => .inl (.inl hi))
  have hfresh : ∀ i, i < 7 → i ≠ k → (rs i).ownBlock ≠ some g := fun i hi hne hg => by
    rcases hat with e | e
    · exact hne (h.apart i k hi hk g hg e)
    · have := ownsRow_lt (hr2 i hi) hg
      omega
  refine ⟨⟨?_, ?_, ?_, ?_, ?_, ?_, ?_, h.out, h.ones, ?_, h.few⟩, hTall _, ?_⟩
  · have := hb3.set k (.slice (some ⟨g, 0, none⟩) ((R k).length + 1) cap)
    rw [setCells_upd rs m hk] at this
    exact this
  · intro i hi
    by_cases e : i = k
    · subst e
      rw [upd_same, upd_same]
      have := (T4 (.slice (some ⟨g, 0, none⟩) ((R i).length + 1) cap)).row hO3 (fun g' hg' e => by
        have : g = g' := by simpa [Value.ownBlock] using hg'
        omega)
      simpa using this
    · rw [upd_other _ _ e, upd_other _ _ e]
      exact (T4 _).row (hr3 i hi e) (fun g' hg' e' => hnp i hi (by rw [hg', e']))
  · exact (T4 _).map hm3 (fun e => hpm e.symm)
  · intro i j hi hj g' h1 h2
    by_cases ei : i = k
    · by_cases ej : j = k
      · omega
      · subst ei
        rw [upd_same] at h1
        rw [upd_other _ _ ej] at h2
        have : g = g' := by simpa [Value.ownBlock] using h1
        subst this
        exact absurd h2 (hfresh j hj ej)
    · by_cases ej : j = k
      · subst ej
        rw [upd_same] at h2
        rw [upd_other _ _ ei] at h1
        have : g = g' := by simpa [Value.ownBlock] using h2
        subst this
        exact absurd h1 (hfresh i hi ei)
      · rw [upd_other _ _ ei] at h1
        rw [upd_other _ _ ej] at h2
        exact h.apart i j hi hj g' h1 h2
  · intro i hi u hu
    by_cases e : i = k
    · subst e
      rw [upd_same] at hu
      rcases List.mem_append.1 hu with hu | hu
      · exact h.one i hi u hu
      · simp at hu
        subst hu
        exact h.ones _ _ _ hS
    · rw [upd_other _ _ e] at hu
      exact h.one i hi u hu
  · intro o s ho hs
    by_cases e : o = (k : Int) ∧ s = ((R k).length : Int) + 1
    · obtain ⟨rfl, rfl⟩ := e
      rw [look_del_same, if_neg]
      simp [upd]
    · rw [look_del_other (fun he => e (dk_inj ho hs (by unfold I64; omega) (by have := h.len hk; unfold I64; omega) he)), h.keys o s ho hs]
      by_cases hok : o = (k : Int)
      · subst hok
        have hne : s ≠ ((R k).length : Int) + 1 := fun he => e ⟨rfl, he⟩
        simp only [Int.toNat_natCast, upd_same, List.length_append, List.length_singleton]
        by_cases hc : MayD (k : Int) s ∧ ((R k).length : Int) < s
        · rw [if_pos hc, if_pos ⟨hc.1, by omega⟩]
        · rw [if_neg hc, if_neg (fun hc' => hc ⟨hc'.1, by omega⟩)]
      · by_cases hmd : MayD o s
        · have : o.toNat ≠ k := by
            have := hmd.1.1
            omega
          rw [upd_other _ _ this]
        · rw [if_neg (fun hc => hmd hc.1), if_neg (fun hc => hmd hc.1)]
  · intro o ho i hi
    by_cases e : o = k
    · subst e
      rw [upd_same] at hi ⊢
      simp at hi
      by_cases hil : i < (R o).length
      · rw [List.getElem?_append_left hil]
        exact h.runs o ho i hil
      · have : i = (R o).length := by omega
        subst this
        rw [hS]
        simp
    · rw [upd_other _ _ e] at hi ⊢
      exact h.runs o ho i hi
  · have h1 := size_del (k := dk (k : Int) (((R k).length : Int) + 1)) (size_tidy h.map)
    have h2 : has D (dk (k : Int) (((R k).length : Int) + 1)) = true := by
      rw [has_look (allHeld_of h.map), hx]
      rfl
    rw [h2] at h1
    have h3 := sumR_upd R hk (R k ++ [x])
    have h4 := h.cnt
    simp at h1 h3
    omega
  · rintro i (rfl | rfl | ⟨j, hj, hi⟩)
    · exact .inl (.inl rfl)
    · exact .inl (.inr (.inl rfl))
    · by_cases e : j = k
      · subst e
        rw [upd_same] at hi
        have : g = i := by simpa [Value.ownBlock] using hi
        subst this
        rcases hat with e | e
        · exact .inl (.inr (.inr ⟨j, hj, e⟩))
        · right
          have := T2.size
          omega
      · rw [upd_other _ _ e] at hi
        exact .inl (.inr (.inr ⟨j, hj, hi⟩))
end
end Go.Proofs.YtjcoahcbdlpcpaaGreat.In
