/-
  Package dots: closeGap takes what stands without a gap to its origin's run.
-/
import Derived.Test.YtplecopphddjhaaDotsB
import Derived.Deep.RegionHeld3
import Derived.Deep.AppendLies
import Derived.Deep.RegionLaw
namespace Go.Proofs.Ytplecopphddjhaa
open Go.RowKit Go.Maps

def upd {α : Type} (f : Nat → α) (k : Nat) (v : α) (i : Nat) : α := if i = k then v else f i
theorem upd_same {α : Type} (f : Nat → α) (k : Nat) (v : α) : upd f k v k = v := by simp [upd]
theorem upd_other {α : Type} (f : Nat → α) {k i : Nat} (v : α) (h : i ≠ k) : upd f k v i = f i := by simp [upd, h]
theorem setCells_upd (rs : Nat → Value) (m : Nat) {k : Nat} (hk : k < 7) (v : Value) : (setCells rs m).set k v = setCells (upd rs k v) m := by
  match k, hk with
  | 0, _ | 1, _ | 2, _ | 3, _ | 4, _ | 5, _ | 6, _ => rfl
theorem sumR_upd (R : Nat → List Value) {k : Nat} (hk : k < 7) (l : List Value) : sumR (upd R k l) + (R k).length = sumR R + l.length := by
  unfold sumR
  match k, hk with
  | 0, _ | 1, _ | 2, _ | 3, _ | 4, _ | 5, _ | 6, _ => simp [upd]; omega
theorem size_tidy {w : World} {m n : Nat} {D : DataW Value} (h : w.ownsMap Try.prog 25 valR m n D) : Tidy D := by
  obtain ⟨es, e, hp, _⟩ := h.entries Try.keyedDot
  exact ⟨es, e, hp⟩
section
variable {w w2 w3 : World} {p m N k : Nat} {rs : Nat → Value} {R : Nat → List Value} {D : DataW Value} {S : Int → Int → Option Value}
theorem DotsPre.next (h : DotsPre w p rs R m D S N) (hk : k < 7) {x : Value} (hx : look D (dk (k : Int) (((R k).length : Int) + 1)) = some x) : MayD (k : Int) (((R k).length : Int) + 1) ∧ S (k : Int) (((R k).length : Int) + 1) = some x := by
  have hl := h.len hk
  have h1 := h.keys (k : Int) (((R k).length : Int) + 1) (by unfold I64; omega) (by unfold I64; omega)
  rw [hx] at h1
  split at h1
  · next hc => exact ⟨hc.1, h1.symm⟩
  · cases h1
theorem close_step (h : DotsPre w p rs R m D S N) (hk : k < 7) {x : Value} (hx : look D (dk (k : Int) (((R k).length : Int) + 1)) = some x) {g cap : Nat}
    (T2 : Turns (fun i => i = m) w w2) (hO2 : w2.ownsMap Try.prog 25 valR m N (D.del (dk (k : Int) (((R k).length : Int) + 1))))
    (T3 : Turns (fun i => (rs k).ownBlock = some i) w2 w3) (hO3 : w3.ownsRow 0 9 1 (.slice (some ⟨g, 0, none⟩) ((R k).length + 1) cap) ((R k).length + 1) (R k ++ [x])) (hat : (rs k).ownBlock = some g ∨ w2.heap.size ≤ g) :
    DotsPre (w3.setCell ⟨p, k, none⟩ (.slice (some ⟨g, 0, none⟩) ((R k).length + 1) cap)) p (upd rs k (.slice (some ⟨g, 0, none⟩) ((R k).length + 1) cap)) (upd R k (R k ++ [x])) m (D.del (dk (k : Int) (((R k).length : Int) + 1))) S N ∧
      Turns (FootD p m rs) w (w3.setCell ⟨p, k, none⟩ (.slice (some ⟨g, 0, none⟩) ((R k).length + 1) cap)) ∧
      ∀ i, FootD p m (upd rs k (.slice (some ⟨g, 0, none⟩) ((R k).length + 1) cap)) i → FootD p m rs i ∨ w.heap.size ≤ i := by
  obtain ⟨hmay, hS⟩ := h.next hk hx
  have hpm : p ≠ m := h.blk.not_map h.map
  have hnm : ∀ i, i < 7 → some m ≠ (rs i).ownBlock := fun i hi => row_not_map (h.run i hi) h.map
  have hnp : ∀ i, i < 7 → some p ≠ (rs i).ownBlock := fun i hi => h.blk.not_row (by decide) (h.run i hi)
  have hb2 := T2.blk h.blk (fun e => hpm e)
  have hr2 : ∀ i, i < 7 → w2.ownsRow 0 9 1 (rs i) (R i).length (R i) := fun i hi => T2.row (h.run i hi) (fun g hg e => hnm i hi (by rw [hg, e]))
  have hb3 := T3.blk hb2 (fun e => hnp k hk e.symm)
  have hm3 := T3.map hO2 (fun e => hnm k hk e.symm)
  have hr3 : ∀ i, i < 7 → i ≠ k → w3.ownsRow 0 9 1 (rs i) (R i).length (R i) := fun i hi hne => T3.row (hr2 i hi) (fun g hg e => hne (h.apart i k hi hk g hg e))
  have hpg : p ≠ g := by
    have := hb3.not_row (by decide) hO3
    intro e
    exact this (by rw [e]; rfl)
  have T4 : ∀ v, Turns (fun i => i = p) w3 (w3.setCell ⟨p, k, none⟩ v) := fun v => (Turns.refl (fun i => i = p) w3).setCell (p := ⟨p, k, none⟩) (.inl rfl) v
  have T23 := (T2.mono (G := fun i => i = m ∨ (rs k).ownBlock = some i) (fun _ hi => .inl hi)).trans T3 (fun i hi => .inl (.inr hi))
  have hTall : ∀ v, Turns (FootD p m rs) w (w3.setCell ⟨p, k, none⟩ v) := fun v => (T23.mono (G := FootD p m rs) (fun i hi => by
    rcases hi with rfl | hi
    · exact .inr (.inl rfl)
    · exact .inr (.inr ⟨k, hk, hi⟩))).trans (T4 v) (fun i hi => .inl (.inl hi))
  have hfresh : ∀ i, i < 7 → i ≠ k → (rs i).ownBlock ≠ some g := fun i hi hne hg => by
    rcases hat with e | e
    · exact hne (h.apart i k hi hk g hg e)
    · have := ownsRow_lt (hr2 i hi) hg
      omega
  refine ⟨⟨?_, ?_, ?_, ?_, ?_, ?_, ?_, h.out, h.ones, ?_, h.few⟩, hTall _, ?_⟩
  · have := hb3.set k (.slice (some ⟨g, 0, none⟩) ((R k).length + 1) cap)
    rw [setCells_upd rs m hk] at this
    exact this
  · intro i hi
    by_cases e : i = k
    · subst e
      rw [upd_same, upd_same]
      have := (T4 (.slice (some ⟨g, 0, none⟩) ((R i).length + 1) cap)).row hO3 (fun g' hg' e => by
        have : g = g' := by simpa [Value.ownBlock] using hg'
        omega)
      simpa using this
    · rw [upd_other _ _ e, upd_other _ _ e]
      exact (T4 _).row (hr3 i hi e) (fun g' hg' e' => hnp i hi (by rw [hg', e']))
  · exact (T4 _).map hm3 (fun e => hpm e.symm)
  · intro i j hi hj g' h1 h2
    by_cases ei : i = k
    · by_cases ej : j = k
      · omega
      · subst ei
        rw [upd_same] at h1
        rw [upd_other _ _ ej] at h2
        have : g = g' := by simpa [Value.ownBlock] using h1
        subst this
        exact absurd h2 (hfresh j hj ej)
    · by_cases ej : j = k
      · subst ej
        rw [upd_same] at h2
        rw [upd_other _ _ ei] at h1
        have : g = g' := by simpa [Value.ownBlock] using h2
        subst this
        exact absurd h1 (hfresh i hi ei)
      · rw [upd_other _ _ ei] at h1
        rw [upd_other _ _ ej] at h2
        exact h.apart i j hi hj g' h1 h2
  · intro i hi u hu
    by_cases e : i = k
    · subst e
      rw [upd_same] at hu
      rcases List.mem_append.1 hu with hu | hu
      · exact h.one i hi u hu
      · simp at hu
        subst hu
        exact h.ones _ _ _ hS
    · rw [upd_other _ _ e] at hu
      exact h.one i hi u hu
  · intro o s ho hs
    by_cases e : o = (k : Int) ∧ s = ((R k).length : Int) + 1
    · obtain ⟨rfl, rfl⟩ := e
      rw [look_del_same, if_neg]
      simp [upd]
    · rw [look_del_other (fun he => e (dk_inj ho hs (by unfold I64; omega) (by have := h.len hk; unfold I64; omega) he)), h.keys o s ho hs]
      by_cases hok : o = (k : Int)
      · subst hok
        have hne : s ≠ ((R k).length : Int) + 1 := fun he => e ⟨rfl, he⟩
        simp only [Int.toNat_natCast, upd_same, List.length_append, List.length_singleton]
        by_cases hc : MayD (k : Int) s ∧ ((R k).length : Int) < s
        · rw [if_pos hc, if_pos ⟨hc.1, by omega⟩]
        · rw [if_neg hc, if_neg (fun hc' => hc ⟨hc'.1, by omega⟩)]
      · by_cases hmd : MayD o s
        · have : o.toNat ≠ k := by
            have := hmd.1.1
            omega
          rw [upd_other _ _ this]
        · rw [if_neg (fun hc => hmd hc.1), if_neg (fun hc => hmd hc.1)]
  · intro o ho i hi
    by_cases e : o = k
    · subst e
      rw [upd_same] at hi ⊢
      simp at hi
      by_cases hil : i < (R o).length
      · rw [List.getElem?_append_left hil]
        exact h.runs o ho i hil
      · have : i = (R o).length := by omega
        subst this
        rw [hS]
        simp
    · rw [upd_other _ _ e] at hi ⊢
      exact h.runs o ho i hi
  · have h1 := size_del (k := dk (k : Int) (((R k).length : Int) + 1)) (size_tidy h.map)
    have h2 : has D (dk (k : Int) (((R k).length : Int) + 1)) = true := by
      rw [has_look (allHeld_of h.map), hx]
      rfl
    rw [h2] at h1
    have h3 := sumR_upd R hk (R k ++ [x])
    have h4 := h.cnt
    simp at h1 h3
    omega
  · rintro i (rfl | rfl | ⟨j, hj, hi⟩)
    · exact .inl (.inl rfl)
    · exact .inl (.inr (.inl rfl))
    · by_cases e : j = k
      · subst e
        rw [upd_same] at hi
        have : g = i := by simpa [Value.ownBlock] using hi
        subst this
        rcases hat with e | e
        · exact .inl (.inr (.inr ⟨j, hj, e⟩))
        · right
          have := T2.size
          omega
      · rw [upd_other _ _ e] at hi
        exact .inl (.inr (.inr ⟨j, hj, hi⟩))
end
end Go.Proofs.Ytplecopphddjhaa
/-
  Package dots: closeGap.
-/
namespace Go.Proofs.Ytplecopphddjhaa
open Go.RowKit Go.Maps

def mcount (w : World) (m : Nat) : Nat := match w.heap[m]? with
  | some (.map es _) => es.size
  | _ => 0
theorem mcount_eq {w : World} {m n : Nat} {D : DataW Value} (h : w.ownsMap Try.prog 25 valR m n D) : mcount w m = Maps.size D := by
  obtain ⟨es, clock, hb, F, _, rfl⟩ := h
  simp [mcount, hb, Maps.size, length_sorted]
theorem Try.infoS : (Try.prog.info? 9).map (fun i => (i.zero, i.size, i.bytes)) = some (some (.string ⟨#[]⟩), 1, 16) := by kernel_rfl
section
variable {w : World} {p m N k : Nat} {rs : Nat → Value} {R : Nat → List Value} {D : DataW Value} {S : Int → Int → Option Value}
/-- What closeGap leaves. -/
def Closed (w : World) (p m : Nat) (rs : Nat → Value) (S : Int → Int → Option Value) (N : Nat) (w' : World) : Prop :=
  ∃ rs' R' D', DotsAt w' p rs' R' m D' S N ∧ Turns (FootD p m rs) w w' ∧ ∀ i, FootD p m rs' i → FootD p m rs i ∨ w.heap.size ≤ i
/-- Between two rounds. -/
def Closing (w : World) (p m k : Nat) (rs : Nat → Value) (S : Int → Int → Option Value) (N : Nat) (w' : World) : Prop :=
  ∃ rs' R' D', DotsPre w' p rs' R' m D' S N ∧ (∀ o : Nat, o < 7 → o ≠ k → S (o : Int) (((R' o).length : Int) + 1) = none) ∧ Turns (FootD p m rs) w w' ∧ ∀ i, FootD p m rs' i → FootD p m rs i ∨ w.heap.size ≤ i
theorem close_end {wr w3 w4 : World} {qs : Nat → Value} {Q : Nat → List Value} {E : DataW Value} {ao : Option Addr} {c L g cap : Nat} {x : Value} {ob : Obj} (HP : DotsPre wr p qs Q m E S N) (hk : k < 7) (HQK : qs k = .slice ao L c) (HL : (Q k).length = L) (HV : look E (dk (k : Int) ((L : Int) + 1)) = some x)
    (HG : ∀ o : Nat, o < 7 → o ≠ k → S (o : Int) (((Q o).length : Int) + 1) = none) (HT : Turns (FootD p m rs) w wr) (HF : ∀ i, FootD p m qs i → FootD p m rs i ∨ w.heap.size ≤ i)
    (HT3 : Turns (fun i => i = m) wr w3) (HO3 : w3.ownsMap Try.prog 25 valR m N (E.del (dk (k : Int) ((L : Int) + 1)))) (HO4 : w4.ownsRow 0 9 1 (.slice (some ⟨g, 0, none⟩) (L + 1) cap) (L + 1) (Q k ++ [x]))
    (HG4 : (w3.alloc ob).drew.grownBy w4 (Value.slice ao L c).ownBlock) (hat : (Value.slice ao L c).ownBlock = some g ∨ g = w3.heap.size + 1) :
    Hid (Closing w p m k rs S N (w4.setCell ⟨p, k, none⟩ (.slice (some ⟨g, 0, none⟩) (L + 1) cap))) ∧ mcount (w4.setCell ⟨p, k, none⟩ (.slice (some ⟨g, 0, none⟩) (L + 1) cap)) m < mcount wr m := by
  subst HL
  have T34 : Turns (fun i => (qs k).ownBlock = some i) w3 w4 := ((Turns.refl _ w3).alloc ob).drew.grown HG4 (fun i hi => .inl (by rw [HQK]; exact hi))
  obtain ⟨h1, h2, h3⟩ := close_step HP hk HV HT3 HO3 T34 HO4 (by
    rw [HQK]
    rcases hat with e | e
    · exact .inl e
    · exact .inr (by omega))
  refine ⟨⟨_, _, _, h1, fun o ho hne => ?_, HT.trans h2 HF, fun i hi => ?_⟩, ?_⟩
  · rw [upd_other _ _ hne]
    exact HG o ho hne
  · rcases h3 i hi with h | h
    · exact HF i h
    · exact .inr (Nat.le_trans HT.size h)
  · rw [mcount_eq h1.map, mcount_eq HP.map]
    have h4 := size_del (k := dk (k : Int) (((Q k).length : Int) + 1)) (size_tidy HP.map)
    have h5 : has E (dk (k : Int) (((Q k).length : Int) + 1)) = true := by
      rw [has_look (allHeld_of HP.map), HV]
      rfl
    rw [h5] at h4
    simp at h4
    omega
set_option maxRecDepth 100000 in
set_option maxHeartbeats 1000000 in
theorem closeGap_any (h : DotsPre w p rs R m D S N) (hk : k < 7) (hg : ∀ o : Nat, o < 7 → o ≠ k → S (o : Int) (((R o).length : Int) + 1) = none) :
    Calls Try.prog 20 #[.pointer (some ⟨p, 0, none⟩), .int .i64 (k : Int)] w fun e w' => e = .returned (.tuple #[]) ∧ Closed w p m rs S N w' := by
  have HC : Hid (Closing w p m k rs S N w) := ⟨rs, R, D, h, hg, Turns.refl _ _, fun _ hi => .inl hi⟩
  have hk7 : (k : Int) < 7 := by omega
  obtain ⟨i0, hi, hz0, hz1, hz2⟩ := info_parts Try.infoS
  clear h hg
  go_enter Try.func20, Try.ntmps20
  go_wp2
  go_loopw [4, 5, 6] (fun _ _ _ wr => Hid (Closing w p m k rs S N wr)) (fun _ _ _ wr => mcount wr m)
  case atStart => exact HC.out
  case round =>
    obtain ⟨qs, Q, E, hpre, hgap, hT, hfoot⟩ := hrel.out
    clear hrel HC
    have HP := hid hpre
    have HG := hid hgap
    have HT := hid hT
    have HF := hid hfoot
    obtain ⟨ao, c, hqk⟩ := own_slice (hpre.run k hk)
    have hck := hpre.blk.cell (setCells_run qs m hk)
    rw [hqk] at hck
    have HQK := hid hqk
    have hlen := hpre.len hk
    obtain ⟨L, HL⟩ : ∃ L, Hid ((Q k).length = L) := ⟨_, hid rfl⟩
    rw [HL.out] at hck hlen HQK
    clear hpre hgap hT hfoot hqk
    have HW1 : Hid (Below wr.heap.size wr (wr.alloc (.cells #[.int .i64 (k : Int), .int .i64 ((L : Int) + 1)] 25))) := (Below.refl _ _).alloc (Nat.le_refl _) _
    have HD1 : Hid (Blk (wr.alloc (.cells #[.int .i64 (k : Int), .int .i64 ((L : Int) + 1)] 25)) wr.heap.size 25 [.int .i64 (k : Int), .int .i64 ((L : Int) + 1)]) := Blk.new wr 25 _
    have HP1 := hid (HP.out.below HW1.out)
    go_wp2
    generalize wr.alloc (.cells #[.int .i64 (k : Int), .int .i64 ((L : Int) + 1)] 25) = w1 at *
    have hc7 := HP1.out.blk.cell (i := 7) rfl
    have hd0 := HD1.out.cell (i := 0) rfl
    have hd1 := HD1.out.cell (i := 1) rfl
    obtain ⟨V, HV⟩ : ∃ V, Hid (look E (dk (k : Int) ((L : Int) + 1)) = V) := ⟨_, hid rfl⟩
    have HKEY := hid (key_dot (o := (k : Int)) (s := (L : Int) + 1) (by unfold I64; omega) (by unfold I64; omega))
    have hlk : ∀ q, (Instr.lookup 40 (.map (some m)) (.agg #[.int .i64 (k : Int), .int .i64 ((L : Int) + 1)]) true).run Try.prog (w1.drewN q) = .ok (.tuple #[V.getD zeroE, .bool V.isSome]) (w1.drewN q) := fun q => by
      have := run_look_ok (w := w1.drewN q) (HP1.out.map) Try.keyedDot Try.underlying40 (Try.zeroEl _) HKEY.out
      rw [HV.out] at this
      exact this
    cases V with
    | none =>
      go_quiet (fail)
      go_wp2
      refine bodyPost_ret (results_none rfl _ _ _) rfl ?_
      have hb1 : Below wr.heap.size wr (w1.drewN nq) := below_dn HW1.out nq
      refine ⟨rfl, qs, Q, E, ⟨HP.out.below hb1, fun o ho => ?_⟩, HT.out.trans (Turns.of_below (F := fun _ => False) hb1 (Nat.le_refl _)) (fun _ hf => hf.elim), HF.out⟩
      by_cases e : o = k
      · subst e
        by_cases hmd : MayD (o : Int) (((Q o).length : Int) + 1)
        · have h1 := HP.out.keys (o : Int) (((Q o).length : Int) + 1) hmd.i64.1 hmd.i64.2
          rw [if_pos ⟨hmd, by rw [Int.toNat_natCast]; omega⟩, HL.out, HV.out] at h1
          rw [HL.out]
          exact h1.symm
        · exact HP.out.out _ _ hmd
      · exact HG.out o ho e
    | some x =>
      go_quiet (fail)
      have HP2 : Hid (DotsPre (w1.drewN nq) p qs Q m E S N) := HP1.out.below (below_dn (Below.refl _ _) nq)
      have HW2 : Hid (Below wr.heap.size wr (w1.drewN nq)) := below_dn HW1.out nq
      have HD2 : Hid (Blk (w1.drewN nq) wr.heap.size 25 [.int .i64 (k : Int), .int .i64 ((L : Int) + 1)]) := HD1.out
      clear hlk hc7 hd0 hd1 HP1 HW1 HD1
      generalize w1.drewN nq = w2 at *
      have hc7 := HP2.out.blk.cell (i := 7) rfl
      have hd0 := HD2.out.cell (i := 0) rfl
      have hd1 := HD2.out.cell (i := 1) rfl
      have hm2 : w2.drew.ownsMap Try.prog 25 valR m N E := HP2.out.map
      obtain ⟨w3, hrun, hown3, hturn3⟩ := hm2.drop Try.keyedDot Try.underlying40 HKEY.out 0
      have HO3 := hid hown3
      have HT3 : Hid (Turns (fun i => i = m) wr w3) := (Turns.of_below (F := fun i => i = m) HW2.out (Nat.le_refl _)).drew.trans (Turns.of_grown (F := fun i => i = m) hturn3.grown (fun k hk => by cases hk; rfl)) (fun i hi => .inl hi)
      have T23 : Turns (fun i => i = m) w2.drew w3 := Turns.of_grown (F := fun i => i = m) hturn3.grown (fun k hk => by cases hk; rfl)
      have hmlt := HP.out.map.lt
      have e7 := (T23.blk (show Blk w2.drew p 44 (setCells qs m) from HP2.out.blk) (fun e => HP2.out.blk.not_map HP2.out.map e)).cell (i := 7) rfl
      have hbD := T23.blk (show Blk w2.drew wr.heap.size 25 [.int .i64 (k : Int), .int .i64 ((L : Int) + 1)] from HD2.out) (fun e => by omega)
      have e0 := hbD.cell (i := 0) rfl
      have e1 := hbD.cell (i := 1) rfl
      clear hown3 hturn3 hm2 T23 hbD
      unfold dotVal at hrun
      go_wp2
      go_region_held3 (fun W => W.cell? ⟨p, 7, none⟩ = some (.map (some m)) ∧ W.cell? ⟨wr.heap.size, 0, none⟩ = some (.int .i64 (k : Int)) ∧ W.cell? ⟨wr.heap.size, 1, none⟩ = some (.int .i64 ((L : Int) + 1))) (go_keep) (fail)
      clear hrun hc7 hd0 hd1 e7 e0 e1
      have hb3 := HT3.out.blk HP.out.blk (fun e => HP.out.blk.not_map HP.out.map e)
      have hck3 := hb3.cell (setCells_run qs m hk)
      rw [HQK.out] at hck3
      have HB3 := hid hb3
      have HR3 : Hid (w3.ownsRow 0 9 1 (.slice ao L c) L (Q k)) := by
        have := HT3.out.row (HP.out.run k hk) (fun g hg e => row_not_map (HP.out.run k hk) HP.out.map (by rw [hg, e]))
        rw [HQK.out, HL.out] at this
        exact this
      have hlt3 := hb3.lt
      clear hb3
      obtain ⟨t, rfl⟩ := HP.out.ones _ _ _ (HP.out.next hk (by rw [HL.out]; exact HV.out)).2
      go_wp2
      go_region_law ((refine step_append_lies _ (by rfl) _ _ 41 (by rfl) 0 9 i0 (.string ⟨#[]⟩) 1 16 Try.underlying41 hi hz0 hz1 hz2 rfl (by decide) (.slice ao L c) L (Q k) (by rfl) (by exact (HR3.out.alloc _).drew) ⟨w3.heap.size, 0, none⟩ 1 1 [.string t] (by rfl) rfl (by exact cell_one_new _ _ _) (fun u hu => by simp at hu; subst hu; rfl) (by decide) (by unfold maxLen; omega) (by omega) (Nat.zero_le _) (w3.heap.size + 1) (by simp) ?_; intro g cap' w4 hown4 hgrow4 hat4 hlt4; have hblk4 := (HB3.out.alloc (.cells #[.string t] 9)).drew.kept hgrow4 (HB3.out.not_row (by decide) HR3.out); have hfz4 := hblk4.frozen k; have hce4 := hblk4.cell (setCells_run qs m hk); rw [HQK.out] at hce4; have HO4 := hid hown4; have HG4 := hid hgrow4; clear hown4 hgrow4 hblk4))
      all_goals
        go_wp2
        exact close_end HP.out hk HQK.out HL.out HV.out HG.out HT.out HF.out HT3.out HO3.out HO4.out HG4.out hat4
end
end Go.Proofs.Ytplecopphddjhaa
