/-
  Of sets of ints, what DotsD tells of sets of strings (tools/mkint.py writes this text out of that one).
-/
import Derived.Test.YtjcoahcbdlpcpaaGreatDotsD
import Derived.Test.YtjcoahcbdlpcpaaGreatDiC
namespace Go.Proofs.YtjcoahcbdlpcpaaGreat.In
open Go.RowKit Go.Maps

theorem Tryz.infoS : (Tryz.prog.info? 3).map (fun i => (i.zero, i.size, i.bytes)) = some (some (.int .i64 0), 1, 8) := by kernel_rfl
section
variable {w : World} {p m N k : Nat} {rs : Nat → Value} {R : Nat → List Value} {D : DataW Value} {S : Int → Int → Option Value}
/-- What closeGap leaves. -/
def Closed (w : World) (p m : Nat) (rs : Nat → Value) (S : Int → Int → Option Value) (N : Nat) (w' : World) : Prop :=
  ∃ rs' R' D', DotsAt w' p rs' R' m D' S N ∧ Turns (FootD p m rs) w w' ∧ ∀ i, FootD p m rs' i → FootD p m rs i ∨ w.heap.size ≤ i
/-- Between two rounds. -/
def Closing (w : World) (p m k : Nat) (rs : Nat → Value) (S : Int → Int → Option Value) (N : Nat) (w' : World) : Prop :=
  ∃ rs' R' D', DotsPre w' p rs' R' m D' S N ∧ (∀ o : Nat, o < 7 → o ≠ k → S (o : Int) (((R' o).length : Int) + 1) = none) ∧ Turns (FootD p m rs) w w' ∧ ∀ i, FootD p m rs' i → FootD p m rs i ∨ w.heap.size ≤ i
theorem close_end {wr w3 w4 : World} {qs : Nat → Value} {Q : Nat → List Value} {E : DataW Value} {ao : Option Addr} {c L g cap : Nat} {x : Value} {ob : Obj} (HP : DotsPre wr p qs Q m E S N) (hk : k < 7) (HQK : qs k = .slice ao L c) (HL : (Q k).length = L) (HV : look E (dk (k : Int) ((L : Int) + 1)) = some x)
    (HG : ∀ o : Nat, o < 7 → o ≠ k → S (o : Int) (((Q o).length : Int) + 1) = none) (HT : Turns (FootD p m rs) w wr) (HF : ∀ i, FootD p m qs i → FootD p m rs i ∨ w.heap.size ≤ i)
    (HT3 : Turns (fun i => i = m) wr w3) (HO3 : w3.ownsMap Tryz.prog 31 valR m N (E.del (dk (k : Int) ((L : Int) + 1)))) (HO4 : w4.ownsRow 0 3 1 (.slice (some ⟨g, 0, none⟩) (L + 1) cap) (L + 1) (Q k ++ [x]))
    (HG4 : (w3.alloc ob).drew.grownBy w4 (Value.slice ao L c).ownBlock) (hat : (Value.slice ao L c).ownBlock = some g ∨ g = w3.heap.size + 1) :
    Hid (Closing w p m k rs S N (w4.setCell ⟨p, k, none⟩ (.slice (some ⟨g, 0, none⟩) (L + 1) cap))) ∧ mcount (w4.setCell ⟨p, k, none⟩ (.slice (some ⟨g, 0, none⟩) (L + 1) cap)) m < mcount wr m := by
  subst HL
  have T34 : Turns (fun i => (qs k).ownBlock = some i) w3 w4 := ((Turns.refl _ w3).alloc ob).drew.grown HG4 (fun i hi => .inl (by rw [HQK]; exact hi))
  obtain ⟨h1, h2, h3⟩ := close_step HP hk HV HT3 HO3 T34 HO4 (by
    rw [HQK]
    rcases hat with e | e
    · exact .inl e
    · exact .inr (by omega))
  refine ⟨⟨_, _, _, h1, fun o ho hne => ?_, HT.trans h2 HF, fun i hi => ?_⟩, ?_⟩
  · rw [upd_other _ _ hne]
    exact HG o ho hne
  · rcases h3 i hi with h | h
    · exact HF i h
    · exact .inr (Nat.le_trans HT.size h)
  · rw [mcount_eq h1.map, mcount_eq HP.map]
    have h4 := size_del (k := dk (k : Int) (((Q k).length : Int) + 1)) (size_tidy HP.map)
    have h5 : has E (dk (k : Int) (((Q k).length : Int) + 1)) = true := by
      rw [has_look (allHeld_of HP.map), HV]
      rfl
    rw [h5] at h4
    simp at h4
    omega
set_option maxRecDepth 100000 in
set_option maxHeartbeats 1000000 in
theorem closeGap_any (h : DotsPre w p rs R m D S N) (hk : k < 7) (hg : ∀ o : Nat, o < 7 → o ≠ k → S (o : Int) (((R o).length : Int) + 1) = none) :
    Calls Tryz.prog 24 #[.pointer (some ⟨p, 0, none⟩), .int .i64 (k : Int)] w fun e w' => e = .returned (.tuple #[]) ∧ Closed w p m rs S N w' := by
  have HC : Hid (Closing w p m k rs S N w) := ⟨rs, R, D, h, hg, Turns.refl _ _, fun _ hi => .inl hi⟩
  have hk7 : (k : Int) < 7 := by omega
  obtain ⟨i0, hi, hz0, hz1, hz2⟩ := info_parts Tryz.infoS
  clear h hg
  go_enter Tryz.func24, Tryz.ntmps24
  go_wp2
  go_loopw [4, 5, 6] (fun _ _ _ wr => Hid (Closing w p m k rs S N wr)) (fun _ _ _ wr => mcount wr m)
  case atStart => exact HC.out
  case round =>
    obtain ⟨qs, Q, E, hpre, hgap, hT, hfoot⟩ := hrel.out
    clear hrel HC
    have HP := hid hpre
    have HG := hid hgap
    have HT := hid hT
    have HF := hid hfoot
    obtain ⟨ao, c, hqk⟩ := own_slice (hpre.run k hk)
    have hck := hpre.blk.cell (setCells_run qs m hk)
    rw [hqk] at hck
    have HQK := hid hqk
    have hlen := hpre.len hk
    obtain ⟨L, HL⟩ : ∃ L, Hid ((Q k).length = L) := ⟨_, hid rfl⟩
    rw [HL.out] at hck hlen HQK
    clear hpre hgap hT hfoot hqk
    have HW1 : Hid (Below wr.heap.size wr (wr.alloc (.cells #[.int .i64 (k : Int), .int .i64 ((L : Int) + 1)] 31))) := (Below.refl _ _).alloc (Nat.le_refl _) _
    have HD1 : Hid (Blk (wr.alloc (.cells #[.int .i64 (k : Int), .int .i64 ((L : Int) + 1)] 31)) wr.heap.size 31 [.int .i64 (k : Int), .int .i64 ((L : Int) + 1)]) := Blk.new wr 31 _
    have HP1 := hid (HP.out.below HW1.out)
    go_wp2
    generalize wr.alloc (.cells #[.int .i64 (k : Int), .int .i64 ((L : Int) + 1)] 31) = w1 at *
    have hc7 := HP1.out.blk.cell (i := 7) rfl
    have hd0 := HD1.out.cell (i := 0) rfl
    have hd1 := HD1.out.cell (i := 1) rfl
    obtain ⟨V, HV⟩ : ∃ V, Hid (look E (dk (k : Int) ((L : Int) + 1)) = V) := ⟨_, hid rfl⟩
    have HKEY := hid (key_dot (o := (k : Int)) (s := (L : Int) + 1) (by unfold I64; omega) (by unfold I64; omega))
    have hlk : ∀ q, (Instr.lookup 46 (.map (some m)) (.agg #[.int .i64 (k : Int), .int .i64 ((L : Int) + 1)]) true).run Tryz.prog (w1.drewN q) = .ok (.tuple #[V.getD zeroE, .bool V.isSome]) (w1.drewN q) := fun q => by
      have := run_look_ok (w := w1.drewN q) (HP1.out.map) Tryz.keyedDot Tryz.underlying46 (Tryz.zeroEl _) HKEY.out
      rw [HV.out] at this
      exact this
    cases V with
    | none =>
      go_quiet (fail)
      go_wp2
      refine bodyPost_ret (results_none rfl _ _ _) rfl ?_
      have hb1 : Below wr.heap.size wr (w1.drewN nq) := below_dn HW1.out nq
      refine ⟨rfl, qs, Q, E, ⟨HP.out.below hb1, fun o ho => ?_⟩, HT.out.trans (Turns.of_below (F := fun _ => False) hb1 (Nat.le_refl _)) (fun _ hf => hf.elim), HF.out⟩
      by_cases e : o = k
      · subst e
        by_cases hmd : MayD (o : Int) (((Q o).length : Int) + 1)
        · have h1 := HP.out.keys (o : Int) (((Q o).length : Int) + 1) hmd.i64.1 hmd.i64.2
          rw [if_pos ⟨hmd, by rw [Int.toNat_natCast]; omega⟩, HL.out, HV.out] at h1
          rw [HL.out]
          exact h1.symm
        · exact HP.out.out _ _ hmd
      · exact HG.out o ho e
    | some x =>
      go_quiet (fail)
      have HP2 : Hid (DotsPre (w1.drewN nq) p qs Q m E S N) := HP1.out.below (below_dn (Below.refl _ _) nq)
      have HW2 : Hid (Below wr.heap.size wr (w1.drewN nq)) := below_dn HW1.out nq
      have HD2 : Hid (Blk (w1.drewN nq) wr.heap.size 31 [.int .i64 (k : Int), .int .i64 ((L : Int) + 1)]) := HD1.out
      clear hlk hc7 hd0 hd1 HP1 HW1 HD1
      generalize w1.drewN nq = w2 at *
      have hc7 := HP2.out.blk.cell (i := 7) rfl
      have hd0 := HD2.out.cell (i := 0) rfl
      have hd1 := HD2.out.cell (i := 1) rfl
      have hm2 : w2.drew.ownsMap Tryz.prog 31 valR m N E := HP2.out.map
      obtain ⟨w3, hrun, hown3, hturn3⟩ := hm2.drop Tryz.keyedDot Tryz.underlying46 HKEY.out 0
      have HO3 := hid hown3
      have HT3 : Hid (Turns (fun i => i = m) wr w3) := (Turns.of_below (F := fun i => i = m) HW2.out (Nat.le_refl _)).drew.trans (Turns.of_grown (F := fun i => i = m) hturn3.grown (fun k hk => by cases hk; rfl)) (fun i hi => .inl hi)
      have T23 : Turns (fun i => i = m) w2.drew w3 := Turns.of_grown (F := fun i => i = m) hturn3.grown (fun k hk => by cases hk; rfl)
      have hmlt := HP.out.map.lt
      have e7 := (T23.blk (show Blk w2.drew p 49 (setCells qs m) from HP2.out.blk) (fun e => HP2.out.blk.not_map HP2.out.map e)).cell (i := 7) rfl
      have hbD := T23.blk (show Blk w2.drew wr.heap.size 31 [.int .i64 (k : Int), .int .i64 ((L : Int) + 1)] from HD2.out) (fun e => by omega)
      have e0 := hbD.cell (i := 0) rfl
      have e1 := hbD.cell (i := 1) rfl
      clear hown3 hturn3 hm2 T23 hbD
      unfold dotVal at hrun
      go_wp2
      go_region_held3 (fun W => W.cell? ⟨p, 7, none⟩ = some (.map (some m)) ∧ W.cell? ⟨wr.heap.size, 0, none⟩ = some (.int .i64 (k : Int)) ∧ W.cell? ⟨wr.heap.size, 1, none⟩ = some (.int .i64 ((L : Int) + 1))) (go_keep) (fail)
      clear hrun hc7 hd0 hd1 e7 e0 e1
      have hb3 := HT3.out.blk HP.out.blk (fun e => HP.out.blk.not_map HP.out.map e)
      have hck3 := hb3.cell (setCells_run qs m hk)
      rw [HQK.out] at hck3
      have HB3 := hid hb3
      have HR3 : Hid (w3.ownsRow 0 3 1 (.slice ao L c) L (Q k)) := by
        have := HT3.out.row (HP.out.run k hk) (fun g hg e => row_not_map (HP.out.run k hk) HP.out.map (by rw [hg, e]))
        rw [HQK.out, HL.out] at this
        exact this
      have hlt3 := hb3.lt
      clear hb3
      obtain ⟨t, rfl⟩ := HP.out.ones _ _ _ (HP.out.next hk (by rw [HL.out]; exact HV.out)).2
      go_wp2
      go_region_law ((refine step_append_lies _ (by rfl) _ _ 38 (by rfl) 0 3 i0 (.int .i64 0) 1 8 Tryz.underlying38 hi hz0 hz1 hz2 rfl (by decide) (.slice ao L c) L (Q k) (by rfl) (by exact (HR3.out.alloc _).drew) ⟨w3.heap.size, 0, none⟩ 1 1 [.int .i64 t] (by rfl) rfl (by exact cell_one_new _ _ _) (fun u hu => by simp at hu; subst hu; rfl) (by decide) (by unfold maxLen; omega) (by omega) (Nat.zero_le _) (w3.heap.size + 1) (by simp) ?_; intro g cap' w4 hown4 hgrow4 hat4 hlt4; have hblk4 := (HB3.out.alloc (.cells #[.int .i64 t] 3)).drew.kept hgrow4 (HB3.out.not_row (by decide) HR3.out); have hfz4 := hblk4.frozen k; have hce4 := hblk4.cell (setCells_run qs m hk); rw [HQK.out] at hce4; have HO4 := hid hown4; have HG4 := hid hgrow4; clear hown4 hgrow4 hblk4))
      all_goals
        go_wp2
        exact close_end HP.out hk HQK.out HL.out HV.out HG.out HT.out HF.out HT3.out HO3.out HO4.out HG4.out hat4
end
end Go.Proofs.YtjcoahcbdlpcpaaGreat.In
