/-
  Package acceptor: what onAccept has done; kinds.
-/
import Derived.Test.YthcpopigkbefhaaGreatAcD
namespace Go.Proofs.YthcpopigkbefhaaGreat
open Go.RowKit Go.Maps

theorem blk_ne {w : World} {b c : Nat} {t u : TypeId} {xs ys : List Value} (h : Blk w b t xs) (k : Blk w c u ys) (hne : t ≠ u) : b ≠ c := by
  rintro rfl
  have h1 : w.heap[b]? = some (.cells xs.toArray t) := h
  have h2 : w.heap[b]? = some (.cells ys.toArray u) := k
  rw [h1] at h2
  injection h2 with h2
  injection h2 with _ h2
  exact hne h2
theorem rightEn_sizes {e : En} (h : RightEn e = true) : e.tok.size ≤ 140737488355328 ∧ e.cart.size ≤ 140737488355328 := by
  unfold RightEn at h
  split at h
  · unfold EmptySe at h
    simp only [Bool.and_eq_true, decide_eq_true_eq] at h
    omega
  · unfold RightSe at h
    simp only [Bool.and_eq_true] at h
    have := nameS_sizeC h.1
    have := nameS_sizeC h.2.1
    omega
theorem voteA_len {a : Ac} (h : AcOk a) (s : Int) (v : Vt) : (voteA a s v).ks.length = if (a.f s).isSome = true then a.ks.length else a.ks.length + 1 := by
  show (putS a.ks s).length = _
  by_cases hm : s ∈ a.ks
  · rw [putS_old h.rise hm, if_pos ((h.has s).1 hm)]
  · rw [putS_fresh_len hm, if_neg (fun k => hm ((h.has s).2 k))]
set_option maxRecDepth 1000000 in
set_option maxHeartbeats 2000000 in
theorem onAccept1A {w : World} {p m ba bm : Nat} {a : Ac} {x : MsM} (h : AcAt w p m a) (hA : Blk w ba 23 [.pointer (some ⟨p, 0, none⟩)]) (hM : Blk w bm 38 x.cells) (hx : MsOk w x) (hsep : ∀ b off, x.en.ao = some ⟨b, off, none⟩ → x.en.e.cut ≠ [] → b ≠ p) (hr : RightMs x = true) (hc : ¬ RefusedA a x) : Calls Tryz.prog 47 #[.pointer (some ⟨bm, 0, none⟩), .pointer (some ⟨ba, 0, none⟩)] w fun e w' => e = .returned (.tuple #[]) ∧ AcAt w' p m (voteA a x.slot (x.bal, x.en.e)) ∧ Turns (FootA p m) w w' := by
  obtain ⟨hrb, hre, hrs⟩ := rightMs_bal hr
  obtain ⟨W3, hW3⟩ : ∃ V, V = (w.setCell ⟨p, 1, none⟩ (.int .i64 x.bal.1)).setCell ⟨p, 2, none⟩ (.int .i64 x.bal.2) := ⟨_, rfl⟩
  have hT : Turns (fun i => i = p) w W3 := by rw [hW3]; exact turns_own (turns_own (Turns.refl _ _))
  have hmp := h.map
  obtain ⟨S, D, hEM, hSf⟩ := hmp
  have hnp : NoNum w (fun i => i = p) := noNum_blk h.blk (by decide)
  have HEM3 := hid (hEM.turned hT (fun e => h.pne e.symm) hnp)
  have HSF := hid hSf
  have HP3 : Hid (Blk W3 p 48 [.int .i64 a.node, .int .i64 x.bal.1, .int .i64 x.bal.2, .map (some m)]) := by rw [hW3]; exact (h.blk.set 1 _).set 2 _
  have HA3 := hid (hT.blk hA (blk_ne hA h.blk (by decide)))
  have HM3 := hid (hT.blk hM (blk_ne hM h.blk (by decide)))
  have HPN : Hid (ba ≠ m ∧ bm ≠ m ∧ p ≠ m) := ⟨hA.not_map hEM.map, hM.not_map hEM.map, h.pne⟩
  have HX3 : Hid (EnOk W3 x.en) := by
    have hk := hx.en
    refine ⟨⟨hk.cut.held.turned hT (fun b off e hne hf => ?_), hk.cut.room, hk.cut.few⟩, hk.ie, hk.ht, hk.hc⟩
    exact hsep b off e hne hf
  have HSZ := hid (rightEn_sizes hre)
  have HSI := hid hx.isl
  have HOK : Hid (AcOk (voteA a x.slot (x.bal, x.en.e))) := voteA_ok h.ok hrs hrb hre (fun k => hc (.inl k)) (fun k => hc (.inr k))
  have HLN := hid (voteA_len h.ok x.slot (x.bal, x.en.e))
  have HFW : Hid (a.ks.length ≤ 4096) := h.ok.few
  have c1 := h.cells.2.1
  have c2 := h.cells.2.2.1
  have f1 := h.blk.frozen 1
  have f2 := h.blk.frozen 2
  have d0 := hA.cell (i := 0) rfl
  have d3 := hM.cell (i := 3) rfl
  have d4 := hM.cell (i := 4) rfl
  have HT03 := hid hT
  have HKP : Hid (∀ U, ScL W3 U → Calls Tryz.prog 48 #[x.en.val] U fun e w' => ∃ bo cp, e = .returned (EnM.val ⟨x.en.e, bo, cp⟩) ∧ Hid (EnKeep w' ⟨x.en.e, bo, cp⟩) ∧ ScL W3 w') := fun U hU => by
    refine (keptAc U x.en (HX3.out.below hU.out) HSZ.out.1 HSZ.out.2).mono ?_
    rintro e w' ⟨bo, cp, rfl, hk, hb⟩
    exact ⟨bo, cp, rfl, hk, hU.go hb⟩
  have HPUT : Hid (∀ U bo cp, Hid (EnKeep U ⟨x.en.e, bo, cp⟩) → ScL W3 U → ∃ w6, (Instr.mapUpdate 46 (.map (some m)) (.int .i64 x.slot) (VoM.val ⟨x.slot, x.bal, ⟨x.en.e, bo, cp⟩⟩)).run Tryz.prog U = .ok () w6 ∧ Hid (AcAt w6 p m (voteA a x.slot (x.bal, x.en.e)) ∧ Turns (FootA p m) w w6) ∧ Turns (fun i => i = m) W3 w6) := fun U bo cp hk hU => by
    obtain ⟨w6, h1, ⟨D6, h2⟩, h3⟩ := (HEM3.out.below hU.out).put (x := ⟨x.slot, x.bal, ⟨x.en.e, bo, cp⟩⟩) (by have := HFW.out; unfold maxLen; omega) HSI.out hk.out
    have hT6 : Turns (fun i => i = m) W3 w6 := (Turns.of_below (F := fun i => i = m) hU.out (Nat.le_refl _)).trans h3 (fun i hi => .inl hi)
    refine ⟨w6, h1, ⟨⟨HOK.out, hT6.blk HP3.out HPN.out.2.2, updV S x.slot ⟨x.slot, x.bal, ⟨x.en.e, bo, cp⟩⟩, D6, ?_, fun t => ?_⟩, (HT03.out.mono (fun i hi => (.inl hi : FootA p m i))).trans hT6 (fun i hi => .inl (.inr hi))⟩, hT6⟩
    · rw [HLN.out]
      have e : (a.f x.slot).isSome = (S x.slot).isSome := by rw [← HSF.out x.slot]; simp
      rw [e]
      exact h2
    · show (updV S x.slot _ t).map VoM.vt = (if t = x.slot then some (x.bal, x.en.e) else a.f t)
      unfold updV
      by_cases e : t = x.slot
      · rw [if_pos e, if_pos e]; rfl
      · rw [if_neg e, if_neg e]; exact HSF.out t
  clear h hA hM hx hsep hr hc hrb hre hrs hT hEM hSf hnp
  obtain ⟨kd, fr, to, ⟨br, bn⟩, sl, ⟨⟨np, tk, ct, ep, cut⟩, ao1, cap1⟩, vo, vc, vs, so, sc, seen, eo, ec, evs, ti⟩ := x
  obtain ⟨XN, HXN⟩ : ∃ m, Hid (cut.length = m) := ⟨_, hid rfl⟩
  obtain ⟨VN, HVN⟩ : ∃ m, Hid (vs.length = m) := ⟨_, hid rfl⟩
  obtain ⟨SN, HSN⟩ : ∃ m, Hid (seen.length = m) := ⟨_, hid rfl⟩
  obtain ⟨EN, HEN⟩ : ∃ m, Hid (evs.length = m) := ⟨_, hid rfl⟩
  simp only [MsM.cells, EnM.val, VoM.val] at HM3 HKP HPUT
  rw [HXN.out] at HKP HPUT
  rw [HXN.out, HVN.out, HSN.out, HEN.out] at HM3
  simp only at hW3
  have HTS : Hid (∀ U, ScL W3 U → Turns (fun i => i = m) W3 U) := fun U hU => Turns.of_below hU.out (Nat.le_refl _)
  have HT0 : Hid (Turns (fun i => i = m) W3 W3) := Turns.refl _ _
  have HSA : Hid (∀ U, Turns (fun i => i = m) W3 U → (Turns (fun i => i = m) W3 U ∧ U.cell? ⟨ba, 0, none⟩ = some (.pointer (some ⟨p, 0, none⟩)) ∧ U.cell? ⟨p, 3, none⟩ = some (.map (some m)) ∧ U.cell? ⟨bm, 3, none⟩ = some (.int .i64 br) ∧ U.cell? ⟨bm, 4, none⟩ = some (.int .i64 bn) ∧ U.cell? ⟨bm, 5, none⟩ = some (.int .i64 sl) ∧ U.cell? ⟨bm, 6, none⟩ = some (.bool np) ∧ U.cell? ⟨bm, 7, none⟩ = some (.string tk) ∧ U.cell? ⟨bm, 8, none⟩ = some (.string ct) ∧ U.cell? ⟨bm, 9, none⟩ = some (.int .i64 ep) ∧ U.cell? ⟨bm, 10, none⟩ = some (.slice ao1 XN cap1))) := fun U hU => by
    have h1 := hU.blk HA3.out HPN.out.1
    have h2 := hU.blk HM3.out HPN.out.2.1
    have h3 := hU.blk HP3.out HPN.out.2.2
    exact ⟨hU, h1.cell rfl, h3.cell rfl, h2.cell rfl, h2.cell rfl, h2.cell rfl, h2.cell rfl, h2.cell rfl, h2.cell rfl, h2.cell rfl, h2.cell rfl⟩
  go_enter Tryz.func47, Tryz.ntmps47
  go_wp2
  rw [← hW3]
  clear c1 c2 f1 f2 d0 d3 d4 hW3
  go_region_held3 (fun U => Turns (fun i => i = m) W3 U ∧ U.cell? ⟨ba, 0, none⟩ = some (.pointer (some ⟨p, 0, none⟩)) ∧ U.cell? ⟨p, 3, none⟩ = some (.map (some m)) ∧ U.cell? ⟨bm, 3, none⟩ = some (.int .i64 br) ∧ U.cell? ⟨bm, 4, none⟩ = some (.int .i64 bn) ∧ U.cell? ⟨bm, 5, none⟩ = some (.int .i64 sl) ∧ U.cell? ⟨bm, 6, none⟩ = some (.bool np) ∧ U.cell? ⟨bm, 7, none⟩ = some (.string tk) ∧ U.cell? ⟨bm, 8, none⟩ = some (.string ct) ∧ U.cell? ⟨bm, 9, none⟩ = some (.int .i64 ep) ∧ U.cell? ⟨bm, 10, none⟩ = some (.slice ao1 XN cap1))
    (first | (refine ⟨?_, ?_, ?_, ?_, ?_, ?_, ?_, ?_, ?_, ?_, ?_⟩ <;> assumption) | (refine HSA.out _ ?_; (repeat (first | assumption | exact HT0.out | apply Turns.drew)); done))
    (first
      | (go_at_call 48; with_reducible refine (HKP.out _ (by (repeat (first | assumption | exact ScL.start _ | apply ScL.dr)))).mono ?_; rintro e w5 ⟨bo, cp, rfl, HKY, hs5⟩; have hT5 := HTS.out _ hs5; obtain ⟨w6, hrun, HF6, hT6⟩ := HPUT.out w5 bo cp HKY hs5))
  all_goals
    clear hrun
    go_wp2
    (try simp only [Exit.inBlock, Exit.then])
    refine bodyPost_end (results_none rfl _ _ _) rfl ?_
    exact ⟨rfl, HF6.out⟩
/-- The table of kinds. -/
structure KindsAt (w : World) (k : Nat) : Prop where
  own : ∃ n D, w.ownsMap Tryz.prog 3 valR k n D ∧ ∀ s, I64 s → look D (.int .i64 s) = if s = 1 then some (.func (.func 25) #[] #[]) else if s = 3 then some (.func (.func 26) #[] #[]) else none
theorem KindsAt.below {w w' : World} {k : Nat} (h : KindsAt w k) (hb : Below w.heap.size w w') : KindsAt w' k := by
  obtain ⟨n, D, h1, h2⟩ := h.own
  exact ⟨n, D, (Turns.of_below (F := fun _ => False) hb (Nat.le_refl _)).map h1 (fun h => h), h2⟩
theorem Tryz.zeroFnV (w : World) : (zeroValue 61).run Tryz.prog w = .ok .nilFunc w := by kernel_rfl
set_option maxRecDepth 100000 in
theorem kindsA (w : World) : Calls Tryz.prog 17 #[] w fun e w' => e = .returned (.map (some w.heap.size)) ∧ KindsAt w' w.heap.size ∧ Below w.heap.size w w' := by
  have hmm := @run_makeMap Tryz.prog
  obtain ⟨w1, hw1⟩ : ∃ W, W = w.alloc (.map #[] 0) := ⟨_, rfl⟩
  have hb1 : Below w.heap.size w w1 := by rw [hw1]; exact (Below.refl _ _).alloc (Nat.le_refl _) _
  have h1 : w1.ownsMap Tryz.prog 3 valR w.heap.size 0 (.map []) := by rw [hw1]; exact World.ownsMap_made w _ _ _
  obtain ⟨w2, hrun2, hown2, ht2⟩ := h1.store (val := .func (.func 25) #[] #[]) Tryz.keyedIntL Tryz.underlying63 (by decide) (Tryz.keyIntL (x := 1) (by unfold I64; omega)) rfl
  obtain ⟨w3, hrun3, hown3, ht3⟩ := hown2.store (val := .func (.func 26) #[] #[]) Tryz.keyedIntL Tryz.underlying63 (by decide) (Tryz.keyIntL (x := 3) (by unfold I64; omega)) rfl
  have HB3 : Hid (Below w.heap.size w w3) := (hb1.grown ht2.grown hb1.size (fun k hk => by cases hk; exact Nat.le_refl _)).trans ((Turns.of_grown (F := fun i => i = w.heap.size) ht3.grown (fun k hk => by cases hk; rfl)).below (fun i hi => by rw [hi]; exact Nat.le_refl _) (hb1.grown ht2.grown hb1.size (fun k hk => by cases hk; exact Nat.le_refl _)).size)
  have HK : Hid (KindsAt w3 w.heap.size) := ⟨_, _, hown3, fun s hs => by
    by_cases e3 : s = 3
    · subst e3
      rw [look_put_same hown2.isMap (Tryz.keyedIntL.key (Tryz.keyIntL hs)), if_neg (by decide), if_pos rfl]
    · rw [look_put_other (keyIntL_ne e3)]
      by_cases e1 : s = 1
      · subst e1
        rw [look_put_same h1.isMap (Tryz.keyedIntL.key (Tryz.keyIntL hs)), if_pos rfl]
      · rw [look_put_other (keyIntL_ne e1), if_neg e1, if_neg e3]
        exact look_empty _⟩
  clear h1 hown2 hown3 ht2 ht3 hb1
  rw [hw1] at hrun2
  go_enter Tryz.func17, Tryz.ntmps17
  go_wp2
  go_ret
  exact ⟨rfl, HK.out, HB3.out⟩
end Go.Proofs.YthcpopigkbefhaaGreat
