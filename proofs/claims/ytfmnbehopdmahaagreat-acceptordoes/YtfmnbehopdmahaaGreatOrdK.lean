/-
  pannierref16.vote where the slot has a vote.
-/
import Derived.Test.YtfmnbehopdmahaaGreatAvC
import Derived.Test.YtfmnbehopdmahaaGreatAcE
import Derived.Deep.QuietTactic
import Derived.BigQuiet
import Derived.BigRegion
import Derived.Test.YtfmnbehopdmahaaGreatBase
import Derived.Deep.RegionHeld3
namespace Go.Proofs.YtfmnbehopdmahaaGreat
open Go.RowKit Go.Maps

theorem VotR.drew {B : Nat} {w w' : World} {x : Nat} {nd : Int} {pr : Int × Int} {eo : Option Addr} {ys : List VoM} (h : VotR B w x nd pr eo ys w') : VotR B w x nd pr eo ys w'.drew := by
  obtain ⟨eo', cap', h1, h2, h3⟩ := h
  exact ⟨eo', cap', h1.below (Below.refl _ _).drew, h2.drew, h3⟩
set_option maxRecDepth 1000000 in
set_option maxHeartbeats 4000000 in
theorem RaAt.vote_has {w : World} {B x : Nat} {nd : Int} {pr : Int × Int} {xs : List VoM} {eo : Option Addr} {cap : Nat} (h : RaAt w B x nd pr xs eo cap) (v : VoM) (hv : VoOk w v) (hl : ∀ b off, v.en.ao = some ⟨b, off, none⟩ → v.en.e.cut ≠ [] → b < B) {k : Nat} (hk : k < xs.length) (hf : findV xs v.slot 0 = (k : Int)) :
    Calls Tryz.prog 24 #[.pointer (some ⟨x, 0, none⟩), v.val] w fun e w' => e = .returned (.bool (!(decide ((xs.getD k default).bal = v.bal) && decide ((xs.getD k default).en.e = v.en.e)))) ∧ VotR B w x nd pr eo (xs.set k v) w' := by
  obtain ⟨W, hW⟩ : ∃ W, W = w.alloc (.cells v.cells.toArray 73) := ⟨_, rfl⟩
  have HB : Hid (Below w.heap.size w W) := by rw [hW]; exact (Below.refl _ _).alloc (Nat.le_refl _) _
  have HK : Hid (Blk W w.heap.size 73 v.cells) := by rw [hW]; exact Blk.new w _ _
  have H := hid (h.below HB.out)
  have HV := hid (hv.below HB.out)
  obtain ⟨n, HN⟩ : ∃ n, Hid (xs.length = n) := ⟨_, hid rfl⟩
  have HNF : Hid (n ≤ 4096) := by rw [← HN.out]; exact h.few
  have HKX := hid hk
  have HL := hid hl
  obtain ⟨g, heo⟩ : ∃ g, eo = some ⟨g, 0, none⟩ := by
    cases eo with
    | none => have := ra_none h; omega
    | some a => obtain ⟨g, e, _⟩ := ra_addr h; exact ⟨g, by rw [e]⟩
  subst heo
  have HFIND := hid (H.out.find v.slot)
  rw [hf] at HFIND
  have HYO : Hid (VoOk W (xs.getD k default)) := by rw [vo_getD hk]; exact H.out.ok _ (List.getElem_mem hk)
  obtain ⟨pb, hpb⟩ : ∃ q, q = w.heap.size := ⟨_, rfl⟩
  rw [← hpb] at HK
  have HPB := hid hpb
  have HGN : Hid (g < w.heap.size ∧ x < w.heap.size) := by obtain ⟨g', e, _, h1⟩ := ra_addr h; cases e; exact ⟨h1, h.blk.lt⟩
  have HW := hid hW
  have HEND : Hid (∀ V W', ScL W V → W' = st8 V g (k * 8) v → VotR B w x nd pr (some ⟨g, 0, none⟩) (xs.set k v) W') := fun V W' hV hW' => by
    obtain ⟨eo', cap', h1, h2, h3⟩ := ra_set (H.out.below hV.out) HKX.out (HV.out.below hV.out) HL.out hW'
    have hb : Below w.heap.size w V := bt' HB.out hV.out
    exact ⟨eo', cap', h1, (Turns.of_below (F := FootR x (some ⟨g, 0, none⟩)) hb (Nat.le_refl _)).trans h2 (fun i hi => .inl hi), fun a ha => (h3 a ha).imp id (fun h4 => Nat.le_trans hb.size h4)⟩
  have HCX : Hid (∀ V, ScL W V → V.cell? ⟨x, 3, none⟩ = some (.slice (some ⟨g, 0, none⟩) n cap)) := fun V hV => by
    have := (H.out.below hV.out).blk.cell (i := 3) rfl
    rw [HN.out] at this
    exact this
  have HFR : Hid (∀ V, ScL W V → ∀ j, V.frozen? ⟨g, j, none⟩ = false) := fun V hV j => row_frozenV (H.out.below hV.out).row j
  obtain ⟨b0, off0, hao, _, d0, d1, d2, d3, d4, d5, d6, d7⟩ := H.out.held.cellsD hk
  cases hao
  simp only [Nat.zero_add] at d0 d1 d2 d3 d4 d5 d6 d7
  generalize xs.getD k default = Y at d0 d1 d2 d3 d4 d5 d6 d7 HYO ⊢
  obtain ⟨zs, ⟨zr, zb⟩, ⟨⟨zn, zt, zct, zep, zd⟩, zo, zc⟩⟩ := Y
  obtain ⟨ZN, HZN⟩ : ∃ m, Hid (zd.length = m) := ⟨_, hid rfl⟩
  obtain ⟨sl, ⟨br, bn⟩, ⟨⟨np, tk, ct, ep, dp⟩, yo, yc⟩⟩ := v
  obtain ⟨XN, HXN⟩ : ∃ m, Hid (dp.length = m) := ⟨_, hid rfl⟩
  have HSE : Hid (∀ V, ScL W V → Calls Tryz.prog 43 #[(EnM.mk ⟨zn, zt, zct, zep, zd⟩ zo zc).val, (EnM.mk ⟨np, tk, ct, ep, dp⟩ yo yc).val] V fun e w' => e = .returned (.bool (decide ((⟨zn, zt, zct, zep, zd⟩ : En) = ⟨np, tk, ct, ep, dp⟩))) ∧ ScL W w') := fun V hV => (sameEntry_R V ⟨⟨zn, zt, zct, zep, zd⟩, zo, zc⟩ ⟨⟨np, tk, ct, ep, dp⟩, yo, yc⟩ (HYO.out.en.below hV.out) (HV.out.en.below hV.out)).mono (fun e w' (hh : _ ∧ _) => And.intro hh.1 (hV.go hh.2))
  simp only [EnM.val] at HSE
  rw [HZN.out, HXN.out] at HSE
  simp only [VoM.val, VoM.cells] at HW HK HEND HFIND d0 d1 d2 d3 d4 d5 d6 d7 ⊢
  rw [HXN.out] at HW HK ⊢
  rw [HZN.out] at d7
  have HCB : Hid (∀ V, ScL W V → V.cell? ⟨pb, 0, none⟩ = some (.int .i64 sl) ∧ V.cell? ⟨pb, 1, none⟩ = some (.int .i64 br) ∧ V.cell? ⟨pb, 2, none⟩ = some (.int .i64 bn) ∧ V.cell? ⟨pb, 3, none⟩ = some (.bool np) ∧ V.cell? ⟨pb, 4, none⟩ = some (.string tk) ∧ V.cell? ⟨pb, 5, none⟩ = some (.string ct) ∧ V.cell? ⟨pb, 6, none⟩ = some (.int .i64 ep) ∧ V.cell? ⟨pb, 7, none⟩ = some (.slice yo XN yc)) := fun V hV => by
    have h1 := HK.out.below hV.out HK.out.lt
    exact ⟨h1.cell rfl, h1.cell rfl, h1.cell rfl, h1.cell rfl, h1.cell rfl, h1.cell rfl, h1.cell rfl, h1.cell rfl⟩
  have HST : Hid (∀ V, ScL W V → VotR B w x nd pr (some ⟨g, 0, none⟩) (xs.set k ⟨sl, (br, bn), ⟨⟨np, tk, ct, ep, dp⟩, yo, yc⟩⟩) ((((((((V.setCell ⟨g, k * 8, none⟩ (.int .i64 sl)).setCell ⟨g, k * 8 + 1, none⟩ (.int .i64 br)).setCell ⟨g, k * 8 + 2, none⟩ (.int .i64 bn)).setCell ⟨g, k * 8 + 3, none⟩ (.bool np)).setCell ⟨g, k * 8 + 4, none⟩ (.string tk)).setCell ⟨g, k * 8 + 5, none⟩ (.string ct)).setCell ⟨g, k * 8 + 6, none⟩ (.int .i64 ep)).setCell ⟨g, k * 8 + 7, none⟩ (.slice yo XN yc))) := fun V hV => HEND.out V _ hV (by unfold st8; simp only; rw [HXN.out])
  have hkn : (k : Int) < (n : Int) := by have := HN.out; omega
  have hk0 : (0 : Int) ≤ (k : Int) := by omega
  have c3 := HCX.out W (ScL.start W)
  obtain ⟨a0, a1, a2, a3, a4, a5, a6, a7⟩ := HCB.out W (ScL.start W)
  obtain ⟨R, HR⟩ : ∃ R, Hid ((!(decide ((zr, zb) = (br, bn)) && decide ((⟨zn, zt, zct, zep, zd⟩ : En) = ⟨np, tk, ct, ep, dp⟩))) = R) := ⟨_, hid rfl⟩
  rw [HR.out]
  clear h hv hl hk hf hW hpb HEND HV HYO
  go_enter Tryz.func24, Tryz.ntmps24
  go_wp2_with fail
  rw [← HW.out, ← HPB.out]
  refine HFIND.out.mono ?_
  rintro e w2 ⟨rfl, rfl⟩
  have h3 : (zr = br ∧ zb = bn) ∨ (zr = br ∧ ¬ zb = bn) ∨ ¬ zr = br := by
    by_cases h1 : zr = br
    · by_cases h2 : zb = bn
      · exact .inl ⟨h1, h2⟩
      · exact .inr (.inl ⟨h1, h2⟩)
    · exact .inr (.inr h1)
  rcases h3 with ⟨rfl, rfl⟩ | ⟨rfl, h2⟩ | h1
  · have HF : Hid (R = !(decide ((⟨zn, zt, zct, zep, zd⟩ : En) = ⟨np, tk, ct, ep, dp⟩))) := by rw [← HR.out, decide_eq_true rfl, Bool.true_and]; exact hid rfl
    obtain ⟨Z, HZ⟩ : ∃ Z, Hid (decide ((⟨zn, zt, zct, zep, zd⟩ : En) = ⟨np, tk, ct, ep, dp⟩) = Z) := ⟨_, hid rfl⟩
    rw [HZ.out] at HF HSE
    have hq : ∀ V, (binOp .neq 35 (.agg #[.int .i64 zr, .int .i64 zb]) (.agg #[.int .i64 zr, .int .i64 zb])).run Tryz.prog V = .ok (.bool false) V := fun V => by
      rw [neqBalB, decide_eq_false (by intro e; exact e rfl)]
    have HSA : Hid (∀ V, ScL w2 V → (ScL w2 V ∧ V.cell? ⟨x, 3, none⟩ = some (.slice (some ⟨g, 0, none⟩) n cap) ∧ V.cell? ⟨g, k * 8 + 1, none⟩ = some (.int .i64 zr) ∧ V.cell? ⟨g, k * 8 + 2, none⟩ = some (.int .i64 zb) ∧ V.cell? ⟨g, k * 8 + 3, none⟩ = some (.bool zn) ∧ V.cell? ⟨g, k * 8 + 4, none⟩ = some (.string zt) ∧ V.cell? ⟨g, k * 8 + 5, none⟩ = some (.string zct) ∧ V.cell? ⟨g, k * 8 + 6, none⟩ = some (.int .i64 zep) ∧ V.cell? ⟨g, k * 8 + 7, none⟩ = some (.slice zo ZN zc) ∧ V.cell? ⟨pb, 1, none⟩ = some (.int .i64 zr) ∧ V.cell? ⟨pb, 2, none⟩ = some (.int .i64 zb) ∧ V.cell? ⟨pb, 3, none⟩ = some (.bool np) ∧ V.cell? ⟨pb, 4, none⟩ = some (.string tk) ∧ V.cell? ⟨pb, 5, none⟩ = some (.string ct) ∧ V.cell? ⟨pb, 6, none⟩ = some (.int .i64 ep) ∧ V.cell? ⟨pb, 7, none⟩ = some (.slice yo XN yc))) := fun V hV => by
      obtain ⟨e0, e1, e2, e3, e4, e5, e6, e7⟩ := HCB.out V hV
      have hc : ∀ i u, i < 8 → w2.cell? ⟨g, k * 8 + i, none⟩ = some u → V.cell? ⟨g, k * 8 + i, none⟩ = some u := fun i u _ h1 => (hV.out.cell (p := ⟨g, k * 8 + i, none⟩) (Nat.lt_of_lt_of_le HGN.out.1 HB.out.size)).trans h1
      exact ⟨hV, HCX.out V hV, hc 1 _ (by decide) d1, hc 2 _ (by decide) d2, hc 3 _ (by decide) d3, hc 4 _ (by decide) d4, hc 5 _ (by decide) d5, hc 6 _ (by decide) d6, hc 7 _ (by decide) d7, e1, e2, e3, e4, e5, e6, e7⟩
    go_wp2
    go_region_held3 (fun V => ScL w2 V ∧ V.cell? ⟨x, 3, none⟩ = some (.slice (some ⟨g, 0, none⟩) n cap) ∧ V.cell? ⟨g, k * 8 + 1, none⟩ = some (.int .i64 zr) ∧ V.cell? ⟨g, k * 8 + 2, none⟩ = some (.int .i64 zb) ∧ V.cell? ⟨g, k * 8 + 3, none⟩ = some (.bool zn) ∧ V.cell? ⟨g, k * 8 + 4, none⟩ = some (.string zt) ∧ V.cell? ⟨g, k * 8 + 5, none⟩ = some (.string zct) ∧ V.cell? ⟨g, k * 8 + 6, none⟩ = some (.int .i64 zep) ∧ V.cell? ⟨g, k * 8 + 7, none⟩ = some (.slice zo ZN zc) ∧ V.cell? ⟨pb, 1, none⟩ = some (.int .i64 zr) ∧ V.cell? ⟨pb, 2, none⟩ = some (.int .i64 zb) ∧ V.cell? ⟨pb, 3, none⟩ = some (.bool np) ∧ V.cell? ⟨pb, 4, none⟩ = some (.string tk) ∧ V.cell? ⟨pb, 5, none⟩ = some (.string ct) ∧ V.cell? ⟨pb, 6, none⟩ = some (.int .i64 ep) ∧ V.cell? ⟨pb, 7, none⟩ = some (.slice yo XN yc))
      ((refine HSA.out _ ?_; (repeat (first | with_reducible assumption | exact ScL.start _ | apply ScL.dr | apply ScL.alloc))))
      (first
        | (go_at_call 43; with_reducible refine (HSE.out _ (by (repeat (first | with_reducible assumption | exact ScL.start _ | apply ScL.dr)))).mono ?_; rintro e w6 ⟨rfl, hs6⟩)
        | fail)
    all_goals
      obtain ⟨a0, a1, a2, a3, a4, a5, a6, a7⟩ := HCB.out _ hs6
      obtain ⟨_, c3, z1, z2, z3, z4, z5, z6, z7, _⟩ := HSA.out _ hs6
      have z0 := (hs6.out.cell (p := ⟨g, k * 8, none⟩) (Nat.lt_of_lt_of_le HGN.out.1 HB.out.size)).trans d0
      have f0 := HFR.out _ hs6 (k * 8)
      have f1 := HFR.out _ hs6 (k * 8 + 1)
      have f2 := HFR.out _ hs6 (k * 8 + 2)
      have f3 := HFR.out _ hs6 (k * 8 + 3)
      have f4 := HFR.out _ hs6 (k * 8 + 4)
      have f5 := HFR.out _ hs6 (k * 8 + 5)
      have f6 := HFR.out _ hs6 (k * 8 + 6)
      have f7 := HFR.out _ hs6 (k * 8 + 7)
      have HS6 := hid hs6
      clear hs6 HCX HFR HCB HSE HSA
      go_wp2
      go_region
      go_wp2
      go_ret
      exact ⟨by rw [HF.out]; first | done | rfl, (HST.out w6 HS6.out).drew⟩
  · have HF : Hid (R = true) := by rw [← HR.out, decide_eq_false (by intro e; cases e; exact h2 rfl)]; exact hid rfl
    have hq := neqBalB w2 zr zb zr bn
    rw [decide_eq_true (by intro e; cases e; exact h2 rfl)] at hq
    have f0 := HFR.out w2 (ScL.start _) (k * 8)
    have f1 := HFR.out w2 (ScL.start _) (k * 8 + 1)
    have f2 := HFR.out w2 (ScL.start _) (k * 8 + 2)
    have f3 := HFR.out w2 (ScL.start _) (k * 8 + 3)
    have f4 := HFR.out w2 (ScL.start _) (k * 8 + 4)
    have f5 := HFR.out w2 (ScL.start _) (k * 8 + 5)
    have f6 := HFR.out w2 (ScL.start _) (k * 8 + 6)
    have f7 := HFR.out w2 (ScL.start _) (k * 8 + 7)
    clear HCX HFR HCB HSE
    go_wp2
    go_quiet (fail)
    go_wp2
    go_region
    go_wp2
    go_ret
    exact ⟨by rw [HF.out]; first | done | rfl, HST.out _ ⟨below_dn (Below.refl _ _) _⟩⟩
  · have HF : Hid (R = true) := by rw [← HR.out, decide_eq_false (by intro e; cases e; exact h1 rfl)]; exact hid rfl
    have hq := neqBalB w2 zr zb br bn
    rw [decide_eq_true (by intro e; cases e; exact h1 rfl)] at hq
    have f0 := HFR.out w2 (ScL.start _) (k * 8)
    have f1 := HFR.out w2 (ScL.start _) (k * 8 + 1)
    have f2 := HFR.out w2 (ScL.start _) (k * 8 + 2)
    have f3 := HFR.out w2 (ScL.start _) (k * 8 + 3)
    have f4 := HFR.out w2 (ScL.start _) (k * 8 + 4)
    have f5 := HFR.out w2 (ScL.start _) (k * 8 + 5)
    have f6 := HFR.out w2 (ScL.start _) (k * 8 + 6)
    have f7 := HFR.out w2 (ScL.start _) (k * 8 + 7)
    clear HCX HFR HCB HSE
    go_wp2
    go_quiet (fail)
    go_wp2
    go_region
    go_wp2
    go_ret
    exact ⟨by rw [HF.out]; first | done | rfl, HST.out _ ⟨below_dn (Below.refl _ _) _⟩⟩
end Go.Proofs.YtfmnbehopdmahaaGreat
/-
  A region whose last operation stores into what it reads: all that the store waits for may be taken first, though the store does not keep it. No function of the program is named here.
-/
namespace Go.Proofs.YtfmnbehopdmahaaGreat

section
variable {P : Program} {ops : Array Oper} {Q : Exit → Act → World → Prop} {md : Region.Mode} {S : World → Prop} {z : Nat}

/-- Whatever order is picked: S holds behind every operation but number z. -/
def wpAnyK (P : Program) (md : Region.Mode) (ops : Array Oper) (Q : Exit → Act → World → Prop) (S : World → Prop) (z : Nat) : Nat → Array Bool → Act → World → Prop
  | 0, listed, a, w => Region.ready md ops listed = [] ∧ Q .normal a w
  | fuel + 1, listed, a, w =>
    (Region.ready md ops listed = [] → Q .normal a w) ∧
    ∀ i ∈ Region.ready md ops listed, wpOp P ops Q i (fun a' w' => (i = z ∨ S w') ∧ wpAnyK P md ops Q S z fuel (listed.setIfInBounds i true) a' w') a w
theorem wpAny_of_K : ∀ (fuel : Nat) (listed : Array Bool) (a : Act) (w : World), wpAnyK P md ops Q S z fuel listed a w → wpAny P md ops Q fuel listed a w
  | 0, _, _, _, h => h
  | fuel + 1, _, _, _, h => ⟨h.1, fun i hi => wpOp_mono (fun a' w' h' => wpAny_of_K fuel _ a' w' h'.2) (h.2 i hi)⟩
/-- What has come up: all that it waits for has come up, too. -/
def ClosedK (md : Region.Mode) (ops : Array Oper) (listed : Array Bool) : Prop := ∀ j o, ops[j]? = some o → listed.getD j true = true → ∀ e ∈ o.after, Region.binds md e = true → listed.getD e.on false = true
theorem closedK_step {listed : Array Bool} (h : ClosedK md ops listed) {j : Nat} (hj : j ∈ Region.ready md ops listed) : ClosedK md ops (listed.setIfInBounds j true) := by
  intro k o hk hl e he hb
  by_cases hjk : j = k
  · subst hjk
    obtain ⟨_, o', ho, hall⟩ := mem_ready.1 hj
    rw [hk] at ho
    cases ho
    exact getD_set_true (hall e he hb)
  · rw [getD_set_ne true hjk] at hl
    exact getD_set_true (h k o hk hl e he hb)
def closedKB (md : Region.Mode) (ops : Array Oper) (listed : Array Bool) : Bool := (List.range ops.size).all fun j => !listed.getD j true || match ops[j]? with
  | some o => o.after.all fun e => !Region.binds md e || listed.getD e.on false
  | none => true
theorem closedKB_spec {listed : Array Bool} (h : closedKB md ops listed = true) : ClosedK md ops listed := by
  intro j o hj hl e he hb
  unfold closedKB at h
  rw [List.all_eq_true] at h
  have h1 := h j (List.mem_range.2 (Array.getElem?_eq_some_iff.1 hj).1)
  rw [hl, hj] at h1
  simp only [Bool.not_true, Bool.false_or, Array.all_eq_true_iff_forall_mem, Bool.or_eq_true, Bool.not_eq_true'] at h1
  rcases h1 e he with h2 | h2
  · rw [hb] at h2; cases h2
  · exact h2
/-- Each waits for the next one. -/
def chainK (md : Region.Mode) (ops : Array Oper) : List Nat → Bool
  | x :: y :: r => (match ops[x]? with
    | some o => o.after.any fun e => Region.binds md e && e.on == y
    | none => false) && chainK md ops (y :: r)
  | _ => true
theorem chainK_one {listed : Array Bool} (hc : ClosedK md ops listed) (x i : Nat) (h : (match ops[x]? with
    | some o => o.after.any fun e => Region.binds md e && e.on == i
    | none => false) = true) (hi : listed.getD i true = false) : x ∉ Region.ready md ops listed ∧ listed.getD x true = false := by
  cases ho : ops[x]? with
  | none => rw [ho] at h; cases h
  | some o =>
    rw [ho] at h
    obtain ⟨e, he, hb⟩ := Array.any_eq_true'.1 h
    simp only [Bool.and_eq_true, beq_iff_eq] at hb
    have hne : ¬ listed.getD e.on false = true := fun hl => by
      rw [hb.2] at hl
      have : i < listed.size := by
        rcases Nat.lt_or_ge i listed.size with h' | h'
        · exact h'
        · simp [Array.getElem?_eq_none h'] at hl
      simp [this] at hi hl
      rw [hi] at hl
      cases hl
    refine ⟨fun hr => ?_, ?_⟩
    · obtain ⟨_, o', ho', hall⟩ := mem_ready.1 hr
      rw [ho] at ho'
      cases ho'
      exact hne (hall e he hb.1)
    · cases hl : listed.getD x true with
      | false => rfl
      | true => exact absurd (hc x o ho hl e he hb.1) hne
theorem chainK_unlisted {listed : Array Bool} (hc : ClosedK md ops listed) : ∀ (c : List Nat) (x i : Nat), chainK md ops (x :: (c ++ [i])) = true → listed.getD i true = false → x ∉ Region.ready md ops listed ∧ listed.getD x true = false
  | [], x, i, h, hi => by
    simp only [List.nil_append, chainK, Bool.and_true] at h
    exact chainK_one hc x i h hi
  | y :: c, x, i, h, hi => by
    have h' : (match ops[x]? with
      | some o => o.after.any fun e => Region.binds md e && e.on == y
      | none => false) = true ∧ chainK md ops (y :: (c ++ [i])) = true := by
      have : chainK md ops (x :: (y :: (c ++ [i]))) = true := h
      unfold chainK at this
      simpa only [Bool.and_eq_true] using this
    obtain ⟨h1, h2⟩ := h'
    exact chainK_one hc x y h1 (chainK_unlisted hc c y i h2 hi).2
theorem wpAnyK_first {i : Nat} {oi : Oper} {v : Value} (hi : ops[i]? = some oi) (hsel : ∀ (j : Nat) (o : Oper) cs b, ops[j]? = some o → o.op ≠ .select cs b)
    (hQ : ∀ c a w, Q (.panic c) (a.put oi.dst v) w → Q (.panic c) a w) (c : List Nat) (hch : chainK md ops (z :: (c ++ [i])) = true) :
    ∀ (fuel : Nat) (listed : Array Bool) (a : Act) (w : World), ClosedK md ops listed →
      (∀ j oj, ops[j]? = some oj → j ≠ i → listed.getD j true = false → (∀ e ∈ oj.after, Region.binds md e = true → e.on ≠ i) → oi.apart ops oj = true) →
      i ∈ Region.ready md ops listed → YieldsIf P ops S oi v a → S w →
      wpAnyK P md ops Q S z fuel (listed.setIfInBounds i true) (a.put oi.dst v) w → wpAnyK P md ops Q S z (fuel + 1) listed a w := by
  intro fuel
  induction fuel with
  | zero =>
    intro listed a w _ _ hr hy hS H
    refine ⟨fun h => (by rw [h] at hr; cases hr), fun j hj => ?_⟩
    by_cases hji : j = i
    · subst hji; exact hy.wpOp hi hS ⟨.inr hS, H⟩
    · have := ready_mono hj hji
      rw [H.1] at this
      cases this
  | succ fuel ih =>
    intro listed a w hcl hfree hr hy hS H
    refine ⟨fun h => (by rw [h] at hr; cases hr), fun j hj => ?_⟩
    by_cases hji : j = i
    · subst hji; exact hy.wpOp hi hS ⟨.inr hS, H⟩
    · have h1 := H.2 j (ready_mono hj hji)
      have hjz : j ≠ z := fun e => (chainK_unlisted hcl c z i hch (mem_ready.1 hr).1).1 (e ▸ hj)
      obtain ⟨hjun, oj, hoj, hall⟩ := mem_ready.1 hj
      have hnot : ∀ e ∈ oj.after, Region.binds md e = true → e.on ≠ i := fun e he hb heq => by
        have h1 := hall e he hb
        have h0 := (mem_ready.1 hr).1
        rw [heq] at h1
        rcases Nat.lt_or_ge i listed.size with h' | h'
        · simp [h'] at h0 h1; rw [h0] at h1; cases h1
        · simp [Array.getElem?_eq_none h'] at h1
      have h2 := wpOp_putIf hoj (hfree j oj hoj hji hjun hnot) (fun cs b => hsel i oi cs b hi) (fun cs b => hsel j oj cs b hoj) hQ hy h1
      have hfree' : ∀ k ok, ops[k]? = some ok → k ≠ i → (listed.setIfInBounds j true).getD k true = false →
          (∀ e ∈ ok.after, Region.binds md e = true → e.on ≠ i) → oi.apart ops ok = true := fun k ok hk hki hun hno => by
        refine hfree k ok hk hki ?_ hno
        by_cases hjk : j = k
        · subst hjk; exact hjun
        · rw [getD_set_ne true hjk] at hun; exact hun
      refine wpOp_mono (fun a' w' h3 => ?_) h2
      have hSw : S w' := h3.2.1.resolve_left hjz
      refine ⟨.inr hSw, ih (listed.setIfInBounds j true) a' w' (closedK_step hcl hj) hfree' (ready_mono hr (Ne.symm hji)) h3.1 hSw ?_⟩
      rw [Array.setIfInBounds_comm _ _ hji]
      exact h3.2.2
theorem wpAnyK_take {i : Nat} {oi : Oper} {v : Value} {fuel : Nat} {listed : Array Bool} {a : Act} {w : World} (c : List Nat) (hi : ops[i]? = some oi)
    (hs : Region.noSelect ops = true) (hf : Region.free md ops listed i = true) (hr : (Region.ready md ops listed).contains i = true) (hcl : closedKB md ops listed = true) (hch : chainK md ops (z :: (c ++ [i])) = true)
    (hQ : ∀ c a w, Q (.panic c) (a.put oi.dst v) w → Q (.panic c) a w) (hy : YieldsIf P ops S oi v a) (hS : S w)
    (h : wpAnyK P md ops Q S z fuel (listed.setIfInBounds i true) (a.put oi.dst v) w) : wpAnyK P md ops Q S z (fuel + 1) listed a w :=
  wpAnyK_first hi (Region.noSelect_spec hs) hQ c hch fuel listed a w (closedKB_spec hcl) (Region.free_spec hi hf) (by simpa using hr) hy hS h
theorem wpAnyK_done {listed : Array Bool} {a : Act} {w : World} (hr : Region.ready md ops listed = []) (h : Q .normal a w) : ∀ fuel, wpAnyK P md ops Q S z fuel listed a w
  | 0 => ⟨hr, h⟩
  | _ + 1 => ⟨fun _ => h, by rw [hr]; simp⟩
def AllReadyK (P : Program) (md : Region.Mode) (ops : Array Oper) (Q : Exit → Act → World → Prop) (S : World → Prop) (z fuel : Nat) (listed : Array Bool) (a : Act) (w : World) (rs : List Nat) : Prop :=
  ∀ i ∈ rs, wpOp P ops Q i (fun a' w' => (i = z ∨ S w') ∧ wpAnyK P md ops Q S z fuel (listed.setIfInBounds i true) a' w') a w
theorem AllReadyK.nil {fuel : Nat} {listed : Array Bool} {a : Act} {w : World} : AllReadyK P md ops Q S z fuel listed a w [] := fun _ h => by cases h
theorem AllReadyK.cons {fuel : Nat} {listed : Array Bool} {a : Act} {w : World} {i : Nat} {o : Oper} {rs : List Nat} (ho : ops[i]? = some o)
    (h : ∀ K' : Act → World → Prop, Shut (∀ a w, (i = z ∨ S w) → (S w ∨ i = z → wpAnyK P md ops Q S z fuel (listed.setIfInBounds i true) a w) → K' a w) → if Region.wanted o (yielded ops a.tmps) = true then Oper.wp P o a w K' Q else K' (a.put o.dst undef) w)
    (hs : AllReadyK P md ops Q S z fuel listed a w rs) : AllReadyK P md ops Q S z fuel listed a w (i :: rs) := fun j hj => by
  rcases List.mem_cons.1 hj with rfl | hj
  · exact wpOp_step ho (fun K' hK => h K' (fun a w hS hW => hK a w ⟨hS, hW hS.symm⟩))
  · exact hs j hj
theorem wpAnyK_ready {rs : List Nat} {fuel : Nat} {listed : Array Bool} {a : Act} {w : World} (hr : Region.ready md ops listed = rs) (hne : rs ≠ [])
    (h : AllReadyK P md ops Q S z fuel listed a w rs) : wpAnyK P md ops Q S z (fuel + 1) listed a w := ⟨fun h0 => absurd (hr ▸ h0) hne, hr ▸ h⟩
theorem wp_region_K {id : Nat} {a : Act} {w : World} (z : Nat) (S : World → Prop) (hm : P.follows .mixedOrders = true) (hS : S w.drew)
    (h : S w.drew → wpAnyK P .any ops Q S z ops.size (Array.replicate ops.size false) a w.drew) : (Code.region id ops true).wp P Q a w :=
  wp_region_any hm (wpAny_of_K _ _ _ _ (h hS))
end
end Go.Proofs.YtfmnbehopdmahaaGreat
