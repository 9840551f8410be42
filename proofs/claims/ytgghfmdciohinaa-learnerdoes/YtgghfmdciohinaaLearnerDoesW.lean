/-
  pannierlaw18.LearnerDoes answers true for whatever slots.
-/
import Derived.Test.YtgghfmdciohinaaLdJ
namespace Go.Proofs.Ytgghfmdciohinaa
open Go.RowKit Go.Maps

theorem EnOk.cutLtD {w : World} {x : EnM} (h : EnOk w x) : ∀ b off, x.ao = some ⟨b, off, none⟩ → x.e.cut ≠ [] → b < w.heap.size := fun b off e hne => by
  rcases h.cut.held.2 with h0 | ⟨b', off', e', h1, _⟩
  · exact absurd h0 hne
  · rw [e] at e'
    cases e'
    exact h1
/-- Both learners, side by side. -/
structure DoS (w V : World) (x p m : Nat) (g : Lr) (xs : List StM) (eo : Option Addr) (cap : Nat) : Prop where
  lr : ∃ pre z, LrAt V p m pre z g
  rl : RlIn w.heap.size V x g xs eo cap
  foot : ∀ i, FootR p m i → w.heap.size ≤ i
  bel : Below w.heap.size w V
theorem DoS.below {w V V' : World} {x p m : Nat} {g : Lr} {xs : List StM} {eo : Option Addr} {cap : Nat} (h : DoS w V x p m g xs eo cap) (hb : Below V.heap.size V V') : DoS w V' x p m g xs eo cap := by
  obtain ⟨pre, z, h1⟩ := h.lr
  exact ⟨⟨pre, z, h1.below hb⟩, h.rl.below hb, h.foot, bt' h.bel hb⟩
theorem blk_typeD {w : World} {b : Nat} {t t' : TypeId} {cs cs' : List Value} (h : Blk w b t cs) (k : Blk w b t' cs') : t = t' := by
  have h1 : w.heap[b]? = _ := h
  have h2 : w.heap[b]? = _ := k
  rw [h1] at h2
  cases h2
  rfl
theorem foot_off {V : World} {B x p m pre z : Nat} {g g' : Lr} {xs : List StM} {eo : Option Addr} {cap : Nat} (h : LrAt V p m pre z g) (k : RlIn B V x g' xs eo cap) : ∀ i, FootR p m i → i ≠ x ∧ ∀ b, (Value.slice eo xs.length cap).ownBlock = some b → b ≠ i := by
  obtain ⟨S, D, hem, _⟩ := h.map
  rintro i (rfl | rfl)
  · refine ⟨fun e => ?_, fun b hb e => ?_⟩
    · subst e
      exact absurd (blk_typeD h.blk k.rl.blk) (by decide)
    · subst e
      exact h.blk.not_row (by decide) k.rl.row hb.symm
  · refine ⟨fun e => k.rl.blk.not_map hem.map e.symm, fun b hb e => ?_⟩
    subst e
    exact row_not_map k.rl.row hem.map hb.symm
/-- The program's Choose: what it leaves of the document's learner. -/
theorem rl_keep {V V' : World} {B x p m pre z : Nat} {g g' : Lr} {xs : List StM} {eo : Option Addr} {cap : Nat} (h : LrAt V p m pre z g) (k : RlIn B V x g' xs eo cap) (hf : ∀ i, FootR p m i → B ≤ i) (ht : Turns (FootR p m) V V') : RlIn B V' x g' xs eo cap :=
  k.turned ht hf (fun hx => (foot_off h k x hx).1 rfl) (fun b hb hx => (foot_off h k b hx).2 b hb rfl)
theorem far_new {w : World} {p m pre z : Nat} {g : Lr} (h : LrAt w p m pre z g) {F : Nat → Prop} (hF : ∀ i, F i → w.heap.size ≤ i) : FarL w m g F := by
  obtain ⟨S, D, h1, h2⟩ := h.map
  refine ⟨S, D, h1, h2, fun s x b off hs hao hne hf => ?_⟩
  obtain ⟨cs, hb⟩ := (h1.ok s x hs).num b off hao hne
  have := hb.lt
  have := hF b hf
  omega
theorem LrAt.turnedFar {w w' : World} {p m pre z : Nat} {g : Lr} {F : Nat → Prop} (h : LrAt w p m pre z g) (hf : FarL w m g F) (ht : Turns F w w') (hd : ∀ i, FootR p m i → ¬ F i) : LrAt w' p m pre z g := by
  obtain ⟨S, D, h1, h2, h3⟩ := hf
  refine ⟨⟨h.ok, ht.blk h.blk (hd p (.inl rfl)), h.all, h.fin, S, D, ⟨ht.map h1.map (hd m (.inr rfl)), h1.key, fun s x hs => ?_, h1.cnt⟩, h2⟩, h.gap⟩
  have hk := h1.ok s x hs
  refine ⟨enOk_turned hk.ok ht (fun b off e hne => h3 s x b off hs e hne), fun b off e hne => ?_⟩
  obtain ⟨cs, hb⟩ := hk.num b off e hne
  exact ⟨cs, ht.blk hb (h3 s x b off hs e hne)⟩
theorem FarL.turned {w w' : World} {m : Nat} {g : Lr} {F G : Nat → Prop} (hf : FarL w m g F) (ht : Turns G w w') (hm : ¬ G m) (hG : NoNum w G) : FarL w' m g F := by
  obtain ⟨S, D, h1, h2, h3⟩ := hf
  exact ⟨S, D, h1.turned ht hm hG, h2, h3⟩
/-- The block of the law's own copy of a cut. -/
def EbOf (bo : Option Addr) (n : Nat) (i : Nat) : Prop := 0 < n ∧ ∃ off, bo = some ⟨i, off, none⟩
/-- While the copy is written over. -/
structure Over (V : World) (bo : Option Addr) (XN : Nat) (wq : World) : Prop where
  tn : Turns (EbOf bo XN) V wq
  row : XN = 0 ∨ ∃ eb cs, bo = some ⟨eb, 0, none⟩ ∧ Blk wq eb 3 cs ∧ XN ≤ cs.length
theorem Over.start {W V : World} {bo : Option Addr} {cp n : Nat} {xs : List Value} {B : Nat} (h : W.ownsRow B 3 1 (.slice bo n cp) n xs) {F : Nat → Prop} (ht : Turns F W V) (hn : ∀ i, EbOf bo n i → ¬ F i) : Over V bo n V := by
  refine ⟨Turns.refl _ _, ?_⟩
  by_cases h00 : n = 0
  · exact .inl h00
  rcases h.2 with ⟨_, h0⟩ | ⟨g, cap, cur, he, _, hg, hnc, _, hsz, _⟩
  · exact .inl h0
  · cases he
    have hb : Blk W g 3 cur.toList := by
      show W.heap[g]? = _
      rw [hg]
    refine .inr ⟨g, cur.toList, rfl, ht.blk hb (hn g ⟨by omega, 0, rfl⟩), ?_⟩
    rw [Array.length_toList, hsz]
    omega
theorem Over.step {V wq : World} {bo : Option Addr} {n k eb : Nat} (h : Over V bo n wq) (hb : bo = some ⟨eb, 0, none⟩) (hk : k < n) (v : Value) : Over V bo n (wq.setCell ⟨eb, k, none⟩ v) := by
  refine ⟨h.tn.setCell (p := ⟨eb, k, none⟩) (.inl ⟨by omega, 0, hb⟩) v, ?_⟩
  rcases h.row with h0 | ⟨eb', cs, he, hbk, hl⟩
  · omega
  · rw [hb] at he
    cases he
    exact .inr ⟨eb, cs.set k v, hb, hbk.set k v, by rw [List.length_set]; exact hl⟩
theorem Over.cellAt {V wq : World} {bo : Option Addr} {n k : Nat} (h : Over V bo n wq) (hk : k < n) : ∃ eb u, bo = some ⟨eb, 0, none⟩ ∧ wq.cell? ⟨eb, k, none⟩ = some u ∧ wq.frozen? ⟨eb, k, none⟩ = false := by
  rcases h.row with h0 | ⟨eb, cs, he, hbk, hl⟩
  · omega
  · have hkl : k < cs.length := by omega
    exact ⟨eb, cs[k], he, hbk.cell (List.getElem?_eq_getElem hkl), hbk.frozen k⟩
/-- Between two rounds. -/
def DoR (w : World) (x : Nat) (u : Value) (wr : World) : Prop := ∃ p m g xs eo cap, u = .pointer (some ⟨p, 0, none⟩) ∧ DoS w wr x p m g xs eo cap
set_option maxRecDepth 1000000 in
set_option maxHeartbeats 4000000 in
theorem learnerDoes_walk (lo : Option Addr) (lc : Nat) (xs : List StM) (slot most : Int) (w : World) (hx : HeldSt w lo xs) (hlx : xs.length ≤ 1759218604441) (hs : -9223372036854775808 ≤ slot ∧ slot ≤ 9223372036854775807) (_ : -9223372036854775808 ≤ most ∧ most ≤ 9223372036854775807) :
    Calls Try.prog 3 #[.slice lo xs.length lc, .int .i64 slot, .int .i64 most] w fun e w' => e = .returned (.bool true) ∧ Below w.heap.size w w' := by
  have HX := hid hx
  have HSL : Hid (I64 slot) := hs
  obtain ⟨n, HN⟩ : ∃ n, Hid (xs.length = n) := ⟨_, hid rfl⟩
  rw [HN.out] at hlx ⊢
  have HLX := hid hlx
  have HNEW := hid (newLr w)
  clear hx hlx hs
  go_enter Try.func3, Try.ntmps3
  go_wp2_with fail
  refine HNEW.out.mono ?_
  rintro e w1 ⟨p0, m0, rfl, hat, hb1, hp, hm⟩
  obtain ⟨W2, hW2⟩ : ∃ V, V = w1.alloc (.cells #[.slice none 0 0] 27) := ⟨_, rfl⟩
  have hb2 : Below w1.heap.size w1 W2 := by rw [hW2]; exact (Below.refl _ _).alloc (Nat.le_refl _) _
  obtain ⟨x, hpx⟩ : ∃ q, q = w1.heap.size := ⟨_, rfl⟩
  have HPX := hid hpx
  have HW2 := hid hW2
  have HD2 : Hid (DoS w W2 x p0 m0 noLr [] none 0) := by
    refine ⟨⟨0, 0, hat.below hb2⟩, ⟨⟨?_, World.ownsRow_nil _ _ _ _, fun y hy => (by cases hy), by simp⟩, Twin.nil, fun y hy => (by cases hy), by rw [hpx]; exact hb1.size, noLr_ok⟩, ?_, bt' hb1 hb2⟩
    · rw [hW2, hpx]; exact Blk.new _ _ _
    · rintro i (rfl | rfl)
      · exact hp
      · exact hm
  have HLV := hid (livesLr W2)
  clear hat hb1 hb2 hW2 hpx HNEW hp hm
  go_wp2_with fail
  rw [← HW2.out, ← HPX.out]
  refine HLV.out.mono ?_
  rintro e w2 ⟨rfl, hb2⟩
  have HC1 : Hid (DoR w x (.pointer (some ⟨p0, 0, none⟩)) w2) := ⟨p0, m0, _, _, _, _, rfl, HD2.out.below hb2⟩
  clear hb2 HLV HD2
  go_wp2
  go_loopw [7, 9, 10, 11, 12] (fun u i _ _ _ wr => ∃ k : Nat, k ≤ n ∧ i = .int .i64 k ∧ (∃ p, u = .pointer (some ⟨p, 0, none⟩)) ∧ Hid (DoR w x u wr)) (fun _ i _ _ _ _ => n - (intOf i).toNat)
  case atStart => exact ⟨0, Nat.zero_le _, rfl, ⟨p0, rfl⟩, HC1.out⟩
  case round =>
    obtain ⟨k, hk, rfl, ⟨p, hu⟩, HR⟩ := hrel
    subst hu
    obtain ⟨p', m, g, ys, eo, cap, hpe, hdoes⟩ := HR.out
    have hpp : p' = p := by injection hpe with h1; injection h1 with h1; injection h1 with h1; exact h1.symm
    subst hpp
    have HD := hid hdoes
    clear hpe hdoes HR
    by_cases hlt : k < n
    · have hlt' : (k : Int) < (n : Int) := by omega
      have hkx : Hid (k < xs.length) := (by rw [HN.out]; exact hlt : k < xs.length)
      have HKM : Hid (k + 1 ≤ n) := (by omega : k + 1 ≤ n)
      have HKB : Hid (k ≤ 1759218604441) := by have := HLX.out; exact (by omega : k ≤ 1759218604441)
      have HOK := hid (HX.out.okD hkx.out)
      obtain ⟨bb, off, hao, hbb, d0, d1, d2, d3, d4, d5⟩ := HX.out.cellsD hkx.out
      subst hao
      obtain ⟨X, hX⟩ : ∃ X, X = xs.getD k default := ⟨_, rfl⟩
      rw [← hX] at d0 d1 d2 d3 d4 d5 HOK
      clear hX
      obtain ⟨sl, ⟨⟨np, tk, ct, ep, dp⟩, ao1, cap1⟩⟩ := X
      simp only at d0 d1 d2 d3 d4 d5
      obtain ⟨XN, HXN⟩ : ∃ m, Hid (dp.length = m) := ⟨_, hid rfl⟩
      rw [HXN.out] at d5
      have HBB := hid hbb
      have HAC : Hid (∀ V, Below w.heap.size w V → (V.cell? ⟨bb, off + k * 6, none⟩ = some (.int .i64 sl) ∧ V.cell? ⟨bb, off + k * 6 + 1, none⟩ = some (.bool np) ∧ V.cell? ⟨bb, off + k * 6 + 2, none⟩ = some (.string tk) ∧ V.cell? ⟨bb, off + k * 6 + 3, none⟩ = some (.string ct) ∧ V.cell? ⟨bb, off + k * 6 + 4, none⟩ = some (.int .i64 ep) ∧ V.cell? ⟨bb, off + k * 6 + 5, none⟩ = some (.slice ao1 XN cap1))) := fun V hV =>
        ⟨(hV.cell (p := ⟨bb, _, none⟩) hbb).trans d0, (hV.cell (p := ⟨bb, _, none⟩) hbb).trans d1, (hV.cell (p := ⟨bb, _, none⟩) hbb).trans d2, (hV.cell (p := ⟨bb, _, none⟩) hbb).trans d3, (hV.cell (p := ⟨bb, _, none⟩) hbb).trans d4, (hV.cell (p := ⟨bb, _, none⟩) hbb).trans d5⟩
      clear d0 d1 d2 d3 d4 d5 hbb
      obtain ⟨_, d1, d2, d3, d4, d5⟩ := HAC.out wr HD.out.bel
      have hwk : wrap64 ((k : Int) + 1) = (k : Int) + 1 := wrapS (by omega) (by have := HKB.out; omega)
      -- the box of the entry, with a copy of its cut
      obtain ⟨qe, hqe⟩ : ∃ q, q = wr.heap.size := ⟨_, rfl⟩
      obtain ⟨W1, hW1⟩ : ∃ V, V = wr.alloc (.cells #[.bool np, .string tk, .string ct, .int .i64 ep, .slice ao1 XN cap1] 33) := ⟨_, rfl⟩
      have hbW1 : Below wr.heap.size wr W1 := by rw [hW1]; exact (Below.refl _ _).alloc (Nat.le_refl _) _
      have HKE : Hid (Blk W1 qe 33 [.bool np, .string tk, .string ct, .int .i64 ep, .slice ao1 XN cap1]) := by rw [hW1, hqe]; exact Blk.new _ _ _
      have HBW1 := hid hbW1
      have HHI : Hid (HeldInt W1 ao1 dp) := (HOK.out.en.below (bt' HD.out.bel hbW1)).cut.held
      have HFW : Hid (dp.length ≤ 17592186044416) := HOK.out.en.cut.few
      have hbA : Below W1.heap.size W1 (W1.alloc (.cells #[] 3)) := (Below.refl _ _).alloc (Nat.le_refl _) _
      obtain ⟨_, _, _, _, _, g5⟩ := HAC.out (W1.alloc (.cells #[] 3)) (bt' (bt' HD.out.bel hbW1) hbA)
      clear hbA
      have HQE := hid hqe
      have HW1 := hid hW1
      have HSZ1 : Hid (wr.heap.size + 1 = W1.heap.size) := by show _ = _; rw [hW1]; simp
      rw [hW1] at g5
      have hk4 := HKE.out.cell (i := 4) rfl
      clear hbW1 hqe hW1 hk4
      go_wp2_with (at_builtin; rw [← HW1.out, HSZ1.out]; refine wpList_append_copy W1 rfl _ _ rfl rfl ao1 cap1 dp XN HXN.out rfl HHI.out HFW.out ?_; intro bo cp w2 hown2 hv2 hb2; have HO2 := hid hown2; have HV2 := hid hv2; have HB2 := hid hb2; have hke2 := HKE.out.below hb2 HKE.out.lt; rw [HQE.out] at hke2; have u4 := hke2.cell (i := 4) rfl; have f4 := hke2.frozen 4; have HK2 := hid hke2; clear hown2 hv2 hb2 hke2)
      obtain ⟨W3, hW3⟩ : ∃ V, V = w2.setCell ⟨qe, 4, none⟩ (.slice bo XN cp) := ⟨_, rfl⟩
      rw [← HQE.out] at HK2 u4 f4 ⊢
      rw [← hW3]
      have ht3 : Turns (fun i => i = qe) w2 W3 := by rw [hW3]; exact (Turns.refl (fun i => i = qe) w2).setCell (p := ⟨qe, 4, none⟩) (.inl rfl) _
      have HBX : Hid (Blk W3 qe 33 [.bool np, .string tk, .string ct, .int .i64 ep, .slice bo XN cp]) := by rw [hW3]; exact HK2.out.set 4 _
      have hbr3 : Below wr.heap.size wr W3 := (bt' HBW1.out HB2.out).trans (ht3.below (fun i hi => by rw [hi, HQE.out]; exact Nat.le_refl _) (bt' HBW1.out HB2.out).size)
      have HEB : Hid (∀ i, EbOf bo XN i → W1.heap.size ≤ i ∧ i < w2.heap.size) := fun i hi => by
        obtain ⟨_, off, he⟩ := hi
        have h1 := HO2.out.lt i (by rw [he]; rfl)
        exact h1
      have HQ1 : Hid (qe < W1.heap.size) := HKE.out.lt
      have HDB := hid (HD.out.below hbr3)
      have HBR3 := hid hbr3
      have HV3 : Hid (HV W3 bo cp dp) := ⟨HV2.out.held.turned ht3 (fun b off e hne hf => by have h1 := (HEB.out b ⟨by rw [← HXN.out]; exact List.length_pos_iff.2 hne, off, e⟩).1; have h2 := HQ1.out; omega), HV2.out.room, HV2.out.few⟩
      have HYK : Hid (EnOk W3 ⟨⟨np, tk, ct, ep, dp⟩, bo, cp⟩) := ⟨HV3.out, HOK.out.en.ie, HOK.out.en.ht, HOK.out.en.hc⟩
      have HT3 := hid ht3
      obtain ⟨pre0, z0, hlr0⟩ := HD.out.lr
      have HLR0 := hid hlr0
      have HLR3 := hid (hlr0.below hbr3)
      have HFAR : Hid (FarL W3 m g (EbOf bo XN)) := (far_new hlr0 (F := EbOf bo XN) (fun i hi => Nat.le_trans (HBW1.out).size (HEB.out i hi).1)).below hbr3
      have HFL3 : Hid (∀ i, EbOf bo XN i → i < W3.heap.size) := fun i hi => Nat.lt_of_lt_of_le (HEB.out i hi).2 ht3.size
      obtain ⟨E, HE⟩ : ∃ E : En, Hid (E = ⟨np, tk, ct, ep, dp⟩) := ⟨_, hid rfl⟩
      obtain ⟨cc, HCC⟩ : ∃ c, Hid (chooseC g sl E = c) := ⟨_, hid rfl⟩
      obtain ⟨g', HG'⟩ : ∃ g', Hid (chooseL g sl E = g') := ⟨_, hid rfl⟩
      have HFT : Hid (∀ i, FootR p' m i → i < wr.heap.size) := hlr0.toLrMid.lt
      have HXL : Hid (x < wr.heap.size) := HD.out.rl.rl.blk.lt
      have HC1 : Hid (∀ U, ScL W3 U → Calls Try.prog 7 #[.pointer (some ⟨p', 0, none⟩), .int .i64 sl, .agg #[.bool np, .string tk, .string ct, .int .i64 ep, .slice bo XN cp]] U fun e w' => e = .returned (.int .i64 cc) ∧ Hid ((∃ pre z, LrAt w' p' m pre z g') ∧ FarL w' m g' (EbOf bo XN) ∧ Turns (FootR p' m) W3 w')) := fun U hU => by
        have h1 := (HLR3.out.below hU.out).chooseF sl HOK.out.is ⟨⟨np, tk, ct, ep, dp⟩, bo, cp⟩ (HYK.out.below hU.out) (HFAR.out.below hU.out) (fun i hi => Nat.lt_of_lt_of_le (HFL3.out i hi) hU.size)
        simp only [EnM.val] at h1
        rw [HXN.out, ← HE.out] at h1
        refine h1.mono ?_
        rintro e w' ⟨⟨he, pre, z, h2, h3⟩, h4⟩
        rw [HG'.out] at h2 h4
        rw [HCC.out] at he
        exact ⟨he, ⟨pre, z, h2⟩, h4, (Turns.of_below (F := FootR p' m) hU.out (Nat.le_refl _)).trans h3 (fun i hi => .inl hi)⟩
      have HC2 : Hid (∀ U, Turns (FootR p' m) W3 U → Calls Try.prog 8 #[.pointer (some ⟨x, 0, none⟩), .int .i64 sl, .agg #[.bool np, .string tk, .string ct, .int .i64 ep, .slice ao1 XN cap1]] U fun e w' => e = .returned (.int .i64 cc) ∧ Hid ((∃ xs' eo' cap', RlIn w.heap.size w' x g' xs' eo' cap') ∧ Turns (fun i => i = x) U w')) := fun U hU => by
        have hk := rl_keep HLR3.out HDB.out.rl HD.out.foot hU
        have hbU : Below w.heap.size w U := HDB.out.bel.trans (hU.below HD.out.foot HDB.out.bel.size)
        have h1 := hk.choose sl HOK.out.is ⟨⟨np, tk, ct, ep, dp⟩, ao1, cap1⟩ (HOK.out.en.below hbU) HOK.out.en.cutLtD hbU.size
        simp only [EnM.val] at h1
        rw [HXN.out, ← HE.out] at h1
        refine h1.mono ?_
        rintro e w' ⟨he, xs', eo', cap', h2, h3, _⟩
        rw [HG'.out] at h2
        rw [HCC.out] at he
        exact ⟨he, ⟨xs', eo', cap', h2⟩, h3⟩
      have HSA : Hid (∀ V, Turns (fun i => FootR p' m i ∨ i = x) W3 V → (Turns (fun i => FootR p' m i ∨ i = x) W3 V ∧ V.cell? ⟨bb, off + k * 6, none⟩ = some (.int .i64 sl) ∧ V.cell? ⟨bb, off + k * 6 + 1, none⟩ = some (.bool np) ∧ V.cell? ⟨bb, off + k * 6 + 2, none⟩ = some (.string tk) ∧ V.cell? ⟨bb, off + k * 6 + 3, none⟩ = some (.string ct) ∧ V.cell? ⟨bb, off + k * 6 + 4, none⟩ = some (.int .i64 ep) ∧ V.cell? ⟨bb, off + k * 6 + 5, none⟩ = some (.slice ao1 XN cap1) ∧ V.cell? ⟨qe, 0, none⟩ = some (.bool np) ∧ V.cell? ⟨qe, 1, none⟩ = some (.string tk) ∧ V.cell? ⟨qe, 2, none⟩ = some (.string ct) ∧ V.cell? ⟨qe, 3, none⟩ = some (.int .i64 ep) ∧ V.cell? ⟨qe, 4, none⟩ = some (.slice bo XN cp))) := fun V hV => by
        have hq : Blk V qe 33 [.bool np, .string tk, .string ct, .int .i64 ep, .slice bo XN cp] := hV.blk HBX.out (by
          rintro (h | h)
          · have h1 := HFT.out _ h; have h2 := HQE.out; omega
          · have h1 := HXL.out; have h2 := HQE.out; omega)
        have hbV : Below w.heap.size w V := HDB.out.bel.trans (hV.below (fun i hi => by
          rcases hi with h | h
          · exact HD.out.foot i h
          · rw [h]; exact HD.out.rl.bx) HDB.out.bel.size)
        obtain ⟨h0, h1, h2, h3, h4, h5⟩ := HAC.out V hbV
        exact ⟨hV, h0, h1, h2, h3, h4, h5, hq.cell rfl, hq.cell rfl, hq.cell rfl, hq.cell rfl, hq.cell rfl⟩
      have HTF : Hid (∀ U, Turns (FootR p' m) W3 U → Turns (fun i => FootR p' m i ∨ i = x) W3 U) := fun U hU => hU.mono (fun i hi => .inl hi)
      have HTX : Hid (∀ U V, Turns (FootR p' m) W3 U → Turns (fun i => i = x) U V → Turns (fun i => FootR p' m i ∨ i = x) W3 V) := fun U V hU hV => (hU.mono (fun i hi => .inl hi)).trans hV (fun i hi => .inl (.inr hi))
      have HT0 : Hid (Turns (fun i => FootR p' m i ∨ i = x) W3 W3) := Turns.refl _ _
      have hcc : (cc != cc) = false := by simp
      clear hlr0 hbr3 ht3 hW3 u4 f4 g5 d1 d2 d3 d4 d5
      go_wp2
      go_region_held3 (fun V => Turns (fun i => FootR p' m i ∨ i = x) W3 V ∧ V.cell? ⟨bb, off + k * 6, none⟩ = some (.int .i64 sl) ∧ V.cell? ⟨bb, off + k * 6 + 1, none⟩ = some (.bool np) ∧ V.cell? ⟨bb, off + k * 6 + 2, none⟩ = some (.string tk) ∧ V.cell? ⟨bb, off + k * 6 + 3, none⟩ = some (.string ct) ∧ V.cell? ⟨bb, off + k * 6 + 4, none⟩ = some (.int .i64 ep) ∧ V.cell? ⟨bb, off + k * 6 + 5, none⟩ = some (.slice ao1 XN cap1) ∧ V.cell? ⟨qe, 0, none⟩ = some (.bool np) ∧ V.cell? ⟨qe, 1, none⟩ = some (.string tk) ∧ V.cell? ⟨qe, 2, none⟩ = some (.string ct) ∧ V.cell? ⟨qe, 3, none⟩ = some (.int .i64 ep) ∧ V.cell? ⟨qe, 4, none⟩ = some (.slice bo XN cp))
        (first | (refine ⟨?_, ?_, ?_, ?_, ?_, ?_, ?_, ?_, ?_, ?_, ?_, ?_⟩ <;> with_reducible assumption) | (refine HSA.out _ ?_; (repeat (first | with_reducible assumption | exact HT0.out | apply Turns.drew))))
        (first
          | (go_at_call 7; with_reducible refine (HC1.out _ (by (repeat (first | with_reducible assumption | exact ScL.start _ | apply ScL.dr)))).mono ?_; rintro e V1 ⟨rfl, HQ1V⟩; have hT1 := HTF.out _ HQ1V.out.2.2)
          | (go_at_call 8; with_reducible refine (HC2.out _ HQ1V.out.2.2).mono ?_; rintro e V2 ⟨rfl, HQ2V⟩; have hT2 := HTX.out _ _ HQ1V.out.2.2 HQ2V.out.2)
          | fail)
      rename_i hHeld
      clear hHeld hT1 hT2
      have HTT : Hid (Turns (fun i => FootR p' m i ∨ i = x) W3 V2) := HTX.out _ _ HQ1V.out.2.2 HQ2V.out.2
      obtain ⟨xs2, eo2, cap2, hrl2⟩ := HQ2V.out.1
      obtain ⟨⟨pre2, z2, hlr1⟩, hfar1, htf⟩ := HQ1V.out
      have hk1 := rl_keep HLR3.out HDB.out.rl HD.out.foot htf
      have hnx : NoNum V1 (fun i => i = x) := noNum_blk hk1.rl.blk (by decide)
      have HXF : Hid (∀ i, FootR p' m i → i ≠ x) := fun i hi => (foot_off HLR0.out HD.out.rl i hi).1
      have hd2 := HQ2V.out.2
      have HLR2 : Hid (LrAt V2 p' m pre2 z2 g') := hlr1.turned hd2 (fun i hi e => HXF.out i hi e) hnx
      have HFR2 : Hid (FarL V2 m g' (EbOf bo XN)) := hfar1.turned hd2 (fun e => HXF.out m (.inr rfl) e) hnx
      have HB23 : Hid (Below w.heap.size w V2) := HDB.out.bel.trans (HTT.out.below (fun i hi => by
        rcases hi with h | h
        · exact HD.out.foot i h
        · rw [h]; exact HD.out.rl.bx) HDB.out.bel.size)
      have HRL2 := hid hrl2
      have HOV : Hid (Over V2 bo XN V2) := by
        refine Over.start HO2.out (F := fun i => i = qe ∨ FootR p' m i ∨ i = x) ((HT3.out.mono (fun i hi => .inl hi)).trans HTT.out (fun i hi => .inl (.inr hi))) (fun i hi hf => ?_)
        have h1 := (HEB.out i hi).1
        have h2 := HQ1.out
        have h3 := (HBW1.out).size
        rcases hf with h | h | h
        · omega
        · have := HFT.out i h; omega
        · have := HXL.out; omega
      have HEW : Hid (∀ i, EbOf bo XN i → wr.heap.size ≤ i) := fun i hi => Nat.le_trans (HBW1.out).size (HEB.out i hi).1
      have HBX2 : Hid (Blk V2 qe 33 [.bool np, .string tk, .string ct, .int .i64 ep, .slice bo XN cp]) := HTT.out.blk HBX.out (by
          rintro (h | h)
          · have h1 := HFT.out _ h; have h2 := HQE.out; omega
          · have h1 := HXL.out; have h2 := HQE.out; omega)
      have HQN : Hid (¬ EbOf bo XN qe) := fun hi => by have h1 := (HEB.out qe hi).1; have h2 := HQ1.out; omega
      have HXF4 : Hid (XN ≤ 17592186044416) := by rw [← HXN.out]; exact HFW.out
      clear hrl2 hlr1 hfar1 htf hk1 hnx hd2 HQ1V HQ2V HC1 HC2 HSA HTF HTX HT0 HTT V1 HV3 HV2 HK2 HHI HYK HFAR HLR3
      go_wp2
      go_loopw [11] (fun iv wq => ∃ j : Nat, j ≤ XN ∧ iv = .int .i64 j ∧ Hid (Over V2 bo XN wq)) (fun iv _ => XN - (intOf iv).toNat)
      case atStart => exact ⟨0, Nat.zero_le _, rfl, HOV.out⟩
      case round =>
        obtain ⟨j, hj, rfl, HOQ⟩ := hrel
        have e4 := (HOQ.out.tn.blk HBX2.out HQN.out).cell (i := 4) rfl
        by_cases hjl : j < XN
        · have hjl' : (j : Int) < (XN : Int) := by omega
          have HJM : Hid (j + 1 ≤ XN) := (by omega : j + 1 ≤ XN)
          have hwj : wrap64 ((j : Int) + 1) = (j : Int) + 1 := wrapS (by omega) (by have := HXF4.out; omega)
          obtain ⟨eb, u, hbo, hcj, hfj⟩ := HOQ.out.cellAt hjl
          have HST := hid (HOQ.out.step hbo hjl (.int .i64 77))
          subst hbo
          clear hj
          go_wp2
          go_roundw
          case rel => exact ⟨j + 1, HJM.out, by go_num, HST.out⟩
          case measure => first | exact measWD HJM.out hwj | exact meas1D HJM.out
        · have hjl' : ¬ (j : Int) < (XN : Int) := by omega
          have hln : LrAt wr p' m pre2 z2 g' := HLR2.out.turnedFar HFR2.out HOQ.out.tn (fun i hi he => by have h1 := HEW.out i he; have h2 := HFT.out i hi; omega)
          have hrn : RlIn w.heap.size wr x g' xs2 eo2 cap2 := by
            refine HRL2.out.turned HOQ.out.tn (fun i hi => Nat.le_trans HD.out.bel.size (HEW.out i hi)) (fun hi => by have h1 := HEW.out x hi; have h2 := HXL.out; omega) (fun b hb hf => ?_)
            obtain ⟨hpos, o9, he9⟩ := hf
            rcases HOV.out.row with h0 | ⟨eb, cs, he, hbk, _⟩
            · omega
            · rw [he] at he9
              cases he9
              exact hbk.not_row (by decide) HRL2.out.rl.row hb.symm
          have hbn : Below w.heap.size w wr := HB23.out.trans (HOQ.out.tn.below (fun i hi => Nat.le_trans HD.out.bel.size (HEW.out i hi)) HB23.out.size)
          have HLN := hid hln
          have HRN := hid hrn
          have HBN := hid hbn
          have HFO : Hid (∀ i, FootR p' m i → w.heap.size ≤ i) := HD.out.foot
          clear hln hrn hbn HOQ
          cases hk5 : ((k : Int) % 5 == 4) with
          | false =>
            have HRX : Hid (DoR w x (.pointer (some ⟨p', 0, none⟩)) wr) := ⟨p', m, g', xs2, eo2, cap2, rfl, ⟨⟨pre2, z2, HLN.out⟩, HRN.out, HFO.out, HBN.out⟩⟩
            go_wp2
            go_roundw
            case rel => exact ⟨k + 1, HKM.out, by go_num, ⟨p', rfl⟩, HRX.out⟩
            case measure => first | exact measWD HKM.out hwk | exact meas1D HKM.out
          | true =>
            have HFK := hid (HLN.out.fork (F := fun _ => False) (by obtain ⟨S9, D9, h1, h2⟩ := HLN.out.map; exact ⟨S9, D9, h1, h2, fun _ _ _ _ _ _ _ h => h⟩))
            go_wp2_with fail
            refine HFK.out.mono ?_
            rintro e w8 ⟨p8, m8, rfl, hfl, _, hfb, hp8, hm8⟩
            have HF8 := hid hfl
            have HFB := hid hfb
            have HFN : Hid (∀ i, FootR p8 m8 i → wr.heap.size ≤ i) := by
              rintro i (rfl | rfl)
              · exact hp8
              · exact hm8
            have HL8 := hid (HLN.out.below hfb)
            have HR8 := hid (HRN.out.below hfb)
            have HB8 := hid (bt' HBN.out hfb)
            have HCH := hid (HL8.out.choose 1000 (by unfold I64; omega) ⟨noopEn, none, 0⟩ (enOk_noop w8))
            simp only [EnM.val, noopEn, List.length_nil] at HCH
            clear hfl hfb hp8 hm8 HFK
            go_wp2_with fail
            refine HCH.out.mono ?_
            rintro e w9 ⟨rfl, pre9, z9, _, ht9⟩
            have hlt8 : ∀ i, FootR p' m i → i < wr.heap.size := HLN.out.toLrMid.lt
            have HRX : Hid (DoR w x (.pointer (some ⟨p8, 0, none⟩)) w9) := by
              refine ⟨p8, m8, g', xs2, eo2, cap2, rfl, ⟨⟨pre2, z2, HF8.out.turned ht9 (fun i hi hf => ?_) HL8.out.toLrMid.noNum⟩, rl_keep HL8.out HR8.out HFO.out ht9, fun i hi => ?_, HB8.out.trans (ht9.below HFO.out HB8.out.size)⟩⟩
              · have h1 := HFN.out i hi
                have h2 := hlt8 i hf
                omega
              · exact Nat.le_trans HBN.out.size (HFN.out i hi)
            clear ht9 hlt8 HCH
            go_wp2
            go_roundw
            case rel => exact ⟨k + 1, HKM.out, by go_num, ⟨p8, rfl⟩, HRX.out⟩
            case measure => first | exact measWD HKM.out hwk | exact meas1D HKM.out
    · have hlt' : ¬ (k : Int) < (n : Int) := by omega
      obtain ⟨pre, z, hl⟩ := HD.out.lr
      have HLK := hid (looks_true hl HD.out.rl slot most HSL.out)
      have HBD := hid HD.out.bel
      clear hl hlt
      go_wp2_with fail
      refine HLK.out.mono ?_
      rintro e w9 ⟨rfl, hb9⟩
      have HBE := hid (bt' HBD.out hb9)
      clear hb9 HLK
      go_wp2
      go_ret
      exact ⟨rfl, HBE.out⟩
end Go.Proofs.Ytgghfmdciohinaa
