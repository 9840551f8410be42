/-
  Package seal: told, New, closed, mayEntry, Done, Epoch, Get, Token; the calls of a nil machine.
-/
import Derived.Test.YtfokmldfnkonpaaSmA
namespace Go.Proofs.Ytfokmldfnkonpaa
open Go.RowKit Go.Maps

theorem results_cell_tmp2 {fn : Func} {p u x : Tmp} {ty : TypeId} (h : fn.results = #[.cell p ty, .tmp u, .tmp x]) (tmps : Array Value) (P : Program) (w : World) :
    (results fn tmps).run P w =
      ((asAddr (tmps.getD p undef)).run P w).andThen fun a w₁ => ((loadVar ty a).run P w₁).andThen fun v w₂ => .ok (.tuple #[v, tmps.getD u undef, tmps.getD x undef]) w₂ := by
  simp only [results, h]
  simp [Sem.run_bind, Result.andThen]
theorem wrapO {x : Int} (h1 : -9223372036854775808 ≤ x) (h2 : x ≤ 9223372036854775807) : wrap64 x = x := by unfold wrap64; omega
/-- An order told anew: the same, its cut in new memory. -/
def ToldOr (w : World) (x : OrM) (e : Ending) (w' : World) : Prop := ∃ bo cp, e = .returned (OrM.val ⟨x.e, bo, cp⟩) ∧ HV w' bo cp x.e.cut ∧ (∀ b off, bo = some ⟨b, off, none⟩ → w.heap.size ≤ b ∧ ∃ cs, Blk w' b 3 cs) ∧ Below w.heap.size w w'
set_option maxRecDepth 100000 in
set_option maxHeartbeats 1000000 in
theorem toldSm (w : World) (x : OrM) (hx : OrOk w x) : Calls Try.prog 35 #[x.val] w (ToldOr w x) := by
  obtain ⟨⟨np, tk, ct, ep, dp⟩, ao1, cap1⟩ := x
  obtain ⟨XN, HXN⟩ : ∃ m, Hid (dp.length = m) := ⟨_, hid rfl⟩
  simp only [OrM.val]
  rw [HXN.out]
  obtain ⟨W0, hW0⟩ : ∃ W, W = w.alloc (.cells #[.int .i64 np, .string tk, .string ct, .int .i64 ep, .slice ao1 XN cap1] 32) := ⟨_, rfl⟩
  obtain ⟨W, hW⟩ : ∃ W, W = W0.alloc (.cells #[.int .i64 0, .string ⟨#[]⟩, .string ⟨#[]⟩, .int .i64 0, .slice none 0 0] 32) := ⟨_, rfl⟩
  have HB0 : Hid (Below w.heap.size w W0) := by rw [hW0]; exact (Below.refl _ _).alloc (Nat.le_refl _) _
  have hs0 : W0.heap.size = w.heap.size + 1 := by rw [hW0]; simp
  have HB : Hid (Below w.heap.size w W) := by rw [hW]; exact HB0.out.alloc HB0.out.size _
  have HK : Hid (Blk W w.heap.size 32 [.int .i64 np, .string tk, .string ct, .int .i64 ep, .slice ao1 XN cap1]) := by rw [hW, hW0]; exact (Blk.new w _ _).alloc _
  have HR : Hid (Blk W (w.heap.size + 1) 32 [.int .i64 0, .string ⟨#[]⟩, .string ⟨#[]⟩, .int .i64 0, .slice none 0 0]) := by rw [hW, ← hs0]; exact Blk.new W0 _ _
  have HDI := hid (hx.cut.held.below HB.out)
  have HDF : Hid (dp.length ≤ 17592186044416) := hx.cut.few
  have c2 := HK.out.cell (i := 4) rfl
  have HW : Hid (W = (w.alloc (.cells #[.int .i64 np, .string tk, .string ct, .int .i64 ep, .slice ao1 XN cap1] 32)).alloc (.cells #[.int .i64 0, .string ⟨#[]⟩, .string ⟨#[]⟩, .int .i64 0, .slice none 0 0] 32)) := by show _ = _; rw [hW, hW0]
  rw [HW.out] at c2
  clear hW hW0 hx hs0
  go_enter Try.func35, Try.ntmps35
  go_wp2_with (at_builtin; rw [← HW.out]; refine wpList_append_nilB _ rfl _ _ rfl rfl ao1 cap1 dp XN HXN.out rfl HDI.out HDF.out ?_; intro bo cp w2 hv2 hbo2 hb2; have HV2 := hid hv2; have HBO := hid hbo2; have HB2 := hid hb2; have hk2 := HK.out.below hb2 HK.out.lt; have d2 := hk2.cell (i := 4) rfl; have f2 := hk2.frozen 4; have hk3 := hk2.set 4 (.slice bo XN cp); have t0 := hk3.cell (i := 0) rfl; have t1 := hk3.cell (i := 1) rfl; have t2 := hk3.cell (i := 2) rfl; have t3 := hk3.cell (i := 3) rfl; have t4 := hk3.cell (i := 4) rfl; have hr3 := (HR.out.below hb2 HR.out.lt).other (C := w.heap.size) (by omega) 4 (.slice bo XN cp); have r0 := hr3.cell (i := 0) rfl; have r1 := hr3.cell (i := 1) rfl; have r2 := hr3.cell (i := 2) rfl; have r3 := hr3.cell (i := 3) rfl; have r4 := hr3.cell (i := 4) rfl; have q0 := hr3.frozen 0; have q1 := hr3.frozen 1; have q2 := hr3.frozen 2; have q3 := hr3.frozen 3; have q4 := hr3.frozen 4; clear hv2 hb2 hbo2 c2 hk2 hk3)
  obtain ⟨W3, hW3⟩ : ∃ V, V = st5 (w2.setCell ⟨w.heap.size, 4, none⟩ (.slice bo XN cp)) (w.heap.size + 1) (.int .i64 np) (.string tk) (.string ct) (.int .i64 ep) (.slice bo XN cp) := ⟨_, rfl⟩
  have hk9 : Blk W3 (w.heap.size + 1) 32 [.int .i64 np, .string tk, .string ct, .int .i64 ep, .slice bo XN cp] := by rw [hW3]; exact st5_blk hr3 _ _ _ _ _
  have hT3 : Turns (fun i => i = w.heap.size ∨ i = w.heap.size + 1) w2 W3 := by
    rw [hW3]
    exact (((Turns.refl (fun i => i = w.heap.size) w2).setCell (p := ⟨w.heap.size, 4, none⟩) (.inl rfl) _).mono (fun i hi => .inl hi)).trans (st5_turns _ _ _ _ _ _ _) (fun i hi => .inl (.inr hi))
  have HBF : Hid (Below w.heap.size w W3) := (HB.out.trans (HB2.out.mono HB.out.size)).trans (hT3.below (fun i hi => by omega) (bt' HB.out HB2.out).size)
  have HLW : Hid (w.heap.size + 1 < W.heap.size) := HR.out.lt
  have HV3 : Hid (HV W3 bo cp dp) := ⟨HV2.out.held.turned hT3 (fun b off e _ hF => by have := (HBO.out b off e).1; have := HLW.out; omega), HV2.out.room, HV2.out.few⟩
  have HN3 : Hid (∀ b off, bo = some ⟨b, off, none⟩ → w.heap.size ≤ b ∧ ∃ cs, Blk W3 b 3 cs) := fun b off e => by
    obtain ⟨h1, cs, h2⟩ := HBO.out b off e
    exact ⟨Nat.le_trans HB.out.size h1, cs, hT3.blk h2 (fun hF => by have := HLW.out; omega)⟩
  have k0 := hk9.cell (i := 0) rfl
  have k1 := hk9.cell (i := 1) rfl
  have k2 := hk9.cell (i := 2) rfl
  have k3 := hk9.cell (i := 3) rfl
  have k4 := hk9.cell (i := 4) rfl
  unfold st5 at hW3
  rw [← hW3]
  (try simp only [Exit.inBlock, Exit.then])
  refine bodyPost_ret (v := .agg #[.int .i64 np, .string tk, .string ct, .int .i64 ep, .slice bo XN cp]) ?_ rfl ⟨bo, cp, ?_, HV3.out, HN3.out, HBF.out⟩
  · rw [results_cell1B rfl]
    go_simp
  · simp only [OrM.val]
    rw [HXN.out]
/-- A message with an entry alone. -/
def msOfEnS (x : EnM) : MsM := ⟨0, 0, 0, (0, 0), 0, x, none, 0, [], none, 0, [], none, 0, [], 0⟩
theorem i64_zeroS : I64 0 := by unfold I64; omega
theorem msOfEnS_ok {w : World} {x : EnM} (h : EnOk w x) : MsOk w (msOfEnS x) where
  en := h
  vs := ⟨fun _ h => (by cases h), .inl rfl⟩
  vl := by simp [msOfEnS]
  seen := ⟨⟨fun _ h => (by cases h), .inl rfl⟩, Nat.le_refl _, by simp [msOfEnS]⟩
  evs := ⟨fun _ h => (by cases h), .inl rfl⟩
  el := by simp [msOfEnS]
  ik := i64_zeroS
  ifr := i64_zeroS
  it := i64_zeroS
  ib1 := i64_zeroS
  ib2 := i64_zeroS
  isl := i64_zeroS
  iti := i64_zeroS
theorem rightMs_enS (x : EnM) : RightMs (msOfEnS x) = RightEn x.e := by
  have h1 : RightMs (msOfEnS x) = (true && (true && (true && (true && (true && (RightEn x.e && (true && (true && (true && true))))))))) := by
    unfold RightMs msOfEnS
    rfl
  rw [h1]
  simp
theorem encMs_enS (x : EnM) (h : RightEn x.e = true) : (encMs (msOfEnS x)).length ≤ 65536 := by
  have h3 := en_len (rightEn_iff h)
  have e0 : (enc 0).length ≤ 10 := enc_le10 (by omega)
  unfold encMs encVos encVC encEvs msOfEnS
  simp only [List.length_append, List.length_nil, List.flatMap_nil, encNC, Int.toNat_zero]
  omega
set_option maxRecDepth 100000 in
set_option maxHeartbeats 1000000 in
theorem mayEntrySm (w : World) (x : EnM) (hx : EnOk w x) : Calls Try.prog 29 #[x.val] w fun e w' => e = .returned (.bool (RightEn x.e)) ∧ Below w.heap.size w w' := by
  have H : Hid (∀ V, Below w.heap.size w V → Calls Try.prog 38 #[(msOfEnS x).val] V fun e w' => ∃ v c, e = .returned (.tuple #[v, .int .i64 c]) ∧ (c = 0 ↔ RightEn x.e = true) ∧ Below w.heap.size w w') := fun V hV => by
    refine (msg_any V (msOfEnS x) (msOfEnS_ok (hx.below hV))).mono ?_
    rintro e w' ⟨hb, h2⟩
    rw [rightMs_enS] at h2
    by_cases hr : RightEn x.e = true
    · rw [if_pos hr, if_pos (encMs_enS x hr)] at h2
      obtain ⟨v, rfl, _⟩ := h2
      exact ⟨_, _, rfl, ⟨fun _ => hr, fun _ => rfl⟩, bt' hV hb⟩
    · rw [if_neg hr] at h2
      subst h2
      exact ⟨_, _, rfl, ⟨fun h => (by cases h), fun h => absurd h hr⟩, bt' hV hb⟩
  obtain ⟨R, HRR⟩ : ∃ b, Hid (RightEn x.e = b) := ⟨_, hid rfl⟩
  rw [HRR.out] at H ⊢
  clear hx
  obtain ⟨⟨np, tk, ct, ep, dp⟩, ao1, cap1⟩ := x
  obtain ⟨XN, HXN⟩ : ∃ m, Hid (dp.length = m) := ⟨_, hid rfl⟩
  simp only [EnM.val, msOfEnS, MsM.val, List.length_nil] at H ⊢
  rw [HXN.out] at H ⊢
  have HA : Hid (Below w.heap.size w (w.alloc (.cells #[.bool np, .string tk, .string ct, .int .i64 ep, .slice ao1 XN cap1] 39))) := (Below.refl _ _).alloc (Nat.le_refl _) _
  go_enter Try.func29, Try.ntmps29
  go_wp2_with fail
  refine (H.out _ HA.out).mono ?_
  rintro e w' ⟨v, c, rfl, hc, hb⟩
  have HB := hid hb
  have HQ : Hid ((c == 0) = R) := by
    show _ = _
    rw [Bool.eq_iff_iff, beq_iff_eq]
    exact hc
  clear hb hc
  go_wp2
  go_ret
  refine ⟨?_, HB.out⟩
  rw [HQ.out]
  rfl
theorem newSm (w : World) : Calls Try.prog 8 #[] w fun e w' => ∃ p mi me, e = .returned (.pointer (some ⟨p, 0, none⟩)) ∧ SmAt w.heap.size w' p mi me (.slice none 0 0) noSm ∧ Below w.heap.size w w' := by
  have hmm := @run_makeMap Try.prog
  obtain ⟨w1, hw1⟩ : ∃ W, W = w.alloc (.map #[] 0) := ⟨_, rfl⟩
  obtain ⟨w2, hw2⟩ : ∃ W, W = w1.alloc (.map #[] 0) := ⟨_, rfl⟩
  obtain ⟨w3, hw3⟩ : ∃ W, W = w2.alloc (.cells #[.slice none 0 0, .map (some w.heap.size), .map (some (w.heap.size + 1)), .int .i64 0] 60) := ⟨_, rfl⟩
  have HW : Hid (w3 = ((w.alloc (.map #[] 0)).alloc (.map #[] 0)).alloc (.cells #[.slice none 0 0, .map (some w.heap.size), .map (some (w.heap.size + 1)), .int .i64 0] 60)) := by rw [hw3, hw2, hw1]; exact rfl
  have hs1 : w1.heap.size = w.heap.size + 1 := by rw [hw1]; simp
  have hs2 : w2.heap.size = w.heap.size + 2 := by rw [hw2]; simp [hs1]
  have hb1 : Below w.heap.size w w1 := by rw [hw1]; exact (Below.refl _ _).alloc (Nat.le_refl _) _
  have hb2 : Below w.heap.size w w2 := by rw [hw2]; exact hb1.alloc hb1.size _
  have hb3 : Below w.heap.size w w3 := by rw [hw3]; exact hb2.alloc hb2.size _
  have hk : Blk w3 (w.heap.size + 2) 60 [.slice none 0 0, .map (some w.heap.size), .map (some (w.heap.size + 1)), .int .i64 0] := by rw [hw3, ← hs2]; exact Blk.new w2 _ _
  have hm1 : SiMap w3 w.heap.size 0 (.map []) (fun _ => none) := by
    have h1 : SiMap w1 w.heap.size 0 (.map []) (fun _ => none) := by rw [hw1]; exact SiMap.new w
    rw [hw3, hw2]
    exact h1.below (((Below.refl _ _).alloc (Nat.le_refl _) _).alloc (by simp) _)
  have hm2 : SiMap w3 (w.heap.size + 1) 0 (.map []) (fun _ => none) := by
    have h1 : SiMap w2 (w.heap.size + 1) 0 (.map []) (fun _ => none) := by rw [hw2, ← hs1]; exact SiMap.new w1
    rw [hw3]
    exact h1.below ((Below.refl _ _).alloc (Nat.le_refl _) _)
  have HAT : Hid (SmAt w.heap.size w3 (w.heap.size + 2) w.heap.size (w.heap.size + 1) (.slice none 0 0) noSm) := ⟨noSm_ok, hk, ⟨[], rfl, ⟨rfl, .inl ⟨rfl, rfl⟩⟩, fun x hx => (by cases hx)⟩, ⟨0, _, Nat.le_refl _, hm1⟩, ⟨0, _, Nat.le_refl _, hm2⟩, by omega, by omega, by omega, by omega⟩
  have HB := hid hb3
  clear hw1 hw2 hw3 hs1 hs2 hb1 hb2 hb3 hk hm1 hm2
  go_enter Try.func8, Try.ntmps8
  go_wp2
  go_ret
  rw [← HW.out]
  exact ⟨_, _, _, rfl, HAT.out, HB.out⟩
theorem eql_mapS (W : World) (b : Nat) : (binOp .eql 58 (.map (some b)) (.map none)).run Try.prog W = .ok (.bool false) W := by kernel_rfl
theorem closedS_nil (w : World) : Calls Try.prog 28 #[.pointer none] w fun e w' => e = .returned (.bool true) ∧ w' = w := by
  go_enter Try.func28, Try.ntmps28
  go_wp2
  go_ret
  exact ⟨rfl, rfl⟩
theorem closedS_no (w : World) (p b : Nat) (hc : w.cell? ⟨p, 1, none⟩ = some (.map (some b))) : Calls Try.prog 28 #[.pointer (some ⟨p, 0, none⟩)] w fun e w' => e = .returned (.bool false) ∧ w' = w := by
  go_enter Try.func28, Try.ntmps28
  have he := fun W => eql_mapS W b
  go_wp2
  go_ret
  exact ⟨rfl, rfl⟩
theorem SmAt.closed {B : Nat} {w : World} {p mi me : Nat} {v : Value} {g : Sm} (h : SmAt B w p mi me v g) : Calls Try.prog 28 #[.pointer (some ⟨p, 0, none⟩)] w fun e w' => e = .returned (.bool false) ∧ w' = w := closedS_no w p mi h.cells.2.1
theorem SmAt.done {B : Nat} {w : World} {p mi me : Nat} {v : Value} {g : Sm} (h : SmAt B w p mi me v g) : Calls Try.prog 13 #[.pointer (some ⟨p, 0, none⟩)] w fun e w' => e = .returned (.int .i64 g.dn) ∧ w' = w := by
  have HC := hid h.closed
  obtain ⟨_, _, _, c3⟩ := h.cells
  clear h
  go_enter Try.func13, Try.ntmps13
  go_wp2_with fail
  refine HC.out.mono ?_
  rintro e w' ⟨rfl, rfl⟩
  go_wp2
  go_ret
  exact ⟨rfl, rfl⟩
theorem SmAt.epoch {B : Nat} {w : World} {p mi me : Nat} {v : Value} {g : Sm} (h : SmAt B w p mi me v g) (c : ByteArray) (hcs : c.size ≤ maxLen) : Calls Try.prog 20 #[.pointer (some ⟨p, 0, none⟩), .string c] w fun e w' => e = .returned (.int .i64 (cntO c g.os)) ∧ w' = w := by
  have HC := hid h.closed
  obtain ⟨_, _, c2, _⟩ := h.cells
  obtain ⟨N, D, _, h1⟩ := h.eps
  have hlk := h1.lookup hcs
  rw [epF_getD] at hlk
  clear h h1 hcs
  go_enter Try.func20, Try.ntmps20
  go_wp2_with fail
  refine HC.out.mono ?_
  rintro e w' ⟨rfl, rfl⟩
  go_wp2
  go_ret
  exact ⟨rfl, rfl⟩
/-- What Get and Token answer. -/
def GotOr (w : World) (f : Option Or) (e : Ending) (w' : World) : Prop := ∃ bo cp, e = .returned (.tuple #[OrM.val ⟨f.getD zeroOr, bo, cp⟩, .bool f.isSome]) ∧ HV w' bo cp (f.getD zeroOr).cut ∧ (∀ b off, bo = some ⟨b, off, none⟩ → w.heap.size ≤ b ∧ ∃ cs, Blk w' b 3 cs) ∧ Below w.heap.size w w'
theorem hv_nilS (w : World) : HV w none 0 [] := ⟨⟨fun _ h => (by cases h), .inl rfl⟩, Nat.le_refl _, by simp⟩
theorem gotOr_none {w w' : World} (hb : Below w.heap.size w w') : GotOr w none (.returned (.tuple #[.agg #[.int .i64 0, .string ⟨#[]⟩, .string ⟨#[]⟩, .int .i64 0, .slice none 0 0], .bool false])) w' := ⟨none, 0, rfl, hv_nilS _, fun b off e => (by cases e), hb⟩
set_option maxRecDepth 100000 in
set_option maxHeartbeats 1000000 in
theorem getS_nil (w : World) (i : Int) : Calls Try.prog 18 #[.pointer none, .int .i64 i] w (GotOr w none) := by
  obtain ⟨W, hW⟩ : ∃ W, W = w.alloc (.cells #[.int .i64 0, .string ⟨#[]⟩, .string ⟨#[]⟩, .int .i64 0, .slice none 0 0] 32) := ⟨_, rfl⟩
  have HB : Hid (Below w.heap.size w W) := by rw [hW]; exact (Below.refl _ _).alloc (Nat.le_refl _) _
  have HR : Hid (Blk W w.heap.size 32 [.int .i64 0, .string ⟨#[]⟩, .string ⟨#[]⟩, .int .i64 0, .slice none 0 0]) := by rw [hW]; exact Blk.new w _ _
  have HW := hid hW
  obtain ⟨pb, hp⟩ : ∃ q, q = w.heap.size := ⟨_, rfl⟩
  have HP := hid hp
  have HCL := hid (closedS_nil W)
  have hr7 := HR.out
  rw [← hp] at hr7
  have r0 := hr7.cell (i := 0) rfl
  have r1 := hr7.cell (i := 1) rfl
  have r2 := hr7.cell (i := 2) rfl
  have r3 := hr7.cell (i := 3) rfl
  have r4 := hr7.cell (i := 4) rfl
  have q0 := hr7.frozen 0
  have q1 := hr7.frozen 1
  have q2 := hr7.frozen 2
  have q3 := hr7.frozen 3
  have q4 := hr7.frozen 4
  obtain ⟨W3, hW3⟩ : ∃ V, V = st5 W pb (.int .i64 0) (.string ⟨#[]⟩) (.string ⟨#[]⟩) (.int .i64 0) (.slice none 0 0) := ⟨_, rfl⟩
  have hk9 : Blk W3 pb 32 [.int .i64 0, .string ⟨#[]⟩, .string ⟨#[]⟩, .int .i64 0, .slice none 0 0] := by rw [hW3]; exact st5_blk hr7 _ _ _ _ _
  have HT9 : Hid (Turns (fun i => i = pb) W W3) := by rw [hW3]; exact st5_turns _ _ _ _ _ _ _
  have k0 := hk9.cell (i := 0) rfl
  have k1 := hk9.cell (i := 1) rfl
  have k2 := hk9.cell (i := 2) rfl
  have k3 := hk9.cell (i := 3) rfl
  have k4 := hk9.cell (i := 4) rfl
  have HBF : Hid (Below w.heap.size w W3) := HB.out.trans (HT9.out.below (fun i hi => by omega) HB.out.size)
  clear hW hr7 hk9 hp
  go_enter Try.func18, Try.ntmps18
  go_wp2_with fail
  rw [← HW.out, ← HP.out]
  refine HCL.out.mono ?_
  rintro e w1 ⟨rfl, rfl⟩
  go_wp2
  unfold st5 at hW3
  rw [← hW3]
  (try simp only [Exit.inBlock, Exit.then])
  refine bodyPost_ret (v := .tuple #[.agg #[.int .i64 0, .string ⟨#[]⟩, .string ⟨#[]⟩, .int .i64 0, .slice none 0 0], .bool false]) ?_ rfl (gotOr_none HBF.out)
  rw [results_cell_tmp rfl]
  go_simp
set_option maxRecDepth 100000 in
set_option maxHeartbeats 1000000 in
theorem tokenS_nil (w : World) (s : ByteArray) : Calls Try.prog 16 #[.pointer none, .string s] w (GotOr w none) := by
  obtain ⟨W, hW⟩ : ∃ W, W = w.alloc (.cells #[.int .i64 0, .string ⟨#[]⟩, .string ⟨#[]⟩, .int .i64 0, .slice none 0 0] 32) := ⟨_, rfl⟩
  have HB : Hid (Below w.heap.size w W) := by rw [hW]; exact (Below.refl _ _).alloc (Nat.le_refl _) _
  have HR : Hid (Blk W w.heap.size 32 [.int .i64 0, .string ⟨#[]⟩, .string ⟨#[]⟩, .int .i64 0, .slice none 0 0]) := by rw [hW]; exact Blk.new w _ _
  have HW := hid hW
  obtain ⟨pb, hp⟩ : ∃ q, q = w.heap.size := ⟨_, rfl⟩
  have HP := hid hp
  have HCL := hid (closedS_nil W)
  have hr7 := HR.out
  rw [← hp] at hr7
  have r0 := hr7.cell (i := 0) rfl
  have r1 := hr7.cell (i := 1) rfl
  have r2 := hr7.cell (i := 2) rfl
  have r3 := hr7.cell (i := 3) rfl
  have r4 := hr7.cell (i := 4) rfl
  have q0 := hr7.frozen 0
  have q1 := hr7.frozen 1
  have q2 := hr7.frozen 2
  have q3 := hr7.frozen 3
  have q4 := hr7.frozen 4
  obtain ⟨W3, hW3⟩ : ∃ V, V = st5 W pb (.int .i64 0) (.string ⟨#[]⟩) (.string ⟨#[]⟩) (.int .i64 0) (.slice none 0 0) := ⟨_, rfl⟩
  have hk9 : Blk W3 pb 32 [.int .i64 0, .string ⟨#[]⟩, .string ⟨#[]⟩, .int .i64 0, .slice none 0 0] := by rw [hW3]; exact st5_blk hr7 _ _ _ _ _
  have HT9 : Hid (Turns (fun i => i = pb) W W3) := by rw [hW3]; exact st5_turns _ _ _ _ _ _ _
  have k0 := hk9.cell (i := 0) rfl
  have k1 := hk9.cell (i := 1) rfl
  have k2 := hk9.cell (i := 2) rfl
  have k3 := hk9.cell (i := 3) rfl
  have k4 := hk9.cell (i := 4) rfl
  have HBF : Hid (Below w.heap.size w W3) := HB.out.trans (HT9.out.below (fun i hi => by omega) HB.out.size)
  clear hW hr7 hk9 hp
  go_enter Try.func16, Try.ntmps16
  go_wp2_with fail
  rw [← HW.out, ← HP.out]
  refine HCL.out.mono ?_
  rintro e w1 ⟨rfl, rfl⟩
  go_wp2
  unfold st5 at hW3
  rw [← hW3]
  (try simp only [Exit.inBlock, Exit.then])
  refine bodyPost_ret (v := .tuple #[.agg #[.int .i64 0, .string ⟨#[]⟩, .string ⟨#[]⟩, .int .i64 0, .slice none 0 0], .bool false]) ?_ rfl (gotOr_none HBF.out)
  rw [results_cell_tmp rfl]
  go_simp
theorem SmAt.rowAt {B : Nat} {w : World} {p mi me : Nat} {v : Value} {g : Sm} (h : SmAt B w p mi me v g) : ∃ xs ao cap, v = .slice ao g.os.length cap ∧ g.os.length ≤ cap ∧ xs.map OrM.e = g.os ∧ HeldOr w ao xs ∧ AllO w xs := by
  obtain ⟨xs, h1, h2, h3⟩ := h.row
  have hl : xs.length = g.os.length := by rw [← h1]; simp
  obtain ⟨ao, cap, hv, hc, hh⟩ := heldOr_of_own hl h2
  exact ⟨xs, ao, cap, hv, hc, h1, hh, h3⟩
set_option maxRecDepth 100000 in
set_option maxHeartbeats 1000000 in
theorem SmAt.get {B : Nat} {w : World} {p mi me : Nat} {v : Value} {g : Sm} (h : SmAt B w p mi me v g) (id : Int) (hid' : I64 id) : Calls Try.prog 18 #[.pointer (some ⟨p, 0, none⟩), .int .i64 id] w (GotOr w (getO g id)) := by
  obtain ⟨W, hW⟩ : ∃ W, W = w.alloc (.cells #[.int .i64 0, .string ⟨#[]⟩, .string ⟨#[]⟩, .int .i64 0, .slice none 0 0] 32) := ⟨_, rfl⟩
  have HB : Hid (Below w.heap.size w W) := by rw [hW]; exact (Below.refl _ _).alloc (Nat.le_refl _) _
  have HR : Hid (Blk W w.heap.size 32 [.int .i64 0, .string ⟨#[]⟩, .string ⟨#[]⟩, .int .i64 0, .slice none 0 0]) := by rw [hW]; exact Blk.new w _ _
  have HW := hid hW
  obtain ⟨pb, hp⟩ : ∃ q, q = w.heap.size := ⟨_, rfl⟩
  have HP := hid hp
  have HS := hid (h.below HB.out)
  have HCL := hid HS.out.closed
  have HPL := hid (h.lt p (.inl rfl))
  obtain ⟨xs, ao, cap, hv, hcap, hxs, hh, hall⟩ := HS.out.rowAt
  have a0 := HS.out.cells.1
  subst hv
  obtain ⟨N, HN⟩ : ∃ N, Hid (g.os.length = N) := ⟨_, hid rfl⟩
  have HF : Hid (N ≤ 65536) := by rw [← HN.out]; exact h.ok.few
  have HXL : Hid (xs.length = N) := by rw [← HN.out, ← hxs]; show _ = _; simp
  have HXS := hid hxs
  have HH := hid hh
  have HALL := hid hall
  rw [HN.out] at a0
  clear hW hp h hcap hxs hh hall
  by_cases h1 : id < 1
  · have HG : Hid (getO g id = none) := getO_none (.inl h1)
    rw [HG.out]
    have hr7 := HR.out
    rw [← HP.out] at hr7
    have r0 := hr7.cell (i := 0) rfl
    have r1 := hr7.cell (i := 1) rfl
    have r2 := hr7.cell (i := 2) rfl
    have r3 := hr7.cell (i := 3) rfl
    have r4 := hr7.cell (i := 4) rfl
    have q0 := hr7.frozen 0
    have q1 := hr7.frozen 1
    have q2 := hr7.frozen 2
    have q3 := hr7.frozen 3
    have q4 := hr7.frozen 4
    obtain ⟨W3, hW3⟩ : ∃ V, V = st5 W pb (.int .i64 0) (.string ⟨#[]⟩) (.string ⟨#[]⟩) (.int .i64 0) (.slice none 0 0) := ⟨_, rfl⟩
    have hk9 : Blk W3 pb 32 [.int .i64 0, .string ⟨#[]⟩, .string ⟨#[]⟩, .int .i64 0, .slice none 0 0] := by rw [hW3]; exact st5_blk hr7 _ _ _ _ _
    have HT9 : Hid (Turns (fun i => i = pb) W W3) := by rw [hW3]; exact st5_turns _ _ _ _ _ _ _
    have k0 := hk9.cell (i := 0) rfl
    have k1 := hk9.cell (i := 1) rfl
    have k2 := hk9.cell (i := 2) rfl
    have k3 := hk9.cell (i := 3) rfl
    have k4 := hk9.cell (i := 4) rfl
    have HBF : Hid (Below w.heap.size w W3) := HB.out.trans (HT9.out.below (fun i hi => by rw [hi, HP.out]; exact Nat.le_refl _) HB.out.size)
    clear hr7 hk9
    go_enter Try.func18, Try.ntmps18
    go_wp2_with fail
    rw [← HW.out, ← HP.out]
    refine HCL.out.mono ?_
    rintro e w1 ⟨rfl, rfl⟩
    go_wp2
    unfold st5 at hW3
    rw [← hW3]
    (try simp only [Exit.inBlock, Exit.then])
    refine bodyPost_ret (v := .tuple #[.agg #[.int .i64 0, .string ⟨#[]⟩, .string ⟨#[]⟩, .int .i64 0, .slice none 0 0], .bool false]) ?_ rfl (gotOr_none HBF.out)
    rw [results_cell_tmp rfl]
    go_simp
  by_cases h2 : (N : Int) < id
  · have HG : Hid (getO g id = none) := getO_none (.inr (by rw [HN.out]; exact h2))
    rw [HG.out]
    have hr7 := HR.out
    rw [← HP.out] at hr7
    have r0 := hr7.cell (i := 0) rfl
    have r1 := hr7.cell (i := 1) rfl
    have r2 := hr7.cell (i := 2) rfl
    have r3 := hr7.cell (i := 3) rfl
    have r4 := hr7.cell (i := 4) rfl
    have q0 := hr7.frozen 0
    have q1 := hr7.frozen 1
    have q2 := hr7.frozen 2
    have q3 := hr7.frozen 3
    have q4 := hr7.frozen 4
    obtain ⟨W3, hW3⟩ : ∃ V, V = st5 W pb (.int .i64 0) (.string ⟨#[]⟩) (.string ⟨#[]⟩) (.int .i64 0) (.slice none 0 0) := ⟨_, rfl⟩
    have hk9 : Blk W3 pb 32 [.int .i64 0, .string ⟨#[]⟩, .string ⟨#[]⟩, .int .i64 0, .slice none 0 0] := by rw [hW3]; exact st5_blk hr7 _ _ _ _ _
    have HT9 : Hid (Turns (fun i => i = pb) W W3) := by rw [hW3]; exact st5_turns _ _ _ _ _ _ _
    have k0 := hk9.cell (i := 0) rfl
    have k1 := hk9.cell (i := 1) rfl
    have k2 := hk9.cell (i := 2) rfl
    have k3 := hk9.cell (i := 3) rfl
    have k4 := hk9.cell (i := 4) rfl
    have HBF : Hid (Below w.heap.size w W3) := HB.out.trans (HT9.out.below (fun i hi => by rw [hi, HP.out]; exact Nat.le_refl _) HB.out.size)
    clear hr7 hk9
    go_enter Try.func18, Try.ntmps18
    go_wp2_with fail
    rw [← HW.out, ← HP.out]
    refine HCL.out.mono ?_
    rintro e w1 ⟨rfl, rfl⟩
    go_wp2
    unfold st5 at hW3
    rw [← hW3]
    (try simp only [Exit.inBlock, Exit.then])
    refine bodyPost_ret (v := .tuple #[.agg #[.int .i64 0, .string ⟨#[]⟩, .string ⟨#[]⟩, .int .i64 0, .slice none 0 0], .bool false]) ?_ rfl (gotOr_none HBF.out)
    rw [results_cell_tmp rfl]
    go_simp
  obtain ⟨k, rfl⟩ : ∃ k : Nat, id = (k : Int) + 1 := ⟨(id - 1).toNat, by omega⟩
  have hkx : Hid (k < xs.length) := by rw [HXL.out]; show _ < _; omega
  have HKG : Hid (k < g.os.length) := by rw [HN.out]; show _ < _; omega
  have HG : Hid (getO g ((k : Int) + 1) = some (xs[k]'hkx.out).e) := by
    show _ = _
    rw [getO_at HKG.out]
    congr 1
    have := HXS.out
    simp only [← this]
    simp
  rw [HG.out]
  obtain ⟨bb, off, hao, hbb, g0, g1, g2, g3, g4⟩ := HH.out.at hkx.out
  have HOX := hid (HALL.out _ (List.getElem_mem hkx.out))
  subst hao
  obtain ⟨X, HX⟩ : ∃ X, Hid (xs[k]'hkx.out = X) := ⟨_, hid rfl⟩
  rw [HX.out] at g0 g1 g2 g3 g4 HOX ⊢
  have hsub : wrap64 (k : Int) = (k : Int) := by have := HF.out; exact wrapO (by omega) (by omega)
  have HTD := hid (toldSm W X HOX.out.ok)
  obtain ⟨⟨xid, tk, ct, ep, dp⟩, ao1, cap1⟩ := X
  obtain ⟨XN, HXN⟩ : ∃ m, Hid (dp.length = m) := ⟨_, hid rfl⟩
  unfold ToldOr at HTD
  simp only [OrM.val] at HTD g0 g1 g2 g3 g4
  rw [HXN.out] at HTD g4
  have hlt : k < N := by omega
  clear h1 h2 hbb
  have h1 : ¬ (k : Int) + 1 < 1 := by omega
  have h2 : ¬ (N : Int) < (k : Int) + 1 := by omega
  go_enter Try.func18, Try.ntmps18
  go_wp2_with fail
  rw [← HW.out, ← HP.out]
  refine HCL.out.mono ?_
  rintro e w1 ⟨rfl, rfl⟩
  go_wp2_with fail
  refine HTD.out.mono ?_
  rintro e w2 ⟨bo, cp, rfl, hv2, hn2, hb2⟩
  have hr7 := HR.out.below hb2 HR.out.lt
  have HV2 := hid hv2
  have HN2 := hid hn2
  have HB2 := hid (bt' HB.out hb2)
  have HPW : Hid (pb < w1.heap.size) := by rw [HP.out]; exact HR.out.lt
  rw [← HP.out] at hr7
  have r0 := hr7.cell (i := 0) rfl
  have r1 := hr7.cell (i := 1) rfl
  have r2 := hr7.cell (i := 2) rfl
  have r3 := hr7.cell (i := 3) rfl
  have r4 := hr7.cell (i := 4) rfl
  have q0 := hr7.frozen 0
  have q1 := hr7.frozen 1
  have q2 := hr7.frozen 2
  have q3 := hr7.frozen 3
  have q4 := hr7.frozen 4
  obtain ⟨W3, hW3⟩ : ∃ V, V = st5 w2 pb (.int .i64 xid) (.string tk) (.string ct) (.int .i64 ep) (.slice bo XN cp) := ⟨_, rfl⟩
  have hk9 : Blk W3 pb 32 [.int .i64 xid, .string tk, .string ct, .int .i64 ep, .slice bo XN cp] := by rw [hW3]; exact st5_blk hr7 _ _ _ _ _
  have HT9 : Hid (Turns (fun i => i = pb) w2 W3) := by rw [hW3]; exact st5_turns _ _ _ _ _ _ _
  have k0 := hk9.cell (i := 0) rfl
  have k1 := hk9.cell (i := 1) rfl
  have k2 := hk9.cell (i := 2) rfl
  have k3 := hk9.cell (i := 3) rfl
  have k4 := hk9.cell (i := 4) rfl
  have HBF : Hid (Below w.heap.size w W3) := HB2.out.trans (HT9.out.below (fun i hi => by rw [hi, HP.out]; exact Nat.le_refl _) HB2.out.size)
  have HPO : Hid (∀ e, e = Ending.returned (.tuple #[.agg #[.int .i64 xid, .string tk, .string ct, .int .i64 ep, .slice bo XN cp], .bool true]) → GotOr w (some ⟨xid, tk, ct, ep, dp⟩) e W3) := fun e he => by
    refine ⟨bo, cp, ?_, ⟨HV2.out.held.turned HT9.out (fun b off e _ hF => by have := (HN2.out b off e).1; have := HPW.out; omega), HV2.out.room, HV2.out.few⟩, fun b off e => ?_, HBF.out⟩
    · rw [he]
      simp only [OrM.val, Option.getD_some, Option.isSome_some]
      rw [HXN.out]
    · obtain ⟨h1, cs, h2⟩ := HN2.out b off e
      exact ⟨Nat.le_trans HB.out.size h1, cs, HT9.out.blk h2 (fun hF => by have := HPW.out; omega)⟩
  clear hr7 hk9 hv2 hn2 hb2
  go_wp2
  unfold st5 at hW3
  rw [← hW3]
  (try simp only [Exit.inBlock, Exit.then])
  refine bodyPost_ret (v := .tuple #[.agg #[.int .i64 xid, .string tk, .string ct, .int .i64 ep, .slice bo XN cp], .bool true]) ?_ rfl (HPO.out _ rfl)
  rw [results_cell_tmp rfl]
  go_simp
set_option maxRecDepth 100000 in
set_option maxHeartbeats 1000000 in
theorem SmAt.token {B : Nat} {w : World} {p mi me : Nat} {v : Value} {g : Sm} (h : SmAt B w p mi me v g) (t : ByteArray) (ht : t.size ≤ maxLen) : Calls Try.prog 16 #[.pointer (some ⟨p, 0, none⟩), .string t] w (GotOr w (findO t g.os)) := by
  obtain ⟨W, hW⟩ : ∃ W, W = w.alloc (.cells #[.int .i64 0, .string ⟨#[]⟩, .string ⟨#[]⟩, .int .i64 0, .slice none 0 0] 32) := ⟨_, rfl⟩
  have HB : Hid (Below w.heap.size w W) := by rw [hW]; exact (Below.refl _ _).alloc (Nat.le_refl _) _
  have HR : Hid (Blk W w.heap.size 32 [.int .i64 0, .string ⟨#[]⟩, .string ⟨#[]⟩, .int .i64 0, .slice none 0 0]) := by rw [hW]; exact Blk.new w _ _
  have HW := hid hW
  obtain ⟨pb, hp⟩ : ∃ q, q = w.heap.size := ⟨_, rfl⟩
  have HP := hid hp
  have HS := hid (h.below HB.out)
  have HCL := hid HS.out.closed
  have a1 := HS.out.cells.2.1
  obtain ⟨N, D, _, hm⟩ := HS.out.ids
  have hlk := hm.lookup ht
  obtain ⟨i, HI⟩ : ∃ i, Hid ((idF g t).getD 0 = i) := ⟨_, hid rfl⟩
  have HII : Hid (I64 i) := by
    rw [← HI.out]
    unfold idF
    cases hf : findO t g.os with
    | none => exact (by unfold I64; simp : I64 0)
    | some o =>
      obtain ⟨k, hk, rfl⟩ := List.mem_iff_getElem.1 (findO_mem hf).1
      have h1 := h.ok.ids k _ (List.getElem?_eq_getElem hk)
      have h2 := h.ok.few
      simp only [Option.map_some, Option.getD_some]
      rw [h1]
      exact (by unfold I64; omega : I64 ((k : Int) + 1))
  have HGE := hid (HS.out.get i HII.out)
  rw [← HI.out, get_id h.ok, HI.out] at HGE
  rw [HI.out] at hlk
  obtain ⟨F, HF⟩ : ∃ F, Hid (findO t g.os = F) := ⟨_, hid rfl⟩
  rw [HF.out] at HGE ⊢
  clear hW hp h hm ht
  go_enter Try.func16, Try.ntmps16
  go_wp2_with fail
  rw [← HW.out, ← HP.out]
  refine HCL.out.mono ?_
  rintro e w1 ⟨rfl, rfl⟩
  go_wp2_with fail
  refine HGE.out.mono ?_
  rintro e w2 ⟨bo, cp, rfl, hv2, hn2, hb2⟩
  have hr7 := HR.out.below hb2 HR.out.lt
  have HV2 := hid hv2
  have HN2 := hid hn2
  have HB2 := hid (bt' HB.out hb2)
  have HPW : Hid (pb < w1.heap.size) := by rw [HP.out]; exact HR.out.lt
  rw [← HP.out] at hr7
  obtain ⟨X, HX⟩ : ∃ X, Hid (F.getD zeroOr = X) := ⟨_, hid rfl⟩
  obtain ⟨q, HQ⟩ : ∃ q, Hid (F.isSome = q) := ⟨_, hid rfl⟩
  rw [HX.out] at HV2 ⊢
  rw [HQ.out]
  obtain ⟨xid, tk, ct, ep, dp⟩ := X
  obtain ⟨XN, HXN⟩ : ∃ m, Hid (dp.length = m) := ⟨_, hid rfl⟩
  have r0 := hr7.cell (i := 0) rfl
  have r1 := hr7.cell (i := 1) rfl
  have r2 := hr7.cell (i := 2) rfl
  have r3 := hr7.cell (i := 3) rfl
  have r4 := hr7.cell (i := 4) rfl
  have q0 := hr7.frozen 0
  have q1 := hr7.frozen 1
  have q2 := hr7.frozen 2
  have q3 := hr7.frozen 3
  have q4 := hr7.frozen 4
  obtain ⟨W3, hW3⟩ : ∃ V, V = st5 w2 pb (.int .i64 xid) (.string tk) (.string ct) (.int .i64 ep) (.slice bo XN cp) := ⟨_, rfl⟩
  have hk9 : Blk W3 pb 32 [.int .i64 xid, .string tk, .string ct, .int .i64 ep, .slice bo XN cp] := by rw [hW3]; exact st5_blk hr7 _ _ _ _ _
  have HT9 : Hid (Turns (fun i => i = pb) w2 W3) := by rw [hW3]; exact st5_turns _ _ _ _ _ _ _
  have k0 := hk9.cell (i := 0) rfl
  have k1 := hk9.cell (i := 1) rfl
  have k2 := hk9.cell (i := 2) rfl
  have k3 := hk9.cell (i := 3) rfl
  have k4 := hk9.cell (i := 4) rfl
  have HBF : Hid (Below w.heap.size w W3) := HB2.out.trans (HT9.out.below (fun i hi => by rw [hi, HP.out]; exact Nat.le_refl _) HB2.out.size)
  have HPO : Hid (∀ e, e = Ending.returned (.tuple #[.agg #[.int .i64 xid, .string tk, .string ct, .int .i64 ep, .slice bo XN cp], .bool q]) → GotOr w F e W3) := fun e he => by
    refine ⟨bo, cp, ?_, ?_, fun b off e => ?_, HBF.out⟩
    · rw [he, HX.out, HQ.out]
      simp only [OrM.val]
      rw [HXN.out]
    · rw [HX.out]
      exact ⟨HV2.out.held.turned HT9.out (fun b off e _ hF => by have := (HN2.out b off e).1; have := HPW.out; omega), HV2.out.room, HV2.out.few⟩
    · obtain ⟨h1, cs, h2⟩ := HN2.out b off e
      exact ⟨Nat.le_trans HB.out.size h1, cs, HT9.out.blk h2 (fun hF => by have := HPW.out; omega)⟩
  clear hr7 hk9 hv2 hn2 hb2
  simp only [OrM.val]
  rw [HXN.out]
  go_wp2
  unfold st5 at hW3
  rw [← hW3]
  (try simp only [Exit.inBlock, Exit.then])
  refine bodyPost_ret (v := .tuple #[.agg #[.int .i64 xid, .string tk, .string ct, .int .i64 ep, .slice bo XN cp], .bool q]) ?_ rfl (HPO.out _ rfl)
  rw [results_cell_tmp rfl]
  go_simp
end Go.Proofs.Ytfokmldfnkonpaa
