/-
  Package acceptor: effectOf.
-/
import Derived.Test.YtfmnbehopdmahaaGreatAcE
namespace Go.Proofs.YtfmnbehopdmahaaGreat
open Go.RowKit Go.Maps

theorem encBt (x : Nat) : AllB (enc x) := enc_byte x
theorem encNC_byte : ∀ v : List Int, AllB (encNC v)
  | [] => fun c h => (by cases h)
  | x :: r => (encBt _).append (encNC_byte r)
theorem encVC_byte (v : List Int) : AllB (encVC v) := (encBt _).append (encNC_byte v)
theorem encText_byteA (s : ByteArray) : AllB (encText s) := (encBt _).append (strNums_byte s)
theorem encBC_byte (b : Bool) : AllB (encBC b) := fun c h => by cases b <;> simp [encBC] at h <;> omega
theorem encSe_byte (e : En) : AllB (encSe e) := (((encText_byteA _).append (encText_byteA _)).append (encBt _)).append (encVC_byte _)
theorem encEn_byte (e : En) : AllB (encEn e) := (encBC_byte _).append (by split; exact fun c h => (by cases h); exact encSe_byte e)
theorem encVo_byte (x : VoM) : AllB (encVo x) := ((encBt _).append ((encBt _).append (encBt _))).append (encEn_byte _)
theorem encEvC_byte (e : Ev) : AllB (encEvC e) := (((((((encBt _).append (encBt _)).append (encVC_byte _)).append (encText_byteA _)).append (encBt _)).append (encText_byteA _)).append (encBt _)).append (encBC_byte _)
theorem encMs_byte (x : MsM) : AllB (encMs x) := by
  have h1 : AllB (encVos x.vs) := (encBt _).append (fun c h => by obtain ⟨y, _, hy⟩ := List.mem_flatMap.1 h; exact encVo_byte y c hy)
  have h2 : AllB (encEvs x.evs) := (encBt _).append (fun c h => by obtain ⟨y, _, hy⟩ := List.mem_flatMap.1 h; exact encEvC_byte y.e c hy)
  exact (((((((((encBt _).append (encBt _)).append (encBt _)).append ((encBt _).append (encBt _))).append (encBt _)).append (encEn_byte _)).append h1).append (encVC_byte _)).append h2).append (encBt _)
/-- The bytes of a message, as a text. -/
def recOf (x : MsM) : ByteArray := strOfNums (encMs x)
/-- What an effect does. -/
def DoesF (W : World) (p : Nat) (a : Ac) (x : MsM) (f : FuncId) (lb : Array Value) : Prop :=
  (kindA a x = 5 ∧ f = 139 ∧ lb = #[]) ∨ ∃ ba bm, lb = #[.pointer (some ⟨bm, 0, none⟩), .pointer (some ⟨ba, 0, none⟩)] ∧ Blk W ba 24 [.pointer (some ⟨p, 0, none⟩)] ∧ Blk W bm 43 x.cells ∧ ((kindA a x = 2 ∧ f = 89) ∨ (kindA a x = 4 ∧ f = 91))
theorem DoesF.below {W V : World} {p : Nat} {a : Ac} {x : MsM} {f : FuncId} {lb : Array Value} (h : DoesF W p a x f lb) (hb : Below W.heap.size W V) : DoesF V p a x f lb := by
  rcases h with h | ⟨ba, bm, h1, h2, h3, h4⟩
  · exact .inl h
  · exact .inr ⟨ba, bm, h1, h2.below hb h2.lt, h3.below hb h3.lt, h4⟩
theorem DoesF.turned {W V : World} {p be : Nat} {a : Ac} {x : MsM} {f : FuncId} {lb : Array Value} {es : List Value} (h : DoesF W p a x f lb) (hk : Blk W be 62 es) (ht : Turns (fun i => i = be) W V) : DoesF V p a x f lb := by
  rcases h with h | ⟨ba, bm, h1, h2, h3, h4⟩
  · exact .inl h
  · exact .inr ⟨ba, bm, h1, ht.blk h2 (blk_ne h2 hk (by decide)), ht.blk h3 (blk_ne h3 hk (by decide)), h4⟩
/-- What effectOf answers. -/
def EffP (w : World) (p : Nat) (a : Ac) (x : MsM) (e : Ending) (w' : World) : Prop :=
  Below w.heap.size w w' ∧ (if takesA a x = true then ∃ f lb, e = .returned (.tuple #[effV (kindA a x) (changesA a x) (if changesA a x = true then recOf x else ⟨#[]⟩) f lb, .bool true]) ∧ DoesF w' p a x f lb else e = .returned (.tuple #[.agg #[.int .i64 0, .bool false, .string ⟨#[]⟩, .nilFunc], .bool false]))
theorem effP_no {w w' : World} {p : Nat} {a : Ac} {x : MsM} (hb : Below w.heap.size w w') (h : ¬ takesA a x = true) : EffP w p a x (.returned (.tuple #[.agg #[.int .i64 0, .bool false, .string ⟨#[]⟩, .nilFunc], .bool false])) w' := ⟨hb, by rw [if_neg h]⟩
/-- The two ways of a message that is taken. -/
theorem prep_eff {w w' : World} {p : Nat} {a : Ac} {x : MsM} {e : Ending} (h : PrepP w p a x e w') (hk : x.kind = 1) : ∃ f lb, e = .returned (effV (kindA a x) (changesA a x) ⟨#[]⟩ f lb) ∧ DoesF w' p a x f lb ∧ Below w.heap.size w w' := by
  obtain ⟨hb, h⟩ := h
  by_cases hc : 0 < cmpB a.pr x.bal
  · rw [if_pos hc] at h
    have hkk : kindA a x = 5 := by unfold kindA; rw [if_pos hc]
    have hch : changesA a x = false := by unfold changesA; rw [hkk]; rfl
    exact ⟨_, _, by rw [hkk, hch]; exact h, .inl ⟨hkk, rfl, rfl⟩, hb⟩
  · rw [if_neg hc] at h
    obtain ⟨ba, bm, he, h1, h2, _⟩ := h
    have hkk : kindA a x = 2 := by unfold kindA; rw [if_neg hc, if_pos hk]
    have hch : changesA a x = decide (x.bal ≠ a.pr) := by unfold changesA; rw [if_pos hkk]
    exact ⟨_, _, by rw [hkk, hch]; exact he, .inr ⟨ba, bm, rfl, h1, h2, .inl ⟨hkk, rfl⟩⟩, hb⟩
theorem acc_eff {w w' : World} {p : Nat} {a : Ac} {x : MsM} {e : Ending} (h : AccP w p a x e w') (hk : x.kind = 3) : ∃ f lb, e = .returned (effV (kindA a x) (changesA a x) ⟨#[]⟩ f lb) ∧ DoesF w' p a x f lb ∧ Below w.heap.size w w' := by
  obtain ⟨hb, h⟩ := h
  by_cases hc : RefusedA a x
  · rw [if_pos hc] at h
    have hkk : kindA a x = 5 := by
      unfold kindA
      rcases hc with hc | hc
      · rw [if_pos hc]
      · by_cases h0 : 0 < cmpB a.pr x.bal
        · rw [if_pos h0]
        · rw [if_neg h0, if_neg (by omega), if_pos hc]
    have hch : changesA a x = false := by unfold changesA; rw [hkk]; rfl
    exact ⟨_, _, by rw [hkk, hch]; exact h, .inl ⟨hkk, rfl, rfl⟩, hb⟩
  · rw [if_neg hc] at h
    obtain ⟨ba, bm, he, h1, h2, _⟩ := h
    have hkk : kindA a x = 4 := by unfold kindA; rw [if_neg (fun k => hc (.inl k)), if_neg (by omega), if_neg (fun k => hc (.inr k))]
    have hch : changesA a x = decide (a.f x.slot ≠ some (x.bal, x.en.e)) := by unfold changesA; rw [if_neg (by rw [hkk]; decide), if_pos hkk]
    exact ⟨_, _, by rw [hkk, hch]; exact he, .inr ⟨ba, bm, rfl, h1, h2, .inr ⟨hkk, rfl⟩⟩, hb⟩
/-- The frame of effectOf. -/
structure EffW (w : World) (p m : Nat) (a : Ac) (x : MsM) (bm be : Nat) (W : World) : Prop where
  bel : Below w.heap.size w W
  kM : Blk W bm 43 x.cells
  kE : Blk W be 62 [.int .i64 0, .bool false, .string ⟨#[]⟩, .nilFunc]
  at' : AcAt W p m a
theorem EffW.below {w W V : World} {p m bm be : Nat} {a : Ac} {x : MsM} (h : EffW w p m a x bm be W) (hb : Below W.heap.size W V) : EffW w p m a x bm be V := ⟨bt' h.bel hb, h.kM.below hb h.kM.lt, h.kE.below hb h.kE.lt, h.at'.below hb⟩
theorem KindsAt.look {w : World} {k : Nat} (h : KindsAt w k) {s : Int} (hs : I64 s) : (Instr.lookup 87 (.map (some k)) (.int .i64 s) true).run Tryz.prog w = .ok (.tuple #[if s = 1 then .func (.func 57) #[] #[] else if s = 3 then .func (.func 58) #[] #[] else .nilFunc, .bool (decide (s = 1 ∨ s = 3))]) w := by
  obtain ⟨n, D, h1, h2⟩ := h.own
  have := run_look_ok h1 Tryz.keyedIntL Tryz.underlying87 (Tryz.zeroFnV w) (Tryz.keyIntL hs)
  rw [h2 s hs] at this
  rw [this]
  by_cases e1 : s = 1
  · simp [e1]
  · by_cases e3 : s = 3
    · simp [e3]
    · simp [e1, e3]
set_option maxRecDepth 1000000 in
set_option maxHeartbeats 4000000 in
theorem AcAt.effectOf {w : World} {p m : Nat} {a : Ac} (h : AcAt w p m a) (x : MsM) (hx : MsOk w x) : Calls Tryz.prog 19 #[.pointer (some ⟨p, 0, none⟩), x.val] w (EffP w p a x) := by
  obtain ⟨W1, hW1⟩ : ∃ W, W = w.alloc (.cells x.cells.toArray 43) := ⟨_, rfl⟩
  obtain ⟨W, hW⟩ : ∃ W, W = W1.alloc (.cells #[.int .i64 0, .bool false, .string ⟨#[]⟩, .nilFunc] 62) := ⟨_, rfl⟩
  have hs1 : W1.heap.size = w.heap.size + 1 := by rw [hW1]; simp
  have hb1 : Below w.heap.size w W1 := by rw [hW1]; exact (Below.refl _ _).alloc (Nat.le_refl _) _
  have HB : Hid (Below w.heap.size w W) := by rw [hW]; exact hb1.alloc hb1.size _
  obtain ⟨bm, hbm⟩ : ∃ q, q = w.heap.size := ⟨_, rfl⟩
  obtain ⟨be, hbe⟩ : ∃ q, q = w.heap.size + 1 := ⟨_, rfl⟩
  have HF : Hid (EffW w p m a x bm be W) := ⟨HB.out, by rw [hbm, hW, hW1]; exact (Blk.new w _ _).alloc _, by rw [hbe, hW, ← hs1]; exact Blk.new W1 _ _, h.below HB.out⟩
  have HW : Hid (W = (w.alloc (.cells x.cells.toArray 43)).alloc (.cells #[.int .i64 0, .bool false, .string ⟨#[]⟩, .nilFunc] 62)) := by show _ = _; rw [hW, hW1]
  have HBM := hid hbm
  have HBE := hid hbe
  have HNE : Hid (bm ≠ be) := hid (by omega)
  have HBS : Hid (w.heap.size ≤ be) := hid (by omega)
  have HX := hid hx
  have HCL := hid (fun V (hV : AcAt V p m a) => hV.closed)
  have HND : Hid (∀ V, AcAt V p m a → V.cell? ⟨p, 0, none⟩ = some (.int .i64 a.node)) := fun V hV => hV.cells.1
  clear h hW hW1 hs1 hb1 hbm hbe hx
  obtain ⟨kd, fr, to, ⟨br, bn⟩, sl, ⟨⟨np, tk, ct, ep, cut⟩, ao1, cap1⟩, vo, vc, vs, so, sc, seen, eo, ec, evs, ti⟩ := x
  obtain ⟨XN, HXN⟩ : ∃ m, Hid (cut.length = m) := ⟨_, hid rfl⟩
  obtain ⟨VN, HVN⟩ : ∃ m, Hid (vs.length = m) := ⟨_, hid rfl⟩
  obtain ⟨SN, HSN⟩ : ∃ m, Hid (seen.length = m) := ⟨_, hid rfl⟩
  obtain ⟨EN, HEN⟩ : ∃ m, Hid (evs.length = m) := ⟨_, hid rfl⟩
  simp only [MsM.val, MsM.cells] at HW ⊢
  rw [HXN.out, HVN.out, HSN.out, HEN.out] at HW
  rw [HXN.out, HVN.out, HSN.out, HEN.out]
  have d2 := HF.out.kM.cell (i := 2) rfl
  have c0 := HF.out.at'.cells.1
  simp only at d2
  obtain ⟨nd, HN0⟩ : ∃ n, Hid (a.node = n) := ⟨_, hid rfl⟩
  rw [HN0.out] at c0
  by_cases hto : to = nd
  · have hb : (to != nd) = false := by simp [hto]
    have HC2 : Hid (∀ q, Calls Tryz.prog 29 #[.pointer (some ⟨p, 0, none⟩)] (W.drewN q) fun e w' => e = .returned (.bool false) ∧ w' = W.drewN q) := fun q => (HF.out.at'.below (below_dn (Below.refl _ _) q)).closed
    have HTO : Hid (to = a.node) := by show _ = _; rw [HN0.out]; exact hto
    clear hto
    go_enter Tryz.func19, Tryz.ntmps19
    go_wp2
    rw [← HW.out, ← HBE.out, ← HBM.out]
    go_quiet (first | (go_at_call 29; refine Calls.quiet_of_same (HC2.out _)))
    all_goals
      obtain ⟨V1, hV1⟩ : ∃ V, V = W.drewN nq := ⟨_, rfl⟩
      rw [← hV1]
      have HF1 : Hid (EffW w p m a ⟨kd, fr, to, (br, bn), sl, ⟨⟨np, tk, ct, ep, cut⟩, ao1, cap1⟩, vo, vc, vs, so, sc, seen, eo, ec, evs, ti⟩ bm be V1) := by rw [hV1]; exact HF.out.below (below_dn (Below.refl _ _) _)
      clear hV1 d2 c0
      have HKI64 : Hid (I64 kd) := HX.out.ik
      by_cases hk1 : kd = 1
      · subst hk1
        have HKI : Hid (∀ V, ScL V1 V → Calls Tryz.prog 38 #[] V fun e w' => ∃ k, e = .returned (.map (some k)) ∧ (Instr.lookup 87 (.map (some k)) (.int .i64 1) true).run Tryz.prog w' = .ok (.tuple #[.func (.func 57) #[] #[], .bool true]) w' ∧ ScL V1 w') := fun V hV => by
          refine (kindsA V).mono ?_
          rintro e w' ⟨rfl, hk, hb⟩
          refine ⟨_, rfl, ?_, hV.go hb⟩
          have := hk.look (s := 1) HKI64.out
          rw [if_pos rfl] at this
          exact this
        have HSA : Hid (∀ V, ScL V1 V → (ScL V1 V ∧ V.cell? ⟨bm, 0, none⟩ = some (.int .i64 1))) := fun V hV => ⟨hV, (HF1.out.below hV.out).kM.cell rfl⟩
        go_wp2
        go_region_held3 (fun V => ScL V1 V ∧ V.cell? ⟨bm, 0, none⟩ = some (.int .i64 1))
          (first | (refine ⟨?_, ?_⟩ <;> assumption) | (refine HSA.out _ ?_; (repeat (first | assumption | exact ScL.start _ | apply ScL.dr)); done))
          (first
            | (go_at_call 38; with_reducible refine (HKI.out _ (by (repeat (first | assumption | exact ScL.start _ | apply ScL.dr)))).mono ?_; rintro e w5 ⟨k5, rfl, hlk5, hs5⟩))
        all_goals
          rename_i hHeld
          have HF5 := hid (HF1.out.below hHeld.1.out)
          have HMS := hid (msg_any w5 ⟨1, fr, to, (br, bn), sl, ⟨⟨np, tk, ct, ep, cut⟩, ao1, cap1⟩, vo, vc, vs, so, sc, seen, eo, ec, evs, ti⟩ (HX.out.below HF5.out.bel))
          simp only [MsM.val] at HMS
          rw [HXN.out, HVN.out, HSN.out, HEN.out] at HMS
          have q0 := HF5.out.kM.cell (i := 0) rfl
          have q1 := HF5.out.kM.cell (i := 1) rfl
          have q2 := HF5.out.kM.cell (i := 2) rfl
          have q3 := HF5.out.kM.cell (i := 3) rfl
          have q4 := HF5.out.kM.cell (i := 4) rfl
          have q5 := HF5.out.kM.cell (i := 5) rfl
          have q6 := HF5.out.kM.cell (i := 6) rfl
          have q7 := HF5.out.kM.cell (i := 7) rfl
          have q8 := HF5.out.kM.cell (i := 8) rfl
          have q9 := HF5.out.kM.cell (i := 9) rfl
          have q10 := HF5.out.kM.cell (i := 10) rfl
          have q11 := HF5.out.kM.cell (i := 11) rfl
          have q12 := HF5.out.kM.cell (i := 12) rfl
          have q13 := HF5.out.kM.cell (i := 13) rfl
          have q14 := HF5.out.kM.cell (i := 14) rfl
          simp only at q0 q1 q2 q3 q4 q5 q6 q7 q8 q9 q10 q11 q12 q13 q14
          rw [HXN.out] at q10
          rw [HVN.out] at q11
          rw [HSN.out] at q12
          rw [HEN.out] at q13
          clear hHeld hlk5
          by_cases hr : RightMs ⟨1, fr, to, (br, bn), sl, ⟨⟨np, tk, ct, ep, cut⟩, ao1, cap1⟩, vo, vc, vs, so, sc, seen, eo, ec, evs, ti⟩ = true ∧ (encMs ⟨1, fr, to, (br, bn), sl, ⟨⟨np, tk, ct, ep, cut⟩, ao1, cap1⟩, vo, vc, vs, so, sc, seen, eo, ec, evs, ti⟩).length ≤ 65536
          · have HTK : Hid (takesA a ⟨1, fr, to, (br, bn), sl, ⟨⟨np, tk, ct, ep, cut⟩, ao1, cap1⟩, vo, vc, vs, so, sc, seen, eo, ec, evs, ti⟩ = true) := by
              show _ = _
              unfold takesA
              rw [decide_eq_true (show to = a.node from HTO.out), hr.1, decide_eq_true hr.2]
              rfl
            have HRM := hid hr.1
            have HRL := hid hr.2
            clear hr
            go_wp2_with fail
            refine HMS.out.mono ?_
            rintro e w6 ⟨hb6, h6⟩
            rw [if_pos HRM.out, if_pos HRL.out] at h6
            obtain ⟨v6, rfl, hown6⟩ := h6
            obtain ⟨ob, oc, hv6⟩ := own_sliceC hown6
            subst hv6
            obtain ⟨on, HON⟩ : ∃ n, Hid ((encMs ⟨1, fr, to, (br, bn), sl, ⟨⟨np, tk, ct, ep, cut⟩, ao1, cap1⟩, vo, vc, vs, so, sc, seen, eo, ec, evs, ti⟩).length = n) := ⟨_, hid rfl⟩
            rw [HON.out] at hown6 ⊢
            have HOWN := hid hown6
            have HF6 := hid (HF5.out.below hb6)
            have HCA := hid (HF6.out.at'.onPrepare ⟨1, fr, to, (br, bn), sl, ⟨⟨np, tk, ct, ep, cut⟩, ao1, cap1⟩, vo, vc, vs, so, sc, seen, eo, ec, evs, ti⟩)
            simp only [MsM.val] at HCA
            rw [HXN.out, HVN.out, HSN.out, HEN.out] at HCA
            have p0 := HF6.out.kM.cell (i := 0) rfl
            have p1 := HF6.out.kM.cell (i := 1) rfl
            have p2 := HF6.out.kM.cell (i := 2) rfl
            have p3 := HF6.out.kM.cell (i := 3) rfl
            have p4 := HF6.out.kM.cell (i := 4) rfl
            have p5 := HF6.out.kM.cell (i := 5) rfl
            have p6 := HF6.out.kM.cell (i := 6) rfl
            have p7 := HF6.out.kM.cell (i := 7) rfl
            have p8 := HF6.out.kM.cell (i := 8) rfl
            have p9 := HF6.out.kM.cell (i := 9) rfl
            have p10 := HF6.out.kM.cell (i := 10) rfl
            have p11 := HF6.out.kM.cell (i := 11) rfl
            have p12 := HF6.out.kM.cell (i := 12) rfl
            have p13 := HF6.out.kM.cell (i := 13) rfl
            have p14 := HF6.out.kM.cell (i := 14) rfl
            simp only at p0 p1 p2 p3 p4 p5 p6 p7 p8 p9 p10 p11 p12 p13 p14
            rw [HXN.out] at p10
            rw [HVN.out] at p11
            rw [HSN.out] at p12
            rw [HEN.out] at p13
            clear q0 q1 q2 q3 q4 q5 q6 q7 q8 q9 q10 q11 q12 q13 q14 hb6 hown6
            go_wp2_with fail
            refine HCA.out.mono ?_
            intro e w7 h7
            obtain ⟨f7, lb7, rfl, hdo7, hb7⟩ := prep_eff h7 rfl
            have HDO := hid hdo7
            have HB67 := hid hb7
            have HF7 := hid (HF6.out.below hb7)
            obtain ⟨kk, HKK⟩ : ∃ k, Hid (kindA a ⟨1, fr, to, (br, bn), sl, ⟨⟨np, tk, ct, ep, cut⟩, ao1, cap1⟩, vo, vc, vs, so, sc, seen, eo, ec, evs, ti⟩ = k) := ⟨_, hid rfl⟩
            obtain ⟨RR, HRR⟩ : ∃ r, Hid (recOf ⟨1, fr, to, (br, bn), sl, ⟨⟨np, tk, ct, ep, cut⟩, ao1, cap1⟩, vo, vc, vs, so, sc, seen, eo, ec, evs, ti⟩ = r) := ⟨_, hid rfl⟩
            have HFIN : Hid (∀ V, Turns (fun i => i = be) w7 V → ∀ c r, changesA a ⟨1, fr, to, (br, bn), sl, ⟨⟨np, tk, ct, ep, cut⟩, ao1, cap1⟩, vo, vc, vs, so, sc, seen, eo, ec, evs, ti⟩ = c → (if c = true then RR else ⟨#[]⟩) = r → EffP w p a ⟨1, fr, to, (br, bn), sl, ⟨⟨np, tk, ct, ep, cut⟩, ao1, cap1⟩, vo, vc, vs, so, sc, seen, eo, ec, evs, ti⟩ (.returned (.tuple #[effV kk c r f7 lb7, .bool true])) V) := fun V hV c r hc hr => by
              refine ⟨HF7.out.bel.trans (hV.below (fun i hi => by rw [hi]; exact HBS.out) HF7.out.bel.size), ?_⟩
              rw [if_pos HTK.out]
              exact ⟨f7, lb7, by rw [HKK.out, HRR.out, hc, hr], HDO.out.turned HF7.out.kE hV⟩
            obtain ⟨cc, hcc⟩ : ∃ c, changesA a ⟨1, fr, to, (br, bn), sl, ⟨⟨np, tk, ct, ep, cut⟩, ao1, cap1⟩, vo, vc, vs, so, sc, seen, eo, ec, evs, ti⟩ = c := ⟨_, rfl⟩
            rw [HKK.out, hcc]
            have HCC := hid hcc
            clear p0 p1 p2 p3 p4 p5 p6 p7 p8 p9 p10 p11 p12 p13 p14 h7 hdo7 hb7 hcc
            have HBE7 : Hid (be < w7.heap.size) := HF7.out.kE.lt
            cases cc
            · skip
              have hE8 := HF7.out.kE.alloc (.cells #[.int .i64 kk, .bool false, .string ⟨#[]⟩, .func (.func f7) #[] lb7] 62)
              have f0 := hE8.cell (i := 0) rfl
              have f1 := hE8.cell (i := 1) rfl
              have f2 := hE8.cell (i := 2) rfl
              have f3 := hE8.cell (i := 3) rfl
              have g0 := hE8.frozen 0
              have g1 := hE8.frozen 1
              have g2 := hE8.frozen 2
              have g3 := hE8.frozen 3
              obtain ⟨W3, hW3⟩ : ∃ V, V = st4 (w7.alloc (.cells #[.int .i64 kk, .bool false, .string ⟨#[]⟩, .func (.func f7) #[] lb7] 62)) be (.int .i64 kk) (.bool false) (.string ⟨#[]⟩) (.func (.func f7) #[] lb7) := ⟨_, rfl⟩
              have hk9 : Blk W3 be 62 [.int .i64 kk, .bool false, .string ⟨#[]⟩, .func (.func f7) #[] lb7] := by rw [hW3]; exact st4_blk (HF7.out.kE.alloc _) _ _ _ _
              have HFI := hid (HFIN.out W3 (by rw [hW3]; exact ((Turns.refl (fun i => i = be) w7).alloc _).trans (st4_turns _ _ _ _ _ _) (fun i hi => .inl hi)) false ⟨#[]⟩ HCC.out rfl)
              have k0 := hk9.cell (i := 0) rfl
              have k1 := hk9.cell (i := 1) rfl
              have k2 := hk9.cell (i := 2) rfl
              have k3 := hk9.cell (i := 3) rfl
              clear hk9 hE8
              unfold effV
              go_wp2
              unfold st4 at hW3
              rw [← hW3]
              (try simp only [Exit.inBlock, Exit.then])
              refine bodyPost_ret (v := .tuple #[.agg #[.int .i64 kk, .bool false, .string ⟨#[]⟩, .func (.func f7) #[] lb7], .bool true]) ?_ rfl HFI.out
              rw [results_cell_tmp rfl]
              go_simp
            · skip
              have hE8 := HF7.out.kE.alloc (.cells #[.int .i64 kk, .bool true, .string RR, .func (.func f7) #[] lb7] 62)
              have f0 := hE8.cell (i := 0) rfl
              have f1 := hE8.cell (i := 1) rfl
              have f2 := hE8.cell (i := 2) rfl
              have f3 := hE8.cell (i := 3) rfl
              have g0 := hE8.frozen 0
              have g1 := hE8.frozen 1
              have g2 := hE8.frozen 2
              have g3 := hE8.frozen 3
              have hown8 := (Turns.of_below (F := fun _ => False) (HB67.out.alloc HB67.out.size (.cells #[.int .i64 kk, .bool true, .string ⟨#[]⟩, .func (.func f7) #[] lb7] 62)) (Nat.le_refl _)).row HOWN.out (fun _ _ h => h)
              rw [← HON.out] at hown8
              obtain ⟨so8, sc8, hsl8, hheld8⟩ := held_of_own hown8 (encMs_byte _)
              have hcv := run_convert_held (P := Tryz.prog) hheld8 66 5 9 Tryz.underlying66 Tryz.underlying5 Tryz.underlying9
              rw [← hsl8, HON.out, show strOfNums (encMs ⟨1, fr, to, (br, bn), sl, ⟨⟨np, tk, ct, ep, cut⟩, ao1, cap1⟩, vo, vc, vs, so, sc, seen, eo, ec, evs, ti⟩) = RR from HRR.out] at hcv
              clear hheld8 hown8 hsl8
              obtain ⟨W3, hW3⟩ : ∃ V, V = st4 (w7.alloc (.cells #[.int .i64 kk, .bool true, .string RR, .func (.func f7) #[] lb7] 62)) be (.int .i64 kk) (.bool true) (.string RR) (.func (.func f7) #[] lb7) := ⟨_, rfl⟩
              have hk9 : Blk W3 be 62 [.int .i64 kk, .bool true, .string RR, .func (.func f7) #[] lb7] := by rw [hW3]; exact st4_blk (HF7.out.kE.alloc _) _ _ _ _
              have HFI := hid (HFIN.out W3 (by rw [hW3]; exact ((Turns.refl (fun i => i = be) w7).alloc _).trans (st4_turns _ _ _ _ _ _) (fun i hi => .inl hi)) true RR HCC.out rfl)
              have k0 := hk9.cell (i := 0) rfl
              have k1 := hk9.cell (i := 1) rfl
              have k2 := hk9.cell (i := 2) rfl
              have k3 := hk9.cell (i := 3) rfl
              clear hk9 hE8
              unfold effV
              go_wp2
              unfold st4 at hW3
              rw [← hW3]
              (try simp only [Exit.inBlock, Exit.then])
              refine bodyPost_ret (v := .tuple #[.agg #[.int .i64 kk, .bool true, .string RR, .func (.func f7) #[] lb7], .bool true]) ?_ rfl HFI.out
              rw [results_cell_tmp rfl]
              go_simp
          · have HNT : Hid (¬ takesA a ⟨1, fr, to, (br, bn), sl, ⟨⟨np, tk, ct, ep, cut⟩, ao1, cap1⟩, vo, vc, vs, so, sc, seen, eo, ec, evs, ti⟩ = true) := fun hh => by
              unfold takesA at hh
              simp only [Bool.and_eq_true, decide_eq_true_eq] at hh
              exact hr hh.2.2
            have HBAD : Hid (∀ e w', MsgP w5 ⟨1, fr, to, (br, bn), sl, ⟨⟨np, tk, ct, ep, cut⟩, ao1, cap1⟩, vo, vc, vs, so, sc, seen, eo, ec, evs, ti⟩ e w' → ∃ c, e = .returned (.tuple #[.slice none 0 0, .int .i64 c]) ∧ (c != 0) = true ∧ Below w5.heap.size w5 w') := fun e w' h => by
              obtain ⟨hb, h⟩ := h
              by_cases h1 : RightMs ⟨1, fr, to, (br, bn), sl, ⟨⟨np, tk, ct, ep, cut⟩, ao1, cap1⟩, vo, vc, vs, so, sc, seen, eo, ec, evs, ti⟩ = true
              · rw [if_pos h1, if_neg (fun h2 => hr ⟨h1, h2⟩)] at h
                exact ⟨_, h, rfl, hb⟩
              · rw [if_neg h1] at h
                exact ⟨_, h, rfl, hb⟩
            clear hr
            go_wp2_with fail
            refine HMS.out.mono ?_
            intro e w6 h6
            obtain ⟨c6, rfl, hc6, hb6⟩ := HBAD.out e w6 h6
            have HF6 := hid (HF5.out.below hb6)
            clear h6 hb6 q0 q1 q2 q3 q4 q5 q6 q7 q8 q9 q10 q11 q12 q13 q14
            have f0 := HF6.out.kE.cell (i := 0) rfl
            have f1 := HF6.out.kE.cell (i := 1) rfl
            have f2 := HF6.out.kE.cell (i := 2) rfl
            have f3 := HF6.out.kE.cell (i := 3) rfl
            have g0 := HF6.out.kE.frozen 0
            have g1 := HF6.out.kE.frozen 1
            have g2 := HF6.out.kE.frozen 2
            have g3 := HF6.out.kE.frozen 3
            obtain ⟨W3, hW3⟩ : ∃ V, V = st4 w6 be (.int .i64 0) (.bool false) (.string ⟨#[]⟩) .nilFunc := ⟨_, rfl⟩
            have hk9 : Blk W3 be 62 [.int .i64 0, .bool false, .string ⟨#[]⟩, .nilFunc] := by rw [hW3]; exact st4_blk HF6.out.kE _ _ _ _
            have HFI : Hid (EffP w p a ⟨1, fr, to, (br, bn), sl, ⟨⟨np, tk, ct, ep, cut⟩, ao1, cap1⟩, vo, vc, vs, so, sc, seen, eo, ec, evs, ti⟩ (.returned (.tuple #[.agg #[.int .i64 0, .bool false, .string ⟨#[]⟩, .nilFunc], .bool false])) W3) := effP_no (by rw [hW3]; exact HF6.out.bel.trans ((st4_turns w6 be _ _ _ _).below (fun i hi => by rw [hi]; exact HBS.out) HF6.out.bel.size)) HNT.out
            have k0 := hk9.cell (i := 0) rfl
            have k1 := hk9.cell (i := 1) rfl
            have k2 := hk9.cell (i := 2) rfl
            have k3 := hk9.cell (i := 3) rfl
            clear hk9
            go_wp2
            unfold st4 at hW3
            rw [← hW3]
            (try simp only [Exit.inBlock, Exit.then])
            refine bodyPost_ret (v := .tuple #[.agg #[.int .i64 0, .bool false, .string ⟨#[]⟩, .nilFunc], .bool false]) ?_ rfl HFI.out
            rw [results_cell_tmp rfl]
            go_simp
      · by_cases hk3 : kd = 3
        · subst hk3
          have HKI : Hid (∀ V, ScL V1 V → Calls Tryz.prog 38 #[] V fun e w' => ∃ k, e = .returned (.map (some k)) ∧ (Instr.lookup 87 (.map (some k)) (.int .i64 3) true).run Tryz.prog w' = .ok (.tuple #[.func (.func 58) #[] #[], .bool true]) w' ∧ ScL V1 w') := fun V hV => by
            refine (kindsA V).mono ?_
            rintro e w' ⟨rfl, hk, hb⟩
            refine ⟨_, rfl, ?_, hV.go hb⟩
            have := hk.look (s := 3) HKI64.out
            rw [if_neg (by decide), if_pos rfl] at this
            exact this
          have HSA : Hid (∀ V, ScL V1 V → (ScL V1 V ∧ V.cell? ⟨bm, 0, none⟩ = some (.int .i64 3))) := fun V hV => ⟨hV, (HF1.out.below hV.out).kM.cell rfl⟩
          go_wp2
          go_region_held3 (fun V => ScL V1 V ∧ V.cell? ⟨bm, 0, none⟩ = some (.int .i64 3))
            (first | (refine ⟨?_, ?_⟩ <;> assumption) | (refine HSA.out _ ?_; (repeat (first | assumption | exact ScL.start _ | apply ScL.dr)); done))
            (first
              | (go_at_call 38; with_reducible refine (HKI.out _ (by (repeat (first | assumption | exact ScL.start _ | apply ScL.dr)))).mono ?_; rintro e w5 ⟨k5, rfl, hlk5, hs5⟩))
          all_goals
            rename_i hHeld
            have HF5 := hid (HF1.out.below hHeld.1.out)
            have HMS := hid (msg_any w5 ⟨3, fr, to, (br, bn), sl, ⟨⟨np, tk, ct, ep, cut⟩, ao1, cap1⟩, vo, vc, vs, so, sc, seen, eo, ec, evs, ti⟩ (HX.out.below HF5.out.bel))
            simp only [MsM.val] at HMS
            rw [HXN.out, HVN.out, HSN.out, HEN.out] at HMS
            have q0 := HF5.out.kM.cell (i := 0) rfl
            have q1 := HF5.out.kM.cell (i := 1) rfl
            have q2 := HF5.out.kM.cell (i := 2) rfl
            have q3 := HF5.out.kM.cell (i := 3) rfl
            have q4 := HF5.out.kM.cell (i := 4) rfl
            have q5 := HF5.out.kM.cell (i := 5) rfl
            have q6 := HF5.out.kM.cell (i := 6) rfl
            have q7 := HF5.out.kM.cell (i := 7) rfl
            have q8 := HF5.out.kM.cell (i := 8) rfl
            have q9 := HF5.out.kM.cell (i := 9) rfl
            have q10 := HF5.out.kM.cell (i := 10) rfl
            have q11 := HF5.out.kM.cell (i := 11) rfl
            have q12 := HF5.out.kM.cell (i := 12) rfl
            have q13 := HF5.out.kM.cell (i := 13) rfl
            have q14 := HF5.out.kM.cell (i := 14) rfl
            simp only at q0 q1 q2 q3 q4 q5 q6 q7 q8 q9 q10 q11 q12 q13 q14
            rw [HXN.out] at q10
            rw [HVN.out] at q11
            rw [HSN.out] at q12
            rw [HEN.out] at q13
            clear hHeld hlk5
            by_cases hr : RightMs ⟨3, fr, to, (br, bn), sl, ⟨⟨np, tk, ct, ep, cut⟩, ao1, cap1⟩, vo, vc, vs, so, sc, seen, eo, ec, evs, ti⟩ = true ∧ (encMs ⟨3, fr, to, (br, bn), sl, ⟨⟨np, tk, ct, ep, cut⟩, ao1, cap1⟩, vo, vc, vs, so, sc, seen, eo, ec, evs, ti⟩).length ≤ 65536
            · have HTK : Hid (takesA a ⟨3, fr, to, (br, bn), sl, ⟨⟨np, tk, ct, ep, cut⟩, ao1, cap1⟩, vo, vc, vs, so, sc, seen, eo, ec, evs, ti⟩ = true) := by
                show _ = _
                unfold takesA
                rw [decide_eq_true (show to = a.node from HTO.out), hr.1, decide_eq_true hr.2]
                rfl
              have HRM := hid hr.1
              have HRL := hid hr.2
              clear hr
              go_wp2_with fail
              refine HMS.out.mono ?_
              rintro e w6 ⟨hb6, h6⟩
              rw [if_pos HRM.out, if_pos HRL.out] at h6
              obtain ⟨v6, rfl, hown6⟩ := h6
              obtain ⟨ob, oc, hv6⟩ := own_sliceC hown6
              subst hv6
              obtain ⟨on, HON⟩ : ∃ n, Hid ((encMs ⟨3, fr, to, (br, bn), sl, ⟨⟨np, tk, ct, ep, cut⟩, ao1, cap1⟩, vo, vc, vs, so, sc, seen, eo, ec, evs, ti⟩).length = n) := ⟨_, hid rfl⟩
              rw [HON.out] at hown6 ⊢
              have HOWN := hid hown6
              have HF6 := hid (HF5.out.below hb6)
              have HCA := hid (HF6.out.at'.onAccept ⟨3, fr, to, (br, bn), sl, ⟨⟨np, tk, ct, ep, cut⟩, ao1, cap1⟩, vo, vc, vs, so, sc, seen, eo, ec, evs, ti⟩ (HX.out.below HF6.out.bel))
              simp only [MsM.val] at HCA
              rw [HXN.out, HVN.out, HSN.out, HEN.out] at HCA
              have p0 := HF6.out.kM.cell (i := 0) rfl
              have p1 := HF6.out.kM.cell (i := 1) rfl
              have p2 := HF6.out.kM.cell (i := 2) rfl
              have p3 := HF6.out.kM.cell (i := 3) rfl
              have p4 := HF6.out.kM.cell (i := 4) rfl
              have p5 := HF6.out.kM.cell (i := 5) rfl
              have p6 := HF6.out.kM.cell (i := 6) rfl
              have p7 := HF6.out.kM.cell (i := 7) rfl
              have p8 := HF6.out.kM.cell (i := 8) rfl
              have p9 := HF6.out.kM.cell (i := 9) rfl
              have p10 := HF6.out.kM.cell (i := 10) rfl
              have p11 := HF6.out.kM.cell (i := 11) rfl
              have p12 := HF6.out.kM.cell (i := 12) rfl
              have p13 := HF6.out.kM.cell (i := 13) rfl
              have p14 := HF6.out.kM.cell (i := 14) rfl
              simp only at p0 p1 p2 p3 p4 p5 p6 p7 p8 p9 p10 p11 p12 p13 p14
              rw [HXN.out] at p10
              rw [HVN.out] at p11
              rw [HSN.out] at p12
              rw [HEN.out] at p13
              clear q0 q1 q2 q3 q4 q5 q6 q7 q8 q9 q10 q11 q12 q13 q14 hb6 hown6
              go_wp2_with fail
              refine HCA.out.mono ?_
              intro e w7 h7
              obtain ⟨f7, lb7, rfl, hdo7, hb7⟩ := acc_eff h7 rfl
              have HDO := hid hdo7
              have HB67 := hid hb7
              have HF7 := hid (HF6.out.below hb7)
              obtain ⟨kk, HKK⟩ : ∃ k, Hid (kindA a ⟨3, fr, to, (br, bn), sl, ⟨⟨np, tk, ct, ep, cut⟩, ao1, cap1⟩, vo, vc, vs, so, sc, seen, eo, ec, evs, ti⟩ = k) := ⟨_, hid rfl⟩
              obtain ⟨RR, HRR⟩ : ∃ r, Hid (recOf ⟨3, fr, to, (br, bn), sl, ⟨⟨np, tk, ct, ep, cut⟩, ao1, cap1⟩, vo, vc, vs, so, sc, seen, eo, ec, evs, ti⟩ = r) := ⟨_, hid rfl⟩
              have HFIN : Hid (∀ V, Turns (fun i => i = be) w7 V → ∀ c r, changesA a ⟨3, fr, to, (br, bn), sl, ⟨⟨np, tk, ct, ep, cut⟩, ao1, cap1⟩, vo, vc, vs, so, sc, seen, eo, ec, evs, ti⟩ = c → (if c = true then RR else ⟨#[]⟩) = r → EffP w p a ⟨3, fr, to, (br, bn), sl, ⟨⟨np, tk, ct, ep, cut⟩, ao1, cap1⟩, vo, vc, vs, so, sc, seen, eo, ec, evs, ti⟩ (.returned (.tuple #[effV kk c r f7 lb7, .bool true])) V) := fun V hV c r hc hr => by
                refine ⟨HF7.out.bel.trans (hV.below (fun i hi => by rw [hi]; exact HBS.out) HF7.out.bel.size), ?_⟩
                rw [if_pos HTK.out]
                exact ⟨f7, lb7, by rw [HKK.out, HRR.out, hc, hr], HDO.out.turned HF7.out.kE hV⟩
              obtain ⟨cc, hcc⟩ : ∃ c, changesA a ⟨3, fr, to, (br, bn), sl, ⟨⟨np, tk, ct, ep, cut⟩, ao1, cap1⟩, vo, vc, vs, so, sc, seen, eo, ec, evs, ti⟩ = c := ⟨_, rfl⟩
              rw [HKK.out, hcc]
              have HCC := hid hcc
              clear p0 p1 p2 p3 p4 p5 p6 p7 p8 p9 p10 p11 p12 p13 p14 h7 hdo7 hb7 hcc
              have HBE7 : Hid (be < w7.heap.size) := HF7.out.kE.lt
              cases cc
              · skip
                have hE8 := HF7.out.kE.alloc (.cells #[.int .i64 kk, .bool false, .string ⟨#[]⟩, .func (.func f7) #[] lb7] 62)
                have f0 := hE8.cell (i := 0) rfl
                have f1 := hE8.cell (i := 1) rfl
                have f2 := hE8.cell (i := 2) rfl
                have f3 := hE8.cell (i := 3) rfl
                have g0 := hE8.frozen 0
                have g1 := hE8.frozen 1
                have g2 := hE8.frozen 2
                have g3 := hE8.frozen 3
                obtain ⟨W3, hW3⟩ : ∃ V, V = st4 (w7.alloc (.cells #[.int .i64 kk, .bool false, .string ⟨#[]⟩, .func (.func f7) #[] lb7] 62)) be (.int .i64 kk) (.bool false) (.string ⟨#[]⟩) (.func (.func f7) #[] lb7) := ⟨_, rfl⟩
                have hk9 : Blk W3 be 62 [.int .i64 kk, .bool false, .string ⟨#[]⟩, .func (.func f7) #[] lb7] := by rw [hW3]; exact st4_blk (HF7.out.kE.alloc _) _ _ _ _
                have HFI := hid (HFIN.out W3 (by rw [hW3]; exact ((Turns.refl (fun i => i = be) w7).alloc _).trans (st4_turns _ _ _ _ _ _) (fun i hi => .inl hi)) false ⟨#[]⟩ HCC.out rfl)
                have k0 := hk9.cell (i := 0) rfl
                have k1 := hk9.cell (i := 1) rfl
                have k2 := hk9.cell (i := 2) rfl
                have k3 := hk9.cell (i := 3) rfl
                clear hk9 hE8
                unfold effV
                go_wp2
                unfold st4 at hW3
                rw [← hW3]
                (try simp only [Exit.inBlock, Exit.then])
                refine bodyPost_ret (v := .tuple #[.agg #[.int .i64 kk, .bool false, .string ⟨#[]⟩, .func (.func f7) #[] lb7], .bool true]) ?_ rfl HFI.out
                rw [results_cell_tmp rfl]
                go_simp
              · skip
                have hE8 := HF7.out.kE.alloc (.cells #[.int .i64 kk, .bool true, .string RR, .func (.func f7) #[] lb7] 62)
                have f0 := hE8.cell (i := 0) rfl
                have f1 := hE8.cell (i := 1) rfl
                have f2 := hE8.cell (i := 2) rfl
                have f3 := hE8.cell (i := 3) rfl
                have g0 := hE8.frozen 0
                have g1 := hE8.frozen 1
                have g2 := hE8.frozen 2
                have g3 := hE8.frozen 3
                have hown8 := (Turns.of_below (F := fun _ => False) (HB67.out.alloc HB67.out.size (.cells #[.int .i64 kk, .bool true, .string ⟨#[]⟩, .func (.func f7) #[] lb7] 62)) (Nat.le_refl _)).row HOWN.out (fun _ _ h => h)
                rw [← HON.out] at hown8
                obtain ⟨so8, sc8, hsl8, hheld8⟩ := held_of_own hown8 (encMs_byte _)
                have hcv := run_convert_held (P := Tryz.prog) hheld8 66 5 9 Tryz.underlying66 Tryz.underlying5 Tryz.underlying9
                rw [← hsl8, HON.out, show strOfNums (encMs ⟨3, fr, to, (br, bn), sl, ⟨⟨np, tk, ct, ep, cut⟩, ao1, cap1⟩, vo, vc, vs, so, sc, seen, eo, ec, evs, ti⟩) = RR from HRR.out] at hcv
                clear hheld8 hown8 hsl8
                obtain ⟨W3, hW3⟩ : ∃ V, V = st4 (w7.alloc (.cells #[.int .i64 kk, .bool true, .string RR, .func (.func f7) #[] lb7] 62)) be (.int .i64 kk) (.bool true) (.string RR) (.func (.func f7) #[] lb7) := ⟨_, rfl⟩
                have hk9 : Blk W3 be 62 [.int .i64 kk, .bool true, .string RR, .func (.func f7) #[] lb7] := by rw [hW3]; exact st4_blk (HF7.out.kE.alloc _) _ _ _ _
                have HFI := hid (HFIN.out W3 (by rw [hW3]; exact ((Turns.refl (fun i => i = be) w7).alloc _).trans (st4_turns _ _ _ _ _ _) (fun i hi => .inl hi)) true RR HCC.out rfl)
                have k0 := hk9.cell (i := 0) rfl
                have k1 := hk9.cell (i := 1) rfl
                have k2 := hk9.cell (i := 2) rfl
                have k3 := hk9.cell (i := 3) rfl
                clear hk9 hE8
                unfold effV
                go_wp2
                unfold st4 at hW3
                rw [← hW3]
                (try simp only [Exit.inBlock, Exit.then])
                refine bodyPost_ret (v := .tuple #[.agg #[.int .i64 kk, .bool true, .string RR, .func (.func f7) #[] lb7], .bool true]) ?_ rfl HFI.out
                rw [results_cell_tmp rfl]
                go_simp
            · have HNT : Hid (¬ takesA a ⟨3, fr, to, (br, bn), sl, ⟨⟨np, tk, ct, ep, cut⟩, ao1, cap1⟩, vo, vc, vs, so, sc, seen, eo, ec, evs, ti⟩ = true) := fun hh => by
                unfold takesA at hh
                simp only [Bool.and_eq_true, decide_eq_true_eq] at hh
                exact hr hh.2.2
              have HBAD : Hid (∀ e w', MsgP w5 ⟨3, fr, to, (br, bn), sl, ⟨⟨np, tk, ct, ep, cut⟩, ao1, cap1⟩, vo, vc, vs, so, sc, seen, eo, ec, evs, ti⟩ e w' → ∃ c, e = .returned (.tuple #[.slice none 0 0, .int .i64 c]) ∧ (c != 0) = true ∧ Below w5.heap.size w5 w') := fun e w' h => by
                obtain ⟨hb, h⟩ := h
                by_cases h1 : RightMs ⟨3, fr, to, (br, bn), sl, ⟨⟨np, tk, ct, ep, cut⟩, ao1, cap1⟩, vo, vc, vs, so, sc, seen, eo, ec, evs, ti⟩ = true
                · rw [if_pos h1, if_neg (fun h2 => hr ⟨h1, h2⟩)] at h
                  exact ⟨_, h, rfl, hb⟩
                · rw [if_neg h1] at h
                  exact ⟨_, h, rfl, hb⟩
              clear hr
              go_wp2_with fail
              refine HMS.out.mono ?_
              intro e w6 h6
              obtain ⟨c6, rfl, hc6, hb6⟩ := HBAD.out e w6 h6
              have HF6 := hid (HF5.out.below hb6)
              clear h6 hb6 q0 q1 q2 q3 q4 q5 q6 q7 q8 q9 q10 q11 q12 q13 q14
              have f0 := HF6.out.kE.cell (i := 0) rfl
              have f1 := HF6.out.kE.cell (i := 1) rfl
              have f2 := HF6.out.kE.cell (i := 2) rfl
              have f3 := HF6.out.kE.cell (i := 3) rfl
              have g0 := HF6.out.kE.frozen 0
              have g1 := HF6.out.kE.frozen 1
              have g2 := HF6.out.kE.frozen 2
              have g3 := HF6.out.kE.frozen 3
              obtain ⟨W3, hW3⟩ : ∃ V, V = st4 w6 be (.int .i64 0) (.bool false) (.string ⟨#[]⟩) .nilFunc := ⟨_, rfl⟩
              have hk9 : Blk W3 be 62 [.int .i64 0, .bool false, .string ⟨#[]⟩, .nilFunc] := by rw [hW3]; exact st4_blk HF6.out.kE _ _ _ _
              have HFI : Hid (EffP w p a ⟨3, fr, to, (br, bn), sl, ⟨⟨np, tk, ct, ep, cut⟩, ao1, cap1⟩, vo, vc, vs, so, sc, seen, eo, ec, evs, ti⟩ (.returned (.tuple #[.agg #[.int .i64 0, .bool false, .string ⟨#[]⟩, .nilFunc], .bool false])) W3) := effP_no (by rw [hW3]; exact HF6.out.bel.trans ((st4_turns w6 be _ _ _ _).below (fun i hi => by rw [hi]; exact HBS.out) HF6.out.bel.size)) HNT.out
              have k0 := hk9.cell (i := 0) rfl
              have k1 := hk9.cell (i := 1) rfl
              have k2 := hk9.cell (i := 2) rfl
              have k3 := hk9.cell (i := 3) rfl
              clear hk9
              go_wp2
              unfold st4 at hW3
              rw [← hW3]
              (try simp only [Exit.inBlock, Exit.then])
              refine bodyPost_ret (v := .tuple #[.agg #[.int .i64 0, .bool false, .string ⟨#[]⟩, .nilFunc], .bool false]) ?_ rfl HFI.out
              rw [results_cell_tmp rfl]
              go_simp
        · have HK13 : Hid (¬ kd = 1 ∧ ¬ kd = 3) := ⟨hk1, hk3⟩
          have HNT : Hid (¬ takesA a ⟨kd, fr, to, (br, bn), sl, ⟨⟨np, tk, ct, ep, cut⟩, ao1, cap1⟩, vo, vc, vs, so, sc, seen, eo, ec, evs, ti⟩ = true) := fun hh => by
            unfold takesA at hh
            simp only [Bool.and_eq_true, decide_eq_true_eq] at hh
            exact hh.2.1.elim hk1 hk3
          clear hk1 hk3
          have HKI : Hid (∀ V, ScL V1 V → Calls Tryz.prog 38 #[] V fun e w' => ∃ k, e = .returned (.map (some k)) ∧ (Instr.lookup 87 (.map (some k)) (.int .i64 kd) true).run Tryz.prog w' = .ok (.tuple #[.nilFunc, .bool false]) w' ∧ ScL V1 w') := fun V hV => by
            refine (kindsA V).mono ?_
            rintro e w' ⟨rfl, hk, hb⟩
            refine ⟨_, rfl, ?_, hV.go hb⟩
            have := hk.look (s := kd) HKI64.out
            rw [if_neg HK13.out.1, if_neg HK13.out.2, decide_eq_false (fun hh => hh.elim HK13.out.1 HK13.out.2)] at this
            exact this
          have HSA : Hid (∀ V, ScL V1 V → (ScL V1 V ∧ V.cell? ⟨bm, 0, none⟩ = some (.int .i64 kd))) := fun V hV => ⟨hV, (HF1.out.below hV.out).kM.cell rfl⟩
          go_wp2
          go_region_held3 (fun V => ScL V1 V ∧ V.cell? ⟨bm, 0, none⟩ = some (.int .i64 kd))
            (first | (refine ⟨?_, ?_⟩ <;> assumption) | (refine HSA.out _ ?_; (repeat (first | assumption | exact ScL.start _ | apply ScL.dr)); done))
            (first
              | (go_at_call 38; with_reducible refine (HKI.out _ (by (repeat (first | assumption | exact ScL.start _ | apply ScL.dr)))).mono ?_; rintro e w5 ⟨k5, rfl, hlk5, hs5⟩))
          all_goals
            rename_i hHeld
            have HF5 := hid (HF1.out.below hHeld.1.out)
            clear hHeld
            have f0 := HF5.out.kE.cell (i := 0) rfl
            have f1 := HF5.out.kE.cell (i := 1) rfl
            have f2 := HF5.out.kE.cell (i := 2) rfl
            have f3 := HF5.out.kE.cell (i := 3) rfl
            have g0 := HF5.out.kE.frozen 0
            have g1 := HF5.out.kE.frozen 1
            have g2 := HF5.out.kE.frozen 2
            have g3 := HF5.out.kE.frozen 3
            obtain ⟨W3, hW3⟩ : ∃ V, V = st4 w5 be (.int .i64 0) (.bool false) (.string ⟨#[]⟩) .nilFunc := ⟨_, rfl⟩
            have hk9 : Blk W3 be 62 [.int .i64 0, .bool false, .string ⟨#[]⟩, .nilFunc] := by rw [hW3]; exact st4_blk HF5.out.kE _ _ _ _
            have HFI : Hid (EffP w p a ⟨kd, fr, to, (br, bn), sl, ⟨⟨np, tk, ct, ep, cut⟩, ao1, cap1⟩, vo, vc, vs, so, sc, seen, eo, ec, evs, ti⟩ (.returned (.tuple #[.agg #[.int .i64 0, .bool false, .string ⟨#[]⟩, .nilFunc], .bool false])) W3) := effP_no (by rw [hW3]; exact HF5.out.bel.trans ((st4_turns w5 be _ _ _ _).below (fun i hi => by rw [hi]; exact HBS.out) HF5.out.bel.size)) HNT.out
            have k0 := hk9.cell (i := 0) rfl
            have k1 := hk9.cell (i := 1) rfl
            have k2 := hk9.cell (i := 2) rfl
            have k3 := hk9.cell (i := 3) rfl
            clear hk9
            go_wp2
            unfold st4 at hW3
            rw [← hW3]
            (try simp only [Exit.inBlock, Exit.then])
            refine bodyPost_ret (v := .tuple #[.agg #[.int .i64 0, .bool false, .string ⟨#[]⟩, .nilFunc], .bool false]) ?_ rfl HFI.out
            rw [results_cell_tmp rfl]
            go_simp
  · have hb : (to != nd) = true := by simp [hto]
    have HNT : Hid (¬ takesA a ⟨kd, fr, to, (br, bn), sl, ⟨⟨np, tk, ct, ep, cut⟩, ao1, cap1⟩, vo, vc, vs, so, sc, seen, eo, ec, evs, ti⟩ = true) := fun hh => by
      unfold takesA at hh
      simp only [Bool.and_eq_true, decide_eq_true_eq] at hh
      exact hto (by rw [← HN0.out]; exact hh.1)
    have HC2 : Hid (∀ q, Calls Tryz.prog 29 #[.pointer (some ⟨p, 0, none⟩)] (W.drewN q) fun e w' => e = .returned (.bool false) ∧ w' = W.drewN q) := fun q => (HF.out.at'.below (below_dn (Below.refl _ _) q)).closed
    clear hto
    go_enter Tryz.func19, Tryz.ntmps19
    go_wp2
    rw [← HW.out, ← HBE.out, ← HBM.out]
    go_quiet (first | (go_at_call 29; refine Calls.quiet_of_same (HC2.out _)))
    all_goals
      obtain ⟨V1, hV1⟩ : ∃ V, V = W.drewN nq := ⟨_, rfl⟩
      rw [← hV1]
      have HF1 : Hid (EffW w p m a ⟨kd, fr, to, (br, bn), sl, ⟨⟨np, tk, ct, ep, cut⟩, ao1, cap1⟩, vo, vc, vs, so, sc, seen, eo, ec, evs, ti⟩ bm be V1) := by rw [hV1]; exact HF.out.below (below_dn (Below.refl _ _) _)
      clear hV1 d2 c0
      have f0 := HF1.out.kE.cell (i := 0) rfl
      have f1 := HF1.out.kE.cell (i := 1) rfl
      have f2 := HF1.out.kE.cell (i := 2) rfl
      have f3 := HF1.out.kE.cell (i := 3) rfl
      have g0 := HF1.out.kE.frozen 0
      have g1 := HF1.out.kE.frozen 1
      have g2 := HF1.out.kE.frozen 2
      have g3 := HF1.out.kE.frozen 3
      obtain ⟨W3, hW3⟩ : ∃ V, V = st4 V1 be (.int .i64 0) (.bool false) (.string ⟨#[]⟩) .nilFunc := ⟨_, rfl⟩
      have hk9 : Blk W3 be 62 [.int .i64 0, .bool false, .string ⟨#[]⟩, .nilFunc] := by rw [hW3]; exact st4_blk HF1.out.kE _ _ _ _
      have HFI : Hid (EffP w p a ⟨kd, fr, to, (br, bn), sl, ⟨⟨np, tk, ct, ep, cut⟩, ao1, cap1⟩, vo, vc, vs, so, sc, seen, eo, ec, evs, ti⟩ (.returned (.tuple #[.agg #[.int .i64 0, .bool false, .string ⟨#[]⟩, .nilFunc], .bool false])) W3) := effP_no (by rw [hW3]; exact HF1.out.bel.trans ((st4_turns V1 be _ _ _ _).below (fun i hi => by rw [hi]; exact HBS.out) HF1.out.bel.size)) HNT.out
      have k0 := hk9.cell (i := 0) rfl
      have k1 := hk9.cell (i := 1) rfl
      have k2 := hk9.cell (i := 2) rfl
      have k3 := hk9.cell (i := 3) rfl
      clear hk9
      go_wp2
      unfold st4 at hW3
      rw [← hW3]
      (try simp only [Exit.inBlock, Exit.then])
      refine bodyPost_ret (v := .tuple #[.agg #[.int .i64 0, .bool false, .string ⟨#[]⟩, .nilFunc], .bool false]) ?_ rfl HFI.out
      rw [results_cell_tmp rfl]
      go_simp
end Go.Proofs.YtfmnbehopdmahaaGreat
