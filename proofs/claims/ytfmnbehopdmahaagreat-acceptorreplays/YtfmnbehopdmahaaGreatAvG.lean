/-
  The document's Msg (pannierref01.Msg); what both writers tell, in one form.
-/
import Derived.Test.YtfmnbehopdmahaaGreatRfD
import Derived.Test.YtfmnbehopdmahaaGreatCuR
import Derived.Test.YtfmnbehopdmahaaGreatAcE
import Derived.Test.YtfmnbehopdmahaaGreatSealA
import Derived.Deep.QuietTactic
import Derived.BigQuiet
namespace Go.Proofs.YtfmnbehopdmahaaGreat
open Go.RowKit Go.Maps

theorem rshort_yes (w : World) (ao : Option Addr) (n cap : Nat) (hn : n ≤ 65536) : Calls Tryz.prog 41 #[.slice ao n cap] w fun e w' => e = .returned (.tuple #[.slice ao n cap, .int .i64 0]) ∧ w' = w := by
  have h : ¬ (65536 : Int) < (n : Int) := by omega
  go_enter Tryz.func41, Tryz.ntmps41
  go_wp2
  go_ret2
  exact ⟨rfl, rfl⟩
theorem rshort_no (w : World) (ao : Option Addr) (n cap : Nat) (hn : ¬ n ≤ 65536) : Calls Tryz.prog 41 #[.slice ao n cap] w fun e w' => e = .returned (.tuple #[.slice none 0 0, .int .i64 3]) ∧ w' = w := by
  have h : (65536 : Int) < (n : Int) := by omega
  go_enter Tryz.func41, Tryz.ntmps41
  go_wp2
  go_ret2
  exact ⟨rfl, rfl⟩
set_option maxRecDepth 1000000 in
set_option maxHeartbeats 2000000 in
theorem refMsg_any (w : World) (x : MsM) (hx : MsOk w x) : Calls Tryz.prog 21 #[x.val] w (MsgP w x) := by
  have HM := hid (fun V (hV : Below w.heap.size w V) => rmsgQ V x (hx.below hV))
  have HE : Hid (RightMs x = true → ∀ V, Below w.heap.size w V → Calls Tryz.prog 42 #[x.val] V (WrP (encMs x) V)) := fun hr V hV => rmsgW V x (rightMs_iff hr) (hx.below hV)
  have HP1 : Hid (RightMs x = false → ∀ V, Below w.heap.size w V → MsgP w x (.returned (.tuple #[.slice none 0 0, .int .i64 1])) V) := fun hr V hV => ⟨hV, by rw [if_neg (by rw [hr]; decide)]⟩
  have HP2 : Hid (RightMs x = true → (encMs x).length ≤ 65536 → ∀ V v, Below w.heap.size w V → V.ownsRow w.heap.size 5 1 v (encMs x).length (nums (encMs x)) → MsgP w x (.returned (.tuple #[v, .int .i64 0])) V) := fun hr hl V v hV ho => ⟨hV, by rw [if_pos hr, if_pos hl]; exact ⟨v, rfl, ho⟩⟩
  have HP3 : Hid (RightMs x = true → ¬ (encMs x).length ≤ 65536 → ∀ V, Below w.heap.size w V → MsgP w x (.returned (.tuple #[.slice none 0 0, .int .i64 3])) V) := fun hr hl V hV => ⟨hV, by rw [if_pos hr, if_neg hl]⟩
  generalize RightMs x = ok at *
  generalize encMs x = bs at *
  obtain ⟨kd, fr, tt, ⟨br, bn⟩, sl, ⟨⟨np, tk, ct, ep, cut⟩, a, c⟩, va, vc, vs, sa, sc, seen, ea, ec, evs, ti⟩ := x
  simp only [MsM.val] at HM HE ⊢
  generalize cut.length = XN at *
  generalize vs.length = VN at *
  generalize seen.length = SN at *
  generalize evs.length = EN at *
  clear hx
  obtain ⟨W, hW⟩ : ∃ W, W = w.alloc (.cells #[.int .i64 kd, .int .i64 fr, .int .i64 tt, .int .i64 br, .int .i64 bn, .int .i64 sl, .bool np, .string tk, .string ct, .int .i64 ep, .slice a XN c, .slice va VN vc, .slice sa SN sc, .slice ea EN ec, .int .i64 ti] 43) := ⟨_, rfl⟩
  have HB : Hid (Below w.heap.size w W) := by rw [hW]; exact (Below.refl _ _).alloc (Nat.le_refl _) _
  have HK : Hid (Blk W w.heap.size 43 [.int .i64 kd, .int .i64 fr, .int .i64 tt, .int .i64 br, .int .i64 bn, .int .i64 sl, .bool np, .string tk, .string ct, .int .i64 ep, .slice a XN c, .slice va VN vc, .slice sa SN sc, .slice ea EN ec, .int .i64 ti]) := by rw [hW]; exact Blk.new w _ _
  have HW := hid hW
  have HCL : Hid (∀ V, Below W.heap.size W V → (V.cell? ⟨w.heap.size, 0, none⟩ = some (.int .i64 kd) ∧ V.cell? ⟨w.heap.size, 1, none⟩ = some (.int .i64 fr) ∧ V.cell? ⟨w.heap.size, 2, none⟩ = some (.int .i64 tt) ∧ V.cell? ⟨w.heap.size, 3, none⟩ = some (.int .i64 br) ∧ V.cell? ⟨w.heap.size, 4, none⟩ = some (.int .i64 bn) ∧ V.cell? ⟨w.heap.size, 5, none⟩ = some (.int .i64 sl) ∧ V.cell? ⟨w.heap.size, 6, none⟩ = some (.bool np) ∧ V.cell? ⟨w.heap.size, 7, none⟩ = some (.string tk) ∧ V.cell? ⟨w.heap.size, 8, none⟩ = some (.string ct) ∧ V.cell? ⟨w.heap.size, 9, none⟩ = some (.int .i64 ep) ∧ V.cell? ⟨w.heap.size, 10, none⟩ = some (.slice a XN c) ∧ V.cell? ⟨w.heap.size, 11, none⟩ = some (.slice va VN vc) ∧ V.cell? ⟨w.heap.size, 12, none⟩ = some (.slice sa SN sc) ∧ V.cell? ⟨w.heap.size, 13, none⟩ = some (.slice ea EN ec) ∧ V.cell? ⟨w.heap.size, 14, none⟩ = some (.int .i64 ti))) := fun V hV => by
    have h := HK.out.below hV HK.out.lt
    exact ⟨h.cell rfl, h.cell rfl, h.cell rfl, h.cell rfl, h.cell rfl, h.cell rfl, h.cell rfl, h.cell rfl, h.cell rfl, h.cell rfl, h.cell rfl, h.cell rfl, h.cell rfl, h.cell rfl, h.cell rfl⟩
  clear hW
  obtain ⟨c0, c1, c2, c3, c4, c5, c6, c7, c8, c9, c10, c11, c12, c13, c14⟩ := HCL.out W (Below.refl _ _)
  rw [HW.out] at c0 c1 c2 c3 c4 c5 c6 c7 c8 c9 c10 c11 c12 c13 c14
  cases ok
  · go_enter Tryz.func21, Tryz.ntmps21
    go_wp2_with fail
    rw [← HW.out]
    refine (HM.out W HB.out).mono ?_
    rintro e w1 ⟨rfl, hb1⟩
    have HB1 := hid (bt' HB.out hb1)
    clear hb1 c0 c1 c2 c3 c4 c5 c6 c7 c8 c9 c10 c11 c12 c13 c14
    go_wp2
    go_ret2
    exact HP1.out (by trivial) _ HB1.out
  · go_enter Tryz.func21, Tryz.ntmps21
    go_wp2_with fail
    rw [← HW.out]
    refine (HM.out W HB.out).mono ?_
    rintro e w1 ⟨rfl, hb1⟩
    have HB1 := hid (bt' HB.out hb1)
    have HQ1 := hid hb1
    clear hb1 c0 c1 c2 c3 c4 c5 c6 c7 c8 c9 c10 c11 c12 c13 c14
    obtain ⟨c0, c1, c2, c3, c4, c5, c6, c7, c8, c9, c10, c11, c12, c13, c14⟩ := HCL.out _ HQ1.out
    go_wp2_with fail
    refine (HE.out (by trivial) _ HB1.out).mono ?_
    rintro e w2 ⟨v2, rfl, ho2, hb2⟩
    have HB2 := hid (bt' HB1.out hb2)
    have HO2 : Hid (w2.ownsRow w.heap.size 5 1 v2 bs.length (nums bs)) := ownsRow_base ho2 HB1.out.size
    obtain ⟨eo, cp, rfl⟩ := own_sliceC ho2
    obtain ⟨N, HN⟩ : ∃ N, Hid (bs.length = N) := ⟨_, hid rfl⟩
    rw [HN.out] at HO2 HP2 HP3 ⊢
    clear hb2 ho2 c0 c1 c2 c3 c4 c5 c6 c7 c8 c9 c10 c11 c12 c13 c14
    by_cases hl : N ≤ 65536
    · have HS := hid (rshort_yes w2 eo N cp hl)
      go_wp2_with fail
      refine HS.out.mono ?_
      rintro e w3 ⟨rfl, hw3⟩
      rw [hw3]
      clear hw3
      go_wp2
      go_ret2
      exact HP2.out (by trivial) hl _ _ HB2.out HO2.out
    · have HS := hid (rshort_no w2 eo N cp hl)
      go_wp2_with fail
      refine HS.out.mono ?_
      rintro e w3 ⟨rfl, hw3⟩
      rw [hw3]
      clear hw3
      go_wp2
      go_ret2
      exact HP3.out (by trivial) hl _ HB2.out
/-- A writer's code and its bytes. -/
def codeMs (x : MsM) : Int := if RightMs x = true then (if (encMs x).length ≤ 65536 then 0 else 3) else 1
def bytesMs (x : MsM) : List Int := if codeMs x = 0 then encMs x else []
def MsgH (w : World) (x : MsM) (e : Ending) (w' : World) : Prop := ∃ ao n cp, e = .returned (.tuple #[.slice ao n cp, .int .i64 (codeMs x)]) ∧ Held w' ao n cp (bytesMs x) ∧ Below w.heap.size w w'
theorem msgH_of {w w' : World} {x : MsM} {e : Ending} (h : MsgP w x e w') : MsgH w x e w' := by
  obtain ⟨h1, h2⟩ := h
  by_cases hr : RightMs x = true
  · rw [if_pos hr] at h2
    by_cases hl : (encMs x).length ≤ 65536
    · rw [if_pos hl] at h2
      have hc : codeMs x = 0 := by unfold codeMs; rw [if_pos hr, if_pos hl]
      have hb : bytesMs x = encMs x := by unfold bytesMs; rw [if_pos hc]
      obtain ⟨v, rfl, h3⟩ := h2
      obtain ⟨ao, cap, rfl, hh⟩ := held_of_own h3 (encMs_byP x)
      exact ⟨ao, _, cap, by rw [hc], by rw [hb]; exact hh, h1⟩
    · rw [if_neg hl] at h2
      have hc : codeMs x = 3 := by unfold codeMs; rw [if_pos hr, if_neg hl]
      have hb : bytesMs x = [] := by unfold bytesMs; rw [if_neg (by rw [hc]; decide)]
      exact ⟨none, 0, 0, by rw [hc]; exact h2, by rw [hb]; exact held_nil _, h1⟩
  · rw [if_neg hr] at h2
    have hc : codeMs x = 1 := by unfold codeMs; rw [if_neg hr]
    have hb : bytesMs x = [] := by unfold bytesMs; rw [if_neg (by rw [hc]; decide)]
    exact ⟨none, 0, 0, by rw [hc]; exact h2, by rw [hb]; exact held_nil _, h1⟩
end Go.Proofs.YtfmnbehopdmahaaGreat
/-
  pannierref16.On of a message that it does not take.
-/
namespace Go.Proofs.YtfmnbehopdmahaaGreat
open Go.RowKit Go.Maps

/-- The document's acceptor, and what it is. -/
structure RaIn (B : Nat) (w : World) (x : Nat) (a : Ac) (xs : List VoM) (ro : Option Addr) (rc : Nat) : Prop where
  ra : RaAt w B x a.node a.pr xs ro rc
  tw : TwV xs a
  gok : AcOk a
theorem RaIn.below {B : Nat} {w w' : World} {x : Nat} {a : Ac} {xs : List VoM} {ro : Option Addr} {rc : Nat} (h : RaIn B w x a xs ro rc) (hb : Below w.heap.size w w') : RaIn B w' x a xs ro rc := ⟨h.ra.below hb, h.tw, h.gok⟩
theorem RaIn.turned {B : Nat} {F : Nat → Prop} {w w' : World} {x : Nat} {a : Ac} {xs : List VoM} {ro : Option Addr} {rc : Nat} (h : RaIn B w x a xs ro rc) (ht : Turns F w w') (hF : ∀ i, F i → B ≤ i) (hi : ∀ i, F i → ∀ cs, ¬ Blk w i 3 cs) (hx : ¬ F x) (hr : ∀ g off, ro = some ⟨g, off, none⟩ → ¬ F g) : RaIn B w' x a xs ro rc := by
  refine ⟨⟨ht.blk h.ra.blk hx, ht.row h.ra.row (fun k hk => ?_), fun z hz => voOk_turned (h.ra.ok z hz) ht (fun b off e hne => (h.ra.low z hz b off e hne).off hF hi), h.ra.few, h.ra.low.turned ht hi, h.ra.bx⟩, h.tw, h.gok⟩
  cases ro with
  | none => cases hk
  | some ad =>
    obtain ⟨g, e, _⟩ := ra_addr h.ra
    subst e
    cases hk
    exact hr g 0 rfl
/-- The document's acceptor behind a call. -/
def RaTo (B : Nat) (w w' : World) (x : Nat) (a : Ac) (ro : Option Addr) : Prop := ∃ xs' ro' rc', RaIn B w' x a xs' ro' rc' ∧ Turns (FootR x ro) w w' ∧ (∀ q, ro' = some q → ro = some q ∨ w.heap.size ≤ q.block)
theorem RaTo.same {B : Nat} {w w' : World} {x : Nat} {a : Ac} {xs : List VoM} {ro : Option Addr} {rc : Nat} (h : RaIn B w x a xs ro rc) (hb : Below w.heap.size w w') : RaTo B w w' x a ro := ⟨xs, ro, rc, h.below hb, Turns.of_below hb (Nat.le_refl _), fun _ e => .inl e⟩
/-- What the document's On leaves. -/
def OnD (B : Nat) (w : World) (x : Nat) (a : Ac) (ro : Option Addr) (X : MsM) (e : Ending) (w' : World) : Prop :=
  if takesA a X = true then ∃ vo vc ys, e = .returned (.tuple #[(ansM (afterA a X) X (kindA a X) vo vc ys).val, .string (if changesA a X = true then recOf X else ⟨#[]⟩), .bool true]) ∧ ys.map VoM.sv = (if kindA a X = 2 then fromTo (afterA a X) X.slot (afterA a X).ks.length else []) ∧ HeldVo w' vo ys ∧ ys.length ≤ 4096 ∧ (∀ b off, vo = some ⟨b, off, none⟩ → w.heap.size ≤ b) ∧ RaTo B w w' x (afterA a X) ro
  else e = .returned (.tuple #[.agg #[.int .i64 0, .int .i64 0, .int .i64 0, .int .i64 0, .int .i64 0, .int .i64 0, .bool false, .string ⟨#[]⟩, .string ⟨#[]⟩, .int .i64 0, .slice none 0 0, .slice none 0 0, .slice none 0 0, .slice none 0 0, .int .i64 0], .string ⟨#[]⟩, .bool false]) ∧ RaTo B w w' x a ro
set_option maxRecDepth 1000000 in
set_option maxHeartbeats 8000000 in
theorem RaIn.on_err {w : World} {B x : Nat} {a : Ac} {xs : List VoM} {ro : Option Addr} {rc : Nat} (h : RaIn B w x a xs ro rc) (hB : B ≤ w.heap.size) (X : MsM) (hx : MsOk w X) (hr : ¬ (RightMs X = true ∧ (encMs X).length ≤ 65536)) : Calls Tryz.prog 10 #[.pointer (some ⟨x, 0, none⟩), X.val] w (OnD B w x a ro X) := by
  have HNT : Hid (¬ takesA a X = true) := fun ht => by
    unfold takesA at ht
    simp only [Bool.and_eq_true, decide_eq_true_eq] at ht
    exact hr ⟨ht.2.2.1, ht.2.2.2⟩
  have HERR : Hid (∀ V e w', MsgP V X e w' → ∃ c, e = .returned (.tuple #[.slice none 0 0, .int .i64 c]) ∧ c ≠ 0 ∧ Below V.heap.size V w') := fun V e w' hP => by
    obtain ⟨h1, h2⟩ := hP
    by_cases hm : RightMs X = true
    · rw [if_pos hm, if_neg (fun hl => hr ⟨hm, hl⟩)] at h2
      exact ⟨3, h2, by decide, h1⟩
    · rw [if_neg hm] at h2
      exact ⟨1, h2, by decide, h1⟩
  clear hr
  obtain ⟨W1, hW1⟩ : ∃ W, W = w.alloc (.cells X.cells.toArray 43) := ⟨_, rfl⟩
  obtain ⟨W, hW⟩ : ∃ W, W = W1.alloc (.cells #[.int .i64 0, .int .i64 0, .int .i64 0, .int .i64 0, .int .i64 0, .int .i64 0, .bool false, .string ⟨#[]⟩, .string ⟨#[]⟩, .int .i64 0, .slice none 0 0, .slice none 0 0, .slice none 0 0, .slice none 0 0, .int .i64 0] 43) := ⟨_, rfl⟩
  have hs1 : W1.heap.size = w.heap.size + 1 := by rw [hW1]; simp
  have hb1 : Below w.heap.size w W1 := by rw [hW1]; exact (Below.refl _ _).alloc (Nat.le_refl _) _
  have HB : Hid (Below w.heap.size w W) := by rw [hW]; exact hb1.alloc hb1.size _
  obtain ⟨bm, hbm⟩ : ∃ q, q = w.heap.size := ⟨_, rfl⟩
  obtain ⟨be, hbe⟩ : ∃ q, q = w.heap.size + 1 := ⟨_, rfl⟩
  have HKM : Hid (Blk W bm 43 X.cells) := by rw [hbm, hW, hW1]; exact (Blk.new w _ _).alloc _
  have HKE : Hid (Blk W be 43 [.int .i64 0, .int .i64 0, .int .i64 0, .int .i64 0, .int .i64 0, .int .i64 0, .bool false, .string ⟨#[]⟩, .string ⟨#[]⟩, .int .i64 0, .slice none 0 0, .slice none 0 0, .slice none 0 0, .slice none 0 0, .int .i64 0]) := by rw [hbe, hW, ← hs1]; exact Blk.new W1 _ _
  have HIN := hid (h.below HB.out)
  have HMS := hid (refMsg_any W X (hx.below HB.out))
  have HW : Hid (W = (w.alloc (.cells X.cells.toArray 43)).alloc (.cells #[.int .i64 0, .int .i64 0, .int .i64 0, .int .i64 0, .int .i64 0, .int .i64 0, .bool false, .string ⟨#[]⟩, .string ⟨#[]⟩, .int .i64 0, .slice none 0 0, .slice none 0 0, .slice none 0 0, .slice none 0 0, .int .i64 0] 43)) := by show _ = _; rw [hW, hW1]
  have HBM := hid hbm
  have HBE := hid hbe
  have HBS : Hid (w.heap.size ≤ be ∧ w.heap.size ≤ bm ∧ bm ≠ be) := ⟨by omega, by omega, by omega⟩
  have HBW := hid hB
  have HPL : Hid (x < w.heap.size ∧ ∀ g off, ro = some ⟨g, off, none⟩ → g < w.heap.size) := ⟨h.ra.blk.lt, fun g off e => by subst e; obtain ⟨g', e, _, h1⟩ := ra_addr h.ra; cases e; exact h1⟩
  obtain ⟨nd, HND⟩ : ∃ q, Hid (a.node = q) := ⟨_, hid rfl⟩
  clear h hW hW1 hs1 hb1 hbm hbe hx hB
  obtain ⟨kd, fr, to, ⟨br, bn⟩, sl, ⟨⟨np, tk, ct, ep, cut⟩, ao1, cap1⟩, vo, vc, vs, so, sc, seen, eo, ec, evs, ti⟩ := X
  obtain ⟨XN, HXN⟩ : ∃ m, Hid (cut.length = m) := ⟨_, hid rfl⟩
  obtain ⟨VN, HVN⟩ : ∃ m, Hid (vs.length = m) := ⟨_, hid rfl⟩
  obtain ⟨SN, HSN⟩ : ∃ m, Hid (seen.length = m) := ⟨_, hid rfl⟩
  obtain ⟨EN, HEN⟩ : ∃ m, Hid (evs.length = m) := ⟨_, hid rfl⟩
  simp only [MsM.val, MsM.cells] at HW HKM HMS ⊢
  rw [HXN.out, HVN.out, HSN.out, HEN.out] at HW HKM HMS
  rw [HXN.out, HVN.out, HSN.out, HEN.out]
  have q0 := HKM.out.cell (i := 0) rfl
  have q1 := HKM.out.cell (i := 1) rfl
  have q2 := HKM.out.cell (i := 2) rfl
  have q3 := HKM.out.cell (i := 3) rfl
  have q4 := HKM.out.cell (i := 4) rfl
  have q5 := HKM.out.cell (i := 5) rfl
  have q6 := HKM.out.cell (i := 6) rfl
  have q7 := HKM.out.cell (i := 7) rfl
  have q8 := HKM.out.cell (i := 8) rfl
  have q9 := HKM.out.cell (i := 9) rfl
  have q10 := HKM.out.cell (i := 10) rfl
  have q11 := HKM.out.cell (i := 11) rfl
  have q12 := HKM.out.cell (i := 12) rfl
  have q13 := HKM.out.cell (i := 13) rfl
  have q14 := HKM.out.cell (i := 14) rfl
  go_enter Tryz.func10, Tryz.ntmps10
  go_wp2_with fail
  rw [← HW.out, ← HBE.out, ← HBM.out]
  refine HMS.out.mono ?_
  intro e w2 hP
  obtain ⟨c, rfl, hc, hb2⟩ := HERR.out _ _ _ hP
  clear hP
  have hc2 : (c != 0) = true := bne_iff_ne.2 hc
  clear q0 q1 q2 q3 q4 q5 q6 q7 q8 q9 q10 q11 q12 q13 q14
  have hkm := HKM.out.below hb2 HKM.out.lt
  have m0 := hkm.cell (i := 0) rfl
  have m2 := hkm.cell (i := 2) rfl
  have c0 := (HIN.out.below hb2).ra.blk.cell (i := 0) rfl
  rw [HND.out] at c0
  have HB2 := hid hb2
  clear hkm hb2
  go_wp2
  go_quiet (fail)
  obtain ⟨U, hU⟩ : ∃ U, U = w2.drewN nq := ⟨_, rfl⟩
  have HBU : Hid (Below W.heap.size W U) := by rw [hU]; exact below_dn HB2.out _
  rw [← hU]
  clear hU m0 m2 c0
  have he2 := HKE.out.below HBU.out HKE.out.lt
  have e0 := he2.cell (i := 0) rfl
  have e1 := he2.cell (i := 1) rfl
  have e2 := he2.cell (i := 2) rfl
  have e3 := he2.cell (i := 3) rfl
  have e4 := he2.cell (i := 4) rfl
  have e5 := he2.cell (i := 5) rfl
  have e6 := he2.cell (i := 6) rfl
  have e7 := he2.cell (i := 7) rfl
  have e8 := he2.cell (i := 8) rfl
  have e9 := he2.cell (i := 9) rfl
  have e10 := he2.cell (i := 10) rfl
  have e11 := he2.cell (i := 11) rfl
  have e12 := he2.cell (i := 12) rfl
  have e13 := he2.cell (i := 13) rfl
  have e14 := he2.cell (i := 14) rfl
  have g0 := he2.frozen 0
  have g1 := he2.frozen 1
  have g2 := he2.frozen 2
  have g3 := he2.frozen 3
  have g4 := he2.frozen 4
  have g5 := he2.frozen 5
  have g6 := he2.frozen 6
  have g7 := he2.frozen 7
  have g8 := he2.frozen 8
  have g9 := he2.frozen 9
  have g10 := he2.frozen 10
  have g11 := he2.frozen 11
  have g12 := he2.frozen 12
  have g13 := he2.frozen 13
  have g14 := he2.frozen 14
  obtain ⟨W3, hW3⟩ : ∃ V, V = st15 U be (.int .i64 0) (.int .i64 0) (.int .i64 0) (.int .i64 0) (.int .i64 0) (.int .i64 0) (.bool false) (.string ⟨#[]⟩) (.string ⟨#[]⟩) (.int .i64 0) (.slice none 0 0) (.slice none 0 0) (.slice none 0 0) (.slice none 0 0) (.int .i64 0) := ⟨_, rfl⟩
  have hk9 : Blk W3 be 43 [.int .i64 0, .int .i64 0, .int .i64 0, .int .i64 0, .int .i64 0, .int .i64 0, .bool false, .string ⟨#[]⟩, .string ⟨#[]⟩, .int .i64 0, .slice none 0 0, .slice none 0 0, .slice none 0 0, .slice none 0 0, .int .i64 0] := by rw [hW3]; exact st15_blk he2 _ _ _ _ _ _ _ _ _ _ _ _ _ _ _
  have hT3 : Turns (fun i => i = be) U W3 := by rw [hW3]; exact st15_turns _ _ _ _ _ _ _ _ _ _ _ _ _ _ _ _ _
  have HFI : Hid (OnD B w x a ro ⟨kd, fr, to, (br, bn), sl, ⟨⟨np, tk, ct, ep, cut⟩, ao1, cap1⟩, vo, vc, vs, so, sc, seen, eo, ec, evs, ti⟩ (.returned (.tuple #[.agg #[.int .i64 0, .int .i64 0, .int .i64 0, .int .i64 0, .int .i64 0, .int .i64 0, .bool false, .string ⟨#[]⟩, .string ⟨#[]⟩, .int .i64 0, .slice none 0 0, .slice none 0 0, .slice none 0 0, .slice none 0 0, .int .i64 0], .string ⟨#[]⟩, .bool false])) W3) := by
    unfold OnD
    rw [if_neg HNT.out]
    have hbw : Below w.heap.size w W3 := (bt' HB.out HBU.out).trans (hT3.below (fun i hi => by rw [hi]; exact HBS.out.1) (bt' HB.out HBU.out).size)
    have hin := (HIN.out.below HBU.out).turned hT3 (fun i hi => by rw [hi]; have := HBS.out.1; have := HBW.out; omega) (fun i hi cs hc => by subst hi; exact blk_neH he2 hc (by decide) rfl) (fun e => by have := HPL.out.1; have := HBS.out.1; omega) (fun g off e e2 => by have := HPL.out.2 g off e; have := HBS.out.1; omega)
    exact ⟨rfl, _, _, _, hin, Turns.of_below hbw (Nat.le_refl _), fun _ e => .inl e⟩
  have k0 := hk9.cell (i := 0) rfl
  have k1 := hk9.cell (i := 1) rfl
  have k2 := hk9.cell (i := 2) rfl
  have k3 := hk9.cell (i := 3) rfl
  have k4 := hk9.cell (i := 4) rfl
  have k5 := hk9.cell (i := 5) rfl
  have k6 := hk9.cell (i := 6) rfl
  have k7 := hk9.cell (i := 7) rfl
  have k8 := hk9.cell (i := 8) rfl
  have k9 := hk9.cell (i := 9) rfl
  have k10 := hk9.cell (i := 10) rfl
  have k11 := hk9.cell (i := 11) rfl
  have k12 := hk9.cell (i := 12) rfl
  have k13 := hk9.cell (i := 13) rfl
  have k14 := hk9.cell (i := 14) rfl
  clear hk9 hT3 he2
  go_wp2
  unfold st15 at hW3
  rw [← hW3]
  (try simp only [Exit.inBlock, Exit.then])
  refine bodyPost_ret (v := .tuple #[.agg #[.int .i64 0, .int .i64 0, .int .i64 0, .int .i64 0, .int .i64 0, .int .i64 0, .bool false, .string ⟨#[]⟩, .string ⟨#[]⟩, .int .i64 0, .slice none 0 0, .slice none 0 0, .slice none 0 0, .slice none 0 0, .int .i64 0], .string ⟨#[]⟩, .bool false]) ?_ rfl HFI.out
  rw [results_cellA3 rfl]
  go_simp
set_option maxRecDepth 1000000 in
set_option maxHeartbeats 8000000 in
theorem RaIn.on_other {w : World} {B x : Nat} {a : Ac} {xs : List VoM} {ro : Option Addr} {rc : Nat} (h : RaIn B w x a xs ro rc) (hB : B ≤ w.heap.size) (X : MsM) (hx : MsOk w X) (hr : RightMs X = true ∧ (encMs X).length ≤ 65536) (hnt : ¬ takesA a X = true) : Calls Tryz.prog 10 #[.pointer (some ⟨x, 0, none⟩), X.val] w (OnD B w x a ro X) := by
  have HNT := hid hnt
  have HOK : Hid (∀ V e w', MsgP V X e w' → ∃ ao cp, e = .returned (.tuple #[.slice ao (encMs X).length cp, .int .i64 0]) ∧ Below V.heap.size V w') := fun V e w' hP => by
    obtain ⟨h1, h2⟩ := hP
    rw [if_pos hr.1, if_pos hr.2] at h2
    obtain ⟨v, h3, h4⟩ := h2
    rcases h4.2 with ⟨hv, h0⟩ | ⟨g, cap, cur, hv, _⟩
    · exact ⟨none, 0, by rw [h3, hv, h0], h1⟩
    · exact ⟨_, _, by rw [h3, hv], h1⟩
  obtain ⟨EL, HEL⟩ : ∃ m, Hid ((encMs X).length = m) := ⟨_, hid rfl⟩
  rw [HEL.out] at HOK
  have HWHY : Hid (X.to ≠ a.node ∨ (X.to = a.node ∧ X.kind ≠ 1 ∧ X.kind ≠ 3)) := by
    by_cases h1 : X.to = a.node
    · refine .inr ⟨h1, fun e => hnt ?_, fun e => hnt ?_⟩ <;> (unfold takesA; simp [h1, e, hr.1, hr.2])
    · exact .inl h1
  clear hr hnt
  obtain ⟨W1, hW1⟩ : ∃ W, W = w.alloc (.cells X.cells.toArray 43) := ⟨_, rfl⟩
  obtain ⟨W, hW⟩ : ∃ W, W = W1.alloc (.cells #[.int .i64 0, .int .i64 0, .int .i64 0, .int .i64 0, .int .i64 0, .int .i64 0, .bool false, .string ⟨#[]⟩, .string ⟨#[]⟩, .int .i64 0, .slice none 0 0, .slice none 0 0, .slice none 0 0, .slice none 0 0, .int .i64 0] 43) := ⟨_, rfl⟩
  have hs1 : W1.heap.size = w.heap.size + 1 := by rw [hW1]; simp
  have hb1 : Below w.heap.size w W1 := by rw [hW1]; exact (Below.refl _ _).alloc (Nat.le_refl _) _
  have HB : Hid (Below w.heap.size w W) := by rw [hW]; exact hb1.alloc hb1.size _
  obtain ⟨bm, hbm⟩ : ∃ q, q = w.heap.size := ⟨_, rfl⟩
  obtain ⟨be, hbe⟩ : ∃ q, q = w.heap.size + 1 := ⟨_, rfl⟩
  have HKM : Hid (Blk W bm 43 X.cells) := by rw [hbm, hW, hW1]; exact (Blk.new w _ _).alloc _
  have HKE : Hid (Blk W be 43 [.int .i64 0, .int .i64 0, .int .i64 0, .int .i64 0, .int .i64 0, .int .i64 0, .bool false, .string ⟨#[]⟩, .string ⟨#[]⟩, .int .i64 0, .slice none 0 0, .slice none 0 0, .slice none 0 0, .slice none 0 0, .int .i64 0]) := by rw [hbe, hW, ← hs1]; exact Blk.new W1 _ _
  have HIN := hid (h.below HB.out)
  have HMS := hid (refMsg_any W X (hx.below HB.out))
  have HW : Hid (W = (w.alloc (.cells X.cells.toArray 43)).alloc (.cells #[.int .i64 0, .int .i64 0, .int .i64 0, .int .i64 0, .int .i64 0, .int .i64 0, .bool false, .string ⟨#[]⟩, .string ⟨#[]⟩, .int .i64 0, .slice none 0 0, .slice none 0 0, .slice none 0 0, .slice none 0 0, .int .i64 0] 43)) := by show _ = _; rw [hW, hW1]
  have HBM := hid hbm
  have HBE := hid hbe
  have HBS : Hid (w.heap.size ≤ be ∧ w.heap.size ≤ bm ∧ bm ≠ be) := ⟨by omega, by omega, by omega⟩
  have HBW := hid hB
  have HPL : Hid (x < w.heap.size ∧ ∀ g off, ro = some ⟨g, off, none⟩ → g < w.heap.size) := ⟨h.ra.blk.lt, fun g off e => by subst e; obtain ⟨g', e, _, h1⟩ := ra_addr h.ra; cases e; exact h1⟩
  obtain ⟨nd, HND⟩ : ∃ q, Hid (a.node = q) := ⟨_, hid rfl⟩
  clear h hW hW1 hs1 hb1 hbm hbe hx hB
  obtain ⟨kd, fr, to, ⟨br, bn⟩, sl, ⟨⟨np, tk, ct, ep, cut⟩, ao1, cap1⟩, vo, vc, vs, so, sc, seen, eo, ec, evs, ti⟩ := X
  obtain ⟨XN, HXN⟩ : ∃ m, Hid (cut.length = m) := ⟨_, hid rfl⟩
  obtain ⟨VN, HVN⟩ : ∃ m, Hid (vs.length = m) := ⟨_, hid rfl⟩
  obtain ⟨SN, HSN⟩ : ∃ m, Hid (seen.length = m) := ⟨_, hid rfl⟩
  obtain ⟨EN, HEN⟩ : ∃ m, Hid (evs.length = m) := ⟨_, hid rfl⟩
  simp only [MsM.val, MsM.cells] at HW HKM HMS ⊢
  rw [HXN.out, HVN.out, HSN.out, HEN.out] at HW HKM HMS
  rw [HXN.out, HVN.out, HSN.out, HEN.out]
  have q0 := HKM.out.cell (i := 0) rfl
  have q1 := HKM.out.cell (i := 1) rfl
  have q2 := HKM.out.cell (i := 2) rfl
  have q3 := HKM.out.cell (i := 3) rfl
  have q4 := HKM.out.cell (i := 4) rfl
  have q5 := HKM.out.cell (i := 5) rfl
  have q6 := HKM.out.cell (i := 6) rfl
  have q7 := HKM.out.cell (i := 7) rfl
  have q8 := HKM.out.cell (i := 8) rfl
  have q9 := HKM.out.cell (i := 9) rfl
  have q10 := HKM.out.cell (i := 10) rfl
  have q11 := HKM.out.cell (i := 11) rfl
  have q12 := HKM.out.cell (i := 12) rfl
  have q13 := HKM.out.cell (i := 13) rfl
  have q14 := HKM.out.cell (i := 14) rfl
  simp only at HWHY
  rw [HND.out] at HWHY
  go_enter Tryz.func10, Tryz.ntmps10
  go_wp2_with fail
  rw [← HW.out, ← HBE.out, ← HBM.out]
  refine HMS.out.mono ?_
  intro e w2 hP
  obtain ⟨mo, mc, rfl, hb2⟩ := HOK.out _ _ _ hP
  clear hP
  clear q0 q1 q2 q3 q4 q5 q6 q7 q8 q9 q10 q11 q12 q13 q14
  rcases HWHY.out with h1 | ⟨h1, h2, h3⟩
  · have h4 : (to != nd) = true := bne_iff_ne.2 h1
    have hkm := HKM.out.below hb2 HKM.out.lt
    have m0 := hkm.cell (i := 0) rfl
    have m2 := hkm.cell (i := 2) rfl
    have c0 := (HIN.out.below hb2).ra.blk.cell (i := 0) rfl
    rw [HND.out] at c0
    have HB2 := hid hb2
    clear hkm hb2
    go_wp2
    go_quiet (fail)
    obtain ⟨U, hU⟩ : ∃ U, U = w2.drewN nq := ⟨_, rfl⟩
    have HBU : Hid (Below W.heap.size W U) := by rw [hU]; exact below_dn HB2.out _
    rw [← hU]
    clear hU m0 m2 c0
    have he2 := HKE.out.below HBU.out HKE.out.lt
    have e0 := he2.cell (i := 0) rfl
    have e1 := he2.cell (i := 1) rfl
    have e2 := he2.cell (i := 2) rfl
    have e3 := he2.cell (i := 3) rfl
    have e4 := he2.cell (i := 4) rfl
    have e5 := he2.cell (i := 5) rfl
    have e6 := he2.cell (i := 6) rfl
    have e7 := he2.cell (i := 7) rfl
    have e8 := he2.cell (i := 8) rfl
    have e9 := he2.cell (i := 9) rfl
    have e10 := he2.cell (i := 10) rfl
    have e11 := he2.cell (i := 11) rfl
    have e12 := he2.cell (i := 12) rfl
    have e13 := he2.cell (i := 13) rfl
    have e14 := he2.cell (i := 14) rfl
    have g0 := he2.frozen 0
    have g1 := he2.frozen 1
    have g2 := he2.frozen 2
    have g3 := he2.frozen 3
    have g4 := he2.frozen 4
    have g5 := he2.frozen 5
    have g6 := he2.frozen 6
    have g7 := he2.frozen 7
    have g8 := he2.frozen 8
    have g9 := he2.frozen 9
    have g10 := he2.frozen 10
    have g11 := he2.frozen 11
    have g12 := he2.frozen 12
    have g13 := he2.frozen 13
    have g14 := he2.frozen 14
    obtain ⟨W3, hW3⟩ : ∃ V, V = st15 U be (.int .i64 0) (.int .i64 0) (.int .i64 0) (.int .i64 0) (.int .i64 0) (.int .i64 0) (.bool false) (.string ⟨#[]⟩) (.string ⟨#[]⟩) (.int .i64 0) (.slice none 0 0) (.slice none 0 0) (.slice none 0 0) (.slice none 0 0) (.int .i64 0) := ⟨_, rfl⟩
    have hk9 : Blk W3 be 43 [.int .i64 0, .int .i64 0, .int .i64 0, .int .i64 0, .int .i64 0, .int .i64 0, .bool false, .string ⟨#[]⟩, .string ⟨#[]⟩, .int .i64 0, .slice none 0 0, .slice none 0 0, .slice none 0 0, .slice none 0 0, .int .i64 0] := by rw [hW3]; exact st15_blk he2 _ _ _ _ _ _ _ _ _ _ _ _ _ _ _
    have hT3 : Turns (fun i => i = be) U W3 := by rw [hW3]; exact st15_turns _ _ _ _ _ _ _ _ _ _ _ _ _ _ _ _ _
    have HFI : Hid (OnD B w x a ro ⟨kd, fr, to, (br, bn), sl, ⟨⟨np, tk, ct, ep, cut⟩, ao1, cap1⟩, vo, vc, vs, so, sc, seen, eo, ec, evs, ti⟩ (.returned (.tuple #[.agg #[.int .i64 0, .int .i64 0, .int .i64 0, .int .i64 0, .int .i64 0, .int .i64 0, .bool false, .string ⟨#[]⟩, .string ⟨#[]⟩, .int .i64 0, .slice none 0 0, .slice none 0 0, .slice none 0 0, .slice none 0 0, .int .i64 0], .string ⟨#[]⟩, .bool false])) W3) := by
      unfold OnD
      rw [if_neg HNT.out]
      have hbw : Below w.heap.size w W3 := (bt' HB.out HBU.out).trans (hT3.below (fun i hi => by rw [hi]; exact HBS.out.1) (bt' HB.out HBU.out).size)
      have hin := (HIN.out.below HBU.out).turned hT3 (fun i hi => by rw [hi]; have := HBS.out.1; have := HBW.out; omega) (fun i hi cs hc => by subst hi; exact blk_neH he2 hc (by decide) rfl) (fun e => by have := HPL.out.1; have := HBS.out.1; omega) (fun g off e e2 => by have := HPL.out.2 g off e; have := HBS.out.1; omega)
      exact ⟨rfl, _, _, _, hin, Turns.of_below hbw (Nat.le_refl _), fun _ e => .inl e⟩
    have k0 := hk9.cell (i := 0) rfl
    have k1 := hk9.cell (i := 1) rfl
    have k2 := hk9.cell (i := 2) rfl
    have k3 := hk9.cell (i := 3) rfl
    have k4 := hk9.cell (i := 4) rfl
    have k5 := hk9.cell (i := 5) rfl
    have k6 := hk9.cell (i := 6) rfl
    have k7 := hk9.cell (i := 7) rfl
    have k8 := hk9.cell (i := 8) rfl
    have k9 := hk9.cell (i := 9) rfl
    have k10 := hk9.cell (i := 10) rfl
    have k11 := hk9.cell (i := 11) rfl
    have k12 := hk9.cell (i := 12) rfl
    have k13 := hk9.cell (i := 13) rfl
    have k14 := hk9.cell (i := 14) rfl
    clear hk9 hT3 he2
    go_wp2
    unfold st15 at hW3
    rw [← hW3]
    (try simp only [Exit.inBlock, Exit.then])
    refine bodyPost_ret (v := .tuple #[.agg #[.int .i64 0, .int .i64 0, .int .i64 0, .int .i64 0, .int .i64 0, .int .i64 0, .bool false, .string ⟨#[]⟩, .string ⟨#[]⟩, .int .i64 0, .slice none 0 0, .slice none 0 0, .slice none 0 0, .slice none 0 0, .int .i64 0], .string ⟨#[]⟩, .bool false]) ?_ rfl HFI.out
    rw [results_cellA3 rfl]
    go_simp
  · subst h1
    have h4 : (kd != 1) = true := bne_iff_ne.2 h2
    have h5 : (kd != 3) = true := bne_iff_ne.2 h3
    have hkm := HKM.out.below hb2 HKM.out.lt
    have m0 := hkm.cell (i := 0) rfl
    have m2 := hkm.cell (i := 2) rfl
    have c0 := (HIN.out.below hb2).ra.blk.cell (i := 0) rfl
    rw [HND.out] at c0
    have HB2 := hid hb2
    clear hkm hb2
    go_wp2
    go_quiet (fail)
    obtain ⟨U, hU⟩ : ∃ U, U = w2.drewN nq := ⟨_, rfl⟩
    have HBU : Hid (Below W.heap.size W U) := by rw [hU]; exact below_dn HB2.out _
    rw [← hU]
    clear hU m0 m2 c0
    have he2 := HKE.out.below HBU.out HKE.out.lt
    have e0 := he2.cell (i := 0) rfl
    have e1 := he2.cell (i := 1) rfl
    have e2 := he2.cell (i := 2) rfl
    have e3 := he2.cell (i := 3) rfl
    have e4 := he2.cell (i := 4) rfl
    have e5 := he2.cell (i := 5) rfl
    have e6 := he2.cell (i := 6) rfl
    have e7 := he2.cell (i := 7) rfl
    have e8 := he2.cell (i := 8) rfl
    have e9 := he2.cell (i := 9) rfl
    have e10 := he2.cell (i := 10) rfl
    have e11 := he2.cell (i := 11) rfl
    have e12 := he2.cell (i := 12) rfl
    have e13 := he2.cell (i := 13) rfl
    have e14 := he2.cell (i := 14) rfl
    have g0 := he2.frozen 0
    have g1 := he2.frozen 1
    have g2 := he2.frozen 2
    have g3 := he2.frozen 3
    have g4 := he2.frozen 4
    have g5 := he2.frozen 5
    have g6 := he2.frozen 6
    have g7 := he2.frozen 7
    have g8 := he2.frozen 8
    have g9 := he2.frozen 9
    have g10 := he2.frozen 10
    have g11 := he2.frozen 11
    have g12 := he2.frozen 12
    have g13 := he2.frozen 13
    have g14 := he2.frozen 14
    obtain ⟨W3, hW3⟩ : ∃ V, V = st15 U be (.int .i64 0) (.int .i64 0) (.int .i64 0) (.int .i64 0) (.int .i64 0) (.int .i64 0) (.bool false) (.string ⟨#[]⟩) (.string ⟨#[]⟩) (.int .i64 0) (.slice none 0 0) (.slice none 0 0) (.slice none 0 0) (.slice none 0 0) (.int .i64 0) := ⟨_, rfl⟩
    have hk9 : Blk W3 be 43 [.int .i64 0, .int .i64 0, .int .i64 0, .int .i64 0, .int .i64 0, .int .i64 0, .bool false, .string ⟨#[]⟩, .string ⟨#[]⟩, .int .i64 0, .slice none 0 0, .slice none 0 0, .slice none 0 0, .slice none 0 0, .int .i64 0] := by rw [hW3]; exact st15_blk he2 _ _ _ _ _ _ _ _ _ _ _ _ _ _ _
    have hT3 : Turns (fun i => i = be) U W3 := by rw [hW3]; exact st15_turns _ _ _ _ _ _ _ _ _ _ _ _ _ _ _ _ _
    have HFI : Hid (OnD B w x a ro ⟨kd, fr, to, (br, bn), sl, ⟨⟨np, tk, ct, ep, cut⟩, ao1, cap1⟩, vo, vc, vs, so, sc, seen, eo, ec, evs, ti⟩ (.returned (.tuple #[.agg #[.int .i64 0, .int .i64 0, .int .i64 0, .int .i64 0, .int .i64 0, .int .i64 0, .bool false, .string ⟨#[]⟩, .string ⟨#[]⟩, .int .i64 0, .slice none 0 0, .slice none 0 0, .slice none 0 0, .slice none 0 0, .int .i64 0], .string ⟨#[]⟩, .bool false])) W3) := by
      unfold OnD
      rw [if_neg HNT.out]
      have hbw : Below w.heap.size w W3 := (bt' HB.out HBU.out).trans (hT3.below (fun i hi => by rw [hi]; exact HBS.out.1) (bt' HB.out HBU.out).size)
      have hin := (HIN.out.below HBU.out).turned hT3 (fun i hi => by rw [hi]; have := HBS.out.1; have := HBW.out; omega) (fun i hi cs hc => by subst hi; exact blk_neH he2 hc (by decide) rfl) (fun e => by have := HPL.out.1; have := HBS.out.1; omega) (fun g off e e2 => by have := HPL.out.2 g off e; have := HBS.out.1; omega)
      exact ⟨rfl, _, _, _, hin, Turns.of_below hbw (Nat.le_refl _), fun _ e => .inl e⟩
    have k0 := hk9.cell (i := 0) rfl
    have k1 := hk9.cell (i := 1) rfl
    have k2 := hk9.cell (i := 2) rfl
    have k3 := hk9.cell (i := 3) rfl
    have k4 := hk9.cell (i := 4) rfl
    have k5 := hk9.cell (i := 5) rfl
    have k6 := hk9.cell (i := 6) rfl
    have k7 := hk9.cell (i := 7) rfl
    have k8 := hk9.cell (i := 8) rfl
    have k9 := hk9.cell (i := 9) rfl
    have k10 := hk9.cell (i := 10) rfl
    have k11 := hk9.cell (i := 11) rfl
    have k12 := hk9.cell (i := 12) rfl
    have k13 := hk9.cell (i := 13) rfl
    have k14 := hk9.cell (i := 14) rfl
    clear hk9 hT3 he2
    go_wp2
    unfold st15 at hW3
    rw [← hW3]
    (try simp only [Exit.inBlock, Exit.then])
    refine bodyPost_ret (v := .tuple #[.agg #[.int .i64 0, .int .i64 0, .int .i64 0, .int .i64 0, .int .i64 0, .int .i64 0, .bool false, .string ⟨#[]⟩, .string ⟨#[]⟩, .int .i64 0, .slice none 0 0, .slice none 0 0, .slice none 0 0, .slice none 0 0, .int .i64 0], .string ⟨#[]⟩, .bool false]) ?_ rfl HFI.out
    rw [results_cellA3 rfl]
    go_simp
end Go.Proofs.YtfmnbehopdmahaaGreat
