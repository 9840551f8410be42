/-
  The document's Msg (pannierref01.Msg); what both writers tell, in one form.
-/
import Derived.Test.YtfmnbehopdmahaaGreatRfD
import Derived.Test.YtfmnbehopdmahaaGreatCuR
import Derived.Test.YtfmnbehopdmahaaGreatSealA
import Derived.Test.YtfmnbehopdmahaaGreatAcJa
import Derived.Deep.QuietTactic
import Derived.BigQuiet
import Derived.Test.YtfmnbehopdmahaaGreatVoOpen
namespace Go.Proofs.YtfmnbehopdmahaaGreat
open Go.RowKit Go.Maps

theorem rshort_yes (w : World) (ao : Option Addr) (n cap : Nat) (hn : n ≤ 65536) : Calls Tryz.prog 41 #[.slice ao n cap] w fun e w' => e = .returned (.tuple #[.slice ao n cap, .int .i64 0]) ∧ w' = w := by
  have h : ¬ (65536 : Int) < (n : Int) := by omega
  go_enter Tryz.func41, Tryz.ntmps41
  go_wp2
  go_ret2
  exact ⟨rfl, rfl⟩
theorem rshort_no (w : World) (ao : Option Addr) (n cap : Nat) (hn : ¬ n ≤ 65536) : Calls Tryz.prog 41 #[.slice ao n cap] w fun e w' => e = .returned (.tuple #[.slice none 0 0, .int .i64 3]) ∧ w' = w := by
  have h : (65536 : Int) < (n : Int) := by omega
  go_enter Tryz.func41, Tryz.ntmps41
  go_wp2
  go_ret2
  exact ⟨rfl, rfl⟩
set_option maxRecDepth 1000000 in
set_option maxHeartbeats 2000000 in
theorem refMsg_any (w : World) (x : MsM) (hx : MsOk w x) : Calls Tryz.prog 21 #[x.val] w (MsgP w x) := by
  have HM := hid (fun V (hV : Below w.heap.size w V) => rmsgQ V x (hx.below hV))
  have HE : Hid (RightMs x = true → ∀ V, Below w.heap.size w V → Calls Tryz.prog 42 #[x.val] V (WrP (encMs x) V)) := fun hr V hV => rmsgW V x (rightMs_iff hr) (hx.below hV)
  have HP1 : Hid (RightMs x = false → ∀ V, Below w.heap.size w V → MsgP w x (.returned (.tuple #[.slice none 0 0, .int .i64 1])) V) := fun hr V hV => ⟨hV, by rw [if_neg (by rw [hr]; decide)]⟩
  have HP2 : Hid (RightMs x = true → (encMs x).length ≤ 65536 → ∀ V v, Below w.heap.size w V → V.ownsRow w.heap.size 5 1 v (encMs x).length (nums (encMs x)) → MsgP w x (.returned (.tuple #[v, .int .i64 0])) V) := fun hr hl V v hV ho => ⟨hV, by rw [if_pos hr, if_pos hl]; exact ⟨v, rfl, ho⟩⟩
  have HP3 : Hid (RightMs x = true → ¬ (encMs x).length ≤ 65536 → ∀ V, Below w.heap.size w V → MsgP w x (.returned (.tuple #[.slice none 0 0, .int .i64 3])) V) := fun hr hl V hV => ⟨hV, by rw [if_pos hr, if_neg hl]⟩
  generalize RightMs x = ok at *
  generalize encMs x = bs at *
  obtain ⟨kd, fr, tt, ⟨br, bn⟩, sl, ⟨⟨np, tk, ct, ep, cut⟩, a, c⟩, va, vc, vs, sa, sc, seen, ea, ec, evs, ti⟩ := x
  simp only [MsM.val] at HM HE ⊢
  generalize cut.length = XN at *
  generalize vs.length = VN at *
  generalize seen.length = SN at *
  generalize evs.length = EN at *
  clear hx
  obtain ⟨W, hW⟩ : ∃ W, W = w.alloc (.cells #[.int .i64 kd, .int .i64 fr, .int .i64 tt, .int .i64 br, .int .i64 bn, .int .i64 sl, .bool np, .string tk, .string ct, .int .i64 ep, .slice a XN c, .slice va VN vc, .slice sa SN sc, .slice ea EN ec, .int .i64 ti] 43) := ⟨_, rfl⟩
  have HB : Hid (Below w.heap.size w W) := by rw [hW]; exact (Below.refl _ _).alloc (Nat.le_refl _) _
  have HK : Hid (Blk W w.heap.size 43 [.int .i64 kd, .int .i64 fr, .int .i64 tt, .int .i64 br, .int .i64 bn, .int .i64 sl, .bool np, .string tk, .string ct, .int .i64 ep, .slice a XN c, .slice va VN vc, .slice sa SN sc, .slice ea EN ec, .int .i64 ti]) := by rw [hW]; exact Blk.new w _ _
  have HW := hid hW
  have HCL : Hid (∀ V, Below W.heap.size W V → (V.cell? ⟨w.heap.size, 0, none⟩ = some (.int .i64 kd) ∧ V.cell? ⟨w.heap.size, 1, none⟩ = some (.int .i64 fr) ∧ V.cell? ⟨w.heap.size, 2, none⟩ = some (.int .i64 tt) ∧ V.cell? ⟨w.heap.size, 3, none⟩ = some (.int .i64 br) ∧ V.cell? ⟨w.heap.size, 4, none⟩ = some (.int .i64 bn) ∧ V.cell? ⟨w.heap.size, 5, none⟩ = some (.int .i64 sl) ∧ V.cell? ⟨w.heap.size, 6, none⟩ = some (.bool np) ∧ V.cell? ⟨w.heap.size, 7, none⟩ = some (.string tk) ∧ V.cell? ⟨w.heap.size, 8, none⟩ = some (.string ct) ∧ V.cell? ⟨w.heap.size, 9, none⟩ = some (.int .i64 ep) ∧ V.cell? ⟨w.heap.size, 10, none⟩ = some (.slice a XN c) ∧ V.cell? ⟨w.heap.size, 11, none⟩ = some (.slice va VN vc) ∧ V.cell? ⟨w.heap.size, 12, none⟩ = some (.slice sa SN sc) ∧ V.cell? ⟨w.heap.size, 13, none⟩ = some (.slice ea EN ec) ∧ V.cell? ⟨w.heap.size, 14, none⟩ = some (.int .i64 ti))) := fun V hV => by
    have h := HK.out.below hV HK.out.lt
    exact ⟨h.cell rfl, h.cell rfl, h.cell rfl, h.cell rfl, h.cell rfl, h.cell rfl, h.cell rfl, h.cell rfl, h.cell rfl, h.cell rfl, h.cell rfl, h.cell rfl, h.cell rfl, h.cell rfl, h.cell rfl⟩
  clear hW
  obtain ⟨c0, c1, c2, c3, c4, c5, c6, c7, c8, c9, c10, c11, c12, c13, c14⟩ := HCL.out W (Below.refl _ _)
  rw [HW.out] at c0 c1 c2 c3 c4 c5 c6 c7 c8 c9 c10 c11 c12 c13 c14
  cases ok
  · go_enter Tryz.func21, Tryz.ntmps21
    go_wp2_with fail
    rw [← HW.out]
    refine (HM.out W HB.out).mono ?_
    rintro e w1 ⟨rfl, hb1⟩
    have HB1 := hid (bt' HB.out hb1)
    clear hb1 c0 c1 c2 c3 c4 c5 c6 c7 c8 c9 c10 c11 c12 c13 c14
    go_wp2
    go_ret2
    exact HP1.out (by trivial) _ HB1.out
  · go_enter Tryz.func21, Tryz.ntmps21
    go_wp2_with fail
    rw [← HW.out]
    refine (HM.out W HB.out).mono ?_
    rintro e w1 ⟨rfl, hb1⟩
    have HB1 := hid (bt' HB.out hb1)
    have HQ1 := hid hb1
    clear hb1 c0 c1 c2 c3 c4 c5 c6 c7 c8 c9 c10 c11 c12 c13 c14
    obtain ⟨c0, c1, c2, c3, c4, c5, c6, c7, c8, c9, c10, c11, c12, c13, c14⟩ := HCL.out _ HQ1.out
    go_wp2_with fail
    refine (HE.out (by trivial) _ HB1.out).mono ?_
    rintro e w2 ⟨v2, rfl, ho2, hb2⟩
    have HB2 := hid (bt' HB1.out hb2)
    have HO2 : Hid (w2.ownsRow w.heap.size 5 1 v2 bs.length (nums bs)) := ownsRow_base ho2 HB1.out.size
    obtain ⟨eo, cp, rfl⟩ := own_sliceC ho2
    obtain ⟨N, HN⟩ : ∃ N, Hid (bs.length = N) := ⟨_, hid rfl⟩
    rw [HN.out] at HO2 HP2 HP3 ⊢
    clear hb2 ho2 c0 c1 c2 c3 c4 c5 c6 c7 c8 c9 c10 c11 c12 c13 c14
    by_cases hl : N ≤ 65536
    · have HS := hid (rshort_yes w2 eo N cp hl)
      go_wp2_with fail
      refine HS.out.mono ?_
      rintro e w3 ⟨rfl, hw3⟩
      rw [hw3]
      clear hw3
      go_wp2
      go_ret2
      exact HP2.out (by trivial) hl _ _ HB2.out HO2.out
    · have HS := hid (rshort_no w2 eo N cp hl)
      go_wp2_with fail
      refine HS.out.mono ?_
      rintro e w3 ⟨rfl, hw3⟩
      rw [hw3]
      clear hw3
      go_wp2
      go_ret2
      exact HP3.out (by trivial) hl _ HB2.out
/-- A writer's code and its bytes. -/
def codeMs (x : MsM) : Int := if RightMs x = true then (if (encMs x).length ≤ 65536 then 0 else 3) else 1
def bytesMs (x : MsM) : List Int := if codeMs x = 0 then encMs x else []
def MsgH (w : World) (x : MsM) (e : Ending) (w' : World) : Prop := ∃ ao n cp, e = .returned (.tuple #[.slice ao n cp, .int .i64 (codeMs x)]) ∧ Held w' ao n cp (bytesMs x) ∧ Below w.heap.size w w'
theorem msgH_of {w w' : World} {x : MsM} {e : Ending} (h : MsgP w x e w') : MsgH w x e w' := by
  obtain ⟨h1, h2⟩ := h
  by_cases hr : RightMs x = true
  · rw [if_pos hr] at h2
    by_cases hl : (encMs x).length ≤ 65536
    · rw [if_pos hl] at h2
      have hc : codeMs x = 0 := by unfold codeMs; rw [if_pos hr, if_pos hl]
      have hb : bytesMs x = encMs x := by unfold bytesMs; rw [if_pos hc]
      obtain ⟨v, rfl, h3⟩ := h2
      obtain ⟨ao, cap, rfl, hh⟩ := held_of_own h3 (encMs_byP x)
      exact ⟨ao, _, cap, by rw [hc], by rw [hb]; exact hh, h1⟩
    · rw [if_neg hl] at h2
      have hc : codeMs x = 3 := by unfold codeMs; rw [if_pos hr, if_neg hl]
      have hb : bytesMs x = [] := by unfold bytesMs; rw [if_neg (by rw [hc]; decide)]
      exact ⟨none, 0, 0, by rw [hc]; exact h2, by rw [hb]; exact held_nil _, h1⟩
  · rw [if_neg hr] at h2
    have hc : codeMs x = 1 := by unfold codeMs; rw [if_neg hr]
    have hb : bytesMs x = [] := by unfold bytesMs; rw [if_neg (by rw [hc]; decide)]
    exact ⟨none, 0, 0, by rw [hc]; exact h2, by rw [hb]; exact held_nil _, h1⟩
end Go.Proofs.YtfmnbehopdmahaaGreat
/-
  pannierref16.On of a message that it does not take.
-/
namespace Go.Proofs.YtfmnbehopdmahaaGreat
open Go.RowKit Go.Maps

/-- The document's acceptor, and what it is. -/
structure RaIn (B : Nat) (w : World) (x : Nat) (a : Ac) (xs : List VoM) (ro : Option Addr) (rc : Nat) : Prop where
  ra : RaAt w B x a.node a.pr xs ro rc
  tw : TwV xs a
  gok : AcOk a
theorem RaIn.below {B : Nat} {w w' : World} {x : Nat} {a : Ac} {xs : List VoM} {ro : Option Addr} {rc : Nat} (h : RaIn B w x a xs ro rc) (hb : Below w.heap.size w w') : RaIn B w' x a xs ro rc := ⟨h.ra.below hb, h.tw, h.gok⟩
theorem RaIn.turned {B : Nat} {F : Nat → Prop} {w w' : World} {x : Nat} {a : Ac} {xs : List VoM} {ro : Option Addr} {rc : Nat} (h : RaIn B w x a xs ro rc) (ht : Turns F w w') (hF : ∀ i, F i → B ≤ i) (hx : ¬ F x) (hr : ∀ g off, ro = some ⟨g, off, none⟩ → ¬ F g) : RaIn B w' x a xs ro rc := by
  refine ⟨⟨ht.blk h.ra.blk hx, ht.row h.ra.row (fun k hk => ?_), fun z hz => voOk_turned (h.ra.ok z hz) ht (fun b off e hne hf => by have := h.ra.low z hz b off e hne; have := hF b hf; omega), h.ra.few, h.ra.low, h.ra.bx⟩, h.tw, h.gok⟩
  cases ro with
  | none => cases hk
  | some ad =>
    obtain ⟨g, e, _⟩ := ra_addr h.ra
    subst e
    cases hk
    exact hr g 0 rfl
/-- The document's acceptor behind a call. -/
def RaTo (B : Nat) (w w' : World) (x : Nat) (a : Ac) (ro : Option Addr) : Prop := ∃ xs' ro' rc', RaIn B w' x a xs' ro' rc' ∧ Turns (FootR x ro) w w' ∧ (∀ q, ro' = some q → ro = some q ∨ w.heap.size ≤ q.block)
theorem RaTo.same {B : Nat} {w w' : World} {x : Nat} {a : Ac} {xs : List VoM} {ro : Option Addr} {rc : Nat} (h : RaIn B w x a xs ro rc) (hb : Below w.heap.size w w') : RaTo B w w' x a ro := ⟨xs, ro, rc, h.below hb, Turns.of_below hb (Nat.le_refl _), fun _ e => .inl e⟩
/-- What the document's On leaves. -/
def OnD (B : Nat) (w : World) (x : Nat) (a : Ac) (ro : Option Addr) (X : MsM) (e : Ending) (w' : World) : Prop :=
  if takesA a X = true then ∃ vo vc ys, e = .returned (.tuple #[(ansM (afterA a X) X (kindA a X) vo vc ys).val, .string (if changesA a X = true then recOf X else ⟨#[]⟩), .bool true]) ∧ ys.map VoM.sv = (if kindA a X = 2 then fromTo (afterA a X) X.slot (afterA a X).ks.length else []) ∧ HeldVo w' vo ys ∧ ys.length ≤ 4096 ∧ (∀ b off, vo = some ⟨b, off, none⟩ → w.heap.size ≤ b) ∧ RaTo B w w' x (afterA a X) ro
  else e = .returned (.tuple #[.agg #[.int .i64 0, .int .i64 0, .int .i64 0, .int .i64 0, .int .i64 0, .int .i64 0, .bool false, .string ⟨#[]⟩, .string ⟨#[]⟩, .int .i64 0, .slice none 0 0, .slice none 0 0, .slice none 0 0, .slice none 0 0, .int .i64 0], .string ⟨#[]⟩, .bool false]) ∧ RaTo B w w' x a ro
set_option maxRecDepth 1000000 in
set_option maxHeartbeats 8000000 in
theorem RaIn.on_err {w : World} {B x : Nat} {a : Ac} {xs : List VoM} {ro : Option Addr} {rc : Nat} (h : RaIn B w x a xs ro rc) (hB : B ≤ w.heap.size) (X : MsM) (hx : MsOk w X) (hr : ¬ (RightMs X = true ∧ (encMs X).length ≤ 65536)) : Calls Tryz.prog 10 #[.pointer (some ⟨x, 0, none⟩), X.val] w (OnD B w x a ro X) := by
  have HNT : Hid (¬ takesA a X = true) := fun ht => by
    unfold takesA at ht
    simp only [Bool.and_eq_true, decide_eq_true_eq] at ht
    exact hr ⟨ht.2.2.1, ht.2.2.2⟩
  have HERR : Hid (∀ V e w', MsgP V X e w' → ∃ c, e = .returned (.tuple #[.slice none 0 0, .int .i64 c]) ∧ c ≠ 0 ∧ Below V.heap.size V w') := fun V e w' hP => by
    obtain ⟨h1, h2⟩ := hP
    by_cases hm : RightMs X = true
    · rw [if_pos hm, if_neg (fun hl => hr ⟨hm, hl⟩)] at h2
      exact ⟨3, h2, by decide, h1⟩
    · rw [if_neg hm] at h2
      exact ⟨1, h2, by decide, h1⟩
  clear hr
  obtain ⟨W1, hW1⟩ : ∃ W, W = w.alloc (.cells X.cells.toArray 43) := ⟨_, rfl⟩
  obtain ⟨W, hW⟩ : ∃ W, W = W1.alloc (.cells #[.int .i64 0, .int .i64 0, .int .i64 0, .int .i64 0, .int .i64 0, .int .i64 0, .bool false, .string ⟨#[]⟩, .string ⟨#[]⟩, .int .i64 0, .slice none 0 0, .slice none 0 0, .slice none 0 0, .slice none 0 0, .int .i64 0] 43) := ⟨_, rfl⟩
  have hs1 : W1.heap.size = w.heap.size + 1 := by rw [hW1]; simp
  have hb1 : Below w.heap.size w W1 := by rw [hW1]; exact (Below.refl _ _).alloc (Nat.le_refl _) _
  have HB : Hid (Below w.heap.size w W) := by rw [hW]; exact hb1.alloc hb1.size _
  obtain ⟨bm, hbm⟩ : ∃ q, q = w.heap.size := ⟨_, rfl⟩
  obtain ⟨be, hbe⟩ : ∃ q, q = w.heap.size + 1 := ⟨_, rfl⟩
  have HKM : Hid (Blk W bm 43 X.cells) := by rw [hbm, hW, hW1]; exact (Blk.new w _ _).alloc _
  have HKE : Hid (Blk W be 43 [.int .i64 0, .int .i64 0, .int .i64 0, .int .i64 0, .int .i64 0, .int .i64 0, .bool false, .string ⟨#[]⟩, .string ⟨#[]⟩, .int .i64 0, .slice none 0 0, .slice none 0 0, .slice none 0 0, .slice none 0 0, .int .i64 0]) := by rw [hbe, hW, ← hs1]; exact Blk.new W1 _ _
  have HIN := hid (h.below HB.out)
  have HMS := hid (refMsg_any W X (hx.below HB.out))
  have HW : Hid (W = (w.alloc (.cells X.cells.toArray 43)).alloc (.cells #[.int .i64 0, .int .i64 0, .int .i64 0, .int .i64 0, .int .i64 0, .int .i64 0, .bool false, .string ⟨#[]⟩, .string ⟨#[]⟩, .int .i64 0, .slice none 0 0, .slice none 0 0, .slice none 0 0, .slice none 0 0, .int .i64 0] 43)) := by show _ = _; rw [hW, hW1]
  have HBM := hid hbm
  have HBE := hid hbe
  have HBS : Hid (w.heap.size ≤ be ∧ w.heap.size ≤ bm ∧ bm ≠ be) := ⟨by omega, by omega, by omega⟩
  have HBW := hid hB
  have HPL : Hid (x < w.heap.size ∧ ∀ g off, ro = some ⟨g, off, none⟩ → g < w.heap.size) := ⟨h.ra.blk.lt, fun g off e => by subst e; obtain ⟨g', e, _, h1⟩ := ra_addr h.ra; cases e; exact h1⟩
  obtain ⟨nd, HND⟩ : ∃ q, Hid (a.node = q) := ⟨_, hid rfl⟩
  clear h hW hW1 hs1 hb1 hbm hbe hx hB
  obtain ⟨kd, fr, to, ⟨br, bn⟩, sl, ⟨⟨np, tk, ct, ep, cut⟩, ao1, cap1⟩, vo, vc, vs, so, sc, seen, eo, ec, evs, ti⟩ := X
  obtain ⟨XN, HXN⟩ : ∃ m, Hid (cut.length = m) := ⟨_, hid rfl⟩
  obtain ⟨VN, HVN⟩ : ∃ m, Hid (vs.length = m) := ⟨_, hid rfl⟩
  obtain ⟨SN, HSN⟩ : ∃ m, Hid (seen.length = m) := ⟨_, hid rfl⟩
  obtain ⟨EN, HEN⟩ : ∃ m, Hid (evs.length = m) := ⟨_, hid rfl⟩
  simp only [MsM.val, MsM.cells] at HW HKM HMS ⊢
  rw [HXN.out, HVN.out, HSN.out, HEN.out] at HW HKM HMS
  rw [HXN.out, HVN.out, HSN.out, HEN.out]
  have q0 := HKM.out.cell (i := 0) rfl
  have q1 := HKM.out.cell (i := 1) rfl
  have q2 := HKM.out.cell (i := 2) rfl
  have q3 := HKM.out.cell (i := 3) rfl
  have q4 := HKM.out.cell (i := 4) rfl
  have q5 := HKM.out.cell (i := 5) rfl
  have q6 := HKM.out.cell (i := 6) rfl
  have q7 := HKM.out.cell (i := 7) rfl
  have q8 := HKM.out.cell (i := 8) rfl
  have q9 := HKM.out.cell (i := 9) rfl
  have q10 := HKM.out.cell (i := 10) rfl
  have q11 := HKM.out.cell (i := 11) rfl
  have q12 := HKM.out.cell (i := 12) rfl
  have q13 := HKM.out.cell (i := 13) rfl
  have q14 := HKM.out.cell (i := 14) rfl
  go_enter Tryz.func10, Tryz.ntmps10
  go_wp2_with fail
  rw [← HW.out, ← HBE.out, ← HBM.out]
  refine HMS.out.mono ?_
  intro e w2 hP
  obtain ⟨c, rfl, hc, hb2⟩ := HERR.out _ _ _ hP
  clear hP
  have hc2 : (c != 0) = true := bne_iff_ne.2 hc
  clear q0 q1 q2 q3 q4 q5 q6 q7 q8 q9 q10 q11 q12 q13 q14
  have hkm := HKM.out.below hb2 HKM.out.lt
  have m0 := hkm.cell (i := 0) rfl
  have m2 := hkm.cell (i := 2) rfl
  have c0 := (HIN.out.below hb2).ra.blk.cell (i := 0) rfl
  rw [HND.out] at c0
  have HB2 := hid hb2
  clear hkm hb2
  go_wp2
  go_quiet (fail)
  obtain ⟨U, hU⟩ : ∃ U, U = w2.drewN nq := ⟨_, rfl⟩
  have HBU : Hid (Below W.heap.size W U) := by rw [hU]; exact below_dn HB2.out _
  rw [← hU]
  clear hU m0 m2 c0
  have he2 := HKE.out.below HBU.out HKE.out.lt
  have e0 := he2.cell (i := 0) rfl
  have e1 := he2.cell (i := 1) rfl
  have e2 := he2.cell (i := 2) rfl
  have e3 := he2.cell (i := 3) rfl
  have e4 := he2.cell (i := 4) rfl
  have e5 := he2.cell (i := 5) rfl
  have e6 := he2.cell (i := 6) rfl
  have e7 := he2.cell (i := 7) rfl
  have e8 := he2.cell (i := 8) rfl
  have e9 := he2.cell (i := 9) rfl
  have e10 := he2.cell (i := 10) rfl
  have e11 := he2.cell (i := 11) rfl
  have e12 := he2.cell (i := 12) rfl
  have e13 := he2.cell (i := 13) rfl
  have e14 := he2.cell (i := 14) rfl
  have g0 := he2.frozen 0
  have g1 := he2.frozen 1
  have g2 := he2.frozen 2
  have g3 := he2.frozen 3
  have g4 := he2.frozen 4
  have g5 := he2.frozen 5
  have g6 := he2.frozen 6
  have g7 := he2.frozen 7
  have g8 := he2.frozen 8
  have g9 := he2.frozen 9
  have g10 := he2.frozen 10
  have g11 := he2.frozen 11
  have g12 := he2.frozen 12
  have g13 := he2.frozen 13
  have g14 := he2.frozen 14
  obtain ⟨W3, hW3⟩ : ∃ V, V = st15 U be (.int .i64 0) (.int .i64 0) (.int .i64 0) (.int .i64 0) (.int .i64 0) (.int .i64 0) (.bool false) (.string ⟨#[]⟩) (.string ⟨#[]⟩) (.int .i64 0) (.slice none 0 0) (.slice none 0 0) (.slice none 0 0) (.slice none 0 0) (.int .i64 0) := ⟨_, rfl⟩
  have hk9 : Blk W3 be 43 [.int .i64 0, .int .i64 0, .int .i64 0, .int .i64 0, .int .i64 0, .int .i64 0, .bool false, .string ⟨#[]⟩, .string ⟨#[]⟩, .int .i64 0, .slice none 0 0, .slice none 0 0, .slice none 0 0, .slice none 0 0, .int .i64 0] := by rw [hW3]; exact st15_blk he2 _ _ _ _ _ _ _ _ _ _ _ _ _ _ _
  have hT3 : Turns (fun i => i = be) U W3 := by rw [hW3]; exact st15_turns _ _ _ _ _ _ _ _ _ _ _ _ _ _ _ _ _
  have HFI : Hid (OnD B w x a ro ⟨kd, fr, to, (br, bn), sl, ⟨⟨np, tk, ct, ep, cut⟩, ao1, cap1⟩, vo, vc, vs, so, sc, seen, eo, ec, evs, ti⟩ (.returned (.tuple #[.agg #[.int .i64 0, .int .i64 0, .int .i64 0, .int .i64 0, .int .i64 0, .int .i64 0, .bool false, .string ⟨#[]⟩, .string ⟨#[]⟩, .int .i64 0, .slice none 0 0, .slice none 0 0, .slice none 0 0, .slice none 0 0, .int .i64 0], .string ⟨#[]⟩, .bool false])) W3) := by
    unfold OnD
    rw [if_neg HNT.out]
    have hbw : Below w.heap.size w W3 := (bt' HB.out HBU.out).trans (hT3.below (fun i hi => by rw [hi]; exact HBS.out.1) (bt' HB.out HBU.out).size)
    have hin := (HIN.out.below HBU.out).turned hT3 (fun i hi => by rw [hi]; have := HBS.out.1; have := HBW.out; omega) (fun e => by have := HPL.out.1; have := HBS.out.1; omega) (fun g off e e2 => by have := HPL.out.2 g off e; have := HBS.out.1; omega)
    exact ⟨rfl, _, _, _, hin, Turns.of_below hbw (Nat.le_refl _), fun _ e => .inl e⟩
  have k0 := hk9.cell (i := 0) rfl
  have k1 := hk9.cell (i := 1) rfl
  have k2 := hk9.cell (i := 2) rfl
  have k3 := hk9.cell (i := 3) rfl
  have k4 := hk9.cell (i := 4) rfl
  have k5 := hk9.cell (i := 5) rfl
  have k6 := hk9.cell (i := 6) rfl
  have k7 := hk9.cell (i := 7) rfl
  have k8 := hk9.cell (i := 8) rfl
  have k9 := hk9.cell (i := 9) rfl
  have k10 := hk9.cell (i := 10) rfl
  have k11 := hk9.cell (i := 11) rfl
  have k12 := hk9.cell (i := 12) rfl
  have k13 := hk9.cell (i := 13) rfl
  have k14 := hk9.cell (i := 14) rfl
  clear hk9 hT3 he2
  go_wp2
  unfold st15 at hW3
  rw [← hW3]
  (try simp only [Exit.inBlock, Exit.then])
  refine bodyPost_ret (v := .tuple #[.agg #[.int .i64 0, .int .i64 0, .int .i64 0, .int .i64 0, .int .i64 0, .int .i64 0, .bool false, .string ⟨#[]⟩, .string ⟨#[]⟩, .int .i64 0, .slice none 0 0, .slice none 0 0, .slice none 0 0, .slice none 0 0, .int .i64 0], .string ⟨#[]⟩, .bool false]) ?_ rfl HFI.out
  rw [results_cellA3 rfl]
  go_simp
set_option maxRecDepth 1000000 in
set_option maxHeartbeats 8000000 in
theorem RaIn.on_other {w : World} {B x : Nat} {a : Ac} {xs : List VoM} {ro : Option Addr} {rc : Nat} (h : RaIn B w x a xs ro rc) (hB : B ≤ w.heap.size) (X : MsM) (hx : MsOk w X) (hr : RightMs X = true ∧ (encMs X).length ≤ 65536) (hnt : ¬ takesA a X = true) : Calls Tryz.prog 10 #[.pointer (some ⟨x, 0, none⟩), X.val] w (OnD B w x a ro X) := by
  have HNT := hid hnt
  have HOK : Hid (∀ V e w', MsgP V X e w' → ∃ ao cp, e = .returned (.tuple #[.slice ao (encMs X).length cp, .int .i64 0]) ∧ Below V.heap.size V w') := fun V e w' hP => by
    obtain ⟨h1, h2⟩ := hP
    rw [if_pos hr.1, if_pos hr.2] at h2
    obtain ⟨v, h3, h4⟩ := h2
    rcases h4.2 with ⟨hv, h0⟩ | ⟨g, cap, cur, hv, _⟩
    · exact ⟨none, 0, by rw [h3, hv, h0], h1⟩
    · exact ⟨_, _, by rw [h3, hv], h1⟩
  obtain ⟨EL, HEL⟩ : ∃ m, Hid ((encMs X).length = m) := ⟨_, hid rfl⟩
  rw [HEL.out] at HOK
  have HWHY : Hid (X.to ≠ a.node ∨ (X.to = a.node ∧ X.kind ≠ 1 ∧ X.kind ≠ 3)) := by
    by_cases h1 : X.to = a.node
    · refine .inr ⟨h1, fun e => hnt ?_, fun e => hnt ?_⟩ <;> (unfold takesA; simp [h1, e, hr.1, hr.2])
    · exact .inl h1
  clear hr hnt
  obtain ⟨W1, hW1⟩ : ∃ W, W = w.alloc (.cells X.cells.toArray 43) := ⟨_, rfl⟩
  obtain ⟨W, hW⟩ : ∃ W, W = W1.alloc (.cells #[.int .i64 0, .int .i64 0, .int .i64 0, .int .i64 0, .int .i64 0, .int .i64 0, .bool false, .string ⟨#[]⟩, .string ⟨#[]⟩, .int .i64 0, .slice none 0 0, .slice none 0 0, .slice none 0 0, .slice none 0 0, .int .i64 0] 43) := ⟨_, rfl⟩
  have hs1 : W1.heap.size = w.heap.size + 1 := by rw [hW1]; simp
  have hb1 : Below w.heap.size w W1 := by rw [hW1]; exact (Below.refl _ _).alloc (Nat.le_refl _) _
  have HB : Hid (Below w.heap.size w W) := by rw [hW]; exact hb1.alloc hb1.size _
  obtain ⟨bm, hbm⟩ : ∃ q, q = w.heap.size := ⟨_, rfl⟩
  obtain ⟨be, hbe⟩ : ∃ q, q = w.heap.size + 1 := ⟨_, rfl⟩
  have HKM : Hid (Blk W bm 43 X.cells) := by rw [hbm, hW, hW1]; exact (Blk.new w _ _).alloc _
  have HKE : Hid (Blk W be 43 [.int .i64 0, .int .i64 0, .int .i64 0, .int .i64 0, .int .i64 0, .int .i64 0, .bool false, .string ⟨#[]⟩, .string ⟨#[]⟩, .int .i64 0, .slice none 0 0, .slice none 0 0, .slice none 0 0, .slice none 0 0, .int .i64 0]) := by rw [hbe, hW, ← hs1]; exact Blk.new W1 _ _
  have HIN := hid (h.below HB.out)
  have HMS := hid (refMsg_any W X (hx.below HB.out))
  have HW : Hid (W = (w.alloc (.cells X.cells.toArray 43)).alloc (.cells #[.int .i64 0, .int .i64 0, .int .i64 0, .int .i64 0, .int .i64 0, .int .i64 0, .bool false, .string ⟨#[]⟩, .string ⟨#[]⟩, .int .i64 0, .slice none 0 0, .slice none 0 0, .slice none 0 0, .slice none 0 0, .int .i64 0] 43)) := by show _ = _; rw [hW, hW1]
  have HBM := hid hbm
  have HBE := hid hbe
  have HBS : Hid (w.heap.size ≤ be ∧ w.heap.size ≤ bm ∧ bm ≠ be) := ⟨by omega, by omega, by omega⟩
  have HBW := hid hB
  have HPL : Hid (x < w.heap.size ∧ ∀ g off, ro = some ⟨g, off, none⟩ → g < w.heap.size) := ⟨h.ra.blk.lt, fun g off e => by subst e; obtain ⟨g', e, _, h1⟩ := ra_addr h.ra; cases e; exact h1⟩
  obtain ⟨nd, HND⟩ : ∃ q, Hid (a.node = q) := ⟨_, hid rfl⟩
  clear h hW hW1 hs1 hb1 hbm hbe hx hB
  obtain ⟨kd, fr, to, ⟨br, bn⟩, sl, ⟨⟨np, tk, ct, ep, cut⟩, ao1, cap1⟩, vo, vc, vs, so, sc, seen, eo, ec, evs, ti⟩ := X
  obtain ⟨XN, HXN⟩ : ∃ m, Hid (cut.length = m) := ⟨_, hid rfl⟩
  obtain ⟨VN, HVN⟩ : ∃ m, Hid (vs.length = m) := ⟨_, hid rfl⟩
  obtain ⟨SN, HSN⟩ : ∃ m, Hid (seen.length = m) := ⟨_, hid rfl⟩
  obtain ⟨EN, HEN⟩ : ∃ m, Hid (evs.length = m) := ⟨_, hid rfl⟩
  simp only [MsM.val, MsM.cells] at HW HKM HMS ⊢
  rw [HXN.out, HVN.out, HSN.out, HEN.out] at HW HKM HMS
  rw [HXN.out, HVN.out, HSN.out, HEN.out]
  have q0 := HKM.out.cell (i := 0) rfl
  have q1 := HKM.out.cell (i := 1) rfl
  have q2 := HKM.out.cell (i := 2) rfl
  have q3 := HKM.out.cell (i := 3) rfl
  have q4 := HKM.out.cell (i := 4) rfl
  have q5 := HKM.out.cell (i := 5) rfl
  have q6 := HKM.out.cell (i := 6) rfl
  have q7 := HKM.out.cell (i := 7) rfl
  have q8 := HKM.out.cell (i := 8) rfl
  have q9 := HKM.out.cell (i := 9) rfl
  have q10 := HKM.out.cell (i := 10) rfl
  have q11 := HKM.out.cell (i := 11) rfl
  have q12 := HKM.out.cell (i := 12) rfl
  have q13 := HKM.out.cell (i := 13) rfl
  have q14 := HKM.out.cell (i := 14) rfl
  simp only at HWHY
  rw [HND.out] at HWHY
  go_enter Tryz.func10, Tryz.ntmps10
  go_wp2_with fail
  rw [← HW.out, ← HBE.out, ← HBM.out]
  refine HMS.out.mono ?_
  intro e w2 hP
  obtain ⟨mo, mc, rfl, hb2⟩ := HOK.out _ _ _ hP
  clear hP
  clear q0 q1 q2 q3 q4 q5 q6 q7 q8 q9 q10 q11 q12 q13 q14
  rcases HWHY.out with h1 | ⟨h1, h2, h3⟩
  · have h4 : (to != nd) = true := bne_iff_ne.2 h1
    have hkm := HKM.out.below hb2 HKM.out.lt
    have m0 := hkm.cell (i := 0) rfl
    have m2 := hkm.cell (i := 2) rfl
    have c0 := (HIN.out.below hb2).ra.blk.cell (i := 0) rfl
    rw [HND.out] at c0
    have HB2 := hid hb2
    clear hkm hb2
    go_wp2
    go_quiet (fail)
    obtain ⟨U, hU⟩ : ∃ U, U = w2.drewN nq := ⟨_, rfl⟩
    have HBU : Hid (Below W.heap.size W U) := by rw [hU]; exact below_dn HB2.out _
    rw [← hU]
    clear hU m0 m2 c0
    have he2 := HKE.out.below HBU.out HKE.out.lt
    have e0 := he2.cell (i := 0) rfl
    have e1 := he2.cell (i := 1) rfl
    have e2 := he2.cell (i := 2) rfl
    have e3 := he2.cell (i := 3) rfl
    have e4 := he2.cell (i := 4) rfl
    have e5 := he2.cell (i := 5) rfl
    have e6 := he2.cell (i := 6) rfl
    have e7 := he2.cell (i := 7) rfl
    have e8 := he2.cell (i := 8) rfl
    have e9 := he2.cell (i := 9) rfl
    have e10 := he2.cell (i := 10) rfl
    have e11 := he2.cell (i := 11) rfl
    have e12 := he2.cell (i := 12) rfl
    have e13 := he2.cell (i := 13) rfl
    have e14 := he2.cell (i := 14) rfl
    have g0 := he2.frozen 0
    have g1 := he2.frozen 1
    have g2 := he2.frozen 2
    have g3 := he2.frozen 3
    have g4 := he2.frozen 4
    have g5 := he2.frozen 5
    have g6 := he2.frozen 6
    have g7 := he2.frozen 7
    have g8 := he2.frozen 8
    have g9 := he2.frozen 9
    have g10 := he2.frozen 10
    have g11 := he2.frozen 11
    have g12 := he2.frozen 12
    have g13 := he2.frozen 13
    have g14 := he2.frozen 14
    obtain ⟨W3, hW3⟩ : ∃ V, V = st15 U be (.int .i64 0) (.int .i64 0) (.int .i64 0) (.int .i64 0) (.int .i64 0) (.int .i64 0) (.bool false) (.string ⟨#[]⟩) (.string ⟨#[]⟩) (.int .i64 0) (.slice none 0 0) (.slice none 0 0) (.slice none 0 0) (.slice none 0 0) (.int .i64 0) := ⟨_, rfl⟩
    have hk9 : Blk W3 be 43 [.int .i64 0, .int .i64 0, .int .i64 0, .int .i64 0, .int .i64 0, .int .i64 0, .bool false, .string ⟨#[]⟩, .string ⟨#[]⟩, .int .i64 0, .slice none 0 0, .slice none 0 0, .slice none 0 0, .slice none 0 0, .int .i64 0] := by rw [hW3]; exact st15_blk he2 _ _ _ _ _ _ _ _ _ _ _ _ _ _ _
    have hT3 : Turns (fun i => i = be) U W3 := by rw [hW3]; exact st15_turns _ _ _ _ _ _ _ _ _ _ _ _ _ _ _ _ _
    have HFI : Hid (OnD B w x a ro ⟨kd, fr, to, (br, bn), sl, ⟨⟨np, tk, ct, ep, cut⟩, ao1, cap1⟩, vo, vc, vs, so, sc, seen, eo, ec, evs, ti⟩ (.returned (.tuple #[.agg #[.int .i64 0, .int .i64 0, .int .i64 0, .int .i64 0, .int .i64 0, .int .i64 0, .bool false, .string ⟨#[]⟩, .string ⟨#[]⟩, .int .i64 0, .slice none 0 0, .slice none 0 0, .slice none 0 0, .slice none 0 0, .int .i64 0], .string ⟨#[]⟩, .bool false])) W3) := by
      unfold OnD
      rw [if_neg HNT.out]
      have hbw : Below w.heap.size w W3 := (bt' HB.out HBU.out).trans (hT3.below (fun i hi => by rw [hi]; exact HBS.out.1) (bt' HB.out HBU.out).size)
      have hin := (HIN.out.below HBU.out).turned hT3 (fun i hi => by rw [hi]; have := HBS.out.1; have := HBW.out; omega) (fun e => by have := HPL.out.1; have := HBS.out.1; omega) (fun g off e e2 => by have := HPL.out.2 g off e; have := HBS.out.1; omega)
      exact ⟨rfl, _, _, _, hin, Turns.of_below hbw (Nat.le_refl _), fun _ e => .inl e⟩
    have k0 := hk9.cell (i := 0) rfl
    have k1 := hk9.cell (i := 1) rfl
    have k2 := hk9.cell (i := 2) rfl
    have k3 := hk9.cell (i := 3) rfl
    have k4 := hk9.cell (i := 4) rfl
    have k5 := hk9.cell (i := 5) rfl
    have k6 := hk9.cell (i := 6) rfl
    have k7 := hk9.cell (i := 7) rfl
    have k8 := hk9.cell (i := 8) rfl
    have k9 := hk9.cell (i := 9) rfl
    have k10 := hk9.cell (i := 10) rfl
    have k11 := hk9.cell (i := 11) rfl
    have k12 := hk9.cell (i := 12) rfl
    have k13 := hk9.cell (i := 13) rfl
    have k14 := hk9.cell (i := 14) rfl
    clear hk9 hT3 he2
    go_wp2
    unfold st15 at hW3
    rw [← hW3]
    (try simp only [Exit.inBlock, Exit.then])
    refine bodyPost_ret (v := .tuple #[.agg #[.int .i64 0, .int .i64 0, .int .i64 0, .int .i64 0, .int .i64 0, .int .i64 0, .bool false, .string ⟨#[]⟩, .string ⟨#[]⟩, .int .i64 0, .slice none 0 0, .slice none 0 0, .slice none 0 0, .slice none 0 0, .int .i64 0], .string ⟨#[]⟩, .bool false]) ?_ rfl HFI.out
    rw [results_cellA3 rfl]
    go_simp
  · subst h1
    have h4 : (kd != 1) = true := bne_iff_ne.2 h2
    have h5 : (kd != 3) = true := bne_iff_ne.2 h3
    have hkm := HKM.out.below hb2 HKM.out.lt
    have m0 := hkm.cell (i := 0) rfl
    have m2 := hkm.cell (i := 2) rfl
    have c0 := (HIN.out.below hb2).ra.blk.cell (i := 0) rfl
    rw [HND.out] at c0
    have HB2 := hid hb2
    clear hkm hb2
    go_wp2
    go_quiet (fail)
    obtain ⟨U, hU⟩ : ∃ U, U = w2.drewN nq := ⟨_, rfl⟩
    have HBU : Hid (Below W.heap.size W U) := by rw [hU]; exact below_dn HB2.out _
    rw [← hU]
    clear hU m0 m2 c0
    have he2 := HKE.out.below HBU.out HKE.out.lt
    have e0 := he2.cell (i := 0) rfl
    have e1 := he2.cell (i := 1) rfl
    have e2 := he2.cell (i := 2) rfl
    have e3 := he2.cell (i := 3) rfl
    have e4 := he2.cell (i := 4) rfl
    have e5 := he2.cell (i := 5) rfl
    have e6 := he2.cell (i := 6) rfl
    have e7 := he2.cell (i := 7) rfl
    have e8 := he2.cell (i := 8) rfl
    have e9 := he2.cell (i := 9) rfl
    have e10 := he2.cell (i := 10) rfl
    have e11 := he2.cell (i := 11) rfl
    have e12 := he2.cell (i := 12) rfl
    have e13 := he2.cell (i := 13) rfl
    have e14 := he2.cell (i := 14) rfl
    have g0 := he2.frozen 0
    have g1 := he2.frozen 1
    have g2 := he2.frozen 2
    have g3 := he2.frozen 3
    have g4 := he2.frozen 4
    have g5 := he2.frozen 5
    have g6 := he2.frozen 6
    have g7 := he2.frozen 7
    have g8 := he2.frozen 8
    have g9 := he2.frozen 9
    have g10 := he2.frozen 10
    have g11 := he2.frozen 11
    have g12 := he2.frozen 12
    have g13 := he2.frozen 13
    have g14 := he2.frozen 14
    obtain ⟨W3, hW3⟩ : ∃ V, V = st15 U be (.int .i64 0) (.int .i64 0) (.int .i64 0) (.int .i64 0) (.int .i64 0) (.int .i64 0) (.bool false) (.string ⟨#[]⟩) (.string ⟨#[]⟩) (.int .i64 0) (.slice none 0 0) (.slice none 0 0) (.slice none 0 0) (.slice none 0 0) (.int .i64 0) := ⟨_, rfl⟩
    have hk9 : Blk W3 be 43 [.int .i64 0, .int .i64 0, .int .i64 0, .int .i64 0, .int .i64 0, .int .i64 0, .bool false, .string ⟨#[]⟩, .string ⟨#[]⟩, .int .i64 0, .slice none 0 0, .slice none 0 0, .slice none 0 0, .slice none 0 0, .int .i64 0] := by rw [hW3]; exact st15_blk he2 _ _ _ _ _ _ _ _ _ _ _ _ _ _ _
    have hT3 : Turns (fun i => i = be) U W3 := by rw [hW3]; exact st15_turns _ _ _ _ _ _ _ _ _ _ _ _ _ _ _ _ _
    have HFI : Hid (OnD B w x a ro ⟨kd, fr, to, (br, bn), sl, ⟨⟨np, tk, ct, ep, cut⟩, ao1, cap1⟩, vo, vc, vs, so, sc, seen, eo, ec, evs, ti⟩ (.returned (.tuple #[.agg #[.int .i64 0, .int .i64 0, .int .i64 0, .int .i64 0, .int .i64 0, .int .i64 0, .bool false, .string ⟨#[]⟩, .string ⟨#[]⟩, .int .i64 0, .slice none 0 0, .slice none 0 0, .slice none 0 0, .slice none 0 0, .int .i64 0], .string ⟨#[]⟩, .bool false])) W3) := by
      unfold OnD
      rw [if_neg HNT.out]
      have hbw : Below w.heap.size w W3 := (bt' HB.out HBU.out).trans (hT3.below (fun i hi => by rw [hi]; exact HBS.out.1) (bt' HB.out HBU.out).size)
      have hin := (HIN.out.below HBU.out).turned hT3 (fun i hi => by rw [hi]; have := HBS.out.1; have := HBW.out; omega) (fun e => by have := HPL.out.1; have := HBS.out.1; omega) (fun g off e e2 => by have := HPL.out.2 g off e; have := HBS.out.1; omega)
      exact ⟨rfl, _, _, _, hin, Turns.of_below hbw (Nat.le_refl _), fun _ e => .inl e⟩
    have k0 := hk9.cell (i := 0) rfl
    have k1 := hk9.cell (i := 1) rfl
    have k2 := hk9.cell (i := 2) rfl
    have k3 := hk9.cell (i := 3) rfl
    have k4 := hk9.cell (i := 4) rfl
    have k5 := hk9.cell (i := 5) rfl
    have k6 := hk9.cell (i := 6) rfl
    have k7 := hk9.cell (i := 7) rfl
    have k8 := hk9.cell (i := 8) rfl
    have k9 := hk9.cell (i := 9) rfl
    have k10 := hk9.cell (i := 10) rfl
    have k11 := hk9.cell (i := 11) rfl
    have k12 := hk9.cell (i := 12) rfl
    have k13 := hk9.cell (i := 13) rfl
    have k14 := hk9.cell (i := 14) rfl
    clear hk9 hT3 he2
    go_wp2
    unfold st15 at hW3
    rw [← hW3]
    (try simp only [Exit.inBlock, Exit.then])
    refine bodyPost_ret (v := .tuple #[.agg #[.int .i64 0, .int .i64 0, .int .i64 0, .int .i64 0, .int .i64 0, .int .i64 0, .bool false, .string ⟨#[]⟩, .string ⟨#[]⟩, .int .i64 0, .slice none 0 0, .slice none 0 0, .slice none 0 0, .slice none 0 0, .int .i64 0], .string ⟨#[]⟩, .bool false]) ?_ rfl HFI.out
    rw [results_cellA3 rfl]
    go_simp
end Go.Proofs.YtfmnbehopdmahaaGreat
/-
  The document's acceptor, where its promise and its votes are turned (memory).
-/
namespace Go.Proofs.YtfmnbehopdmahaaGreat
open Go.RowKit Go.Maps

theorem ra_ne {w : World} {B x : Nat} {nd : Int} {pr : Int × Int} {xs : List VoM} {eo : Option Addr} {cap : Nat} (h : RaAt w B x nd pr xs eo cap) : ∀ g off, eo = some ⟨g, off, none⟩ → x ≠ g := by
  intro g off e
  subst e
  rcases h.row.2 with ⟨h0, _⟩ | ⟨g', cap', cur, he, _, hgg, _⟩
  · cases h0
  · cases he
    exact blk_neH h.blk (show Blk w g 73 cur.toList from hgg) (by decide)
theorem RaAt.turned {F : Nat → Prop} {w w' : World} {B x : Nat} {nd : Int} {pr : Int × Int} {xs : List VoM} {eo : Option Addr} {cap : Nat} (h : RaAt w B x nd pr xs eo cap) (ht : Turns F w w') (hF : ∀ i, F i → B ≤ i) (hx : ¬ F x) (hr : ∀ g off, eo = some ⟨g, off, none⟩ → ¬ F g) : RaAt w' B x nd pr xs eo cap := by
  refine ⟨ht.blk h.blk hx, ht.row h.row (fun k hk => ?_), fun z hz => voOk_turned (h.ok z hz) ht (fun b off e hne hf => by have := h.low z hz b off e hne; have := hF b hf; omega), h.few, h.low, h.bx⟩
  cases eo with
  | none => cases hk
  | some ad =>
    obtain ⟨g, e, _⟩ := ra_addr h
    subst e
    cases hk
    exact hr g 0 rfl
/-- The promise stored. -/
theorem ra_prom {w : World} {B x : Nat} {nd : Int} {pr : Int × Int} {xs : List VoM} {eo : Option Addr} {cap : Nat} (h : RaAt w B x nd pr xs eo cap) (r n : Int) : RaAt ((w.setCell ⟨x, 1, none⟩ (.int .i64 r)).setCell ⟨x, 2, none⟩ (.int .i64 n)) B x nd (r, n) xs eo cap := by
  have t : Turns (fun i => i = x) w ((w.setCell ⟨x, 1, none⟩ (.int .i64 r)).setCell ⟨x, 2, none⟩ (.int .i64 n)) := turns_own (turns_own (Turns.refl _ _))
  refine ⟨(h.blk.set 1 _).set 2 _, t.row h.row (fun k hk e => ?_), fun z hz => voOk_turned (h.ok z hz) t (fun b off e hne hf => by have := h.low z hz b off e hne; have := h.bx; omega), h.few, h.low, h.bx⟩
  cases eo with
  | none => cases hk
  | some ad =>
    obtain ⟨g, e2, _⟩ := ra_addr h
    subst e2
    cases hk
    exact ra_ne h g 0 rfl e.symm
/-- The end of a Prepare that is taken. -/
theorem prep_on {B : Nat} {F : Nat → Prop} {w W7 w8 V : World} {x : Nat} {a : Ac} {X : MsM} {xs : List VoM} {ro yo : Option Addr} {rc yc : Nat} (h : RaIn B w x a xs ro rc) (hB : B ≤ w.heap.size) (ht : takesA a X = true) (hk : kindA a X = 2) (hra : RaAt W7 B x a.node X.bal xs ro rc) (h7 : Turns (fun i => i = x) w W7)
    (hown : w8.ownsRow W7.heap.size 73 8 (.slice yo (aboveV xs X.slot xs.length).length yc) (aboveV xs X.slot xs.length).length (flatVo (aboveV xs X.slot xs.length))) (h8 : Below W7.heap.size W7 w8) (hV : Turns F w8 V) (hF : ∀ i, F i → w.heap.size ≤ i ∧ i < W7.heap.size) (hg : ∀ g off, ro = some ⟨g, off, none⟩ → g < w.heap.size) (c : Bool) (hc : changesA a X = c) :
    OnD B w x a ro X (.returned (.tuple #[.agg #[.int .i64 2, .int .i64 a.node, .int .i64 X.frm, .int .i64 X.bal.1, .int .i64 X.bal.2, .int .i64 X.slot, .bool true, .string ⟨#[]⟩, .string ⟨#[]⟩, .int .i64 0, .slice none 0 0, .slice yo (aboveV xs X.slot xs.length).length yc, .slice none 0 0, .slice none 0 0, .int .i64 0], .string (if c = true then recOf X else ⟨#[]⟩), .bool true])) V := by
  have ha : afterA a X = promA a X.bal := by unfold afterA; rw [if_pos hk]
  have hw7 : Below B w W7 := h7.below (fun i hi => by rw [hi]; exact h.ra.bx) hB
  have hxl : x < w.heap.size := h.ra.blk.lt
  have h78 : W7.heap.size ≤ w8.heap.size := h8.size
  have hra8 : RaAt V B x a.node X.bal xs ro rc := (hra.below h8).turned hV (fun i hi => Nat.le_trans hB (hF i hi).1) (fun hf => by have := hF x hf; omega) (fun g off e hf => by have := hg g off e; have := hF g hf; omega)
  have hrow := hV.row hown (fun k hk hf => by have h1 := (hown.lt k hk).1; have h2 := hF k hf; omega)
  have hok : AllVo V (aboveV xs X.slot xs.length) := fun z hz => hra8.ok z (aboveV_mem hz)
  obtain ⟨ao', c', e', _, hheld⟩ := heldVo_of_own rfl hrow hok
  cases e'
  unfold OnD
  rw [if_pos ht]
  refine ⟨yo, yc, aboveV xs X.slot xs.length, ?_, ?_, hheld, Nat.le_trans (aboveV_len _ _ _) h.ra.few, fun b off e => ?_, ?_⟩
  · rw [ha, hk, hc]
    rfl
  · rw [if_pos hk, ha]
    have := (h.tw.prom X.bal).above X.slot
    exact this
  · subst e
    have h1 := (hown.lt b rfl).1
    have h2 := h7.size
    omega
  · rw [ha]
    refine ⟨xs, ro, rc, ⟨hra8, h.tw.prom X.bal, ?_⟩, ?_, fun q e => .inl e⟩
    · rw [← ha]
      exact afterA_ok h.gok (takesA_right ht)
    · exact ((h7.mono (fun i hi => .inl hi)).trans (Turns.of_below (F := fun _ => False) h8 (Nat.le_refl _)) (fun _ h => h.elim)).trans hV (fun i hi => .inr (hF i hi).1)
/-- The end of an Accept that is taken. -/
theorem acc_on {B : Nat} {F : Nat → Prop} {w W7 w8 V : World} {x : Nat} {a : Ac} {X : MsM} {xs : List VoM} {ro : Option Addr} {rc : Nat} (h : RaIn B w x a xs ro rc) (hB : B ≤ w.heap.size) (ht : takesA a X = true) (hk : kindA a X = 4) (h7 : Turns (fun i => i = x) w W7)
    (hvo : VotR B W7 x a.node X.bal ro (voteV xs ⟨X.slot, X.bal, X.en⟩) w8) (hV : Turns F w8 V) (hF : ∀ i, F i → w.heap.size ≤ i ∧ i < W7.heap.size) (hg : ∀ g off, ro = some ⟨g, off, none⟩ → g < w.heap.size) (c : Bool) (hc : changesA a X = c) :
    OnD B w x a ro X (.returned (.tuple #[.agg #[.int .i64 4, .int .i64 a.node, .int .i64 X.frm, .int .i64 X.bal.1, .int .i64 X.bal.2, .int .i64 X.slot, .bool true, .string ⟨#[]⟩, .string ⟨#[]⟩, .int .i64 0, .slice none 0 0, .slice none 0 0, .slice none 0 0, .slice none 0 0, .int .i64 0], .string (if c = true then recOf X else ⟨#[]⟩), .bool true])) V := by
  have ha : afterA a X = voteA a X.slot (X.bal, X.en.e) := by unfold afterA; rw [if_neg (by rw [hk]; decide), if_pos hk]
  obtain ⟨eo', cap', hra, ht8, hnew⟩ := hvo
  have hxl : x < w.heap.size := h.ra.blk.lt
  have h7s := h7.size
  have hra8 : RaAt V B x a.node X.bal (voteV xs ⟨X.slot, X.bal, X.en⟩) eo' cap' := hra.turned hV (fun i hi => Nat.le_trans hB (hF i hi).1) (fun hf => by have := hF x hf; omega) (fun g off e hf => by
    have h1 := hF g hf
    rcases hnew _ e with h2 | h2
    · have := hg g off h2; omega
    · have h3 : W7.heap.size ≤ g := h2; omega)
  unfold OnD
  rw [if_pos ht]
  refine ⟨none, 0, [], ?_, ?_, ⟨fun y hy => (by cases hy), .inl rfl⟩, Nat.zero_le _, fun b off e => (by cases e), ?_⟩
  · rw [ha, hk, hc]
    rfl
  · rw [if_neg (by rw [hk]; decide)]; rfl
  · rw [ha]
    refine ⟨_, eo', cap', ⟨hra8, h.tw.vote h.gok ⟨X.slot, X.bal, X.en⟩, ?_⟩, ?_, fun q e => ?_⟩
    · rw [← ha]
      exact afterA_ok h.gok (takesA_right ht)
    · exact ((h7.mono (fun i hi => .inl hi)).trans ht8 (fun i hi => .inl hi)).trans hV (fun i hi => .inr (hF i hi).1)
    · rcases hnew q e with h1 | h1
      · exact .inl h1
      · exact .inr (Nat.le_trans h7s h1)
theorem prep_on2 {B : Nat} {F : Nat → Prop} {w W7 w8 V : World} {x : Nat} {a : Ac} {X : MsM} {xs : List VoM} {ro yo : Option Addr} {rc yc : Nat} (h : RaIn B w x a xs ro rc) (hB : B ≤ w.heap.size) (ht : takesA a X = true) (hk : kindA a X = 2) (hra : RaAt W7 B x a.node X.bal xs ro rc) (h7 : Turns (fun i => i = x) w W7)
    (hown : w8.ownsRow W7.heap.size 73 8 (.slice yo (aboveV xs X.slot xs.length).length yc) (aboveV xs X.slot xs.length).length (flatVo (aboveV xs X.slot xs.length))) (h8 : Below W7.heap.size W7 w8) (hV : Turns F w8 V) (hF : ∀ i, F i → w.heap.size ≤ i ∧ i < W7.heap.size) (hg : ∀ g off, ro = some ⟨g, off, none⟩ → g < w.heap.size) (c : Bool) (hc : changesA a X = c) {nd : Int} (hnd : a.node = nd) {YN : Nat} (hyn : (aboveV xs X.slot xs.length).length = YN) {R : ByteArray} (hR : (if c = true then recOf X else ⟨#[]⟩) = R) :
    OnD B w x a ro X (.returned (.tuple #[.agg #[.int .i64 2, .int .i64 nd, .int .i64 X.frm, .int .i64 X.bal.1, .int .i64 X.bal.2, .int .i64 X.slot, .bool true, .string ⟨#[]⟩, .string ⟨#[]⟩, .int .i64 0, .slice none 0 0, .slice yo YN yc, .slice none 0 0, .slice none 0 0, .int .i64 0], .string R, .bool true])) V := by
  subst hnd hyn hR
  exact prep_on h hB ht hk hra h7 hown h8 hV hF hg c hc
theorem acc_on2 {B : Nat} {F : Nat → Prop} {w W7 w8 V : World} {x : Nat} {a : Ac} {X : MsM} {xs : List VoM} {ro : Option Addr} {rc : Nat} (h : RaIn B w x a xs ro rc) (hB : B ≤ w.heap.size) (ht : takesA a X = true) (hk : kindA a X = 4) (h7 : Turns (fun i => i = x) w W7)
    (hvo : VotR B W7 x a.node X.bal ro (voteV xs ⟨X.slot, X.bal, X.en⟩) w8) (hV : Turns F w8 V) (hF : ∀ i, F i → w.heap.size ≤ i ∧ i < W7.heap.size) (hg : ∀ g off, ro = some ⟨g, off, none⟩ → g < w.heap.size) (c : Bool) (hc : changesA a X = c) {nd : Int} (hnd : a.node = nd) {R : ByteArray} (hR : (if c = true then recOf X else ⟨#[]⟩) = R) :
    OnD B w x a ro X (.returned (.tuple #[.agg #[.int .i64 4, .int .i64 nd, .int .i64 X.frm, .int .i64 X.bal.1, .int .i64 X.bal.2, .int .i64 X.slot, .bool true, .string ⟨#[]⟩, .string ⟨#[]⟩, .int .i64 0, .slice none 0 0, .slice none 0 0, .slice none 0 0, .slice none 0 0, .int .i64 0], .string R, .bool true])) V := by
  subst hnd hR
  exact acc_on h hB ht hk h7 hvo hV hF hg c hc
end Go.Proofs.YtfmnbehopdmahaaGreat
/-
  pannierref16.New; the document's votes of a slot and above put in the votes' place.
-/
namespace Go.Proofs.YtfmnbehopdmahaaGreat
open Go.RowKit Go.Maps

theorem rnewA_bad (w : World) (n : Int) (h : n < 0 ∨ 7 ≤ n) : Calls Tryz.prog 6 #[.int .i64 n] w fun e w' => e = .returned (.tuple #[.pointer none, .int .i64 1]) ∧ w' = w := by
  by_cases h0 : n < 0
  · go_enter Tryz.func6, Tryz.ntmps6
    go_wp2
    go_ret2
    exact ⟨rfl, rfl⟩
  · have h1 : 6 < n := by omega
    go_enter Tryz.func6, Tryz.ntmps6
    go_wp2
    go_ret2
    exact ⟨rfl, rfl⟩
theorem rnewA_good (w : World) (n : Int) (h0 : ¬ n < 0) (h1 : ¬ 7 ≤ n) {B : Nat} (hB : B ≤ w.heap.size) : Calls Tryz.prog 6 #[.int .i64 n] w fun e w' => ∃ x, e = .returned (.tuple #[.pointer (some ⟨x, 0, none⟩), .int .i64 0]) ∧ RaIn B w' x (newAc n) [] none 0 ∧ Below w.heap.size w w' ∧ w.heap.size ≤ x := by
  obtain ⟨w2, hw2⟩ : ∃ W, W = w.alloc (.cells #[.int .i64 n, .int .i64 0, .int .i64 0, .slice none 0 0] 51) := ⟨_, rfl⟩
  have HW : Hid (w2 = w.alloc (.cells #[.int .i64 n, .int .i64 0, .int .i64 0, .slice none 0 0] 51)) := hid hw2
  have HB : Hid (Below w.heap.size w w2) := by rw [hw2]; exact (Below.refl _ _).alloc (Nat.le_refl _) _
  have HK : Hid (Blk w2 w.heap.size 51 [.int .i64 n, .int .i64 0, .int .i64 0, .slice none 0 0]) := by rw [hw2]; exact Blk.new w _ _
  have HAT : Hid (RaIn B w2 w.heap.size (newAc n) [] none 0) := ⟨⟨HK.out, World.ownsRow_nil _ _ _ _, fun x h => (by cases h), Nat.zero_le _, fun x h => (by cases h), hB⟩, ⟨rfl, fun x h => (by cases h)⟩, newAc_ok ⟨by omega, by omega⟩⟩
  have h2 : ¬ 6 < n := by omega
  clear hw2 hB
  go_enter Tryz.func6, Tryz.ntmps6
  go_wp2
  go_ret2
  rw [← HW.out]
  exact ⟨_, rfl, HAT.out, HB.out, Nat.le_refl _⟩
theorem TwV.drop {xs : List VoM} {a : Ac} (h : TwV xs a) (s : Int) : TwV (aboveV xs s xs.length) (dropA a s) := by
  unfold aboveV
  rw [List.take_length]
  refine ⟨?_, fun y hy => ?_⟩
  · show _ = a.ks.filter (fun t => decide (s ≤ t))
    rw [← h.ns, List.filter_map]
    rfl
  · obtain ⟨h1, h2⟩ := List.mem_filter.1 hy
    have h3 : s ≤ y.slot := of_decide_eq_true h2
    show (if y.slot < s then Option.none else a.f y.slot) = _
    rw [if_neg (by omega)]
    exact h.fs y h1
theorem RaIn.dropV {B : Nat} {W9 w5 W : World} {x : Nat} {a : Ac} {xs : List VoM} {ro bo : Option Addr} {rc cp : Nat} (h : RaIn B W9 x a xs ro rc) (hB : B ≤ W9.heap.size) (s : Int) (hown : w5.ownsRow W9.heap.size 73 8 (.slice bo (aboveV xs s xs.length).length cp) (aboveV xs s xs.length).length (flatVo (aboveV xs s xs.length))) (hb : Below W9.heap.size W9 w5) (hW : W = w5.setCell ⟨x, 3, none⟩ (.slice bo (aboveV xs s xs.length).length cp)) :
    RaTo B W9 W x (dropA a s) ro := by
  obtain ⟨eo', cap', h1, h2, h3⟩ := ra_newrow h.ra hB rfl (Nat.le_trans (aboveV_len _ _ _) h.ra.few) (fun z hz => h.ra.ok z (aboveV_mem hz)) (fun z hz => h.ra.low z (aboveV_mem hz)) hb hown hW
  exact ⟨_, eo', cap', ⟨h1, h.tw.drop s, dropA_ok h.gok s⟩, h2, h3⟩
end Go.Proofs.YtfmnbehopdmahaaGreat
