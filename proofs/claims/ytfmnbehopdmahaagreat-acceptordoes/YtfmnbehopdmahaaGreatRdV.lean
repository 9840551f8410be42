/-
  Package codec: readBounded of a message.
-/
import Derived.Test.YtfmnbehopdmahaaGreatRdT
namespace Go.Proofs.YtfmnbehopdmahaaGreat
open Go.RowKit Go.Maps

set_option maxRecDepth 1000000 in
set_option maxHeartbeats 16000000 in
theorem boundedMs (ao : Option Addr) (len cap : Nat) (bs : List Int) (w : World) (h : Held w ao len cap bs) (hl : len ≤ 65536) : Calls Tryz.prog 47 #[.slice ao len cap, .func (.func 48) #[] #[]] w (ReadMs w len bs) := by
  obtain ⟨W, hW⟩ : ∃ W, W = w.alloc (.cells #[.int .i64 0, .int .i64 0, .int .i64 0, .int .i64 0, .int .i64 0, .int .i64 0, .bool false, .string ⟨#[]⟩, .string ⟨#[]⟩, .int .i64 0, .slice none 0 0, .slice none 0 0, .slice none 0 0, .slice none 0 0, .int .i64 0] 43) := ⟨_, rfl⟩
  have hb : Below w.heap.size w W := by rw [hW]; exact (Below.refl _ _).alloc (Nat.le_refl _) _
  obtain ⟨rs, hrs⟩ : ∃ q, q = w.heap.size := ⟨_, rfl⟩
  have HKR : Hid (Blk W rs 43 [.int .i64 0, .int .i64 0, .int .i64 0, .int .i64 0, .int .i64 0, .int .i64 0, .bool false, .string ⟨#[]⟩, .string ⟨#[]⟩, .int .i64 0, .slice none 0 0, .slice none 0 0, .slice none 0 0, .slice none 0 0, .int .i64 0]) := by rw [hrs, hW]; exact Blk.new w _ _
  have HR := hid (readByMs ao len cap bs W (h.below hb (Nat.le_refl _)))
  have HW := hid hW
  have HRS := hid hrs
  have HB := hid hb
  have hl' : ¬ ((65536 : Int) < (len : Int)) := by omega
  clear h hW hrs hb hl
  go_enter Tryz.func47, Tryz.ntmps47
  go_wp2_with fail
  rw [← HW.out]
  refine HR.out.mono ?_
  rintro e w1 ⟨⟨kd, fr, tt, ⟨br, bn⟩, sl, ⟨⟨np, tk, ct, ep, cut⟩, a, c⟩, va, vc, vs, sa, sc, seen, ea, ec, evs, ti⟩, n, E, rfl, hmn, hor, hb1⟩
  simp only [MsM.val]
  obtain ⟨XN, HXN⟩ : ∃ m, Hid (cut.length = m) := ⟨_, hid rfl⟩
  obtain ⟨VN, HVN⟩ : ∃ m, Hid (vs.length = m) := ⟨_, hid rfl⟩
  obtain ⟨SN, HSN⟩ : ∃ m, Hid (seen.length = m) := ⟨_, hid rfl⟩
  obtain ⟨EN, HEN⟩ : ∃ m, Hid (evs.length = m) := ⟨_, hid rfl⟩
  rw [HXN.out, HVN.out, HSN.out, HEN.out, ← HRS.out]
  have hkr1 := HKR.out.below hb1 HKR.out.lt
  have r0 := hkr1.cell (i := 0) rfl
  have f0 := hkr1.frozen 0
  have r1 := hkr1.cell (i := 1) rfl
  have f1 := hkr1.frozen 1
  have r2 := hkr1.cell (i := 2) rfl
  have f2 := hkr1.frozen 2
  have r3 := hkr1.cell (i := 3) rfl
  have f3 := hkr1.frozen 3
  have r4 := hkr1.cell (i := 4) rfl
  have f4 := hkr1.frozen 4
  have r5 := hkr1.cell (i := 5) rfl
  have f5 := hkr1.frozen 5
  have r6 := hkr1.cell (i := 6) rfl
  have f6 := hkr1.frozen 6
  have r7 := hkr1.cell (i := 7) rfl
  have f7 := hkr1.frozen 7
  have r8 := hkr1.cell (i := 8) rfl
  have f8 := hkr1.frozen 8
  have r9 := hkr1.cell (i := 9) rfl
  have f9 := hkr1.frozen 9
  have r10 := hkr1.cell (i := 10) rfl
  have f10 := hkr1.frozen 10
  have r11 := hkr1.cell (i := 11) rfl
  have f11 := hkr1.frozen 11
  have r12 := hkr1.cell (i := 12) rfl
  have f12 := hkr1.frozen 12
  have r13 := hkr1.cell (i := 13) rfl
  have f13 := hkr1.frozen 13
  have r14 := hkr1.cell (i := 14) rfl
  have f14 := hkr1.frozen 14
  obtain ⟨W9, hW9⟩ : ∃ V, V = (((((((((((((((w1.setCell ⟨rs, 0, none⟩ (.int .i64 kd)).setCell ⟨rs, 1, none⟩ (.int .i64 fr)).setCell ⟨rs, 2, none⟩ (.int .i64 tt)).setCell ⟨rs, 3, none⟩ (.int .i64 br)).setCell ⟨rs, 4, none⟩ (.int .i64 bn)).setCell ⟨rs, 5, none⟩ (.int .i64 sl)).setCell ⟨rs, 6, none⟩ (.bool np)).setCell ⟨rs, 7, none⟩ (.string tk)).setCell ⟨rs, 8, none⟩ (.string ct)).setCell ⟨rs, 9, none⟩ (.int .i64 ep)).setCell ⟨rs, 10, none⟩ (.slice a XN c)).setCell ⟨rs, 11, none⟩ (.slice va VN vc)).setCell ⟨rs, 12, none⟩ (.slice sa SN sc)).setCell ⟨rs, 13, none⟩ (.slice ea EN ec)).setCell ⟨rs, 14, none⟩ (.int .i64 ti)) := ⟨_, rfl⟩
  have hk9 : Blk W9 rs 43 [.int .i64 kd, .int .i64 fr, .int .i64 tt, .int .i64 br, .int .i64 bn, .int .i64 sl, .bool np, .string tk, .string ct, .int .i64 ep, .slice a XN c, .slice va VN vc, .slice sa SN sc, .slice ea EN ec, .int .i64 ti] := by rw [hW9]; exact (((((((((((((((hkr1.set 0 _).set 1 _).set 2 _).set 3 _).set 4 _).set 5 _).set 6 _).set 7 _).set 8 _).set 9 _).set 10 _).set 11 _).set 12 _).set 13 _).set 14 _)
  have hst : Turns (fun i => i = rs) w1 W9 := by rw [hW9]; exact ((((((((((((((((Turns.refl (fun i => i = rs) w1).setCell (p := ⟨rs, 0, none⟩) (.inl rfl) _).setCell (p := ⟨rs, 1, none⟩) (.inl rfl) _).setCell (p := ⟨rs, 2, none⟩) (.inl rfl) _).setCell (p := ⟨rs, 3, none⟩) (.inl rfl) _).setCell (p := ⟨rs, 4, none⟩) (.inl rfl) _).setCell (p := ⟨rs, 5, none⟩) (.inl rfl) _).setCell (p := ⟨rs, 6, none⟩) (.inl rfl) _).setCell (p := ⟨rs, 7, none⟩) (.inl rfl) _).setCell (p := ⟨rs, 8, none⟩) (.inl rfl) _).setCell (p := ⟨rs, 9, none⟩) (.inl rfl) _).setCell (p := ⟨rs, 10, none⟩) (.inl rfl) _).setCell (p := ⟨rs, 11, none⟩) (.inl rfl) _).setCell (p := ⟨rs, 12, none⟩) (.inl rfl) _).setCell (p := ⟨rs, 13, none⟩) (.inl rfl) _).setCell (p := ⟨rs, 14, none⟩) (.inl rfl) _)
  have HMF : Hid (MsNew w W9 ⟨kd, fr, tt, (br, bn), sl, ⟨⟨np, tk, ct, ep, cut⟩, a, c⟩, va, vc, vs, sa, sc, seen, ea, ec, evs, ti⟩) := (hmn.mono HB.out.size).turned hst (apart_blk hkr1 (by decide) (by decide) (by decide))
  have HBF : Hid (Below w.heap.size w W9) := (HB.out.trans (hb1.mono HB.out.size)).trans (hst.below (fun i hh => by rw [hh, HRS.out]; exact Nat.le_refl _) (HB.out.trans (hb1.mono HB.out.size)).size)
  have HOR := hid hor
  have k0 := hk9.cell (i := 0) rfl
  have k1 := hk9.cell (i := 1) rfl
  have k2 := hk9.cell (i := 2) rfl
  have k3 := hk9.cell (i := 3) rfl
  have k4 := hk9.cell (i := 4) rfl
  have k5 := hk9.cell (i := 5) rfl
  have k6 := hk9.cell (i := 6) rfl
  have k7 := hk9.cell (i := 7) rfl
  have k8 := hk9.cell (i := 8) rfl
  have k9 := hk9.cell (i := 9) rfl
  have k10 := hk9.cell (i := 10) rfl
  have k11 := hk9.cell (i := 11) rfl
  have k12 := hk9.cell (i := 12) rfl
  have k13 := hk9.cell (i := 13) rfl
  have k14 := hk9.cell (i := 14) rfl
  clear hk9 hst hkr1 hmn hor hb1 HR
  go_wp2
  rw [← hW9]
  (try simp only [Exit.inBlock, Exit.then])
  refine bodyPost_ret (v := .tuple #[.agg #[.int .i64 kd, .int .i64 fr, .int .i64 tt, .int .i64 br, .int .i64 bn, .int .i64 sl, .bool np, .string tk, .string ct, .int .i64 ep, .slice a XN c, .slice va VN vc, .slice sa SN sc, .slice ea EN ec, .int .i64 ti], .int .i64 (n : Int), .int .i64 E]) ?_ rfl ⟨⟨kd, fr, tt, (br, bn), sl, ⟨⟨np, tk, ct, ep, cut⟩, a, c⟩, va, vc, vs, sa, sc, seen, ea, ec, evs, ti⟩, n, E, by simp only [MsM.val]; rw [HXN.out, HVN.out, HSN.out, HEN.out], HMF.out, HOR.out, HBF.out⟩
  rw [results_cellR3 rfl]
  go_simp
end Go.Proofs.YtfmnbehopdmahaaGreat
/-
  Package codec: readBounded of a message, of any bytes; ReadMsg.
-/
namespace Go.Proofs.YtfmnbehopdmahaaGreat
open Go.RowKit Go.Maps

theorem results_cellR2 {fn : Func} {p u : Tmp} {ty : TypeId} (h : fn.results = #[.cell p ty, .tmp u]) (tmps : Array Value) (P : Program) (w : World) :
    (results fn tmps).run P w = ((asAddr (tmps.getD p undef)).run P w).andThen fun a w₁ => ((loadVar ty a).run P w₁).andThen fun x w₂ => .ok (.tuple #[x, tmps.getD u undef]) w₂ := by
  simp only [results, h]
  simp [Sem.run_bind, Result.andThen]
set_option maxRecDepth 1000000 in
set_option maxHeartbeats 16000000 in
theorem boundedBig (ao : Option Addr) (len cap : Nat) (w : World) (hl : 65536 < len) : Calls Tryz.prog 47 #[.slice ao len cap, .func (.func 48) #[] #[]] w fun e w' => e = .returned (.tuple #[.agg #[.int .i64 0, .int .i64 0, .int .i64 0, .int .i64 0, .int .i64 0, .int .i64 0, .bool false, .string ⟨#[]⟩, .string ⟨#[]⟩, .int .i64 0, .slice none 0 0, .slice none 0 0, .slice none 0 0, .slice none 0 0, .int .i64 0], .int .i64 0, .int .i64 10]) ∧ Below w.heap.size w w' := by
  have hl' : (65536 : Int) < (len : Int) := by omega
  clear hl
  go_enter Tryz.func47, Tryz.ntmps47
  go_wp2
  refine bodyPost_ret (v := .tuple #[.agg #[.int .i64 0, .int .i64 0, .int .i64 0, .int .i64 0, .int .i64 0, .int .i64 0, .bool false, .string ⟨#[]⟩, .string ⟨#[]⟩, .int .i64 0, .slice none 0 0, .slice none 0 0, .slice none 0 0, .slice none 0 0, .int .i64 0], .int .i64 0, .int .i64 10]) ?_ rfl ⟨rfl, ((Below.refl _ _).alloc (Nat.le_refl _) _).alloc (by simp) _⟩
  rw [results_cellR3 rfl]
  go_simp
/-- Is there a message in these bytes, and nothing behind it? -/
def IsMsg (len : Nat) (bs : List Int) : Prop := len ≤ 65536 ∧ ∃ y, pMsg bs = some (y, [])
/-- What readBounded answers. -/
def BMs (w : World) (len : Nat) (bs : List Int) (e : Ending) (w' : World) : Prop := ∃ (x : MsM) (n : Nat) (E : Int), e = .returned (.tuple #[x.val, .int .i64 (n : Int), .int .i64 E]) ∧ MsNew w w' x ∧ ((E = 0 ∧ len ≤ 65536 ∧ n ≤ len ∧ pMsg bs = some (x.d, bs.drop n)) ∨ (E = 10 ∧ ¬ IsMsg len bs)) ∧ Below w.heap.size w w'
/-- Which message, and which error. -/
def RmOr (x : MsM) (E : Int) (len : Nat) (bs : List Int) : Prop := (E = 0 ∧ len ≤ 65536 ∧ pMsg bs = some (x.d, [])) ∨ (E = 10 ∧ x = ⟨0, 0, 0, (0, 0), 0, ⟨⟨false, ⟨#[]⟩, ⟨#[]⟩, 0, []⟩, none, 0⟩, none, 0, [], none, 0, [], none, 0, [], 0⟩ ∧ ¬ IsMsg len bs)
/-- What ReadMsg answers. -/
def RMs (w : World) (len : Nat) (bs : List Int) (e : Ending) (w' : World) : Prop := ∃ (x : MsM) (E : Int), e = .returned (.tuple #[x.val, .int .i64 E]) ∧ MsNew w w' x ∧ RmOr x E len bs ∧ Below w.heap.size w w'
theorem boundAll (ao : Option Addr) (len cap : Nat) (bs : List Int) (w : World) (h : Held w ao len cap bs) : Calls Tryz.prog 47 #[.slice ao len cap, .func (.func 48) #[] #[]] w (BMs w len bs) := by
  by_cases hl : len ≤ 65536
  · refine (boundedMs ao len cap bs w h hl).mono ?_
    rintro e w' ⟨x, n, E, he, hn, hor, hb⟩
    refine ⟨x, n, E, he, hn, ?_, hb⟩
    rcases hor with ⟨h1, h2, h3⟩ | ⟨h1, h2⟩
    · exact .inl ⟨h1, hl, h2, h3⟩
    · refine .inr ⟨h1, fun ⟨_, y, hy⟩ => ?_⟩
      rw [h2] at hy
      cases hy
  · refine (boundedBig ao len cap w (by omega)).mono ?_
    rintro e w' ⟨rfl, hb⟩
    exact ⟨⟨0, 0, 0, (0, 0), 0, ⟨⟨false, ⟨#[]⟩, ⟨#[]⟩, 0, []⟩, none, 0⟩, none, 0, [], none, 0, [], none, 0, [], 0⟩, 0, 10, rfl, msNew_zero w w', .inr ⟨rfl, fun ⟨h1, _⟩ => hl h1⟩, hb⟩
set_option maxRecDepth 1000000 in
set_option maxHeartbeats 16000000 in
theorem readMsg_any (ao : Option Addr) (len cap : Nat) (bs : List Int) (w : World) (h : Held w ao len cap bs) : Calls Tryz.prog 34 #[.slice ao len cap] w (RMs w len bs) := by
  obtain ⟨W, hW⟩ : ∃ W, W = w.alloc (.cells #[.int .i64 0, .int .i64 0, .int .i64 0, .int .i64 0, .int .i64 0, .int .i64 0, .bool false, .string ⟨#[]⟩, .string ⟨#[]⟩, .int .i64 0, .slice none 0 0, .slice none 0 0, .slice none 0 0, .slice none 0 0, .int .i64 0] 43) := ⟨_, rfl⟩
  have hb : Below w.heap.size w W := by rw [hW]; exact (Below.refl _ _).alloc (Nat.le_refl _) _
  obtain ⟨rs, hrs⟩ : ∃ q, q = w.heap.size := ⟨_, rfl⟩
  have HKR : Hid (Blk W rs 43 [.int .i64 0, .int .i64 0, .int .i64 0, .int .i64 0, .int .i64 0, .int .i64 0, .bool false, .string ⟨#[]⟩, .string ⟨#[]⟩, .int .i64 0, .slice none 0 0, .slice none 0 0, .slice none 0 0, .slice none 0 0, .int .i64 0]) := by rw [hrs, hW]; exact Blk.new w _ _
  have HR := hid (boundAll ao len cap bs W (h.below hb (Nat.le_refl _)))
  have HW := hid hW
  have HRS := hid hrs
  have HB := hid hb
  have HBS : Hid (bs.length = len) := h.hlen
  clear h hW hrs hb
  go_enter Tryz.func34, Tryz.ntmps34
  go_wp2_with fail
  rw [← HW.out]
  refine HR.out.mono ?_
  rintro e w1 ⟨⟨kd, fr, tt, ⟨br, bn⟩, sl, ⟨⟨np, tk, ct, ep, cut⟩, a, c⟩, va, vc, vs, sa, sc, seen, ea, ec, evs, ti⟩, n, E, rfl, hmn, hor, hb1⟩
  simp only [MsM.val]
  obtain ⟨XN, HXN⟩ : ∃ m, Hid (cut.length = m) := ⟨_, hid rfl⟩
  obtain ⟨VN, HVN⟩ : ∃ m, Hid (vs.length = m) := ⟨_, hid rfl⟩
  obtain ⟨SN, HSN⟩ : ∃ m, Hid (seen.length = m) := ⟨_, hid rfl⟩
  obtain ⟨EN, HEN⟩ : ∃ m, Hid (evs.length = m) := ⟨_, hid rfl⟩
  rw [HXN.out, HVN.out, HSN.out, HEN.out, ← HRS.out]
  obtain ⟨U, hU⟩ : ∃ V, V = w1.alloc (.cells #[.int .i64 kd, .int .i64 fr, .int .i64 tt, .int .i64 br, .int .i64 bn, .int .i64 sl, .bool np, .string tk, .string ct, .int .i64 ep, .slice a XN c, .slice va VN vc, .slice sa SN sc, .slice ea EN ec, .int .i64 ti] 43) := ⟨_, rfl⟩
  have hbU : Below w1.heap.size w1 U := by rw [hU]; exact (Below.refl _ _).alloc (Nat.le_refl _) _
  have HKX : Hid (Blk U w1.heap.size 43 [.int .i64 kd, .int .i64 fr, .int .i64 tt, .int .i64 br, .int .i64 bn, .int .i64 sl, .bool np, .string tk, .string ct, .int .i64 ep, .slice a XN c, .slice va VN vc, .slice sa SN sc, .slice ea EN ec, .int .i64 ti]) := by rw [hU]; exact Blk.new w1 _ _
  have HKS2 : Hid (Blk U rs 43 [.int .i64 0, .int .i64 0, .int .i64 0, .int .i64 0, .int .i64 0, .int .i64 0, .bool false, .string ⟨#[]⟩, .string ⟨#[]⟩, .int .i64 0, .slice none 0 0, .slice none 0 0, .slice none 0 0, .slice none 0 0, .int .i64 0]) := by
    have h1 := HKR.out.below hb1 HKR.out.lt
    exact h1.below hbU h1.lt
  have HBX : Hid (Below w.heap.size w U) := (HB.out.trans (hb1.mono HB.out.size)).trans (hbU.mono (HB.out.trans (hb1.mono HB.out.size)).size)
  have HMN : Hid (MsNew w U ⟨kd, fr, tt, (br, bn), sl, ⟨⟨np, tk, ct, ep, cut⟩, a, c⟩, va, vc, vs, sa, sc, seen, ea, ec, evs, ti⟩) := (hmn.below hbU).mono HB.out.size
  have HU := hid hU
  clear hU hbU hmn hb1 HKR HR
  rcases hor with ⟨rfl, hl, hn, hp⟩ | ⟨rfl, hno⟩
  · by_cases he : n = len
    · subst he
      have HOR : Hid (RmOr ⟨kd, fr, tt, (br, bn), sl, ⟨⟨np, tk, ct, ep, cut⟩, a, c⟩, va, vc, vs, sa, sc, seen, ea, ec, evs, ti⟩ 0 n bs) := .inl ⟨rfl, hl, by rw [hp, List.drop_of_length_le (by rw [HBS.out]; exact Nat.le_refl _)]⟩
      clear hl hn hp
      obtain ⟨W9, hW9⟩ : ∃ V, V = (((((((((((((((U.setCell ⟨rs, 0, none⟩ (.int .i64 kd)).setCell ⟨rs, 1, none⟩ (.int .i64 fr)).setCell ⟨rs, 2, none⟩ (.int .i64 tt)).setCell ⟨rs, 3, none⟩ (.int .i64 br)).setCell ⟨rs, 4, none⟩ (.int .i64 bn)).setCell ⟨rs, 5, none⟩ (.int .i64 sl)).setCell ⟨rs, 6, none⟩ (.bool np)).setCell ⟨rs, 7, none⟩ (.string tk)).setCell ⟨rs, 8, none⟩ (.string ct)).setCell ⟨rs, 9, none⟩ (.int .i64 ep)).setCell ⟨rs, 10, none⟩ (.slice a XN c)).setCell ⟨rs, 11, none⟩ (.slice va VN vc)).setCell ⟨rs, 12, none⟩ (.slice sa SN sc)).setCell ⟨rs, 13, none⟩ (.slice ea EN ec)).setCell ⟨rs, 14, none⟩ (.int .i64 ti)) := ⟨_, rfl⟩
      have hk9 : Blk W9 rs 43 [.int .i64 kd, .int .i64 fr, .int .i64 tt, .int .i64 br, .int .i64 bn, .int .i64 sl, .bool np, .string tk, .string ct, .int .i64 ep, .slice a XN c, .slice va VN vc, .slice sa SN sc, .slice ea EN ec, .int .i64 ti] := by rw [hW9]; exact (((((((((((((((HKS2.out.set 0 _).set 1 _).set 2 _).set 3 _).set 4 _).set 5 _).set 6 _).set 7 _).set 8 _).set 9 _).set 10 _).set 11 _).set 12 _).set 13 _).set 14 _)
      have hst : Turns (fun i => i = rs) U W9 := by rw [hW9]; exact ((((((((((((((((Turns.refl (fun i => i = rs) U).setCell (p := ⟨rs, 0, none⟩) (.inl rfl) _).setCell (p := ⟨rs, 1, none⟩) (.inl rfl) _).setCell (p := ⟨rs, 2, none⟩) (.inl rfl) _).setCell (p := ⟨rs, 3, none⟩) (.inl rfl) _).setCell (p := ⟨rs, 4, none⟩) (.inl rfl) _).setCell (p := ⟨rs, 5, none⟩) (.inl rfl) _).setCell (p := ⟨rs, 6, none⟩) (.inl rfl) _).setCell (p := ⟨rs, 7, none⟩) (.inl rfl) _).setCell (p := ⟨rs, 8, none⟩) (.inl rfl) _).setCell (p := ⟨rs, 9, none⟩) (.inl rfl) _).setCell (p := ⟨rs, 10, none⟩) (.inl rfl) _).setCell (p := ⟨rs, 11, none⟩) (.inl rfl) _).setCell (p := ⟨rs, 12, none⟩) (.inl rfl) _).setCell (p := ⟨rs, 13, none⟩) (.inl rfl) _).setCell (p := ⟨rs, 14, none⟩) (.inl rfl) _)
      have HMF : Hid (MsNew w W9 ⟨kd, fr, tt, (br, bn), sl, ⟨⟨np, tk, ct, ep, cut⟩, a, c⟩, va, vc, vs, sa, sc, seen, ea, ec, evs, ti⟩) := HMN.out.turned hst (apart_blk HKS2.out (by decide) (by decide) (by decide))
      have HBF : Hid (Below w.heap.size w W9) := HBX.out.trans (hst.below (fun i hh => by rw [hh, HRS.out]; exact Nat.le_refl _) HBX.out.size)
      have k0 := hk9.cell (i := 0) rfl
      have k1 := hk9.cell (i := 1) rfl
      have k2 := hk9.cell (i := 2) rfl
      have k3 := hk9.cell (i := 3) rfl
      have k4 := hk9.cell (i := 4) rfl
      have k5 := hk9.cell (i := 5) rfl
      have k6 := hk9.cell (i := 6) rfl
      have k7 := hk9.cell (i := 7) rfl
      have k8 := hk9.cell (i := 8) rfl
      have k9 := hk9.cell (i := 9) rfl
      have k10 := hk9.cell (i := 10) rfl
      have k11 := hk9.cell (i := 11) rfl
      have k12 := hk9.cell (i := 12) rfl
      have k13 := hk9.cell (i := 13) rfl
      have k14 := hk9.cell (i := 14) rfl
      clear hk9 hst
      have q0 := HKX.out.cell (i := 0) rfl
      have q1 := HKX.out.cell (i := 1) rfl
      have q2 := HKX.out.cell (i := 2) rfl
      have q3 := HKX.out.cell (i := 3) rfl
      have q4 := HKX.out.cell (i := 4) rfl
      have q5 := HKX.out.cell (i := 5) rfl
      have q6 := HKX.out.cell (i := 6) rfl
      have q7 := HKX.out.cell (i := 7) rfl
      have q8 := HKX.out.cell (i := 8) rfl
      have q9 := HKX.out.cell (i := 9) rfl
      have q10 := HKX.out.cell (i := 10) rfl
      have q11 := HKX.out.cell (i := 11) rfl
      have q12 := HKX.out.cell (i := 12) rfl
      have q13 := HKX.out.cell (i := 13) rfl
      have q14 := HKX.out.cell (i := 14) rfl
      have r0 := HKS2.out.cell (i := 0) rfl
      have r1 := HKS2.out.cell (i := 1) rfl
      have r2 := HKS2.out.cell (i := 2) rfl
      have r3 := HKS2.out.cell (i := 3) rfl
      have r4 := HKS2.out.cell (i := 4) rfl
      have r5 := HKS2.out.cell (i := 5) rfl
      have r6 := HKS2.out.cell (i := 6) rfl
      have r7 := HKS2.out.cell (i := 7) rfl
      have r8 := HKS2.out.cell (i := 8) rfl
      have r9 := HKS2.out.cell (i := 9) rfl
      have r10 := HKS2.out.cell (i := 10) rfl
      have r11 := HKS2.out.cell (i := 11) rfl
      have r12 := HKS2.out.cell (i := 12) rfl
      have r13 := HKS2.out.cell (i := 13) rfl
      have r14 := HKS2.out.cell (i := 14) rfl
      have f0 := HKS2.out.frozen 0
      have f1 := HKS2.out.frozen 1
      have f2 := HKS2.out.frozen 2
      have f3 := HKS2.out.frozen 3
      have f4 := HKS2.out.frozen 4
      have f5 := HKS2.out.frozen 5
      have f6 := HKS2.out.frozen 6
      have f7 := HKS2.out.frozen 7
      have f8 := HKS2.out.frozen 8
      have f9 := HKS2.out.frozen 9
      have f10 := HKS2.out.frozen 10
      have f11 := HKS2.out.frozen 11
      have f12 := HKS2.out.frozen 12
      have f13 := HKS2.out.frozen 13
      have f14 := HKS2.out.frozen 14
      rw [HU.out] at q0 r0 f0 q1 r1 f1 q2 r2 f2 q3 r3 f3 q4 r4 f4 q5 r5 f5 q6 r6 f6 q7 r7 f7 q8 r8 f8 q9 r9 f9 q10 r10 f10 q11 r11 f11 q12 r12 f12 q13 r13 f13 q14 r14 f14
      go_wp2
      rw [← HU.out, ← hW9]
      clear hW9 q0 r0 f0 q1 r1 f1 q2 r2 f2 q3 r3 f3 q4 r4 f4 q5 r5 f5 q6 r6 f6 q7 r7 f7 q8 r8 f8 q9 r9 f9 q10 r10 f10 q11 r11 f11 q12 r12 f12 q13 r13 f13 q14 r14 f14
      (try simp only [Exit.inBlock, Exit.then])
      refine bodyPost_ret (v := .tuple #[.agg #[.int .i64 kd, .int .i64 fr, .int .i64 tt, .int .i64 br, .int .i64 bn, .int .i64 sl, .bool np, .string tk, .string ct, .int .i64 ep, .slice a XN c, .slice va VN vc, .slice sa SN sc, .slice ea EN ec, .int .i64 ti], .int .i64 0]) ?_ rfl ⟨⟨kd, fr, tt, (br, bn), sl, ⟨⟨np, tk, ct, ep, cut⟩, a, c⟩, va, vc, vs, sa, sc, seen, ea, ec, evs, ti⟩, 0, by simp only [MsM.val]; rw [HXN.out, HVN.out, HSN.out, HEN.out], HMF.out, HOR.out, HBF.out⟩
      rw [results_cellR2 rfl]
      go_simp
    · have hne : ¬ (n : Int) = (len : Int) := by omega
      have HOR : Hid (RmOr ⟨0, 0, 0, (0, 0), 0, ⟨⟨false, ⟨#[]⟩, ⟨#[]⟩, 0, []⟩, none, 0⟩, none, 0, [], none, 0, [], none, 0, [], 0⟩ 10 len bs) := .inr ⟨rfl, rfl, fun ⟨_, y, hy⟩ => by
        rw [hp] at hy
        have h1 : bs.drop n = [] := by injection hy with hy; injection hy
        have h2 := List.length_drop (i := n) (l := bs)
        rw [h1, HBS.out] at h2
        simp at h2
        omega⟩
      clear hl hn hp
      obtain ⟨W9, hW9⟩ : ∃ V, V = (((((((((((((((U.setCell ⟨rs, 0, none⟩ (.int .i64 0)).setCell ⟨rs, 1, none⟩ (.int .i64 0)).setCell ⟨rs, 2, none⟩ (.int .i64 0)).setCell ⟨rs, 3, none⟩ (.int .i64 0)).setCell ⟨rs, 4, none⟩ (.int .i64 0)).setCell ⟨rs, 5, none⟩ (.int .i64 0)).setCell ⟨rs, 6, none⟩ (.bool false)).setCell ⟨rs, 7, none⟩ (.string ⟨#[]⟩)).setCell ⟨rs, 8, none⟩ (.string ⟨#[]⟩)).setCell ⟨rs, 9, none⟩ (.int .i64 0)).setCell ⟨rs, 10, none⟩ (.slice none 0 0)).setCell ⟨rs, 11, none⟩ (.slice none 0 0)).setCell ⟨rs, 12, none⟩ (.slice none 0 0)).setCell ⟨rs, 13, none⟩ (.slice none 0 0)).setCell ⟨rs, 14, none⟩ (.int .i64 0)) := ⟨_, rfl⟩
      have hk9 : Blk W9 rs 43 [.int .i64 0, .int .i64 0, .int .i64 0, .int .i64 0, .int .i64 0, .int .i64 0, .bool false, .string ⟨#[]⟩, .string ⟨#[]⟩, .int .i64 0, .slice none 0 0, .slice none 0 0, .slice none 0 0, .slice none 0 0, .int .i64 0] := by rw [hW9]; exact (((((((((((((((HKS2.out.set 0 _).set 1 _).set 2 _).set 3 _).set 4 _).set 5 _).set 6 _).set 7 _).set 8 _).set 9 _).set 10 _).set 11 _).set 12 _).set 13 _).set 14 _)
      have hst : Turns (fun i => i = rs) U W9 := by rw [hW9]; exact ((((((((((((((((Turns.refl (fun i => i = rs) U).setCell (p := ⟨rs, 0, none⟩) (.inl rfl) _).setCell (p := ⟨rs, 1, none⟩) (.inl rfl) _).setCell (p := ⟨rs, 2, none⟩) (.inl rfl) _).setCell (p := ⟨rs, 3, none⟩) (.inl rfl) _).setCell (p := ⟨rs, 4, none⟩) (.inl rfl) _).setCell (p := ⟨rs, 5, none⟩) (.inl rfl) _).setCell (p := ⟨rs, 6, none⟩) (.inl rfl) _).setCell (p := ⟨rs, 7, none⟩) (.inl rfl) _).setCell (p := ⟨rs, 8, none⟩) (.inl rfl) _).setCell (p := ⟨rs, 9, none⟩) (.inl rfl) _).setCell (p := ⟨rs, 10, none⟩) (.inl rfl) _).setCell (p := ⟨rs, 11, none⟩) (.inl rfl) _).setCell (p := ⟨rs, 12, none⟩) (.inl rfl) _).setCell (p := ⟨rs, 13, none⟩) (.inl rfl) _).setCell (p := ⟨rs, 14, none⟩) (.inl rfl) _)
      have HMF : Hid (MsNew w W9 ⟨0, 0, 0, (0, 0), 0, ⟨⟨false, ⟨#[]⟩, ⟨#[]⟩, 0, []⟩, none, 0⟩, none, 0, [], none, 0, [], none, 0, [], 0⟩) := msNew_zero w W9
      have HBF : Hid (Below w.heap.size w W9) := HBX.out.trans (hst.below (fun i hh => by rw [hh, HRS.out]; exact Nat.le_refl _) HBX.out.size)
      have k0 := hk9.cell (i := 0) rfl
      have k1 := hk9.cell (i := 1) rfl
      have k2 := hk9.cell (i := 2) rfl
      have k3 := hk9.cell (i := 3) rfl
      have k4 := hk9.cell (i := 4) rfl
      have k5 := hk9.cell (i := 5) rfl
      have k6 := hk9.cell (i := 6) rfl
      have k7 := hk9.cell (i := 7) rfl
      have k8 := hk9.cell (i := 8) rfl
      have k9 := hk9.cell (i := 9) rfl
      have k10 := hk9.cell (i := 10) rfl
      have k11 := hk9.cell (i := 11) rfl
      have k12 := hk9.cell (i := 12) rfl
      have k13 := hk9.cell (i := 13) rfl
      have k14 := hk9.cell (i := 14) rfl
      clear hk9 hst
      have q0 := HKX.out.cell (i := 0) rfl
      have q1 := HKX.out.cell (i := 1) rfl
      have q2 := HKX.out.cell (i := 2) rfl
      have q3 := HKX.out.cell (i := 3) rfl
      have q4 := HKX.out.cell (i := 4) rfl
      have q5 := HKX.out.cell (i := 5) rfl
      have q6 := HKX.out.cell (i := 6) rfl
      have q7 := HKX.out.cell (i := 7) rfl
      have q8 := HKX.out.cell (i := 8) rfl
      have q9 := HKX.out.cell (i := 9) rfl
      have q10 := HKX.out.cell (i := 10) rfl
      have q11 := HKX.out.cell (i := 11) rfl
      have q12 := HKX.out.cell (i := 12) rfl
      have q13 := HKX.out.cell (i := 13) rfl
      have q14 := HKX.out.cell (i := 14) rfl
      have r0 := HKS2.out.cell (i := 0) rfl
      have r1 := HKS2.out.cell (i := 1) rfl
      have r2 := HKS2.out.cell (i := 2) rfl
      have r3 := HKS2.out.cell (i := 3) rfl
      have r4 := HKS2.out.cell (i := 4) rfl
      have r5 := HKS2.out.cell (i := 5) rfl
      have r6 := HKS2.out.cell (i := 6) rfl
      have r7 := HKS2.out.cell (i := 7) rfl
      have r8 := HKS2.out.cell (i := 8) rfl
      have r9 := HKS2.out.cell (i := 9) rfl
      have r10 := HKS2.out.cell (i := 10) rfl
      have r11 := HKS2.out.cell (i := 11) rfl
      have r12 := HKS2.out.cell (i := 12) rfl
      have r13 := HKS2.out.cell (i := 13) rfl
      have r14 := HKS2.out.cell (i := 14) rfl
      have f0 := HKS2.out.frozen 0
      have f1 := HKS2.out.frozen 1
      have f2 := HKS2.out.frozen 2
      have f3 := HKS2.out.frozen 3
      have f4 := HKS2.out.frozen 4
      have f5 := HKS2.out.frozen 5
      have f6 := HKS2.out.frozen 6
      have f7 := HKS2.out.frozen 7
      have f8 := HKS2.out.frozen 8
      have f9 := HKS2.out.frozen 9
      have f10 := HKS2.out.frozen 10
      have f11 := HKS2.out.frozen 11
      have f12 := HKS2.out.frozen 12
      have f13 := HKS2.out.frozen 13
      have f14 := HKS2.out.frozen 14
      rw [HU.out] at q0 r0 f0 q1 r1 f1 q2 r2 f2 q3 r3 f3 q4 r4 f4 q5 r5 f5 q6 r6 f6 q7 r7 f7 q8 r8 f8 q9 r9 f9 q10 r10 f10 q11 r11 f11 q12 r12 f12 q13 r13 f13 q14 r14 f14
      go_wp2
      rw [← HU.out, ← hW9]
      clear hW9 q0 r0 f0 q1 r1 f1 q2 r2 f2 q3 r3 f3 q4 r4 f4 q5 r5 f5 q6 r6 f6 q7 r7 f7 q8 r8 f8 q9 r9 f9 q10 r10 f10 q11 r11 f11 q12 r12 f12 q13 r13 f13 q14 r14 f14
      (try simp only [Exit.inBlock, Exit.then])
      refine bodyPost_ret (v := .tuple #[.agg #[.int .i64 0, .int .i64 0, .int .i64 0, .int .i64 0, .int .i64 0, .int .i64 0, .bool false, .string ⟨#[]⟩, .string ⟨#[]⟩, .int .i64 0, .slice none 0 0, .slice none 0 0, .slice none 0 0, .slice none 0 0, .int .i64 0], .int .i64 10]) ?_ rfl ⟨⟨0, 0, 0, (0, 0), 0, ⟨⟨false, ⟨#[]⟩, ⟨#[]⟩, 0, []⟩, none, 0⟩, none, 0, [], none, 0, [], none, 0, [], 0⟩, 10, rfl, HMF.out, HOR.out, HBF.out⟩
      rw [results_cellR2 rfl]
      go_simp
  · have HOR : Hid (RmOr ⟨0, 0, 0, (0, 0), 0, ⟨⟨false, ⟨#[]⟩, ⟨#[]⟩, 0, []⟩, none, 0⟩, none, 0, [], none, 0, [], none, 0, [], 0⟩ 10 len bs) := .inr ⟨rfl, rfl, hno⟩
    clear hno
    obtain ⟨W9, hW9⟩ : ∃ V, V = (((((((((((((((U.setCell ⟨rs, 0, none⟩ (.int .i64 0)).setCell ⟨rs, 1, none⟩ (.int .i64 0)).setCell ⟨rs, 2, none⟩ (.int .i64 0)).setCell ⟨rs, 3, none⟩ (.int .i64 0)).setCell ⟨rs, 4, none⟩ (.int .i64 0)).setCell ⟨rs, 5, none⟩ (.int .i64 0)).setCell ⟨rs, 6, none⟩ (.bool false)).setCell ⟨rs, 7, none⟩ (.string ⟨#[]⟩)).setCell ⟨rs, 8, none⟩ (.string ⟨#[]⟩)).setCell ⟨rs, 9, none⟩ (.int .i64 0)).setCell ⟨rs, 10, none⟩ (.slice none 0 0)).setCell ⟨rs, 11, none⟩ (.slice none 0 0)).setCell ⟨rs, 12, none⟩ (.slice none 0 0)).setCell ⟨rs, 13, none⟩ (.slice none 0 0)).setCell ⟨rs, 14, none⟩ (.int .i64 0)) := ⟨_, rfl⟩
    have hk9 : Blk W9 rs 43 [.int .i64 0, .int .i64 0, .int .i64 0, .int .i64 0, .int .i64 0, .int .i64 0, .bool false, .string ⟨#[]⟩, .string ⟨#[]⟩, .int .i64 0, .slice none 0 0, .slice none 0 0, .slice none 0 0, .slice none 0 0, .int .i64 0] := by rw [hW9]; exact (((((((((((((((HKS2.out.set 0 _).set 1 _).set 2 _).set 3 _).set 4 _).set 5 _).set 6 _).set 7 _).set 8 _).set 9 _).set 10 _).set 11 _).set 12 _).set 13 _).set 14 _)
    have hst : Turns (fun i => i = rs) U W9 := by rw [hW9]; exact ((((((((((((((((Turns.refl (fun i => i = rs) U).setCell (p := ⟨rs, 0, none⟩) (.inl rfl) _).setCell (p := ⟨rs, 1, none⟩) (.inl rfl) _).setCell (p := ⟨rs, 2, none⟩) (.inl rfl) _).setCell (p := ⟨rs, 3, none⟩) (.inl rfl) _).setCell (p := ⟨rs, 4, none⟩) (.inl rfl) _).setCell (p := ⟨rs, 5, none⟩) (.inl rfl) _).setCell (p := ⟨rs, 6, none⟩) (.inl rfl) _).setCell (p := ⟨rs, 7, none⟩) (.inl rfl) _).setCell (p := ⟨rs, 8, none⟩) (.inl rfl) _).setCell (p := ⟨rs, 9, none⟩) (.inl rfl) _).setCell (p := ⟨rs, 10, none⟩) (.inl rfl) _).setCell (p := ⟨rs, 11, none⟩) (.inl rfl) _).setCell (p := ⟨rs, 12, none⟩) (.inl rfl) _).setCell (p := ⟨rs, 13, none⟩) (.inl rfl) _).setCell (p := ⟨rs, 14, none⟩) (.inl rfl) _)
    have HMF : Hid (MsNew w W9 ⟨0, 0, 0, (0, 0), 0, ⟨⟨false, ⟨#[]⟩, ⟨#[]⟩, 0, []⟩, none, 0⟩, none, 0, [], none, 0, [], none, 0, [], 0⟩) := msNew_zero w W9
    have HBF : Hid (Below w.heap.size w W9) := HBX.out.trans (hst.below (fun i hh => by rw [hh, HRS.out]; exact Nat.le_refl _) HBX.out.size)
    have k0 := hk9.cell (i := 0) rfl
    have k1 := hk9.cell (i := 1) rfl
    have k2 := hk9.cell (i := 2) rfl
    have k3 := hk9.cell (i := 3) rfl
    have k4 := hk9.cell (i := 4) rfl
    have k5 := hk9.cell (i := 5) rfl
    have k6 := hk9.cell (i := 6) rfl
    have k7 := hk9.cell (i := 7) rfl
    have k8 := hk9.cell (i := 8) rfl
    have k9 := hk9.cell (i := 9) rfl
    have k10 := hk9.cell (i := 10) rfl
    have k11 := hk9.cell (i := 11) rfl
    have k12 := hk9.cell (i := 12) rfl
    have k13 := hk9.cell (i := 13) rfl
    have k14 := hk9.cell (i := 14) rfl
    clear hk9 hst
    have q0 := HKX.out.cell (i := 0) rfl
    have q1 := HKX.out.cell (i := 1) rfl
    have q2 := HKX.out.cell (i := 2) rfl
    have q3 := HKX.out.cell (i := 3) rfl
    have q4 := HKX.out.cell (i := 4) rfl
    have q5 := HKX.out.cell (i := 5) rfl
    have q6 := HKX.out.cell (i := 6) rfl
    have q7 := HKX.out.cell (i := 7) rfl
    have q8 := HKX.out.cell (i := 8) rfl
    have q9 := HKX.out.cell (i := 9) rfl
    have q10 := HKX.out.cell (i := 10) rfl
    have q11 := HKX.out.cell (i := 11) rfl
    have q12 := HKX.out.cell (i := 12) rfl
    have q13 := HKX.out.cell (i := 13) rfl
    have q14 := HKX.out.cell (i := 14) rfl
    have r0 := HKS2.out.cell (i := 0) rfl
    have r1 := HKS2.out.cell (i := 1) rfl
    have r2 := HKS2.out.cell (i := 2) rfl
    have r3 := HKS2.out.cell (i := 3) rfl
    have r4 := HKS2.out.cell (i := 4) rfl
    have r5 := HKS2.out.cell (i := 5) rfl
    have r6 := HKS2.out.cell (i := 6) rfl
    have r7 := HKS2.out.cell (i := 7) rfl
    have r8 := HKS2.out.cell (i := 8) rfl
    have r9 := HKS2.out.cell (i := 9) rfl
    have r10 := HKS2.out.cell (i := 10) rfl
    have r11 := HKS2.out.cell (i := 11) rfl
    have r12 := HKS2.out.cell (i := 12) rfl
    have r13 := HKS2.out.cell (i := 13) rfl
    have r14 := HKS2.out.cell (i := 14) rfl
    have f0 := HKS2.out.frozen 0
    have f1 := HKS2.out.frozen 1
    have f2 := HKS2.out.frozen 2
    have f3 := HKS2.out.frozen 3
    have f4 := HKS2.out.frozen 4
    have f5 := HKS2.out.frozen 5
    have f6 := HKS2.out.frozen 6
    have f7 := HKS2.out.frozen 7
    have f8 := HKS2.out.frozen 8
    have f9 := HKS2.out.frozen 9
    have f10 := HKS2.out.frozen 10
    have f11 := HKS2.out.frozen 11
    have f12 := HKS2.out.frozen 12
    have f13 := HKS2.out.frozen 13
    have f14 := HKS2.out.frozen 14
    rw [HU.out] at q0 r0 f0 q1 r1 f1 q2 r2 f2 q3 r3 f3 q4 r4 f4 q5 r5 f5 q6 r6 f6 q7 r7 f7 q8 r8 f8 q9 r9 f9 q10 r10 f10 q11 r11 f11 q12 r12 f12 q13 r13 f13 q14 r14 f14
    go_wp2
    rw [← HU.out, ← hW9]
    clear hW9 q0 r0 f0 q1 r1 f1 q2 r2 f2 q3 r3 f3 q4 r4 f4 q5 r5 f5 q6 r6 f6 q7 r7 f7 q8 r8 f8 q9 r9 f9 q10 r10 f10 q11 r11 f11 q12 r12 f12 q13 r13 f13 q14 r14 f14
    (try simp only [Exit.inBlock, Exit.then])
    refine bodyPost_ret (v := .tuple #[.agg #[.int .i64 0, .int .i64 0, .int .i64 0, .int .i64 0, .int .i64 0, .int .i64 0, .bool false, .string ⟨#[]⟩, .string ⟨#[]⟩, .int .i64 0, .slice none 0 0, .slice none 0 0, .slice none 0 0, .slice none 0 0, .int .i64 0], .int .i64 10]) ?_ rfl ⟨⟨0, 0, 0, (0, 0), 0, ⟨⟨false, ⟨#[]⟩, ⟨#[]⟩, 0, []⟩, none, 0⟩, none, 0, [], none, 0, [], none, 0, [], 0⟩, 10, rfl, HMF.out, HOR.out, HBF.out⟩
    rw [results_cellR2 rfl]
    go_simp
end Go.Proofs.YtfmnbehopdmahaaGreat
