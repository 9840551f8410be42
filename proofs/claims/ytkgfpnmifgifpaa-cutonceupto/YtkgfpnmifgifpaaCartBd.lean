/-
  Package cart: two.with of an event of that origin.
-/
import Derived.Test.YtkgfpnmifgifpaaCartB
namespace Go.Proofs.Ytkgfpnmifgifpaa
open Go.RowKit Go.Maps

set_option maxRecDepth 1000000 in
set_option maxHeartbeats 2000000 in
theorem with_Ys (w : World) (t : TwM) (f : EvM) (o : Int) (ht : TwOk w t) (hf : EvOk w f) (heq : f.e.o = o) (hdf : f.e ≠ t.first.e) (hyx : ¬ ofV t.first.e.deps o < ofV f.e.deps o) (hzx : ¬ ofV t.second.e.deps o < ofV f.e.deps o) :
    Calls Try.prog 63 #[t.val, f.val, .int .i64 o] w fun e w' => e = .returned (t : TwM).val ∧ Below w.heap.size w w' := by
  have HSM : Hid (∀ V, Below w.heap.size w V → Calls Try.prog 64 #[f.val, t.first.val] V fun e w' => e = .returned (.bool (decide (f.e = t.first.e))) ∧ Below V.heap.size V w') := fun V hV => cSame_any V f t.first (hf.below hV) (ht.1.below hV)
  have HF := hid hf
  have H1 := hid ht.1
  have H2 := hid ht.2
  obtain ⟨r0, HR0⟩ : ∃ r, Hid (decide (f.e = t.first.e) = r) := ⟨_, hid rfl⟩
  rw [HR0.out] at HSM
  obtain ⟨X, HX⟩ : ∃ r, Hid (ofV f.e.deps o = r) := ⟨_, hid rfl⟩
  obtain ⟨Y, HY⟩ : ∃ r, Hid (ofV t.first.e.deps o = r) := ⟨_, hid rfl⟩
  obtain ⟨Z, HZ⟩ : ∃ r, Hid (ofV t.second.e.deps o = r) := ⟨_, hid rfl⟩
  have HCF : Hid (∀ V p, Below w.heap.size w V → V.cell? ⟨p, 0, none⟩ = some (.int .i64 o) → Calls Try.prog 81 #[f.val, .pointer (some ⟨p, 0, none⟩)] V fun e w' => e = .returned (.int .i64 X) ∧ Below V.heap.size V w') := fun V p hV hp => by rw [← HX.out]; exact with1_any V f (HF.out.below hV) p o hp
  have HC1 : Hid (∀ V p, Below w.heap.size w V → V.cell? ⟨p, 0, none⟩ = some (.int .i64 o) → Calls Try.prog 81 #[t.first.val, .pointer (some ⟨p, 0, none⟩)] V fun e w' => e = .returned (.int .i64 Y) ∧ Below V.heap.size V w') := fun V p hV hp => by rw [← HY.out]; exact with1_any V t.first (H1.out.below hV) p o hp
  have HC2 : Hid (∀ V p, Below w.heap.size w V → V.cell? ⟨p, 0, none⟩ = some (.int .i64 o) → Calls Try.prog 81 #[t.second.val, .pointer (some ⟨p, 0, none⟩)] V fun e w' => e = .returned (.int .i64 Z) ∧ Below V.heap.size V w') := fun V p hV hp => by rw [← HZ.out]; exact with1_any V t.second (H2.out.below hV) p o hp
  rw [HX.out, HY.out] at hyx
  rw [HX.out, HZ.out] at hzx
  obtain rfl : r0 = false := by rw [← HR0.out]; exact decide_eq_false hdf
  clear HR0 hdf
  clear HF H1 H2 HX HY HZ ht hf
  obtain ⟨⟨⟨o1, s1, d1, c1, p1, k1, q1, b1⟩, ao1, cap1⟩, ⟨⟨o2, s2, d2, c2, p2, k2, q2, b2⟩, ao2, cap2⟩⟩ := t
  obtain ⟨⟨of, sf, df, cf, pf, kf, qf, bf⟩, aof, capf⟩ := f
  simp only [EvM.val] at HSM HCF HC1 HC2
  simp only [EvM.val, TwM.val]
  obtain ⟨n1, HN1⟩ : ∃ n, Hid (d1.length = n) := ⟨_, hid rfl⟩
  obtain ⟨n2, HN2⟩ : ∃ n, Hid (d2.length = n) := ⟨_, hid rfl⟩
  obtain ⟨nf, HNF⟩ : ∃ n, Hid (df.length = n) := ⟨_, hid rfl⟩
  rw [HN1.out, HN2.out, HNF.out]
  rw [HN1.out] at HC1
  rw [HN2.out] at HC2
  rw [HNF.out] at HCF
  rw [HN1.out, HNF.out] at HSM
  change of = o at heq
  obtain rfl : o = of := heq.symm
  have HB4 : Hid (Below w.heap.size w ((((w.alloc (.cells #[.int .i64 o1, .int .i64 s1, .slice ao1 n1 cap1, .string c1, .int .i64 p1, .string k1, .int .i64 q1, .bool b1, .int .i64 o2, .int .i64 s2, .slice ao2 n2 cap2, .string c2, .int .i64 p2, .string k2, .int .i64 q2, .bool b2] 90)).alloc (.cells #[.int .i64 o, .int .i64 sf, .slice aof nf capf, .string cf, .int .i64 pf, .string kf, .int .i64 qf, .bool bf] 34)).alloc (.cells #[.int .i64 o] 3)).alloc (.cells #[.int .i64 0, .int .i64 0, .slice none 0 0, .string ⟨#[]⟩, .int .i64 0, .string ⟨#[]⟩, .int .i64 0, .bool false, .int .i64 0, .int .i64 0, .slice none 0 0, .string ⟨#[]⟩, .int .i64 0, .string ⟨#[]⟩, .int .i64 0, .bool false] 90))) := ((((Below.refl _ _).alloc (Nat.le_refl _) _).alloc (by simp) _).alloc (by simp; omega) _).alloc (by simp; omega) _
  have HKT : Hid (Blk ((((w.alloc (.cells #[.int .i64 o1, .int .i64 s1, .slice ao1 n1 cap1, .string c1, .int .i64 p1, .string k1, .int .i64 q1, .bool b1, .int .i64 o2, .int .i64 s2, .slice ao2 n2 cap2, .string c2, .int .i64 p2, .string k2, .int .i64 q2, .bool b2] 90)).alloc (.cells #[.int .i64 o, .int .i64 sf, .slice aof nf capf, .string cf, .int .i64 pf, .string kf, .int .i64 qf, .bool bf] 34)).alloc (.cells #[.int .i64 o] 3)).alloc (.cells #[.int .i64 0, .int .i64 0, .slice none 0 0, .string ⟨#[]⟩, .int .i64 0, .string ⟨#[]⟩, .int .i64 0, .bool false, .int .i64 0, .int .i64 0, .slice none 0 0, .string ⟨#[]⟩, .int .i64 0, .string ⟨#[]⟩, .int .i64 0, .bool false] 90)) w.heap.size 90 [.int .i64 o1, .int .i64 s1, .slice ao1 n1 cap1, .string c1, .int .i64 p1, .string k1, .int .i64 q1, .bool b1, .int .i64 o2, .int .i64 s2, .slice ao2 n2 cap2, .string c2, .int .i64 p2, .string k2, .int .i64 q2, .bool b2]) := (((Blk.new w 90 [.int .i64 o1, .int .i64 s1, .slice ao1 n1 cap1, .string c1, .int .i64 p1, .string k1, .int .i64 q1, .bool b1, .int .i64 o2, .int .i64 s2, .slice ao2 n2 cap2, .string c2, .int .i64 p2, .string k2, .int .i64 q2, .bool b2]).alloc _).alloc _).alloc _
  have HKF : Hid (Blk ((((w.alloc (.cells #[.int .i64 o1, .int .i64 s1, .slice ao1 n1 cap1, .string c1, .int .i64 p1, .string k1, .int .i64 q1, .bool b1, .int .i64 o2, .int .i64 s2, .slice ao2 n2 cap2, .string c2, .int .i64 p2, .string k2, .int .i64 q2, .bool b2] 90)).alloc (.cells #[.int .i64 o, .int .i64 sf, .slice aof nf capf, .string cf, .int .i64 pf, .string kf, .int .i64 qf, .bool bf] 34)).alloc (.cells #[.int .i64 o] 3)).alloc (.cells #[.int .i64 0, .int .i64 0, .slice none 0 0, .string ⟨#[]⟩, .int .i64 0, .string ⟨#[]⟩, .int .i64 0, .bool false, .int .i64 0, .int .i64 0, .slice none 0 0, .string ⟨#[]⟩, .int .i64 0, .string ⟨#[]⟩, .int .i64 0, .bool false] 90)) (w.heap.size + 1) 34 [.int .i64 o, .int .i64 sf, .slice aof nf capf, .string cf, .int .i64 pf, .string kf, .int .i64 qf, .bool bf]) := by
    have := ((Blk.new (w.alloc (.cells #[.int .i64 o1, .int .i64 s1, .slice ao1 n1 cap1, .string c1, .int .i64 p1, .string k1, .int .i64 q1, .bool b1, .int .i64 o2, .int .i64 s2, .slice ao2 n2 cap2, .string c2, .int .i64 p2, .string k2, .int .i64 q2, .bool b2] 90)) 34 [.int .i64 o, .int .i64 sf, .slice aof nf capf, .string cf, .int .i64 pf, .string kf, .int .i64 qf, .bool bf]).alloc (.cells #[.int .i64 o] 3)).alloc (.cells #[.int .i64 0, .int .i64 0, .slice none 0 0, .string ⟨#[]⟩, .int .i64 0, .string ⟨#[]⟩, .int .i64 0, .bool false, .int .i64 0, .int .i64 0, .slice none 0 0, .string ⟨#[]⟩, .int .i64 0, .string ⟨#[]⟩, .int .i64 0, .bool false] 90)
    rw [World.size_alloc] at this
    exact this
  have HKO : Hid (Blk ((((w.alloc (.cells #[.int .i64 o1, .int .i64 s1, .slice ao1 n1 cap1, .string c1, .int .i64 p1, .string k1, .int .i64 q1, .bool b1, .int .i64 o2, .int .i64 s2, .slice ao2 n2 cap2, .string c2, .int .i64 p2, .string k2, .int .i64 q2, .bool b2] 90)).alloc (.cells #[.int .i64 o, .int .i64 sf, .slice aof nf capf, .string cf, .int .i64 pf, .string kf, .int .i64 qf, .bool bf] 34)).alloc (.cells #[.int .i64 o] 3)).alloc (.cells #[.int .i64 0, .int .i64 0, .slice none 0 0, .string ⟨#[]⟩, .int .i64 0, .string ⟨#[]⟩, .int .i64 0, .bool false, .int .i64 0, .int .i64 0, .slice none 0 0, .string ⟨#[]⟩, .int .i64 0, .string ⟨#[]⟩, .int .i64 0, .bool false] 90)) (w.heap.size + 2) 3 [.int .i64 o]) := by
    have := (Blk.new ((w.alloc (.cells #[.int .i64 o1, .int .i64 s1, .slice ao1 n1 cap1, .string c1, .int .i64 p1, .string k1, .int .i64 q1, .bool b1, .int .i64 o2, .int .i64 s2, .slice ao2 n2 cap2, .string c2, .int .i64 p2, .string k2, .int .i64 q2, .bool b2] 90)).alloc (.cells #[.int .i64 o, .int .i64 sf, .slice aof nf capf, .string cf, .int .i64 pf, .string kf, .int .i64 qf, .bool bf] 34)) 3 [.int .i64 o]).alloc (.cells #[.int .i64 0, .int .i64 0, .slice none 0 0, .string ⟨#[]⟩, .int .i64 0, .string ⟨#[]⟩, .int .i64 0, .bool false, .int .i64 0, .int .i64 0, .slice none 0 0, .string ⟨#[]⟩, .int .i64 0, .string ⟨#[]⟩, .int .i64 0, .bool false] 90)
    rw [World.size_alloc, World.size_alloc] at this
    exact this
  have HKR : Hid (Blk ((((w.alloc (.cells #[.int .i64 o1, .int .i64 s1, .slice ao1 n1 cap1, .string c1, .int .i64 p1, .string k1, .int .i64 q1, .bool b1, .int .i64 o2, .int .i64 s2, .slice ao2 n2 cap2, .string c2, .int .i64 p2, .string k2, .int .i64 q2, .bool b2] 90)).alloc (.cells #[.int .i64 o, .int .i64 sf, .slice aof nf capf, .string cf, .int .i64 pf, .string kf, .int .i64 qf, .bool bf] 34)).alloc (.cells #[.int .i64 o] 3)).alloc (.cells #[.int .i64 0, .int .i64 0, .slice none 0 0, .string ⟨#[]⟩, .int .i64 0, .string ⟨#[]⟩, .int .i64 0, .bool false, .int .i64 0, .int .i64 0, .slice none 0 0, .string ⟨#[]⟩, .int .i64 0, .string ⟨#[]⟩, .int .i64 0, .bool false] 90)) (w.heap.size + 3) 90 [.int .i64 0, .int .i64 0, .slice none 0 0, .string ⟨#[]⟩, .int .i64 0, .string ⟨#[]⟩, .int .i64 0, .bool false, .int .i64 0, .int .i64 0, .slice none 0 0, .string ⟨#[]⟩, .int .i64 0, .string ⟨#[]⟩, .int .i64 0, .bool false]) := by
    have := Blk.new (((w.alloc (.cells #[.int .i64 o1, .int .i64 s1, .slice ao1 n1 cap1, .string c1, .int .i64 p1, .string k1, .int .i64 q1, .bool b1, .int .i64 o2, .int .i64 s2, .slice ao2 n2 cap2, .string c2, .int .i64 p2, .string k2, .int .i64 q2, .bool b2] 90)).alloc (.cells #[.int .i64 o, .int .i64 sf, .slice aof nf capf, .string cf, .int .i64 pf, .string kf, .int .i64 qf, .bool bf] 34)).alloc (.cells #[.int .i64 o] 3)) 90 [.int .i64 0, .int .i64 0, .slice none 0 0, .string ⟨#[]⟩, .int .i64 0, .string ⟨#[]⟩, .int .i64 0, .bool false, .int .i64 0, .int .i64 0, .slice none 0 0, .string ⟨#[]⟩, .int .i64 0, .string ⟨#[]⟩, .int .i64 0, .bool false]
    rw [World.size_alloc, World.size_alloc, World.size_alloc] at this
    exact this
  go_enter Try.func63, Try.ntmps63
  go_wp2_with fail
  generalize ((((w.alloc (.cells #[.int .i64 o1, .int .i64 s1, .slice ao1 n1 cap1, .string c1, .int .i64 p1, .string k1, .int .i64 q1, .bool b1, .int .i64 o2, .int .i64 s2, .slice ao2 n2 cap2, .string c2, .int .i64 p2, .string k2, .int .i64 q2, .bool b2] 90)).alloc (.cells #[.int .i64 o, .int .i64 sf, .slice aof nf capf, .string cf, .int .i64 pf, .string kf, .int .i64 qf, .bool bf] 34)).alloc (.cells #[.int .i64 o] 3)).alloc (.cells #[.int .i64 0, .int .i64 0, .slice none 0 0, .string ⟨#[]⟩, .int .i64 0, .string ⟨#[]⟩, .int .i64 0, .bool false, .int .i64 0, .int .i64 0, .slice none 0 0, .string ⟨#[]⟩, .int .i64 0, .string ⟨#[]⟩, .int .i64 0, .bool false] 90)) = V4 at *
  refine (HSM.out _ HB4.out).mono ?_
  rintro e V0 ⟨rfl, hb⟩
  have HB0 := hid (bt HB4.out hb)
  have HKT := hid (HKT.out.below hb HKT.out.lt)
  have HKF := hid (HKF.out.below hb HKF.out.lt)
  have HKO := hid (HKO.out.below hb HKO.out.lt)
  have HKR := hid (HKR.out.below hb HKR.out.lt)
  clear hb HB4
  obtain ⟨pt, hpt⟩ : ∃ p, p = w.heap.size := ⟨_, rfl⟩
  obtain ⟨pe, hpe⟩ : ∃ p, p = w.heap.size + 1 := ⟨_, rfl⟩
  obtain ⟨po, hpo⟩ : ∃ p, p = w.heap.size + 1 + 1 := ⟨_, rfl⟩
  obtain ⟨pr, hpr⟩ : ∃ p, p = w.heap.size + 1 + 1 + 1 := ⟨_, rfl⟩
  have x1 : pt ≠ pe := by omega
  have x2 : pt ≠ pr := by omega
  have x3 : pe ≠ pr := by omega
  have HP : Hid (w.heap.size ≤ pt ∧ w.heap.size ≤ pr) := (by omega : _ ∧ _)
  rw [← hpr, ← hpo, ← hpe, ← hpt]
  have HKT : Hid (Blk V0 pt 90 [.int .i64 o1, .int .i64 s1, .slice ao1 n1 cap1, .string c1, .int .i64 p1, .string k1, .int .i64 q1, .bool b1, .int .i64 o2, .int .i64 s2, .slice ao2 n2 cap2, .string c2, .int .i64 p2, .string k2, .int .i64 q2, .bool b2]) := by rw [hpt]; exact HKT.out
  have HKF : Hid (Blk V0 pe 34 [.int .i64 o, .int .i64 sf, .slice aof nf capf, .string cf, .int .i64 pf, .string kf, .int .i64 qf, .bool bf]) := by rw [hpe]; exact HKF.out
  have HKO : Hid (Blk V0 po 3 [.int .i64 o]) := by rw [hpo]; exact HKO.out
  have HKR : Hid (Blk V0 pr 90 [.int .i64 0, .int .i64 0, .slice none 0 0, .string ⟨#[]⟩, .int .i64 0, .string ⟨#[]⟩, .int .i64 0, .bool false, .int .i64 0, .int .i64 0, .slice none 0 0, .string ⟨#[]⟩, .int .i64 0, .string ⟨#[]⟩, .int .i64 0, .bool false]) := by rw [hpr]; exact HKR.out
  clear hpt hpe hpo hpr
  go_wp2_with fail
  have CF : Hid (∀ V, Below V0.heap.size V0 V → Calls Try.prog 81 #[.agg #[.int .i64 o, .int .i64 sf, .slice aof nf capf, .string cf, .int .i64 pf, .string kf, .int .i64 qf, .bool bf], .pointer (some ⟨po, 0, none⟩)] V fun e w' => e = .returned (.int .i64 X) ∧ Below V0.heap.size V0 w') := fun V hV => (HCF.out V po (bt HB0.out hV) ((HKO.out.below hV HKO.out.lt).cell (i := 0) rfl)).mono fun _ _ h => ⟨h.1, bt hV h.2⟩
  have C1 : Hid (∀ V, Below V0.heap.size V0 V → Calls Try.prog 81 #[.agg #[.int .i64 o1, .int .i64 s1, .slice ao1 n1 cap1, .string c1, .int .i64 p1, .string k1, .int .i64 q1, .bool b1], .pointer (some ⟨po, 0, none⟩)] V fun e w' => e = .returned (.int .i64 Y) ∧ Below V0.heap.size V0 w') := fun V hV => (HC1.out V po (bt HB0.out hV) ((HKO.out.below hV HKO.out.lt).cell (i := 0) rfl)).mono fun _ _ h => ⟨h.1, bt hV h.2⟩
  have C2 : Hid (∀ V, Below V0.heap.size V0 V → Calls Try.prog 81 #[.agg #[.int .i64 o2, .int .i64 s2, .slice ao2 n2 cap2, .string c2, .int .i64 p2, .string k2, .int .i64 q2, .bool b2], .pointer (some ⟨po, 0, none⟩)] V fun e w' => e = .returned (.int .i64 Z) ∧ Below V0.heap.size V0 w') := fun V hV => (HC2.out V po (bt HB0.out hV) ((HKO.out.below hV HKO.out.lt).cell (i := 0) rfl)).mono fun _ _ h => ⟨h.1, bt hV h.2⟩
  have HBc := hid (Below.refl V0.heap.size V0)
  have ze0 := (HKF.out.below HBc.out HKF.out.lt).cell (i := 0) rfl
  have ze1 := (HKF.out.below HBc.out HKF.out.lt).cell (i := 1) rfl
  have ze2 := (HKF.out.below HBc.out HKF.out.lt).cell (i := 2) rfl
  have ze3 := (HKF.out.below HBc.out HKF.out.lt).cell (i := 3) rfl
  have ze4 := (HKF.out.below HBc.out HKF.out.lt).cell (i := 4) rfl
  have ze5 := (HKF.out.below HBc.out HKF.out.lt).cell (i := 5) rfl
  have ze6 := (HKF.out.below HBc.out HKF.out.lt).cell (i := 6) rfl
  have ze7 := (HKF.out.below HBc.out HKF.out.lt).cell (i := 7) rfl
  have zt0 := (HKT.out.below HBc.out HKT.out.lt).cell (i := 0) rfl
  have zt1 := (HKT.out.below HBc.out HKT.out.lt).cell (i := 1) rfl
  have zt2 := (HKT.out.below HBc.out HKT.out.lt).cell (i := 2) rfl
  have zt3 := (HKT.out.below HBc.out HKT.out.lt).cell (i := 3) rfl
  have zt4 := (HKT.out.below HBc.out HKT.out.lt).cell (i := 4) rfl
  have zt5 := (HKT.out.below HBc.out HKT.out.lt).cell (i := 5) rfl
  have zt6 := (HKT.out.below HBc.out HKT.out.lt).cell (i := 6) rfl
  have zt7 := (HKT.out.below HBc.out HKT.out.lt).cell (i := 7) rfl
  have zt8 := (HKT.out.below HBc.out HKT.out.lt).cell (i := 8) rfl
  have zt9 := (HKT.out.below HBc.out HKT.out.lt).cell (i := 9) rfl
  have zt10 := (HKT.out.below HBc.out HKT.out.lt).cell (i := 10) rfl
  have zt11 := (HKT.out.below HBc.out HKT.out.lt).cell (i := 11) rfl
  have zt12 := (HKT.out.below HBc.out HKT.out.lt).cell (i := 12) rfl
  have zt13 := (HKT.out.below HBc.out HKT.out.lt).cell (i := 13) rfl
  have zt14 := (HKT.out.below HBc.out HKT.out.lt).cell (i := 14) rfl
  have zt15 := (HKT.out.below HBc.out HKT.out.lt).cell (i := 15) rfl
  go_region_held3 (fun V => V.cell? ⟨pe, 0, none⟩ = some (.int .i64 o) ∧ V.cell? ⟨pe, 1, none⟩ = some (.int .i64 sf) ∧ V.cell? ⟨pe, 2, none⟩ = some (.slice aof nf capf) ∧ V.cell? ⟨pe, 3, none⟩ = some (.string cf) ∧ V.cell? ⟨pe, 4, none⟩ = some (.int .i64 pf) ∧ V.cell? ⟨pe, 5, none⟩ = some (.string kf) ∧ V.cell? ⟨pe, 6, none⟩ = some (.int .i64 qf) ∧ V.cell? ⟨pe, 7, none⟩ = some (.bool bf) ∧ V.cell? ⟨pt, 0, none⟩ = some (.int .i64 o1) ∧ V.cell? ⟨pt, 1, none⟩ = some (.int .i64 s1) ∧ V.cell? ⟨pt, 2, none⟩ = some (.slice ao1 n1 cap1) ∧ V.cell? ⟨pt, 3, none⟩ = some (.string c1) ∧ V.cell? ⟨pt, 4, none⟩ = some (.int .i64 p1) ∧ V.cell? ⟨pt, 5, none⟩ = some (.string k1) ∧ V.cell? ⟨pt, 6, none⟩ = some (.int .i64 q1) ∧ V.cell? ⟨pt, 7, none⟩ = some (.bool b1)) (first | (refine ⟨?_, ?_, ?_, ?_, ?_, ?_, ?_, ?_, ?_, ?_, ?_, ?_, ?_, ?_, ?_, ?_⟩ <;> assumption) | go_keep)
    (first
      | (go_at_call 81; with_reducible refine (CF.out _ ?_).mono ?_; (first | exact HBc.out | exact below_dr HBc.out); rintro e wn ⟨rfl, hb3⟩; have HBc := hid hb3; have zk0 := (HKF.out.below HBc.out HKF.out.lt).cell (i := 0) rfl; have zk1 := (HKF.out.below HBc.out HKF.out.lt).cell (i := 1) rfl; have zk2 := (HKF.out.below HBc.out HKF.out.lt).cell (i := 2) rfl; have zk3 := (HKF.out.below HBc.out HKF.out.lt).cell (i := 3) rfl; have zk4 := (HKF.out.below HBc.out HKF.out.lt).cell (i := 4) rfl; have zk5 := (HKF.out.below HBc.out HKF.out.lt).cell (i := 5) rfl; have zk6 := (HKF.out.below HBc.out HKF.out.lt).cell (i := 6) rfl; have zk7 := (HKF.out.below HBc.out HKF.out.lt).cell (i := 7) rfl; have zj0 := (HKT.out.below HBc.out HKT.out.lt).cell (i := 0) rfl; have zj1 := (HKT.out.below HBc.out HKT.out.lt).cell (i := 1) rfl; have zj2 := (HKT.out.below HBc.out HKT.out.lt).cell (i := 2) rfl; have zj3 := (HKT.out.below HBc.out HKT.out.lt).cell (i := 3) rfl; have zj4 := (HKT.out.below HBc.out HKT.out.lt).cell (i := 4) rfl; have zj5 := (HKT.out.below HBc.out HKT.out.lt).cell (i := 5) rfl; have zj6 := (HKT.out.below HBc.out HKT.out.lt).cell (i := 6) rfl; have zj7 := (HKT.out.below HBc.out HKT.out.lt).cell (i := 7) rfl; clear hb3)
      | (go_at_call 81; with_reducible refine (C1.out _ ?_).mono ?_; (first | exact HBc.out | exact below_dr HBc.out); rintro e wn ⟨rfl, hb3⟩; have HBc := hid hb3; have zk0 := (HKF.out.below HBc.out HKF.out.lt).cell (i := 0) rfl; have zk1 := (HKF.out.below HBc.out HKF.out.lt).cell (i := 1) rfl; have zk2 := (HKF.out.below HBc.out HKF.out.lt).cell (i := 2) rfl; have zk3 := (HKF.out.below HBc.out HKF.out.lt).cell (i := 3) rfl; have zk4 := (HKF.out.below HBc.out HKF.out.lt).cell (i := 4) rfl; have zk5 := (HKF.out.below HBc.out HKF.out.lt).cell (i := 5) rfl; have zk6 := (HKF.out.below HBc.out HKF.out.lt).cell (i := 6) rfl; have zk7 := (HKF.out.below HBc.out HKF.out.lt).cell (i := 7) rfl; have zj0 := (HKT.out.below HBc.out HKT.out.lt).cell (i := 0) rfl; have zj1 := (HKT.out.below HBc.out HKT.out.lt).cell (i := 1) rfl; have zj2 := (HKT.out.below HBc.out HKT.out.lt).cell (i := 2) rfl; have zj3 := (HKT.out.below HBc.out HKT.out.lt).cell (i := 3) rfl; have zj4 := (HKT.out.below HBc.out HKT.out.lt).cell (i := 4) rfl; have zj5 := (HKT.out.below HBc.out HKT.out.lt).cell (i := 5) rfl; have zj6 := (HKT.out.below HBc.out HKT.out.lt).cell (i := 6) rfl; have zj7 := (HKT.out.below HBc.out HKT.out.lt).cell (i := 7) rfl; clear hb3))
  go_wp2_with fail
  have ze0 := (HKF.out.below HBc.out HKF.out.lt).cell (i := 0) rfl
  have ze1 := (HKF.out.below HBc.out HKF.out.lt).cell (i := 1) rfl
  have ze2 := (HKF.out.below HBc.out HKF.out.lt).cell (i := 2) rfl
  have ze3 := (HKF.out.below HBc.out HKF.out.lt).cell (i := 3) rfl
  have ze4 := (HKF.out.below HBc.out HKF.out.lt).cell (i := 4) rfl
  have ze5 := (HKF.out.below HBc.out HKF.out.lt).cell (i := 5) rfl
  have ze6 := (HKF.out.below HBc.out HKF.out.lt).cell (i := 6) rfl
  have ze7 := (HKF.out.below HBc.out HKF.out.lt).cell (i := 7) rfl
  have zt0 := (HKT.out.below HBc.out HKT.out.lt).cell (i := 0) rfl
  have zt1 := (HKT.out.below HBc.out HKT.out.lt).cell (i := 1) rfl
  have zt2 := (HKT.out.below HBc.out HKT.out.lt).cell (i := 2) rfl
  have zt3 := (HKT.out.below HBc.out HKT.out.lt).cell (i := 3) rfl
  have zt4 := (HKT.out.below HBc.out HKT.out.lt).cell (i := 4) rfl
  have zt5 := (HKT.out.below HBc.out HKT.out.lt).cell (i := 5) rfl
  have zt6 := (HKT.out.below HBc.out HKT.out.lt).cell (i := 6) rfl
  have zt7 := (HKT.out.below HBc.out HKT.out.lt).cell (i := 7) rfl
  have zt8 := (HKT.out.below HBc.out HKT.out.lt).cell (i := 8) rfl
  have zt9 := (HKT.out.below HBc.out HKT.out.lt).cell (i := 9) rfl
  have zt10 := (HKT.out.below HBc.out HKT.out.lt).cell (i := 10) rfl
  have zt11 := (HKT.out.below HBc.out HKT.out.lt).cell (i := 11) rfl
  have zt12 := (HKT.out.below HBc.out HKT.out.lt).cell (i := 12) rfl
  have zt13 := (HKT.out.below HBc.out HKT.out.lt).cell (i := 13) rfl
  have zt14 := (HKT.out.below HBc.out HKT.out.lt).cell (i := 14) rfl
  have zt15 := (HKT.out.below HBc.out HKT.out.lt).cell (i := 15) rfl
  go_region_held3 (fun V => V.cell? ⟨pe, 0, none⟩ = some (.int .i64 o) ∧ V.cell? ⟨pe, 1, none⟩ = some (.int .i64 sf) ∧ V.cell? ⟨pe, 2, none⟩ = some (.slice aof nf capf) ∧ V.cell? ⟨pe, 3, none⟩ = some (.string cf) ∧ V.cell? ⟨pe, 4, none⟩ = some (.int .i64 pf) ∧ V.cell? ⟨pe, 5, none⟩ = some (.string kf) ∧ V.cell? ⟨pe, 6, none⟩ = some (.int .i64 qf) ∧ V.cell? ⟨pe, 7, none⟩ = some (.bool bf) ∧ V.cell? ⟨pt, 8, none⟩ = some (.int .i64 o2) ∧ V.cell? ⟨pt, 9, none⟩ = some (.int .i64 s2) ∧ V.cell? ⟨pt, 10, none⟩ = some (.slice ao2 n2 cap2) ∧ V.cell? ⟨pt, 11, none⟩ = some (.string c2) ∧ V.cell? ⟨pt, 12, none⟩ = some (.int .i64 p2) ∧ V.cell? ⟨pt, 13, none⟩ = some (.string k2) ∧ V.cell? ⟨pt, 14, none⟩ = some (.int .i64 q2) ∧ V.cell? ⟨pt, 15, none⟩ = some (.bool b2)) (first | (refine ⟨?_, ?_, ?_, ?_, ?_, ?_, ?_, ?_, ?_, ?_, ?_, ?_, ?_, ?_, ?_, ?_⟩ <;> assumption) | go_keep)
    (first
      | (go_at_call 81; with_reducible refine (CF.out _ ?_).mono ?_; (first | exact HBc.out | exact below_dr HBc.out); rintro e wn ⟨rfl, hb3⟩; have HBc := hid hb3; have zk0 := (HKF.out.below HBc.out HKF.out.lt).cell (i := 0) rfl; have zk1 := (HKF.out.below HBc.out HKF.out.lt).cell (i := 1) rfl; have zk2 := (HKF.out.below HBc.out HKF.out.lt).cell (i := 2) rfl; have zk3 := (HKF.out.below HBc.out HKF.out.lt).cell (i := 3) rfl; have zk4 := (HKF.out.below HBc.out HKF.out.lt).cell (i := 4) rfl; have zk5 := (HKF.out.below HBc.out HKF.out.lt).cell (i := 5) rfl; have zk6 := (HKF.out.below HBc.out HKF.out.lt).cell (i := 6) rfl; have zk7 := (HKF.out.below HBc.out HKF.out.lt).cell (i := 7) rfl; have zj0 := (HKT.out.below HBc.out HKT.out.lt).cell (i := 8) rfl; have zj1 := (HKT.out.below HBc.out HKT.out.lt).cell (i := 9) rfl; have zj2 := (HKT.out.below HBc.out HKT.out.lt).cell (i := 10) rfl; have zj3 := (HKT.out.below HBc.out HKT.out.lt).cell (i := 11) rfl; have zj4 := (HKT.out.below HBc.out HKT.out.lt).cell (i := 12) rfl; have zj5 := (HKT.out.below HBc.out HKT.out.lt).cell (i := 13) rfl; have zj6 := (HKT.out.below HBc.out HKT.out.lt).cell (i := 14) rfl; have zj7 := (HKT.out.below HBc.out HKT.out.lt).cell (i := 15) rfl; clear hb3)
      | (go_at_call 81; with_reducible refine (C2.out _ ?_).mono ?_; (first | exact HBc.out | exact below_dr HBc.out); rintro e wn ⟨rfl, hb3⟩; have HBc := hid hb3; have zk0 := (HKF.out.below HBc.out HKF.out.lt).cell (i := 0) rfl; have zk1 := (HKF.out.below HBc.out HKF.out.lt).cell (i := 1) rfl; have zk2 := (HKF.out.below HBc.out HKF.out.lt).cell (i := 2) rfl; have zk3 := (HKF.out.below HBc.out HKF.out.lt).cell (i := 3) rfl; have zk4 := (HKF.out.below HBc.out HKF.out.lt).cell (i := 4) rfl; have zk5 := (HKF.out.below HBc.out HKF.out.lt).cell (i := 5) rfl; have zk6 := (HKF.out.below HBc.out HKF.out.lt).cell (i := 6) rfl; have zk7 := (HKF.out.below HBc.out HKF.out.lt).cell (i := 7) rfl; have zj0 := (HKT.out.below HBc.out HKT.out.lt).cell (i := 8) rfl; have zj1 := (HKT.out.below HBc.out HKT.out.lt).cell (i := 9) rfl; have zj2 := (HKT.out.below HBc.out HKT.out.lt).cell (i := 10) rfl; have zj3 := (HKT.out.below HBc.out HKT.out.lt).cell (i := 11) rfl; have zj4 := (HKT.out.below HBc.out HKT.out.lt).cell (i := 12) rfl; have zj5 := (HKT.out.below HBc.out HKT.out.lt).cell (i := 13) rfl; have zj6 := (HKT.out.below HBc.out HKT.out.lt).cell (i := 14) rfl; have zj7 := (HKT.out.below HBc.out HKT.out.lt).cell (i := 15) rfl; clear hb3))
  all_goals
    have ze0 := (HKF.out.below HBc.out HKF.out.lt).cell (i := 0) rfl
    have ze1 := (HKF.out.below HBc.out HKF.out.lt).cell (i := 1) rfl
    have ze2 := (HKF.out.below HBc.out HKF.out.lt).cell (i := 2) rfl
    have ze3 := (HKF.out.below HBc.out HKF.out.lt).cell (i := 3) rfl
    have ze4 := (HKF.out.below HBc.out HKF.out.lt).cell (i := 4) rfl
    have ze5 := (HKF.out.below HBc.out HKF.out.lt).cell (i := 5) rfl
    have ze6 := (HKF.out.below HBc.out HKF.out.lt).cell (i := 6) rfl
    have ze7 := (HKF.out.below HBc.out HKF.out.lt).cell (i := 7) rfl
    have zt0 := (HKT.out.below HBc.out HKT.out.lt).cell (i := 0) rfl
    have zt1 := (HKT.out.below HBc.out HKT.out.lt).cell (i := 1) rfl
    have zt2 := (HKT.out.below HBc.out HKT.out.lt).cell (i := 2) rfl
    have zt3 := (HKT.out.below HBc.out HKT.out.lt).cell (i := 3) rfl
    have zt4 := (HKT.out.below HBc.out HKT.out.lt).cell (i := 4) rfl
    have zt5 := (HKT.out.below HBc.out HKT.out.lt).cell (i := 5) rfl
    have zt6 := (HKT.out.below HBc.out HKT.out.lt).cell (i := 6) rfl
    have zt7 := (HKT.out.below HBc.out HKT.out.lt).cell (i := 7) rfl
    have zt8 := (HKT.out.below HBc.out HKT.out.lt).cell (i := 8) rfl
    have zt9 := (HKT.out.below HBc.out HKT.out.lt).cell (i := 9) rfl
    have zt10 := (HKT.out.below HBc.out HKT.out.lt).cell (i := 10) rfl
    have zt11 := (HKT.out.below HBc.out HKT.out.lt).cell (i := 11) rfl
    have zt12 := (HKT.out.below HBc.out HKT.out.lt).cell (i := 12) rfl
    have zt13 := (HKT.out.below HBc.out HKT.out.lt).cell (i := 13) rfl
    have zt14 := (HKT.out.below HBc.out HKT.out.lt).cell (i := 14) rfl
    have zt15 := (HKT.out.below HBc.out HKT.out.lt).cell (i := 15) rfl
    have ft := fun i => (HKT.out.below HBc.out HKT.out.lt).frozen i
    have fr := fun i => (HKR.out.below HBc.out HKR.out.lt).frozen i
    have zr0 := (HKR.out.below HBc.out HKR.out.lt).cell (i := 0) rfl
    have zr1 := (HKR.out.below HBc.out HKR.out.lt).cell (i := 1) rfl
    have zr2 := (HKR.out.below HBc.out HKR.out.lt).cell (i := 2) rfl
    have zr3 := (HKR.out.below HBc.out HKR.out.lt).cell (i := 3) rfl
    have zr4 := (HKR.out.below HBc.out HKR.out.lt).cell (i := 4) rfl
    have zr5 := (HKR.out.below HBc.out HKR.out.lt).cell (i := 5) rfl
    have zr6 := (HKR.out.below HBc.out HKR.out.lt).cell (i := 6) rfl
    have zr7 := (HKR.out.below HBc.out HKR.out.lt).cell (i := 7) rfl
    have zr8 := (HKR.out.below HBc.out HKR.out.lt).cell (i := 8) rfl
    have zr9 := (HKR.out.below HBc.out HKR.out.lt).cell (i := 9) rfl
    have zr10 := (HKR.out.below HBc.out HKR.out.lt).cell (i := 10) rfl
    have zr11 := (HKR.out.below HBc.out HKR.out.lt).cell (i := 11) rfl
    have zr12 := (HKR.out.below HBc.out HKR.out.lt).cell (i := 12) rfl
    have zr13 := (HKR.out.below HBc.out HKR.out.lt).cell (i := 13) rfl
    have zr14 := (HKR.out.below HBc.out HKR.out.lt).cell (i := 14) rfl
    have zr15 := (HKR.out.below HBc.out HKR.out.lt).cell (i := 15) rfl
    go_wp2
    refine bodyPost_ret (v := .agg #[.int .i64 o1, .int .i64 s1, .slice ao1 n1 cap1, .string c1, .int .i64 p1, .string k1, .int .i64 q1, .bool b1, .int .i64 o2, .int .i64 s2, .slice ao2 n2 cap2, .string c2, .int .i64 p2, .string k2, .int .i64 q2, .bool b2]) (by simp [results, Try.results63, go_sem, *]) rfl ⟨by have h1 := HN1.out; have h2 := HN2.out; have h3 := HNF.out; subst h1 h2 h3; rfl, ?_⟩
    repeat (refine Below.setCell ?_ (by first | exact HP.out.1 | exact HP.out.2) _)
    exact bt HB0.out HBc.out
end Go.Proofs.Ytkgfpnmifgifpaa
