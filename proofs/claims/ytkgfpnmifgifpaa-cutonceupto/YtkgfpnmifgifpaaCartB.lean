/-
  Package cart: two.with.
-/
import Derived.Test.YtkgfpnmifgifpaaCartA
import Derived.Deep.RegionHeld3
namespace Go.Proofs.Ytkgfpnmifgifpaa
open Go.RowKit Go.Maps

theorem below_dr {K : Nat} {a b : World} (h : Below K a b) : Below K a b.drew := ⟨h.os, h.tape, h.output, h.size, h.block⟩
theorem with1_any (w : World) (x : EvM) (hx : EvOk w x) (p : Nat) (o : Int) (hp : w.cell? ⟨p, 0, none⟩ = some (.int .i64 o)) :
    Calls Try.prog 81 #[x.val, .pointer (some ⟨p, 0, none⟩)] w fun e w' => e = .returned (.int .i64 (ofV x.e.deps o)) ∧ Below w.heap.size w w' := by
  have HB : Hid (Below w.heap.size w (w.alloc (.cells x.cells.toArray 34))) := (Below.refl _ _).alloc (Nat.le_refl _) _
  have hp' : (w.alloc (.cells x.cells.toArray 34)).cell? ⟨p, 0, none⟩ = some (.int .i64 o) := (HB.out.cell (p := ⟨p, 0, none⟩) (World.block_lt_of_cell? w _ hp)).trans hp
  have HO := hid (of_any (w.alloc (.cells x.cells.toArray 34)) x.ao x.cap x.e.deps _ rfl o (hx.deps.below HB.out).held)
  obtain ⟨⟨o1, s1, d1, c1, p1, k1, q1, b1⟩, ao1, cap1⟩ := x
  simp only [EvM.cells] at HB HO hp'
  simp only [EvM.val]
  clear hx
  obtain ⟨n1, HN1⟩ : ∃ n, Hid (d1.length = n) := ⟨_, hid rfl⟩
  rw [HN1.out] at HB HO hp' ⊢
  obtain ⟨r, HR⟩ : ∃ r, Hid (ofV d1 o = r) := ⟨_, hid rfl⟩
  rw [HR.out] at HO ⊢
  go_enter Try.func81, Try.ntmps81
  go_wp2_with fail
  refine HO.out.mono ?_
  rintro e w' ⟨rfl, rfl⟩
  go_wp2
  go_ret
  exact ⟨rfl, HB.out⟩

/-- Two events in memory. -/
structure TwM where
  first : EvM
  second : EvM
def zeroTM : TwM := ⟨zeroEM, zeroEM⟩
def TwM.tw (t : TwM) : Tw := ⟨t.first.e, t.second.e⟩
def TwM.cells (t : TwM) : List Value := t.first.cells ++ t.second.cells
abbrev TwM.val (t : TwM) : Value := .agg #[.int .i64 t.first.e.o, .int .i64 t.first.e.s, .slice t.first.ao t.first.e.deps.length t.first.cap, .string t.first.e.cart, .int .i64 t.first.e.epoch, .string t.first.e.sku, .int .i64 t.first.e.qty, .bool t.first.e.clears, .int .i64 t.second.e.o, .int .i64 t.second.e.s, .slice t.second.ao t.second.e.deps.length t.second.cap, .string t.second.e.cart, .int .i64 t.second.e.epoch, .string t.second.e.sku, .int .i64 t.second.e.qty, .bool t.second.e.clears]
def TwOk (w : World) (t : TwM) : Prop := EvOk w t.first ∧ EvOk w t.second
theorem TwOk.below {w w' : World} {t : TwM} (h : TwOk w t) (hb : Below w.heap.size w w') : TwOk w' t := ⟨h.1.below hb, h.2.below hb⟩
theorem TwOk.zero (w : World) : TwOk w zeroTM := ⟨EvOk.zero w, EvOk.zero w⟩
def twWithM (t : TwM) (f : EvM) (o : Int) : TwM :=
  if f.e.o = o ∧ f.e = t.first.e then t else if ofV t.first.e.deps o < ofV f.e.deps o then ⟨f, t.first⟩ else if ofV t.second.e.deps o < ofV f.e.deps o then ⟨t.first, f⟩ else t
theorem twWithM_tw (t : TwM) (f : EvM) (o : Int) : (twWithM t f o).tw = twWith t.tw f.e o := by
  unfold twWithM twWith TwM.tw
  simp only
  split
  · rfl
  · split
    · rfl
    · split <;> rfl
theorem twWithM_ok {w : World} {t : TwM} {f : EvM} (ht : TwOk w t) (hf : EvOk w f) (o : Int) : TwOk w (twWithM t f o) := by
  unfold twWithM
  split
  · exact ht
  · split
    · exact ⟨hf, ht.1⟩
    · split
      · exact ⟨ht.1, hf⟩
      · exact ht

set_option maxRecDepth 1000000 in
set_option maxHeartbeats 2000000 in
theorem with_Ya (w : World) (t : TwM) (f : EvM) (o : Int) (ht : TwOk w t) (hf : EvOk w f) (heq : f.e.o = o) (hdf : f.e = t.first.e) :
    Calls Try.prog 63 #[t.val, f.val, .int .i64 o] w fun e w' => e = .returned (t : TwM).val ∧ Below w.heap.size w w' := by
  have HSM : Hid (∀ V, Below w.heap.size w V → Calls Try.prog 64 #[f.val, t.first.val] V fun e w' => e = .returned (.bool (decide (f.e = t.first.e))) ∧ Below V.heap.size V w') := fun V hV => cSame_any V f t.first (hf.below hV) (ht.1.below hV)
  have HF := hid hf
  have H1 := hid ht.1
  have H2 := hid ht.2
  obtain ⟨r0, HR0⟩ : ∃ r, Hid (decide (f.e = t.first.e) = r) := ⟨_, hid rfl⟩
  rw [HR0.out] at HSM
  obtain ⟨X, HX⟩ : ∃ r, Hid (ofV f.e.deps o = r) := ⟨_, hid rfl⟩
  obtain ⟨Y, HY⟩ : ∃ r, Hid (ofV t.first.e.deps o = r) := ⟨_, hid rfl⟩
  obtain ⟨Z, HZ⟩ : ∃ r, Hid (ofV t.second.e.deps o = r) := ⟨_, hid rfl⟩
  have HCF : Hid (∀ V p, Below w.heap.size w V → V.cell? ⟨p, 0, none⟩ = some (.int .i64 o) → Calls Try.prog 81 #[f.val, .pointer (some ⟨p, 0, none⟩)] V fun e w' => e = .returned (.int .i64 X) ∧ Below V.heap.size V w') := fun V p hV hp => by rw [← HX.out]; exact with1_any V f (HF.out.below hV) p o hp
  have HC1 : Hid (∀ V p, Below w.heap.size w V → V.cell? ⟨p, 0, none⟩ = some (.int .i64 o) → Calls Try.prog 81 #[t.first.val, .pointer (some ⟨p, 0, none⟩)] V fun e w' => e = .returned (.int .i64 Y) ∧ Below V.heap.size V w') := fun V p hV hp => by rw [← HY.out]; exact with1_any V t.first (H1.out.below hV) p o hp
  have HC2 : Hid (∀ V p, Below w.heap.size w V → V.cell? ⟨p, 0, none⟩ = some (.int .i64 o) → Calls Try.prog 81 #[t.second.val, .pointer (some ⟨p, 0, none⟩)] V fun e w' => e = .returned (.int .i64 Z) ∧ Below V.heap.size V w') := fun V p hV hp => by rw [← HZ.out]; exact with1_any V t.second (H2.out.below hV) p o hp
  obtain rfl : r0 = true := by rw [← HR0.out]; exact decide_eq_true hdf
  clear HR0 hdf
  clear HF H1 H2 HX HY HZ ht hf
  obtain ⟨⟨⟨o1, s1, d1, c1, p1, k1, q1, b1⟩, ao1, cap1⟩, ⟨⟨o2, s2, d2, c2, p2, k2, q2, b2⟩, ao2, cap2⟩⟩ := t
  obtain ⟨⟨of, sf, df, cf, pf, kf, qf, bf⟩, aof, capf⟩ := f
  simp only [EvM.val] at HSM HCF HC1 HC2
  simp only [EvM.val, TwM.val]
  obtain ⟨n1, HN1⟩ : ∃ n, Hid (d1.length = n) := ⟨_, hid rfl⟩
  obtain ⟨n2, HN2⟩ : ∃ n, Hid (d2.length = n) := ⟨_, hid rfl⟩
  obtain ⟨nf, HNF⟩ : ∃ n, Hid (df.length = n) := ⟨_, hid rfl⟩
  rw [HN1.out, HN2.out, HNF.out]
  rw [HN1.out] at HC1
  rw [HN2.out] at HC2
  rw [HNF.out] at HCF
  rw [HN1.out, HNF.out] at HSM
  change of = o at heq
  obtain rfl : o = of := heq.symm
  have HB4 : Hid (Below w.heap.size w ((((w.alloc (.cells #[.int .i64 o1, .int .i64 s1, .slice ao1 n1 cap1, .string c1, .int .i64 p1, .string k1, .int .i64 q1, .bool b1, .int .i64 o2, .int .i64 s2, .slice ao2 n2 cap2, .string c2, .int .i64 p2, .string k2, .int .i64 q2, .bool b2] 90)).alloc (.cells #[.int .i64 o, .int .i64 sf, .slice aof nf capf, .string cf, .int .i64 pf, .string kf, .int .i64 qf, .bool bf] 34)).alloc (.cells #[.int .i64 o] 3)).alloc (.cells #[.int .i64 0, .int .i64 0, .slice none 0 0, .string ⟨#[]⟩, .int .i64 0, .string ⟨#[]⟩, .int .i64 0, .bool false, .int .i64 0, .int .i64 0, .slice none 0 0, .string ⟨#[]⟩, .int .i64 0, .string ⟨#[]⟩, .int .i64 0, .bool false] 90))) := ((((Below.refl _ _).alloc (Nat.le_refl _) _).alloc (by simp) _).alloc (by simp; omega) _).alloc (by simp; omega) _
  have HKT : Hid (Blk ((((w.alloc (.cells #[.int .i64 o1, .int .i64 s1, .slice ao1 n1 cap1, .string c1, .int .i64 p1, .string k1, .int .i64 q1, .bool b1, .int .i64 o2, .int .i64 s2, .slice ao2 n2 cap2, .string c2, .int .i64 p2, .string k2, .int .i64 q2, .bool b2] 90)).alloc (.cells #[.int .i64 o, .int .i64 sf, .slice aof nf capf, .string cf, .int .i64 pf, .string kf, .int .i64 qf, .bool bf] 34)).alloc (.cells #[.int .i64 o] 3)).alloc (.cells #[.int .i64 0, .int .i64 0, .slice none 0 0, .string ⟨#[]⟩, .int .i64 0, .string ⟨#[]⟩, .int .i64 0, .bool false, .int .i64 0, .int .i64 0, .slice none 0 0, .string ⟨#[]⟩, .int .i64 0, .string ⟨#[]⟩, .int .i64 0, .bool false] 90)) w.heap.size 90 [.int .i64 o1, .int .i64 s1, .slice ao1 n1 cap1, .string c1, .int .i64 p1, .string k1, .int .i64 q1, .bool b1, .int .i64 o2, .int .i64 s2, .slice ao2 n2 cap2, .string c2, .int .i64 p2, .string k2, .int .i64 q2, .bool b2]) := (((Blk.new w 90 [.int .i64 o1, .int .i64 s1, .slice ao1 n1 cap1, .string c1, .int .i64 p1, .string k1, .int .i64 q1, .bool b1, .int .i64 o2, .int .i64 s2, .slice ao2 n2 cap2, .string c2, .int .i64 p2, .string k2, .int .i64 q2, .bool b2]).alloc _).alloc _).alloc _
  have HKF : Hid (Blk ((((w.alloc (.cells #[.int .i64 o1, .int .i64 s1, .slice ao1 n1 cap1, .string c1, .int .i64 p1, .string k1, .int .i64 q1, .bool b1, .int .i64 o2, .int .i64 s2, .slice ao2 n2 cap2, .string c2, .int .i64 p2, .string k2, .int .i64 q2, .bool b2] 90)).alloc (.cells #[.int .i64 o, .int .i64 sf, .slice aof nf capf, .string cf, .int .i64 pf, .string kf, .int .i64 qf, .bool bf] 34)).alloc (.cells #[.int .i64 o] 3)).alloc (.cells #[.int .i64 0, .int .i64 0, .slice none 0 0, .string ⟨#[]⟩, .int .i64 0, .string ⟨#[]⟩, .int .i64 0, .bool false, .int .i64 0, .int .i64 0, .slice none 0 0, .string ⟨#[]⟩, .int .i64 0, .string ⟨#[]⟩, .int .i64 0, .bool false] 90)) (w.heap.size + 1) 34 [.int .i64 o, .int .i64 sf, .slice aof nf capf, .string cf, .int .i64 pf, .string kf, .int .i64 qf, .bool bf]) := by
    have := ((Blk.new (w.alloc (.cells #[.int .i64 o1, .int .i64 s1, .slice ao1 n1 cap1, .string c1, .int .i64 p1, .string k1, .int .i64 q1, .bool b1, .int .i64 o2, .int .i64 s2, .slice ao2 n2 cap2, .string c2, .int .i64 p2, .string k2, .int .i64 q2, .bool b2] 90)) 34 [.int .i64 o, .int .i64 sf, .slice aof nf capf, .string cf, .int .i64 pf, .string kf, .int .i64 qf, .bool bf]).alloc (.cells #[.int .i64 o] 3)).alloc (.cells #[.int .i64 0, .int .i64 0, .slice none 0 0, .string ⟨#[]⟩, .int .i64 0, .string ⟨#[]⟩, .int .i64 0, .bool false, .int .i64 0, .int .i64 0, .slice none 0 0, .string ⟨#[]⟩, .int .i64 0, .string ⟨#[]⟩, .int .i64 0, .bool false] 90)
    rw [World.size_alloc] at this
    exact this
  have HKO : Hid (Blk ((((w.alloc (.cells #[.int .i64 o1, .int .i64 s1, .slice ao1 n1 cap1, .string c1, .int .i64 p1, .string k1, .int .i64 q1, .bool b1, .int .i64 o2, .int .i64 s2, .slice ao2 n2 cap2, .string c2, .int .i64 p2, .string k2, .int .i64 q2, .bool b2] 90)).alloc (.cells #[.int .i64 o, .int .i64 sf, .slice aof nf capf, .string cf, .int .i64 pf, .string kf, .int .i64 qf, .bool bf] 34)).alloc (.cells #[.int .i64 o] 3)).alloc (.cells #[.int .i64 0, .int .i64 0, .slice none 0 0, .string ⟨#[]⟩, .int .i64 0, .string ⟨#[]⟩, .int .i64 0, .bool false, .int .i64 0, .int .i64 0, .slice none 0 0, .string ⟨#[]⟩, .int .i64 0, .string ⟨#[]⟩, .int .i64 0, .bool false] 90)) (w.heap.size + 2) 3 [.int .i64 o]) := by
    have := (Blk.new ((w.alloc (.cells #[.int .i64 o1, .int .i64 s1, .slice ao1 n1 cap1, .string c1, .int .i64 p1, .string k1, .int .i64 q1, .bool b1, .int .i64 o2, .int .i64 s2, .slice ao2 n2 cap2, .string c2, .int .i64 p2, .string k2, .int .i64 q2, .bool b2] 90)).alloc (.cells #[.int .i64 o, .int .i64 sf, .slice aof nf capf, .string cf, .int .i64 pf, .string kf, .int .i64 qf, .bool bf] 34)) 3 [.int .i64 o]).alloc (.cells #[.int .i64 0, .int .i64 0, .slice none 0 0, .string ⟨#[]⟩, .int .i64 0, .string ⟨#[]⟩, .int .i64 0, .bool false, .int .i64 0, .int .i64 0, .slice none 0 0, .string ⟨#[]⟩, .int .i64 0, .string ⟨#[]⟩, .int .i64 0, .bool false] 90)
    rw [World.size_alloc, World.size_alloc] at this
    exact this
  have HKR : Hid (Blk ((((w.alloc (.cells #[.int .i64 o1, .int .i64 s1, .slice ao1 n1 cap1, .string c1, .int .i64 p1, .string k1, .int .i64 q1, .bool b1, .int .i64 o2, .int .i64 s2, .slice ao2 n2 cap2, .string c2, .int .i64 p2, .string k2, .int .i64 q2, .bool b2] 90)).alloc (.cells #[.int .i64 o, .int .i64 sf, .slice aof nf capf, .string cf, .int .i64 pf, .string kf, .int .i64 qf, .bool bf] 34)).alloc (.cells #[.int .i64 o] 3)).alloc (.cells #[.int .i64 0, .int .i64 0, .slice none 0 0, .string ⟨#[]⟩, .int .i64 0, .string ⟨#[]⟩, .int .i64 0, .bool false, .int .i64 0, .int .i64 0, .slice none 0 0, .string ⟨#[]⟩, .int .i64 0, .string ⟨#[]⟩, .int .i64 0, .bool false] 90)) (w.heap.size + 3) 90 [.int .i64 0, .int .i64 0, .slice none 0 0, .string ⟨#[]⟩, .int .i64 0, .string ⟨#[]⟩, .int .i64 0, .bool false, .int .i64 0, .int .i64 0, .slice none 0 0, .string ⟨#[]⟩, .int .i64 0, .string ⟨#[]⟩, .int .i64 0, .bool false]) := by
    have := Blk.new (((w.alloc (.cells #[.int .i64 o1, .int .i64 s1, .slice ao1 n1 cap1, .string c1, .int .i64 p1, .string k1, .int .i64 q1, .bool b1, .int .i64 o2, .int .i64 s2, .slice ao2 n2 cap2, .string c2, .int .i64 p2, .string k2, .int .i64 q2, .bool b2] 90)).alloc (.cells #[.int .i64 o, .int .i64 sf, .slice aof nf capf, .string cf, .int .i64 pf, .string kf, .int .i64 qf, .bool bf] 34)).alloc (.cells #[.int .i64 o] 3)) 90 [.int .i64 0, .int .i64 0, .slice none 0 0, .string ⟨#[]⟩, .int .i64 0, .string ⟨#[]⟩, .int .i64 0, .bool false, .int .i64 0, .int .i64 0, .slice none 0 0, .string ⟨#[]⟩, .int .i64 0, .string ⟨#[]⟩, .int .i64 0, .bool false]
    rw [World.size_alloc, World.size_alloc, World.size_alloc] at this
    exact this
  go_enter Try.func63, Try.ntmps63
  go_wp2_with fail
  generalize ((((w.alloc (.cells #[.int .i64 o1, .int .i64 s1, .slice ao1 n1 cap1, .string c1, .int .i64 p1, .string k1, .int .i64 q1, .bool b1, .int .i64 o2, .int .i64 s2, .slice ao2 n2 cap2, .string c2, .int .i64 p2, .string k2, .int .i64 q2, .bool b2] 90)).alloc (.cells #[.int .i64 o, .int .i64 sf, .slice aof nf capf, .string cf, .int .i64 pf, .string kf, .int .i64 qf, .bool bf] 34)).alloc (.cells #[.int .i64 o] 3)).alloc (.cells #[.int .i64 0, .int .i64 0, .slice none 0 0, .string ⟨#[]⟩, .int .i64 0, .string ⟨#[]⟩, .int .i64 0, .bool false, .int .i64 0, .int .i64 0, .slice none 0 0, .string ⟨#[]⟩, .int .i64 0, .string ⟨#[]⟩, .int .i64 0, .bool false] 90)) = V4 at *
  refine (HSM.out _ HB4.out).mono ?_
  rintro e V0 ⟨rfl, hb⟩
  have HB0 := hid (bt HB4.out hb)
  have HKT := hid (HKT.out.below hb HKT.out.lt)
  have HKF := hid (HKF.out.below hb HKF.out.lt)
  have HKO := hid (HKO.out.below hb HKO.out.lt)
  have HKR := hid (HKR.out.below hb HKR.out.lt)
  clear hb HB4
  obtain ⟨pt, hpt⟩ : ∃ p, p = w.heap.size := ⟨_, rfl⟩
  obtain ⟨pe, hpe⟩ : ∃ p, p = w.heap.size + 1 := ⟨_, rfl⟩
  obtain ⟨po, hpo⟩ : ∃ p, p = w.heap.size + 1 + 1 := ⟨_, rfl⟩
  obtain ⟨pr, hpr⟩ : ∃ p, p = w.heap.size + 1 + 1 + 1 := ⟨_, rfl⟩
  have x1 : pt ≠ pe := by omega
  have x2 : pt ≠ pr := by omega
  have x3 : pe ≠ pr := by omega
  have HP : Hid (w.heap.size ≤ pt ∧ w.heap.size ≤ pr) := (by omega : _ ∧ _)
  rw [← hpr, ← hpo, ← hpe, ← hpt]
  have HKT : Hid (Blk V0 pt 90 [.int .i64 o1, .int .i64 s1, .slice ao1 n1 cap1, .string c1, .int .i64 p1, .string k1, .int .i64 q1, .bool b1, .int .i64 o2, .int .i64 s2, .slice ao2 n2 cap2, .string c2, .int .i64 p2, .string k2, .int .i64 q2, .bool b2]) := by rw [hpt]; exact HKT.out
  have HKF : Hid (Blk V0 pe 34 [.int .i64 o, .int .i64 sf, .slice aof nf capf, .string cf, .int .i64 pf, .string kf, .int .i64 qf, .bool bf]) := by rw [hpe]; exact HKF.out
  have HKO : Hid (Blk V0 po 3 [.int .i64 o]) := by rw [hpo]; exact HKO.out
  have HKR : Hid (Blk V0 pr 90 [.int .i64 0, .int .i64 0, .slice none 0 0, .string ⟨#[]⟩, .int .i64 0, .string ⟨#[]⟩, .int .i64 0, .bool false, .int .i64 0, .int .i64 0, .slice none 0 0, .string ⟨#[]⟩, .int .i64 0, .string ⟨#[]⟩, .int .i64 0, .bool false]) := by rw [hpr]; exact HKR.out
  clear hpt hpe hpo hpr
  have HBc := hid (Below.refl V0.heap.size V0)
  have ze0 := (HKF.out.below HBc.out HKF.out.lt).cell (i := 0) rfl
  have ze1 := (HKF.out.below HBc.out HKF.out.lt).cell (i := 1) rfl
  have ze2 := (HKF.out.below HBc.out HKF.out.lt).cell (i := 2) rfl
  have ze3 := (HKF.out.below HBc.out HKF.out.lt).cell (i := 3) rfl
  have ze4 := (HKF.out.below HBc.out HKF.out.lt).cell (i := 4) rfl
  have ze5 := (HKF.out.below HBc.out HKF.out.lt).cell (i := 5) rfl
  have ze6 := (HKF.out.below HBc.out HKF.out.lt).cell (i := 6) rfl
  have ze7 := (HKF.out.below HBc.out HKF.out.lt).cell (i := 7) rfl
  have zt0 := (HKT.out.below HBc.out HKT.out.lt).cell (i := 0) rfl
  have zt1 := (HKT.out.below HBc.out HKT.out.lt).cell (i := 1) rfl
  have zt2 := (HKT.out.below HBc.out HKT.out.lt).cell (i := 2) rfl
  have zt3 := (HKT.out.below HBc.out HKT.out.lt).cell (i := 3) rfl
  have zt4 := (HKT.out.below HBc.out HKT.out.lt).cell (i := 4) rfl
  have zt5 := (HKT.out.below HBc.out HKT.out.lt).cell (i := 5) rfl
  have zt6 := (HKT.out.below HBc.out HKT.out.lt).cell (i := 6) rfl
  have zt7 := (HKT.out.below HBc.out HKT.out.lt).cell (i := 7) rfl
  have zt8 := (HKT.out.below HBc.out HKT.out.lt).cell (i := 8) rfl
  have zt9 := (HKT.out.below HBc.out HKT.out.lt).cell (i := 9) rfl
  have zt10 := (HKT.out.below HBc.out HKT.out.lt).cell (i := 10) rfl
  have zt11 := (HKT.out.below HBc.out HKT.out.lt).cell (i := 11) rfl
  have zt12 := (HKT.out.below HBc.out HKT.out.lt).cell (i := 12) rfl
  have zt13 := (HKT.out.below HBc.out HKT.out.lt).cell (i := 13) rfl
  have zt14 := (HKT.out.below HBc.out HKT.out.lt).cell (i := 14) rfl
  have zt15 := (HKT.out.below HBc.out HKT.out.lt).cell (i := 15) rfl
  have ft := fun i => (HKT.out.below HBc.out HKT.out.lt).frozen i
  have fr := fun i => (HKR.out.below HBc.out HKR.out.lt).frozen i
  have zr0 := (HKR.out.below HBc.out HKR.out.lt).cell (i := 0) rfl
  have zr1 := (HKR.out.below HBc.out HKR.out.lt).cell (i := 1) rfl
  have zr2 := (HKR.out.below HBc.out HKR.out.lt).cell (i := 2) rfl
  have zr3 := (HKR.out.below HBc.out HKR.out.lt).cell (i := 3) rfl
  have zr4 := (HKR.out.below HBc.out HKR.out.lt).cell (i := 4) rfl
  have zr5 := (HKR.out.below HBc.out HKR.out.lt).cell (i := 5) rfl
  have zr6 := (HKR.out.below HBc.out HKR.out.lt).cell (i := 6) rfl
  have zr7 := (HKR.out.below HBc.out HKR.out.lt).cell (i := 7) rfl
  have zr8 := (HKR.out.below HBc.out HKR.out.lt).cell (i := 8) rfl
  have zr9 := (HKR.out.below HBc.out HKR.out.lt).cell (i := 9) rfl
  have zr10 := (HKR.out.below HBc.out HKR.out.lt).cell (i := 10) rfl
  have zr11 := (HKR.out.below HBc.out HKR.out.lt).cell (i := 11) rfl
  have zr12 := (HKR.out.below HBc.out HKR.out.lt).cell (i := 12) rfl
  have zr13 := (HKR.out.below HBc.out HKR.out.lt).cell (i := 13) rfl
  have zr14 := (HKR.out.below HBc.out HKR.out.lt).cell (i := 14) rfl
  have zr15 := (HKR.out.below HBc.out HKR.out.lt).cell (i := 15) rfl
  go_wp2
  refine bodyPost_ret (v := .agg #[.int .i64 o1, .int .i64 s1, .slice ao1 n1 cap1, .string c1, .int .i64 p1, .string k1, .int .i64 q1, .bool b1, .int .i64 o2, .int .i64 s2, .slice ao2 n2 cap2, .string c2, .int .i64 p2, .string k2, .int .i64 q2, .bool b2]) (by simp [results, Try.results63, go_sem, *]) rfl ⟨by have h1 := HN1.out; have h2 := HN2.out; have h3 := HNF.out; subst h1 h2 h3; rfl, ?_⟩
  repeat (refine Below.setCell ?_ (by first | exact HP.out.1 | exact HP.out.2) _)
  exact bt HB0.out HBc.out
end Go.Proofs.Ytkgfpnmifgifpaa
