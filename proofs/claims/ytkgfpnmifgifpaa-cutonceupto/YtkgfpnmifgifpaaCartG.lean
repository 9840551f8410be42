/-
  Package cart: standing.
-/
import Derived.Test.YtkgfpnmifgifpaaCartF
import Derived.Test.YtkgfpnmifgifpaaCartD
namespace Go.Proofs.Ytkgfpnmifgifpaa
open Go.RowKit Go.Maps

set_option maxRecDepth 1000000 in
set_option maxHeartbeats 2000000 in
theorem standing1_any (V : World) (x : EvM) (hx : EvOk V x) (p m N : Nat) (M : ByteArray → ByteArray → Int → TwM) (hp : Blk V p 87 [.map (some m)]) (hL : LookAt V m N M) (hT : TwOk V (M x.e.cart x.e.sku x.e.o)) :
    Calls Try.prog 52 #[x.val, .pointer (some ⟨p, 0, none⟩)] V fun e w' => e = .returned (.bool (!decide (Goes x.e (M x.e.cart x.e.sku x.e.o).first.e) && !decide (Goes x.e (M x.e.cart x.e.sku x.e.o).second.e))) ∧ Below V.heap.size V w' := by
  have hlk := fun V' (hV : Below V.heap.size V V') => (hL.below hV).lookup hx.hc hx.hs hx.io
  obtain ⟨T, HT⟩ : ∃ T, Hid (M x.e.cart x.e.sku x.e.o = T) := ⟨_, hid rfl⟩
  rw [HT.out] at hlk hT ⊢
  have HG1 : Hid (∀ V', Below V.heap.size V V' → Calls Try.prog 53 #[x.val, T.first.val] V' fun e w' => e = .returned (.bool (decide (Goes x.e T.first.e))) ∧ Below V'.heap.size V' w') := fun V' hV => goesBy_any V' x T.first (hx.below hV) (hT.1.below hV)
  have HG2 : Hid (∀ V', Below V.heap.size V V' → Calls Try.prog 53 #[x.val, T.second.val] V' fun e w' => e = .returned (.bool (decide (Goes x.e T.second.e))) ∧ Below V'.heap.size V' w') := fun V' hV => goesBy_any V' x T.second (hx.below hV) (hT.2.below hV)
  obtain ⟨r1, HR1⟩ : ∃ r, Hid (decide (Goes x.e T.first.e) = r) := ⟨_, hid rfl⟩
  obtain ⟨r2, HR2⟩ : ∃ r, Hid (decide (Goes x.e T.second.e) = r) := ⟨_, hid rfl⟩
  rw [HR1.out] at HG1
  rw [HR2.out] at HG2
  rw [HR1.out, HR2.out]
  have HP := hid hp
  clear HR1 HR2 HT hx hT hL hp
  obtain ⟨⟨ox, sx, dx, cx, px, kx, qx, bx⟩, aox, capx⟩ := x
  obtain ⟨⟨⟨o1, s1, d1, c1, p1, k1, q1, b1⟩, ao1, cap1⟩, ⟨⟨o2, s2, d2, c2, p2, k2, q2, b2⟩, ao2, cap2⟩⟩ := T
  simp only [EvM.val, TwM.val] at HG1 HG2 hlk ⊢
  obtain ⟨nx, HNX⟩ : ∃ n, Hid (dx.length = n) := ⟨_, hid rfl⟩
  obtain ⟨n1, HN1⟩ : ∃ n, Hid (d1.length = n) := ⟨_, hid rfl⟩
  obtain ⟨n2, HN2⟩ : ∃ n, Hid (d2.length = n) := ⟨_, hid rfl⟩
  rw [HNX.out, HN1.out] at HG1
  rw [HNX.out, HN2.out] at HG2
  rw [HN1.out, HN2.out] at hlk
  rw [HNX.out]
  have HB1 : Hid (Below V.heap.size V (V.alloc (.cells #[.int .i64 ox, .int .i64 sx, .slice aox nx capx, .string cx, .int .i64 px, .string kx, .int .i64 qx, .bool bx] 34))) := (Below.refl _ _).alloc (Nat.le_refl _) _
  have HB2 : Hid (Below V.heap.size V ((V.alloc (.cells #[.int .i64 ox, .int .i64 sx, .slice aox nx capx, .string cx, .int .i64 px, .string kx, .int .i64 qx, .bool bx] 34)).alloc (.cells #[.int .i64 o1, .int .i64 s1, .slice ao1 n1 cap1, .string c1, .int .i64 p1, .string k1, .int .i64 q1, .bool b1, .int .i64 o2, .int .i64 s2, .slice ao2 n2 cap2, .string c2, .int .i64 p2, .string k2, .int .i64 q2, .bool b2] 90))) := HB1.out.alloc (by simp) _
  have hl1 := hlk (V.alloc (.cells #[.int .i64 ox, .int .i64 sx, .slice aox nx capx, .string cx, .int .i64 px, .string kx, .int .i64 qx, .bool bx] 34)) HB1.out
  have hc1 := (HP.out.alloc (.cells #[.int .i64 ox, .int .i64 sx, .slice aox nx capx, .string cx, .int .i64 px, .string kx, .int .i64 qx, .bool bx] 34)).cell (i := 0) rfl
  have HKX : Hid (Blk ((V.alloc (.cells #[.int .i64 ox, .int .i64 sx, .slice aox nx capx, .string cx, .int .i64 px, .string kx, .int .i64 qx, .bool bx] 34)).alloc (.cells #[.int .i64 o1, .int .i64 s1, .slice ao1 n1 cap1, .string c1, .int .i64 p1, .string k1, .int .i64 q1, .bool b1, .int .i64 o2, .int .i64 s2, .slice ao2 n2 cap2, .string c2, .int .i64 p2, .string k2, .int .i64 q2, .bool b2] 90)) V.heap.size 34 [.int .i64 ox, .int .i64 sx, .slice aox nx capx, .string cx, .int .i64 px, .string kx, .int .i64 qx, .bool bx]) := (Blk.new V _ _).alloc _
  have HKT : Hid (Blk ((V.alloc (.cells #[.int .i64 ox, .int .i64 sx, .slice aox nx capx, .string cx, .int .i64 px, .string kx, .int .i64 qx, .bool bx] 34)).alloc (.cells #[.int .i64 o1, .int .i64 s1, .slice ao1 n1 cap1, .string c1, .int .i64 p1, .string k1, .int .i64 q1, .bool b1, .int .i64 o2, .int .i64 s2, .slice ao2 n2 cap2, .string c2, .int .i64 p2, .string k2, .int .i64 q2, .bool b2] 90)) (V.heap.size + 1) 90 [.int .i64 o1, .int .i64 s1, .slice ao1 n1 cap1, .string c1, .int .i64 p1, .string k1, .int .i64 q1, .bool b1, .int .i64 o2, .int .i64 s2, .slice ao2 n2 cap2, .string c2, .int .i64 p2, .string k2, .int .i64 q2, .bool b2]) := by
    have := Blk.new (V.alloc (.cells #[.int .i64 ox, .int .i64 sx, .slice aox nx capx, .string cx, .int .i64 px, .string kx, .int .i64 qx, .bool bx] 34)) 90 [.int .i64 o1, .int .i64 s1, .slice ao1 n1 cap1, .string c1, .int .i64 p1, .string k1, .int .i64 q1, .bool b1, .int .i64 o2, .int .i64 s2, .slice ao2 n2 cap2, .string c2, .int .i64 p2, .string k2, .int .i64 q2, .bool b2]
    rw [World.size_alloc] at this
    exact this
  clear hlk
  go_enter Try.func52, Try.ntmps52
  go_wp2_with fail
  generalize ((V.alloc (.cells #[.int .i64 ox, .int .i64 sx, .slice aox nx capx, .string cx, .int .i64 px, .string kx, .int .i64 qx, .bool bx] 34)).alloc (.cells #[.int .i64 o1, .int .i64 s1, .slice ao1 n1 cap1, .string c1, .int .i64 p1, .string k1, .int .i64 q1, .bool b1, .int .i64 o2, .int .i64 s2, .slice ao2 n2 cap2, .string c2, .int .i64 p2, .string k2, .int .i64 q2, .bool b2] 90)) = V2 at *
  refine (HG1.out _ HB2.out).mono ?_
  rintro e V3 ⟨rfl, hb3⟩
  have HB3 := hid (bt HB2.out hb3)
  cases r1
  · have hkx := HKX.out.below hb3 HKX.out.lt
    have hkt := HKT.out.below hb3 HKT.out.lt
    have a0 := hkx.cell (i := 0) rfl
    have a1 := hkx.cell (i := 1) rfl
    have a2 := hkx.cell (i := 2) rfl
    have a3 := hkx.cell (i := 3) rfl
    have a4 := hkx.cell (i := 4) rfl
    have a5 := hkx.cell (i := 5) rfl
    have a6 := hkx.cell (i := 6) rfl
    have a7 := hkx.cell (i := 7) rfl
    have t0 := hkt.cell (i := 8) rfl
    have t1 := hkt.cell (i := 9) rfl
    have t2 := hkt.cell (i := 10) rfl
    have t3 := hkt.cell (i := 11) rfl
    have t4 := hkt.cell (i := 12) rfl
    have t5 := hkt.cell (i := 13) rfl
    have t6 := hkt.cell (i := 14) rfl
    have t7 := hkt.cell (i := 15) rfl
    clear hkx hkt hb3
    go_wp2_with fail
    refine (HG2.out _ HB3.out).mono ?_
    rintro e V4 ⟨rfl, hb4⟩
    have HB4 := hid (bt HB3.out hb4)
    clear hb4
    go_wp2
    go_ret
    exact ⟨rfl, HB4.out⟩
  · clear hb3
    go_wp2
    go_ret
    exact ⟨rfl, HB3.out⟩
/-- What stands of events in memory. -/
def standM (xs : List EvM) : List EvM := xs.filter fun x => decide (Stands (xs.map (·.e)) x.e)
theorem filter_map_e (f : Ev → Bool) (l : List EvM) : (l.filter fun x => f x.e).map (·.e) = (l.map (·.e)).filter f := by
  induction l with
  | nil => rfl
  | cons x r ih =>
    rw [List.map_cons]
    cases h : f x.e
    · rw [List.filter_cons_of_neg (by simp [h]), List.filter_cons_of_neg (by simp [h]), ih]
    · rw [List.filter_cons_of_pos (by simp [h]), List.filter_cons_of_pos (by simp [h]), List.map_cons, ih]
theorem standM_e (xs : List EvM) : (standM xs).map (·.e) = standOf (xs.map (·.e)) := filter_map_e (fun e => decide (Stands (xs.map fun y : EvM => y.e) e)) xs
/-- What a call that makes a list of events leaves. -/
def MadeE (w : World) (ys : List EvM) (e : Ending) (w' : World) : Prop :=
  ∃ v, e = .returned v ∧ w'.ownsRow w.heap.size 34 8 v ys.length (flatE ys) ∧ Below w.heap.size w w'
set_option maxRecDepth 1000000 in
set_option maxHeartbeats 2000000 in
theorem standing_any (w : World) (ao : Option Addr) (cap : Nat) (xs : List EvM) (n : Nat) (hn : xs.length = n) (h : HeldE w ao xs) (hl : n ≤ 4194304) (hd : ∀ x ∈ xs, x.e.deps.length ≤ 1048576) :
    Calls Try.prog 39 #[.slice ao n cap] w (MadeE w (standM xs)) := by
  have HLK := hid (lookouts_any w ao cap xs n hn h hl hd)
  have HN := hid hn
  have H := hid h
  clear hn h hd
  go_enter Try.func39, Try.ntmps39
  go_wp2_with fail
  refine HLK.out.mono ?_
  rintro e w1 ⟨m, N, rfl, hm, hL, hb⟩
  obtain ⟨w2, hw2⟩ : ∃ W, W = w1.alloc (.cells #[.map (some m)] 87) := ⟨_, rfl⟩
  have HB12 : Below w1.heap.size w1 w2 := by rw [hw2]; exact (Below.refl _ _).alloc (Nat.le_refl _) _
  have HB2 := hid (bt hb HB12)
  have HP2 : Hid (Blk w2 w1.heap.size 87 [.map (some m)]) := by rw [hw2]; exact Blk.new w1 _ _
  have HL2 := hid (hL.below HB12)
  have HW2 := hid hw2
  have HST : Hid (∀ x : EvM, x ∈ xs → (!decide (Goes x.e (twM x.e.cart x.e.sku x.e.o xs).first.e) && !decide (Goes x.e (twM x.e.cart x.e.sku x.e.o xs).second.e)) = decide (Stands (xs.map (·.e)) x.e)) := fun x _ => by
    have h1 := stands_two (xs.map (·.e)) x.e
    have h2 := twM_tw x.e.cart x.e.sku x.e.o xs
    rw [← h2] at h1
    have h3 : decide (Stands (xs.map (·.e)) x.e) = decide (¬ Goes x.e (twM x.e.cart x.e.sku x.e.o xs).first.e ∧ ¬ Goes x.e (twM x.e.cart x.e.sku x.e.o xs).second.e) := decide_eq_decide.2 h1
    rw [h3]
    simp
  have HCH := hid (chosen_any (w0 := w) (w := w2) HB2.out (F := 52) (.inr (.inr rfl)) w1.heap.size ao cap xs n HN.out H.out (by omega) (fun _ => False) (fun _ h => h.elim)
    (fun _ V => Blk V w1.heap.size 87 [.map (some m)] ∧ LookAt V m N (fun c k o => twM c k o xs)) (fun i => decide (Stands (xs.map (·.e)) (xs.getD i zeroEM).e)) ⟨HP2.out, HL2.out⟩
    (fun _ V V' hI hT => ⟨hT.blk hI.1 (by have := HP2.out.lt; omega), hI.2.turned hT (by have := HL2.out.lt; omega)⟩)
    (fun k hk V hI hV => by
      have e : xs.getD k zeroEM = xs[k] := by simp [List.getD, List.getElem?_eq_getElem hk]
      have hxm : xs[k] ∈ xs := List.getElem_mem hk
      have := standing1_any V xs[k] ((H.out.1 _ hxm).below hV) w1.heap.size m N _ hI.1 hI.2 (twM_ok _ _ _ xs zeroTM (H.out.1.below hV) (TwOk.zero V))
      refine this.mono ?_
      rintro e1 V' ⟨rfl, hb'⟩
      refine ⟨by rw [e, ← HST.out _ hxm], ⟨hI.1.below hb' hI.1.lt, hI.2.below hb'⟩, Turns.of_below hb' (Nat.le_refl _)⟩))
  clear hm hL hb hw2 HB12
  go_wp2_with fail
  rw [← HW2.out]
  refine HCH.out.mono ?_
  rintro e w3 ⟨v, rfl, hrow, _, hb3⟩
  have HSEL : Hid (selTo (fun i => decide (Stands (xs.map (·.e)) (xs.getD i zeroEM).e)) xs n = standM xs) := by
    show _ = _
    rw [selTo_filter (fun x => decide (Stands (xs.map (·.e)) x.e)) xs n (by rw [HN.out]; exact Nat.le_refl _), List.take_of_length_le (by rw [HN.out]; exact Nat.le_refl _)]
    rfl
  rw [HSEL.out] at hrow
  have HROW := hid (ownsRow_base hrow HB2.out.size)
  have HB3 := hid hb3
  clear hrow hb3
  go_wp2
  go_ret
  exact ⟨v, rfl, HROW.out, HB3.out⟩
end Go.Proofs.Ytkgfpnmifgifpaa
