/-
  Package cut: Whole; Check of one seal that does not follow.
-/
import Derived.Test.YtkgfpnmifgifpaaSealC
import Derived.Test.YtkgfpnmifgifpaaSealF
import Derived.Test.YtkgfpnmifgifpaaRowSort
import Derived.Laws.ResultCell
namespace Go.Proofs.Ytkgfpnmifgifpaa
open Go.RowKit Go.Maps

/-- Is s that cart's seal of that epoch? -/
def Wh (name : ByteArray) (q : Int) (s : Sl) : Prop := s.cart = name ∧ s.ep = q
instance (name : ByteArray) (q : Int) (s : Sl) : Decidable (Wh name q s) := by unfold Wh; infer_instance
def firstWh (name : ByteArray) (q : Int) (xs : List SlM) : Option SlM := xs.find? fun x => decide (Wh name q x.e)
theorem firstWh_none {name : ByteArray} {q : Int} {xs : List SlM} (h : ∀ a (ha : a < xs.length), ¬ Wh name q xs[a].e) : firstWh name q xs = none := by
  unfold firstWh
  rw [List.find?_eq_none]
  intro x hx
  obtain ⟨a, ha, rfl⟩ := List.mem_iff_getElem.1 hx
  simpa using h a ha
theorem firstWh_some {name : ByteArray} {q : Int} {xs : List SlM} {k : Nat} (hk : k < xs.length) (h : ∀ a (ha : a < xs.length), a < k → ¬ Wh name q xs[a].e) (hb : Wh name q xs[k].e) : firstWh name q xs = some xs[k] := by
  unfold firstWh
  rw [List.find?_eq_some_iff_getElem]
  exact ⟨by simpa using hb, k, hk, rfl, fun j hj => by simpa using h j (by omega) hj⟩
set_option maxRecDepth 100000 in
theorem whole1_any (V : World) (x : SlM) (name : ByteArray) (q : Int) (p p2 : Nat) (hp : V.cell? ⟨p, 0, none⟩ = some (.string name)) (hp2 : V.cell? ⟨p2, 0, none⟩ = some (.int .i64 q)) :
    Calls Try.prog 31 #[x.val, .pointer (some ⟨p, 0, none⟩), .pointer (some ⟨p2, 0, none⟩)] V fun e w' => e = .returned (.bool (decide (Wh name q x.e))) ∧ Below V.heap.size V w' := by
  obtain ⟨⟨tok, cart, ep, cut⟩, ao1, cap1⟩ := x
  obtain ⟨XN, HXN⟩ : ∃ m, Hid (cut.length = m) := ⟨_, hid rfl⟩
  simp only [SlM.val]
  rw [HXN.out]
  have HB : Hid (Below V.heap.size V (V.alloc (.cells #[.string tok, .string cart, .int .i64 ep, .slice ao1 XN cap1] 50))) := (Below.refl _ _).alloc (Nat.le_refl _) _
  have hbk := Blk.new V 50 [.string tok, .string cart, .int .i64 ep, .slice ao1 XN cap1]
  have hc1 := hbk.cell (i := 1) rfl
  have hc2 := hbk.cell (i := 2) rfl
  have e0 := (HB.out.cell (p := ⟨p, 0, none⟩) (World.block_lt_of_cell? V _ hp)).trans hp
  have e1 := (HB.out.cell (p := ⟨p2, 0, none⟩) (World.block_lt_of_cell? V _ hp2)).trans hp2
  clear hbk
  by_cases hc : cart = name
  rotate_left 1
  · have HD : Hid (decide (Wh name q ⟨tok, cart, ep, cut⟩) = false) := decide_eq_false fun h => hc h.1
    rw [HD.out]
    have hbb : ¬ cart.toList = name.toList := fun hh => hc (bytes_inj hh)
    clear hc
    go_enter Try.func31, Try.ntmps31
    go_wp2
    go_ret
    exact ⟨rfl, HB.out⟩
  subst hc
  by_cases he : ep = q
  rotate_left 1
  · have HD : Hid (decide (Wh cart q ⟨tok, cart, ep, cut⟩) = false) := decide_eq_false fun h => he h.2
    rw [HD.out]
    go_enter Try.func31, Try.ntmps31
    go_wp2
    go_ret
    exact ⟨by simp [he], HB.out⟩
  subst he
  have HD : Hid (decide (Wh cart ep ⟨tok, cart, ep, cut⟩) = true) := decide_eq_true ⟨rfl, rfl⟩
  rw [HD.out]
  go_enter Try.func31, Try.ntmps31
  go_wp2
  go_ret
  exact ⟨by simp, HB.out⟩
set_option maxRecDepth 1000000 in
set_option maxHeartbeats 2000000 in
theorem findWh_any (w : World) (ao : Option Addr) (cap : Nat) (xs : List SlM) (n : Nat) (hn : xs.length = n) (h : HeldSl w ao xs) (hl : n ≤ 100000000) (name : ByteArray) (q0 : Int) (p p2 : Nat) (hp : w.cell? ⟨p, 0, none⟩ = some (.string name)) (hp2 : w.cell? ⟨p2, 0, none⟩ = some (.int .i64 q0)) (hpl : p < w.heap.size) (hpl2 : p2 < w.heap.size) :
    Calls Try.prog 26 #[.slice ao n cap, .func (.func 31) #[] #[.pointer (some ⟨p, 0, none⟩), .pointer (some ⟨p2, 0, none⟩)]] w (FoundP w (firstWh name q0 xs)) := by
  have HN := hid hn
  have H := hid h
  have HP : Hid (∀ V, Below w.heap.size w V → V.cell? ⟨p, 0, none⟩ = some (.string name) ∧ V.cell? ⟨p2, 0, none⟩ = some (.int .i64 q0)) := fun V hV => ⟨(hV.cell (p := ⟨p, 0, none⟩) hpl).trans hp, (hV.cell (p := ⟨p2, 0, none⟩) hpl2).trans hp2⟩
  obtain ⟨W0, hW0⟩ : ∃ W, W = w.alloc (.cells #[.string ⟨#[]⟩, .string ⟨#[]⟩, .int .i64 0, .slice none 0 0] 50) := ⟨_, rfl⟩
  have HB0 : Hid (Below w.heap.size w W0) := by rw [hW0]; exact (Below.refl _ _).alloc (Nat.le_refl _) _
  have HK0 : Hid (Blk W0 w.heap.size 50 [.string ⟨#[]⟩, .string ⟨#[]⟩, .int .i64 0, .slice none 0 0]) := by rw [hW0]; exact Blk.new w _ _
  have HW0 := hid hW0
  clear hn h hp hp2 hpl hpl2 hW0
  go_enter Try.func26, Try.ntmps26
  go_wp2
  rw [← HW0.out]
  obtain ⟨r, hr⟩ : ∃ r, r = w.heap.size := ⟨_, rfl⟩
  rw [← hr] at HK0 ⊢
  have HRR := hid hr
  clear hr
  go_loopw [7, 10] (fun _ i wr => ∃ k : Nat, k ≤ n ∧ i = .int .i64 k ∧ Hid ((∀ a (ha : a < xs.length), a < k → ¬ Wh name q0 xs[a].e) ∧ Below W0.heap.size W0 wr)) (fun _ i _ => n - (intOf i).toNat)
  case atStart => exact ⟨0, Nat.zero_le _, rfl, fun a _ ha => absurd ha (Nat.not_lt_zero _), Below.refl _ _⟩
  case round =>
    obtain ⟨k, hk, rfl, HR⟩ := hrel
    have HBR : Hid (Below w.heap.size w wr) := bt HB0.out HR.out.2
    by_cases hlt : k < n
    · have hlt' : (k : Int) < (n : Int) := by omega
      have hkx : Hid (k < xs.length) := (by rw [HN.out]; exact hlt : k < xs.length)
      obtain ⟨bb, off, hao, _, g0, g1, g2, g3⟩ := (H.out.below HBR.out).at hkx.out
      subst hao
      have HKM : Hid (k + 1 ≤ n) := (by omega : k + 1 ≤ n)
      have HOX := hid ((H.out.1 _ (List.getElem_mem hkx.out)).below HBR.out)
      obtain ⟨q, HQ⟩ : ∃ q, Hid (decide (Wh name q0 (xs[k]'hkx.out).e) = q) := ⟨_, hid rfl⟩
      have HSO : Hid (q = true → firstWh name q0 xs = some (xs[k]'hkx.out)) := fun hq => firstWh_some hkx.out HR.out.1 (of_decide_eq_true (HQ.out.trans hq))
      have HNX : Hid (q = false → ∀ a (ha : a < xs.length), a < k + 1 → ¬ Wh name q0 xs[a].e) := fun hq a ha hak => by
        by_cases e : a = k
        · subst e
          exact of_decide_eq_false (HQ.out.trans hq)
        · exact HR.out.1 a ha (by omega)
      obtain ⟨X, HX⟩ : ∃ X, Hid (xs[k]'hkx.out = X) := ⟨_, hid rfl⟩
      rw [HX.out] at g0 g1 g2 g3 HOX HSO HQ
      obtain ⟨W1, hW1⟩ : ∃ W, W = wr.alloc (.cells X.cells.toArray 50) := ⟨_, rfl⟩
      have HB1 : Hid (Below wr.heap.size wr W1) := by rw [hW1]; exact (Below.refl _ _).alloc (Nat.le_refl _) _
      have HK1 : Hid (Blk W1 wr.heap.size 50 X.cells) := by rw [hW1]; exact Blk.new wr _ _
      have HCL := hid (whole1_any W1 X name q0 p p2 (HP.out W1 (bt HBR.out HB1.out)).1 (HP.out W1 (bt HBR.out HB1.out)).2)
      rw [HQ.out] at HCL
      have HW1 := hid hW1
      clear hW1 HX HQ HOX
      obtain ⟨⟨tok, cart, ep, cut⟩, ao1, cap1⟩ := X
      obtain ⟨XN, HXN⟩ : ∃ m, Hid (cut.length = m) := ⟨_, hid rfl⟩
      simp only [SlM.val, SlM.cells] at g0 g1 g2 g3 HCL HK1 HW1 HSO
      rw [HXN.out] at g3 HCL HK1 HW1
      go_wp2_with fail
      rw [← HW1.out]
      obtain ⟨pb, hpb⟩ : ∃ p, p = wr.heap.size := ⟨_, rfl⟩
      rw [← hpb] at HK1 ⊢
      clear hpb
      refine HCL.out.mono ?_
      rintro e w2 ⟨rfl, hb2⟩
      have HB2 := hid (bt HB1.out hb2)
      have hk2 := HK1.out.below hb2 HK1.out.lt
      have c0 := hk2.cell (i := 0) rfl
      have c1 := hk2.cell (i := 1) rfl
      have c2 := hk2.cell (i := 2) rfl
      have c3 := hk2.cell (i := 3) rfl
      have HBR2 : Hid (Below W0.heap.size W0 w2) := bt HR.out.2 HB2.out
      have hr2 := HK0.out.below HBR2.out HK0.out.lt
      have r0 := hr2.cell (i := 0) rfl
      have r1 := hr2.cell (i := 1) rfl
      have r2 := hr2.cell (i := 2) rfl
      have r3 := hr2.cell (i := 3) rfl
      have f0 := hr2.frozen 0
      have f1 := hr2.frozen 1
      have f2 := hr2.frozen 2
      have f3 := hr2.frozen 3
      have HR2 := hid hr2
      clear hb2 hk2 hr2 HCL g0 g1 g2 g3
      cases q
      · go_wp2
        go_roundw
        case rel => exact ⟨k + 1, HKM.out, by go_num, HNX.out (by trivial), HBR2.out⟩
        case measure => simp [intOf]; have := HKM.out; omega
      · obtain ⟨W3, hW3⟩ : ∃ W, W = (((w2.setCell ⟨r, 0, none⟩ (.string tok)).setCell ⟨r, 1, none⟩ (.string cart)).setCell ⟨r, 2, none⟩ (.int .i64 ep)).setCell ⟨r, 3, none⟩ (.slice ao1 XN cap1) := ⟨_, rfl⟩
        have hk3 : Blk W3 r 50 [.string tok, .string cart, .int .i64 ep, .slice ao1 XN cap1] := by rw [hW3]; exact (((HR2.out.set 0 (.string tok)).set 1 (.string cart)).set 2 (.int .i64 ep)).set 3 (.slice ao1 XN cap1)
        have t0 := hk3.cell (i := 0) rfl
        have t1 := hk3.cell (i := 1) rfl
        have t2 := hk3.cell (i := 2) rfl
        have t3 := hk3.cell (i := 3) rfl
        have HB3 : Hid (Below w.heap.size w W3) := by
          rw [hW3, HRR.out]
          exact (bt HB0.out HBR2.out).trans ((((((Turns.refl (fun i => i = w.heap.size) w2).setCell (p := ⟨w.heap.size, 0, none⟩) (.inl rfl) _).setCell (p := ⟨w.heap.size, 1, none⟩) (.inl rfl) _).setCell (p := ⟨w.heap.size, 2, none⟩) (.inl rfl) _).setCell (p := ⟨w.heap.size, 3, none⟩) (.inl rfl) _).below (fun i hi => by omega) (bt HB0.out HBR2.out).size)
        have HW3 := hid hW3
        have HSX := hid (HSO.out (by trivial))
        clear hW3 hk3
        go_wp2
        rw [← HW3.out]
        (try simp only [Exit.inBlock, Exit.then])
        refine bodyPost_ret (v := .tuple #[.agg #[.string tok, .string cart, .int .i64 ep, .slice ao1 XN cap1], .bool true]) ?_ rfl ⟨?_, HB3.out⟩
        · rw [results_cell_tmp rfl]
          go_simp
        · rw [HSX.out]
          simp [Option.getD, SlM.val, HXN.out]
    · have hlt' : ¬ (k : Int) < (n : Int) := by omega
      have HNO : Hid (firstWh name q0 xs = none) := firstWh_none fun a ha => HR.out.1 a ha (by have := HN.out; omega)
      have hr2 := HK0.out.below HR.out.2 HK0.out.lt
      have r0 := hr2.cell (i := 0) rfl
      have r1 := hr2.cell (i := 1) rfl
      have r2 := hr2.cell (i := 2) rfl
      have r3 := hr2.cell (i := 3) rfl
      have f0 := hr2.frozen 0
      have f1 := hr2.frozen 1
      have f2 := hr2.frozen 2
      have f3 := hr2.frozen 3
      obtain ⟨W3, hW3⟩ : ∃ W, W = (((wr.setCell ⟨r, 0, none⟩ (.string ⟨#[]⟩)).setCell ⟨r, 1, none⟩ (.string ⟨#[]⟩)).setCell ⟨r, 2, none⟩ (.int .i64 0)).setCell ⟨r, 3, none⟩ (.slice none 0 0) := ⟨_, rfl⟩
      have hk3 : Blk W3 r 50 [.string ⟨#[]⟩, .string ⟨#[]⟩, .int .i64 0, .slice none 0 0] := by rw [hW3]; exact (((hr2.set 0 (.string ⟨#[]⟩)).set 1 (.string ⟨#[]⟩)).set 2 (.int .i64 0)).set 3 (.slice none 0 0)
      have t0 := hk3.cell (i := 0) rfl
      have t1 := hk3.cell (i := 1) rfl
      have t2 := hk3.cell (i := 2) rfl
      have t3 := hk3.cell (i := 3) rfl
      have HB3 : Hid (Below w.heap.size w W3) := by
        rw [hW3, HRR.out]
        exact HBR.out.trans ((((((Turns.refl (fun i => i = w.heap.size) wr).setCell (p := ⟨w.heap.size, 0, none⟩) (.inl rfl) _).setCell (p := ⟨w.heap.size, 1, none⟩) (.inl rfl) _).setCell (p := ⟨w.heap.size, 2, none⟩) (.inl rfl) _).setCell (p := ⟨w.heap.size, 3, none⟩) (.inl rfl) _).below (fun i hi => by omega) HBR.out.size)
      have HW3 := hid hW3
      clear hW3 hk3 hr2
      go_wp2
      rw [← HW3.out]
      (try simp only [Exit.inBlock, Exit.then])
      refine bodyPost_ret (v := .tuple #[.agg #[.string ⟨#[]⟩, .string ⟨#[]⟩, .int .i64 0, .slice none 0 0], .bool false]) ?_ rfl ⟨?_, HB3.out⟩
      · rw [results_cell_tmp rfl]
        go_simp
      · rw [HNO.out]
        rfl

/-- Has the cart a seal of that epoch, all of whose cut is applied? -/
def wholeOf (name : ByteArray) (q : Int) (v : List Int) (ss : List SlM) : Bool :=
  match firstWh name q ss with
  | some x => decide (BelowV x.e.cut v)
  | none => false
set_option maxRecDepth 100000 in
set_option maxHeartbeats 1000000 in
theorem whole_any (w : World) (vo so : Option Addr) (vc cs : Nat) (v : List Int) (vl : Nat) (hvl : v.length = vl) (hv : HV w vo vc v) (ss : List SlM) (m : Nat) (hm : ss.length = m) (hs : HeldSl w so ss) (hls : m ≤ 100000000) (name : ByteArray) (q : Int) :
    Calls Try.prog 17 #[.slice vo vl vc, .slice so m cs, .string name, .int .i64 q] w fun e w' => e = .returned (.bool (wholeOf name q v ss)) ∧ Below w.heap.size w w' := by
  obtain ⟨W, hW⟩ : ∃ W, W = (w.alloc (.cells #[.string name] 9)).alloc (.cells #[.int .i64 q] 3) := ⟨_, rfl⟩
  have HB : Hid (Below w.heap.size w W) := by rw [hW]; exact ((Below.refl _ _).alloc (Nat.le_refl _) _).alloc (by simp) _
  have hk1 : Blk W w.heap.size 9 [.string name] := by rw [hW]; exact (Blk.new w _ _).alloc _
  have hk2 : Blk W (w.heap.size + 1) 3 [.int .i64 q] := by
    rw [hW]
    have := Blk.new (w.alloc (.cells #[.string name] 9)) 3 [.int .i64 q]
    rw [World.size_alloc] at this
    exact this
  have HF := hid (findWh_any W so cs ss m hm (hs.below HB.out) hls name q w.heap.size (w.heap.size + 1) (hk1.cell (i := 0) rfl) (hk2.cell (i := 0) rfl) hk1.lt hk2.lt)
  unfold FoundP at HF
  have HVV := hid hv
  have HVL := hid hvl
  have HW := hid hW
  have HSO : Hid (∀ x, firstWh name q ss = some x → SlOk w x) := fun x hx => hs.1 x (List.mem_of_find?_eq_some hx)
  obtain ⟨o, ho⟩ : ∃ o, firstWh name q ss = o := ⟨_, rfl⟩
  rw [ho] at HF HSO
  cases o with
  | none =>
    have HR : Hid (wholeOf name q v ss = false) := by show _ = _; unfold wholeOf; rw [ho]
    rw [HR.out]
    clear hW hk1 hk2 hv hvl hm hs ho
    simp only [Option.getD, Option.isSome, zeroSlV, zeroSl, SlM.val, List.length_nil] at HF
    go_enter Try.func17, Try.ntmps17
    go_wp2_with fail
    rw [← HW.out]
    refine HF.out.mono ?_
    rintro e w1 ⟨rfl, hb⟩
    have HB1 := hid (bt HB.out hb)
    have HB2 : Hid (Below w.heap.size w (w1.alloc (.cells #[.string ⟨#[]⟩, .string ⟨#[]⟩, .int .i64 0, .slice none 0 0] 50))) := HB1.out.alloc HB1.out.size _
    clear hb HF
    go_wp2
    go_ret
    exact ⟨rfl, HB2.out⟩
  | some x =>
    have HR : Hid (wholeOf name q v ss = decide (BelowV x.e.cut v)) := by show _ = _; unfold wholeOf; rw [ho]
    rw [HR.out]
    have HOX := hid (HSO.out x rfl)
    clear hW hk1 hk2 hv hvl hm hs ho HSO
    obtain ⟨⟨tok, cart, ep, cut⟩, ao1, cap1⟩ := x
    simp only [Option.getD, Option.isSome, SlM.val] at HF ⊢
    obtain ⟨XN, HXN⟩ : ∃ m, Hid (cut.length = m) := ⟨_, hid rfl⟩
    rw [HXN.out] at HF
    have HBL := hid (fun V (hV : Below w.heap.size w V) => below_any V ao1 vo cap1 vc cut v XN vl HXN.out HVL.out (HOX.out.cut.below hV) (HVV.out.below hV))
    obtain ⟨r, HRR⟩ : ∃ r, Hid (decide (BelowV cut v) = r) := ⟨_, hid rfl⟩
    rw [HRR.out] at HBL ⊢
    go_enter Try.func17, Try.ntmps17
    go_wp2_with fail
    rw [← HW.out]
    refine HF.out.mono ?_
    rintro e w1 ⟨rfl, hb⟩
    have HB1 := hid (bt HB.out hb)
    have HB2 : Hid (Below w.heap.size w (w1.alloc (.cells #[.string tok, .string cart, .int .i64 ep, .slice ao1 XN cap1] 50))) := HB1.out.alloc HB1.out.size _
    have hk := Blk.new w1 50 [.string tok, .string cart, .int .i64 ep, .slice ao1 XN cap1]
    have c3 := hk.cell (i := 3) rfl
    clear hb HF hk
    go_wp2_with fail
    refine (HBL.out _ HB2.out).mono ?_
    rintro e w2 ⟨rfl, rfl⟩
    go_wp2
    go_ret
    exact ⟨rfl, HB2.out⟩
set_option maxRecDepth 100000 in
set_option maxHeartbeats 1000000 in
/-- cut.Check of one seal without a cut whose Epoch is not 0. -/
theorem check1_any (w : World) (g : Nat) (tok cart : ByteArray) (h1 : nameS tok = true) (h2 : nameS cart = true) (ep : Int) (h3 : 1 ≤ ep ∧ ep ≤ 2147483647) (hg : Blk w g 50 [.string tok, .string cart, .int .i64 ep, .slice none 0 0]) :
    Calls Try.prog 9 #[.slice (some ⟨g, 0, none⟩) 1 1] w fun e w' => e = .returned (.tuple #[.int .i64 0, .int .i64 120]) ∧ Below w.heap.size w w' := by
  have hmm := @run_makeMap Try.prog
  have HS := hid (fun V => seal0_any V tok cart h1 h2 ep ⟨by omega, h3.2⟩)
  have HZ : Hid (cart.size ≤ maxLen) := by have := nameS_size h2; show _ ≤ _; unfold maxLen; omega
  obtain ⟨W0, hW0⟩ : ∃ W, W = w.alloc (.map #[] 0) := ⟨_, rfl⟩
  have HB0 : Hid (Below w.heap.size w W0) := by rw [hW0]; exact (Below.refl _ _).alloc (Nat.le_refl _) _
  have HM0 : Hid (SumsAt W0 w.heap.size 0 (.map []) []) := by rw [hW0]; exact SumsAt.new w
  have hg0 := hg.below HB0.out hg.lt
  have g0 := hg0.cell (i := 0) rfl
  have g1 := hg0.cell (i := 1) rfl
  have g2 := hg0.cell (i := 2) rfl
  have g3 := hg0.cell (i := 3) rfl
  rw [hW0] at g0 g1 g2 g3
  obtain ⟨W1, hW1⟩ : ∃ W, W = W0.alloc (.cells #[.string tok, .string cart, .int .i64 ep, .slice none 0 0] 50) := ⟨_, rfl⟩
  have HB1 : Hid (Below W0.heap.size W0 W1) := by rw [hW1]; exact (Below.refl _ _).alloc (Nat.le_refl _) _
  have HK1 : Hid (Blk W1 W0.heap.size 50 [.string tok, .string cart, .int .i64 ep, .slice none 0 0]) := by rw [hW1]; exact Blk.new W0 _ _
  have hsz : W0.heap.size = w.heap.size + 1 := by rw [hW0]; simp
  rw [hsz] at HK1
  have HW1 : Hid (W1 = (w.alloc (.map #[] 0)).alloc (.cells #[.string tok, .string cart, .int .i64 ep, .slice none 0 0] 50)) := by show _ = _; rw [hW1, hW0]
  have hne : (ep != 0) = true := by simp; omega
  have hne' : ¬ ep = 0 := by omega
  clear hW0 hW1 hg hg0 h1 h2 h3 hsz
  go_enter Try.func9, Try.ntmps9
  go_wp2
  refine wp_loop_rounds 1 ?_
  rw [rounds_succ]
  go_wp2_with fail
  rw [← HW1.out]
  obtain ⟨p, hp⟩ : ∃ p, p = w.heap.size + 1 := ⟨_, rfl⟩
  rw [← hp] at HK1 ⊢
  obtain ⟨mm, hmmm⟩ : ∃ p, p = w.heap.size := ⟨_, rfl⟩
  rw [← hmmm] at HM0 ⊢
  clear hp
  refine (HS.out _).mono ?_
  rintro e w2 ⟨⟨v, rfl⟩, hb2⟩
  have hk2 := HK1.out.below hb2 HK1.out.lt
  have c1 := hk2.cell (i := 1) rfl
  have c2 := hk2.cell (i := 2) rfl
  have HB2 : Hid (Below w.heap.size w w2) := bt HB0.out (bt HB1.out hb2)
  have hlk := ((HM0.out.below HB1.out).below hb2).lookup HZ.out
  rw [show qtyOf cart [] = 0 from rfl] at hlk
  clear hb2 hk2 hmmm
  go_wp2
  go_ret2
  exact ⟨rfl, HB2.out⟩
end Go.Proofs.Ytkgfpnmifgifpaa
