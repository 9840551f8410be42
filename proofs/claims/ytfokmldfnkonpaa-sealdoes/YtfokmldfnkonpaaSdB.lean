/-
  The document's machine of orders in memory: RightEntry, Epoch, Token, Get.
-/
import Derived.Test.YtfokmldfnkonpaaSmG
import Derived.Test.YtfokmldfnkonpaaSealI
namespace Go.Proofs.Ytfokmldfnkonpaa
open Go.RowKit Go.Maps

theorem empty_list : (⟨#[]⟩ : ByteArray).toList = [] := by decide +kernel
theorem empty_iff (s : ByteArray) : s.size = 0 ↔ s.toList = [] := by
  constructor
  · intro h
    have h1 : s = ⟨#[]⟩ := ByteArray.ext (Array.eq_empty_of_size_eq_zero h)
    rw [h1]
    exact empty_list
  · intro h
    have h1 : s = ⟨#[]⟩ := bytes_injC (h.trans empty_list.symm)
    rw [h1]
    rfl
set_option maxRecDepth 1000000 in
set_option maxHeartbeats 2000000 in
theorem rentry_any (w : World) (x : EnM) (hx : EnOk w x) : Calls Try.prog 31 #[x.val] w fun e w' => e = .returned (.bool (RightEn x.e)) ∧ Below w.heap.size w w' := by
  obtain ⟨⟨np, tk, ct, ep, dp⟩, ao1, cap1⟩ := x
  obtain ⟨XN, HXN⟩ : ∃ m, Hid (dp.length = m) := ⟨_, hid rfl⟩
  obtain ⟨W, hW⟩ : ∃ W, W = w.alloc (.cells #[.bool np, .string tk, .string ct, .int .i64 ep, .slice ao1 XN cap1] 39) := ⟨_, rfl⟩
  have HB : Hid (Below w.heap.size w W) := by rw [hW]; exact (Below.refl _ _).alloc (Nat.le_refl _) _
  have HW := hid hW
  have HSE := hid (rseal_any W ⟨⟨tk, ct, ep, dp⟩, ao1, cap1⟩ ⟨(hx.below HB.out).cut, hx.ie, hx.ht, hx.hc⟩)
  simp only [SlM.val] at HSE
  simp only [EnM.val]
  rw [HXN.out] at HSE ⊢
  clear hx hW
  cases np with
  | false =>
    have HE : Hid (RightEn ⟨false, tk, ct, ep, dp⟩ = RightSl ⟨tk, ct, ep, dp⟩) := rfl
    rw [HE.out]
    obtain ⟨R, HR⟩ : ∃ b, Hid (RightSl ⟨tk, ct, ep, dp⟩ = b) := ⟨_, hid rfl⟩
    rw [HR.out] at HSE ⊢
    go_enter Try.func31, Try.ntmps31
    go_wp2_with fail
    rw [← HW.out]
    refine HSE.out.mono ?_
    rintro e w' ⟨rfl, hb⟩
    have HB2 := hid (bt' HB.out hb)
    clear hb
    go_wp2
    go_ret
    exact ⟨rfl, HB2.out⟩
  | true =>
    have HE : Hid (RightEn ⟨true, tk, ct, ep, dp⟩ = (decide (tk.size = 0) && (decide (ct.size = 0) && (decide (ep = 0) && decide (dp.length = 0))))) := rfl
    rw [HE.out]
    by_cases h1 : tk.toList = []
    · rw [decide_eq_true ((empty_iff tk).2 h1)]
      by_cases h2 : ct.toList = []
      · rw [decide_eq_true ((empty_iff ct).2 h2)]
        by_cases h3 : ep = 0
        · subst h3
          rw [HXN.out]
          have hd : ((XN : Int) == 0) = decide (XN = 0) := by rw [Bool.eq_iff_iff]; simp
          obtain ⟨q, HQ⟩ : ∃ q, Hid (decide (XN = 0) = q) := ⟨_, hid rfl⟩
          rw [HQ.out] at hd ⊢
          have h1' : tk.toList.isEmpty = true := by rw [h1]; rfl
          have h2' : ct.toList.isEmpty = true := by rw [h2]; rfl
          go_enter Try.func31, Try.ntmps31
          go_wp2
          go_ret
          rw [← HW.out]
          exact ⟨by simp, HB.out⟩
        · have hd : (ep == 0) = false := by simpa using h3
          rw [decide_eq_false h3]
          have h1' : tk.toList.isEmpty = true := by rw [h1]; rfl
          have h2' : ct.toList.isEmpty = true := by rw [h2]; rfl
          go_enter Try.func31, Try.ntmps31
          go_wp2
          go_ret
          rw [← HW.out]
          exact ⟨by simp, HB.out⟩
      · rw [decide_eq_false (fun k => h2 ((empty_iff ct).1 k))]
        have h1' : tk.toList.isEmpty = true := by rw [h1]; rfl
        have h2' : ct.toList.isEmpty = false := by cases hh : ct.toList with
          | nil => exact absurd hh h2
          | cons => rfl
        go_enter Try.func31, Try.ntmps31
        go_wp2
        go_ret
        rw [← HW.out]
        exact ⟨by simp, HB.out⟩
    · rw [decide_eq_false (fun k => h1 ((empty_iff tk).1 k))]
      have h1' : tk.toList.isEmpty = false := by cases hh : tk.toList with
        | nil => exact absurd hh h1
        | cons => rfl
      go_enter Try.func31, Try.ntmps31
      go_wp2
      go_ret
      rw [← HW.out]
      exact ⟨by simp, HB.out⟩
/-- An order whose cut lies ahead of B. -/
structure OrLow (B : Nat) (w : World) (x : OrM) : Prop where
  ok : OrOk w x
  low : ∀ b off, x.ao = some ⟨b, off, none⟩ → x.e.cut ≠ [] → b < B
theorem OrLow.turned {B : Nat} {F : Nat → Prop} {w w' : World} {x : OrM} (h : OrLow B w x) (hF : ∀ i, F i → B ≤ i) (ht : Turns F w w') : OrLow B w' x :=
  ⟨⟨⟨h.ok.cut.held.turned ht (fun b off e hne hf => by have := h.low b off e hne; have := hF b hf; omega), h.ok.cut.room, h.ok.cut.few⟩, h.ok.ii, h.ok.ie, h.ok.ht, h.ok.hc⟩, h.low⟩
/-- The document's machine in memory: its block, its row; its orders' cuts lie ahead of B. -/
structure RfM (B : Nat) (w : World) (p : Nat) (v : Value) (g : Sm) : Prop where
  ok : SmOk g
  blk : Blk w p 28 [v, .int .i64 g.dn]
  row : ∃ xs : List OrM, xs.map (·.e) = g.os ∧ w.ownsRow B 32 5 v g.os.length (flatO xs) ∧ ∀ x ∈ xs, OrLow B w x
  bp : B ≤ p
def FootN (p : Nat) (v : Value) (i : Nat) : Prop := i = p ∨ v.ownBlock = some i
section
variable {B : Nat} {w w' : World} {p : Nat} {v : Value} {g : Sm}
theorem RfM.turned {F : Nat → Prop} (h : RfM B w p v g) (ht : Turns F w w') (hd : ∀ i, FootN p v i → ¬ F i) (hF : ∀ i, F i → B ≤ i) : RfM B w' p v g := by
  obtain ⟨xs, h1, h2, h3⟩ := h.row
  exact ⟨h.ok, ht.blk h.blk (hd p (.inl rfl)), ⟨xs, h1, ht.row h2 (fun k hk => hd k (.inr hk)), fun x hx => (h3 x hx).turned hF ht⟩, h.bp⟩
theorem RfM.below (h : RfM B w p v g) (hb : Below w.heap.size w w') : RfM B w' p v g := h.turned (F := fun _ => False) (Turns.of_below hb (Nat.le_refl _)) (fun _ _ h => h) (fun _ h => h.elim)
theorem RfM.lt (h : RfM B w p v g) : ∀ i, FootN p v i → i < w.heap.size := by
  obtain ⟨xs, h1, h2, h3⟩ := h.row
  rintro i (rfl | hi)
  · exact h.blk.lt
  · exact ownsRow_lt h2 hi
theorem RfM.base (h : RfM B w p v g) : ∀ i, FootN p v i → B ≤ i := by
  obtain ⟨xs, h1, h2, h3⟩ := h.row
  rintro i (rfl | hi)
  · exact h.bp
  · exact (h2.lt i hi).1
theorem RfM.rowAt (h : RfM B w p v g) : ∃ xs ao cap, v = .slice ao g.os.length cap ∧ g.os.length ≤ cap ∧ xs.map OrM.e = g.os ∧ HeldOr w ao xs ∧ ∀ x ∈ xs, OrLow B w x := by
  obtain ⟨xs, h1, h2, h3⟩ := h.row
  have hl : xs.length = g.os.length := by rw [← h1]; simp
  obtain ⟨ao, cap, hv, hc, hh⟩ := heldOr_of_own hl h2
  exact ⟨xs, ao, cap, hv, hc, h1, hh, h3⟩
end
set_option maxRecDepth 1000000 in
set_option maxHeartbeats 2000000 in
theorem RfM.epoch {B : Nat} {w : World} {p : Nat} {v : Value} {g : Sm} (h : RfM B w p v g) (c : ByteArray) : Calls Try.prog 21 #[.pointer (some ⟨p, 0, none⟩), .string c] w fun e w' => e = .returned (.int .i64 (cntO c g.os)) ∧ w' = w := by
  obtain ⟨ys, ao, cap, hv, _, hy1, hyh, _⟩ := h.rowAt
  have a0 := h.blk.cell (i := 0) rfl
  subst hv
  obtain ⟨N, HNN⟩ : ∃ N, Hid (g.os.length = N) := ⟨_, hid rfl⟩
  have HYL : Hid (ys.length = N) := by rw [← HNN.out, ← hy1]; show _ = _; simp
  have HFE : Hid (N ≤ 65536) := by rw [← HNN.out]; exact h.ok.few
  have HY1 := hid hy1
  have HH := hid hyh
  rw [HNN.out] at a0
  clear h hy1 hyh
  go_enter Try.func21, Try.ntmps21
  go_wp2
  go_loop [5, 6] (fun cn i => ∃ j : Nat, ∃ z : Nat, j ≤ N ∧ z ≤ j ∧ i = .int .i64 j ∧ cn = .int .i64 z ∧ Hid (cntO c (g.os.take j) = z)) (fun _ i => N - (intOf i).toNat)
  case atStart => exact ⟨0, 0, Nat.zero_le _, Nat.le_refl _, rfl, rfl, rfl⟩
  case round =>
    obtain ⟨j, z, hj, hzj, rfl, rfl, HCT⟩ := hrel
    by_cases hjl : j < N
    · have hjl' : (j : Int) < (N : Int) := by omega
      have hjx : Hid (j < ys.length) := (by rw [HYL.out]; exact hjl : j < ys.length)
      have HJG : Hid (j < g.os.length) := (by rw [HNN.out]; exact hjl : j < g.os.length)
      have HJM : Hid (j + 1 ≤ N ∧ z + 1 ≤ j + 1) := (by omega : j + 1 ≤ N ∧ z + 1 ≤ j + 1)
      have HZM : Hid (z ≤ j + 1) := (by omega : z ≤ j + 1)
      obtain ⟨bb, off, hro, hbb, _, _, g2, _, _⟩ := HH.out.at hjx.out
      have HGE : Hid (g.os[j]'HJG.out = (ys[j]'hjx.out).e) := by
        show _ = _
        have := HY1.out
        simp only [← this]
        simp
      have HCS : Hid (cntO c (g.os.take (j + 1)) = z + (if (ys[j]'hjx.out).e.cart = c then 1 else 0)) := by show _ = _; rw [or_take HJG.out, cntO_snoc, HCT.out, HGE.out]
      subst hro
      obtain ⟨ct, HX⟩ : ∃ X, Hid ((ys[j]'hjx.out).e.cart = X) := ⟨_, hid rfl⟩
      rw [HX.out] at g2 HCS
      have hw1 : wrap64 ((j : Int) + 1) = (j : Int) + 1 := wrapJ (Nat.le_trans hj HFE.out)
      clear hbb
      by_cases hcc : ct = c
      · subst hcc
        have hw2 : wrap64 ((z : Int) + 1) = (z : Int) + 1 := wrapJ (Nat.le_trans hzj (Nat.le_trans hj HFE.out))
        rw [if_pos rfl] at HCS
        go_wp2
        go_round
        case rel => exact ⟨j + 1, z + 1, HJM.out.1, HJM.out.2, by go_num, by go_num, HCS.out⟩
        case measure => first | exact measW HJM.out.1 hw1 | exact meas1 HJM.out.1
      · have hb2 : (ct.toList == c.toList) = false := beq_eq_false_iff_ne.2 fun hh => hcc (bytes_injC hh)
        have hb3 : ¬ ct.toList = c.toList := fun hh => hcc (bytes_injC hh)
        rw [if_neg hcc] at HCS
        clear hcc
        go_wp2
        go_round
        case rel => exact ⟨j + 1, z, HJM.out.1, HZM.out, by go_num, rfl, HCS.out⟩
        case measure => first | exact measW HJM.out.1 hw1 | exact meas1 HJM.out.1
    · have hjl' : ¬ (j : Int) < (N : Int) := by omega
      have HCE : Hid (cntO c g.os = z) := by
        have := HCT.out
        rw [show j = g.os.length by rw [HNN.out]; omega, List.take_length] at this
        exact this
      go_wp2
      go_ret
      exact ⟨by rw [HCE.out]; rfl, rfl⟩
/-- What the document's Token and Get answer: cuts ahead of B. -/
def GotLow (B : Nat) (w : World) (f : Option Or) (e : Ending) (w' : World) : Prop := ∃ bo cp, e = .returned (.tuple #[OrM.val ⟨f.getD zeroOr, bo, cp⟩, .bool f.isSome]) ∧ HV w' bo cp (f.getD zeroOr).cut ∧ (∀ b off, bo = some ⟨b, off, none⟩ → (f.getD zeroOr).cut ≠ [] → b < B) ∧ Below w.heap.size w w'
theorem gotLow_none {B : Nat} {w w' : World} (hb : Below w.heap.size w w') : GotLow B w none (.returned (.tuple #[.agg #[.int .i64 0, .string ⟨#[]⟩, .string ⟨#[]⟩, .int .i64 0, .slice none 0 0], .bool false])) w' := ⟨none, 0, rfl, hv_nilS _, fun b off e => (by cases e), hb⟩
theorem gotLow_some {B : Nat} {w w' W : World} {x : OrM} {pb XN : Nat} (hx : OrLow B W x) (hB : B ≤ pb) (hn : x.e.cut.length = XN) (ht : Turns (fun i => i = pb) W w') (hb : Below w.heap.size w w') : GotLow B w (some x.e) (.returned (.tuple #[.agg #[.int .i64 x.e.id, .string x.e.tok, .string x.e.cart, .int .i64 x.e.ep, .slice x.ao XN x.cap], .bool true])) w' := by
  subst hn
  have h1 := hx.turned (fun i hi => by omega) ht
  exact ⟨x.ao, x.cap, rfl, h1.ok.cut, h1.low, hb⟩
set_option maxRecDepth 1000000 in
set_option maxHeartbeats 2000000 in
theorem RfM.token {B : Nat} {w : World} {p : Nat} {v : Value} {g : Sm} (h : RfM B w p v g) (hB : B ≤ w.heap.size) (t : ByteArray) : Calls Try.prog 17 #[.pointer (some ⟨p, 0, none⟩), .string t] w (GotLow B w (findO t g.os)) := by
  obtain ⟨W, hW⟩ : ∃ W, W = w.alloc (.cells #[.int .i64 0, .string ⟨#[]⟩, .string ⟨#[]⟩, .int .i64 0, .slice none 0 0] 32) := ⟨_, rfl⟩
  have HB : Hid (Below w.heap.size w W) := by rw [hW]; exact (Below.refl _ _).alloc (Nat.le_refl _) _
  have HR : Hid (Blk W w.heap.size 32 [.int .i64 0, .string ⟨#[]⟩, .string ⟨#[]⟩, .int .i64 0, .slice none 0 0]) := by rw [hW]; exact Blk.new w _ _
  have HW := hid hW
  obtain ⟨pb, hp⟩ : ∃ q, q = w.heap.size := ⟨_, rfl⟩
  have HP := hid hp
  have HPB : Hid (B ≤ pb) := by rw [hp]; exact hB
  have HS := hid (h.below HB.out)
  obtain ⟨ys, ao, cap, hv, _, hy1, hyh, hyl⟩ := HS.out.rowAt
  have a0 := HS.out.blk.cell (i := 0) rfl
  subst hv
  obtain ⟨N, HNN⟩ : ∃ N, Hid (g.os.length = N) := ⟨_, hid rfl⟩
  have HYL : Hid (ys.length = N) := by rw [← HNN.out, ← hy1]; show _ = _; simp
  have HFE : Hid (N ≤ 65536) := by rw [← HNN.out]; exact h.ok.few
  have HY1 := hid hy1
  have HH := hid hyh
  have HYW := hid hyl
  rw [HNN.out] at a0
  have hr7 := HR.out
  rw [← hp] at hr7
  have HR7 := hid hr7
  clear h hB hW hp hy1 hyh hyl hr7
  go_enter Try.func17, Try.ntmps17
  go_wp2
  rw [← HW.out, ← HP.out]
  go_loop [6] (fun i => ∃ j : Nat, j ≤ N ∧ i = .int .i64 j ∧ Hid (∀ a (ha : a < g.os.length), a < j → g.os[a].tok ≠ t)) (fun i => N - (intOf i).toNat)
  case atStart => exact ⟨0, Nat.zero_le _, rfl, fun a _ ha => absurd ha (Nat.not_lt_zero _)⟩
  case round =>
    obtain ⟨j, hj, rfl, HNO⟩ := hrel
    have hr7 := HR7.out
    by_cases hjl : j < N
    · have hjl' : (j : Int) < (N : Int) := by omega
      have hjx : Hid (j < ys.length) := (by rw [HYL.out]; exact hjl : j < ys.length)
      have HJG : Hid (j < g.os.length) := (by rw [HNN.out]; exact hjl : j < g.os.length)
      have HJM : Hid (j + 1 ≤ N) := (by omega : j + 1 ≤ N)
      obtain ⟨bb, off, hro, hbb, g0, g1, g2, g3, g4⟩ := HH.out.at hjx.out
      have HGE : Hid (g.os[j]'HJG.out = (ys[j]'hjx.out).e) := by
        show _ = _
        have := HY1.out
        simp only [← this]
        simp
      have HLO := hid (HYW.out _ (List.getElem_mem hjx.out))
      have HTT : Hid ((ys[j]'hjx.out).e.tok = t → findO t g.os = some (ys[j]'hjx.out).e) := fun ht => by
        have h1 := find_at HS.out.ok HJG.out
        rw [HGE.out, ht] at h1
        exact h1
      have HTN : Hid ((ys[j]'hjx.out).e.tok ≠ t → ∀ a (ha : a < g.os.length), a < j + 1 → g.os[a].tok ≠ t) := fun hn a ha haj => by
        by_cases e : a = j
        · subst e
          rw [HGE.out]
          exact hn
        · exact HNO.out a ha (by omega)
      subst hro
      obtain ⟨X, HX⟩ : ∃ X, Hid (ys[j]'hjx.out = X) := ⟨_, hid rfl⟩
      rw [HX.out] at g0 g1 g2 g3 g4 HLO HTT HTN
      obtain ⟨⟨xid, tk, ct, ep, dp⟩, ao1, cap1⟩ := X
      obtain ⟨XN, HXN⟩ : ∃ m, Hid (dp.length = m) := ⟨_, hid rfl⟩
      simp only at g0 g1 g2 g3 g4 HTT HTN
      rw [HXN.out] at g4
      have hw1 : wrap64 ((j : Int) + 1) = (j : Int) + 1 := wrapJ (Nat.le_trans hj HFE.out)
      clear hbb
      by_cases hcc : tk = t
      · subst hcc
        rw [HTT.out rfl]
        have r0 := hr7.cell (i := 0) rfl
        have r1 := hr7.cell (i := 1) rfl
        have r2 := hr7.cell (i := 2) rfl
        have r3 := hr7.cell (i := 3) rfl
        have r4 := hr7.cell (i := 4) rfl
        have q0 := hr7.frozen 0
        have q1 := hr7.frozen 1
        have q2 := hr7.frozen 2
        have q3 := hr7.frozen 3
        have q4 := hr7.frozen 4
        obtain ⟨W3, hW3⟩ : ∃ V, V = st5 W pb (.int .i64 xid) (.string tk) (.string ct) (.int .i64 ep) (.slice ao1 XN cap1) := ⟨_, rfl⟩
        have hk9 : Blk W3 pb 32 [.int .i64 xid, .string tk, .string ct, .int .i64 ep, .slice ao1 XN cap1] := by rw [hW3]; exact st5_blk hr7 _ _ _ _ _
        have HT9 : Hid (Turns (fun i => i = pb) W W3) := by rw [hW3]; exact st5_turns _ _ _ _ _ _ _
        have k0 := hk9.cell (i := 0) rfl
        have k1 := hk9.cell (i := 1) rfl
        have k2 := hk9.cell (i := 2) rfl
        have k3 := hk9.cell (i := 3) rfl
        have k4 := hk9.cell (i := 4) rfl
        have HBF : Hid (Below w.heap.size w W3) := HB.out.trans (HT9.out.below (fun i hi => by rw [hi, HP.out]; exact Nat.le_refl _) HB.out.size)
        have HPO := hid (gotLow_some (w := w) (x := ⟨⟨xid, tk, ct, ep, dp⟩, ao1, cap1⟩) HLO.out HPB.out HXN.out HT9.out HBF.out)
        clear hr7 hk9
        go_wp2
        unfold st5 at hW3
        rw [← hW3]
        (try simp only [Exit.inBlock, Exit.then])
        refine bodyPost_ret (v := .tuple #[.agg #[.int .i64 xid, .string tk, .string ct, .int .i64 ep, .slice ao1 XN cap1], .bool true]) ?_ rfl (HPO.out)
        rw [results_cell_tmp rfl]
        go_simp
      · have hb2 : (tk.toList == t.toList) = false := beq_eq_false_iff_ne.2 fun hh => hcc (bytes_injC hh)
        have hb3 : ¬ tk.toList = t.toList := fun hh => hcc (bytes_injC hh)
        have HNX := hid (HTN.out hcc)
        clear hcc
        go_wp2
        go_round
        case rel => exact ⟨j + 1, HJM.out, by go_num, HNX.out⟩
        case measure => first | exact measW HJM.out hw1 | exact meas1 HJM.out
    · have hjl' : ¬ (j : Int) < (N : Int) := by omega
      have HFN : Hid (findO t g.os = none) := by
        cases hf : findO t g.os with
        | none => exact rfl
        | some o =>
          obtain ⟨hm, ht⟩ := findO_mem hf
          obtain ⟨a, ha, rfl⟩ := List.mem_iff_getElem.1 hm
          exact absurd ht (HNO.out a ha (by have := HNN.out; omega))
      rw [HFN.out]
      have r0 := hr7.cell (i := 0) rfl
      have r1 := hr7.cell (i := 1) rfl
      have r2 := hr7.cell (i := 2) rfl
      have r3 := hr7.cell (i := 3) rfl
      have r4 := hr7.cell (i := 4) rfl
      have q0 := hr7.frozen 0
      have q1 := hr7.frozen 1
      have q2 := hr7.frozen 2
      have q3 := hr7.frozen 3
      have q4 := hr7.frozen 4
      obtain ⟨W3, hW3⟩ : ∃ V, V = st5 W pb (.int .i64 0) (.string ⟨#[]⟩) (.string ⟨#[]⟩) (.int .i64 0) (.slice none 0 0) := ⟨_, rfl⟩
      have hk9 : Blk W3 pb 32 [.int .i64 0, .string ⟨#[]⟩, .string ⟨#[]⟩, .int .i64 0, .slice none 0 0] := by rw [hW3]; exact st5_blk hr7 _ _ _ _ _
      have HT9 : Hid (Turns (fun i => i = pb) W W3) := by rw [hW3]; exact st5_turns _ _ _ _ _ _ _
      have k0 := hk9.cell (i := 0) rfl
      have k1 := hk9.cell (i := 1) rfl
      have k2 := hk9.cell (i := 2) rfl
      have k3 := hk9.cell (i := 3) rfl
      have k4 := hk9.cell (i := 4) rfl
      have HBF : Hid (Below w.heap.size w W3) := HB.out.trans (HT9.out.below (fun i hi => by rw [hi, HP.out]; exact Nat.le_refl _) HB.out.size)
      clear hr7 hk9
      go_wp2
      unfold st5 at hW3
      rw [← hW3]
      (try simp only [Exit.inBlock, Exit.then])
      refine bodyPost_ret (v := .tuple #[.agg #[.int .i64 0, .string ⟨#[]⟩, .string ⟨#[]⟩, .int .i64 0, .slice none 0 0], .bool false]) ?_ rfl (by rw [HFN.out]; exact gotLow_none HBF.out)
      rw [results_cell_tmp rfl]
      go_simp
set_option maxRecDepth 1000000 in
set_option maxHeartbeats 2000000 in
theorem RfM.get {B : Nat} {w : World} {p : Nat} {v : Value} {g : Sm} (h : RfM B w p v g) (hB : B ≤ w.heap.size) (id : Int) : Calls Try.prog 19 #[.pointer (some ⟨p, 0, none⟩), .int .i64 id] w (GotLow B w (getO g id)) := by
  obtain ⟨W, hW⟩ : ∃ W, W = w.alloc (.cells #[.int .i64 0, .string ⟨#[]⟩, .string ⟨#[]⟩, .int .i64 0, .slice none 0 0] 32) := ⟨_, rfl⟩
  have HB : Hid (Below w.heap.size w W) := by rw [hW]; exact (Below.refl _ _).alloc (Nat.le_refl _) _
  have HR : Hid (Blk W w.heap.size 32 [.int .i64 0, .string ⟨#[]⟩, .string ⟨#[]⟩, .int .i64 0, .slice none 0 0]) := by rw [hW]; exact Blk.new w _ _
  have HW := hid hW
  obtain ⟨pb, hp⟩ : ∃ q, q = w.heap.size := ⟨_, rfl⟩
  have HP := hid hp
  have HPB : Hid (B ≤ pb) := by rw [hp]; exact hB
  have HS := hid (h.below HB.out)
  obtain ⟨ys, ao, cap, hv, _, hy1, hyh, hyl⟩ := HS.out.rowAt
  have a0 := HS.out.blk.cell (i := 0) rfl
  subst hv
  obtain ⟨N, HNN⟩ : ∃ N, Hid (g.os.length = N) := ⟨_, hid rfl⟩
  have HYL : Hid (ys.length = N) := by rw [← HNN.out, ← hy1]; show _ = _; simp
  have HFE : Hid (N ≤ 65536) := by rw [← HNN.out]; exact h.ok.few
  have HY1 := hid hy1
  have HH := hid hyh
  have HYW := hid hyl
  rw [HNN.out] at a0
  have hr7 := HR.out
  rw [← hp] at hr7
  have HBW := hid hB
  have HLW := hid h
  clear hy1 hyh hyl hr7
  have HNONE : Hid (getO g id = none → GotLow B w (getO g id) (.returned (.tuple #[.agg #[.int .i64 0, .string ⟨#[]⟩, .string ⟨#[]⟩, .int .i64 0, .slice none 0 0], .bool false])) W) := fun hg => by rw [hg]; exact gotLow_none HB.out
  have r0 := HR.out.cell (i := 0) rfl
  have r1 := HR.out.cell (i := 1) rfl
  have r2 := HR.out.cell (i := 2) rfl
  have r3 := HR.out.cell (i := 3) rfl
  have r4 := HR.out.cell (i := 4) rfl
  rw [← hp] at r0 r1 r2 r3 r4
  by_cases h1 : id < 1
  · have HG := hid (HNONE.out (getO_none (.inl h1)))
    clear h hB hW hp a0
    go_enter Try.func19, Try.ntmps19
    go_wp2
    rw [← HW.out, ← HP.out]
    (try simp only [Exit.inBlock, Exit.then])
    refine bodyPost_ret (v := .tuple #[.agg #[.int .i64 0, .string ⟨#[]⟩, .string ⟨#[]⟩, .int .i64 0, .slice none 0 0], .bool false]) ?_ rfl HG.out
    rw [results_cell_tmp rfl]
    go_simp
  by_cases h2 : (N : Int) < id
  · have HG := hid (HNONE.out (getO_none (.inr (by rw [HNN.out]; exact h2))))
    rw [hW] at a0
    clear h hB hW hp
    go_enter Try.func19, Try.ntmps19
    go_wp2
    rw [← HW.out, ← HP.out]
    (try simp only [Exit.inBlock, Exit.then])
    refine bodyPost_ret (v := .tuple #[.agg #[.int .i64 0, .string ⟨#[]⟩, .string ⟨#[]⟩, .int .i64 0, .slice none 0 0], .bool false]) ?_ rfl HG.out
    rw [results_cell_tmp rfl]
    go_simp
  obtain ⟨k, rfl⟩ : ∃ k : Nat, id = (k : Int) + 1 := ⟨(id - 1).toNat, by omega⟩
  have hkx : Hid (k < ys.length) := by rw [HYL.out]; show _ < _; omega
  have HKG : Hid (k < g.os.length) := by rw [HNN.out]; show _ < _; omega
  have HG : Hid (getO g ((k : Int) + 1) = some (ys[k]'hkx.out).e) := by
    show _ = _
    rw [getO_at HKG.out]
    congr 1
    have := HY1.out
    simp only [← this]
    simp
  obtain ⟨bb, off, hao, hbb, g0, g1, g2, g3, g4⟩ := HH.out.at hkx.out
  have HOX := hid (HYW.out _ (List.getElem_mem hkx.out))
  subst hao
  obtain ⟨X, HX⟩ : ∃ X, Hid (ys[k]'hkx.out = X) := ⟨_, hid rfl⟩
  rw [HX.out] at g0 g1 g2 g3 g4 HOX HG
  have hsub : wrap64 (k : Int) = (k : Int) := by have := HFE.out; exact wrapO (by omega) (by omega)
  obtain ⟨⟨xid, tk, ct, ep, dp⟩, ao1, cap1⟩ := X
  obtain ⟨XN, HXN⟩ : ∃ m, Hid (dp.length = m) := ⟨_, hid rfl⟩
  simp only at g0 g1 g2 g3 g4
  rw [HXN.out] at g4
  have hlt : k < N := by omega
  obtain ⟨W3, hW3⟩ : ∃ V, V = w.alloc (.cells #[.int .i64 xid, .string tk, .string ct, .int .i64 ep, .slice ao1 XN cap1] 32) := ⟨_, rfl⟩
  have HBF : Hid (Below w.heap.size w W3) := by rw [hW3]; exact (Below.refl _ _).alloc (Nat.le_refl _) _
  have hk9 : Blk W3 pb 32 [.int .i64 xid, .string tk, .string ct, .int .i64 ep, .slice ao1 XN cap1] := by rw [hW3, hp]; exact Blk.new _ _ _
  have k0 := hk9.cell (i := 0) rfl
  have k1 := hk9.cell (i := 1) rfl
  have k2 := hk9.cell (i := 2) rfl
  have k3 := hk9.cell (i := 3) rfl
  have k4 := hk9.cell (i := 4) rfl
  have HT9 : Hid (Turns (fun i => i = pb) W W3) := ⟨by rw [hW3, hW]; rfl, by rw [hW3, hW]; rfl, by rw [hW3, hW]; rfl, by rw [hW3, hW]; simp, fun i hi hne => by
    rw [hW] at hi
    have hi' : i < w.heap.size := by simp at hi; omega
    rw [hW3, hW, Below.heap_alloc _ _ i hi', Below.heap_alloc _ _ i hi']⟩
  have HPO := hid (gotLow_some (w := w) (x := ⟨⟨xid, tk, ct, ep, dp⟩, ao1, cap1⟩) HOX.out HPB.out HXN.out HT9.out HBF.out)
  have HW3 := hid hW3
  rw [hW] at a0 g0 g1 g2 g3 g4
  clear h1 h2 hbb h hB hW hp hW3 hk9 r0 r1 r2 r3 r4
  have h1 : ¬ (k : Int) + 1 < 1 := by omega
  have h2 : ¬ (N : Int) < (k : Int) + 1 := by omega
  go_enter Try.func19, Try.ntmps19
  go_wp2
  rw [← HW3.out, ← HP.out]
  (try simp only [Exit.inBlock, Exit.then])
  refine bodyPost_ret (v := .tuple #[.agg #[.int .i64 xid, .string tk, .string ct, .int .i64 ep, .slice ao1 XN cap1], .bool true]) ?_ rfl (by rw [HG.out]; exact HPO.out)
  rw [results_cell_tmp rfl]
  go_simp
end Go.Proofs.Ytfokmldfnkonpaa
