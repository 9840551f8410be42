/-
  pannierlaw05.ClockBounds answers true at every input.
-/
import Derived.Test.YtpbhboecpgdgaaaClkK
import Derived.Test.YtpbhboecpgdgaaaClkJ
import Derived.Deep.QuietTactic
import Derived.BigQuiet
namespace Go.Proofs.Ytpbhboecpgdgaaa
open Go.RowKit Go.Maps

theorem ClkAt.two {w : World} {p g cap : Nat} {time need : Int} (h : ClkAt w p g cap (List.replicate 2 0) time need) : ClkAt w p g cap [0, 0] time need := h

theorem tmod_range (x : Int) {m : Int} (h : 0 < m) : -m < x.tmod m ∧ x.tmod m < m := by
  refine ⟨?_, Int.tmod_lt_of_pos x h⟩
  by_cases hx : 0 ≤ x
  · rw [Int.tmod_eq_emod_of_nonneg hx]
    have := Int.emod_nonneg x (by omega : m ≠ 0)
    omega
  · have h1 : x = -(-x) := by omega
    rw [h1, Int.neg_tmod]
    have := Int.tmod_lt_of_pos (-x) h
    omega
theorem ints_get {xs : List Int} {j : Nat} (h : j < xs.length) : (ints xs)[j]? = some (.int .i64 (xs.getD j 0)) := by
  simp [ints, List.getD, List.getElem?_eq_getElem h]
theorem bound_facts {r t a : Int} (h : (0 ≤ t ∧ 0 ≤ a) ∧ Keeps1 t a r) (h0 : 0 ≤ r) (h1 : r ≤ 999) (ht : t < 1099511627776) :
    wrap64 (1000 * a) = 1000 * a ∧ wrap64 ((1000 - r) * t) = (1000 - r) * t ∧ wrap64 ((1000 + r) * t) = (1000 + r) * t ∧ ¬ 1000 * a < (1000 - r) * t ∧ ¬ (1000 + r) * t < 1000 * a := by
  obtain ⟨⟨t0, a0⟩, k1, k2⟩ := h
  have p1 : 0 ≤ (1000 - r) * t := Int.mul_nonneg (by omega) t0
  have p2 : (1000 - r) * t ≤ 1000 * t := Int.mul_le_mul_of_nonneg_right (by omega) t0
  have p3 : 0 ≤ (1000 + r) * t := Int.mul_nonneg (by omega) t0
  have p4 : (1000 + r) * t ≤ 1999 * t := Int.mul_le_mul_of_nonneg_right (by omega) t0
  exact ⟨wrapS (by omega) (by omega), wrapS (by omega) (by omega), wrapS (by omega) (by omega), by omega, by omega⟩

set_option maxRecDepth 100000 in
theorem bounds_bad (ao : Option Addr) (cap n : Nat) (r frm : Int) (w : World) (hbad : r < 0 ∨ 999 < r) :
    Calls Try.prog 4 #[.slice ao n cap, .int .i64 r, .int .i64 frm] w fun e w' => e = .returned (.bool true) ∧ Below w.heap.size w w' := by
  have HK : Hid (∀ need, decide ((0 ≤ r ∧ r ≤ 999) ∧ need ≤ r) = false) := (fun need => decide_eq_false (by omega) : ∀ need, decide ((0 ≤ r ∧ r ≤ 999) ∧ need ≤ r) = false)
  by_cases h0 : r < 0
  · clear hbad
    go_enter Try.func4, Try.ntmps4
    go_wp2_with fail
    refine (new_good w 2 (by decide)).mono ?_
    rintro e w1 ⟨rfl, hc, hb1⟩
    have HC := hid hc
    have HB1 := hid hb1
    clear hc hb1
    go_wp2_with fail
    refine (lives_any _).mono ?_
    rintro e w2 ⟨rfl, hb2⟩
    have HK2 := hid (keepsC_any (HC.out.below hb2 (Nat.le_refl _)) r)
    have HB2 : Hid (Below w.heap.size w w2) := HB1.out.trans (hb2.mono HB1.out.size)
    rw [HK.out] at HK2
    clear hb2
    go_wp2_with fail
    refine HK2.out.mono ?_
    rintro e w' ⟨rfl, rfl⟩
    go_wp2
    go_ret
    exact ⟨rfl, HB2.out⟩
  · have h1 : 999 < r := by omega
    clear hbad
    go_enter Try.func4, Try.ntmps4
    go_wp2_with fail
    refine (new_good w 2 (by decide)).mono ?_
    rintro e w1 ⟨rfl, hc, hb1⟩
    have HC := hid hc
    have HB1 := hid hb1
    clear hc hb1
    go_wp2_with fail
    refine (lives_any _).mono ?_
    rintro e w2 ⟨rfl, hb2⟩
    have HK2 := hid (keepsC_any (HC.out.below hb2 (Nat.le_refl _)) r)
    have HB2 : Hid (Below w.heap.size w w2) := HB1.out.trans (hb2.mono HB1.out.size)
    rw [HK.out] at HK2
    clear hb2
    go_wp2_with fail
    refine HK2.out.mono ?_
    rintro e w' ⟨rfl, rfl⟩
    go_wp2
    go_ret
    exact ⟨rfl, HB2.out⟩

set_option maxRecDepth 100000 in
set_option maxHeartbeats 4000000 in
theorem bounds_good (ao : Option Addr) (cap : Nat) (tk : List TickV) (r frm : Int) (w : World) (ho : HeldTk w ao tk) (hb : tk.length ≤ 4398046511104) (hi : ∀ t ∈ tk, t.on.length ≤ 17592186044416) (h0 : ¬ r < 0) (h1 : ¬ 999 < r) (hfr : -9223372036854775808 ≤ frm ∧ frm ≤ 9223372036854775807) :
    Calls Try.prog 4 #[.slice ao tk.length cap, .int .i64 r, .int .i64 frm] w fun e w' => e = .returned (.bool true) ∧ Below w.heap.size w w' := by
  have HO := hid ho
  have HI := hid hi
  have HF := hid hfr
  obtain ⟨n, hn⟩ : ∃ n, n = tk.length := ⟨_, rfl⟩
  have HN := hid hn
  rw [← hn] at hb ⊢
  clear ho hi hn hfr
  have h0b : decide (r < 0) = false := by simp; omega
  have h1b : decide (999 < r) = false := by simp; omega
  obtain ⟨iI, hj, hy0, hy1, hy2⟩ := info_parts Try.infoInt
  go_enter Try.func4, Try.ntmps4
  go_wp2_with fail
  refine (new_good w 2 (by decide)).mono ?_
  rintro e w1 ⟨rfl, hc, hb1⟩
  obtain ⟨p, hp⟩ : ∃ p, p = w.heap.size + 1 := ⟨_, rfl⟩
  obtain ⟨g, hg⟩ : ∃ g, g = w.heap.size := ⟨_, rfl⟩
  rw [← hp]
  rw [← hp, ← hg] at hc
  have HC := hid hc.two
  have HB1 := hid hb1
  have HPG : Hid (w.heap.size ≤ p ∧ w.heap.size ≤ g) := (by omega : w.heap.size ≤ p ∧ w.heap.size ≤ g)
  clear hc hb1 hp hg
  go_wp2_with fail
  refine (lives_any _).mono ?_
  rintro e w2 ⟨rfl, hb2⟩
  obtain ⟨B0, hB0⟩ : ∃ B0, B0 = w2.heap.size := ⟨_, rfl⟩
  have HP : Hid ((w.heap.size ≤ p ∧ w.heap.size ≤ g) ∧ p < B0 ∧ g < B0) := (by have h3 := HC.out.lt; have h4 := hb2.size; have h5 := HPG.out; omega : (w.heap.size ≤ p ∧ w.heap.size ≤ g) ∧ p < B0 ∧ g < B0)
  have HS : Hid (BS r p g B0 w w2 (.slice none 0 0) (.slice none 0 0) [] [] 2 0 0 0 0 ∧ B0 ≤ w2.heap.size ∧ w.heap.size ≤ B0) :=
    ⟨⟨HC.out.below hb2 (Nat.le_refl _), HB1.out.trans (hb2.mono HB1.out.size), World.ownsRow_nil _ _ _ _, World.ownsRow_nil _ _ _ _, fun i h => (by cases h), Chain.nil _ _ _, by omega, fun x hx => (by cases hx), fun x hx => (by cases hx)⟩, by omega, by have h3 := HB1.out.size; have h4 := hb2.size; omega⟩
  clear hb2 hB0 HC HB1 HPG
  go_wp2
  go_loopg [9, 10, 11] n (fun gg s9 s10 s11 wr => ∃ (k : Nat) (ts cs : List Int) (cp : Nat) (n0 n1 T need : Int), k ≤ n ∧ n - k ≤ gg ∧ ts.length ≤ k ∧ s11 = .int .i64 k ∧ Hid (BS r p g B0 w wr s9 s10 ts cs cp n0 n1 T need ∧ B0 ≤ wr.heap.size ∧ w.heap.size ≤ B0))
  case atStart => exact ⟨0, [], [], 2, 0, 0, 0, 0, by omega, by omega, by simp, rfl, HS⟩
  case round =>
    obtain ⟨k, ts, cs, cp, n0, n1, T, need, hk, hgg, htk, rfl, HS1⟩ := hrel
    by_cases hlt : k < n
    · have hlt' : (k : Int) < (n : Int) := by omega
      have hkx : Hid (k < tk.length) := (by have := HN.out; omega : k < tk.length)
      obtain ⟨b, off, rfl, hbw⟩ := HO.out.at hkx.out
      obtain ⟨X, hX⟩ : ∃ X, X = tk[k]'hkx.out := ⟨_, rfl⟩
      have HOL : Hid (X.on.length ≤ 17592186044416) := hX ▸ HI.out _ (List.getElem_mem hkx.out)
      have HG : Hid (∀ W, Below w.heap.size w W → W.cell? ⟨b, off + k * 2, none⟩ = some (.int .i64 X.time) ∧ W.cell? ⟨b, off + k * 2 + 1, none⟩ = some (.slice X.ao X.on.length X.cap) ∧ HeldInt W X.ao X.on ∧ (∀ b' off', X.ao = some ⟨b', off', none⟩ → X.on ≠ [] → b' < w.heap.size) ∧ In64 X.time) := by
        intro W hW
        rw [hX]
        exact HO.out.get hW hkx.out
      clear hX
      obtain ⟨x0, x1, hhe, _, _⟩ := HG.out wr HS1.out.1.bel
      have HKP := hid (fun (q : Nat) => keeps_any (wr.drewN q) X.time X.ao X.cap X.on r ⟨hhe.1, hhe.2⟩ (by have := HOL.out; omega))
      have HTK : Hid (KeepsAll X.time X.on r → ∀ q, Calls Try.prog 12 #[.pointer (some ⟨p, 0, none⟩), .int .i64 X.time, .slice X.ao X.on.length X.cap] (wr.drewN q) fun e w' => ∃ z m0 m1 T' need' : Int, e = .returned (.int .i64 z) ∧ BS r p g B0 w w' u9 u10 ts cs cp m0 m1 T' need' ∧ wr.heap.size ≤ w'.heap.size) := by
        intro hk q
        obtain ⟨_, _, hhe, hap, _⟩ := HG.out _ (HS1.out.1.drewN q).bel
        exact (HS1.out.1.drewN q).tick HP.out hk _ _ hhe (by have := HOL.out; omega) hap
      clear hhe
      go_upto_region 11 with fail
      go_cut [72] from 40 to 82 (fun s wx => ∃ (B : Bool) (m0 m1 T' need' : Int), s = .bool B ∧ Hid (BS r p g B0 w wx u9 u10 ts cs cp m0 m1 T' need' ∧ B0 ≤ wx.heap.size ∧ w.heap.size ≤ B0))
      case first =>
        by_cases hkk : KeepsAll X.time X.on r
        · have HT3 := hid (HTK.out hkk)
          rw [decide_eq_true hkk] at HKP
          clear hkk HTK
          go_region_held3 (fun V => V.cell? ⟨b, off + k * 2, none⟩ = some (.int .i64 X.time) ∧ V.cell? ⟨b, off + k * 2 + 1, none⟩ = some (.slice X.ao X.on.length X.cap)) (first | (refine ⟨?_, ?_⟩ <;> assumption) | go_keep)
            (first | (go_at_call 14; refine (HKP.out _).mono ?_; rintro e w9 ⟨rfl, rfl⟩) | (go_at_call 12; refine (HT3.out _).mono ?_; rintro e w9 ⟨z, m0, m1, T', need', rfl, hts, hsz⟩; have HS5 : Hid (BS r p g B0 w w9 u9 u10 ts cs cp m0 m1 T' need' ∧ B0 ≤ w9.heap.size ∧ w.heap.size ≤ B0) := ⟨hts, Nat.le_trans HS1.out.2.1 hsz, HS1.out.2.2⟩; obtain ⟨y0, y1, _⟩ := HG.out _ hts.bel; clear hts hsz))
          all_goals
            go_wp2_with fail
            go_meet
            exact ⟨_, m0, m1, T', need', rfl, HS5⟩
        · rw [decide_eq_false hkk] at HKP
          clear hkk HTK
          go_quiet (first | (go_at_call 14; refine Calls.quiet_of_same (HKP.out _)))
          all_goals
            go_wp2_with fail
            go_meet
            exact ⟨_, n0, n1, T, need, rfl, HS1.out.1.drewN _, HS1.out.2⟩
      case rest =>
        obtain ⟨B, m0, m1, T', need', rfl, HS2⟩ := hcut
        clear HS1 HKP HTK x0 x1
        cases B with
        | false =>
          go_wp2_with fail
          go_roundg (n - (k + 1))
          case measure => omega
          case rel => exact ⟨k + 1, ts, cs, cp, m0, m1, T', need', by omega, by omega, by omega, by go_num, HS2⟩
        | true =>
          have HTI := hid (time_any HS2.out.1.clk)
          go_wp2_with fail
          refine HTI.out.mono ?_
          rintro e w' ⟨rfl, rfl⟩
          have hsz := HS2.out.2.1
          have HL2 := hid HS2.out.1.chain.len
          go_wp2_with (at_builtin; refine wpList_append_own_at _ rfl _ _ 31 rfl B0 3 iI (.int .i64 0) 1 8 Try.underlying31 hj hy0 hy1 hy2 rfl (by decide) _ _ _ rfl (HS2.out.1.r9.alloc _) ⟨w'.heap.size, 0, none⟩ 1 1 [.int .i64 T'] rfl rfl (cell_one_new _ _ _) (by simp [Value.oneCell']) (by unfold maxLen; omega) (by omega) (by simp; omega) ?_)
          intro v' w4 hown4 hgrow4 _ hat4
          have HP4 := hid (HS2.out.1.push1 HP.out.2 _ hown4 hgrow4 (by simpa using hat4) hsz HS2.out.2.2)
          have hsz4 : B0 ≤ w4.heap.size := by have := hgrow4.size; simp at this; omega
          clear hown4 hgrow4 hat4
          have HNW := hid (now_any HP4.out.1 1)
          rw [nowOf_1] at HNW
          go_wp2_with fail
          refine HNW.out.mono ?_
          rintro e w5 ⟨rfl, rfl⟩
          go_wp2_with (at_builtin; refine wpList_append_own_at _ rfl _ _ 31 rfl B0 3 iI (.int .i64 0) 1 8 Try.underlying31 hj hy0 hy1 hy2 rfl (by decide) _ _ _ rfl (HP4.out.2.2.2.1.alloc _) ⟨w5.heap.size, 0, none⟩ 1 1 [.int .i64 m1] rfl rfl (cell_one_new _ _ _) (by simp [Value.oneCell']) (by have := HL2.out; unfold maxLen; omega) (by have := HL2.out; omega) (by simp; omega) ?_)
          intro v'' w6 hown6 hgrow6 _ hat6
          have HS6 : Hid (BS r p g B0 w w6 v' v'' (ts ++ [T']) (cs ++ [m1]) cp m0 m1 T' need' ∧ B0 ≤ w6.heap.size ∧ w.heap.size ≤ B0) := ⟨HS2.out.1.push2 HP.out.2 HP4.out _ hown6 hgrow6 (by simpa using hat6) hsz4 HS2.out.2.2, by have := hgrow6.size; simp at this; omega, HS2.out.2.2⟩
          clear hown6 hgrow6 hat6
          go_wp2_with fail
          go_roundg (n - (k + 1))
          case measure => omega
          case rel => exact ⟨k + 1, ts ++ [T'], cs ++ [m1], cp, m0, m1, T', need', by omega, by omega, by simp; omega, by go_num, HS6⟩
    · have hlt' : ¬ (k : Int) < (n : Int) := by omega
      have HKC := hid (keepsC_any HS1.out.1.clk r)
      have hkt : decide ((0 ≤ r ∧ r ≤ 999) ∧ need ≤ r) = true := decide_eq_true ⟨by omega, HS1.out.1.need_le⟩
      rw [hkt] at HKC
      clear hkt
      go_wp2_with fail
      refine HKC.out.mono ?_
      rintro e w' ⟨rfl, rfl⟩
      obtain ⟨ro, rc, hu9, _, hcells9⟩ := own_form HS1.out.1.r9
      obtain ⟨co, cc, hu10, _, hcells10⟩ := own_form HS1.out.1.r10
      have HC9 := hid hcells9
      have HC10 := hid hcells10
      have HCH := hid HS1.out.1.chain
      have HF9 := hid HS1.out.1.f9
      have HF10 := hid HS1.out.1.f10
      have HBE := hid HS1.out.1.bel
      rw [hu9, hu10]
      obtain ⟨m, hm⟩ : ∃ m, m = ts.length := ⟨_, rfl⟩
      rw [← hm] at htk ⊢
      rw [← HCH.out.len, ← hm]
      have HM := hid hm
      clear hcells9 hcells10 hu9 hu10 HS1 HKC hm
      by_cases hm0 : m = 0
      · have hmb : ((m : Int) == 0) = true := by simp [hm0]
        go_wp2
        go_ret
        exact ⟨rfl, HBE.out⟩
      · have hmb : ((m : Int) == 0) = false := by simp [hm0]
        have hmp : (0 : Int) < (m : Int) := by omega
        have HTM := hid (tmod_range frm hmp)
        go_upto_if 95 with fail
        go_cut [12] from 83 to 152 (fun s wx => ∃ κ : Nat, κ < m ∧ s = .int .i64 κ ∧ wx = w')
        case first =>
          by_cases hneg : frm.tmod (m : Int) < 0
          · have hwk : wrap64 (frm.tmod (m : Int) + (m : Int)) = frm.tmod (m : Int) + (m : Int) := wrapS (by have := HTM.out; omega) (by have := HTM.out; omega)
            go_wp2_with fail
            go_meet
            exact ⟨(frm.tmod (m : Int) + (m : Int)).toNat, by have := HTM.out; omega, by have h5 := HTM.out; rw [Int.toNat_of_nonneg (by omega)]; first | rfl | rw [hwk], rfl⟩
          · go_wp2_with fail
            go_meet
            exact ⟨(frm.tmod (m : Int)).toNat, by have := HTM.out; omega, by rw [Int.toNat_of_nonneg (by omega)], rfl⟩
        case rest =>
          obtain ⟨κ, hκ, rfl, rfl⟩ := hcut
          clear HTM
          obtain ⟨gr, rfl, _, _, hcr⟩ := HC9.out (by have := HM.out; omega)
          obtain ⟨gc, rfl, _, _, hcc⟩ := HC10.out (by have := HM.out; have := HCH.out.len; omega)
          have HCR : Hid (∀ j, j < m → wc.cell? ⟨gr, j, none⟩ = some (.int .i64 (ts.getD j 0))) := (fun j hj => hcr j _ (ints_get (by have := HM.out; omega)) : ∀ j, j < m → wc.cell? ⟨gr, j, none⟩ = some (.int .i64 (ts.getD j 0)))
          have HCC : Hid (∀ j, j < m → wc.cell? ⟨gc, j, none⟩ = some (.int .i64 (cs.getD j 0))) := (fun j hj => hcc j _ (ints_get (by have := HM.out; have := HCH.out.len; omega)) : ∀ j, j < m → wc.cell? ⟨gc, j, none⟩ = some (.int .i64 (cs.getD j 0)))
          clear hcr hcc HC9 HC10
          go_wp2
          go_loopg [13, 14, 15] m (fun gg s13 _ _ wr => ∃ i q : Nat, κ ≤ i ∧ i ≤ m ∧ m - i ≤ gg ∧ s13 = .int .i64 i ∧ wr = wc.drewN q)
          case atStart => exact ⟨κ, 0, by omega, by omega, by omega, rfl, rfl⟩
          case round =>
            obtain ⟨i, q, hi1, hi2, hi3, rfl, rfl⟩ := hrel
            by_cases hlt2 : i < m
            · have hlt2' : (i : Int) < (m : Int) := by omega
              have hκ' : (κ : Int) < (m : Int) := by omega
              have c0 := HCR.out i hlt2
              have c1 := HCR.out κ hκ
              have c2 := HCC.out i hlt2
              have c3 := HCC.out κ hκ
              have HTW := hid (HCH.out.two κ i hi1 (by have := HM.out; omega))
              have e0 := HF9.out _ (getD_mem (show i < ts.length by have := HM.out; omega))
              have e1 := HF9.out _ (getD_mem (show κ < ts.length by have := HM.out; omega))
              have e2 := HF10.out _ (getD_mem (show i < cs.length by have := HM.out; have := HCH.out.len; omega))
              have e3 := HF10.out _ (getD_mem (show κ < cs.length by have := HM.out; have := HCH.out.len; omega))
              generalize ts.getD i 0 = X0 at *
              generalize ts.getD κ 0 = X1 at *
              generalize cs.getD i 0 = X2 at *
              generalize cs.getD κ 0 = X3 at *
              obtain ⟨t, hte⟩ : ∃ t, t = X0 - X1 := ⟨_, rfl⟩
              obtain ⟨a, hae⟩ : ∃ a, a = X2 - X3 := ⟨_, rfl⟩
              have hwt : wrap64 (X0 - X1) = t := by rw [hte]; exact wrap_sub e0 e1
              have hwa : wrap64 (X2 - X3) = a := by rw [hae]; exact wrap_sub e2 e3
              rw [← hte, ← hae] at HTW
              have ht0 : ¬ t < 0 := by have := HTW.out.1.1; omega
              have ha0 : ¬ a < 0 := by have := HTW.out.1.2; omega
              clear e0 e1 e2 e3 hte hae
              go_upto_region 23 with fail
              go_quiet (fail)
              by_cases htl : t < 1099511627776
              · have g1 : ¬ wrap64 (1000 * a) < wrap64 ((1000 - r) * t) := by
                  obtain ⟨w1, w2, _, q1, _⟩ := bound_facts HTW.out (by omega) (by omega) htl
                  rw [w1, w2]
                  exact q1
                have g2 : ¬ wrap64 ((1000 + r) * t) < wrap64 (1000 * a) := by
                  obtain ⟨w1, _, w3, _, q2⟩ := bound_facts HTW.out (by omega) (by omega) htl
                  rw [w1, w3]
                  exact q2
                go_wp2_with fail
                go_roundg (m - (i + 1))
                case measure => omega
                case rel => exact ⟨i + 1, _, by omega, by omega, by omega, by go_num, rfl⟩
              · have htl' : decide (t < 1099511627776) = false := by simp; omega
                go_wp2_with fail
                go_roundg (m - (i + 1))
                case measure => omega
                case rel => exact ⟨i + 1, _, by omega, by omega, by omega, by go_num, rfl⟩
            · have hlt2' : ¬ (i : Int) < (m : Int) := by omega
              go_wp2
              go_ret
              exact ⟨rfl, below_dn HBE.out _⟩

theorem clockBounds_walk (ao : Option Addr) (cap : Nat) (tk : List TickV) (r frm : Int) (w : World) (ho : HeldTk w ao tk) (hb : tk.length ≤ 4398046511104) (hi : ∀ t ∈ tk, t.on.length ≤ 17592186044416) (_ : -9223372036854775808 ≤ r ∧ r ≤ 9223372036854775807) (hfr : -9223372036854775808 ≤ frm ∧ frm ≤ 9223372036854775807) :
    Calls Try.prog 4 #[.slice ao tk.length cap, .int .i64 r, .int .i64 frm] w fun e w' => e = .returned (.bool true) ∧ Below w.heap.size w w' := by
  by_cases hbad : r < 0 ∨ 999 < r
  · exact bounds_bad ao cap tk.length r frm w hbad
  · exact bounds_good ao cap tk r frm w ho hb hi (fun h => hbad (.inl h)) (fun h => hbad (.inr h)) hfr
end Go.Proofs.Ytpbhboecpgdgaaa
